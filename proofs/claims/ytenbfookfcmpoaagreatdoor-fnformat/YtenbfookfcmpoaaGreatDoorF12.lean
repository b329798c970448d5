import Derived.Test.YtenbfookfcmpoaaGreatDoorF04
namespace Go.Proofs.YtenbfookfcmpoaaGreatDoor
open Go.ChangeShapes Go.WideShapes Go.RowKit
set_option maxHeartbeats 1000000 in
set_option maxRecDepth 100000 in
theorem largeOf_any(m:Nat)(hm53:m≤9007199254740992)(w:World):Calls Tryz.prog 61 #[.int .u64 (m:Int)] w fun e w'=>∃c,c≤2∧cntOk c m∧e=.returned (lgV c m)∧Below w.heap.size w w':=by
 have hm0:0*1+m=m:=by omega
 have hz:=lg_zero
 rw[dg_nil]at hz
 obtain⟨C,hC⟩:∃C,blk 0 (dg 0) []=C:=⟨_,rfl⟩
 have HC:Hid (blk 0 (dg 0) []=C):=hC
 rw[hC]at hz
 clear hC
 obtain⟨W,hW⟩:∃W,(w.alloc (.cells C 115)).alloc (.cells C 115)=W:=⟨_,rfl⟩
 have HW:Hid ((w.alloc (.cells C 115)).alloc (.cells C 115)=W):=hW
 go_enter Tryz.func61,Tryz.ntmps61
 go_wp2_with fail
 have HA:Hid (LB W w.heap.size 0 (dg 0) [] 115):=by
  have h:=((LB.new w 0 (dg 0) [] 115).alloc (.cells C 115))
  rw[HC.out]at h;rw[←HW.out];exact h
 have HB:Hid (Lg W (w.heap.size+1) 0 [] 115):=by
  refine⟨0,by omega,cnt_zero,?_⟩
  have h:=LB.new (w.alloc (.cells C 115)) 0 (dg 0) [] 115
  rw[HC.out]at h
  rw[←HW.out,show w.heap.size+1=(w.alloc (.cells C 115)).heap.size by simp]
  exact h
 have HM:Hid (Below w.heap.size w W):=by rw[←HW.out];exact((Below.refl _ w).alloc (Nat.le_refl _) _).alloc (by simp) _
 clear hW hz
 refine(mul_any (w.heap.size+1) 0 1 m [] 115 W HB.out (by omega) (by omega) hm53 (Nat.lt_of_lt_of_le (by rw[be_eq];omega:0*1+m<be ^ 2) (bpow_le (by omega)))).mono ?_
 rintro e w1 ⟨rfl,hm,hg⟩
 have HA1:Hid (LB w1 w.heap.size 0 (dg 0) [] 115):=HA.out.other hm (by omega)
 obtain⟨c,hc,hk,hl⟩:=hg
 rw[hm0]at hl hk
 have hc2:c≤2:=cnt_le hk (by rw[be_eq];omega)
 have HCK:Hid (cntOk c m):=hk
 have HM1:Hid (Below w.heap.size w (w1.setRow w.heap.size (lgL c (dg m)).toArray)):=by
  have h1:=(Mod.refl w.heap.size w1).setRow (lgL c (dg m)).toArray
  exact(HM.out.trans (hm.below (by omega) HM.out.size)).trans (h1.below (Nat.le_refl _) (Nat.le_trans HM.out.size hm.size))
 have HS:Hid (LB (w1.setRow w.heap.size (lgL c (dg m)).toArray) w.heap.size c (dg m) [] 115):=HA1.out.stored
 have HL:Hid (LB w1 (w.heap.size+1) c (dg m) [] 115):=hl
 have hst:=HA1.out.cells c (dg m)
 have hln:=lgL_length c (dg m)
 clear hm hl hk hc
 go_wp2
 refine HL.out.wpLoad _ rfl rfl ?_
 go_at_K
 go_wp2
 obtain⟨d,hd,hr⟩:=lg_desc
 have hs:=HS.out
 unfold LB at hs
 rw[←blk_nil]at hs
 refine bodyPost_ret (v:=lgV c m) (results_cell_row (P:=Tryz.prog) rfl _ _ w.heap.size _ (lgL c (dg m)).toArray (0,0) d rfl hs hd (by cases d<;>simp_all [TypeDesc.isRow]) (by rw[List.size_toArray,lgL_length];exact lg_size)) rfl ?_
 exact⟨c,hc2,HCK.out,rfl,HM1.out⟩
end Go.Proofs.YtenbfookfcmpoaaGreatDoor
