import Derived.Test.YtenbfookfcmpoaaGreatDoorF01
namespace Go.Proofs.YtenbfookfcmpoaaGreatDoor
open Go.ChangeShapes Go.WideShapes Go.RowKit
theorem lgL_one(c:Nat)(f:Nat→Nat):∀v∈lgL c f,v.oneCell'=true:=by
 intro v hv
 unfold lgL at hv
 rcases List.mem_cons.1 hv with rfl|hv
 ·rfl
 ·obtain⟨i,_,rfl⟩:=List.mem_map.1 hv;rfl
theorem lg_desc:∃d,Tryz.prog.underlying 115=some d∧d.isRow=true:=⟨_,Tryz.underlying115,rfl⟩
theorem lg_size:(Tryz.prog.info? 115).map (·.size)=some 152:=by kernel_rfl
theorem lg_zero(w:World):(zeroValue 115).run Tryz.prog w=.ok (.agg (blk 0 (fun _=>0) [])) w:=
 (zero_of_info (P:=Tryz.prog) (t:=115) (v:=.agg (blk 0 (fun _=>0) [])) (n:=152) (by kernel_rfl)).1 w
theorem LB.range{w:World}{B c:Nat}{f:Nat→Nat}{R:List Value}{t:TypeId}(h:LB w B c f R t):w.rangeAt B 0 (lgL c f):=by
 intro j v hv
 have hj:=(List.getElem?_eq_some_iff.1 hv).1
 rw[Nat.zero_add,cell_of_heap h]
 unfold blk
 rw[List.getElem?_toArray,List.getElem?_append_left hj];exact hv
theorem LB.rangeAll{w:World}{B c:Nat}{f:Nat→Nat}{R:List Value}{t:TypeId}(h:LB w B c f R t):w.rangeAt B 0 (lgL c f++R):=by
 intro j v hv
 rw[Nat.zero_add,cell_of_heap h]
 unfold blk
 rw[List.getElem?_toArray];exact hv
theorem blk_one(c:Nat)(f:Nat→Nat)(x:Value)(hx:x.oneCell'=true):(blk c f [x]).all (·.oneCell')=true:=by
 refine all_oneCell_toArray fun v hv=>?_
 rcases List.mem_append.1 hv with h|h
 ·exact lgL_one c f v h
 ·rw[List.mem_singleton.1 h];exact hx
theorem store_cells{w:World}{g:Nat}{t:TypeId}{old:Array Value}{vs:List Value}(hg:w.heap[g]? = some (.cells old t (0,0)))(ho:vs.length=old.size)(h1:∀v∈vs,v.oneCell'=true) :
  (storeCells ⟨g,0,none⟩ vs).run Tryz.prog w=.ok () (w.setRow g vs.toArray):=by
 have:=run_storeCells_from (P:=Tryz.prog) g t vs 0 old w hg (by omega) h1
 simpa using this
theorem LB.cells{w:World}{B c:Nat}{f:Nat→Nat}{t:TypeId}(h:LB w B c f [] t)(c':Nat)(f':Nat→Nat) :
  (storeCells ⟨B,0,none⟩ (lgL c' f')).run Tryz.prog w=.ok () (w.setRow B (lgL c' f').toArray):=
 store_cells h (by rw[lgL_length,blk_size];rfl) (lgL_one c' f')
theorem LB.wpLoad{w:World}{B c:Nat}{f:Nat→Nat}{R:List Value}{t:TypeId}(h:LB w B c f R t){op:Oper}{a:Act}{K:Act→World→Prop}{Q:Exit→Act→World→Prop}(x:Operand)(ho:op.op=.load 115 x)
  (hx:a.eval x=.pointer (some ⟨B,0,none⟩)) (hk:K (a.put op.dst (.agg (lgL c f).toArray)) w):op.wp Tryz.prog a w K Q:=by
 obtain⟨d,hd,hr⟩:=lg_desc
 exact wp_load_mid 115 x ho B 0 hx (lgL c f) d h.range hd hr (by rw[lgL_length];exact lg_size) hk
theorem blk_nil(c:Nat)(f:Nat→Nat):(lgL c f).toArray=blk c f []:=by unfold blk;rw[List.append_nil]
theorem LB.stored{w:World}{B c c':Nat}{f f':Nat→Nat}{t:TypeId}(h:LB w B c f [] t):LB (w.setRow B (lgL c' f').toArray) B c' f' [] t:=by
 unfold LB;rw[blk_nil];exact setRow_heap w B _ _ t (0,0) h
theorem LB.storedNum{w:World}{B c c':Nat}{f f':Nat→Nat}{R R':List Value}{t:TypeId}(h:LB w B c f R t):LB (w.setRow B (blk c' f' R')) B c' f' R' t:=setRow_heap w B _ _ t (0,0) h
theorem Mod.setRow{B:Nat}{a w:World}(h:Mod B a w)(cs:Array Value):Mod B a (w.setRow B cs):=
 h.trans ⟨rfl,rfl,rfl,by simp,fun k _ hk=>setRow_other w B k cs hk⟩
theorem cnt_same{c c' N:Nat}(h:cntOk c N)(h':cntOk c' N):c=c':=Nat.le_antisymm (cnt_le h h'.1) (cnt_le h' h.1)
theorem dg_nil:(fun _:Nat=>0)=dg 0:=by funext i;unfold dg;rw[Nat.zero_div,Nat.zero_mod]
set_option maxHeartbeats 1000000 in
set_option maxRecDepth 100000 in
theorem largeOf_one(w:World):Calls Tryz.prog 61 #[.int .u64 1] w fun e w'=>e=.returned (lgV 1 1)∧Below w.heap.size w w':=by
 have hz:=lg_zero
 rw[dg_nil]at hz
 obtain⟨C,hC⟩:∃C,blk 0 (dg 0) []=C:=⟨_,rfl⟩
 have HC:Hid (blk 0 (dg 0) []=C):=hC
 rw[hC]at hz
 clear hC
 obtain⟨W,hW⟩:∃W,(w.alloc (.cells C 115)).alloc (.cells C 115)=W:=⟨_,rfl⟩
 have HW:Hid ((w.alloc (.cells C 115)).alloc (.cells C 115)=W):=hW
 go_enter Tryz.func61,Tryz.ntmps61
 go_wp2_with fail
 have HA:Hid (LB W w.heap.size 0 (dg 0) [] 115):=by
  have h:=((LB.new w 0 (dg 0) [] 115).alloc (.cells C 115))
  rw[HC.out]at h;rw[←HW.out];exact h
 have HB:Hid (Lg W (w.heap.size+1) 0 [] 115):=by
  refine⟨0,by omega,cnt_zero,?_⟩
  have h:=LB.new (w.alloc (.cells C 115)) 0 (dg 0) [] 115
  rw[HC.out]at h
  rw[←HW.out,show w.heap.size+1=(w.alloc (.cells C 115)).heap.size by simp]
  exact h
 have HM:Hid (Below w.heap.size w W):=by rw[←HW.out];exact((Below.refl _ w).alloc (Nat.le_refl _) _).alloc (by simp) _
 clear hW hz
 refine(mul_any (w.heap.size+1) 0 1 1 [] 115 W HB.out (by omega) (by omega) (by omega) (Nat.lt_of_lt_of_le (by rw[be_eq];omega:0*1+1<be ^ 1) (bpow_le (by omega)))).mono ?_
 rintro e w1 ⟨rfl,hm,hg⟩
 have HA1:Hid (LB w1 w.heap.size 0 (dg 0) [] 115):=HA.out.other hm (by omega)
 obtain⟨c,hc,hk,hl⟩:=hg
 obtain rfl:c=1:=cnt_same hk ⟨by rw[be_eq];omega,fun _=>by rw[Nat.sub_self,Nat.pow_zero];omega⟩
 rw[show 0*1+1=1 from rfl]at hl
 have HM1:Hid (Below w.heap.size w (w1.setRow w.heap.size (lgL 1 (dg 1)).toArray)):=by
  have h1:=(Mod.refl w.heap.size w1).setRow (lgL 1 (dg 1)).toArray
  exact(HM.out.trans (hm.below (by omega) HM.out.size)).trans (h1.below (Nat.le_refl _) (Nat.le_trans HM.out.size hm.size))
 have HS:Hid (LB (w1.setRow w.heap.size (lgL 1 (dg 1)).toArray) w.heap.size 1 (dg 1) [] 115):=HA1.out.stored
 have HL:Hid (LB w1 (w.heap.size+1) 1 (dg 1) [] 115):=hl
 have hst:=HA1.out.cells 1 (dg 1)
 have hln:=lgL_length 1 (dg 1)
 clear hm hl hk hc
 go_wp2
 refine HL.out.wpLoad _ rfl rfl ?_
 go_at_K
 go_wp2
 obtain⟨d,hd,hr⟩:=lg_desc
 have hs:=HS.out
 unfold LB at hs
 rw[←blk_nil]at hs
 refine bodyPost_ret (v:=lgV 1 1) (results_cell_row (P:=Tryz.prog) rfl _ _ w.heap.size _ (lgL 1 (dg 1)).toArray (0,0) d rfl hs hd (by cases d<;>simp_all [TypeDesc.isRow]) (by rw[List.size_toArray,lgL_length];exact lg_size)) rfl ?_
 exact⟨rfl,HM1.out⟩
end Go.Proofs.YtenbfookfcmpoaaGreatDoor
