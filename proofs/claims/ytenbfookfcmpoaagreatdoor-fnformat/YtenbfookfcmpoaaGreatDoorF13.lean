import Derived.Test.YtenbfookfcmpoaaGreatDoorF04
import Derived.Test.YtenbfookfcmpoaaGreatDoorF08
import Derived.Test.YtenbfookfcmpoaaGreatDoorF09
import Derived.Deep.CutRange
set_option maxHeartbeats 4000000
namespace Go.Proofs.YtenbfookfcmpoaaGreatDoor
open Go.ChangeShapes Go.WideShapes Go.RowKit
theorem num_desc:∃d,Tryz.prog.underlying 246=some d∧d.isRow=true:=⟨_,Tryz.underlying246,rfl⟩
theorem num_size:(Tryz.prog.info? 246).map (·.size)=some 153:=by kernel_rfl
theorem num_zero(w:World):(zeroValue 246).run Tryz.prog w=.ok (.agg (blk 0 (fun _=>0) [.int .i64 0])) w:=
 (zero_of_info (P:=Tryz.prog) (t:=246) (v:=.agg (blk 0 (fun _=>0) [.int .i64 0])) (n:=153) (by kernel_rfl)).1 w
theorem LB.wpLoadNum{w:World}{B c:Nat}{f:Nat→Nat}{z:Value}{t:TypeId}(h:LB w B c f [z] t){op:Oper}{a:Act}{K:Act→World→Prop}{Q:Exit→Act→World→Prop}(x:Operand)(ho:op.op=.load 246 x)
  (hx:a.eval x=.pointer (some ⟨B,0,none⟩)) (hk:K (a.put op.dst (.agg (blk c f [z]))) w):op.wp Tryz.prog a w K Q:=by
 obtain⟨d,hd,hr⟩:=num_desc
 exact wp_load_mid 246 x ho B 0 hx (lgL c f++[z]) d h.rangeAll hd hr (by rw[List.length_append,lgL_length];exact num_size) hk
theorem Mod.late{G B:Nat}{w a b:World}(h:Mod G w a)(k:Mod B a b)(hB:w.heap.size≤B):Mod G w b:=
 ⟨k.1.trans h.1,k.2.1.trans h.2.1,k.2.2.1.trans h.2.2.1,Nat.le_trans h.2.2.2.1 k.2.2.2.1,fun i hi hg=>(k.2.2.2.2 i (Nat.lt_of_lt_of_le hi h.2.2.2.1) (by omega)).trans (h.2.2.2.2 i hi hg)⟩
theorem LB.beh{w:World}{B c:Nat}{f:Nat→Nat}{x:Value}{t:TypeId}(h:LB w B c f [x] t):w.cell? ⟨B,152,none⟩=some x:=by
 rw[cell_of_heap h];exact blk_tail c f [x] 0
theorem LB.setb{w:World}{B c:Nat}{f:Nat→Nat}{x:Value}{t:TypeId}(h:LB w B c f [x] t)(y:Value):LB (w.setCell ⟨B,152,none⟩ y) B c f [y] t:=by
 unfold LB
 rw[setCell_eq_setRow w B 152 _ t (0,0) _ h,blk_setT]
 exact setRow_heap w B _ _ t (0,0) h
theorem dig_room(b:Nat)(l:List UInt8)(d:Nat)(hb:b≤16)(hg:good (b:Int) l)(hl:l.length<1200)(hd:d<b):valN b l*b+d<be ^ 151:=by
 have h1:=valN_good_lt b l hg
 have h2:valN b l*b+d<b ^ (l.length+1):=by
  rw[Nat.pow_succ]
  have:(valN b l+1)*b≤b ^ l.length*b:=Nat.mul_le_mul_right _ h1
  rw[Nat.succ_mul]at this
  omega
 have h3:b ^ (l.length+1)≤16 ^ (l.length+1):=Nat.pow_le_pow_left hb _
 obtain⟨n,hn⟩:∃n:Nat,n=151:=⟨_,rfl⟩
 have h4:16 ^ (l.length+1)≤be ^ n:=by
  rw[be_two,show(16:Nat)=2 ^ 4 from rfl,←Nat.pow_mul]
  exact Nat.pow_le_pow_right (by omega) (by omega)
 rw[hn]at h4
 omega
theorem res_dig(tmps:Array Value)(w:World)(R:Nat)(t:TypeId)(cs:Array Value)(v:Value)(hp:tmps.getD 4 undef=.pointer (some ⟨R,0,none⟩))(h5:tmps.getD 5 undef=v)(hg:w.heap[R]? = some (.cells cs t (0,0)))(hi:cs.size=153) :
  (results Tryz.f150 tmps).run Tryz.prog w=.ok (.tuple #[.agg cs,v]) w:=by
 obtain⟨d,hd,hr⟩:=num_desc
 have hp':tmps[4]?.getD undef=.pointer (some ⟨R,0,none⟩):=by simpa using hp
 have h5':tmps[5]?.getD undef=v:=by simpa using h5
 have hl:=run_loadVar_row (P:=Tryz.prog) w R t 246 cs (0,0) d hg hd (by cases d<;>simp_all [TypeDesc.isRow]) (by rw[hi];exact num_size)
 simp[results,Tryz.results150,hp',h5',asAddr,hl]
theorem zero_is:Tryz.zeroCells246=blk 0 (dg 0) [.int .i64 0]:=by rw[←dg_nil];kernel_rfl
theorem LB.cellsNum{w:World}{B c:Nat}{f:Nat→Nat}{x:Value}{t:TypeId}(h:LB w B c f [x] t)(cs:Array Value)(hs:cs.size=153)(h1:cs.all (·.oneCell')=true) :
  (storeCells ⟨B,0,none⟩ cs.toList).run Tryz.prog w=.ok () (w.setRow B cs):=by
 have:=store_cells (vs:=cs.toList) h (by rw[Array.length_toList,hs,blk_size];rfl) (fun v hv=>(Array.all_eq_true_iff_forall_mem.1 h1) v (by simpa using hv))
 simpa using this
structure DS2 (w wl:World) (G R:Nat) (s:ByteArray) (i N beh:Nat):Prop where
 rr:Rr wl G s i
 num:Lg wl (R+1) N [.int .i64 (beh:Int)] 246
 res:LB wl R 0 (dg 0) [.int .i64 0] 246
 mod:Mod G w wl
set_option maxRecDepth 100000 in
theorem digits_walk(b G k:Nat)(s:ByteArray)(w:World)(hb:b≤16)(hb1:2≤b)(h:Rr w G s k)(hk:k≤s.size)(hs:s.size≤1200) :
  Calls Tryz.prog 150 #[.pointer (some ⟨G,0,none⟩),.int .u64 (b:Int)] w fun e w'=>∃V beh r j c,DgR b s k V beh r j∧j≤s.size∧cntOk c V∧c≤151∧beh≤1200∧V<b ^ (s.size-k)∧e=.returned (.tuple #[.agg (blk c (dg V) [.int .i64 (beh:Int)]),errV r])∧Rr w' G s j∧Mod G w w':=by
 have hz:=num_zero
 rw[dg_nil]at hz
 obtain⟨C,hC⟩:∃C,blk 0 (dg 0) [.int .i64 0]=C:=⟨_,rfl⟩
 have HC:Hid (blk 0 (dg 0) [.int .i64 0]=C):=hC
 rw[hC]at hz
 obtain⟨R,hR⟩:∃R,w.heap.size=R:=⟨_,rfl⟩
 have HRR:Hid (w.heap.size=R):=hR
 obtain⟨W,hW⟩:∃W,(w.alloc (.cells C 246)).alloc (.cells C 246)=W:=⟨_,rfl⟩
 have H0:Hid (DS2 w W G R s k 0 0):=by
  refine⟨?_,⟨0,by omega,cnt_zero,?_⟩,?_,?_⟩
  ·rw[←hW];exact(h.alloc _).alloc _
  ·have h:=LB.new (w.alloc (.cells C 246)) 0 (dg 0) [.int .i64 0] 246
   rw[hC,hW,show(w.alloc (.cells C 246)).heap.size=R+1 by simp[hR]]at h;exact h
  ·have h:=(LB.new w 0 (dg 0) [.int .i64 0] 246).alloc (.cells C 246)
   rw[hC,hW,hR]at h;exact h
  ·rw[←hW];exact((Mod.refl G w).alloc _).alloc _
 have hGR:G<R:=by rw[←hR];exact h.lt
 clear h hC
 go_enter Tryz.func150,Tryz.ntmps150
 go_wp2_with fail
 go_step3
 go_wp2_with fail
 clear hW hz
 try go_step3
 try go_wp2_with fail
 go_loopw [7,8] (fun pv lv wl=>∃ (pt lack:Bool) (i beh:Nat) (l:List UInt8),pv=.bool pt∧lv=.bool lack∧i≤s.size∧Hid (St2 b s k pt i l beh lack)∧Hid (DS2 w wl G R s i (valN b l) beh)) (fun _ _ wl=>s.size-rrAt G wl)
 case atStart=>exact⟨false,true,k,0,[],rfl,rfl,hk,st2_start b s k,by show DS2 w W G R s k (valN b []) 0;rw[valN_nil];exact H0.out⟩
 case round=>
  obtain⟨pt,lack,i,beh,l,rfl,rfl,hi,HS,HD⟩:=hrel
  clear H0
  have htx:=HD.out.rr.txt
  have hat:=HD.out.rr.at_
  have hfr:=HD.out.rr.froz 1
  by_cases hlt:i<s.size
  ·have hlt':(i:Int)<(s.size:Int):=by omega
   have HDV:Hid _:=fun w=>implDigit_byte s[i] w
   have hd0:=digN_lo 36 (s[i].toNat:Int) (by omega)
   have hd1:=digN_hi 36 (s[i].toNat:Int) (by omega)
   have HDS:Hid _:=fun(_:Unit)=>digN_same 36 99 (s[i].toNat:Int) (b:Int) (by omega) (by omega)
   have HBA:Hid _:=fun(_:Unit)=>bAt_in s i hlt
   obtain⟨d,hd⟩:∃d:Nat,digN 36 (s[i].toNat:Int)=(d:Int):=⟨(digN 36 (s[i].toNat:Int)).toNat,by omega⟩
   rw[hd]at HDV hd0 hd1 HDS
   clear hd
   by_cases hdb:d<b
   ·have hdb':(d:Int)<(b:Int):=by omega
    have HDG:Hid (Dig b s i):=⟨hlt,by rw[HBA.out ()];exact(HDS.out ()).1.1 (by omega)⟩
    have HDN:Hid ((d:Int)=digN 99 (s[i].toNat:Int)):=(HDS.out ()).2 (by omega)
    obtain⟨l1,l2,l3,l4⟩:=st2_len HS.out hi
    have HMU:Hid (∀W':World,Lg W' (R+1) (valN b l) [.int .i64 (beh:Int)] 246→Calls Tryz.prog 98 #[.pointer (some ⟨R+1,0,none⟩),.int .u64 (b:Int),.int .u64 (d:Int)] W' fun e w''=>e=.returned (.tuple #[])∧Mod (R+1) W' w''∧Lg w'' (R+1) (valN b l*b+d) [.int .i64 (beh:Int)] 246):=
     fun W' h=>mul_any (R+1) (valN b l) b d _ _ W' h (by omega) (by omega) (by omega) (dig_room b l d hb l4 (by omega) hdb)
    have HVN:Hid (valN b (l++[s[i]])=valN b l*b+d):=valN_snoc b l s[i] d HDN.out
    have HSN:Hid _:=fun(_:Unit)=>st2_digit HS.out hlt HDG.out
    clear l2 l4 hdb
    cases pt
    ·go_wp2_with fail
     go_quiet (fail)
     go_wp2_with fail
     go_region_held3 (fun w'=>w'.cell? ⟨G,0,none⟩=some (.string s)∧w'.cell? ⟨G,1,none⟩=some (.int .i64 (i:Int))) (go_keep) (first|(go_at_call 142;refine(HDV.out _).mono ?_;rintro e w' ⟨rfl,rfl⟩))
     all_goals go_wp2_with fail
     refine(HMU.out _ (by exact HD.out.num)).mono ?_
     rintro e w2 ⟨rfl,hm,hg⟩
     have HR2:Hid (Rr w2 G s i):=Rr.other (w:=wr) HD.out.rr hm (by omega)
     have HN2:Hid (Lg w2 (R+1) (valN b l*b+d) [.int .i64 (beh:Int)] 246):=hg
     have HL2:Hid (LB w2 R 0 (dg 0) [.int .i64 0] 246):=LB.other (w:=wr) HD.out.res hm (by omega)
     have HM2:Hid (Mod G w w2):=Mod.late (a:=wr) HD.out.mod hm (by rw[HRR.out];omega)
     have hat2:=HR2.out.at_
     have hfr2:=HR2.out.froz 1
     clear hm hg htx hat hfr
     go_wp2_with fail
     have h1:=HR2.out.set (i+1)
     rw[show((i+1:Nat):Int)=(i:Int)+1 by omega]at h1
     refine⟨⟨_,_,i+1,_,l++[s[i]],rfl,rfl,by omega,HSN.out (),?_⟩,?_⟩
     ·have hm3:=(Mod.refl G w2).setCell 1 (.int .i64 ((i:Int)+1))
      refine⟨h1,?_,HL2.out.other hm3 (by omega),HM2.out.setCell _ _⟩
      rw[HVN.out]
      exact HN2.out.other hm3 (by omega)
     ·rw[rrAt_is HD.out.rr]
      exact Nat.lt_of_le_of_lt (Nat.le_of_eq (congrArg (s.size - ·) (rrAt_is h1))) (show s.size-(i+1)<s.size-i by omega)
    ·go_wp2_with fail
     go_quiet (fail)
     go_wp2_with fail
     go_region_held3 (fun w'=>w'.cell? ⟨G,0,none⟩=some (.string s)∧w'.cell? ⟨G,1,none⟩=some (.int .i64 (i:Int))) (go_keep) (first|(go_at_call 142;refine(HDV.out _).mono ?_;rintro e w' ⟨rfl,rfl⟩))
     all_goals go_wp2_with fail
     refine(HMU.out _ (by exact HD.out.num)).mono ?_
     rintro e w2 ⟨rfl,hm,hg⟩
     have HR2:Hid (Rr w2 G s i):=Rr.other (w:=wr) HD.out.rr hm (by omega)
     obtain⟨c2,hc2,hk2,hl2⟩:=hg
     have HK2:Hid (cntOk c2 (valN b l*b+d)):=hk2
     have HN2:Hid (LB w2 (R+1) c2 (dg (valN b l*b+d)) [.int .i64 (beh:Int)] 246):=hl2
     have HL2:Hid (LB w2 R 0 (dg 0) [.int .i64 0] 246):=LB.other (w:=wr) HD.out.res hm (by omega)
     have HM2:Hid (Mod G w w2):=Mod.late (a:=wr) HD.out.mod hm (by rw[HRR.out];omega)
     have hat2:=HR2.out.at_
     have hfr2:=HR2.out.froz 1
     have hbe2:=hl2.beh
     have hfb2:=hl2.froz 152
     have hne1:G≠R+1:=by omega
     have hne2:R+1≠G:=by omega
     have hbl:(beh:Int)≤1200:=by omega
     clear hm hl2 hk2 htx hat hfr
     go_wp2_with fail
     have h0:=HN2.out.setb (.int .i64 (((beh+1:Nat):Int)))
     have hm0:=(Mod.refl (R+1) w2).setCell 152 (.int .i64 (((beh+1:Nat):Int)))
     rw[show((beh+1:Nat):Int)=(beh:Int)+1 by omega]at h0 hm0
     have h1:=(HR2.out.other hm0 hne1).set (i+1)
     rw[show((i+1:Nat):Int)=(i:Int)+1 by omega]at h1
     have hm3:=(Mod.refl G (w2.setCell ⟨R+1,152,none⟩ (.int .i64 ((beh:Int)+1)))).setCell 1 (.int .i64 ((i:Int)+1))
     refine⟨⟨_,_,i+1,beh+1,l++[s[i]],rfl,rfl,by omega,HSN.out (),?_⟩,?_⟩
     ·refine⟨h1,?_,(HL2.out.other hm0 (by omega)).other hm3 (by omega),(HM2.out.late hm0 (by rw[HRR.out];omega)).setCell _ _⟩
      rw[HVN.out]
      exact⟨c2,hc2,HK2.out,by rw[show((beh+1:Nat):Int)=(beh:Int)+1 by omega];exact h0.other hm3 (by omega)⟩
     ·rw[rrAt_is HD.out.rr]
      exact Nat.lt_of_le_of_lt (Nat.le_of_eq (congrArg (s.size - ·) (rrAt_is h1))) (show s.size-(i+1)<s.size-i by omega)
   ·have hdb':decide (d<b)=false:=decide_eq_false (by omega)
    have HND:Hid (¬Dig b s i):=fun h=>by have h1:=h.2;rw[HBA.out ()]at h1;have h2:=(HDS.out ()).1.2 h1;omega
    have HSE:Hid (∀W':World,Rr W' G s i→Calls Tryz.prog 81 #[.pointer (some ⟨G,0,none⟩),.string ⟨#[46]⟩] W' fun e w''=>e=.returned (.bool (decide (bAt s i=46)))∧∃n,w''=W'.drewN n):=fun W' h=>by
     have h2:=pre_one s i 46 (by decide)
     have h3:=sees_any G i s ⟨#[46]⟩ W' h hi
     rw[h2]at h3;exact h3
    clear hdb
    by_cases hdot:bAt s i=46
    ·rw[decide_eq_true hdot]at HSE
     have HDT:Hid (bAt s i=46):=hdot
     clear hdot
     cases pt
     ·cases lack
      ·have HSP:Hid _:=fun(_:Unit)=>st2_point HS.out hlt (by omega) HDT.out
       go_wp2_with fail
       go_quiet (fail)
       go_wp2_with fail
       go_region_held3 (fun w'=>w'.cell? ⟨G,0,none⟩=some (.string s)∧w'.cell? ⟨G,1,none⟩=some (.int .i64 (i:Int))) (go_keep) (first|(go_at_call 142;refine(HDV.out _).mono ?_;rintro e w' ⟨rfl,rfl⟩))
       all_goals go_wp2_with fail
       refine(HSE.out _ (by exact HD.out.rr)).mono ?_
       rintro e w' ⟨rfl,n,rfl⟩
       go_wp2_with fail
       have hbe:beh=0:=by
        rcases HS.out with⟨_,_,_,_,h,_⟩|⟨h,_⟩
        ·exact h
        ·cases h
       have h1:=Rr.set (w:=wr.drewN (nq+1+n)) (show Rr _ G s i from HD.out.rr) (i+1)
       rw[show((i+1:Nat):Int)=(i:Int)+1 by omega]at h1
       have hm3:=(Mod.refl G (wr.drewN (nq+1+n))).setCell 1 (.int .i64 ((i:Int)+1))
       refine⟨⟨true,true,i+1,0,l,rfl,rfl,by omega,HSP.out (),?_⟩,?_⟩
       ·refine⟨h1,?_,LB.other (w:=wr.drewN (nq+1+n)) (show LB _ R _ _ _ _ from HD.out.res) hm3 (by omega),Mod.setCell (w:=wr.drewN (nq+1+n)) (show Mod G w _ from HD.out.mod) _ _⟩
        have h4:=HD.out.num
        rw[hbe]at h4
        exact Lg.other (w:=wr.drewN (nq+1+n)) (show Lg _ (R+1) _ _ _ from h4) hm3 (by omega)
       ·rw[rrAt_is HD.out.rr]
        exact Nat.lt_of_le_of_lt (Nat.le_of_eq (congrArg (s.size - ·) (rrAt_is h1))) (show s.size-(i+1)<s.size-i by omega)
      ·-- lacking,a point: an end
       go_wp2_with fail
       go_quiet (fail)
       go_wp2_with fail
       go_region_held3 (fun w'=>w'.cell? ⟨G,0,none⟩=some (.string s)∧w'.cell? ⟨G,1,none⟩=some (.int .i64 (i:Int))) (go_keep) (first|(go_at_call 142;refine(HDV.out _).mono ?_;rintro e w' ⟨rfl,rfl⟩))
       all_goals go_wp2_with fail
       refine(HSE.out _ (by exact HD.out.rr)).mono ?_
       rintro e w' ⟨rfl,n,rfl⟩
       go_wp2_with fail
       have HEN:Hid (DgR b s k 0 0 (some i) i):=(st2_end HS.out hi HND.out (fun x=>nomatch x.2.2)).1 rfl 0 0
       have HD5:Hid (DS2 w (wr.drewN (nq+1+n)) G R s i (valN b l) beh):=⟨HD.out.rr,HD.out.num,HD.out.res,HD.out.mod⟩
       generalize wr.drewN (nq+1+n)=w5 at *
       have hat5:=HD5.out.rr.at_
       have hat6:(w5.drew.setRow R Tryz.zeroCells246).cell? ⟨G,1,none⟩=some (.int .i64 (i:Int)):=(cell_setRow_other _ R _ ⟨G,1,none⟩ (show G≠R by omega)).trans hat5
       have hst5:=LB.cellsNum (w:=w5.drew) HD5.out.res Tryz.zeroCells246 (by rw[zero_is,blk_size];rfl) (by rw[zero_is];exact blk_one _ _ _ rfl)
       have hsz5:(Tryz.zeroCells246).size=153:=by rw[zero_is,blk_size];rfl
       clear htx hat hfr
       go_region
       all_goals go_wp2_with fail
       all_goals
        try rw[Exit.noGoto_ret]
        have hm6:=(Mod.refl R w5).setRow Tryz.zeroCells246
        refine bodyPost_ret (v:=.tuple #[.agg (blk 0 (dg 0) [.int .i64 0]),errV (some i)]) (res_dig _ _ R 246 _ _ rfl rfl (by rw[←zero_is];exact setRow_heap w5 R _ _ _ (0,0) HD5.out.res) (by rw[blk_size];rfl)) rfl ?_
        exact⟨0,0,some i,i,0,HEN.out,hi,cnt_zero,by omega,by omega,Nat.pow_pos (by omega),rfl,HD5.out.rr.other hm6 (by omega),HD5.out.mod.late hm6 (by rw[HRR.out];exact Nat.le_refl _)⟩
     ·cases lack
      ·go_wp2_with fail
       go_quiet (fail)
       go_wp2_with fail
       go_region_held3 (fun w'=>w'.cell? ⟨G,0,none⟩=some (.string s)∧w'.cell? ⟨G,1,none⟩=some (.int .i64 (i:Int))) (go_keep) (first|(go_at_call 142;refine(HDV.out _).mono ?_;rintro e w' ⟨rfl,rfl⟩))
       all_goals go_wp2_with fail
       refine(HSE.out _ (by exact HD.out.rr)).mono ?_
       rintro e w' ⟨rfl,n,rfl⟩
       go_wp2_with fail
       have HEN:Hid (DgR b s k (valN b l) beh none i):=(st2_end HS.out hi HND.out (fun x=>nomatch x.2.1)).2 rfl
       have HD5:Hid (DS2 w (wr.drewN (nq+1+n)) G R s i (valN b l) beh):=⟨HD.out.rr,HD.out.num,HD.out.res,HD.out.mod⟩
       generalize wr.drewN (nq+1+n)=w5 at *
       obtain⟨c5,hc5,hk5,hl5⟩:=HD5.out.num
       have HK5:Hid (cntOk c5 (valN b l)):=hk5
       have HL5:Hid (LB w5 (R+1) c5 (dg (valN b l)) [.int .i64 (beh:Int)] 246):=hl5
       have hst5:=LB.cellsNum (w:=w5) HD5.out.res (blk c5 (dg (valN b l)) [.int .i64 (beh:Int)]) (by rw[blk_size];rfl) (blk_one _ _ _ rfl)
       have hsz5:(blk c5 (dg (valN b l)) [.int .i64 (beh:Int)]).size=153:=by rw[blk_size];rfl
       clear htx hat hfr hk5 hl5
       refine HL5.out.wpLoadNum _ rfl rfl ?_
       go_at_K
       go_wp2_with fail
       try rw[Exit.noGoto_ret]
       have hm6:=(Mod.refl R w5).setRow (blk c5 (dg (valN b l)) [.int .i64 (beh:Int)])
       refine bodyPost_ret (v:=.tuple #[.agg (blk c5 (dg (valN b l)) [.int .i64 (beh:Int)]),errV none]) (res_dig _ _ R 246 _ _ rfl rfl (setRow_heap w5 R _ _ _ (0,0) HD5.out.res) hsz5) rfl ?_
       obtain⟨l1,l2,l3,l4⟩:=st2_len HS.out hi
       exact⟨valN b l,beh,none,i,c5,HEN.out,hi,HK5.out,hc5,by omega,Nat.lt_of_lt_of_le (valN_good_lt b l l4) (Nat.pow_le_pow_right (by omega) (by omega)),rfl,HD5.out.rr.other hm6 (by omega),HD5.out.mod.late hm6 (by rw[HRR.out];exact Nat.le_refl _)⟩
      ·go_wp2_with fail
       go_quiet (fail)
       go_wp2_with fail
       go_region_held3 (fun w'=>w'.cell? ⟨G,0,none⟩=some (.string s)∧w'.cell? ⟨G,1,none⟩=some (.int .i64 (i:Int))) (go_keep) (first|(go_at_call 142;refine(HDV.out _).mono ?_;rintro e w' ⟨rfl,rfl⟩))
       all_goals go_wp2_with fail
       refine(HSE.out _ (by exact HD.out.rr)).mono ?_
       rintro e w' ⟨rfl,n,rfl⟩
       go_wp2_with fail
       have HEN:Hid (DgR b s k 0 0 (some i) i):=(st2_end HS.out hi HND.out (fun x=>nomatch x.2.1)).1 rfl 0 0
       have HD5:Hid (DS2 w (wr.drewN (nq+1+n)) G R s i (valN b l) beh):=⟨HD.out.rr,HD.out.num,HD.out.res,HD.out.mod⟩
       generalize wr.drewN (nq+1+n)=w5 at *
       have hat5:=HD5.out.rr.at_
       have hat6:(w5.drew.setRow R Tryz.zeroCells246).cell? ⟨G,1,none⟩=some (.int .i64 (i:Int)):=(cell_setRow_other _ R _ ⟨G,1,none⟩ (show G≠R by omega)).trans hat5
       have hst5:=LB.cellsNum (w:=w5.drew) HD5.out.res Tryz.zeroCells246 (by rw[zero_is,blk_size];rfl) (by rw[zero_is];exact blk_one _ _ _ rfl)
       have hsz5:(Tryz.zeroCells246).size=153:=by rw[zero_is,blk_size];rfl
       clear htx hat hfr
       go_region
       all_goals go_wp2_with fail
       all_goals
        try rw[Exit.noGoto_ret]
        have hm6:=(Mod.refl R w5).setRow Tryz.zeroCells246
        refine bodyPost_ret (v:=.tuple #[.agg (blk 0 (dg 0) [.int .i64 0]),errV (some i)]) (res_dig _ _ R 246 _ _ rfl rfl (by rw[←zero_is];exact setRow_heap w5 R _ _ _ (0,0) HD5.out.res) (by rw[blk_size];rfl)) rfl ?_
        exact⟨0,0,some i,i,0,HEN.out,hi,cnt_zero,by omega,by omega,Nat.pow_pos (by omega),rfl,HD5.out.rr.other hm6 (by omega),HD5.out.mod.late hm6 (by rw[HRR.out];exact Nat.le_refl _)⟩
    ·rw[decide_eq_false hdot]at HSE
     have HDT:Hid (¬bAt s i=46):=hdot
     clear hdot
     cases lack
     ·go_wp2_with fail
      go_quiet (fail)
      go_wp2_with fail
      go_region_held3 (fun w'=>w'.cell? ⟨G,0,none⟩=some (.string s)∧w'.cell? ⟨G,1,none⟩=some (.int .i64 (i:Int))) (go_keep) (first|(go_at_call 142;refine(HDV.out _).mono ?_;rintro e w' ⟨rfl,rfl⟩))
      all_goals go_wp2_with fail
      refine(HSE.out _ (by exact HD.out.rr)).mono ?_
      rintro e w' ⟨rfl,n,rfl⟩
      go_wp2_with fail
      have HEN:Hid (DgR b s k (valN b l) beh none i):=(st2_end HS.out hi HND.out (fun x=>HDT.out x.1)).2 rfl
      have HD5:Hid (DS2 w (wr.drewN (nq+1+n)) G R s i (valN b l) beh):=⟨HD.out.rr,HD.out.num,HD.out.res,HD.out.mod⟩
      generalize wr.drewN (nq+1+n)=w5 at *
      obtain⟨c5,hc5,hk5,hl5⟩:=HD5.out.num
      have HK5:Hid (cntOk c5 (valN b l)):=hk5
      have HL5:Hid (LB w5 (R+1) c5 (dg (valN b l)) [.int .i64 (beh:Int)] 246):=hl5
      have hst5:=LB.cellsNum (w:=w5) HD5.out.res (blk c5 (dg (valN b l)) [.int .i64 (beh:Int)]) (by rw[blk_size];rfl) (blk_one _ _ _ rfl)
      have hsz5:(blk c5 (dg (valN b l)) [.int .i64 (beh:Int)]).size=153:=by rw[blk_size];rfl
      clear htx hat hfr hk5 hl5
      refine HL5.out.wpLoadNum _ rfl rfl ?_
      go_at_K
      go_wp2_with fail
      try rw[Exit.noGoto_ret]
      have hm6:=(Mod.refl R w5).setRow (blk c5 (dg (valN b l)) [.int .i64 (beh:Int)])
      refine bodyPost_ret (v:=.tuple #[.agg (blk c5 (dg (valN b l)) [.int .i64 (beh:Int)]),errV none]) (res_dig _ _ R 246 _ _ rfl rfl (setRow_heap w5 R _ _ _ (0,0) HD5.out.res) hsz5) rfl ?_
      obtain⟨l1,l2,l3,l4⟩:=st2_len HS.out hi
      exact⟨valN b l,beh,none,i,c5,HEN.out,hi,HK5.out,hc5,by omega,Nat.lt_of_lt_of_le (valN_good_lt b l l4) (Nat.pow_le_pow_right (by omega) (by omega)),rfl,HD5.out.rr.other hm6 (by omega),HD5.out.mod.late hm6 (by rw[HRR.out];exact Nat.le_refl _)⟩
     ·go_wp2_with fail
      go_quiet (fail)
      go_wp2_with fail
      go_region_held3 (fun w'=>w'.cell? ⟨G,0,none⟩=some (.string s)∧w'.cell? ⟨G,1,none⟩=some (.int .i64 (i:Int))) (go_keep) (first|(go_at_call 142;refine(HDV.out _).mono ?_;rintro e w' ⟨rfl,rfl⟩))
      all_goals go_wp2_with fail
      refine(HSE.out _ (by exact HD.out.rr)).mono ?_
      rintro e w' ⟨rfl,n,rfl⟩
      go_wp2_with fail
      have HEN:Hid (DgR b s k 0 0 (some i) i):=(st2_end HS.out hi HND.out (fun x=>HDT.out x.1)).1 rfl 0 0
      have HD5:Hid (DS2 w (wr.drewN (nq+1+n)) G R s i (valN b l) beh):=⟨HD.out.rr,HD.out.num,HD.out.res,HD.out.mod⟩
      generalize wr.drewN (nq+1+n)=w5 at *
      have hat5:=HD5.out.rr.at_
      have hat6:(w5.drew.setRow R Tryz.zeroCells246).cell? ⟨G,1,none⟩=some (.int .i64 (i:Int)):=(cell_setRow_other _ R _ ⟨G,1,none⟩ (show G≠R by omega)).trans hat5
      have hst5:=LB.cellsNum (w:=w5.drew) HD5.out.res Tryz.zeroCells246 (by rw[zero_is,blk_size];rfl) (by rw[zero_is];exact blk_one _ _ _ rfl)
      have hsz5:(Tryz.zeroCells246).size=153:=by rw[zero_is,blk_size];rfl
      clear htx hat hfr
      go_region
      all_goals go_wp2_with fail
      all_goals
       try rw[Exit.noGoto_ret]
       have hm6:=(Mod.refl R w5).setRow Tryz.zeroCells246
       refine bodyPost_ret (v:=.tuple #[.agg (blk 0 (dg 0) [.int .i64 0]),errV (some i)]) (res_dig _ _ R 246 _ _ rfl rfl (by rw[←zero_is];exact setRow_heap w5 R _ _ _ (0,0) HD5.out.res) (by rw[blk_size];rfl)) rfl ?_
       exact⟨0,0,some i,i,0,HEN.out,hi,cnt_zero,by omega,by omega,Nat.pow_pos (by omega),rfl,HD5.out.rr.other hm6 (by omega),HD5.out.mod.late hm6 (by rw[HRR.out];exact Nat.le_refl _)⟩
  ·have hlt':decide ((i:Int)<(s.size:Int))=false:=decide_eq_false (by omega)
   have HND:Hid (¬Dig b s i):=fun h=>hlt h.1
   have HDT:Hid (¬bAt s i=46):=fun h=>by rw[bAt_out s i hlt]at h;omega
   cases lack
   ·go_wp2_with fail
    go_quiet (fail)
    go_wp2_with fail
    have HEN:Hid (DgR b s k (valN b l) beh none i):=(st2_end HS.out hi HND.out (fun x=>HDT.out x.1)).2 rfl
    have HD5:Hid (DS2 w (wr.drewN nq) G R s i (valN b l) beh):=⟨HD.out.rr,HD.out.num,HD.out.res,HD.out.mod⟩
    generalize wr.drewN nq=w5 at *
    obtain⟨c5,hc5,hk5,hl5⟩:=HD5.out.num
    have HK5:Hid (cntOk c5 (valN b l)):=hk5
    have HL5:Hid (LB w5 (R+1) c5 (dg (valN b l)) [.int .i64 (beh:Int)] 246):=hl5
    have hst5:=LB.cellsNum (w:=w5) HD5.out.res (blk c5 (dg (valN b l)) [.int .i64 (beh:Int)]) (by rw[blk_size];rfl) (blk_one _ _ _ rfl)
    have hsz5:(blk c5 (dg (valN b l)) [.int .i64 (beh:Int)]).size=153:=by rw[blk_size];rfl
    clear htx hat hfr hk5 hl5
    refine HL5.out.wpLoadNum _ rfl rfl ?_
    go_at_K
    go_wp2_with fail
    try rw[Exit.noGoto_ret]
    have hm6:=(Mod.refl R w5).setRow (blk c5 (dg (valN b l)) [.int .i64 (beh:Int)])
    refine bodyPost_ret (v:=.tuple #[.agg (blk c5 (dg (valN b l)) [.int .i64 (beh:Int)]),errV none]) (res_dig _ _ R 246 _ _ rfl rfl (setRow_heap w5 R _ _ _ (0,0) HD5.out.res) hsz5) rfl ?_
    obtain⟨l1,l2,l3,l4⟩:=st2_len HS.out hi
    exact⟨valN b l,beh,none,i,c5,HEN.out,hi,HK5.out,hc5,by omega,Nat.lt_of_lt_of_le (valN_good_lt b l l4) (Nat.pow_le_pow_right (by omega) (by omega)),rfl,HD5.out.rr.other hm6 (by omega),HD5.out.mod.late hm6 (by rw[HRR.out];exact Nat.le_refl _)⟩
   ·go_wp2_with fail
    go_quiet (fail)
    go_wp2_with fail
    have HEN:Hid (DgR b s k 0 0 (some i) i):=(st2_end HS.out hi HND.out (fun x=>HDT.out x.1)).1 rfl 0 0
    have HD5:Hid (DS2 w (wr.drewN nq) G R s i (valN b l) beh):=⟨HD.out.rr,HD.out.num,HD.out.res,HD.out.mod⟩
    generalize wr.drewN nq=w5 at *
    have hat5:=HD5.out.rr.at_
    have hat6:(w5.drew.setRow R Tryz.zeroCells246).cell? ⟨G,1,none⟩=some (.int .i64 (i:Int)):=(cell_setRow_other _ R _ ⟨G,1,none⟩ (show G≠R by omega)).trans hat5
    have hst5:=LB.cellsNum (w:=w5.drew) HD5.out.res Tryz.zeroCells246 (by rw[zero_is,blk_size];rfl) (by rw[zero_is];exact blk_one _ _ _ rfl)
    have hsz5:(Tryz.zeroCells246).size=153:=by rw[zero_is,blk_size];rfl
    clear htx hat hfr
    go_region
    all_goals go_wp2_with fail
    all_goals
     try rw[Exit.noGoto_ret]
     have hm6:=(Mod.refl R w5).setRow Tryz.zeroCells246
     refine bodyPost_ret (v:=.tuple #[.agg (blk 0 (dg 0) [.int .i64 0]),errV (some i)]) (res_dig _ _ R 246 _ _ rfl rfl (by rw[←zero_is];exact setRow_heap w5 R _ _ _ (0,0) HD5.out.res) (by rw[blk_size];rfl)) rfl ?_
     exact⟨0,0,some i,i,0,HEN.out,hi,cnt_zero,by omega,by omega,Nat.pow_pos (by omega),rfl,HD5.out.rr.other hm6 (by omega),HD5.out.mod.late hm6 (by rw[HRR.out];exact Nat.le_refl _)⟩
theorem or_odd(q:Nat)(h:q<18446744073709551616):bits .or .u64 (q:Int) 1=((oddOf q:Nat):Int):=by
 have e:=u64_or_nat q 1 h (by omega)
 rw[show((1:Nat):Int)=1 from rfl]at e
 rw[e]
 congr 1
 unfold oddOf
 have h1:∀x:Nat,2 ^ 1*x ||| 1=2 ^ 1*x+1:=fun x=>(Nat.two_pow_add_eq_or_of_lt (show 1<2 ^ 1 by omega) x).symm
 rcases Nat.mod_two_eq_zero_or_one q with h0|h0
 ·have e2:q=2 ^ 1*(q / 2):=by omega
  conv=>lhs;rw[e2]
  rw[h1];omega
 ·have e2:q=2 ^ 1*(q / 2)+1:=by omega
  conv=>lhs;rw[e2,←h1,Nat.or_assoc,Nat.or_self]
  rw[h1];omega
theorem Lg.below{w w':World}{B N:Nat}{R:List Value}{t:TypeId}(h:Lg w B N R t)(hm:Below w.heap.size w w'):Lg w' B N R t:=by
 obtain⟨c,h1,h2,h3⟩:=h
 exact⟨c,h1,h2,(hm.block B h3.lt).trans h3⟩
theorem ord_lt(N M:Nat)(h:N<M):ordN N M = -1:=by unfold ordN;rw[if_pos h]
theorem bitLen_lt(N:Nat):N<2 ^ bitLen N:=(bitLen_spec N).1
theorem room{c A a L:Nat}(hA:cntOk c A)(hL:bitLen A+a≤L)(h:L≤4799):c+a / 32+1≤151:=by
 rcases Nat.eq_zero_or_pos c with rfl|hc
 ·omega
 ·have h1:=hA.2 hc
  have h2:=bitLen_lt A
  rw[be_two]at h1
  have h3:32*(c-1)<bitLen A:=(Nat.pow_lt_pow_iff_right (by omega)).1 (Nat.lt_of_le_of_lt h1 h2)
  omega
theorem room_one{c T L:Nat}(hT:cntOk c T)(h:T<2 ^ L)(hL:L≤4800):c+1 / 32+1≤151:=by
 obtain⟨n,hn⟩:∃n:Nat,n=150:=⟨_,rfl⟩
 have h1:T<be ^ n:=by
  rw[be_two];exact Nat.lt_of_lt_of_le h (Nat.pow_le_pow_right (by omega) (by omega))
 have:=cnt_le hT h1
 omega
set_option maxRecDepth 100000 in
theorem quo_any(A C c k la lb a b L:Nat)(w:World)(hA:cntOk c A)(hc:c≤151)(hC:cntOk k C)(hk:k≤151)(hC0:0<C)(h1:bitLen A=la)(h2:bitLen C=lb)(ha:a=lb-la)(hb:b=la-lb)(hL:L=max la lb)(hLm:L≤4798) :
  Calls Tryz.prog 163 #[lgV c A,lgV k C] w fun e w'=>∃q t,Lng (A*2 ^ a) (C*2 ^ b) 64 q t∧e=.returned (.tuple #[.int .u64 (stk q t:Int),.int .i64 ((la:Int)-lb-63)])∧Below w.heap.size w w':=by
 have HS1:Hid (A*2 ^ a<2*(C*2 ^ b)):=by
  show A*2 ^ a<2*(C*2 ^ b)
  have e1:=bitLen_lt A
  have e2:=(bitLen_spec C).2 (by omega)
  rw[h1]at e1
  rw[h2]at e2
  have hp:1≤lb:=by
   rw[←h2];unfold bitLen;rw[if_neg (by omega)];omega
  have f1:A*2 ^ a<2 ^ la*2 ^ a:=Nat.mul_lt_mul_of_pos_right e1 (Nat.two_pow_pos a)
  have f2:2 ^ (lb-1)*2 ^ b≤C*2 ^ b:=Nat.mul_le_mul_right _ e2
  have f3:2*(2 ^ (lb-1)*2 ^ b)=2 ^ lb*2 ^ b:=by rw[←Nat.mul_assoc,Nat.mul_comm 2,←Nat.pow_succ,show(lb-1).succ=lb by omega]
  have f4:2 ^ la*2 ^ a=2 ^ lb*2 ^ b:=by rw[←Nat.pow_add,←Nat.pow_add];congr 1;omega
  omega
 have HS2:Hid (C*2 ^ b<2 ^ L):=by
  show C*2 ^ b<2 ^ L
  have e1:=bitLen_lt C
  rw[h2]at e1
  have f1:C*2 ^ b<2 ^ lb*2 ^ b:=Nat.mul_lt_mul_of_pos_right e1 (Nat.two_pow_pos b)
  rw[←Nat.pow_add]at f1
  have f2:2 ^ (lb+b)=2 ^ L:=by congr 1;omega
  omega
 have HRA:Hid (c+a / 32+1≤151):=room (L:=L) hA (by omega) (by omega)
 have HRC:Hid (k+b / 32+1≤151):=room (L:=L) hC (by omega) (by omega)
 have HB0:Hid (0<C*2 ^ b):=Nat.mul_pos hC0 (Nat.two_pow_pos b)
 have HA:Hid (cntOk c A):=hA
 have HC:Hid (cntOk k C):=hC
 obtain⟨X,hX⟩:∃X,(lgL c (dg A)).toArray=X:=⟨_,rfl⟩
 obtain⟨Y,hY⟩:∃Y,(lgL k (dg C)).toArray=Y:=⟨_,rfl⟩
 obtain⟨H,hH⟩:∃H,w.heap.size=H:=⟨_,rfl⟩
 have HH:Hid (w.heap.size=H):=hH
 obtain⟨W,hW⟩:∃W,(w.alloc (.cells X 115)).alloc (.cells Y 115)=W:=⟨_,rfl⟩
 have HL1:Hid (LB W H c (dg A) [] 115):=by
  have h:=(LB.new w c (dg A) [] 115).alloc (.cells Y 115)
  rw[←blk_nil,hX,hW,hH]at h;exact h
 have HL2:Hid (LB W (H+1) k (dg C) [] 115):=by
  have h:=LB.new (w.alloc (.cells X 115)) k (dg C) [] 115
  rw[←blk_nil,hY,hW,show(w.alloc (.cells X 115)).heap.size=H+1 by simp[hH]]at h;exact h
 have HBW:Hid (Below w.heap.size w W):=by rw[←hW];exact((Below.refl _ w).alloc (Nat.le_refl _) _).alloc (by simp) _
 have HN1:Hid _:=fun(_:Unit)=>length_any H A c [] 115 W hc hA HL1.out
 have HN2:Hid (∀n,Calls Tryz.prog 178 #[.pointer (some ⟨H+1,0,none⟩)] (W.drewN n) fun e w'=>e=.returned (.int .i64 (lb:Int))∧∃m,w'=(W.drewN n).drewN m):=fun n=>by
  have h:=length_any (H+1) C k [] 115 (W.drewN n) hk hC (HL2.out.drewN n)
  rw[h2]at h;exact h
 rw[h1]at HN1
 unfold lgV
 rw[hX,hY]
 clear hX hY hA hC h1 h2 hC0
 go_enter Tryz.func163,Tryz.ntmps163
 go_wp2_with fail
 refine(HN1.out ()).mono ?_
 rintro e w1 ⟨rfl,n1,rfl⟩
 clear hW HN1
 go_wp2_with fail
 refine(HN2.out _).mono ?_
 rintro e w2 ⟨rfl,n2,rfl⟩
 clear HN2
 have HD1:Hid (LB ((W.drewN n1).drewN n2) H c (dg A) [] 115):=HL1.out
 have HD2:Hid (LB ((W.drewN n1).drewN n2) (H+1) k (dg C) [] 115):=HL2.out
 have HDB:Hid (Below w.heap.size w ((W.drewN n1).drewN n2)):=below_drewN (below_drewN HBW.out _) _
 generalize (W.drewN n1).drewN n2=W2 at *
 clear HL1 HL2 HBW
 have HSA:Hid _:=fun(_:Unit)=>shift_any H A a [] 115 W2 c HA.out HD1.out HRA.out
 have HSC:Hid (∀w',LB w' (H+1) k (dg C) [] 115→Calls Tryz.prog 64 #[.pointer (some ⟨H+1,0,none⟩),.int .i64 (b:Int)] w' fun e w''=>e=.returned (.tuple #[])∧Mod (H+1) w' w''∧Lg w'' (H+1) (C*2 ^ b) [] 115):=fun w' h=>shift_any (H+1) C b [] 115 w' k HC.out h HRC.out
 obtain⟨E,hE⟩:∃E:Int,(la:Int)-(lb:Int)=E:=⟨_,rfl⟩
 have HE:Hid ((la:Int)-(lb:Int)=E):=hE
 have hE1:-5000≤E∧E≤5000:=by omega
 have hab:(E<0∧-E=(a:Int)∧(b:Int)=0)∨(0<E∧E=(b:Int)∧(a:Int)=0)∨(E=0∧(a:Int)=0∧(b:Int)=0):=by omega
 obtain⟨hE2,hE3⟩:=hE1
 have hla:(la:Int)≤5000:=by omega
 have hlb:(lb:Int)≤5000:=by omega
 have HLm:Hid (L≤4798):=hLm
 clear hLm hL ha hb HRA HRC
 go_upto_region 2 with fail
 go_cut [12] from 9 to 12 (fun _ wc=>Hid (Lg wc H (A*2 ^ a) [] 115)∧Hid (LB wc (H+1) k (dg C) [] 115)∧Hid (Below w.heap.size w wc))
 case first=>
  rcases hab with⟨x1,x2,x3⟩|⟨x1,x2,x3⟩|⟨x1,x2,x3⟩
  ·clear x3
   go_wp2_with fail
   refine(HSA.out ()).mono ?_
   rintro e w3 ⟨rfl,hm3,hg3⟩
   have HB3:Hid (LB w3 (H+1) k (dg C) [] 115):=HD2.out.other hm3 (by omega)
   have HM3:Hid (Below w.heap.size w w3):=HDB.out.trans (hm3.below (by rw[HH.out];exact Nat.le_refl _) HDB.out.size)
   have HG3:Hid (Lg w3 H (A*2 ^ a) [] 115):=hg3
   clear hm3 hg3
   go_wp2
   go_meet
   case rel=>exact⟨HG3.out,HB3.out,HM3.out⟩
  ·rw[x3]at HSA
   clear x2 x3
   go_wp2_with fail
   refine(HSA.out ()).mono ?_
   rintro e w3 ⟨rfl,hm3,hg3⟩
   have HB3:Hid (LB w3 (H+1) k (dg C) [] 115):=HD2.out.other hm3 (by omega)
   have HM3:Hid (Below w.heap.size w w3):=HDB.out.trans (hm3.below (by rw[HH.out];exact Nat.le_refl _) HDB.out.size)
   have HG3:Hid (Lg w3 H (A*2 ^ a) [] 115):=hg3
   clear hm3 hg3
   go_wp2
   go_meet
   case rel=>exact⟨HG3.out,HB3.out,HM3.out⟩
  ·rw[x2]at HSA
   clear x2 x3
   subst x1
   go_wp2_with fail
   refine(HSA.out ()).mono ?_
   rintro e w3 ⟨rfl,hm3,hg3⟩
   have HB3:Hid (LB w3 (H+1) k (dg C) [] 115):=HD2.out.other hm3 (by omega)
   have HM3:Hid (Below w.heap.size w w3):=HDB.out.trans (hm3.below (by rw[HH.out];exact Nat.le_refl _) HDB.out.size)
   have HG3:Hid (Lg w3 H (A*2 ^ a) [] 115):=hg3
   clear hm3 hg3
   go_wp2
   go_meet
   case rel=>exact⟨HG3.out,HB3.out,HM3.out⟩
 case rest=>
  obtain⟨HG3,HB3,HM3⟩:=hcut
  clear HSA HD1 HD2 HDB
  go_upto_region 3 with fail
  go_cut [15] from 13 to 15 (fun _ wc=>Hid (Lg wc H (A*2 ^ a) [] 115)∧Hid (Lg wc (H+1) (C*2 ^ b) [] 115)∧Hid (Below w.heap.size w wc))
  case first=>
   rcases hab with⟨x1,x2,x3⟩|⟨x1,x2,x3⟩|⟨x1,x2,x3⟩
   ·rw[x3]at HSC
    clear x2 x3
    go_wp2_with fail
    refine(HSC.out _ HB3.out).mono ?_
    rintro e w4 ⟨rfl,hm4,hg4⟩
    have HG1:Hid (Lg w4 H (A*2 ^ a) [] 115):=HG3.out.other hm4 (by omega)
    have HG2:Hid (Lg w4 (H+1) (C*2 ^ b) [] 115):=hg4
    have HDW:Hid (Below w.heap.size w w4):=HM3.out.trans (hm4.below (by rw[HH.out];omega) HM3.out.size)
    clear hm4 hg4
    go_wp2
    go_meet
    case rel=>exact⟨HG1.out,HG2.out,HDW.out⟩
   ·rw[←x2]at HSC
    clear x2 x3
    go_wp2_with fail
    refine(HSC.out _ HB3.out).mono ?_
    rintro e w4 ⟨rfl,hm4,hg4⟩
    have HG1:Hid (Lg w4 H (A*2 ^ a) [] 115):=HG3.out.other hm4 (by omega)
    have HG2:Hid (Lg w4 (H+1) (C*2 ^ b) [] 115):=hg4
    have HDW:Hid (Below w.heap.size w w4):=HM3.out.trans (hm4.below (by rw[HH.out];omega) HM3.out.size)
    clear hm4 hg4
    go_wp2
    go_meet
    case rel=>exact⟨HG1.out,HG2.out,HDW.out⟩
   ·rw[x3]at HSC
    clear x2 x3
    subst x1
    go_wp2_with fail
    refine(HSC.out _ HB3.out).mono ?_
    rintro e w4 ⟨rfl,hm4,hg4⟩
    have HG1:Hid (Lg w4 H (A*2 ^ a) [] 115):=HG3.out.other hm4 (by omega)
    have HG2:Hid (Lg w4 (H+1) (C*2 ^ b) [] 115):=hg4
    have HDW:Hid (Below w.heap.size w w4):=HM3.out.trans (hm4.below (by rw[HH.out];omega) HM3.out.size)
    clear hm4 hg4
    go_wp2
    go_meet
    case rel=>exact⟨HG1.out,HG2.out,HDW.out⟩
  case rest=>
   obtain⟨HG1,HG2,HDW⟩:=hcut
   clear HSC HG3 HB3 HM3 hab hE
   go_wp2
   go_loopw [4,16] (fun sv iv wl=>∃ (i q T:Nat),iv=.int .i64 (i:Int)∧sv=.int .u64 (q:Int)∧i≤64∧Hid (Lng (A*2 ^ a) (C*2 ^ b) i q T)∧Hid (Lg wl H T [] 115)∧Hid (Lg wl (H+1) (C*2 ^ b) [] 115)∧Hid (Below w.heap.size w wl)) (fun _ iv _=>64-(intOf iv).toNat)
   case atStart=>exact⟨0,0,A*2 ^ a,rfl,rfl,by omega,lng_start _ _ HS1.out,HG1.out,HG2.out,HDW.out⟩
   case round=>
    clear HG1 HG2 HDW
    obtain⟨i,q,T,rfl,rfl,hi,HL,HG1,HG2,HDW⟩:=hrel
    by_cases hi6:i<64
    ·have hi6':(i:Int)<64:=by omega
     have hq:(q:Int)<9223372036854775808:=by
      have h1:=HL.out.2.2
      have h2:(2:Nat) ^ i≤2 ^ 63:=Nat.pow_le_pow_right (by omega) (by omega)
      have h3:(2:Nat) ^ 63=9223372036854775808:=rfl
      omega
     have HO:Hid (bits .or .u64 ((q:Int)*2) 1=((2*q+1:Nat):Int)):=by
      have h:=or_odd (2*q) (by omega)
      rw[odd_twice,show((2*q:Nat):Int)=(q:Int)*2 by omega]at h
      exact h
     have HTL:Hid (T<2 ^ (L+1)):=by
      have h1:=HL.out.2.1
      have h2:=HS2.out
      show T<2 ^ (L+1)
      rw[Nat.pow_succ];omega
     obtain⟨c1,hc1,hk1,hl1⟩:=HG1.out
     obtain⟨c2,hc2,hk2,hl2⟩:=HG2.out
     have HO1:Hid _:=fun(_:Unit)=>order_any H T (C*2 ^ b) c1 c2 [] 115 wr hc1 hc2 hk1 hk2 hl1
     have HL2:Hid (LB wr (H+1) c2 (dg (C*2 ^ b)) [] 115):=hl2
     have HK1:Hid (cntOk c1 T):=hk1
     have HL1:Hid (LB wr H c1 (dg T) [] 115):=hl1
     clear hk1 hl1 hk2 hl2
     go_wp2_with fail
     refine HL2.out.wpLoad _ rfl rfl ?_
     go_at_K
     go_wp2_with fail
     refine(HO1.out ()).mono ?_
     rintro e w5 ⟨rfl,hb5⟩
     have HD1:Hid (LB w5 H c1 (dg T) [] 115):=(hb5.block H HL1.out.lt).trans HL1.out
     have HD2:Hid (LB w5 (H+1) c2 (dg (C*2 ^ b)) [] 115):=(hb5.block (H+1) HL2.out.lt).trans HL2.out
     have HE2:Hid (Lg w5 (H+1) (C*2 ^ b) [] 115):=HG2.out.below hb5
     have HB5:Hid (Below w.heap.size w w5):=HDW.out.trans (hb5.mono HDW.out.size)
     clear hb5 HO1 HL1 HL2
     by_cases hTB:T<C*2 ^ b
     ·have HSH:Hid _:=fun(_:Unit)=>shift_any H T 1 [] 115 w5 c1 HK1.out HD1.out (room_one HK1.out HTL.out (by have:=HLm.out;omega))
      rw[ord_lt _ _ hTB]
      have HLN:Hid _:=fun(_:Unit)=>lng_no HL.out hTB
      clear hTB
      go_wp2_with fail
      refine(HSH.out ()).mono ?_
      rintro e w6 ⟨rfl,hm6,hg6⟩
      have HG6:Hid (Lg w6 H (2*T) [] 115):=by rw[Nat.pow_one,Nat.mul_comm]at hg6;exact hg6
      have HH6:Hid (Lg w6 (H+1) (C*2 ^ b) [] 115):=HE2.out.other hm6 (by omega)
      have HB6:Hid (Below w.heap.size w w6):=HB5.out.trans (hm6.below (by rw[HH.out];exact Nat.le_refl _) HB5.out.size)
      clear hm6 hg6
      go_wp2
      refine⟨⟨i+1,2*q,2*T,rfl,by rw[show((2*q:Nat):Int)=(q:Int)*2 by omega],by omega,HLN.out (),HG6.out,HH6.out,HB6.out⟩,?_⟩
      show 64-((i:Int)+1).toNat<64-(i:Int).toNat;omega
     ·have HSU:Hid _:=fun(_:Unit)=>sub_any H T (C*2 ^ b) c1 c2 [] 115 w5 hc1 (by omega) HK1.out HD1.out
      have HLN:Hid _:=fun(_:Unit)=>lng_yes HL.out (show C*2 ^ b≤T by omega)
      have hy:ordN T (C*2 ^ b)=0∨ordN T (C*2 ^ b)=1:=by
       unfold ordN;rw[if_neg hTB];split<;>simp
      generalize ordN T (C*2 ^ b)=y at *
      clear hTB
      rcases hy with rfl|rfl
      all_goals
       go_wp2_with fail
       refine HD2.out.wpLoad _ rfl rfl ?_
       go_at_K
       go_wp2_with fail
       refine(HSU.out ()).mono ?_
       rintro e w6 ⟨rfl,hm6,hg6⟩
       obtain⟨c3,hc3,hk3,hl3⟩:=hg6
       have HSH:Hid _:=fun(_:Unit)=>shift_any H (T-C*2 ^ b) 1 [] 115 w6 c3 hk3 hl3 (room_one hk3 (Nat.lt_of_le_of_lt (Nat.sub_le _ _) HTL.out) (by have:=HLm.out;omega))
       have HH6:Hid (Lg w6 (H+1) (C*2 ^ b) [] 115):=HE2.out.other hm6 (by omega)
       have HB6:Hid (Below w.heap.size w w6):=HB5.out.trans (hm6.below (by rw[HH.out];exact Nat.le_refl _) HB5.out.size)
       clear hm6 hk3 hl3 HSU
       obtain⟨q2,hq2⟩:∃q2:Nat,2*q+1=q2:=⟨_,rfl⟩
       have ho1:=HO.out
       rw[hq2]at ho1
       have HQ2:Hid (2*q+1=q2):=hq2
       clear hq2 HO
       go_wp2_with fail
       refine(HSH.out ()).mono ?_
       rintro e w7 ⟨rfl,hm7,hg7⟩
       have HG7:Hid (Lg w7 H (2*(T-C*2 ^ b)) [] 115):=by rw[Nat.pow_one,Nat.mul_comm]at hg7;exact hg7
       have HH7:Hid (Lg w7 (H+1) (C*2 ^ b) [] 115):=HH6.out.other hm7 (by omega)
       have HB7:Hid (Below w.heap.size w w7):=HB6.out.trans (hm7.below (by rw[HH.out];exact Nat.le_refl _) HB6.out.size)
       clear hm7 hg7
       go_wp2
       refine⟨⟨i+1,q2,2*(T-C*2 ^ b),rfl,rfl,by omega,by rw[←HQ2.out];exact HLN.out (),HG7.out,HH7.out,HB7.out⟩,?_⟩
       ·show 64-((i:Int)+1).toNat<64-(i:Int).toNat;omega
    ·obtain rfl:i=64:=by omega
     obtain⟨c1,hc1,hk1,hl1⟩:=HG1.out
     have hcnt:=hl1.cnt
     have HQ:Hid (bits .or .u64 (q:Int) 1=((oddOf q:Nat):Int)):=or_odd q (by have h1:=HL.out.2.2;have h3:(2:Nat) ^ 64=18446744073709551616:=rfl;omega)
     have HCP:Hid (0<c1↔0<T):=cnt_pos hk1
     clear hk1 hl1
     by_cases hz:0<c1
     ·have hz':(0:Int)<(c1:Int):=by omega
      have hq1:=HQ.out
      go_wp2
      go_ret2
      refine⟨q,T,HL.out,?_,HDW.out⟩
      have hst:stk q T=oddOf q:=by unfold stk;rw[if_neg (by have:=HCP.out.1 hz;omega)]
      have hE9:=HE.out
      rw[hst]
      show Ending.returned (.tuple #[.int .u64 _,.int .i64 _])=_
      have e9:(la:Int)-lb-63=E-63:=by rw[hE9]
      rw[e9]
     ·have hz':decide ((0:Int)<(c1:Int))=false:=decide_eq_false (by omega)
      go_wp2
      go_ret2
      refine⟨q,T,HL.out,?_,HDW.out⟩
      have hst:stk q T=q:=by unfold stk;rw[if_pos (by have:=HCP.out.2;omega)]
      have hE9:=HE.out
      rw[hst]
      show Ending.returned (.tuple #[.int .u64 _,.int .i64 _])=_
      have e9:(la:Int)-lb-63=E-63:=by rw[hE9]
      rw[e9]
end Go.Proofs.YtenbfookfcmpoaaGreatDoor
