import Derived.Test.YtenbfookfcmpoaaGreatDoorF08
import Derived.Test.YtenbfookfcmpoaaGreatDoorF09
import Derived.Test.YtenbfookfcmpoaaGreatDoorF13
import Derived.Deep.CutRange
namespace Go.Proofs.YtenbfookfcmpoaaGreatDoor
open Go.ChangeShapes Go.WideShapes Go.RowKit
theorem Mod.late{G B:Nat}{w a b:World}(h:Mod G w a)(k:Mod B a b)(hB:w.heap.size≤B):Mod G w b:=
 ⟨k.1.trans h.1,k.2.1.trans h.2.1,k.2.2.1.trans h.2.2.1,Nat.le_trans h.2.2.2.1 k.2.2.2.1,fun i hi hg=>(k.2.2.2.2 i (Nat.lt_of_lt_of_le hi h.2.2.2.1) (by omega)).trans (h.2.2.2.2 i hi hg)⟩
theorem LB.beh{w:World}{B c:Nat}{f:Nat→Nat}{x:Value}{t:TypeId}(h:LB w B c f [x] t):w.cell? ⟨B,152,none⟩=some x:=by
 rw[cell_of_heap h];exact blk_tail c f [x] 0
theorem LB.setb{w:World}{B c:Nat}{f:Nat→Nat}{x:Value}{t:TypeId}(h:LB w B c f [x] t)(y:Value):LB (w.setCell ⟨B,152,none⟩ y) B c f [y] t:=by
 unfold LB
 rw[setCell_eq_setRow w B 152 _ t (0,0) _ h,blk_setT]
 exact setRow_heap w B _ _ t (0,0) h
theorem dig_room(b:Nat)(l:List UInt8)(d:Nat)(hb:b≤16)(hg:good (b:Int) l)(hl:l.length<1200)(hd:d<b):valN b l*b+d<be ^ 151:=by
 have h1:=valN_good_lt b l hg
 have h2:valN b l*b+d<b ^ (l.length+1):=by
  rw[Nat.pow_succ]
  have:(valN b l+1)*b≤b ^ l.length*b:=Nat.mul_le_mul_right _ h1
  rw[Nat.succ_mul]at this
  omega
 have h3:b ^ (l.length+1)≤16 ^ (l.length+1):=Nat.pow_le_pow_left hb _
 obtain⟨n,hn⟩:∃n:Nat,n=151:=⟨_,rfl⟩
 have h4:16 ^ (l.length+1)≤be ^ n:=by
  rw[be_two,show(16:Nat)=2 ^ 4 from rfl,←Nat.pow_mul]
  exact Nat.pow_le_pow_right (by omega) (by omega)
 rw[hn]at h4
 omega
theorem res_dig(tmps:Array Value)(w:World)(R:Nat)(t:TypeId)(cs:Array Value)(v:Value)(hp:tmps.getD 4 undef=.pointer (some ⟨R,0,none⟩))(h5:tmps.getD 5 undef=v)(hg:w.heap[R]? = some (.cells cs t (0,0)))(hi:cs.size=153) :
  (results Tryz.f150 tmps).run Tryz.prog w=.ok (.tuple #[.agg cs,v]) w:=by
 obtain⟨d,hd,hr⟩:=num_desc
 have hp':tmps[4]?.getD undef=.pointer (some ⟨R,0,none⟩):=by simpa using hp
 have h5':tmps[5]?.getD undef=v:=by simpa using h5
 have hl:=run_loadVar_row (P:=Tryz.prog) w R t 246 cs (0,0) d hg hd (by cases d<;>simp_all [TypeDesc.isRow]) (by rw[hi];exact num_size)
 simp[results,Tryz.results150,hp',h5',asAddr,hl]
theorem zero_is:Tryz.zeroCells246=blk 0 (dg 0) [.int .i64 0]:=by rw[←dg_nil];kernel_rfl
theorem LB.cellsNum{w:World}{B c:Nat}{f:Nat→Nat}{x:Value}{t:TypeId}(h:LB w B c f [x] t)(cs:Array Value)(hs:cs.size=153)(h1:cs.all (·.oneCell')=true) :
  (storeCells ⟨B,0,none⟩ cs.toList).run Tryz.prog w=.ok () (w.setRow B cs):=by
 have:=store_cells (vs:=cs.toList) h (by rw[Array.length_toList,hs,blk_size];rfl) (fun v hv=>(Array.all_eq_true_iff_forall_mem.1 h1) v (by simpa using hv))
 simpa using this
structure DS2 (w wl:World) (G R:Nat) (s:ByteArray) (i N beh:Nat):Prop where
 rr:Rr wl G s i
 num:Lg wl (R+1) N [.int .i64 (beh:Int)] 246
 res:LB wl R 0 (dg 0) [.int .i64 0] 246
 mod:Mod G w wl
set_option maxHeartbeats 4000000 in
set_option maxRecDepth 100000 in
theorem digits_walk(b G k:Nat)(s:ByteArray)(w:World)(hb:b≤16)(hb1:2≤b)(h:Rr w G s k)(hk:k≤s.size)(hs:s.size≤1200) :
  Calls Tryz.prog 150 #[.pointer (some ⟨G,0,none⟩),.int .u64 (b:Int)] w fun e w'=>∃V beh r j c,DgR b s k V beh r j∧j≤s.size∧cntOk c V∧c≤151∧beh≤1200∧V<b ^ (s.size-k)∧e=.returned (.tuple #[.agg (blk c (dg V) [.int .i64 (beh:Int)]),errV r])∧Rr w' G s j∧Mod G w w':=by
 have hz:=num_zero
 rw[dg_nil]at hz
 obtain⟨C,hC⟩:∃C,blk 0 (dg 0) [.int .i64 0]=C:=⟨_,rfl⟩
 have HC:Hid (blk 0 (dg 0) [.int .i64 0]=C):=hC
 rw[hC]at hz
 obtain⟨R,hR⟩:∃R,w.heap.size=R:=⟨_,rfl⟩
 have HRR:Hid (w.heap.size=R):=hR
 obtain⟨W,hW⟩:∃W,(w.alloc (.cells C 246)).alloc (.cells C 246)=W:=⟨_,rfl⟩
 have H0:Hid (DS2 w W G R s k 0 0):=by
  refine⟨?_,⟨0,by omega,cnt_zero,?_⟩,?_,?_⟩
  ·rw[←hW];exact(h.alloc _).alloc _
  ·have h:=LB.new (w.alloc (.cells C 246)) 0 (dg 0) [.int .i64 0] 246
   rw[hC,hW,show(w.alloc (.cells C 246)).heap.size=R+1 by simp[hR]]at h;exact h
  ·have h:=(LB.new w 0 (dg 0) [.int .i64 0] 246).alloc (.cells C 246)
   rw[hC,hW,hR]at h;exact h
  ·rw[←hW];exact((Mod.refl G w).alloc _).alloc _
 have hGR:G<R:=by rw[←hR];exact h.lt
 clear h hC
 go_enter Tryz.func150,Tryz.ntmps150
 go_wp2_with fail
 go_step3
 go_wp2_with fail
 clear hW hz
 try go_step3
 try go_wp2_with fail
 go_loopw [7,8] (fun pv lv wl=>∃ (pt lack:Bool) (i beh:Nat) (l:List UInt8),pv=.bool pt∧lv=.bool lack∧i≤s.size∧Hid (St2 b s k pt i l beh lack)∧Hid (DS2 w wl G R s i (valN b l) beh)) (fun _ _ wl=>s.size-rrAt G wl)
 case atStart=>exact⟨false,true,k,0,[],rfl,rfl,hk,st2_start b s k,by show DS2 w W G R s k (valN b []) 0;rw[valN_nil];exact H0.out⟩
 case round=>
  obtain⟨pt,lack,i,beh,l,rfl,rfl,hi,HS,HD⟩:=hrel
  clear H0
  have htx:=HD.out.rr.txt
  have hat:=HD.out.rr.at_
  have hfr:=HD.out.rr.froz 1
  by_cases hlt:i<s.size
  ·have hlt':(i:Int)<(s.size:Int):=by omega
   have HDV:Hid _:=fun w=>implDigit_byte s[i] w
   have hd0:=digN_lo 36 (s[i].toNat:Int) (by omega)
   have hd1:=digN_hi 36 (s[i].toNat:Int) (by omega)
   have HDS:Hid _:=fun(_:Unit)=>digN_same 36 99 (s[i].toNat:Int) (b:Int) (by omega) (by omega)
   have HBA:Hid _:=fun(_:Unit)=>bAt_in s i hlt
   obtain⟨d,hd⟩:∃d:Nat,digN 36 (s[i].toNat:Int)=(d:Int):=⟨(digN 36 (s[i].toNat:Int)).toNat,by omega⟩
   rw[hd]at HDV hd0 hd1 HDS
   clear hd
   by_cases hdb:d<b
   ·have hdb':(d:Int)<(b:Int):=by omega
    have HDG:Hid (Dig b s i):=⟨hlt,by rw[HBA.out ()];exact(HDS.out ()).1.1 (by omega)⟩
    have HDN:Hid ((d:Int)=digN 99 (s[i].toNat:Int)):=(HDS.out ()).2 (by omega)
    obtain⟨l1,l2,l3,l4⟩:=st2_len HS.out hi
    have HMU:Hid (∀W':World,Lg W' (R+1) (valN b l) [.int .i64 (beh:Int)] 246→Calls Tryz.prog 98 #[.pointer (some ⟨R+1,0,none⟩),.int .u64 (b:Int),.int .u64 (d:Int)] W' fun e w''=>e=.returned (.tuple #[])∧Mod (R+1) W' w''∧Lg w'' (R+1) (valN b l*b+d) [.int .i64 (beh:Int)] 246):=
     fun W' h=>mul_any (R+1) (valN b l) b d _ _ W' h (by omega) (by omega) (by omega) (dig_room b l d hb l4 (by omega) hdb)
    have HVN:Hid (valN b (l++[s[i]])=valN b l*b+d):=valN_snoc b l s[i] d HDN.out
    have HSN:Hid _:=fun(_:Unit)=>st2_digit HS.out hlt HDG.out
    clear l2 l4 hdb
    cases pt
    ·go_wp2_with fail
     go_quiet (fail)
     go_wp2_with fail
     go_region_held3 (fun w'=>w'.cell? ⟨G,0,none⟩=some (.string s)∧w'.cell? ⟨G,1,none⟩=some (.int .i64 (i:Int))) (go_keep) (first|(go_at_call 142;refine(HDV.out _).mono ?_;rintro e w' ⟨rfl,rfl⟩))
     all_goals go_wp2_with fail
     refine(HMU.out _ (by exact HD.out.num)).mono ?_
     rintro e w2 ⟨rfl,hm,hg⟩
     have HR2:Hid (Rr w2 G s i):=Rr.other (w:=wr) HD.out.rr hm (by omega)
     have HN2:Hid (Lg w2 (R+1) (valN b l*b+d) [.int .i64 (beh:Int)] 246):=hg
     have HL2:Hid (LB w2 R 0 (dg 0) [.int .i64 0] 246):=LB.other (w:=wr) HD.out.res hm (by omega)
     have HM2:Hid (Mod G w w2):=Mod.late (a:=wr) HD.out.mod hm (by rw[HRR.out];omega)
     have hat2:=HR2.out.at_
     have hfr2:=HR2.out.froz 1
     clear hm hg htx hat hfr
     go_wp2_with fail
     have h1:=HR2.out.set (i+1)
     rw[show((i+1:Nat):Int)=(i:Int)+1 by omega]at h1
     refine⟨⟨_,_,i+1,_,l++[s[i]],rfl,rfl,by omega,HSN.out (),?_⟩,?_⟩
     ·have hm3:=(Mod.refl G w2).setCell 1 (.int .i64 ((i:Int)+1))
      refine⟨h1,?_,HL2.out.other hm3 (by omega),HM2.out.setCell _ _⟩
      rw[HVN.out]
      exact HN2.out.other hm3 (by omega)
     ·rw[rrAt_is HD.out.rr]
      exact Nat.lt_of_le_of_lt (Nat.le_of_eq (congrArg (s.size - ·) (rrAt_is h1))) (show s.size-(i+1)<s.size-i by omega)
    ·go_wp2_with fail
     go_quiet (fail)
     go_wp2_with fail
     go_region_held3 (fun w'=>w'.cell? ⟨G,0,none⟩=some (.string s)∧w'.cell? ⟨G,1,none⟩=some (.int .i64 (i:Int))) (go_keep) (first|(go_at_call 142;refine(HDV.out _).mono ?_;rintro e w' ⟨rfl,rfl⟩))
     all_goals go_wp2_with fail
     refine(HMU.out _ (by exact HD.out.num)).mono ?_
     rintro e w2 ⟨rfl,hm,hg⟩
     have HR2:Hid (Rr w2 G s i):=Rr.other (w:=wr) HD.out.rr hm (by omega)
     obtain⟨c2,hc2,hk2,hl2⟩:=hg
     have HK2:Hid (cntOk c2 (valN b l*b+d)):=hk2
     have HN2:Hid (LB w2 (R+1) c2 (dg (valN b l*b+d)) [.int .i64 (beh:Int)] 246):=hl2
     have HL2:Hid (LB w2 R 0 (dg 0) [.int .i64 0] 246):=LB.other (w:=wr) HD.out.res hm (by omega)
     have HM2:Hid (Mod G w w2):=Mod.late (a:=wr) HD.out.mod hm (by rw[HRR.out];omega)
     have hat2:=HR2.out.at_
     have hfr2:=HR2.out.froz 1
     have hbe2:=hl2.beh
     have hfb2:=hl2.froz 152
     have hne1:G≠R+1:=by omega
     have hne2:R+1≠G:=by omega
     have hbl:(beh:Int)≤1200:=by omega
     clear hm hl2 hk2 htx hat hfr
     go_wp2_with fail
     have h0:=HN2.out.setb (.int .i64 (((beh+1:Nat):Int)))
     have hm0:=(Mod.refl (R+1) w2).setCell 152 (.int .i64 (((beh+1:Nat):Int)))
     rw[show((beh+1:Nat):Int)=(beh:Int)+1 by omega]at h0 hm0
     have h1:=(HR2.out.other hm0 hne1).set (i+1)
     rw[show((i+1:Nat):Int)=(i:Int)+1 by omega]at h1
     have hm3:=(Mod.refl G (w2.setCell ⟨R+1,152,none⟩ (.int .i64 ((beh:Int)+1)))).setCell 1 (.int .i64 ((i:Int)+1))
     refine⟨⟨_,_,i+1,beh+1,l++[s[i]],rfl,rfl,by omega,HSN.out (),?_⟩,?_⟩
     ·refine⟨h1,?_,(HL2.out.other hm0 (by omega)).other hm3 (by omega),(HM2.out.late hm0 (by rw[HRR.out];omega)).setCell _ _⟩
      rw[HVN.out]
      exact⟨c2,hc2,HK2.out,by rw[show((beh+1:Nat):Int)=(beh:Int)+1 by omega];exact h0.other hm3 (by omega)⟩
     ·rw[rrAt_is HD.out.rr]
      exact Nat.lt_of_le_of_lt (Nat.le_of_eq (congrArg (s.size - ·) (rrAt_is h1))) (show s.size-(i+1)<s.size-i by omega)
   ·have hdb':decide (d<b)=false:=decide_eq_false (by omega)
    have HND:Hid (¬Dig b s i):=fun h=>by have h1:=h.2;rw[HBA.out ()]at h1;have h2:=(HDS.out ()).1.2 h1;omega
    have HSE:Hid (∀W':World,Rr W' G s i→Calls Tryz.prog 81 #[.pointer (some ⟨G,0,none⟩),.string ⟨#[46]⟩] W' fun e w''=>e=.returned (.bool (decide (bAt s i=46)))∧∃n,w''=W'.drewN n):=fun W' h=>by
     have h2:=pre_one s i 46 (by decide)
     have h3:=sees_any G i s ⟨#[46]⟩ W' h hi
     rw[h2]at h3;exact h3
    clear hdb
    by_cases hdot:bAt s i=46
    ·rw[decide_eq_true hdot]at HSE
     have HDT:Hid (bAt s i=46):=hdot
     clear hdot
     cases pt
     ·cases lack
      ·have HSP:Hid _:=fun(_:Unit)=>st2_point HS.out hlt (by omega) HDT.out
       go_wp2_with fail
       go_quiet (fail)
       go_wp2_with fail
       go_region_held3 (fun w'=>w'.cell? ⟨G,0,none⟩=some (.string s)∧w'.cell? ⟨G,1,none⟩=some (.int .i64 (i:Int))) (go_keep) (first|(go_at_call 142;refine(HDV.out _).mono ?_;rintro e w' ⟨rfl,rfl⟩))
       all_goals go_wp2_with fail
       refine(HSE.out _ (by exact HD.out.rr)).mono ?_
       rintro e w' ⟨rfl,n,rfl⟩
       go_wp2_with fail
       have hbe:beh=0:=by
        rcases HS.out with⟨_,_,_,_,h,_⟩|⟨h,_⟩
        ·exact h
        ·cases h
       have h1:=Rr.set (w:=wr.drewN (nq+1+n)) (show Rr _ G s i from HD.out.rr) (i+1)
       rw[show((i+1:Nat):Int)=(i:Int)+1 by omega]at h1
       have hm3:=(Mod.refl G (wr.drewN (nq+1+n))).setCell 1 (.int .i64 ((i:Int)+1))
       refine⟨⟨true,true,i+1,0,l,rfl,rfl,by omega,HSP.out (),?_⟩,?_⟩
       ·refine⟨h1,?_,LB.other (w:=wr.drewN (nq+1+n)) (show LB _ R _ _ _ _ from HD.out.res) hm3 (by omega),Mod.setCell (w:=wr.drewN (nq+1+n)) (show Mod G w _ from HD.out.mod) _ _⟩
        have h4:=HD.out.num
        rw[hbe]at h4
        exact Lg.other (w:=wr.drewN (nq+1+n)) (show Lg _ (R+1) _ _ _ from h4) hm3 (by omega)
       ·rw[rrAt_is HD.out.rr]
        exact Nat.lt_of_le_of_lt (Nat.le_of_eq (congrArg (s.size - ·) (rrAt_is h1))) (show s.size-(i+1)<s.size-i by omega)
      ·
       go_wp2_with fail
       go_quiet (fail)
       go_wp2_with fail
       go_region_held3 (fun w'=>w'.cell? ⟨G,0,none⟩=some (.string s)∧w'.cell? ⟨G,1,none⟩=some (.int .i64 (i:Int))) (go_keep) (first|(go_at_call 142;refine(HDV.out _).mono ?_;rintro e w' ⟨rfl,rfl⟩))
       all_goals go_wp2_with fail
       refine(HSE.out _ (by exact HD.out.rr)).mono ?_
       rintro e w' ⟨rfl,n,rfl⟩
       go_wp2_with fail
       have HEN:Hid (DgR b s k 0 0 (some i) i):=(st2_end HS.out hi HND.out (fun x=>nomatch x.2.2)).1 rfl 0 0
       have HD5:Hid (DS2 w (wr.drewN (nq+1+n)) G R s i (valN b l) beh):=⟨HD.out.rr,HD.out.num,HD.out.res,HD.out.mod⟩
       generalize wr.drewN (nq+1+n)=w5 at *
       have hat5:=HD5.out.rr.at_
       have hat6:(w5.drew.setRow R Tryz.zeroCells246).cell? ⟨G,1,none⟩=some (.int .i64 (i:Int)):=(cell_setRow_other _ R _ ⟨G,1,none⟩ (show G≠R by omega)).trans hat5
       have hst5:=LB.cellsNum (w:=w5.drew) HD5.out.res Tryz.zeroCells246 (by rw[zero_is,blk_size];rfl) (by rw[zero_is];exact blk_one _ _ _ rfl)
       have hsz5:(Tryz.zeroCells246).size=153:=by rw[zero_is,blk_size];rfl
       clear htx hat hfr
       go_region
       all_goals go_wp2_with fail
       all_goals
        try rw[Exit.noGoto_ret]
        have hm6:=(Mod.refl R w5).setRow Tryz.zeroCells246
        refine bodyPost_ret (v:=.tuple #[.agg (blk 0 (dg 0) [.int .i64 0]),errV (some i)]) (res_dig _ _ R 246 _ _ rfl rfl (by rw[←zero_is];exact setRow_heap w5 R _ _ _ (0,0) HD5.out.res) (by rw[blk_size];rfl)) rfl ?_
        exact⟨0,0,some i,i,0,HEN.out,hi,cnt_zero,by omega,by omega,Nat.pow_pos (by omega),rfl,HD5.out.rr.other hm6 (by omega),HD5.out.mod.late hm6 (by rw[HRR.out];exact Nat.le_refl _)⟩
     ·cases lack
      ·go_wp2_with fail
       go_quiet (fail)
       go_wp2_with fail
       go_region_held3 (fun w'=>w'.cell? ⟨G,0,none⟩=some (.string s)∧w'.cell? ⟨G,1,none⟩=some (.int .i64 (i:Int))) (go_keep) (first|(go_at_call 142;refine(HDV.out _).mono ?_;rintro e w' ⟨rfl,rfl⟩))
       all_goals go_wp2_with fail
       refine(HSE.out _ (by exact HD.out.rr)).mono ?_
       rintro e w' ⟨rfl,n,rfl⟩
       go_wp2_with fail
       have HEN:Hid (DgR b s k (valN b l) beh none i):=(st2_end HS.out hi HND.out (fun x=>nomatch x.2.1)).2 rfl
       have HD5:Hid (DS2 w (wr.drewN (nq+1+n)) G R s i (valN b l) beh):=⟨HD.out.rr,HD.out.num,HD.out.res,HD.out.mod⟩
       generalize wr.drewN (nq+1+n)=w5 at *
       obtain⟨c5,hc5,hk5,hl5⟩:=HD5.out.num
       have HK5:Hid (cntOk c5 (valN b l)):=hk5
       have HL5:Hid (LB w5 (R+1) c5 (dg (valN b l)) [.int .i64 (beh:Int)] 246):=hl5
       have hst5:=LB.cellsNum (w:=w5) HD5.out.res (blk c5 (dg (valN b l)) [.int .i64 (beh:Int)]) (by rw[blk_size];rfl) (blk_one _ _ _ rfl)
       have hsz5:(blk c5 (dg (valN b l)) [.int .i64 (beh:Int)]).size=153:=by rw[blk_size];rfl
       clear htx hat hfr hk5 hl5
       refine HL5.out.wpLoadNum _ rfl rfl ?_
       go_at_K
       go_wp2_with fail
       try rw[Exit.noGoto_ret]
       have hm6:=(Mod.refl R w5).setRow (blk c5 (dg (valN b l)) [.int .i64 (beh:Int)])
       refine bodyPost_ret (v:=.tuple #[.agg (blk c5 (dg (valN b l)) [.int .i64 (beh:Int)]),errV none]) (res_dig _ _ R 246 _ _ rfl rfl (setRow_heap w5 R _ _ _ (0,0) HD5.out.res) hsz5) rfl ?_
       obtain⟨l1,l2,l3,l4⟩:=st2_len HS.out hi
       exact⟨valN b l,beh,none,i,c5,HEN.out,hi,HK5.out,hc5,by omega,Nat.lt_of_lt_of_le (valN_good_lt b l l4) (Nat.pow_le_pow_right (by omega) (by omega)),rfl,HD5.out.rr.other hm6 (by omega),HD5.out.mod.late hm6 (by rw[HRR.out];exact Nat.le_refl _)⟩
      ·go_wp2_with fail
       go_quiet (fail)
       go_wp2_with fail
       go_region_held3 (fun w'=>w'.cell? ⟨G,0,none⟩=some (.string s)∧w'.cell? ⟨G,1,none⟩=some (.int .i64 (i:Int))) (go_keep) (first|(go_at_call 142;refine(HDV.out _).mono ?_;rintro e w' ⟨rfl,rfl⟩))
       all_goals go_wp2_with fail
       refine(HSE.out _ (by exact HD.out.rr)).mono ?_
       rintro e w' ⟨rfl,n,rfl⟩
       go_wp2_with fail
       have HEN:Hid (DgR b s k 0 0 (some i) i):=(st2_end HS.out hi HND.out (fun x=>nomatch x.2.1)).1 rfl 0 0
       have HD5:Hid (DS2 w (wr.drewN (nq+1+n)) G R s i (valN b l) beh):=⟨HD.out.rr,HD.out.num,HD.out.res,HD.out.mod⟩
       generalize wr.drewN (nq+1+n)=w5 at *
       have hat5:=HD5.out.rr.at_
       have hat6:(w5.drew.setRow R Tryz.zeroCells246).cell? ⟨G,1,none⟩=some (.int .i64 (i:Int)):=(cell_setRow_other _ R _ ⟨G,1,none⟩ (show G≠R by omega)).trans hat5
       have hst5:=LB.cellsNum (w:=w5.drew) HD5.out.res Tryz.zeroCells246 (by rw[zero_is,blk_size];rfl) (by rw[zero_is];exact blk_one _ _ _ rfl)
       have hsz5:(Tryz.zeroCells246).size=153:=by rw[zero_is,blk_size];rfl
       clear htx hat hfr
       go_region
       all_goals go_wp2_with fail
       all_goals
        try rw[Exit.noGoto_ret]
        have hm6:=(Mod.refl R w5).setRow Tryz.zeroCells246
        refine bodyPost_ret (v:=.tuple #[.agg (blk 0 (dg 0) [.int .i64 0]),errV (some i)]) (res_dig _ _ R 246 _ _ rfl rfl (by rw[←zero_is];exact setRow_heap w5 R _ _ _ (0,0) HD5.out.res) (by rw[blk_size];rfl)) rfl ?_
        exact⟨0,0,some i,i,0,HEN.out,hi,cnt_zero,by omega,by omega,Nat.pow_pos (by omega),rfl,HD5.out.rr.other hm6 (by omega),HD5.out.mod.late hm6 (by rw[HRR.out];exact Nat.le_refl _)⟩
    ·rw[decide_eq_false hdot]at HSE
     have HDT:Hid (¬bAt s i=46):=hdot
     clear hdot
     cases lack
     ·go_wp2_with fail
      go_quiet (fail)
      go_wp2_with fail
      go_region_held3 (fun w'=>w'.cell? ⟨G,0,none⟩=some (.string s)∧w'.cell? ⟨G,1,none⟩=some (.int .i64 (i:Int))) (go_keep) (first|(go_at_call 142;refine(HDV.out _).mono ?_;rintro e w' ⟨rfl,rfl⟩))
      all_goals go_wp2_with fail
      refine(HSE.out _ (by exact HD.out.rr)).mono ?_
      rintro e w' ⟨rfl,n,rfl⟩
      go_wp2_with fail
      have HEN:Hid (DgR b s k (valN b l) beh none i):=(st2_end HS.out hi HND.out (fun x=>HDT.out x.1)).2 rfl
      have HD5:Hid (DS2 w (wr.drewN (nq+1+n)) G R s i (valN b l) beh):=⟨HD.out.rr,HD.out.num,HD.out.res,HD.out.mod⟩
      generalize wr.drewN (nq+1+n)=w5 at *
      obtain⟨c5,hc5,hk5,hl5⟩:=HD5.out.num
      have HK5:Hid (cntOk c5 (valN b l)):=hk5
      have HL5:Hid (LB w5 (R+1) c5 (dg (valN b l)) [.int .i64 (beh:Int)] 246):=hl5
      have hst5:=LB.cellsNum (w:=w5) HD5.out.res (blk c5 (dg (valN b l)) [.int .i64 (beh:Int)]) (by rw[blk_size];rfl) (blk_one _ _ _ rfl)
      have hsz5:(blk c5 (dg (valN b l)) [.int .i64 (beh:Int)]).size=153:=by rw[blk_size];rfl
      clear htx hat hfr hk5 hl5
      refine HL5.out.wpLoadNum _ rfl rfl ?_
      go_at_K
      go_wp2_with fail
      try rw[Exit.noGoto_ret]
      have hm6:=(Mod.refl R w5).setRow (blk c5 (dg (valN b l)) [.int .i64 (beh:Int)])
      refine bodyPost_ret (v:=.tuple #[.agg (blk c5 (dg (valN b l)) [.int .i64 (beh:Int)]),errV none]) (res_dig _ _ R 246 _ _ rfl rfl (setRow_heap w5 R _ _ _ (0,0) HD5.out.res) hsz5) rfl ?_
      obtain⟨l1,l2,l3,l4⟩:=st2_len HS.out hi
      exact⟨valN b l,beh,none,i,c5,HEN.out,hi,HK5.out,hc5,by omega,Nat.lt_of_lt_of_le (valN_good_lt b l l4) (Nat.pow_le_pow_right (by omega) (by omega)),rfl,HD5.out.rr.other hm6 (by omega),HD5.out.mod.late hm6 (by rw[HRR.out];exact Nat.le_refl _)⟩
     ·go_wp2_with fail
      go_quiet (fail)
      go_wp2_with fail
      go_region_held3 (fun w'=>w'.cell? ⟨G,0,none⟩=some (.string s)∧w'.cell? ⟨G,1,none⟩=some (.int .i64 (i:Int))) (go_keep) (first|(go_at_call 142;refine(HDV.out _).mono ?_;rintro e w' ⟨rfl,rfl⟩))
      all_goals go_wp2_with fail
      refine(HSE.out _ (by exact HD.out.rr)).mono ?_
      rintro e w' ⟨rfl,n,rfl⟩
      go_wp2_with fail
      have HEN:Hid (DgR b s k 0 0 (some i) i):=(st2_end HS.out hi HND.out (fun x=>HDT.out x.1)).1 rfl 0 0
      have HD5:Hid (DS2 w (wr.drewN (nq+1+n)) G R s i (valN b l) beh):=⟨HD.out.rr,HD.out.num,HD.out.res,HD.out.mod⟩
      generalize wr.drewN (nq+1+n)=w5 at *
      have hat5:=HD5.out.rr.at_
      have hat6:(w5.drew.setRow R Tryz.zeroCells246).cell? ⟨G,1,none⟩=some (.int .i64 (i:Int)):=(cell_setRow_other _ R _ ⟨G,1,none⟩ (show G≠R by omega)).trans hat5
      have hst5:=LB.cellsNum (w:=w5.drew) HD5.out.res Tryz.zeroCells246 (by rw[zero_is,blk_size];rfl) (by rw[zero_is];exact blk_one _ _ _ rfl)
      have hsz5:(Tryz.zeroCells246).size=153:=by rw[zero_is,blk_size];rfl
      clear htx hat hfr
      go_region
      all_goals go_wp2_with fail
      all_goals
       try rw[Exit.noGoto_ret]
       have hm6:=(Mod.refl R w5).setRow Tryz.zeroCells246
       refine bodyPost_ret (v:=.tuple #[.agg (blk 0 (dg 0) [.int .i64 0]),errV (some i)]) (res_dig _ _ R 246 _ _ rfl rfl (by rw[←zero_is];exact setRow_heap w5 R _ _ _ (0,0) HD5.out.res) (by rw[blk_size];rfl)) rfl ?_
       exact⟨0,0,some i,i,0,HEN.out,hi,cnt_zero,by omega,by omega,Nat.pow_pos (by omega),rfl,HD5.out.rr.other hm6 (by omega),HD5.out.mod.late hm6 (by rw[HRR.out];exact Nat.le_refl _)⟩
  ·have hlt':decide ((i:Int)<(s.size:Int))=false:=decide_eq_false (by omega)
   have HND:Hid (¬Dig b s i):=fun h=>hlt h.1
   have HDT:Hid (¬bAt s i=46):=fun h=>by rw[bAt_out s i hlt]at h;omega
   cases lack
   ·go_wp2_with fail
    go_quiet (fail)
    go_wp2_with fail
    have HEN:Hid (DgR b s k (valN b l) beh none i):=(st2_end HS.out hi HND.out (fun x=>HDT.out x.1)).2 rfl
    have HD5:Hid (DS2 w (wr.drewN nq) G R s i (valN b l) beh):=⟨HD.out.rr,HD.out.num,HD.out.res,HD.out.mod⟩
    generalize wr.drewN nq=w5 at *
    obtain⟨c5,hc5,hk5,hl5⟩:=HD5.out.num
    have HK5:Hid (cntOk c5 (valN b l)):=hk5
    have HL5:Hid (LB w5 (R+1) c5 (dg (valN b l)) [.int .i64 (beh:Int)] 246):=hl5
    have hst5:=LB.cellsNum (w:=w5) HD5.out.res (blk c5 (dg (valN b l)) [.int .i64 (beh:Int)]) (by rw[blk_size];rfl) (blk_one _ _ _ rfl)
    have hsz5:(blk c5 (dg (valN b l)) [.int .i64 (beh:Int)]).size=153:=by rw[blk_size];rfl
    clear htx hat hfr hk5 hl5
    refine HL5.out.wpLoadNum _ rfl rfl ?_
    go_at_K
    go_wp2_with fail
    try rw[Exit.noGoto_ret]
    have hm6:=(Mod.refl R w5).setRow (blk c5 (dg (valN b l)) [.int .i64 (beh:Int)])
    refine bodyPost_ret (v:=.tuple #[.agg (blk c5 (dg (valN b l)) [.int .i64 (beh:Int)]),errV none]) (res_dig _ _ R 246 _ _ rfl rfl (setRow_heap w5 R _ _ _ (0,0) HD5.out.res) hsz5) rfl ?_
    obtain⟨l1,l2,l3,l4⟩:=st2_len HS.out hi
    exact⟨valN b l,beh,none,i,c5,HEN.out,hi,HK5.out,hc5,by omega,Nat.lt_of_lt_of_le (valN_good_lt b l l4) (Nat.pow_le_pow_right (by omega) (by omega)),rfl,HD5.out.rr.other hm6 (by omega),HD5.out.mod.late hm6 (by rw[HRR.out];exact Nat.le_refl _)⟩
   ·go_wp2_with fail
    go_quiet (fail)
    go_wp2_with fail
    have HEN:Hid (DgR b s k 0 0 (some i) i):=(st2_end HS.out hi HND.out (fun x=>HDT.out x.1)).1 rfl 0 0
    have HD5:Hid (DS2 w (wr.drewN nq) G R s i (valN b l) beh):=⟨HD.out.rr,HD.out.num,HD.out.res,HD.out.mod⟩
    generalize wr.drewN nq=w5 at *
    have hat5:=HD5.out.rr.at_
    have hat6:(w5.drew.setRow R Tryz.zeroCells246).cell? ⟨G,1,none⟩=some (.int .i64 (i:Int)):=(cell_setRow_other _ R _ ⟨G,1,none⟩ (show G≠R by omega)).trans hat5
    have hst5:=LB.cellsNum (w:=w5.drew) HD5.out.res Tryz.zeroCells246 (by rw[zero_is,blk_size];rfl) (by rw[zero_is];exact blk_one _ _ _ rfl)
    have hsz5:(Tryz.zeroCells246).size=153:=by rw[zero_is,blk_size];rfl
    clear htx hat hfr
    go_region
    all_goals go_wp2_with fail
    all_goals
     try rw[Exit.noGoto_ret]
     have hm6:=(Mod.refl R w5).setRow Tryz.zeroCells246
     refine bodyPost_ret (v:=.tuple #[.agg (blk 0 (dg 0) [.int .i64 0]),errV (some i)]) (res_dig _ _ R 246 _ _ rfl rfl (by rw[←zero_is];exact setRow_heap w5 R _ _ _ (0,0) HD5.out.res) (by rw[blk_size];rfl)) rfl ?_
     exact⟨0,0,some i,i,0,HEN.out,hi,cnt_zero,by omega,by omega,Nat.pow_pos (by omega),rfl,HD5.out.rr.other hm6 (by omega),HD5.out.mod.late hm6 (by rw[HRR.out];exact Nat.le_refl _)⟩
end Go.Proofs.YtenbfookfcmpoaaGreatDoor
