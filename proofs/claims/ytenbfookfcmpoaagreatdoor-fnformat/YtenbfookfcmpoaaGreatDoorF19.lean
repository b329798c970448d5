import Derived.Test.YtenbfookfcmpoaaGreatDoorF18
import Derived.Test.YtenbfookfcmpoaaGreatDoorF10
namespace Go.Proofs.YtenbfookfcmpoaaGreatDoor
open Go.ChangeShapes Go.WideShapes Go.RowKit Go.Shelf
attribute [local go_sem] Oper.semAt_some
def dguE(N:Nat)(i:Nat):Array Value:=#[.int .u8 (48+((N / 10 ^ i % 10:Nat):Int))]
theorem dch_ten(d:Nat)(h:d<10):((dch d).toNat:Int)=48+(d:Int):=by
 have:∀e:_root_.Fin 10,((dch e.val).toNat:Int)=48+(e.val:Int):=by decide
 exact this ⟨d,h⟩
theorem Own1.of_mod{T:TypeId}{N B:Nat}{w w':World}{c:Array Value}{fz:Nat × Nat}(h:Mod B w w')(hB:w.heap[B]? = some (.cells c T fz))(hN:N≤B):Own1 T N w w':=
 ⟨h.1,h.2.1,h.2.2.1,h.2.2.2.1,fun k o hk hc=>by
  have hne:k≠B:=by
   rintro rfl
   rw[hB]at hk
   cases hk
   rcases hc with hc|hc
   ·omega
   ·exact hc _ _ rfl
  rw[h.2.2.2.2 k (Array.getElem?_eq_some_iff.1 hk).1 hne]
  exact hk⟩
theorem Tab.mod{B:Nat}{w w':World}(h:Tab w)(hm:Mod B w w')(hw:1<w.heap.size)(hB:B≠1):Tab w':=fun i hi=>by
 rw[hm.cell (p:=⟨1,i,none⟩) (Ne.symm hB) hw]
 exact h i hi
theorem Tab.rnd{b:Nat}{w w':World}(h:Tab w)(hr:Rnd b w w')(hb:1<b):Tab w':=fun i hi=>by
 have:=World.cell?_of_block (w:=w) (w':=w') (a:=⟨1,i,none⟩) (hr.2.2 _ hb)
 rw[this]
 exact h i hi
theorem Lg.rnd{b B N:Nat}{w w':World}(h:Lg w B N [] 115)(hr:Rnd b w w')(hb:B≠b):Lg w' B N [] 115:=by
 obtain⟨c,h1,h2,h3⟩:=h
 exact⟨c,h1,h2,hr.2.1 _ _ _ _ h3 hb (by decide)⟩
set_option maxHeartbeats 4000000 in
set_option maxRecDepth 100000 in
theorem dgu_gives(b D:Nat)(N n c:Nat)(hn:DigN n N)(hc:c≤151)(hk:cntOk c N)(w:World)(hB:LB w D c (dg N) [] 115)(ht:Tab w)(hb:b<w.heap.size)(hgb:1<b) :
  Gives 115 b 102 #[.pointer (some ⟨D,0,none⟩)] (dguE N) n w:=by
 intro l J W hW hJ hY h0
 have HJ:Hid _:=hJ
 have HY:Hid _:=hY
 have HN:Hid (DigN n N):=hn
 have HL:Hid (LB W D c (dg N) [] 115):=(hW.block D hB.lt).trans hB
 have HT0:Hid (Tab W):=fun i hi=>by rw[hW.cell (p:=⟨1,i,none⟩) (by show 1<_;omega)];exact ht i hi
 have hWz:=hW.size
 have hz:=lg_zero
 rw[dg_nil]at hz
 obtain⟨C,hC⟩:∃C,blk 0 (dg 0) []=C:=⟨_,rfl⟩
 have HC:Hid (blk 0 (dg 0) []=C):=hC
 rw[hC]at hz
 clear hC hJ hY hB hn hW ht
 have HNEW:Hid (∀w':World,LB (w'.alloc (.cells C 115)) w'.heap.size 0 (dg 0) [] 115):=fun w'=>by rw[←HC.out];exact LB.new w' 0 (dg 0) [] _
 obtain⟨H,hH⟩:∃H,W.heap.size=H:=⟨_,rfl⟩
 rw[hH]at hWz
 have HLAY:Hid (∀ (i c' M:Nat) (wl:World),J i wl→Tab wl→H≤wl.heap.size→c'≤151→cntOk c' M→∃W1,(wl.alloc (.cells C 115)).setRow wl.heap.size (lgL c' (dg M)).toArray=W1∧J i W1∧Tab W1∧Lg W1 wl.heap.size M [] 115∧H≤W1.heap.size):=fun i c' M wl h1 h2 h3 h4 h5=>by
  have hnew:=HNEW.out wl
  have hb1:Below wl.heap.size wl (wl.alloc (.cells C 115)):=(Below.refl _ _).alloc (Nat.le_refl _) _
  have hm:=(Mod.refl wl.heap.size (wl.alloc (.cells C 115))).setRow (lgL c' (dg M)).toArray
  have hj1:J i (wl.alloc (.cells C 115)):=HJ.out i _ _ h1 (by rw[hH];exact Own1.below hb1)
  have ht1:Tab (wl.alloc (.cells C 115)):=h2.mod (Mod.of_below (B:=wl.heap.size) hb1) (by omega) (by omega)
  exact⟨_,rfl,HJ.out i _ _ hj1 (by rw[hH];exact Own1.of_mod hm hnew h3),ht1.mod hm (by simp;omega) (by omega),⟨c',h4,h5,hnew.stored⟩,by simp;omega⟩
 obtain⟨W1,hW1,hJ1,hT1,hG1,hz1⟩:=HLAY.out 0 c N W h0 HT0.out (by omega) hc hk
 have hst:=(HNEW.out W).cells c (dg N)
 have hln:=lgL_length c (dg N)
 have HJ1:Hid _:=hJ1
 have HT1:Hid _:=hT1
 have HG1:Hid _:=hG1
 rw[hW1,hH]at hst
 rw[hH]at HG1
 clear hJ1 hT1 hG1 hk hW1 HT0 h0
 refine callsIn_of_wp Tryz.func102 rfl trivial ?_ rfl
 simp only[Tryz.ntmps102,List.size_toArray,List.length_cons,List.length_nil,Nat.reduceAdd,Nat.reduceSub,Array.replicate_succ,Array.replicate_zero,List.push_toArray,List.append_toArray,List.nil_append,List.cons_append]
 gi_wp2
 refine HL.out.wpLoadIn _ rfl rfl ?_
 go_at_K
 gi_wp2
 gi_loopw [3] (fun p wr=>∃ (k L:Nat),p=.pointer (some ⟨L,0,none⟩)∧k≤n∧H≤L∧Hid (J k wr)∧Hid (Lg wr L (N / 10 ^ k) [] 115)∧Hid (Tab wr)∧H≤wr.heap.size) (fun p wr=>lgVal wr p)
 case atStart=>exact⟨0,H,rfl,by omega,Nat.le_refl _,HJ1.out,by show Lg _ _ _ _ _;rw[Nat.pow_zero,Nat.div_one];exact HG1.out,HT1.out,hz1⟩
 case round=>
  clear HJ1 HG1 HT1 hst hln
  obtain⟨k,L,rfl,hk,hL,HJk,HG,HT,hzr⟩:=hrel
  by_cases hkn:k<n
  ·have HPOS:Hid (0<N / 10 ^ k):=(dig_pos HN.out k).2 hkn
   obtain⟨c1,hc1,hk1,hl1⟩:=HG.out
   have hcnt:=hl1.cnt
   have hcp:(0:Int)<(c1:Int):=by have:=(cnt_pos hk1).2 HPOS.out;omega
   have HDV:Hid _:=fun(_:Unit)=>divide_any L (N / 10 ^ k) 1000000000 [] 115 wr HG.out (by omega) (by omega)
   have HL1:Hid _:=hl1
   clear hl1 hk1 hc1
   gi_wp2
   refine⟨trivial,rfl,(callsIn_wide.2 (HDV.out ())).mono ?_⟩
   rintro e w2 ⟨rfl,hm,hg⟩
   have HG2:Hid (Lg w2 L (N / 10 ^ k / 1000000000) [] 115):=hg
   have HJ2:Hid (J k w2):=HJ.out k wr w2 HJk.out (by rw[hH];exact Own1.of_mod hm HL1.out hL)
   have HT2:Hid (Tab w2):=HT.out.mod hm (by omega) (by omega)
   have hz2:H≤w2.heap.size:=Nat.le_trans hzr hm.size
   obtain⟨c0,hc0⟩:∃c0,N / 10 ^ k % 1000000000=c0:=⟨_,rfl⟩
   have HC0:Hid (N / 10 ^ k % 1000000000=c0):=hc0
   have hc0b:c0<1000000000:=by rw[←hc0];exact Nat.mod_lt _ (by omega)
   have HV1:Hid (lgVal wr (.pointer (some ⟨L,0,none⟩))=N / 10 ^ k):=lgVal_is HG.out
   rw[hc0]
   clear hc0 hm hg HDV HL1 hcnt hcp HG HJk HT
   gi_wp2
   gi_loopw [4,5] (fun cv iv wl=>∃i:Nat,iv=.int .i64 (i:Int)∧cv=.int .u64 ((c0 / 10 ^ i:Nat):Int)∧i≤9∧k+i≤n∧Hid (J (k+i) wl)∧Hid (Lg wl L (N / 10 ^ k / 1000000000) [] 115)∧Hid (Tab wl)∧H≤wl.heap.size) (fun _ iv _=>9-(intOf iv).toNat)
   case atStart=>exact⟨0,rfl,by simp,by omega,by omega,HJ2.out,HG2.out,HT2.out,hz2⟩
   case round=>
    clear HJ2 HG2 HT2 hz2
    obtain⟨i,rfl,rfl,hi,hki,HJi,HGi,HTi,hzi⟩:=hrel
    obtain⟨c2,hc2,hk2,hl2⟩:=HGi.out
    have hcnt:=hl2.cnt
    have HL2:Hid (LB wr L c2 (dg (N / 10 ^ k / 1000000000)) [] 115):=hl2
    clear hl2
    by_cases hi9:i<9
    ·have hmore:=chunk_more HN.out k i hi9
     rw[HC0.out]at hmore
     have hi9':(i:Int)<9:=by omega
     by_cases hlt:k+i<n
     ·obtain⟨q,hq⟩:∃q,c0 / 10 ^ i=q:=⟨_,rfl⟩
      have hqb:q<1000000000:=by rw[←hq];exact Nat.lt_of_le_of_lt (Nat.div_le_self _ _) hc0b
      obtain⟨d,hd⟩:∃d,q % 10=d:=⟨_,rfl⟩
      have hd10:d<10:=by omega
      have hdi:(q:Int) % 10=(d:Int):=by omega
      have HDG:Hid (d=N / 10 ^ (k+i) % 10):=by
       show d=_
       rw[←hd,←hq,←HC0.out,chunk_digit _ i hi9,div_ten]
      have HQ2:Hid (((q:Int) / 10)=((c0 / 10 ^ (i+1):Nat):Int)):=by
       show _=_
       rw[Nat.pow_succ,←Nat.div_div_eq_div_mul,hq]
       omega
      rw[hq]at hmore ⊢
      by_cases hq0:0<q
      ·have hq0':(0:Int)<(q:Int):=by omega
       clear hmore hk2 hd hq
       have hcell:=HTi.out d (by omega)
       rw[dch_ten d hd10]at hcell
       obtain⟨fn,tmps,assign,body,hy,hR⟩:=HY.out (k+i) hlt wr HJi.out
       rw[dguE,←HDG.out]at hy
       gi_wp2
       refine⟨rfl,hR.mono ?_⟩
       rintro e W3 ⟨rfl,hJ3,hr3⟩
       have HJ3:Hid (J (k+(i+1)) W3):=by rw[←Nat.add_assoc];exact hJ3
       have HG3:Hid (Lg W3 L (N / 10 ^ k / 1000000000) [] 115):=HGi.out.rnd hr3 (by omega)
       have HT3:Hid (Tab W3):=HTi.out.rnd hr3 hgb
       have hz3:H≤W3.heap.size:=Nat.le_trans hzi hr3.1
       clear hJ3 hr3 hy hR hcell
       gi_wp2
       go_roundw
       case rel=>exact⟨i+1,rfl,by rw[←HQ2.out],by omega,by omega,HJ3.out,HG3.out,HT3.out,hz3⟩
       case measure=>
        show 9-((i:Int)+1).toNat<9-(i:Int).toNat
        omega
      ·obtain rfl:q=0:=by omega
       have hc2p:(0:Int)<(c2:Int):=by
        have:=hmore.2 hlt
        have:=(cnt_pos hk2).2 (by omega)
        omega
       obtain rfl:d=0:=by omega
       clear hmore hk2 hd hq hdi hqb hq0
       have hcell:=HTi.out 0 (by omega)
       rw[dch_ten 0 hd10,show(48:Int)+((0:Nat):Int)=48 from rfl]at hcell
       obtain⟨fn,tmps,assign,body,hy,hR⟩:=HY.out (k+i) hlt wr HJi.out
       rw[dguE,←HDG.out,show(48:Int)+((0:Nat):Int)=48 from rfl]at hy
       gi_wp2
       refine⟨rfl,hR.mono ?_⟩
       rintro e W3 ⟨rfl,hJ3,hr3⟩
       have HJ3:Hid (J (k+(i+1)) W3):=by rw[←Nat.add_assoc];exact hJ3
       have HG3:Hid (Lg W3 L (N / 10 ^ k / 1000000000) [] 115):=HGi.out.rnd hr3 (by omega)
       have HT3:Hid (Tab W3):=HTi.out.rnd hr3 hgb
       have hz3:H≤W3.heap.size:=Nat.le_trans hzi hr3.1
       clear hJ3 hr3 hy hR hcell
       gi_wp2
       go_roundw
       case rel=>exact⟨i+1,rfl,by rw[←HQ2.out];rfl,by omega,by omega,HJ3.out,HG3.out,HT3.out,hz3⟩
       case measure=>
        show 9-((i:Int)+1).toNat<9-(i:Int).toNat
        omega
     ·have HEND:Hid (N / 10 ^ k / 1000000000=N / 10 ^ (k+i)):=chunk_end HN.out k i hi hki (by omega)
      have hno:¬(0<c0 / 10 ^ i∨0<N / 10 ^ k / 1000000000):=fun h=>hlt (hmore.1 h)
      have hq0:c0 / 10 ^ i=0:=Nat.eq_zero_of_not_pos fun h=>hno (.inl h)
      have hc2z:(c2:Int)=0:=by
       have h1:=(cnt_pos hk2).1
       have h2:¬0<c2:=fun h=>hno (.inr (h1 h))
       omega
      have hi1:k<k+i:=by omega
      rw[hq0]
      rw[hc2z]at hcnt
      clear hno hmore
      obtain⟨W4,hW4,hJ4,hT4,hG4,hz4⟩:=HLAY.out (k+i) c2 (N / 10 ^ k / 1000000000) wr HJi.out HTi.out hzi hc2 hk2
      have HJ4:Hid _:=hJ4
      have HT4:Hid _:=hT4
      have HG4:Hid (Lg W4 wr.heap.size (N / 10 ^ (k+i)) [] 115):=by rw[←HEND.out];exact hG4
      have hst4:=(HNEW.out wr).cells c2 (dg (N / 10 ^ k / 1000000000))
      have hln4:=lgL_length c2 (dg (N / 10 ^ k / 1000000000))
      rw[hW4]at hst4
      have HLT:Hid (N / 10 ^ (k+i)<N / 10 ^ k):=div_less_ten N k (k+i) HPOS.out hi1
      clear hJ4 hT4 hG4 hk2 hW4
      gi_wp2
      refine HL2.out.wpLoadIn _ rfl rfl ?_
      go_at_K
      gi_wp2
      go_roundw
      case rel=>exact⟨k+i,wr.heap.size,rfl,hki,hzi,HJ4.out,HG4.out,HT4.out,hz4⟩
      case measure=>rw[HV1.out,lgVal_is HG4.out];exact HLT.out
    ·have HEND:Hid (N / 10 ^ k / 1000000000=N / 10 ^ (k+i)):=chunk_end HN.out k i hi hki (by omega)
     have hi9':(i:Int)=9:=by omega
     have hi1:k<k+i:=by omega
     rw[hi9']
     obtain⟨W4,hW4,hJ4,hT4,hG4,hz4⟩:=HLAY.out (k+i) c2 (N / 10 ^ k / 1000000000) wr HJi.out HTi.out hzi hc2 hk2
     have HJ4:Hid _:=hJ4
     have HT4:Hid _:=hT4
     have HG4:Hid (Lg W4 wr.heap.size (N / 10 ^ (k+i)) [] 115):=by rw[←HEND.out];exact hG4
     have hst4:=(HNEW.out wr).cells c2 (dg (N / 10 ^ k / 1000000000))
     have hln4:=lgL_length c2 (dg (N / 10 ^ k / 1000000000))
     rw[hW4]at hst4
     have HLT:Hid (N / 10 ^ (k+i)<N / 10 ^ k):=div_less_ten N k (k+i) HPOS.out hi1
     clear hJ4 hT4 hG4 hk2 hW4
     gi_wp2
     refine HL2.out.wpLoadIn _ rfl rfl ?_
     go_at_K
     gi_wp2
     go_roundw
     case rel=>exact⟨k+i,wr.heap.size,rfl,hki,hzi,HJ4.out,HG4.out,HT4.out,hz4⟩
     case measure=>rw[HV1.out,lgVal_is HG4.out];exact HLT.out
  ·obtain rfl:k=n:=by omega
   have HZ:Hid (N / 10 ^ k=0):=Nat.eq_zero_of_not_pos fun h=>by have:=(dig_pos HN.out k).1 h;omega
   obtain⟨c1,hc1,hk1,hl1⟩:=HG.out
   have hcnt:=hl1.cnt
   have hcz:(c1:Int)=0:=by
    have:=(cnt_pos hk1).1
    rw[HZ.out]at this
    omega
   rw[hcz]at hcnt
   clear hl1 hk1 hc1
   gi_wp2
   go_end0
   exact⟨⟨_,rfl⟩,HJk.out⟩
end Go.Proofs.YtenbfookfcmpoaaGreatDoor
