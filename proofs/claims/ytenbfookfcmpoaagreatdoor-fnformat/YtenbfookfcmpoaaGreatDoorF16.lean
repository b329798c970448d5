import Derived.Test.YtenbfookfcmpoaaGreatDoorF14
import Derived.Test.YtenbfookfcmpoaaGreatDoorF04
import Derived.Test.YtenbfookfcmpoaaGreatDoorF10
set_option maxHeartbeats 4000000
namespace Go.Proofs.YtenbfookfcmpoaaGreatDoor
open Go.ChangeShapes Go.WideShapes Go.RowKit
theorem or_word(a b:Nat)(ha:a<4294967296)(hb:b<4294967296):bits .or .u64 ((a:Int)*4294967296) (b:Int)=((a*4294967296+b:Nat):Int):=by
 have e1:((a:Int)*4294967296)=((a*4294967296:Nat):Int):=by omega
 rw[e1,u64_or_nat _ _ (by omega) (by omega)]
 have:=Nat.two_pow_add_eq_or_of_lt (show b<2 ^ 32 from hb) a
 rw[show 2 ^ 32*a=a*4294967296 by omega]at this
 rw[this]
theorem div_word(N d i:Nat)(hd:0<d):N / be ^ (i+1) % d*4294967296+dg N i<d*4294967296
  ∧ (N / be ^ (i+1) % d*4294967296+dg N i) / d=dg (N / d) i∧(N / be ^ (i+1) % d*4294967296+dg N i) % d=N / be ^ i % d:=by
 have h1:N / be ^ i=be*(N / be ^ (i+1))+dg N i:=(dg_cmp N N i rfl).1
 obtain⟨X,hX⟩:∃X,N / be ^ (i+1)=X:=⟨_,rfl⟩
 rw[hX]at h1 ⊢
 have hg:=dg_lt N i
 have hr:X % d<d:=Nat.mod_lt _ hd
 have hx:=Nat.div_add_mod X d
 have h2:N / be ^ i=d*(4294967296*(X / d))+(X % d*4294967296+dg N i):=by
  rw[h1,be_eq]
  have:4294967296*X=4294967296*(d*(X / d))+4294967296*(X % d):=by rw[←Nat.mul_add,hx]
  rw[Nat.mul_left_comm]at this
  omega
 have h3:X % d*4294967296+dg N i<d*4294967296:=by
  have:(X % d+1)*4294967296≤d*4294967296:=Nat.mul_le_mul_right _ hr
  omega
 refine⟨h3,?_,?_⟩
 ·have h4:dg (N / d) i=N / be ^ i / d % be:=by
   unfold dg
   rw[Nat.div_div_eq_div_mul,Nat.div_div_eq_div_mul,Nat.mul_comm]
  rw[h4,h2,Nat.mul_add_div hd,be_eq,Nat.mul_add_mod]
  refine(Nat.mod_eq_of_lt ?_).symm
  rw[Nat.div_lt_iff_lt_mul hd]
  omega
 ·rw[h2,Nat.mul_add_mod]
set_option maxRecDepth 100000 in
theorem divide_any(B N d:Nat)(R:List Value)(t:TypeId)(w:World)(h:Lg w B N R t)(hd:0<d)(hd2:d<4294967296) :
  Calls Tryz.prog 103 #[.pointer (some ⟨B,0,none⟩),.int .u64 (d:Int)] w fun e w'=>e=.returned (.int .u64 ((N % d:Nat):Int))∧Mod B w w'∧Lg w' B (N / d) R t:=by
 have HW:Hid _:=fun v w=>width_any v w
 obtain⟨c,hc,hk,hl⟩:=h
 obtain⟨M,hM⟩:∃M,N / d=M:=⟨_,rfl⟩
 have HM:Hid (N / d=M):=hM
 rw[hM]
 have HK:Hid (cntOk c N):=hk
 have HL:Hid (LB w B c (dg N) R t):=hl
 have hcnt:=hl.cnt
 have HMB:Hid (M<be ^ c):=by rw[←hM];exact Nat.lt_of_le_of_lt (Nat.div_le_self _ _) hk.1
 clear hk hl hM
 go_enter Tryz.func103,Tryz.ntmps103
 go_wp2
 go_loopw [4,5] (fun rv iv wl=>∃ (i r:Nat) (x:Int),rv=.int .u64 (r:Int)∧iv=.int .i64 x∧x=(i:Int)-1∧i≤c∧r<d∧Hid (N / be ^ i % d=r)∧Hid (LB wl B c (wtop N M i) R t)∧Hid (Mod B w wl)) (fun _ iv _=>(intOf iv+1).toNat)
 case atStart=>
  refine⟨c,0,_,rfl,rfl,by omega,Nat.le_refl _,hd,?_,?_,Mod.refl B w⟩
  ·show _=_
   rw[Nat.div_eq_of_lt HK.out.1,Nat.zero_mod]
  ·exact HL.out.congr (wtop N M c) fun j _=>by
    unfold wtop
    split
    ·rfl
    ·rw[dg_above N j c HK.out.1 (by omega),dg_above M j c HMB.out (by omega)]
 case round=>
  clear hcnt
  obtain⟨i,r,x,rfl,rfl,hx,hi,hr,HRr,HB,HMd⟩:=hrel
  by_cases h0:0<i
  ·obtain⟨k,rfl⟩:∃k,i=k+1:=⟨i-1,by omega⟩
   obtain rfl:x=(k:Int):=by omega
   have hk0:(0:Int)≤(k:Int):=by omega
   have hk1:(k:Int)<151:=by omega
   obtain⟨z1,z2,z3⟩:=div_word N d k hd
   rw[HRr.out]at z1 z2 z3
   obtain⟨g,hg⟩:∃g,dg N k=g:=⟨_,rfl⟩
   have hg1:g<4294967296:=by rw[←hg];exact dg_lt _ _
   have hw:=HB.out.wrd' k (by omega)
   rw[wtop_low _ _ _ _ (by omega),hg]at hw
   rw[hg]at z1 z2 z3
   have hor:=or_word r g (by omega) hg1
   obtain⟨T,hT⟩:∃T,r*4294967296+g=T:=⟨_,rfl⟩
   rw[hT]at hor z1 z2 z3
   have hT64:T<18446744073709551616:=by
    have:d*4294967296≤4294967295*4294967296:=Nat.mul_le_mul_right _ (by omega)
    omega
   have hsh:(r:Int)*4294967296 % 18446744073709551616=(r:Int)*4294967296:=by omega
   have hfr:=HB.out.froz (1+k)
   have hdI:(0:Int)<(d:Int):=by omega
   have hqd:(T:Int) / (d:Int)=((dg M k:Nat):Int):=by rw[←Int.natCast_ediv,z2,HM.out]
   have hqm:(T:Int) % (d:Int)=((N / be ^ k % d:Nat):Int):=by rw[←Int.natCast_emod,z3]
   have hdg:=dg_lt M k
   have HZ:Hid (N / be ^ k % d<d):=Nat.mod_lt _ hd
   clear z1 z2 z3 h0 hx hT hg
   generalize hP:N / be ^ k % d=P at *
   have HP:Hid (N / be ^ k % d=P):=hP
   clear hP
   generalize hG:dg M k=G at *
   have HG:Hid (dg M k=G):=hG
   clear hG
   go_wp2
   go_quiet (first|(go_at_call 99;exact Calls.quiet_of_same (HW.out _ _)))
   go_wp2
   go_region
   all_goals
    go_wp2
    rw[hqm]
    refine⟨⟨k,P,(k:Int)-1,rfl,rfl,rfl,by omega,HZ.out,HP.out,?_,(HMd.out.drewN _).setCell _ _⟩,by show((k:Int)-1+1).toNat<((k:Int)+1).toNat;omega⟩
    have h1:=(HB.out.drewN (nq+1)).setw' k (dg M k) (by omega)
    rw[wtop_step,HG.out]at h1
    exact h1
  ·have h0':decide ((0:Int)≤x)=false:=decide_eq_false (by omega)
   obtain rfl:i=0:=by omega
   have HT:Hid (LB wr B c (dg M) R t):=HB.out.congr _ fun j _=>by unfold wtop;rw[if_neg (by omega)]
   have HRz:Hid (N % d=r):=by
    have:=HRr.out
    rw[Nat.pow_zero,Nat.div_one]at this
    exact this
   go_wp2_with (go_at_call 101;refine(trim_any B M c R t _ hc HMB.out HT.out).mono ?_;rintro e w' ⟨rfl,hm1,hg⟩)
   go_ret
   exact⟨by rw[HRz.out];rfl,HMd.out.trans hm1,hg⟩
end Go.Proofs.YtenbfookfcmpoaaGreatDoor
namespace Go.Proofs.YtenbfookfcmpoaaGreatDoor
open Go.ChangeShapes Go.WideShapes Go.RowKit Go.Shelf
theorem LB.wpLoadIn{w:World}{B c:Nat}{f:Nat→Nat}{R:List Value}{t:TypeId}(h:LB w B c f R t){op:Oper}{a:Act}{K:Act→World→Prop}{Q:Exit→Act→World→Prop}(x:Operand)(ho:op.op=.load 115 x)
  (hx:a.eval x=.pointer (some ⟨B,0,none⟩)) (hk:K (a.put op.dst (.agg (lgL c f).toArray)) w):op.wpIn Fence.wide 0 Tryz.prog a w K Q:=by
 obtain⟨d,hd,hr⟩:=lg_desc
 refine⟨fun _ _=>trivial,?_⟩
 show op.uponIn Fence.wide 0 Tryz.prog a K Q ((execOp a.eval op).run Tryz.prog w)
 unfold execOp
 simp only[ho,hx,Instr.loadAt,Instr.sureAddr,Sem.run_bind,Sem.run_pure,Result.andThen_ok,run_loadVar_mid w B 0 115 (lgL c f) d h.range hd hr (by rw[lgL_length];exact lg_size)]
 exact hk
attribute [local go_sem] Oper.semAt_some
def dguE(N:Nat)(i:Nat):Array Value:=#[.int .u8 (48+((N / 10 ^ i % 10:Nat):Int))]
theorem dch_ten(d:Nat)(h:d<10):((dch d).toNat:Int)=48+(d:Int):=by
 have:∀e:_root_.Fin 10,((dch e.val).toNat:Int)=48+(e.val:Int):=by decide
 exact this ⟨d,h⟩
theorem Own1.of_mod{T:TypeId}{N B:Nat}{w w':World}{c:Array Value}{fz:Nat × Nat}(h:Mod B w w')(hB:w.heap[B]? = some (.cells c T fz))(hN:N≤B):Own1 T N w w':=
 ⟨h.1,h.2.1,h.2.2.1,h.2.2.2.1,fun k o hk hc=>by
  have hne:k≠B:=by
   rintro rfl
   rw[hB]at hk
   cases hk
   rcases hc with hc|hc
   ·omega
   ·exact hc _ _ rfl
  rw[h.2.2.2.2 k (Array.getElem?_eq_some_iff.1 hk).1 hne]
  exact hk⟩
theorem Tab.mod{B:Nat}{w w':World}(h:Tab w)(hm:Mod B w w')(hw:1<w.heap.size)(hB:B≠1):Tab w':=fun i hi=>by
 rw[hm.cell (p:=⟨1,i,none⟩) (Ne.symm hB) hw]
 exact h i hi
theorem Tab.rnd{b:Nat}{w w':World}(h:Tab w)(hr:Rnd b w w')(hb:1<b):Tab w':=fun i hi=>by
 have:=World.cell?_of_block (w:=w) (w':=w') (a:=⟨1,i,none⟩) (hr.2.2 _ hb)
 rw[this]
 exact h i hi
theorem Lg.rnd{b B N:Nat}{w w':World}(h:Lg w B N [] 115)(hr:Rnd b w w')(hb:B≠b):Lg w' B N [] 115:=by
 obtain⟨c,h1,h2,h3⟩:=h
 exact⟨c,h1,h2,hr.2.1 _ _ _ _ h3 hb (by decide)⟩
set_option maxRecDepth 100000 in
theorem dgu_gives(b D:Nat)(N n c:Nat)(hn:DigN n N)(hc:c≤151)(hk:cntOk c N)(w:World)(hB:LB w D c (dg N) [] 115)(ht:Tab w)(hb:b<w.heap.size)(hgb:1<b) :
  Gives 115 b 102 #[.pointer (some ⟨D,0,none⟩)] (dguE N) n w:=by
 intro l J W hW hJ hY h0
 have HJ:Hid _:=hJ
 have HY:Hid _:=hY
 have HN:Hid (DigN n N):=hn
 have HL:Hid (LB W D c (dg N) [] 115):=(hW.block D hB.lt).trans hB
 have HT0:Hid (Tab W):=fun i hi=>by rw[hW.cell (p:=⟨1,i,none⟩) (by show 1<_;omega)];exact ht i hi
 have hWz:=hW.size
 have hz:=lg_zero
 rw[dg_nil]at hz
 obtain⟨C,hC⟩:∃C,blk 0 (dg 0) []=C:=⟨_,rfl⟩
 have HC:Hid (blk 0 (dg 0) []=C):=hC
 rw[hC]at hz
 clear hC hJ hY hB hn hW ht
 have HNEW:Hid (∀w':World,LB (w'.alloc (.cells C 115)) w'.heap.size 0 (dg 0) [] 115):=fun w'=>by rw[←HC.out];exact LB.new w' 0 (dg 0) [] _
 obtain⟨H,hH⟩:∃H,W.heap.size=H:=⟨_,rfl⟩
 rw[hH]at hWz
 -- a number laid anew: what was said before is said still
 have HLAY:Hid (∀ (i c' M:Nat) (wl:World),J i wl→Tab wl→H≤wl.heap.size→c'≤151→cntOk c' M→∃W1,(wl.alloc (.cells C 115)).setRow wl.heap.size (lgL c' (dg M)).toArray=W1∧J i W1∧Tab W1∧Lg W1 wl.heap.size M [] 115∧H≤W1.heap.size):=fun i c' M wl h1 h2 h3 h4 h5=>by
  have hnew:=HNEW.out wl
  have hb1:Below wl.heap.size wl (wl.alloc (.cells C 115)):=(Below.refl _ _).alloc (Nat.le_refl _) _
  have hm:=(Mod.refl wl.heap.size (wl.alloc (.cells C 115))).setRow (lgL c' (dg M)).toArray
  have hj1:J i (wl.alloc (.cells C 115)):=HJ.out i _ _ h1 (by rw[hH];exact Own1.below hb1)
  have ht1:Tab (wl.alloc (.cells C 115)):=h2.mod (Mod.of_below (B:=wl.heap.size) hb1) (by omega) (by omega)
  exact⟨_,rfl,HJ.out i _ _ hj1 (by rw[hH];exact Own1.of_mod hm hnew h3),ht1.mod hm (by simp;omega) (by omega),⟨c',h4,h5,hnew.stored⟩,by simp;omega⟩
 obtain⟨W1,hW1,hJ1,hT1,hG1,hz1⟩:=HLAY.out 0 c N W h0 HT0.out (by omega) hc hk
 have hst:=(HNEW.out W).cells c (dg N)
 have hln:=lgL_length c (dg N)
 have HJ1:Hid _:=hJ1
 have HT1:Hid _:=hT1
 have HG1:Hid _:=hG1
 rw[hW1,hH]at hst
 rw[hH]at HG1
 clear hJ1 hT1 hG1 hk hW1 HT0 h0
 refine callsIn_of_wp Tryz.func102 rfl trivial ?_ rfl
 simp only[Tryz.ntmps102,List.size_toArray,List.length_cons,List.length_nil,Nat.reduceAdd,Nat.reduceSub,Array.replicate_succ,Array.replicate_zero,List.push_toArray,List.append_toArray,List.nil_append,List.cons_append]
 gi_wp2
 refine HL.out.wpLoadIn _ rfl rfl ?_
 go_at_K
 gi_wp2
 gi_loopw [3] (fun p wr=>∃ (k L:Nat),p=.pointer (some ⟨L,0,none⟩)∧k≤n∧H≤L∧Hid (J k wr)∧Hid (Lg wr L (N / 10 ^ k) [] 115)∧Hid (Tab wr)∧H≤wr.heap.size) (fun p wr=>lgVal wr p)
 case atStart=>exact⟨0,H,rfl,by omega,Nat.le_refl _,HJ1.out,by show Lg _ _ _ _ _;rw[Nat.pow_zero,Nat.div_one];exact HG1.out,HT1.out,hz1⟩
 case round=>
  clear HJ1 HG1 HT1 hst hln
  obtain⟨k,L,rfl,hk,hL,HJk,HG,HT,hzr⟩:=hrel
  by_cases hkn:k<n
  ·have HPOS:Hid (0<N / 10 ^ k):=(dig_pos HN.out k).2 hkn
   obtain⟨c1,hc1,hk1,hl1⟩:=HG.out
   have hcnt:=hl1.cnt
   have hcp:(0:Int)<(c1:Int):=by have:=(cnt_pos hk1).2 HPOS.out;omega
   have HDV:Hid _:=fun(_:Unit)=>divide_any L (N / 10 ^ k) 1000000000 [] 115 wr HG.out (by omega) (by omega)
   have HL1:Hid _:=hl1
   clear hl1 hk1 hc1
   gi_wp2
   refine⟨trivial,rfl,(callsIn_wide.2 (HDV.out ())).mono ?_⟩
   rintro e w2 ⟨rfl,hm,hg⟩
   have HG2:Hid (Lg w2 L (N / 10 ^ k / 1000000000) [] 115):=hg
   have HJ2:Hid (J k w2):=HJ.out k wr w2 HJk.out (by rw[hH];exact Own1.of_mod hm HL1.out hL)
   have HT2:Hid (Tab w2):=HT.out.mod hm (by omega) (by omega)
   have hz2:H≤w2.heap.size:=Nat.le_trans hzr hm.size
   obtain⟨c0,hc0⟩:∃c0,N / 10 ^ k % 1000000000=c0:=⟨_,rfl⟩
   have HC0:Hid (N / 10 ^ k % 1000000000=c0):=hc0
   have hc0b:c0<1000000000:=by rw[←hc0];exact Nat.mod_lt _ (by omega)
   have HV1:Hid (lgVal wr (.pointer (some ⟨L,0,none⟩))=N / 10 ^ k):=lgVal_is HG.out
   rw[hc0]
   clear hc0 hm hg HDV HL1 hcnt hcp HG HJk HT
   gi_wp2
   gi_loopw [4,5] (fun cv iv wl=>∃i:Nat,iv=.int .i64 (i:Int)∧cv=.int .u64 ((c0 / 10 ^ i:Nat):Int)∧i≤9∧k+i≤n∧Hid (J (k+i) wl)∧Hid (Lg wl L (N / 10 ^ k / 1000000000) [] 115)∧Hid (Tab wl)∧H≤wl.heap.size) (fun _ iv _=>9-(intOf iv).toNat)
   case atStart=>exact⟨0,rfl,by simp,by omega,by omega,HJ2.out,HG2.out,HT2.out,hz2⟩
   case round=>
    clear HJ2 HG2 HT2 hz2
    obtain⟨i,rfl,rfl,hi,hki,HJi,HGi,HTi,hzi⟩:=hrel
    obtain⟨c2,hc2,hk2,hl2⟩:=HGi.out
    have hcnt:=hl2.cnt
    have HL2:Hid (LB wr L c2 (dg (N / 10 ^ k / 1000000000)) [] 115):=hl2
    clear hl2
    by_cases hi9:i<9
    ·have hmore:=chunk_more HN.out k i hi9
     rw[HC0.out]at hmore
     have hi9':(i:Int)<9:=by omega
     by_cases hlt:k+i<n
     ·obtain⟨q,hq⟩:∃q,c0 / 10 ^ i=q:=⟨_,rfl⟩
      have hqb:q<1000000000:=by rw[←hq];exact Nat.lt_of_le_of_lt (Nat.div_le_self _ _) hc0b
      obtain⟨d,hd⟩:∃d,q % 10=d:=⟨_,rfl⟩
      have hd10:d<10:=by omega
      have hdi:(q:Int) % 10=(d:Int):=by omega
      have HDG:Hid (d=N / 10 ^ (k+i) % 10):=by
       show d=_
       rw[←hd,←hq,←HC0.out,chunk_digit _ i hi9,div_ten]
      have HQ2:Hid (((q:Int) / 10)=((c0 / 10 ^ (i+1):Nat):Int)):=by
       show _=_
       rw[Nat.pow_succ,←Nat.div_div_eq_div_mul,hq]
       omega
      rw[hq]at hmore ⊢
      by_cases hq0:0<q
      ·have hq0':(0:Int)<(q:Int):=by omega
       clear hmore hk2 hd hq
       have hcell:=HTi.out d (by omega)
       rw[dch_ten d hd10]at hcell
       obtain⟨fn,tmps,assign,body,hy,hR⟩:=HY.out (k+i) hlt wr HJi.out
       rw[dguE,←HDG.out]at hy
       gi_wp2
       refine⟨rfl,hR.mono ?_⟩
       rintro e W3 ⟨rfl,hJ3,hr3⟩
       have HJ3:Hid (J (k+(i+1)) W3):=by rw[←Nat.add_assoc];exact hJ3
       have HG3:Hid (Lg W3 L (N / 10 ^ k / 1000000000) [] 115):=HGi.out.rnd hr3 (by omega)
       have HT3:Hid (Tab W3):=HTi.out.rnd hr3 hgb
       have hz3:H≤W3.heap.size:=Nat.le_trans hzi hr3.1
       clear hJ3 hr3 hy hR hcell
       gi_wp2
       go_roundw
       case rel=>exact⟨i+1,rfl,by rw[←HQ2.out],by omega,by omega,HJ3.out,HG3.out,HT3.out,hz3⟩
       case measure=>
        show 9-((i:Int)+1).toNat<9-(i:Int).toNat
        omega
      ·obtain rfl:q=0:=by omega
       have hc2p:(0:Int)<(c2:Int):=by
        have:=hmore.2 hlt
        have:=(cnt_pos hk2).2 (by omega)
        omega
       obtain rfl:d=0:=by omega
       clear hmore hk2 hd hq hdi hqb hq0
       have hcell:=HTi.out 0 (by omega)
       rw[dch_ten 0 hd10,show(48:Int)+((0:Nat):Int)=48 from rfl]at hcell
       obtain⟨fn,tmps,assign,body,hy,hR⟩:=HY.out (k+i) hlt wr HJi.out
       rw[dguE,←HDG.out,show(48:Int)+((0:Nat):Int)=48 from rfl]at hy
       gi_wp2
       refine⟨rfl,hR.mono ?_⟩
       rintro e W3 ⟨rfl,hJ3,hr3⟩
       have HJ3:Hid (J (k+(i+1)) W3):=by rw[←Nat.add_assoc];exact hJ3
       have HG3:Hid (Lg W3 L (N / 10 ^ k / 1000000000) [] 115):=HGi.out.rnd hr3 (by omega)
       have HT3:Hid (Tab W3):=HTi.out.rnd hr3 hgb
       have hz3:H≤W3.heap.size:=Nat.le_trans hzi hr3.1
       clear hJ3 hr3 hy hR hcell
       gi_wp2
       go_roundw
       case rel=>exact⟨i+1,rfl,by rw[←HQ2.out];rfl,by omega,by omega,HJ3.out,HG3.out,HT3.out,hz3⟩
       case measure=>
        show 9-((i:Int)+1).toNat<9-(i:Int).toNat
        omega
     ·have HEND:Hid (N / 10 ^ k / 1000000000=N / 10 ^ (k+i)):=chunk_end HN.out k i hi hki (by omega)
      have hno:¬(0<c0 / 10 ^ i∨0<N / 10 ^ k / 1000000000):=fun h=>hlt (hmore.1 h)
      have hq0:c0 / 10 ^ i=0:=Nat.eq_zero_of_not_pos fun h=>hno (.inl h)
      have hc2z:(c2:Int)=0:=by
       have h1:=(cnt_pos hk2).1
       have h2:¬0<c2:=fun h=>hno (.inr (h1 h))
       omega
      have hi1:k<k+i:=by omega
      rw[hq0]
      rw[hc2z]at hcnt
      clear hno hmore
      obtain⟨W4,hW4,hJ4,hT4,hG4,hz4⟩:=HLAY.out (k+i) c2 (N / 10 ^ k / 1000000000) wr HJi.out HTi.out hzi hc2 hk2
      have HJ4:Hid _:=hJ4
      have HT4:Hid _:=hT4
      have HG4:Hid (Lg W4 wr.heap.size (N / 10 ^ (k+i)) [] 115):=by rw[←HEND.out];exact hG4
      have hst4:=(HNEW.out wr).cells c2 (dg (N / 10 ^ k / 1000000000))
      have hln4:=lgL_length c2 (dg (N / 10 ^ k / 1000000000))
      rw[hW4]at hst4
      have HLT:Hid (N / 10 ^ (k+i)<N / 10 ^ k):=div_less_ten N k (k+i) HPOS.out hi1
      clear hJ4 hT4 hG4 hk2 hW4
      gi_wp2
      refine HL2.out.wpLoadIn _ rfl rfl ?_
      go_at_K
      gi_wp2
      go_roundw
      case rel=>exact⟨k+i,wr.heap.size,rfl,hki,hzi,HJ4.out,HG4.out,HT4.out,hz4⟩
      case measure=>rw[HV1.out,lgVal_is HG4.out];exact HLT.out
    ·have HEND:Hid (N / 10 ^ k / 1000000000=N / 10 ^ (k+i)):=chunk_end HN.out k i hi hki (by omega)
     have hi9':(i:Int)=9:=by omega
     have hi1:k<k+i:=by omega
     rw[hi9']
     obtain⟨W4,hW4,hJ4,hT4,hG4,hz4⟩:=HLAY.out (k+i) c2 (N / 10 ^ k / 1000000000) wr HJi.out HTi.out hzi hc2 hk2
     have HJ4:Hid _:=hJ4
     have HT4:Hid _:=hT4
     have HG4:Hid (Lg W4 wr.heap.size (N / 10 ^ (k+i)) [] 115):=by rw[←HEND.out];exact hG4
     have hst4:=(HNEW.out wr).cells c2 (dg (N / 10 ^ k / 1000000000))
     have hln4:=lgL_length c2 (dg (N / 10 ^ k / 1000000000))
     rw[hW4]at hst4
     have HLT:Hid (N / 10 ^ (k+i)<N / 10 ^ k):=div_less_ten N k (k+i) HPOS.out hi1
     clear hJ4 hT4 hG4 hk2 hW4
     gi_wp2
     refine HL2.out.wpLoadIn _ rfl rfl ?_
     go_at_K
     gi_wp2
     go_roundw
     case rel=>exact⟨k+i,wr.heap.size,rfl,hki,hzi,HJ4.out,HG4.out,HT4.out,hz4⟩
     case measure=>rw[HV1.out,lgVal_is HG4.out];exact HLT.out
  ·obtain rfl:k=n:=by omega
   have HZ:Hid (N / 10 ^ k=0):=Nat.eq_zero_of_not_pos fun h=>by have:=(dig_pos HN.out k).1 h;omega
   obtain⟨c1,hc1,hk1,hl1⟩:=HG.out
   have hcnt:=hl1.cnt
   have hcz:(c1:Int)=0:=by
    have:=(cnt_pos hk1).1
    rw[HZ.out]at this
    omega
   rw[hcz]at hcnt
   clear hl1 hk1 hc1
   gi_wp2
   go_end0
   exact⟨⟨_,rfl⟩,HJk.out⟩
end Go.Proofs.YtenbfookfcmpoaaGreatDoor
