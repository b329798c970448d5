import Derived.Test.YtenbfookfcmpoaaGreatDoorF16
import Derived.Test.YtenbfookfcmpoaaGreatDoorF04
namespace Go.Proofs.YtenbfookfcmpoaaGreatDoor
open Go.ChangeShapes Go.WideShapes Go.RowKit
theorem or_word(a b:Nat)(ha:a<4294967296)(hb:b<4294967296):bits .or .u64 ((a:Int)*4294967296) (b:Int)=((a*4294967296+b:Nat):Int):=by
 have e1:((a:Int)*4294967296)=((a*4294967296:Nat):Int):=by omega
 rw[e1,u64_or_nat _ _ (by omega) (by omega)]
 have:=Nat.two_pow_add_eq_or_of_lt (show b<2 ^ 32 from hb) a
 rw[show 2 ^ 32*a=a*4294967296 by omega]at this
 rw[this]
theorem div_word(N d i:Nat)(hd:0<d):N / be ^ (i+1) % d*4294967296+dg N i<d*4294967296
  ∧ (N / be ^ (i+1) % d*4294967296+dg N i) / d=dg (N / d) i∧(N / be ^ (i+1) % d*4294967296+dg N i) % d=N / be ^ i % d:=by
 have h1:N / be ^ i=be*(N / be ^ (i+1))+dg N i:=(dg_cmp N N i rfl).1
 obtain⟨X,hX⟩:∃X,N / be ^ (i+1)=X:=⟨_,rfl⟩
 rw[hX]at h1 ⊢
 have hg:=dg_lt N i
 have hr:X % d<d:=Nat.mod_lt _ hd
 have hx:=Nat.div_add_mod X d
 have h2:N / be ^ i=d*(4294967296*(X / d))+(X % d*4294967296+dg N i):=by
  rw[h1,be_eq]
  have:4294967296*X=4294967296*(d*(X / d))+4294967296*(X % d):=by rw[←Nat.mul_add,hx]
  rw[Nat.mul_left_comm]at this
  omega
 have h3:X % d*4294967296+dg N i<d*4294967296:=by
  have:(X % d+1)*4294967296≤d*4294967296:=Nat.mul_le_mul_right _ hr
  omega
 refine⟨h3,?_,?_⟩
 ·have h4:dg (N / d) i=N / be ^ i / d % be:=by
   unfold dg
   rw[Nat.div_div_eq_div_mul,Nat.div_div_eq_div_mul,Nat.mul_comm]
  rw[h4,h2,Nat.mul_add_div hd,be_eq,Nat.mul_add_mod]
  refine(Nat.mod_eq_of_lt ?_).symm
  rw[Nat.div_lt_iff_lt_mul hd]
  omega
 ·rw[h2,Nat.mul_add_mod]
set_option maxHeartbeats 2000000 in
set_option maxRecDepth 100000 in
theorem divide_any(B N d:Nat)(R:List Value)(t:TypeId)(w:World)(h:Lg w B N R t)(hd:0<d)(hd2:d<4294967296) :
  Calls Tryz.prog 103 #[.pointer (some ⟨B,0,none⟩),.int .u64 (d:Int)] w fun e w'=>e=.returned (.int .u64 ((N % d:Nat):Int))∧Mod B w w'∧Lg w' B (N / d) R t:=by
 have HW:Hid _:=fun v w=>width_any v w
 obtain⟨c,hc,hk,hl⟩:=h
 obtain⟨M,hM⟩:∃M,N / d=M:=⟨_,rfl⟩
 have HM:Hid (N / d=M):=hM
 rw[hM]
 have HK:Hid (cntOk c N):=hk
 have HL:Hid (LB w B c (dg N) R t):=hl
 have hcnt:=hl.cnt
 have HMB:Hid (M<be ^ c):=by rw[←hM];exact Nat.lt_of_le_of_lt (Nat.div_le_self _ _) hk.1
 clear hk hl hM
 go_enter Tryz.func103,Tryz.ntmps103
 go_wp2
 go_loopw [4,5] (fun rv iv wl=>∃ (i r:Nat) (x:Int),rv=.int .u64 (r:Int)∧iv=.int .i64 x∧x=(i:Int)-1∧i≤c∧r<d∧Hid (N / be ^ i % d=r)∧Hid (LB wl B c (wtop N M i) R t)∧Hid (Mod B w wl)) (fun _ iv _=>(intOf iv+1).toNat)
 case atStart=>
  refine⟨c,0,_,rfl,rfl,by omega,Nat.le_refl _,hd,?_,?_,Mod.refl B w⟩
  ·show _=_
   rw[Nat.div_eq_of_lt HK.out.1,Nat.zero_mod]
  ·exact HL.out.congr (wtop N M c) fun j _=>by
    unfold wtop
    split
    ·rfl
    ·rw[dg_above N j c HK.out.1 (by omega),dg_above M j c HMB.out (by omega)]
 case round=>
  clear hcnt
  obtain⟨i,r,x,rfl,rfl,hx,hi,hr,HRr,HB,HMd⟩:=hrel
  by_cases h0:0<i
  ·obtain⟨k,rfl⟩:∃k,i=k+1:=⟨i-1,by omega⟩
   obtain rfl:x=(k:Int):=by omega
   have hk0:(0:Int)≤(k:Int):=by omega
   have hk1:(k:Int)<151:=by omega
   obtain⟨z1,z2,z3⟩:=div_word N d k hd
   rw[HRr.out]at z1 z2 z3
   obtain⟨g,hg⟩:∃g,dg N k=g:=⟨_,rfl⟩
   have hg1:g<4294967296:=by rw[←hg];exact dg_lt _ _
   have hw:=HB.out.wrd' k (by omega)
   rw[wtop_low _ _ _ _ (by omega),hg]at hw
   rw[hg]at z1 z2 z3
   have hor:=or_word r g (by omega) hg1
   obtain⟨T,hT⟩:∃T,r*4294967296+g=T:=⟨_,rfl⟩
   rw[hT]at hor z1 z2 z3
   have hT64:T<18446744073709551616:=by
    have:d*4294967296≤4294967295*4294967296:=Nat.mul_le_mul_right _ (by omega)
    omega
   have hsh:(r:Int)*4294967296 % 18446744073709551616=(r:Int)*4294967296:=by omega
   have hfr:=HB.out.froz (1+k)
   have hdI:(0:Int)<(d:Int):=by omega
   have hqd:(T:Int) / (d:Int)=((dg M k:Nat):Int):=by rw[←Int.natCast_ediv,z2,HM.out]
   have hqm:(T:Int) % (d:Int)=((N / be ^ k % d:Nat):Int):=by rw[←Int.natCast_emod,z3]
   have hdg:=dg_lt M k
   have HZ:Hid (N / be ^ k % d<d):=Nat.mod_lt _ hd
   clear z1 z2 z3 h0 hx hT hg
   generalize hP:N / be ^ k % d=P at *
   have HP:Hid (N / be ^ k % d=P):=hP
   clear hP
   generalize hG:dg M k=G at *
   have HG:Hid (dg M k=G):=hG
   clear hG
   go_wp2
   go_quiet (first|(go_at_call 99;exact Calls.quiet_of_same (HW.out _ _)))
   go_wp2
   go_region
   all_goals
    go_wp2
    rw[hqm]
    refine⟨⟨k,P,(k:Int)-1,rfl,rfl,rfl,by omega,HZ.out,HP.out,?_,(HMd.out.drewN _).setCell _ _⟩,by show((k:Int)-1+1).toNat<((k:Int)+1).toNat;omega⟩
    have h1:=(HB.out.drewN (nq+1)).setw' k (dg M k) (by omega)
    rw[wtop_step,HG.out]at h1
    exact h1
  ·have h0':decide ((0:Int)≤x)=false:=decide_eq_false (by omega)
   obtain rfl:i=0:=by omega
   have HT:Hid (LB wr B c (dg M) R t):=HB.out.congr _ fun j _=>by unfold wtop;rw[if_neg (by omega)]
   have HRz:Hid (N % d=r):=by
    have:=HRr.out
    rw[Nat.pow_zero,Nat.div_one]at this
    exact this
   go_wp2_with (go_at_call 101;refine(trim_any B M c R t _ hc HMB.out HT.out).mono ?_;rintro e w' ⟨rfl,hm1,hg⟩)
   go_ret
   exact⟨by rw[HRz.out];rfl,HMd.out.trans hm1,hg⟩
end Go.Proofs.YtenbfookfcmpoaaGreatDoor
namespace Go.Proofs.YtenbfookfcmpoaaGreatDoor
open Go.ChangeShapes Go.WideShapes Go.RowKit Go.Shelf
theorem LB.wpLoadIn{w:World}{B c:Nat}{f:Nat→Nat}{R:List Value}{t:TypeId}(h:LB w B c f R t){op:Oper}{a:Act}{K:Act→World→Prop}{Q:Exit→Act→World→Prop}(x:Operand)(ho:op.op=.load 115 x)
  (hx:a.eval x=.pointer (some ⟨B,0,none⟩)) (hk:K (a.put op.dst (.agg (lgL c f).toArray)) w):op.wpIn Fence.wide 0 Tryz.prog a w K Q:=by
 obtain⟨d,hd,hr⟩:=lg_desc
 refine⟨fun _ _=>trivial,?_⟩
 show op.uponIn Fence.wide 0 Tryz.prog a K Q ((execOp a.eval op).run Tryz.prog w)
 unfold execOp
 simp only[ho,hx,Instr.loadAt,Instr.sureAddr,Sem.run_bind,Sem.run_pure,Result.andThen_ok,run_loadVar_mid w B 0 115 (lgL c f) d h.range hd hr (by rw[lgL_length];exact lg_size)]
 exact hk
end Go.Proofs.YtenbfookfcmpoaaGreatDoor
