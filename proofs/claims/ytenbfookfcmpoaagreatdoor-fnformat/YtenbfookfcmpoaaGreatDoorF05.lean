import Derived.Test.YtenbfookfcmpoaaGreatDoorF01
namespace Go.Proofs.YtenbfookfcmpoaaGreatDoor
open Go.ChangeShapes Go.WideShapes Go.RowKit
set_option maxHeartbeats 1000000 in
set_option maxRecDepth 100000 in
theorem trim_any(B N c:Nat)(R:List Value)(t:TypeId)(w:World)(hc:c≤151)(hN:N<be ^ c)(h:LB w B c (dg N) R t) :
  Calls Tryz.prog 101 #[.pointer (some ⟨B,0,none⟩)] w fun e w'=>e=.returned (.tuple #[])∧Mod B w w'∧Lg w' B N R t:=by
 have HL:Hid (LB w B c (dg N) R t):=h
 have HN:Hid (N<be ^ c):=hN
 clear h hN
 go_enter Tryz.func101,Tryz.ntmps101
 go_wp2
 go_loopw [2] (fun _ wl=>∃k:Nat,k≤151∧Hid (N<be ^ k)∧Hid (LB wl B k (dg N) R t)∧Hid (Mod B w wl)) (fun _ wl=>(intOf ((wl.cell? ⟨B,0,none⟩).getD (.int .i64 0))).toNat)
 case atStart=>exact⟨c,hc,HN.out,HL.out,Mod.refl B w⟩
 case round=>
  obtain⟨k,hk,HK,HB,HMd⟩:=hrel
  have hcnt:=HB.out.cnt
  by_cases h0:0<k
  ·have hd:decide ((0:Int)<(k:Int))=true:=decide_eq_true (by omega)
   obtain⟨j,rfl⟩:∃j,k=j+1:=⟨k-1,by omega⟩
   have hk1:(j:Int)<151:=by omega
   have hw:=HB.out.wrd' j (by omega)
   have hfr0:=HB.out.froz 0
   obtain⟨d,hd'⟩:∃d,dg N j=d:=⟨_,rfl⟩
   have HD:Hid (dg N j=d):=hd'
   have e1:((j+1:Nat):Int)=(j:Int)+1:=by omega
   rw[e1]at hcnt hd
   rw[hd']at hw
   clear hd' e1
   by_cases hz:d=0
   ·have hb:((d:Int)==0)=true:=by rw[hz];rfl
    go_wp2
    go_quiet (fail)
    go_wp2
    have hl:LB ((wr.drewN nq).setCell ⟨B,0,none⟩ (.int .i64 (j:Int))) B j (dg N) R t:=(HB.out.drewN nq).setc j
    refine⟨⟨j,by omega,?_,hl,(HMd.out.drewN _).setCell _ _⟩,?_⟩
    ·show N<be ^ j
     have h1:=HD.out
     have h2:=HK.out
     rw[hz]at h1
     have h3:N / be ^ j<be:=by rw[Nat.div_lt_iff_lt_mul (bpow_pos j),Nat.mul_comm,←Nat.pow_succ];exact h2
     unfold dg at h1
     rw[Nat.mod_eq_of_lt h3]at h1
     rcases Nat.lt_or_ge N (be ^ j) with h|h
     ·exact h
     ·have:=Nat.div_pos h (bpow_pos j);omega
    ·rw[hl.cnt,hcnt]
     show(j:Int).toNat<((j:Int)+1).toNat;omega
   ·have hb:((d:Int)==0)=false:=beq_eq_false_iff_ne.2 (by omega)
    go_wp2
    go_quiet (fail)
    go_wp2
    go_end0
    refine⟨rfl,HMd.out.drewN _,j+1,by omega,⟨HK.out,fun _=>?_⟩,HB.out.drewN nq⟩
    rw[Nat.add_sub_cancel]
    rcases Nat.lt_or_ge N (be ^ j) with h|h
    ·have h1:=HD.out;rw[dg_big N j h]at h1;omega
    ·exact h
  ·have hd:decide ((0:Int)<(k:Int))=false:=decide_eq_false (by omega)
   go_wp2
   go_quiet (fail)
   go_wp2
   go_end0
   exact⟨rfl,HMd.out.drewN _,k,by omega,⟨HK.out,fun h=>by omega⟩,HB.out.drewN nq⟩
theorem or_sh(a1 a2 m n:Nat)(hm:m<32)(hn:n=32-m)(hb2:a2<4294967296):bits .or .u32 ((a1:Int)*2 ^ m % 4294967296) ((a2:Int) / 2 ^ n)=((a1*2 ^ m % be+a2 / 2 ^ n:Nat):Int):=by
 have hb:be=2 ^ n*2 ^ m:=by rw[←Nat.pow_add,show n+m=32 by omega];rfl
 have e1:(a1:Int)*2 ^ m % 4294967296=((a1*2 ^ m % be:Nat):Int):=by
  rw[Int.natCast_emod,Int.natCast_mul,Int.natCast_pow];rfl
 have e2:(a2:Int) / 2 ^ n=((a2 / 2 ^ n:Nat):Int):=by rw[Int.natCast_ediv,Int.natCast_pow];rfl
 rw[e1,e2]
 have h1:a2 / 2 ^ n<2 ^ m:=by rw[Nat.div_lt_iff_lt_mul (Nat.two_pow_pos n),Nat.mul_comm,←hb];exact hb2
 have h2:a1*2 ^ m % be=2 ^ m*(a1 % 2 ^ n):=by rw[hb,Nat.mul_mod_mul_right,Nat.mul_comm]
 have h3:a2 / 2 ^ n<4294967296:=Nat.lt_of_le_of_lt (Nat.div_le_self _ _) hb2
 rw[u32_or_nat (a1*2 ^ m % be) (a2 / 2 ^ n) (Nat.mod_lt _ be_pos) h3,h2,←Nat.two_pow_add_eq_or_of_lt h1]
def wtop(N M i:Nat):Nat→Nat:=fun j=>if j<i then dg N j else dg M j
theorem wtop_step(N M i:Nat):upd (wtop N M (i+1)) i (dg M i)=wtop N M i:=by
 funext j
 unfold upd wtop
 by_cases h:j=i
 ·subst h;rw[if_pos rfl,if_neg (by omega)]
 ·rw[if_neg h]
  by_cases h':j<i
  ·rw[if_pos h',if_pos (by omega)]
  ·rw[if_neg h',if_neg (by omega)]
theorem wtop_low(N M i j:Nat)(h:j<i):wtop N M i j=dg N j:=by unfold wtop;rw[if_pos h]
set_option maxHeartbeats 2000000 in
set_option maxRecDepth 100000 in
theorem shift_any(B N s:Nat)(R:List Value)(t:TypeId)(w:World)(c:Nat)(hk:cntOk c N)(h:LB w B c (dg N) R t)(hs:c+s / 32+1≤151) :
  Calls Tryz.prog 64 #[.pointer (some ⟨B,0,none⟩),.int .i64 (s:Int)] w fun e w'=>e=.returned (.tuple #[])∧Mod B w w'∧Lg w' B (N*2 ^ s) R t:=by
 have HW:Hid _:=fun v w=>width_any v w
 have HK:Hid (cntOk c N):=hk
 have HL:Hid (LB w B c (dg N) R t):=h
 obtain⟨q,hq⟩:∃q,s / 32=q:=⟨_,rfl⟩
 obtain⟨m,hm⟩:∃m,s % 32=m:=⟨_,rfl⟩
 obtain⟨M,hM⟩:∃M,N*2 ^ s=M:=⟨_,rfl⟩
 have HQ:Hid (s / 32=q):=hq
 have HR:Hid (s % 32=m):=hm
 have HM:Hid (N*2 ^ s=M):=hM
 have hm1:m<32:=by omega
 have hs1:(s:Int) / 32=(q:Int):=by omega
 have hs2:(s:Int) % 32=(m:Int):=by omega
 have hs0:(s:Int)≤4831:=by omega
 rw[hM]
 rw[hq]at hs
 have hcnt:=h.cnt
 have hfr:=h.froz 0
 clear hk h hM hq hm
 go_enter Tryz.func64,Tryz.ntmps64
 go_wp2
 go_quiet (first|(go_at_call 99;exact Calls.quiet_of_same (HW.out _ _)))
 go_wp2
 simp only[hs2]
 have HMB:Hid (M<be ^ (c+q+1)):=by
  show M<be ^ (c+q+1)
  have h1:N*2 ^ s<be ^ c*2 ^ s:=Nat.mul_lt_mul_of_pos_right HK.out.1 (Nat.two_pow_pos s)
  have h2:be ^ c*2 ^ s≤be ^ (c+q+1):=by
   rw[be_two,be_two,←Nat.pow_add]
   exact Nat.pow_le_pow_right (by omega) (by have:=HQ.out;have:=HR.out;omega)
  rw[←HM.out];omega
 go_loopw [6] (fun iv wl=>∃ (i:Nat) (x:Int),iv=.int .i64 x∧x=(i:Int)-1∧i≤c+q+1∧Hid (LB wl B (c+q+1) (wtop N M i) R t)∧Hid (Mod B w wl)) (fun iv _=>(intOf iv+1).toNat)
 case atStart=>
  refine⟨c+q+1,_,rfl,by omega,Nat.le_refl _,?_,(Mod.refl B w).drewN _ |>.setCell _ _⟩
  have h1:=((HL.out.drewN nq).setc (c+q+1)).congr (wtop N M (c+q+1)) fun j _=>by
   unfold wtop
   split
   ·rfl
   ·rw[dg_above N j (c+q+1) (Nat.lt_of_lt_of_le HK.out.1 (bpow_le (by omega))) (by omega),dg_above M j (c+q+1) HMB.out (by omega)]
  rw[show((c+q+1:Nat):Int)=(c:Int)+((q:Int)+1) by omega]at h1
  exact h1
 case round=>
  clear hcnt hfr
  obtain⟨i,x,rfl,hx,hi,HB,HMd⟩:=hrel
  by_cases h0:0<i
  ·obtain⟨k,rfl⟩:∃k,i=k+1:=⟨i-1,by omega⟩
   obtain rfl:x=(k:Int):=by omega
   have hk0:(0:Int)≤(k:Int):=by omega
   have hk1:(k:Int)<151:=by omega
   obtain⟨a1,ha1⟩:∃a1:Nat,a1=(if (k:Int)-(q:Int)<0 then 0 else dg N (k-q)):=⟨_,rfl⟩
   obtain⟨a2,ha2⟩:∃a2:Nat,a2=(if (k:Int)-(q:Int)-1<0 then 0 else dg N (k-q-1)):=⟨_,rfl⟩
   have hb1:a1<4294967296:=by(rw[ha1];split<;>first|omega|exact dg_lt _ _)
   have hb2:a2<4294967296:=by(rw[ha2];split<;>first|omega|exact dg_lt _ _)
   have HA1:Hid (∀W:World,LB W B (c+q+1) (wtop N M (k+1)) R t→Calls Tryz.prog 100 #[.pointer (some ⟨B,0,none⟩),.int .i64 ((k:Int)-(q:Int))] W fun e w'=>e=.returned (.int .u32 (a1:Int))∧w'=W):=fun W h=>by
    refine(wordAt_any B _ _ R t W h _ (by omega)).mono ?_
    rintro e w' ⟨rfl,rfl⟩
    refine⟨?_,rfl⟩
    rw[ha1]
    split
    ·rfl
    ·rw[wtop_low _ _ _ _ (by omega),show((k:Int)-(q:Int)).toNat=k-q by omega]
   have HA2:Hid (∀W:World,LB W B (c+q+1) (wtop N M (k+1)) R t→Calls Tryz.prog 100 #[.pointer (some ⟨B,0,none⟩),.int .i64 ((k:Int)-(q:Int)-1)] W fun e w'=>e=.returned (.int .u32 (a2:Int))∧w'=W):=fun W h=>by
    refine(wordAt_any B _ _ R t W h _ (by omega)).mono ?_
    rintro e w' ⟨rfl,rfl⟩
    refine⟨?_,rfl⟩
    rw[ha2]
    split
    ·rfl
    ·rw[wtop_low _ _ _ _ (by omega),show((k:Int)-(q:Int)-1).toNat=k-q-1 by omega]
   have w1:IntKind.i64.wrap ((k:Int)-(q:Int))=(k:Int)-(q:Int):=by rw[IntKind.wrap_i64];omega
   have w2:IntKind.i64.wrap (IntKind.i64.wrap ((k:Int)-(q:Int))-1)=(k:Int)-(q:Int)-1:=by rw[w1,IntKind.wrap_i64];omega
   rw[←w1]at HA1
   rw[←w2]at HA2
   clear w1 w2
   have HV1:Hid (a1=(if (k:Int)-(q:Int)<0 then 0 else dg N (k-q))):=ha1
   have HV2:Hid (a2=(if (k:Int)-(q:Int)-1<0 then 0 else dg N (k-q-1))):=ha2
   have hw:=HB.out.wrd' k (by omega)
   obtain⟨n,hn⟩:∃n:Nat,n=32-m:=⟨_,rfl⟩
   have HNn:Hid (n=32-m):=hn
   have hsh:IntKind.i64.wrap (32-(m:Int))=(n:Int):=by rw[IntKind.wrap_i64];omega
   have hn1:n≤32:=by omega
   clear hn
   have hfr:=HB.out.froz (1+k)
   clear ha1 ha2 h0 hx
   go_wp2
   go_region_with (first|(go_at_call 99;refine(HW.out _ _).mono ?_;rintro e w' ⟨rfl,rfl⟩)|(go_at_call_of 100 (Value.int .i64 (IntKind.i64.wrap ((k:Int)-(q:Int))));refine(HA1.out _ (by exact HB.out)).mono ?_;rintro e w' ⟨rfl,rfl⟩)|(go_at_call 100;refine(HA2.out _ (by exact HB.out)).mono ?_;rintro e w' ⟨rfl,rfl⟩))
   go_wp2
   have ev:bits .or .u32 ((a1:Int)*2 ^ m % 4294967296) ((a2:Int) / 2 ^ n)=((dg M k:Nat):Int):=by
    rw[or_sh a1 a2 m n hm1 HNn.out hb2,←HM.out,dg_shift,HQ.out,HR.out,←HNn.out,HV1.out,HV2.out]
    congr 2
    ·by_cases hq:k<q
     ·rw[if_pos (by omega),if_pos hq]
     ·rw[if_neg (by omega),if_neg hq]
    ·by_cases hq:k<q+1
     ·rw[if_pos (by omega),if_pos hq]
     ·rw[if_neg (by omega),if_neg hq]
   rw[ev]
   refine⟨⟨k,(k:Int)-1,rfl,rfl,by omega,?_,(HMd.out.setCell _ _).drewN 1⟩,?_⟩
   ·have h1:=HB.out.setw' k (dg M k) (by omega)
    rw[wtop_step]at h1
    exact h1.drewN 1
   ·show((k:Int)-1+1).toNat<((k:Int)+1).toNat;omega
  ·have h0':decide ((0:Int)≤x)=false:=decide_eq_false (by omega)
   obtain rfl:i=0:=by omega
   have HT:Hid (LB wr B (c+q+1) (dg M) R t):=HB.out.congr _ fun j _=>by unfold wtop;rw[if_neg (by omega)]
   go_wp2_with (go_at_call 101;refine(trim_any B M (c+q+1) R t _ hs HMB.out HT.out).mono ?_;rintro e w' ⟨rfl,hm1,hg⟩)
   go_end0
   exact⟨rfl,HMd.out.trans hm1,hg⟩
end Go.Proofs.YtenbfookfcmpoaaGreatDoor
