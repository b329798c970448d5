import Derived.Test.YtenbfookfcmpoaaGreatDoorF06
namespace Go.Proofs.YtenbfookfcmpoaaGreatDoor
open Ieee
def wordI(n:Int):Nat:=fw (decide (n<0)) n.natAbs 0
theorem floatOf_is(n:Int):floatOfInt .f64 n=wordI n:=rfl
theorem canon_whole(T:Nat)(h:T<9007199254740992):∃m:Nat,∃i:Int,Canon m i∧i≤0∧(∀s,fw s T 0=fw s m i)∧m=T*2 ^ (-i).toNat:=by
 by_cases h0:T=0
 ·subst h0
  exact⟨0,-1074,canon_zero,by omega,fun s=>by rw[fw_zero,fw_zero],by rw[Nat.zero_mul]⟩
 ·have hl:T.log2≤52:=by
   have hh:T.log2<53↔T<2 ^ 53:=Nat.log2_lt h0
   have:=hh.2 h
   omega
  obtain⟨k,_,hc,he⟩:=canon_of T 0 (by omega) h (by omega) (by omega)
  refine⟨T*2 ^ k,0-k,hc,by omega,he,?_⟩
  rw[show(-(0-(k:Int))).toNat=k by omega]
theorem rep_whole(T:Nat)(h:T<9007199254740992):Rep T 0:=by
 refine⟨h,by omega,?_⟩
 by_cases h0:T=0
 ·exact .inl h0
 ·have hh:T.log2<53↔T<2 ^ 53:=Nat.log2_lt h0
  have:=hh.2 h
  exact .inr (by omega)
end Go.Proofs.YtenbfookfcmpoaaGreatDoor
namespace Go.Proofs.YtenbfookfcmpoaaGreatDoor
def partsV(x:Nat)(k:Int)(s:Bool)(m e:Int):Prop:=
 (IsNan x∧k=3∧s=false∧m=0∧e=0)∨(x=iw s∧k=2∧m=0∧e=0)∨(x=signBit s∧k=0∧m=0∧e=0)
 ∨ (∃ (n:Nat) (p:Int) (q t:Nat),Canon n p∧0<n∧x=fw s n p∧n=q*2 ^ t∧q % 2=1∧k=1∧m=q∧e=p+t)
theorem half_even(n t:Nat)(q:Int)(h:n=q.toNat*2 ^ t)(h0:0<q)(he:q % 2=0):n=(q / 2).toNat*2 ^ (t+1):=by
 have e:q.toNat=(q / 2).toNat*2:=by omega
 rw[h,e,Nat.pow_succ,Nat.mul_assoc,Nat.mul_comm 2]
theorem few_halves(n t:Nat)(q:Int)(h:n=q.toNat*2 ^ t)(h0:0<q)(hn:n<9007199254740992):t≤52:=by
 have h1:1*2 ^ t≤q.toNat*2 ^ t:=Nat.mul_le_mul_right _ (by omega)
 have h2:2 ^ t<2 ^ 53:=by
  have:(2:Nat) ^ 53=9007199254740992:=rfl
  omega
 have:=(Nat.pow_lt_pow_iff_right (a:=2) (by omega)).1 h2
 omega
theorem odd_some(n:Nat):0<n→∃q t,n=q*2 ^ t∧q % 2=1:=by
 induction n using Nat.strongRecOn with
 | ind n ih=>
  intro h
  by_cases h1:n % 2=1
  ·exact⟨n,0,by rw[Nat.pow_zero,Nat.mul_one],h1⟩
  ·obtain⟨q,t,hq,hq1⟩:=ih (n / 2) (by omega) (by omega)
   refine⟨q,t+1,?_,hq1⟩
   rw[Nat.pow_succ,←Nat.mul_assoc,←hq];omega
theorem odd_one(q t q' t':Nat)(h:q*2 ^ t=q'*2 ^ t')(h1:q % 2=1)(h2:q' % 2=1):q=q'∧t=t':=by
 have key:∀ (q t q' t':Nat),q*2 ^ t=q'*2 ^ t'→q % 2=1→t<t'→False:=by
  intro q t q' t' h h1 hlt
  obtain⟨d,hd⟩:∃d,t'=t+(d+1):=⟨t'-t-1,by omega⟩
  rw[hd,Nat.pow_add,Nat.mul_comm (2 ^ t),←Nat.mul_assoc]at h
  have h3:=Nat.eq_of_mul_eq_mul_right (Nat.two_pow_pos t) h
  rw[Nat.pow_succ,←Nat.mul_assoc]at h3
  omega
 rcases Nat.lt_trichotomy t t' with hlt|rfl|hlt
 ·exact(key q t q' t' h h1 hlt).elim
 ·exact⟨Nat.eq_of_mul_eq_mul_right (Nat.two_pow_pos t) h,rfl⟩
 ·exact(key q' t' q t h.symm h2 hlt).elim
end Go.Proofs.YtenbfookfcmpoaaGreatDoor
namespace Go.Proofs.YtenbfookfcmpoaaGreatDoor
open Go.ChangeShapes Go.WideShapes Go.RowKit
open Ieee (double)
set_option maxHeartbeats 400000 in
theorem raw_zero(s:Bool)(w:World) :
  Calls Tryz.prog 124 #[.float .f64 (signBit s)] w fun e w'=>e=.returned (.tuple #[.bool s,.int .u64 0])∧w'=w:=by
 have hn:FloatKind.f64.format.order (signBit s) (signBit s)=some .eq:=by
  have:=order_self_fw s 0 (-1074) canon_zero
  rw[fw_zero]at this
  exact this
 have hz:FloatKind.f64.format.order (signBit s) 0=some .eq:=ord_zeros s
 have hz0:FloatKind.f64.format.order (signBit false) 0=some .eq:=ord_zeros false
 have hd:=run_valid (P:=Tryz.prog) .quo 29 _ _ _ (one_by_zero s)
 have hi:FloatKind.f64.format.order (iw s) 0=some (if s then .lt else .gt):=ord_inf_zero s
 have hng:=run_neg (signBit true)
 rw[show Op.negFloat .f64 (signBit true)=signBit false from neg_word true 0 (by omega)]at hng
 cases s
 ·go_enter Tryz.func124,Tryz.ntmps124
  go_wp2
  go_ret2
  exact⟨rfl,rfl⟩
 ·go_enter Tryz.func124,Tryz.ntmps124
  go_wp2
  go_ret2
  exact⟨rfl,rfl⟩
set_option maxRecDepth 100000 in
set_option maxHeartbeats 1000000 in
theorem raw_normal(s:Bool)(m:Nat)(p:Int)(h1:4503599627370496≤m)(h2:m<9007199254740992)(h3:-1074≤p)(h4:p≤971)(w:World) :
  Calls Tryz.prog 124 #[.float .f64 (fw s m p)] w fun e w'=>e=.returned (.tuple #[.bool s,.int .u64 (rung m p)])∧w'=w:=by
 have hc:Canon m p:=.inl ⟨h1,h2,h3,h4⟩
 have hr:Rep m p:=canon_rep m p hc
 have hn:FloatKind.f64.format.order (fw s m p) (fw s m p)=some .eq:=order_self_fw s m p hc
 have hz:FloatKind.f64.format.order (fw s m p) 0=some (if s then .lt else .gt):=ord_zero s m p hr (by omega)
 have hz0:FloatKind.f64.format.order (fw false m p) 0=some .gt:=ord_zero false m p hr (by omega)
 have hm:(FloatKind.f64.format.order (fw false m p) 9218868437227405311==some .gt)=false:=ord_most m p hc
 have hng:=run_neg (fw true m p)
 rw[show Op.negFloat .f64 (fw true m p)=fw false m p from neg_fw true m p hc]at hng
 clear hc hr
 have hrung:((rung m p:Nat):Int)=(((p+1075).toNat*4503599627370496+(m-4503599627370496):Nat):Int):=by unfold rung;omega
 have HR:Hid _:=hrung
 clear hrung
 cases s
 all_goals
  go_enter Tryz.func124,Tryz.ntmps124
  go_wp2
  clear hn hz hz0 hm hng
  go_loop [0,5] (fun f e=>∃k:Nat,f=.float .f64 (fw false m (p-k))∧e=.int .i64 (1023+(k:Int))∧(k=0∨-52≤p-k)) (fun _ e=>(1023+p+52-intOf e).toNat)
  case atStart=>exact⟨0,by simp,rfl,.inl rfl⟩
  case round=>
   obtain⟨k,rfl,rfl,hk⟩:=hrel
   have hrk:Rep m (p-k):=rep_at m _ h2 (by omega) (by omega)
   by_cases hge:-51≤p-k
   ·have hb:FloatKind.f64.format.order (fw false m (p-k)) 4611686018427387904=some .gt∨FloatKind.f64.format.order (fw false m (p-k)) 4611686018427387904=some .eq:=ord_two_ge m _ hrk h1 hge
    have hmul:=run_valid (P:=Tryz.prog) .mul 29 (fw false m (p-k)) 4602678819172646912 (fw false m (p-k-1)) (by rw[bits_half];exact half false m _ hrk)
    clear hrk
    have hk2:(k:Int)≤1022:=by omega
    rcases hb with hb|hb
    all_goals
     go_wp2
     have e1:p-((k+1:Nat):Int)=p-k-1:=by omega
     have e2:1023+((k+1:Nat):Int)=1023+(k:Int)+1:=by omega
     refine⟨⟨k+1,?_,?_,?_⟩,?_⟩
     ·rw[e1]
     ·rw[e2]
     ·right;rw[e1];omega
     ·simp only[intOf];omega
   ·have hb:(FloatKind.f64.format.order (fw false m (p-k)) 4611686018427387904==some .gt || FloatKind.f64.format.order (fw false m (p-k)) 4611686018427387904==some .eq)=false:=ord_two_lt m _ hrk (by omega)
    clear hrk
    have hq:p-k≤-52:=by omega
    clear hge
    go_wp2
    clear hb
    go_loop [0,5] (fun f e=>∃j:Nat,f=.float .f64 (fw false m (p-k+j))∧e=.int .i64 (1023+(k:Int)-j)∧p-k+j≤-52) (fun _ e=>(intOf e).toNat)
    case atStart=>exact⟨0,by simp,by simp,by omega⟩
    case round=>
     obtain⟨j,rfl,rfl,hj⟩:=hrel
     have hrj:Rep m (p-k+j):=rep_at m _ h2 (by omega) (by omega)
     by_cases hlt:p-k+j≤-53
     ·have hb:FloatKind.f64.format.order (fw false m (p-k+j)) 4607182418800017408=some .lt:=ord_one_lt m _ hrj (.inl hlt)
      have hmul:=run_valid (P:=Tryz.prog) .mul 29 (fw false m (p-k+j)) 4611686018427387904 (fw false m (p-k+j+1)) (by rw[bits_two];exact twice false m _ hrj)
      clear hrj
      go_wp2
      have e1:p-k+((j+1:Nat):Int)=p-k+j+1:=by omega
      have e2:1023+(k:Int)-((j+1:Nat):Int)=1023+(k:Int)-j-1:=by omega
      refine⟨⟨j+1,?_,?_,?_⟩,?_⟩
      ·rw[e1]
      ·rw[e2]
      ·rw[e1];omega
      ·simp only[intOf];omega
     ·have ee:p-k+j = -52:=by omega
      have e5:1023+(k:Int)-j=p+1075:=by omega
      have hb:(FloatKind.f64.format.order (fw false m (p-k+j)) 4607182418800017408==some .lt)=false:=ord_one_ge m _ hrj h1 (by omega)
      rw[ee]at hb ⊢
      rw[e5]
      clear hrj ee e5 hj hk hq hlt
      obtain⟨M,rfl⟩:∃M,m=4503599627370496+M:=⟨m-4503599627370496,by omega⟩
      have hM:M<4503599627370496:=by omega
      have hsub:=run_valid (P:=Tryz.prog) .sub 29 (fw false (4503599627370496+M) (-52)) 4607182418800017408 (fw false M (-52)) (by rw[bits_one];exact sub_one M hM)
      have hmul:=run_valid (P:=Tryz.prog) .mul 29 (fw false M (-52)) 4841369599423283200 (fw false M 0) (by rw[bits_52];exact up52 false M _ (rep_at M _ (by omega) (by omega) (by omega)))
      have hcv:=fun w=>run_convert_float_int (P:=Tryz.prog) w 29 44 .f64 .u64 (fw false M 0) M (by rw[Tryz.underlying29];rfl) Tryz.underlying44 (to_u64 M (by omega))
      have HO:Hid _:=or_low (p+1075).toNat M hM (by omega)
      have hp0:0≤p+1075:=by omega
      have hp1:p+1075≤2046:=by omega
      go_wp2
      go_ret2
      refine⟨?_,rfl⟩
      have e6:((p+1075).toNat:Int)=p+1075:=by omega
      have e7:=HO.out
      rw[e6]at e7
      have e8:=HR.out
      rw[show 4503599627370496+M-4503599627370496=M by omega]at e8
      rw[e8,←e7]
      rfl
set_option maxRecDepth 100000 in
set_option maxHeartbeats 1000000 in
theorem raw_small(s:Bool)(m:Nat)(h0:0<m)(h2:m<4503599627370496)(w:World) :
  Calls Tryz.prog 124 #[.float .f64 (fw s m (-1074))] w fun e w'=>e=.returned (.tuple #[.bool s,.int .u64 m])∧w'=w:=by
 have hc:Canon m (-1074):=.inr ⟨h2,rfl⟩
 have hr:Rep m (-1074):=canon_rep m _ hc
 have hn:FloatKind.f64.format.order (fw s m (-1074)) (fw s m (-1074))=some .eq:=order_self_fw s m _ hc
 have hz:FloatKind.f64.format.order (fw s m (-1074)) 0=some (if s then .lt else .gt):=ord_zero s m _ hr h0
 have hz0:FloatKind.f64.format.order (fw false m (-1074)) 0=some .gt:=ord_zero false m _ hr h0
 have hm:(FloatKind.f64.format.order (fw false m (-1074)) 9218868437227405311==some .gt)=false:=ord_most m _ hc
 have hb:(FloatKind.f64.format.order (fw false m (-1074)) 4611686018427387904==some .gt || FloatKind.f64.format.order (fw false m (-1074)) 4611686018427387904==some .eq)=false:=ord_two_lt m _ hr (by omega)
 have hng:=run_neg (fw true m (-1074))
 rw[show Op.negFloat .f64 (fw true m (-1074))=fw false m (-1074) from neg_fw true m _ hc]at hng
 clear hc hr
 cases s
 all_goals
  go_enter Tryz.func124,Tryz.ntmps124
  go_wp2
  clear hn hz hz0 hm hng
  refine wp_loop_rounds 1 ?_
  rw[rounds_succ]
  go_wp2
  clear hb
  go_loop [0,5] (fun f e=>∃j:Nat,f=.float .f64 (fw false m (-1074+(j:Int)))∧e=.int .i64 (1023-(j:Int))∧j≤1022) (fun _ e=>(intOf e).toNat)
  case atStart=>exact⟨0,by simp,by simp,by omega⟩
  case round=>
   obtain⟨j,rfl,rfl,hj⟩:=hrel
   have hrj:Rep m (-1074+(j:Int)):=rep_at m _ (by omega) (by omega) (by omega)
   have hb:FloatKind.f64.format.order (fw false m (-1074+(j:Int))) 4607182418800017408=some .lt:=ord_one_lt m _ hrj (.inr ⟨h2,by omega⟩)
   by_cases hlt:j<1022
   ·have hmul:=run_valid (P:=Tryz.prog) .mul 29 (fw false m (-1074+(j:Int))) 4611686018427387904 (fw false m (-1074+(j:Int)+1)) (by rw[bits_two];exact twice false m _ hrj)
    clear hrj
    go_wp2
    have e1:-1074+((j+1:Nat):Int) = -1074+(j:Int)+1:=by omega
    have e2:1023-((j+1:Nat):Int)=1023-(j:Int)-1:=by omega
    refine⟨⟨j+1,?_,?_,?_⟩,?_⟩
    ·rw[e1]
    ·rw[e2]
    ·omega
    ·simp only[intOf];omega
   ·have ej:-1074+(j:Int) = -52:=by omega
    have ee:1023-(j:Int)=1:=by omega
    rw[ej]at hb hrj ⊢
    rw[ee]
    have hmul:=run_valid (P:=Tryz.prog) .mul 29 (fw false m (-52)) 4841369599423283200 (fw false m 0) (by rw[bits_52];exact up52 false m _ hrj)
    have hcv:=fun w=>run_convert_float_int (P:=Tryz.prog) w 29 44 .f64 .u64 (fw false m 0) m (by rw[Tryz.underlying29];rfl) Tryz.underlying44 (to_u64 m (by omega))
    clear ej ee hrj hj hlt
    go_wp2
    go_ret2
    exact⟨rfl,rfl⟩
set_option maxHeartbeats 400000 in
theorem parts_zero(s:Bool)(w:World) :
  Calls Tryz.prog 91 #[.float .f64 (signBit s)] w fun e w'=>e=.returned (.agg #[.int .i64 0,.bool s,.int .i64 0,.int .i64 0])∧Below w.heap.size w w':=by
 have hn:FloatKind.f64.format.order (signBit s) (signBit s)=some .eq:=by
  have:=order_self_fw s 0 (-1074) canon_zero
  rw[fw_zero]at this
  exact this
 have HR:Hid _:=raw_zero s
 go_enter Tryz.func91,Tryz.ntmps91
 go_wp2_with (go_at_call 124;refine(HR.out _).mono ?_;rintro e w' ⟨rfl,rfl⟩)
 exact bodyPost_ret (v:=.agg #[.int .i64 0,.bool s,.int .i64 0,.int .i64 0]) (by simp[results,Tryz.results91,go_sem]) rfl ⟨rfl,(by repeat (first|exact Below.refl _ _|refine below_drewN ?_ _|refine Below.setCell ?_ (by simp) _|refine Below.alloc ?_ (by simp) _))⟩
set_option maxRecDepth 100000 in
set_option maxHeartbeats 1000000 in
theorem parts_number(s:Bool)(n:Nat)(p:Int)(hc:Canon n p)(h0:0<n)(w:World) :
  Calls Tryz.prog 91 #[.float .f64 (fw s n p)] w fun e w'=>∃q t:Nat,n=q*2 ^ t∧q % 2=1∧e=.returned (.agg #[.int .i64 1,.bool s,.int .i64 q,.int .i64 (p+t)])∧Below w.heap.size w w':=by
 have hn:FloatKind.f64.format.order (fw s n p) (fw s n p)=some .eq:=order_self_fw s n p hc
 have HR:Hid (∀w,Calls Tryz.prog 124 #[.float .f64 (fw s n p)] w fun e w'=>e=.returned (.tuple #[.bool s,.int .u64 (rung n p)])∧w'=w):=fun w=>by
  rcases hc with⟨h1,h2,h3,h4⟩|⟨h1,rfl⟩
  ·exact raw_normal s n p h1 h2 h3 h4 w
  ·have e:rung n (-1074)=n:=by unfold rung;omega
   rw[e];exact raw_small s n h0 h1 w
 obtain⟨R,hRd⟩:∃R:Int,R=(rung n p:Int):=⟨_,rfl⟩
 rw[←hRd]at HR
 have hlt:=rung_lt n p hc
 have hR0:(R==0)=false:=by rw[beq_eq_false_iff_ne];unfold rung at hRd;rcases hc with h|h<;>omega
 have hmask:=mask52 R (by omega) (by omega)
 rcases hc with⟨h1,h2,h3,h4⟩|⟨h1,hp⟩
 ·obtain⟨M,rfl⟩:∃M,n=4503599627370496+M:=⟨n-4503599627370496,by omega⟩
  have hM:M<4503599627370496:=by omega
  have hq:R / 4503599627370496=p+1075:=by unfold rung at hRd;omega
  have hr:R % 4503599627370496=(M:Int):=by unfold rung at hRd;omega
  rw[hr]at hmask
  have e47:(p+1075==2047)=false:=by rw[beq_eq_false_iff_ne];omega
  have ho:=or_one M hM
  have hp1:0<p+1075:=by omega
  have hp2:p+1075≤2046:=by omega
  clear hRd hr hlt h0
  go_enter Tryz.func91,Tryz.ntmps91
  go_wp2_with (go_at_call 124;refine(HR.out _).mono ?_;rintro e w' ⟨rfl,rfl⟩)
  go_loopw [7] (fun a wl=>∃ (q:Int) (t:Nat),a=.int .u64 q∧0<q∧q<9007199254740992∧Hid (4503599627370496+M=q.toNat*2 ^ t)∧t≤52∧wl=(w.alloc (.cells #[.int .i64 0,.bool false,.int .i64 0,.int .i64 0] 65)).alloc (.cells #[.int .i64 1,.bool s,.int .i64 0,.int .i64 (p+(t:Int))] 65)) (fun a _=>(intOf a).toNat)
  case atStart=>exact⟨(4503599627370496+(M:Int)),0,rfl,by omega,by omega,by show 4503599627370496+M=((4503599627370496+(M:Int)):Int).toNat*2 ^ 0;omega,by omega,by simp⟩
  case round=>
   obtain⟨q,t,rfl,q0,q1,HQ,ht,rfl⟩:=hrel
   by_cases hev:q % 2=0
   ·have b:(q % 2==0)=true:=beq_iff_eq.2 hev
    have HQ2:Hid _:=half_even _ t q HQ.out q0 hev
    have q2:0<q / 2:=by omega
    have ht2:=few_halves _ (t+1) (q / 2) HQ2.out q2 (by omega)
    clear hev
    go_wp2
    refine⟨⟨q / 2,t+1,rfl,by omega,by omega,HQ2,ht2,?_⟩,?_⟩
    ·rw[show p+((t+1:Nat):Int)=p+(t:Int)+1 by omega]
    ·simp only[intOf];omega
   ·have b:(q % 2==0)=false:=beq_eq_false_iff_ne.2 hev
    have HE:Hid _:=fun(_:Unit)=>hev
    clear hev
    go_wp2
    refine bodyPost_ret (v:=.agg #[.int .i64 1,.bool s,.int .i64 q,.int .i64 (p+(t:Int))]) (by simp[results,Tryz.results91,go_sem]) rfl ⟨q.toNat,t,HQ.out,?_,?_,(by repeat (first|exact Below.refl _ _|refine below_drewN ?_ _|refine Below.setCell ?_ (by simp) _|refine Below.alloc ?_ (by simp) _))⟩
    ·have:=HE.out ();omega
    ·rw[show((q.toNat:Nat):Int)=q by omega]
 ·subst hp
  have hq:R / 4503599627370496=0:=by unfold rung at hRd;omega
  have hr:R % 4503599627370496=(n:Int):=by unfold rung at hRd;omega
  rw[hr]at hmask
  clear hRd hr hlt
  go_enter Tryz.func91,Tryz.ntmps91
  go_wp2_with (go_at_call 124;refine(HR.out _).mono ?_;rintro e w' ⟨rfl,rfl⟩)
  go_loopw [7] (fun a wl=>∃ (q:Int) (t:Nat),a=.int .u64 q∧0<q∧q<9007199254740992∧Hid (n=q.toNat*2 ^ t)∧t≤52∧wl=(w.alloc (.cells #[.int .i64 0,.bool false,.int .i64 0,.int .i64 0] 65)).alloc (.cells #[.int .i64 1,.bool s,.int .i64 0,.int .i64 ((-1074:Int)+(t:Int))] 65)) (fun a _=>(intOf a).toNat)
  case atStart=>exact⟨(n:Int),0,rfl,by omega,by omega,by show n=((n:Int):Int).toNat*2 ^ 0;omega,by omega,by simp⟩
  case round=>
   obtain⟨q,t,rfl,q0,q1,HQ,ht,rfl⟩:=hrel
   by_cases hev:q % 2=0
   ·have b:(q % 2==0)=true:=beq_iff_eq.2 hev
    have HQ2:Hid _:=half_even _ t q HQ.out q0 hev
    have q2:0<q / 2:=by omega
    have ht2:=few_halves _ (t+1) (q / 2) HQ2.out q2 (by omega)
    clear hev
    go_wp2
    refine⟨⟨q / 2,t+1,rfl,by omega,by omega,HQ2,ht2,?_⟩,?_⟩
    ·rw[show(-1074:Int)+((t+1:Nat):Int)=(-1074:Int)+(t:Int)+1 by omega]
    ·simp only[intOf];omega
   ·have b:(q % 2==0)=false:=beq_eq_false_iff_ne.2 hev
    have HE:Hid _:=fun(_:Unit)=>hev
    clear hev
    go_wp2
    refine bodyPost_ret (v:=.agg #[.int .i64 1,.bool s,.int .i64 q,.int .i64 ((-1074:Int)+(t:Int))]) (by simp[results,Tryz.results91,go_sem]) rfl ⟨q.toNat,t,HQ.out,?_,?_,(by repeat (first|exact Below.refl _ _|refine below_drewN ?_ _|refine Below.setCell ?_ (by simp) _|refine Below.alloc ?_ (by simp) _))⟩
    ·have:=HE.out ();omega
    ·rw[show((q.toNat:Nat):Int)=q by omega]
end Go.Proofs.YtenbfookfcmpoaaGreatDoor
namespace Go.Proofs.YtenbfookfcmpoaaGreatDoor
open Go.RowKit
def DigN(n N:Nat):Prop:=N<10 ^ n∧(0<n→10 ^ (n-1)≤N)
theorem dig_pos{n N:Nat}(h:DigN n N)(m:Nat):0<N / 10 ^ m↔m<n:=by
 have hp:0<10 ^ m:=Nat.pow_pos (by omega)
 constructor
 ·intro h0
  apply Nat.lt_of_not_le
  intro hle
  have:10 ^ n≤10 ^ m:=Nat.pow_le_pow_right (by omega) hle
  rw[Nat.div_eq_of_lt (Nat.lt_of_lt_of_le h.1 this)]at h0
  omega
 ·intro hm
  have h1:=h.2 (by omega)
  have:10 ^ m≤10 ^ (n-1):=Nat.pow_le_pow_right (by omega) (by omega)
  exact Nat.div_pos (Nat.le_trans this h1) hp
theorem div_ten(N a b:Nat):N / 10 ^ a / 10 ^ b=N / 10 ^ (a+b):=by rw[Nat.div_div_eq_div_mul,←Nat.pow_add]
theorem chunk_digit(M i:Nat)(hi:i<9):M % 1000000000 / 10 ^ i % 10=M / 10 ^ i % 10:=by
 have e:(1000000000:Nat)=10 ^ i*10 ^ (9-i):=by rw[←Nat.pow_add,show i+(9-i)=9 by omega]
 rw[e,Nat.mod_mul_right_div_self,Nat.mod_mod_of_dvd]
 exact⟨10 ^ (9-i-1),by rw[←Nat.pow_succ'];congr 1;omega⟩
theorem chunk_more{n N:Nat}(h:DigN n N)(k i:Nat)(hi:i<9):(0<N / 10 ^ k % 1000000000 / 10 ^ i∨0<N / 10 ^ k / 1000000000)↔k+i<n:=by
 have e:N / 10 ^ k / 1000000000=N / 10 ^ (k+9):=div_ten N k 9
 by_cases hq:0<N / 10 ^ k / 1000000000
 ·have:=(dig_pos h (k+9)).1 (by rw[←e];exact hq)
  exact⟨fun _=>by omega,fun _=>.inr hq⟩
 ·have hlt:N / 10 ^ k<1000000000:=by
   apply Nat.lt_of_not_le
   intro hle
   exact hq (Nat.div_pos hle (by omega))
  rw[Nat.mod_eq_of_lt hlt,div_ten,dig_pos h]
  constructor
  ·rintro(h1|h1)
   ·exact h1
   ·exact absurd h1 hq
  ·exact .inl
theorem chunk_end{n N:Nat}(h:DigN n N)(k i:Nat)(hi:i≤9)(hk:k+i≤n)(he:¬(i<9∧k+i<n)):N / 10 ^ k / 1000000000=N / 10 ^ (k+i):=by
 have e:N / 10 ^ k / 1000000000=N / 10 ^ (k+9):=div_ten N k 9
 rw[e]
 by_cases h9:i=9
 ·rw[h9]
 ·have h1:k+i=n:=by omega
  have z:∀m,n≤m→N / 10 ^ m=0:=fun m hm=>Nat.div_eq_of_lt (Nat.lt_of_lt_of_le h.1 (Nat.pow_le_pow_right (by omega) hm))
  rw[z _ (by omega),z _ (by omega)]
theorem div_less_ten(N k j:Nat)(h:0<N / 10 ^ k)(hj:k<j):N / 10 ^ j<N / 10 ^ k:=by
 obtain⟨m,rfl⟩:∃m,j=k+(m+1):=⟨j-k-1,by omega⟩
 rw[←div_ten]
 have hp:1<10 ^ (m+1):=Nat.one_lt_pow (by omega) (by omega)
 exact Nat.div_lt_self h hp
def cellN(v:Value):Nat:=match v with | .int _ n=>n.toNat|_=>0
def wordsN:List Value→Nat
 | []=>0
 | v :: r=>cellN v+be*wordsN r
def lgVal(W:World)(v:Value):Nat:=match v with
 | .pointer (some a)=>(match W.heap[a.block]? with|some (.cells c _ _)=>wordsN (c.toList.drop 1)|_=>0)
 | _=>0
theorem wordsN_dg(M:Nat):∀n s,wordsN ((List.range n).map fun i=>.int .u32 (dg M (s+i):Int))=M / be ^ s % be ^ n:=by
 intro n
 induction n with
 | zero=>intro s;simp[wordsN,Nat.mod_one]
 | succ n ih=>
  intro s
  rw[List.range_succ_eq_map,List.map_cons,List.map_map]
  have e:((fun i=>Value.int .u32 (dg M (s+i):Int)) ∘ Nat.succ)=fun i=>.int .u32 (dg M (s+1+i):Int):=by
   funext i
   show Value.int .u32 (dg M (s+(i+1)):Int)=_
   rw[show s+(i+1)=s+1+i by omega]
  rw[e]
  show cellN (.int .u32 (dg M (s+0):Int))+be*wordsN _=_
  rw[ih (s+1)]
  show((dg M (s+0):Nat):Int).toNat+_=_
  rw[Int.toNat_natCast,Nat.add_zero]
  unfold dg
  rw[Nat.pow_succ be s,←Nat.div_div_eq_div_mul,Nat.pow_succ',Nat.mod_mul]
theorem lgVal_is{W:World}{B M:Nat}{t:TypeId}(h:Lg W B M [] t):lgVal W (.pointer (some ⟨B,0,none⟩))=M:=by
 obtain⟨c,hc,hk,hl⟩:=h
 unfold lgVal
 simp only[show W.heap[B]? = _ from hl]
 have e:(blk c (dg M) []).toList.drop 1=(List.range 151).map fun i=>.int .u32 (dg M (0+i):Int):=by
  unfold blk lgL
  simp
 rw[e,wordsN_dg,Nat.pow_zero,Nat.div_one]
 exact Nat.mod_eq_of_lt (Nat.lt_of_lt_of_le hk.1 (bpow_le hc))
end Go.Proofs.YtenbfookfcmpoaaGreatDoor
