import Derived.Test.YtenbfookfcmpoaaGreatDoorF20
import Derived.Test.YtenbfookfcmpoaaGreatDoorF11
namespace Go.Proofs.YtenbfookfcmpoaaGreatDoor
open Go.ChangeShapes Go.WideShapes Go.RowKit
open Ieee (double)
set_option maxHeartbeats 400000 in
theorem infinity_any(s:Bool)(w:World) :
  Calls Tryz.prog 57 #[.bool s] w fun e w'=>e=.returned (.agg #[.bool s,.int .u64 2047,.int .u64 0])∧w'=w.alloc (.cells #[.bool s,.int .u64 2047,.int .u64 0] 104):=by
 go_enter Tryz.func57,Tryz.ntmps57
 go_wp2
 exact bodyPost_ret (v:=.agg #[.bool s,.int .u64 2047,.int .u64 0]) (by simp[results,Tryz.results57,go_sem]) rfl ⟨rfl,rfl⟩
theorem call_bits(x:Nat)(w:World):(callFunc 95 #[.float .f64 x]).run Tryz.prog w=.ok (.value (.int .u64 x)) w:=by kernel_rfl
set_option maxHeartbeats 400000 in
theorem layoutOf_any(U:Nat)(s:Bool)(E M:Nat)(h:Lays U s E M)(w:World) :
  Calls Tryz.prog 52 #[.float .f64 U] w fun e w'=>e=.returned (.agg #[.bool s,.int .u64 E,.int .u64 M])∧w'=w.alloc (.cells #[.bool s,.int .u64 E,.int .u64 M] 104):=by
 obtain⟨h1,h2,h3⟩:=h
 have hc:=call_bits U
 go_enter Tryz.func52,Tryz.ntmps52
 go_wp2
 exact bodyPost_ret (v:=.agg #[.bool s,.int .u64 E,.int .u64 M]) (by simp[results,Tryz.results52,go_sem]) rfl ⟨rfl,rfl⟩
set_option maxHeartbeats 400000 in
theorem kind_zero(s:Bool)(w:World) :
  Calls Tryz.prog 53 #[.agg #[.bool s,.int .u64 0,.int .u64 0]] w fun e w'=>e=.returned (.int .i64 0)∧w'=w.alloc (.cells #[.bool s,.int .u64 0,.int .u64 0] 104):=by
 go_enter Tryz.func53,Tryz.ntmps53
 go_wp2
 go_ret
 exact⟨rfl,rfl⟩
set_option maxHeartbeats 400000 in
theorem kind_inf(s:Bool)(w:World) :
  Calls Tryz.prog 53 #[.agg #[.bool s,.int .u64 2047,.int .u64 0]] w fun e w'=>e=.returned (.int .i64 2)∧w'=((w.alloc (.cells #[.bool s,.int .u64 2047,.int .u64 0] 104)).alloc (.cells #[.bool s,.int .u64 2047,.int .u64 0] 104)).drew:=by
 go_enter Tryz.func53,Tryz.ntmps53
 go_wp2
 go_region_with (go_at_call 57;refine(infinity_any _ _).mono ?_;rintro e w' ⟨rfl,rfl⟩)
 all_goals
  go_wp2
  go_ret
  exact⟨rfl,rfl⟩
set_option maxHeartbeats 400000 in
theorem kind_nan(s:Bool)(M:Nat)(hM:M≠0)(w:World) :
  Calls Tryz.prog 53 #[.agg #[.bool s,.int .u64 2047,.int .u64 M]] w fun e w'=>e=.returned (.int .i64 3)∧w'=((w.alloc (.cells #[.bool s,.int .u64 2047,.int .u64 M] 104)).alloc (.cells #[.bool s,.int .u64 2047,.int .u64 0] 104)).drew:=by
 have m0:((M:Int)==0)=false:=beq_eq_false_iff_ne.2 (by omega)
 clear hM
 go_enter Tryz.func53,Tryz.ntmps53
 go_wp2
 go_region_with (go_at_call 57;refine(infinity_any _ _).mono ?_;rintro e w' ⟨rfl,rfl⟩)
 all_goals
  go_wp2
  go_ret
  exact⟨rfl,rfl⟩
set_option maxHeartbeats 400000 in
theorem kind_small(s:Bool)(M:Nat)(hM:M≠0)(w:World) :
  Calls Tryz.prog 53 #[.agg #[.bool s,.int .u64 0,.int .u64 M]] w fun e w'=>e=.returned (.int .i64 1)∧w'=((w.alloc (.cells #[.bool s,.int .u64 0,.int .u64 M] 104)).alloc (.cells #[.bool s,.int .u64 2047,.int .u64 0] 104)).drew:=by
 have m0:((M:Int)==0)=false:=beq_eq_false_iff_ne.2 (by omega)
 clear hM
 go_enter Tryz.func53,Tryz.ntmps53
 go_wp2
 go_region_with (go_at_call 57;refine(infinity_any _ _).mono ?_;rintro e w' ⟨rfl,rfl⟩)
 all_goals
  go_wp2
  go_ret
  exact⟨rfl,rfl⟩
set_option maxHeartbeats 400000 in
theorem kind_normal(s:Bool)(E M:Nat)(h1:1≤E)(h2:E≤2046)(w:World) :
  Calls Tryz.prog 53 #[.agg #[.bool s,.int .u64 E,.int .u64 M]] w fun e w'=>e=.returned (.int .i64 1)∧w'=((w.alloc (.cells #[.bool s,.int .u64 E,.int .u64 M] 104)).alloc (.cells #[.bool s,.int .u64 2047,.int .u64 0] 104)).drew:=by
 have e0:((E:Int)==0)=false:=beq_eq_false_iff_ne.2 (by omega)
 have e1:((E:Int)==2047)=false:=beq_eq_false_iff_ne.2 (by omega)
 clear h1 h2
 go_enter Tryz.func53,Tryz.ntmps53
 go_wp2
 go_region_with (go_at_call 57;refine(infinity_any _ _).mono ?_;rintro e w' ⟨rfl,rfl⟩)
 all_goals
  go_wp2
  go_ret
  exact⟨rfl,rfl⟩
set_option maxRecDepth 100000 in
set_option maxHeartbeats 400000 in
theorem l2near_any(y e:Int)(h0:0≤y)(hm:y<18446744073709551616)(w:World) :
  Calls Tryz.prog 116 #[.int .u64 y,.int .i64 e,.bool false] w fun r w'=>r=.returned (.float .f64 (fw false y.toNat e))∧w'=w:=by
 by_cases hz:y=0
 ·subst hz
  have HX:Hid (fw false (0:Int).toNat e=0):=by show fw false 0 e=0;rw[fw_zero];rfl
  go_enter Tryz.func116,Tryz.ntmps116
  go_wp2
  go_ret
  exact⟨by rw[HX.out];rfl,rfl⟩
 ·by_cases h1:e < -2000
  ·have e0:(y==0)=false:=beq_eq_false_iff_ne.2 hz
   have HX:Hid (fw false y.toNat e=0):=by show fw false y.toNat e=0;rw[fw_tiny false _ e (by omega) (by omega)];rfl
   clear hz
   go_enter Tryz.func116,Tryz.ntmps116
   go_wp2
   go_ret
   exact⟨by rw[HX.out];rfl,rfl⟩
  ·by_cases h2:2000<e
   ·have e0:(y==0)=false:=beq_eq_false_iff_ne.2 hz
    have HX:Hid (fw false y.toNat e=iw false):=by
     show fw false y.toNat e=iw false
     obtain⟨a1,a2,a3⟩:=norm_64 y.toNat (by omega) (by omega)
     rw[←fw_scale false y.toNat (63-y.toNat.log2) e]
     exact fw_huge false _ _ a1 a2 (by omega)
    clear hz
    go_enter Tryz.func116,Tryz.ntmps116
    go_wp2_with (go_at_call 75;refine(l2inf_any _).mono ?_;rintro e w' ⟨rfl,rfl⟩)
    go_ret
    exact⟨by rw[HX.out];rfl,rfl⟩
   ·exact l2near_loop y e (by omega) hm (by omega) (by omega) w
theorem and_one(K:Int)(h0:0≤K)(h1:K<18446744073709551616):bits .and .u64 K 1=K % 2:=by
 have h:=bits_mask .u64 64 (by decide) (fun n a b=>by rw[IntKind.wrap_u64];omega) 1 (by decide) K h0 (by omega)
 exact h
theorem round_vars(x:Int)(k:Nat)(h0:0≤x)(hx:x<18446744073709551616)(hk:1≤k)(hk':k≤63):∃K R H:Int,
  x / 2 ^ k=K∧IntKind.u64.wrap (2 ^ (k-1))=H∧bits .and .u64 x (H*2-1)=R∧0<H∧H≤4611686018427387904∧0≤K∧K<9223372036854775808∧bits .and .u64 K 1=K % 2
  ∧ K=((x.toNat / 2 ^ k:Nat):Int)∧R=((x.toNat % 2 ^ k:Nat):Int)∧H=((2 ^ (k-1):Nat):Int):=by
 obtain⟨M,rfl⟩:=Int.eq_ofNat_of_zero_le h0
 rw[Int.toNat_natCast]
 have hq:M / 2 ^ k<9223372036854775808:=by
  have e:(2:Nat) ^ 1≤2 ^ k:=Nat.pow_le_pow_right (by omega) hk
  rw[Nat.div_lt_iff_lt_mul (Nat.two_pow_pos k)]
  have e2:9223372036854775808*2 ^ 1≤9223372036854775808*2 ^ k:=Nat.mul_le_mul_left _ e
  omega
 have hH1:2 ^ (k-1)≤2 ^ 62:=Nat.pow_le_pow_right (by omega) (by omega)
 have hH0:0<2 ^ (k-1):=Nat.two_pow_pos _
 have e62:(2:Nat) ^ 62=4611686018427387904:=rfl
 have c1:(M:Int) / 2 ^ k=((M / 2 ^ k:Nat):Int):=by
  rw[Int.natCast_ediv];congr 1
 have c3:(2:Int) ^ (k-1)=((2 ^ (k-1):Nat):Int):=(Int.natCast_pow 2 (k-1)).symm
 have c4:((2 ^ (k-1):Nat):Int)*2-1=2 ^ k-1:=by
  rw[←c3,←Int.pow_succ,show(k-1).succ=k by omega]
 have hr:bits .and .u64 (M:Int) (2 ^ k-1)=((M % 2 ^ k:Nat):Int):=by
  rw[bits_mask .u64 64 (by decide) (fun n a b=>by rw[IntKind.wrap_u64];omega) k (by omega) (M:Int) h0 (by omega),Int.natCast_emod]
  congr 1
 generalize M / 2 ^ k=q at *
 generalize M % 2 ^ k=r at *
 generalize 2 ^ (k-1)=h at *
 refine⟨q,r,h,c1,?_,by rw[c4];exact hr,by omega,by omega,by omega,by omega,and_one _ (by omega) (by omega),rfl,rfl,rfl⟩
 rw[c3,IntKind.wrap_u64];omega
theorem round_neg(m k:Nat):roundN m (-(k:Int))=m*2 ^ k:=by
 unfold roundN
 rw[if_pos (by omega),Int.neg_neg,Int.toNat_natCast]
theorem round_pos(m k:Nat)(h:1≤k):roundN m (k:Int)=keptOf m k:=by
 unfold roundN
 rw[if_neg (by omega),Int.toNat_natCast]
set_option maxHeartbeats 400000 in
theorem roundBits_neg(x:Int)(k:Nat)(h0:0≤x)(hk:k≤52)(hm:x.toNat*2 ^ k≤9007199254740992)(w:World) :
  Calls Tryz.prog 60 #[.int .u64 x,.int .i64 (-(k:Int))] w fun e w'=>e=.returned (.int .u64 (roundN x.toNat (-(k:Int)):Int))∧w'=w:=by
 obtain⟨R,hR,HR⟩:∃R:Int,IntKind.u64.wrap (x*2 ^ k)=R∧Hid (R=((roundN x.toNat (-(k:Int)):Nat):Int)):=by
  refine⟨_,rfl,?_⟩
  show IntKind.u64.wrap (x*2 ^ k)=_
  rw[round_neg]
  obtain⟨M,rfl⟩:=Int.eq_ofNat_of_zero_le h0
  rw[Int.toNat_natCast]at hm ⊢
  rw[show(M:Int)*2 ^ k=((M*2 ^ k:Nat):Int) by rw[Int.natCast_mul];congr 1]
  rw[IntKind.wrap_u64];omega
 clear hm
 go_enter Tryz.func60,Tryz.ntmps60
 go_wp2
 go_ret
 exact⟨by rw[←HR.out];rfl,rfl⟩
set_option maxHeartbeats 400000 in
theorem roundBits_64(x:Int)(h0:0≤x)(hx:x<18446744073709551616)(w:World) :
  Calls Tryz.prog 60 #[.int .u64 x,.int .i64 64] w fun e w'=>e=.returned (.int .u64 (roundN x.toNat 64:Int))∧w'=w:=by
 have hA:bits .and .u64 x 18446744073709551615=x:=by
  have h:=bits_mask .u64 64 (by decide) (fun n a b=>by rw[IntKind.wrap_u64];omega) 64 (by decide) x h0 (by omega)
  rw[show(2:Int) ^ 64-1=18446744073709551615 by decide]at h
  rw[h];omega
 have hK:x / 18446744073709551616=0:=by omega
 have w1:IntKind.u64.wrap 18446744073709551616=0:=by decide
 have w2:IntKind.u64.wrap (-1)=18446744073709551615:=by decide
 have e1:roundN x.toNat 64=keptOf x.toNat 64:=round_pos x.toNat 64 (by omega)
 by_cases d1:9223372036854775808<x
 ·have HX:Hid (Ending.returned (.int .u64 1)=Ending.returned (.int .u64 (roundN x.toNat 64:Int))):=by show _=_;rw[e1,kept_64_up x hx d1];rfl
  clear e1
  go_enter Tryz.func60,Tryz.ntmps60
  go_wp2
  go_ret
  exact⟨HX.out,rfl⟩
 ·have e2:keptOf x.toNat 64=0:=by
   unfold keptOf
   have e:x.toNat % 2 ^ 64=x.toNat:=Nat.mod_eq_of_lt (by omega)
   have e2:x.toNat / 2 ^ 64=0:=Nat.div_eq_of_lt (by omega)
   rw[e,e2,if_neg (by omega)]
  have HX:Hid (Ending.returned (.int .u64 0)=Ending.returned (.int .u64 (roundN x.toNat 64:Int))):=by show _=_;rw[e1,e2];rfl
  have h10:=and_one 0 (by omega) (by omega)
  clear e1 e2
  by_cases d2:x=9223372036854775808
  ·subst d2
   have HY:Hid (Ending.returned (.int .u64 0)=Ending.returned (.int .u64 (roundN 9223372036854775808 64:Int))):=HX.out
   go_enter Tryz.func60,Tryz.ntmps60
   go_wp2
   go_ret
   exact⟨HY.out,rfl⟩
  ·have b2:(x==9223372036854775808)=false:=beq_eq_false_iff_ne.2 d2
   clear d2
   go_enter Tryz.func60,Tryz.ntmps60
   go_wp2
   go_ret
   exact⟨HX.out,rfl⟩
set_option maxHeartbeats 400000 in
theorem roundBits_pos(x:Int)(k:Nat)(h0:0≤x)(hx:x<18446744073709551616)(hk:1≤k)(hk':k≤63)(w:World) :
  Calls Tryz.prog 60 #[.int .u64 x,.int .i64 (k:Int)] w fun e w'=>e=.returned (.int .u64 (roundN x.toNat (k:Int):Int))∧w'=w:=by
 obtain⟨K,R,H,hK,hH,hR,g0,g1,k0,k1,ho,F1,F2,F3⟩:=round_vars x k h0 hx hk hk'
 have HU:Hid _:=fun h=>(round_pos x.toNat k hk).trans (kept_up x.toNat k K R H F1 F2 F3 h)
 have HD:Hid _:=fun h=>(round_pos x.toNat k hk).trans (kept_down x.toNat k K R H F1 F2 F3 h)
 clear F1 F2 F3
 have c1:(k:Int)≤63:=by omega
 have c2:1≤(k:Int):=by omega
 by_cases d1:H<R
 ·have HX:Hid (K+1=((roundN x.toNat (k:Int):Nat):Int)):=by show _=_;rw[HU.out (.inl d1)];omega
  clear HU HD
  go_enter Tryz.func60,Tryz.ntmps60
  go_wp2
  go_ret
  exact⟨by rw[←HX.out];rfl,rfl⟩
 ·by_cases d2:R=H
  ·have b2:(R==H)=true:=beq_iff_eq.2 d2
   by_cases d3:K % 2=1
   ·have b3:(K % 2==1)=true:=beq_iff_eq.2 d3
    have HX:Hid (K+1=((roundN x.toNat (k:Int):Nat):Int)):=by show _=_;rw[HU.out (.inr ⟨d2,d3⟩)];omega
    clear HU HD d2 d3
    go_enter Tryz.func60,Tryz.ntmps60
    go_wp2
    go_ret
    exact⟨by rw[←HX.out];rfl,rfl⟩
   ·have b3:(K % 2==1)=false:=beq_eq_false_iff_ne.2 d3
    have HX:Hid (K=((roundN x.toNat (k:Int):Nat):Int)):=by show _=_;rw[HD.out (.inr ⟨d2,d3⟩)];omega
    clear HU HD d2 d3
    go_enter Tryz.func60,Tryz.ntmps60
    go_wp2
    go_ret
    exact⟨by rw[←HX.out];rfl,rfl⟩
  ·have b2:(R==H)=false:=beq_eq_false_iff_ne.2 d2
   have HX:Hid (K=((roundN x.toNat (k:Int):Nat):Int)):=by show _=_;rw[HD.out (.inl (by omega))];omega
   clear HU HD d2
   go_enter Tryz.func60,Tryz.ntmps60
   go_wp2
   go_ret
   exact⟨by rw[←HX.out];rfl,rfl⟩
theorem roundBits_any(x d:Int)(h0:0≤x)(hx:x<18446744073709551616)(h1:-52≤d)(h2:d≤64)(hle:roundN x.toNat d≤9007199254740992)(w:World) :
  Calls Tryz.prog 60 #[.int .u64 x,.int .i64 d] w fun e w'=>e=.returned (.int .u64 (roundN x.toNat d:Int))∧w'=w:=by
 by_cases c:d≤0
 ·obtain⟨k,rfl⟩:∃k:Nat,d = -(k:Int):=⟨(-d).toNat,by omega⟩
  rw[round_neg]at hle
  exact roundBits_neg x k h0 (by omega) hle w
 ·obtain⟨k,rfl⟩:∃k:Nat,d=(k:Int):=⟨d.toNat,by omega⟩
  by_cases c2:k=64
  ·subst c2
   exact roundBits_64 x h0 hx w
  ·exact roundBits_pos x k h0 hx (by omega) (by omega) w
set_option maxHeartbeats 400000 in
theorem place_any(s:Bool)(k:Nat)(L:Int)(hk:k≤9007199254740992)(h1:-1074≤L)(h2:L≤971)(w:World) :
  Calls Tryz.prog 59 #[.bool s,.int .u64 (k:Int),.int .i64 L] w fun e w'=>e=.returned (.float .f64 (signBit s+((L+1074).toNat*4503599627370496+k)))∧w'=w:=by
 obtain⟨a,ha⟩:∃a:Nat,L=(a:Int)-1074:=⟨(L+1074).toNat,by omega⟩
 subst ha
 rw[show((a:Int)-1074+1074).toNat=a by omega]
 obtain⟨A,hA⟩:∃A:Int,A=(a:Int):=⟨_,rfl⟩
 obtain⟨K,hK⟩:∃K:Int,K=(k:Int):=⟨_,rfl⟩
 rw[←hA,←hK]
 have eV:(A*4503599627370496+K).toNat=a*4503599627370496+k:=by omega
 have HO:Hid (bits .or .u64 (A*4503599627370496+K) 9223372036854775808=9223372036854775808+(A*4503599627370496+K)):=by
  show _=_
  have h:=or_top (a*4503599627370496+k) (by omega)
  rw[show((a*4503599627370496+k:Nat):Int)=A*4503599627370496+K by omega]at h
  rw[h];omega
 have a0:0≤A:=by omega
 have a1:A≤2045:=by omega
 have k0:0≤K:=by omega
 have k1:K≤9007199254740992:=by omega
 cases s
 ·have hc:=call_frombits (A*4503599627370496+K)
  rw[eV]at hc
  clear hA hK eV HO hk h1 h2
  go_enter Tryz.func59,Tryz.ntmps59
  go_wp2
  go_ret
  exact⟨by show Ending.returned (.float .f64 (a*4503599627370496+k))=Ending.returned (.float .f64 (0+(a*4503599627370496+k)));rw[Nat.zero_add],rfl⟩
 ·have hc:=call_frombits (9223372036854775808+(A*4503599627370496+K))
  rw[show(9223372036854775808+(A*4503599627370496+K)).toNat=9223372036854775808+(a*4503599627370496+k) by omega]at hc
  have ho:=HO.out
  clear hA hK eV HO hk h1 h2
  go_enter Tryz.func59,Tryz.ntmps59
  go_wp2
  go_ret
  exact⟨rfl,rfl⟩
theorem bitLen_pos(m:Nat)(h:0<m):bitLen m=m.log2+1:=by unfold bitLen;rw[if_neg (by omega)]
theorem float_zero(s:Bool)(w:World) :
  Calls Tryz.prog 56 #[.agg #[.bool s,.int .u64 0,.int .u64 0]] w fun e w'=>e=.returned (.float .f64 (signBit s))∧Below w.heap.size w w':=by
 refine(float_any s 0 0 (by omega) (by omega) w).mono ?_
 rintro e w' ⟨rfl,rfl⟩
 exact⟨rfl,((Below.refl _ w).alloc (by simp) _).alloc (by simp) _⟩
theorem float_inf(s:Bool)(w:World) :
  Calls Tryz.prog 56 #[.agg #[.bool s,.int .u64 2047,.int .u64 0]] w fun e w'=>e=.returned (.float .f64 (iw s))∧Below w.heap.size w w':=by
 refine(float_any s 2047 0 (by omega) (by omega) w).mono ?_
 rintro e w' ⟨rfl,rfl⟩
 exact⟨rfl,((Below.refl _ w).alloc (by simp) _).alloc (by simp) _⟩
set_option maxHeartbeats 400000 in
theorem near_nil(s:Bool)(n e x:Int)(hu:IntKind.u64.wrap n=x)(h:x=0∨e < -1138)(w:World) :
  Calls Tryz.prog 27 #[.bool s,.int .i64 n,.int .i64 e] w fun r w'=>r=.returned (.float .f64 (signBit s))∧Below w.heap.size w w':=by
 have HF:Hid _:=fun w=>float_zero s w
 by_cases h0:x=0
 ·subst h0
  clear h
  go_enter Tryz.func27,Tryz.ntmps27
  go_wp2_with (go_at_call 56;refine(HF.out _).mono ?_;rintro e w' ⟨rfl,hb⟩)
  go_ret
  exact⟨rfl,hb⟩
 ·have b0:(x==0)=false:=beq_eq_false_iff_ne.2 h0
  have h1:e < -1138:=by omega
  clear h h0
  go_enter Tryz.func27,Tryz.ntmps27
  go_wp2_with (go_at_call 56;refine(HF.out _).mono ?_;rintro e w' ⟨rfl,hb⟩)
  go_ret
  exact⟨rfl,hb⟩
set_option maxHeartbeats 400000 in
theorem near_high(s:Bool)(n e x:Int)(hu:IntKind.u64.wrap n=x)(h0:x≠0)(h:1023<e)(w:World) :
  Calls Tryz.prog 27 #[.bool s,.int .i64 n,.int .i64 e] w fun r w'=>r=.returned (.float .f64 (iw s))∧Below w.heap.size w w':=by
 have HF:Hid _:=fun w=>float_inf s w
 have b0:(x==0)=false:=beq_eq_false_iff_ne.2 h0
 clear h0
 go_enter Tryz.func27,Tryz.ntmps27
 go_wp2_with (first|(go_at_call 57;refine(infinity_any _ _).mono ?_;rintro e w' ⟨rfl,rfl⟩)|(go_at_call 56;refine(HF.out _).mono ?_;rintro e w' ⟨rfl,hb⟩))
 go_ret
 exact⟨rfl,Below.trans ((Below.refl _ w).alloc (by simp) _) (hb.mono (by simp))⟩
set_option maxHeartbeats 400000 in
theorem near_over(s:Bool)(n e x Ln:Int)(hu:IntKind.u64.wrap n=x)(h0:x≠0)(h:e≤1023)(h':-1138≤e)(hl:1≤Ln)(hl':Ln≤64)(ho:971<e+Ln-53)
  (hL:∀w,Calls Tryz.prog 58 #[.int .u64 x] w fun e w'=>e=.returned (.int .i64 Ln)∧w'=w) (w:World) :
  Calls Tryz.prog 27 #[.bool s,.int .i64 n,.int .i64 e] w fun r w'=>r=.returned (.float .f64 (iw s))∧Below w.heap.size w w':=by
 have HL:Hid _:=hL
 have HF:Hid _:=fun w=>float_inf s w
 have b0:(x==0)=false:=beq_eq_false_iff_ne.2 h0
 clear h0 hL
 go_enter Tryz.func27,Tryz.ntmps27
 go_wp2_with (first|(go_at_call 58;refine(HL.out _).mono ?_;rintro e w' ⟨rfl,rfl⟩)|(go_at_call 57;refine(infinity_any _ _).mono ?_;rintro e w' ⟨rfl,rfl⟩)|(go_at_call 56;refine(HF.out _).mono ?_;rintro e w' ⟨rfl,hb⟩))
 go_ret
 exact⟨rfl,Below.trans ((Below.refl _ _).alloc (by simp) _) (hb.mono (by simp))⟩
set_option maxHeartbeats 400000 in
theorem near_fits(s:Bool)(n e x Ln L:Int)(R:Nat)(hu:IntKind.u64.wrap n=x)(h0:x≠0)(h:e≤1023)(h':-1138≤e)(hl:1≤Ln)(hl':Ln≤64)(hm:(-1074≤e+Ln-53∧L=e+Ln-53)∨(e+Ln-53 < -1074∧L = -1074))(ho:L≤971)
  (hL:∀w,Calls Tryz.prog 58 #[.int .u64 x] w fun e w'=>e=.returned (.int .i64 Ln)∧w'=w)
  (hR:∀w,Calls Tryz.prog 60 #[.int .u64 x,.int .i64 (L-e)] w fun e w'=>e=.returned (.int .u64 (R:Int))∧w'=w) (hR':R≤9007199254740992) (w:World) :
  Calls Tryz.prog 27 #[.bool s,.int .i64 n,.int .i64 e] w fun r w'=>r=.returned (.float .f64 (signBit s+((L+1074).toNat*4503599627370496+R)))∧Below w.heap.size w w':=by
 have HL:Hid _:=hL
 have b0:(x==0)=false:=beq_eq_false_iff_ne.2 h0
 have HP:Hid _:=fun w=>place_any s R L hR' (by omega) ho w
 clear h0 hL hR'
 rcases hm with⟨m1,rfl⟩|⟨m1,rfl⟩
 ·have HR:Hid _:=hR
  clear hR
  go_enter Tryz.func27,Tryz.ntmps27
  go_wp2_with (first|(go_at_call 58;refine(HL.out _).mono ?_;rintro e w' ⟨rfl,rfl⟩)|(go_at_call 60;refine(HR.out _).mono ?_;rintro e w' ⟨rfl,rfl⟩)|(go_at_call 59;refine(HP.out _).mono ?_;rintro e w' ⟨rfl,rfl⟩))
  go_ret
  exact⟨rfl,Below.refl _ _⟩
 ·have HR:Hid _:=hR
  clear hR
  go_enter Tryz.func27,Tryz.ntmps27
  go_wp2_with (first|(go_at_call 58;refine(HL.out _).mono ?_;rintro e w' ⟨rfl,rfl⟩)|(go_at_call 60;refine(HR.out _).mono ?_;rintro e w' ⟨rfl,rfl⟩)|(go_at_call 59;refine(HP.out _).mono ?_;rintro e w' ⟨rfl,rfl⟩))
  go_ret
  exact⟨by rw[show((-1074:Int)+1074).toNat=0 from rfl,Nat.zero_mul,Nat.zero_add];rfl,Below.refl _ _⟩
theorem implNear_any(s:Bool)(n e:Int)(w:World) :
  Calls Tryz.prog 27 #[.bool s,.int .i64 n,.int .i64 e] w fun r w'=>r=.returned (.float .f64 (fw s (u64n n) e))∧Below w.heap.size w w':=by
 have hu:=u64n_cast n
 have hlt:=u64n_lt n
 generalize u64n n=U at *
 by_cases h0:U=0
 ·subst h0
  rw[fw_zero]
  exact near_nil s n e _ hu (.inl rfl) w
 ·by_cases h1:e < -1138
  ·rw[fw_tiny s U e hlt (by omega)]
   exact near_nil s n e _ hu (.inr h1) w
  ·have hl63:=log_63 U (by omega) hlt
   by_cases h2:1023<e
   ·rw[fw_over s U e _ (by omega) rfl (by omega)]
    exact near_high s n e _ hu (by omega) h2 w
   ·have hLen:∀w,Calls Tryz.prog 58 #[.int .u64 (U:Int)] w fun e w'=>e=.returned (.int .i64 ((U.log2:Int)+1))∧w'=w:=fun w=>by
     refine(len64_any (U:Int) (by omega) (by omega) w).mono ?_
     rintro e w' ⟨rfl,rfl⟩
     rw[Int.toNat_natCast,bitLen_pos U (by omega)]
     exact⟨rfl,rfl⟩
    by_cases h3:971<max (e+(U.log2:Int)-52) (-1074)
    ·rw[fw_over s U e _ (by omega) rfl h3]
     exact near_over s n e U ((U.log2:Int)+1) hu (by omega) (by omega) (by omega) (by omega) (by omega) (by omega) hLen w
    ·rw[fw_fits s U e _ (by omega) rfl (by omega)]
     have hle:=roundN_le U e
     have hR:∀w,Calls Tryz.prog 60 #[.int .u64 (U:Int),.int .i64 (max (e+(U.log2:Int)-52) (-1074)-e)] w fun e' w'=>e'=.returned (.int .u64 (roundN U (max (e+(U.log2:Int)-52) (-1074)-e):Int))∧w'=w:=fun w=>by
      have h:=roundBits_any (U:Int) (max (e+(U.log2:Int)-52) (-1074)-e) (by omega) (by omega) (by omega) (by omega) (by rw[Int.toNat_natCast];exact hle) w
      rw[Int.toNat_natCast]at h
      exact h
     generalize roundN U (max (e+(U.log2:Int)-52) (-1074)-e)=R at *
     exact near_fits s n e U ((U.log2:Int)+1) (max (e+(U.log2:Int)-52) (-1074)) R hu (by omega) (by omega) (by omega) (by omega) (by omega) (by omega) (by omega) hLen hR hle w
end Go.Proofs.YtenbfookfcmpoaaGreatDoor
