import Derived.Test.YtenbfookfcmpoaaGreatDoorF11
namespace Go.Proofs.YtenbfookfcmpoaaGreatDoor
open Go.ChangeShapes Go.WideShapes Go.RowKit
open Ieee (double)
theorem odd_up(M d:Nat)(K R H:Int)(hd:2≤d)(F1:K=((M / 2 ^ d:Nat):Int))(F2:R=((M % 2 ^ d:Nat):Int))(F3:H=((2 ^ (d-1):Nat):Int))(h:H≤R):keptOf (oddOf M) d=(K+1).toNat:=by
 rw[odd_kept M d hd]
 generalize M / 2 ^ d=q at *
 generalize M % 2 ^ d=r at *
 generalize 2 ^ (d-1)=g at *
 rw[if_pos (by omega)]
 omega
theorem odd_down(M d:Nat)(K R H:Int)(hd:2≤d)(F1:K=((M / 2 ^ d:Nat):Int))(F2:R=((M % 2 ^ d:Nat):Int))(F3:H=((2 ^ (d-1):Nat):Int))(h:R<H):keptOf (oddOf M) d=K.toNat:=by
 rw[odd_kept M d hd]
 generalize M / 2 ^ d=q at *
 generalize M % 2 ^ d=r at *
 generalize 2 ^ (d-1)=g at *
 rw[if_neg (by omega)]
 omega
theorem odd_64(x:Int)(h1:x<18446744073709551616)(h:9223372036854775808≤x):keptOf (oddOf x.toNat) 64=(1:Int).toNat:=by
 rw[odd_kept _ _ (by omega)]
 have e:x.toNat % 2 ^ 64=x.toNat:=Nat.mod_eq_of_lt (by omega)
 have e2:x.toNat / 2 ^ 64=0:=Nat.div_eq_of_lt (by omega)
 rw[e,e2,if_pos (by omega)]
 rfl
set_option maxRecDepth 100000 in
set_option maxHeartbeats 1000000 in
theorem l2near_some(W:Nat)(y e:Int)(hW:∀ (j:Nat),9223372036854775808≤y.toNat*2 ^ j→y.toNat*2 ^ j<18446744073709551616→W=fw false (oddOf (y.toNat*2 ^ j)) (e-j))(h0:0<y)(hm:y<18446744073709551616)(h1:-2000≤e)(h2:e≤2000)(w:World) :
  Calls Tryz.prog 116 #[.int .u64 y,.int .i64 e,.bool true] w fun r w'=>r=.returned (.float .f64 W)∧w'=w:=by
 have HW:Hid _:=hW
 clear hW
 have e0:(y==0)=false:=beq_eq_false_iff_ne.2 (by omega)
 go_enter Tryz.func116,Tryz.ntmps116
 go_wp2
 go_loop [0,1] (fun a b=>∃ (j:Nat) (x:Int),a=.int .u64 x∧b=.int .i64 (e-j)∧0<x∧x<18446744073709551616∧Hid (x=((y.toNat*2 ^ j:Nat):Int))∧j≤63) (fun a _=>(18446744073709551616-intOf a).toNat)
 case atStart=>exact⟨0,y,rfl,by simp,h0,hm,by show y=((y.toNat*2 ^ 0:Nat):Int);rw[Nat.pow_zero,Nat.mul_one];omega,by omega⟩
 case round=>
  obtain⟨j,x,rfl,rfl,hM0,hM1,HM,hj⟩:=hrel
  by_cases hlt:x<9223372036854775808
  ·have hj2:=few_times y.toNat j x (by omega) HM.out hlt
   go_wp2
   refine⟨⟨j+1,x*2,rfl,?_,by omega,by omega,two_times y.toNat j x HM.out,hj2⟩,?_⟩
   ·rw[show e-((j+1:Nat):Int)=e-j-1 by omega]
   ·simp only[intOf];omega
  ·have HF:Hid (W=fw false (oddOf x.toNat) (e-j)):=by
    show W=fw false (oddOf x.toNat) (e-j)
    have hx:x.toNat=y.toNat*2 ^ j:=by rw[HM.out];exact Int.toNat_natCast _
    rw[hx]
    exact HW.out j (by rw[←hx];omega) (by rw[←hx];omega)
   clear HW
   clear HM e0
   have hb:9223372036854775808≤x:=by omega
   have he1:-2063≤e-j:=by omega
   have he2:e-j≤2000:=by omega
   have HB:Hid _:=fun(_:Unit)=>And.intro (show 9223372036854775808≤oddOf x.toNat by unfold oddOf;omega) (show oddOf x.toNat<18446744073709551616 by unfold oddOf;omega)
   generalize e-(j:Int)=p at *
   clear hlt hM0 hj
   by_cases c1:1024<p
   ·have HX:Hid (W=iw false):=HF.out.trans (fw_huge false _ p (HB.out ()).1 (HB.out ()).2 (by omega))
    go_wp2_with (go_at_call 75;refine(l2inf_any _).mono ?_;rintro e w' ⟨rfl,rfl⟩)
    go_ret
    exact⟨by rw[HX.out];rfl,rfl⟩
   ·by_cases c2:p < -1200
    ·have HX:Hid (W=0):=HF.out.trans (near_far _ p (HB.out ()).2 (by omega))
     go_wp2
     go_ret
     exact⟨by rw[HX.out];rfl,rfl⟩
    ·by_cases c3:p+11 < -1074
     ·by_cases c4:64 < -1074-p
      ·have HX:Hid (W=0):=HF.out.trans (near_far _ p (HB.out ()).2 (by omega))
       go_wp2
       go_ret
       exact⟨by rw[HX.out];rfl,rfl⟩
      ·have HN:Hid (W=fw false (keptOf (oddOf x.toNat) (-1074-p).toNat) (-1074)):=HF.out.trans (near_b _ p (HB.out ()).1 (HB.out ()).2 (by omega) (by omega))
       by_cases c5:-1074-p=64
       ·obtain rfl:p = -1138:=by omega
        have e64:(-1074-(-1138:Int)).toNat=64:=by omega
        have HM:Hid _:=fun(_:Unit)=>HN.out
        rw[e64]at HM
        clear HN HF he1 he2 c1 c2 c3 c4 c5 e64
        have HX:Hid (W=fw false (1:Int).toNat (-1074)):=(HM.out ()).trans (congrArg (fun t=>fw false t (-1074)) (odd_64 x hM1 hb))
        clear HM HB
        by_cases d1:9223372036854775808<x
        ·go_wp2_with (go_at_call 76;refine(l2scaled_int _ _ (by omega) (by omega) (by omega) (by omega) _).mono ?_;rintro e w' ⟨rfl,rfl⟩)
         go_ret
         exact⟨by rw[HX.out];rfl,rfl⟩
        ·have d2:(x==9223372036854775808)=true:=beq_iff_eq.2 (by omega)
         go_wp2_with (go_at_call 76;refine(l2scaled_int _ _ (by omega) (by omega) (by omega) (by omega) _).mono ?_;rintro e w' ⟨rfl,rfl⟩)
         go_ret
         exact⟨by rw[HX.out];rfl,rfl⟩
       ·have c6:-1074-p<64:=by omega
        have e64:(-1074-p==64)=false:=beq_eq_false_iff_ne.2 c5
        obtain⟨K,Q,H,hK,hQ,hH,q0,q1,g0,g1,k0,k1,FK,FR,FH⟩:=near_vars x (-1074-p).toNat hb hM1 (by omega) (by omega)
        have F1:Hid _:=FK
        have F2:Hid _:=FR
        have F3:Hid _:=FH
        have k2:K<4503599627370496:=by have:=(kept_more x.toNat (-1074-p).toNat (by omega) (by omega)).1;omega
        clear FK FR FH c5
        have HU:Hid _:=fun h=>HN.out.trans (congrArg (fun t=>fw false t (-1074)) (odd_up x.toNat _ K (x-Q) H (by omega) F1.out F2.out F3.out h))
        have HD:Hid _:=fun h=>HN.out.trans (congrArg (fun t=>fw false t (-1074)) (odd_down x.toNat _ K (x-Q) H (by omega) F1.out F2.out F3.out h))
        clear F1 F2 F3 HN HF
        by_cases d1:H<x-Q
        ·have HX:Hid _:=HU.out (by omega)
         clear HU HD
         go_wp2_with (go_at_call 76;refine(l2scaled_int _ _ (by omega) (by omega) (by omega) (by omega) _).mono ?_;rintro e w' ⟨rfl,rfl⟩)
         go_ret
         exact⟨by rw[HX.out];rfl,rfl⟩
        ·by_cases d2:x-Q=H
         ·have b2:(x-Q==H)=true:=beq_iff_eq.2 d2
          have HX:Hid _:=HU.out (by omega)
          clear HU HD d2
          go_wp2_with (go_at_call 76;refine(l2scaled_int _ _ (by omega) (by omega) (by omega) (by omega) _).mono ?_;rintro e w' ⟨rfl,rfl⟩)
          go_ret
          exact⟨by rw[HX.out];rfl,rfl⟩
         ·have b2:(x-Q==H)=false:=beq_eq_false_iff_ne.2 d2
          have HX:Hid _:=HD.out (by omega)
          clear HU HD d2
          go_wp2_with (go_at_call 76;refine(l2scaled_int _ _ (by omega) (by omega) (by omega) (by omega) _).mono ?_;rintro e w' ⟨rfl,rfl⟩)
          go_ret
          exact⟨by rw[HX.out];rfl,rfl⟩
     ·have e11:(p+11-p).toNat=11:=by omega
      have n64:(p+11-p==64)=false:=beq_eq_false_iff_ne.2 (by omega)
      obtain⟨K,Q,H,hK,hQ,hH,q0,q1,g0,g1',k0,k1,FK,FR,FH⟩:=near_vars x (p+11-p).toNat hb hM1 (by omega) (by omega)
      have F1:Hid _:=FK
      have F2:Hid _:=FR
      have F3:Hid _:=FH
      have HU:Hid _:=fun h=>odd_up x.toNat _ K (x-Q) H (by omega) FK FR FH h
      have HD:Hid _:=fun h=>odd_down x.toNat _ K (x-Q) H (by omega) FK FR FH h
      rw[e11]at HU HD
      have HA:Hid _:=fun h1 h2=>HF.out.trans (near_a_fits (oddOf x.toNat) p (HB.out ()).1 (HB.out ()).2 (by omega) h1 h2)
      have HC:Hid _:=fun h1 h2=>HF.out.trans (near_a_carry (oddOf x.toNat) p (HB.out ()).1 (HB.out ()).2 (by omega) h1 h2)
      have HI:Hid _:=fun h=>HF.out.trans (near_a_inf (oddOf x.toNat) p (HB.out ()).1 (HB.out ()).2 (by omega) h)
      clear FK FR FH HF HB e11
      by_cases d1:H<x-Q
      ·skip
       have hk:=HU.out (by omega)
       by_cases f1:K+1=9007199254740992
       ·have g1:(K+1==9007199254740992)=true:=beq_iff_eq.2 f1
        by_cases f2:971<p+11+1
        ·have HX:Hid _:=HI.out (.inr ⟨by rw[hk];omega,f2⟩)
         clear f1 hk
         clear HU HD HA HC HI F1 F2 F3
         go_wp2_with (go_at_call 75;refine(l2inf_any _).mono ?_;rintro e w' ⟨rfl,rfl⟩)
         go_ret
         exact⟨by rw[HX.out];rfl,rfl⟩
        ·have HX:Hid _:=HC.out (by omega) (by rw[hk];omega)
         clear f1 hk
         clear HU HD HA HC HI F1 F2 F3
         go_wp2_with (go_at_call 76;refine(l2scaled_int _ _ (by omega) (by omega) (by omega) (by omega) _).mono ?_;rintro e w' ⟨rfl,rfl⟩)
         go_ret
         exact⟨by rw[HX.out];rfl,rfl⟩
       ·have g1:(K+1==9007199254740992)=false:=beq_eq_false_iff_ne.2 f1
        have f3:K+1<9007199254740992:=by omega
        by_cases f2:971<p+11
        ·have HX:Hid _:=HI.out (.inl f2)
         clear f1 hk
         clear HU HD HA HC HI F1 F2 F3
         go_wp2_with (go_at_call 75;refine(l2inf_any _).mono ?_;rintro e w' ⟨rfl,rfl⟩)
         go_ret
         exact⟨by rw[HX.out];rfl,rfl⟩
        ·have HX:Hid _:=(HA.out (by omega) (by rw[hk];omega)).trans (congrArg (fun t=>fw false t (p+11)) hk)
         clear f1 hk
         clear HU HD HA HC HI F1 F2 F3
         go_wp2_with (go_at_call 76;refine(l2scaled_int _ _ (by omega) (by omega) (by omega) (by omega) _).mono ?_;rintro e w' ⟨rfl,rfl⟩)
         go_ret
         exact⟨by rw[HX.out];rfl,rfl⟩
      ·by_cases d2:x-Q=H
       ·have b2:(x-Q==H)=true:=beq_iff_eq.2 d2
        have hk:=HU.out (by omega)
        by_cases f1:K+1=9007199254740992
        ·have g1:(K+1==9007199254740992)=true:=beq_iff_eq.2 f1
         by_cases f2:971<p+11+1
         ·have HX:Hid _:=HI.out (.inr ⟨by rw[hk];omega,f2⟩)
          clear f1 hk d2
          clear HU HD HA HC HI F1 F2 F3
          go_wp2_with (go_at_call 75;refine(l2inf_any _).mono ?_;rintro e w' ⟨rfl,rfl⟩)
          go_ret
          exact⟨by rw[HX.out];rfl,rfl⟩
         ·have HX:Hid _:=HC.out (by omega) (by rw[hk];omega)
          clear f1 hk d2
          clear HU HD HA HC HI F1 F2 F3
          go_wp2_with (go_at_call 76;refine(l2scaled_int _ _ (by omega) (by omega) (by omega) (by omega) _).mono ?_;rintro e w' ⟨rfl,rfl⟩)
          go_ret
          exact⟨by rw[HX.out];rfl,rfl⟩
        ·have g1:(K+1==9007199254740992)=false:=beq_eq_false_iff_ne.2 f1
         have f3:K+1<9007199254740992:=by omega
         by_cases f2:971<p+11
         ·have HX:Hid _:=HI.out (.inl f2)
          clear f1 hk d2
          clear HU HD HA HC HI F1 F2 F3
          go_wp2_with (go_at_call 75;refine(l2inf_any _).mono ?_;rintro e w' ⟨rfl,rfl⟩)
          go_ret
          exact⟨by rw[HX.out];rfl,rfl⟩
         ·have HX:Hid _:=(HA.out (by omega) (by rw[hk];omega)).trans (congrArg (fun t=>fw false t (p+11)) hk)
          clear f1 hk d2
          clear HU HD HA HC HI F1 F2 F3
          go_wp2_with (go_at_call 76;refine(l2scaled_int _ _ (by omega) (by omega) (by omega) (by omega) _).mono ?_;rintro e w' ⟨rfl,rfl⟩)
          go_ret
          exact⟨by rw[HX.out];rfl,rfl⟩
       ·have b2:(x-Q==H)=false:=beq_eq_false_iff_ne.2 d2
        have hk:=HD.out (by omega)
        have g1:(K==9007199254740992)=false:=beq_eq_false_iff_ne.2 (by omega)
        by_cases f2:971<p+11
        ·have HX:Hid _:=HI.out (.inl f2)
         clear hk d2
         clear HU HD HA HC HI F1 F2 F3
         go_wp2_with (go_at_call 75;refine(l2inf_any _).mono ?_;rintro e w' ⟨rfl,rfl⟩)
         go_ret
         exact⟨by rw[HX.out];rfl,rfl⟩
        ·have HX:Hid _:=(HA.out (by omega) (by rw[hk];omega)).trans (congrArg (fun t=>fw false t (p+11)) hk)
         clear hk d2
         clear HU HD HA HC HI F1 F2 F3
         go_wp2_with (go_at_call 76;refine(l2scaled_int _ _ (by omega) (by omega) (by omega) (by omega) _).mono ?_;rintro e w' ⟨rfl,rfl⟩)
         go_ret
         exact⟨by rw[HX.out];rfl,rfl⟩
end Go.Proofs.YtenbfookfcmpoaaGreatDoor
