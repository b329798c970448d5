import Derived.Test.YtenbfookfcmpoaaGreatDoorF06
namespace Go.Proofs.YtenbfookfcmpoaaGreatDoor
open Go.ChangeShapes Go.WideShapes Go.RowKit
open Ieee (double)
set_option maxHeartbeats 400000 in
theorem l2inf_any(w:World):Calls Tryz.prog 75 #[] w fun e w'=>e=.returned (.float .f64 (iw false))∧w'=w:=by
 have hd:=run_valid (P:=Tryz.prog) .quo 29 4607182418800017408 0 (iw false) (one_by_zero false)
 go_enter Tryz.func75,Tryz.ntmps75
 go_wp2
 go_ret
 exact⟨rfl,rfl⟩
set_option maxRecDepth 100000 in
set_option maxHeartbeats 1000000 in
theorem l2scaled_any(m:Nat)(E:Int)(hm:m<9007199254740992)(h1:-1074≤E)(h2:E≤971)(w:World) :
  Calls Tryz.prog 76 #[.int .u64 m,.int .i64 E] w fun e w'=>e=.returned (.float .f64 (fw false m E))∧w'=w:=by
 have hf:=float_of m
 go_enter Tryz.func76,Tryz.ntmps76
 go_wp2
 clear hf
 go_loop [1,5] (fun e f=>∃j:Nat,f=.float .f64 (fw false m j)∧e=.int .i64 (E-j)∧(j=0∨(j:Int)≤E)) (fun e _=>(intOf e).toNat)
 case atStart=>exact⟨0,by simp,by simp,.inl rfl⟩
 case round=>
  obtain⟨j,rfl,rfl,hj⟩:=hrel
  by_cases hlt:0<E-j
  ·have hmul:=run_valid (P:=Tryz.prog) .mul 29 (fw false m j) 4611686018427387904 (fw false m ((j:Int)+1)) (by rw[bits_two];exact twice false m _ (rep_at m _ hm (by omega) (by omega)))
   go_wp2
   refine⟨⟨j+1,?_,?_,?_⟩,?_⟩
   ·rw[show((j+1:Nat):Int)=(j:Int)+1 by omega]
   ·rw[show E-((j+1:Nat):Int)=E-j-1 by omega]
   ·right;omega
   ·simp only[intOf];omega
  ·go_wp2
   go_loop [1,5] (fun e f=>∃i:Nat,f=.float .f64 (fw false m ((j:Int)-i))∧e=.int .i64 (E-j+i)∧E-j+i≤0) (fun e _=>(- intOf e).toNat)
   case atStart=>exact⟨0,by simp,by simp,by omega⟩
   case round=>
    obtain⟨i,rfl,rfl,hi⟩:=hrel
    by_cases hl2:E-j+i<0
    ·have hmul:=run_valid (P:=Tryz.prog) .mul 29 (fw false m ((j:Int)-i)) 4602678819172646912 (fw false m ((j:Int)-i-1)) (by rw[bits_half];exact half false m _ (rep_at m _ hm (by omega) (by omega)))
     go_wp2
     refine⟨⟨i+1,?_,?_,?_⟩,?_⟩
     ·rw[show(j:Int)-((i+1:Nat):Int)=(j:Int)-i-1 by omega]
     ·rw[show E-j+((i+1:Nat):Int)=E-j+i+1 by omega]
     ·omega
     ·simp only[intOf];omega
    ·have HE:Hid ((j:Int)-i=E):=by show(j:Int)-i=E;omega
     go_wp2
     go_ret
     exact⟨by rw[←HE.out];rfl,rfl⟩
theorem fw_normal(s:Bool)(m j:Nat)(e:Int):fw s m e=fw s (m*2 ^ j) (e-j):=(fw_scale s m j e).symm
theorem two_times(m j:Nat)(x:Int)(h:x=((m*2 ^ j:Nat):Int)):x*2=((m*2 ^ (j+1):Nat):Int):=by
 rw[Nat.pow_succ,←Nat.mul_assoc];omega
theorem few_times(m j:Nat)(x:Int)(h0:0<m)(h:x=((m*2 ^ j:Nat):Int))(hx:x<9223372036854775808):j+1≤63:=by
 have h1:2 ^ j≤m*2 ^ j:=Nat.le_mul_of_pos_left _ h0
 have h2:2 ^ j<2 ^ 63:=by
  have:(2:Nat) ^ 63=9223372036854775808:=rfl
  omega
 have:=(Nat.pow_lt_pow_iff_right (a:=2) (by omega)).1 h2
 omega
theorem near_vars(x:Int)(d:Nat)(hb:9223372036854775808≤x)(hx:x<18446744073709551616)(hd:11≤d)(hd':d≤63):∃K Q H:Int,
  x / 2 ^ d=K∧IntKind.u64.wrap (K*2 ^ d)=Q∧IntKind.u64.wrap (2 ^ (d-1))=H∧0≤Q∧Q≤x∧0<H∧H≤4611686018427387904∧0≤K∧K<9007199254740992
  ∧ K=((x.toNat / 2 ^ d:Nat):Int)∧x-Q=((x.toNat % 2 ^ d:Nat):Int)∧H=((2 ^ (d-1):Nat):Int):=by
 obtain⟨M,rfl⟩:=Int.eq_ofNat_of_zero_le (show 0≤x by omega)
 rw[Int.toNat_natCast]
 have hk:M / 2 ^ d<9007199254740992:=by
  have e:(2:Nat) ^ 11≤2 ^ d:=Nat.pow_le_pow_right (by omega) hd
  rw[Nat.div_lt_iff_lt_mul (Nat.two_pow_pos d)]
  have:(2:Nat) ^ 11=2048:=rfl
  have e2:9007199254740992*2048≤9007199254740992*2 ^ d:=Nat.mul_le_mul_left _ (by omega)
  omega
 have hdm:=Nat.div_add_mod M (2 ^ d)
 rw[Nat.mul_comm]at hdm
 have hH1:2 ^ (d-1)≤2 ^ 62:=Nat.pow_le_pow_right (by omega) (by omega)
 have hH0:0<2 ^ (d-1):=Nat.two_pow_pos _
 have e62:(2:Nat) ^ 62=4611686018427387904:=rfl
 have c1:(M:Int) / 2 ^ d=((M / 2 ^ d:Nat):Int):=by
  rw[Int.natCast_ediv];congr 1
 have c2:((M / 2 ^ d:Nat):Int)*2 ^ d=((M / 2 ^ d*2 ^ d:Nat):Int):=by
  rw[Int.natCast_mul];congr 1
 have c3:(2:Int) ^ (d-1)=((2 ^ (d-1):Nat):Int):=(Int.natCast_pow 2 (d-1)).symm
 generalize hq:M / 2 ^ d=q at *
 generalize hr:M % 2 ^ d=r at *
 generalize hg:q*2 ^ d=g at *
 generalize 2 ^ (d-1)=h at *
 refine⟨q,g,h,c1,?_,?_,by omega,by omega,by omega,by omega,by omega,by omega,rfl,by omega,rfl⟩
 ·rw[c2,IntKind.wrap_u64];omega
 ·rw[c3,IntKind.wrap_u64];omega
theorem kept_up(M d:Nat)(K R H:Int)(F1:K=((M / 2 ^ d:Nat):Int))(F2:R=((M % 2 ^ d:Nat):Int))(F3:H=((2 ^ (d-1):Nat):Int))(h:H<R∨(R=H∧K % 2=1)):keptOf M d=(K+1).toNat:=by
 unfold keptOf
 generalize M / 2 ^ d=q at *
 generalize M % 2 ^ d=r at *
 generalize 2 ^ (d-1)=g at *
 rw[if_pos (by omega)]
 omega
theorem kept_down(M d:Nat)(K R H:Int)(F1:K=((M / 2 ^ d:Nat):Int))(F2:R=((M % 2 ^ d:Nat):Int))(F3:H=((2 ^ (d-1):Nat):Int))(h:R<H∨(R=H∧¬K % 2=1)):keptOf M d=K.toNat:=by
 unfold keptOf
 generalize M / 2 ^ d=q at *
 generalize M % 2 ^ d=r at *
 generalize 2 ^ (d-1)=g at *
 rw[if_neg (by omega)]
 omega
theorem kept_64_up(x:Int)(h1:x<18446744073709551616)(h:9223372036854775808<x):keptOf x.toNat 64=(1:Int).toNat:=by
 unfold keptOf
 have e:x.toNat % 2 ^ 64=x.toNat:=Nat.mod_eq_of_lt (by omega)
 have e2:x.toNat / 2 ^ 64=0:=Nat.div_eq_of_lt (by omega)
 rw[e,e2,if_pos (.inl (by omega))]
 rfl
theorem kept_64_down(x:Int)(h:9223372036854775808≤x)(h':x≤9223372036854775808):keptOf x.toNat 64=(0:Int).toNat:=by
 unfold keptOf
 have e:x.toNat % 2 ^ 64=x.toNat:=Nat.mod_eq_of_lt (by omega)
 have e2:x.toNat / 2 ^ 64=0:=Nat.div_eq_of_lt (by omega)
 rw[e,e2,if_neg (by omega)]
 rfl
theorem l2scaled_int(k E:Int)(h0:0≤k)(hk:k<9007199254740992)(h1:-1074≤E)(h2:E≤971)(w:World) :
  Calls Tryz.prog 76 #[.int .u64 k,.int .i64 E] w fun e w'=>e=.returned (.float .f64 (fw false k.toNat E))∧w'=w:=by
 obtain⟨m,rfl⟩:=Int.eq_ofNat_of_zero_le h0
 rw[Int.toNat_natCast]
 exact l2scaled_any m E (by omega) h1 h2 w
set_option maxRecDepth 100000 in
set_option maxHeartbeats 1000000 in
theorem l2near_loop(y e:Int)(h0:0<y)(hm:y<18446744073709551616)(h1:-2000≤e)(h2:e≤2000)(w:World) :
  Calls Tryz.prog 116 #[.int .u64 y,.int .i64 e,.bool false] w fun r w'=>r=.returned (.float .f64 (fw false y.toNat e))∧w'=w:=by
 have e0:(y==0)=false:=beq_eq_false_iff_ne.2 (by omega)
 go_enter Tryz.func116,Tryz.ntmps116
 go_wp2
 go_loop [0,1] (fun a b=>∃ (j:Nat) (x:Int),a=.int .u64 x∧b=.int .i64 (e-j)∧0<x∧x<18446744073709551616∧Hid (x=((y.toNat*2 ^ j:Nat):Int))∧j≤63) (fun a _=>(18446744073709551616-intOf a).toNat)
 case atStart=>exact⟨0,y,rfl,by simp,h0,hm,by show y=((y.toNat*2 ^ 0:Nat):Int);rw[Nat.pow_zero,Nat.mul_one];omega,by omega⟩
 case round=>
  obtain⟨j,x,rfl,rfl,hM0,hM1,HM,hj⟩:=hrel
  by_cases hlt:x<9223372036854775808
  ·have hj2:=few_times y.toNat j x (by omega) HM.out hlt
   go_wp2
   refine⟨⟨j+1,x*2,rfl,?_,by omega,by omega,two_times y.toNat j x HM.out,hj2⟩,?_⟩
   ·rw[show e-((j+1:Nat):Int)=e-j-1 by omega]
   ·simp only[intOf];omega
  ·have HF:Hid (fw false y.toNat e=fw false x.toNat (e-j)):=by
    show fw false y.toNat e=fw false x.toNat (e-j)
    have hx:x.toNat=y.toNat*2 ^ j:=by rw[HM.out];exact Int.toNat_natCast _
    rw[hx];exact fw_normal false y.toNat j e
   clear HM e0
   have hb:9223372036854775808≤x:=by omega
   have he1:-2063≤e-j:=by omega
   have he2:e-j≤2000:=by omega
   have HB:Hid _:=fun(_:Unit)=>And.intro (show 9223372036854775808≤x.toNat by omega) (show x.toNat<18446744073709551616 by omega)
   generalize e-(j:Int)=p at *
   clear hlt hM0 hj
   by_cases c1:1024<p
   ·have HX:Hid (fw false y.toNat e=iw false):=HF.out.trans (fw_huge false _ p (HB.out ()).1 (HB.out ()).2 (by omega))
    go_wp2_with (go_at_call 75;refine(l2inf_any _).mono ?_;rintro e w' ⟨rfl,rfl⟩)
    go_ret
    exact⟨by rw[HX.out];rfl,rfl⟩
   ·by_cases c2:p < -1200
    ·have HX:Hid (fw false y.toNat e=0):=HF.out.trans (near_far _ p (HB.out ()).2 (by omega))
     go_wp2
     go_ret
     exact⟨by rw[HX.out];rfl,rfl⟩
    ·by_cases c3:p+11 < -1074
     ·by_cases c4:64 < -1074-p
      ·have HX:Hid (fw false y.toNat e=0):=HF.out.trans (near_far _ p (HB.out ()).2 (by omega))
       go_wp2
       go_ret
       exact⟨by rw[HX.out];rfl,rfl⟩
      ·have HN:Hid (fw false y.toNat e=fw false (keptOf x.toNat (-1074-p).toNat) (-1074)):=HF.out.trans (near_b _ p (HB.out ()).1 (HB.out ()).2 (by omega) (by omega))
       by_cases c5:-1074-p=64
       ·obtain rfl:p = -1138:=by omega
        have e64:(-1074-(-1138:Int)).toNat=64:=by omega
        have HM:Hid _:=fun(_:Unit)=>HN.out
        rw[e64]at HM
        clear HN HF he1 he2 c1 c2 c3 c4 c5 e64
        by_cases d1:9223372036854775808<x
        ·have HX:Hid (fw false y.toNat e=fw false (1:Int).toNat (-1074)):=(HM.out ()).trans (congrArg (fun t=>fw false t (-1074)) (kept_64_up x hM1 d1))
         clear HM HB
         go_wp2_with (go_at_call 76;refine(l2scaled_int _ _ (by omega) (by omega) (by omega) (by omega) _).mono ?_;rintro e w' ⟨rfl,rfl⟩)
         go_ret
         exact⟨by rw[HX.out];rfl,rfl⟩
        ·have d2:(x==9223372036854775808)=true:=beq_iff_eq.2 (by omega)
         have HX:Hid (fw false y.toNat e=fw false (0:Int).toNat (-1074)):=(HM.out ()).trans (congrArg (fun t=>fw false t (-1074)) (kept_64_down x hb (by omega)))
         clear HM HB
         go_wp2_with (go_at_call 76;refine(l2scaled_int _ _ (by omega) (by omega) (by omega) (by omega) _).mono ?_;rintro e w' ⟨rfl,rfl⟩)
         go_ret
         exact⟨by rw[HX.out];rfl,rfl⟩
       ·have c6:-1074-p<64:=by omega
        have e64:(-1074-p==64)=false:=beq_eq_false_iff_ne.2 c5
        obtain⟨K,Q,H,hK,hQ,hH,q0,q1,g0,g1,k0,k1,FK,FR,FH⟩:=near_vars x (-1074-p).toNat hb hM1 (by omega) (by omega)
        have F1:Hid _:=FK
        have F2:Hid _:=FR
        have F3:Hid _:=FH
        have k2:K<4503599627370496:=by have:=(kept_more x.toNat (-1074-p).toNat (HB.out ()).2 (by omega)).1;omega
        clear FK FR FH c5
        have HU:Hid _:=fun h=>HN.out.trans (congrArg (fun t=>fw false t (-1074)) (kept_up x.toNat _ K (x-Q) H F1.out F2.out F3.out h))
        have HD:Hid _:=fun h=>HN.out.trans (congrArg (fun t=>fw false t (-1074)) (kept_down x.toNat _ K (x-Q) H F1.out F2.out F3.out h))
        clear F1 F2 F3 HN HF
        by_cases d1:H<x-Q
        ·have HX:Hid _:=HU.out (.inl d1)
         clear HU HD
         go_wp2_with (go_at_call 76;refine(l2scaled_int _ _ (by omega) (by omega) (by omega) (by omega) _).mono ?_;rintro e w' ⟨rfl,rfl⟩)
         go_ret
         exact⟨by rw[HX.out];rfl,rfl⟩
        ·by_cases d2:x-Q=H
         ·have b2:(x-Q==H)=true:=beq_iff_eq.2 d2
          by_cases d3:K % 2=1
          ·have b3:(K % 2==1)=true:=beq_iff_eq.2 d3
           have HX:Hid _:=HU.out (.inr ⟨d2,d3⟩)
           clear HU HD d2 d3
           go_wp2_with (go_at_call 76;refine(l2scaled_int _ _ (by omega) (by omega) (by omega) (by omega) _).mono ?_;rintro e w' ⟨rfl,rfl⟩)
           go_ret
           exact⟨by rw[HX.out];rfl,rfl⟩
          ·have b3:(K % 2==1)=false:=beq_eq_false_iff_ne.2 d3
           have HX:Hid _:=HD.out (.inr ⟨d2,d3⟩)
           clear HU HD d2 d3
           go_wp2_with (go_at_call 76;refine(l2scaled_int _ _ (by omega) (by omega) (by omega) (by omega) _).mono ?_;rintro e w' ⟨rfl,rfl⟩)
           go_ret
           exact⟨by rw[HX.out];rfl,rfl⟩
         ·have b2:(x-Q==H)=false:=beq_eq_false_iff_ne.2 d2
          have HX:Hid _:=HD.out (.inl (by omega))
          clear HU HD d2
          go_wp2_with (go_at_call 76;refine(l2scaled_int _ _ (by omega) (by omega) (by omega) (by omega) _).mono ?_;rintro e w' ⟨rfl,rfl⟩)
          go_ret
          exact⟨by rw[HX.out];rfl,rfl⟩
     ·have e11:(p+11-p).toNat=11:=by omega
      have n64:(p+11-p==64)=false:=beq_eq_false_iff_ne.2 (by omega)
      obtain⟨K,Q,H,hK,hQ,hH,q0,q1,g0,g1',k0,k1,FK,FR,FH⟩:=near_vars x (p+11-p).toNat hb hM1 (by omega) (by omega)
      have F1:Hid _:=FK
      have F2:Hid _:=FR
      have F3:Hid _:=FH
      have HU:Hid _:=fun h=>kept_up x.toNat _ K (x-Q) H FK FR FH h
      have HD:Hid _:=fun h=>kept_down x.toNat _ K (x-Q) H FK FR FH h
      rw[e11]at HU HD
      have HA:Hid _:=fun h1 h2=>HF.out.trans (near_a_fits x.toNat p (HB.out ()).1 (HB.out ()).2 (by omega) h1 h2)
      have HC:Hid _:=fun h1 h2=>HF.out.trans (near_a_carry x.toNat p (HB.out ()).1 (HB.out ()).2 (by omega) h1 h2)
      have HI:Hid _:=fun h=>HF.out.trans (near_a_inf x.toNat p (HB.out ()).1 (HB.out ()).2 (by omega) h)
      clear FK FR FH HF HB e11
      by_cases d1:H<x-Q
      ·skip
       have hk:=HU.out (.inl d1)
       by_cases f1:K+1=9007199254740992
       ·have g1:(K+1==9007199254740992)=true:=beq_iff_eq.2 f1
        by_cases f2:971<p+11+1
        ·have HX:Hid _:=HI.out (.inr ⟨by rw[hk];omega,f2⟩)
         clear f1 hk
         clear HU HD HA HC HI F1 F2 F3
         go_wp2_with (go_at_call 75;refine(l2inf_any _).mono ?_;rintro e w' ⟨rfl,rfl⟩)
         go_ret
         exact⟨by rw[HX.out];rfl,rfl⟩
        ·have HX:Hid _:=HC.out (by omega) (by rw[hk];omega)
         clear f1 hk
         clear HU HD HA HC HI F1 F2 F3
         go_wp2_with (go_at_call 76;refine(l2scaled_int _ _ (by omega) (by omega) (by omega) (by omega) _).mono ?_;rintro e w' ⟨rfl,rfl⟩)
         go_ret
         exact⟨by rw[HX.out];rfl,rfl⟩
       ·have g1:(K+1==9007199254740992)=false:=beq_eq_false_iff_ne.2 f1
        have f3:K+1<9007199254740992:=by omega
        by_cases f2:971<p+11
        ·have HX:Hid _:=HI.out (.inl f2)
         clear f1 hk
         clear HU HD HA HC HI F1 F2 F3
         go_wp2_with (go_at_call 75;refine(l2inf_any _).mono ?_;rintro e w' ⟨rfl,rfl⟩)
         go_ret
         exact⟨by rw[HX.out];rfl,rfl⟩
        ·have HX:Hid _:=(HA.out (by omega) (by rw[hk];omega)).trans (congrArg (fun t=>fw false t (p+11)) hk)
         clear f1 hk
         clear HU HD HA HC HI F1 F2 F3
         go_wp2_with (go_at_call 76;refine(l2scaled_int _ _ (by omega) (by omega) (by omega) (by omega) _).mono ?_;rintro e w' ⟨rfl,rfl⟩)
         go_ret
         exact⟨by rw[HX.out];rfl,rfl⟩
      ·by_cases d2:x-Q=H
       ·have b2:(x-Q==H)=true:=beq_iff_eq.2 d2
        by_cases d3:K % 2=1
        ·have b3:(K % 2==1)=true:=beq_iff_eq.2 d3
         have hk:=HU.out (.inr ⟨d2,d3⟩)
         by_cases f1:K+1=9007199254740992
         ·have g1:(K+1==9007199254740992)=true:=beq_iff_eq.2 f1
          by_cases f2:971<p+11+1
          ·have HX:Hid _:=HI.out (.inr ⟨by rw[hk];omega,f2⟩)
           clear f1 hk d2 d3
           clear HU HD HA HC HI F1 F2 F3
           go_wp2_with (go_at_call 75;refine(l2inf_any _).mono ?_;rintro e w' ⟨rfl,rfl⟩)
           go_ret
           exact⟨by rw[HX.out];rfl,rfl⟩
          ·have HX:Hid _:=HC.out (by omega) (by rw[hk];omega)
           clear f1 hk d2 d3
           clear HU HD HA HC HI F1 F2 F3
           go_wp2_with (go_at_call 76;refine(l2scaled_int _ _ (by omega) (by omega) (by omega) (by omega) _).mono ?_;rintro e w' ⟨rfl,rfl⟩)
           go_ret
           exact⟨by rw[HX.out];rfl,rfl⟩
         ·have g1:(K+1==9007199254740992)=false:=beq_eq_false_iff_ne.2 f1
          have f3:K+1<9007199254740992:=by omega
          by_cases f2:971<p+11
          ·have HX:Hid _:=HI.out (.inl f2)
           clear f1 hk d2 d3
           clear HU HD HA HC HI F1 F2 F3
           go_wp2_with (go_at_call 75;refine(l2inf_any _).mono ?_;rintro e w' ⟨rfl,rfl⟩)
           go_ret
           exact⟨by rw[HX.out];rfl,rfl⟩
          ·have HX:Hid _:=(HA.out (by omega) (by rw[hk];omega)).trans (congrArg (fun t=>fw false t (p+11)) hk)
           clear f1 hk d2 d3
           clear HU HD HA HC HI F1 F2 F3
           go_wp2_with (go_at_call 76;refine(l2scaled_int _ _ (by omega) (by omega) (by omega) (by omega) _).mono ?_;rintro e w' ⟨rfl,rfl⟩)
           go_ret
           exact⟨by rw[HX.out];rfl,rfl⟩
        ·have b3:(K % 2==1)=false:=beq_eq_false_iff_ne.2 d3
         have hk:=HD.out (.inr ⟨d2,d3⟩)
         have g1:(K==9007199254740992)=false:=beq_eq_false_iff_ne.2 (by omega)
         by_cases f2:971<p+11
         ·have HX:Hid _:=HI.out (.inl f2)
          clear hk d2 d3
          clear HU HD HA HC HI F1 F2 F3
          go_wp2_with (go_at_call 75;refine(l2inf_any _).mono ?_;rintro e w' ⟨rfl,rfl⟩)
          go_ret
          exact⟨by rw[HX.out];rfl,rfl⟩
         ·have HX:Hid _:=(HA.out (by omega) (by rw[hk];omega)).trans (congrArg (fun t=>fw false t (p+11)) hk)
          clear hk d2 d3
          clear HU HD HA HC HI F1 F2 F3
          go_wp2_with (go_at_call 76;refine(l2scaled_int _ _ (by omega) (by omega) (by omega) (by omega) _).mono ?_;rintro e w' ⟨rfl,rfl⟩)
          go_ret
          exact⟨by rw[HX.out];rfl,rfl⟩
       ·have b2:(x-Q==H)=false:=beq_eq_false_iff_ne.2 d2
        have hk:=HD.out (.inl (by omega))
        have g1:(K==9007199254740992)=false:=beq_eq_false_iff_ne.2 (by omega)
        by_cases f2:971<p+11
        ·have HX:Hid _:=HI.out (.inl f2)
         clear hk d2
         clear HU HD HA HC HI F1 F2 F3
         go_wp2_with (go_at_call 75;refine(l2inf_any _).mono ?_;rintro e w' ⟨rfl,rfl⟩)
         go_ret
         exact⟨by rw[HX.out];rfl,rfl⟩
        ·have HX:Hid _:=(HA.out (by omega) (by rw[hk];omega)).trans (congrArg (fun t=>fw false t (p+11)) hk)
         clear hk d2
         clear HU HD HA HC HI F1 F2 F3
         go_wp2_with (go_at_call 76;refine(l2scaled_int _ _ (by omega) (by omega) (by omega) (by omega) _).mono ?_;rintro e w' ⟨rfl,rfl⟩)
         go_ret
         exact⟨by rw[HX.out];rfl,rfl⟩
end Go.Proofs.YtenbfookfcmpoaaGreatDoor
