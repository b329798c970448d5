import Derived.Test.YtenbfookfcmpoaaGreatDoorF34
namespace Go.Proofs.YtenbfookfcmpoaaGreatDoor
open Go.ChangeShapes Go.WideShapes Go.RowKit
open Ieee (double)
set_option maxHeartbeats 400000 in
theorem digits_out(x:Nat)(n:Int)(h:n<1∨400<n)(w:World) :
  Calls Tryz.prog 47 #[.float .f64 x,.int .i64 n] w fun e w'=>e=.returned (.string ⟨#[]⟩)∧Below w.heap.size w w':=by
 rcases h with h|h
 all_goals
  go_enter Tryz.func47,Tryz.ntmps47
  go_wp2
  go_ret
  exact⟨rfl,Below.refl _ _⟩
set_option maxHeartbeats 400000 in
theorem digits_nan(x:Nat)(n:Int)(hn1:1≤n)(hn2:n≤400)(hx:IsNan x)(w:World) :
  Calls Tryz.prog 47 #[.float .f64 x,.int .i64 n] w fun e w'=>e=.returned (.string ⟨#[110,97,110]⟩)∧Below w.heap.size w w':=by
 have H1:Hid _:=fun w=>l5size_nan x hx w
 have H2:Hid _:=fun w=>l5odd_nan x hx w
 clear hx
 go_enter Tryz.func47,Tryz.ntmps47
 go_wp2_with fail
 refine(H1.out _).mono ?_
 rintro e w1 ⟨rfl,rfl⟩
 go_wp2_with fail
 refine(H2.out _).mono ?_
 rintro e w1 ⟨rfl,rfl⟩
 go_wp2
 go_ret
 exact⟨rfl,Below.refl _ _⟩
set_option maxHeartbeats 400000 in
theorem digits_inf(s:Bool)(n:Int)(hn1:1≤n)(hn2:n≤400)(w:World) :
  Calls Tryz.prog 47 #[.float .f64 (iw s),.int .i64 n] w fun e w'=>e=.returned (.string (sgnB s++⟨#[105,110,102]⟩))∧Below w.heap.size w w':=by
 have H1:Hid (∀w,Calls Tryz.prog 85 #[.float .f64 (iw s)] w fun e w'=>e=.returned (.tuple #[.float .f64 9218868437227405312,.string (sgnB s)])∧w'=w):=fun w=>l5size_any s 9218868437227405312 (by omega) w
 have H2:Hid _:=fun w=>l5odd_inf w
 have z3:=sgnB_size s
 generalize sgnB s=S at *
 generalize iw s=X at *
 go_enter Tryz.func47,Tryz.ntmps47
 go_wp2_with fail
 refine(H1.out _).mono ?_
 rintro e w1 ⟨rfl,rfl⟩
 go_wp2_with fail
 refine(H2.out _).mono ?_
 rintro e w1 ⟨rfl,rfl⟩
 go_wp2
 go_ret
 exact⟨rfl,Below.refl _ _⟩
set_option maxHeartbeats 1000000 in
theorem digits_zero(s:Bool)(n:Nat)(hn1:1≤n)(hn2:n≤400)(w:World) :
  Calls Tryz.prog 47 #[.float .f64 (signBit s),.int .i64 (n:Int)] w fun e w'=>e=.returned (.string (sgnB s++sciB (zerosB n) 1))∧Below w.heap.size w w':=by
 have H1:Hid _:=fun w=>l5size_zero s w
 have H2:Hid (∀w,Calls Tryz.prog 86 #[.float .f64 0] w fun e w'=>e=.returned (.tuple #[.string ⟨#[48]⟩,.bool true])∧w'=w):=fun w=>l5odd_num 0 (by omega) w
 have z3:=sgnB_size s
 have HZ:Hid (∀w,Calls Tryz.prog 51 #[.int .i64 (n:Int)] w fun e w'=>e=.returned (.string (zerosB n))∧Below w.heap.size w w'):=fun w=>l5zeros_any n (by omega) w
 have hz:=zerosB_size n
 have HSC:Hid _:=fun w=>l5science_any (zerosB n) 1 (by omega) (by omega) (by omega) (by omega) w
 have hsz:=sciB_size (zerosB n) 1
 generalize sciB (zerosB n) 1=Q at *
 generalize zerosB n=Z at *
 generalize sgnB s=S at *
 generalize signBit s=X at *
 go_enter Tryz.func47,Tryz.ntmps47
 go_wp2_with fail
 refine(H1.out _).mono ?_
 rintro e w1 ⟨rfl,rfl⟩
 go_wp2_with fail
 refine(H2.out _).mono ?_
 rintro e w1 ⟨rfl,rfl⟩
 go_wp2_with fail
 refine(HZ.out _).mono ?_
 rintro e w2 ⟨rfl,hb2⟩
 have HB2:Hid _:=hb2
 clear hb2
 go_wp2_with fail
 refine(HSC.out _).mono ?_
 rintro e w3 ⟨rfl,hb3⟩
 have HB3:Hid (Below w1.heap.size w1 w3):=HB2.out.trans (hb3.mono HB2.out.size)
 clear hb3
 go_wp2
 go_ret
 exact⟨rfl,HB3.out⟩
def digitsV(x:Nat)(n:Int)(t:ByteArray):Prop:=
 ((n<1∨400<n)∧t=⟨#[]⟩)∨((1≤n∧n≤400)∧((IsNan x∧t=⟨#[110,97,110]⟩)∨(∃s,x=iw s∧t=sgnB s++⟨#[105,110,102]⟩)∨(∃s,x=signBit s∧t=sgnB s++sciB (zerosB n.toNat) 1)
 ∨ (∃ (s:Bool) (m:Nat) (p:Int) (q k:Nat) (ds:ByteArray) (pow:Int) (d:ByteArray) (p':Int),Canon m p∧0<m∧x=fw s m p∧m=q*2 ^ k∧q % 2=1∧ExD ds pow q (p+k)∧cutV ds pow n.toNat (roundsB ds n) d p'∧t=sgnB s++sciB (d.extract 0 n.toNat) p')))
theorem specDigits5_any(x:Nat)(hx:x<18446744073709551616)(n:Int)(w:World) :
  Calls Tryz.prog 47 #[.float .f64 x,.int .i64 n] w fun e w'=>∃t,digitsV x n t∧e=.returned (.string t)∧Below w.heap.size w w':=by
 by_cases ho:n<1∨400<n
 ·refine(digits_out x n ho w).mono ?_
  rintro e w' ⟨rfl,hb⟩
  exact⟨_,.inl ⟨ho,rfl⟩,rfl,hb⟩
 ·have h1:1≤n:=by omega
  have h2:n≤400:=by omega
  obtain⟨k,rfl⟩:=Int.eq_ofNat_of_zero_le (show 0≤n by omega)
  rcases float_cases x hx with h|⟨s,rfl⟩|⟨s,m,p,hc,rfl⟩
  ·refine(digits_nan x _ h1 h2 h w).mono ?_
   rintro e w' ⟨rfl,hb⟩
   exact⟨_,.inr ⟨⟨h1,h2⟩,.inl ⟨h,rfl⟩⟩,rfl,hb⟩
  ·refine(digits_inf s _ h1 h2 w).mono ?_
   rintro e w' ⟨rfl,hb⟩
   exact⟨_,.inr ⟨⟨h1,h2⟩,.inr (.inl ⟨s,rfl,rfl⟩)⟩,rfl,hb⟩
  ·by_cases h0:m=0
   ·subst h0
    rw[fw_zero]
    refine(digits_zero s k (by omega) (by omega) w).mono ?_
    rintro e w' ⟨rfl,hb⟩
    exact⟨_,.inr ⟨⟨h1,h2⟩,.inr (.inr (.inl ⟨s,rfl,rfl⟩))⟩,rfl,hb⟩
   ·obtain⟨q,j,hq,hq1,hX⟩:=l5exact_any m p hc (by omega)
    have hfw:fw false m p=rung m p:=by rw[fw_canon _ _ _ hc];exact Nat.zero_add _
    have hfs:fw s m p=signBit s+rung m p:=fw_canon _ _ _ hc
    rw[hfw]at hX
    have:=digits_num s (rung m p) q (p+j) k (by omega) (by omega) (rung_lt m p hc) (fun h=>h0 (rung_zero m p h)) hX w
    rw[←hfs]at this
    refine this.mono ?_
    rintro e w' ⟨ds,pow,d,p',hd,hcut,rfl,hb⟩
    exact⟨_,.inr ⟨⟨h1,h2⟩,.inr (.inr (.inr ⟨s,m,p,q,j,ds,pow,d,p',hc,by omega,rfl,hq,hq1,hd,hcut,rfl⟩))⟩,rfl,hb⟩
end Go.Proofs.YtenbfookfcmpoaaGreatDoor
namespace Go.Proofs.YtenbfookfcmpoaaGreatDoor
open Ieee (double)
theorem digitsV_one(x:Nat)(n:Int)(t t':ByteArray)(h:digitsV x n t)(h':digitsV x n t'):t=t':=by
 rcases h with⟨ho,rfl⟩|⟨ho,h⟩
 ·rcases h' with⟨_,rfl⟩|⟨ho',_⟩
  ·rfl
  ·exfalso;omega
 ·rcases h' with⟨ho',_⟩|⟨_,h'⟩
  ·exfalso;omega
  ·rcases h with⟨a,rfl⟩|⟨s,rfl,rfl⟩|⟨s,rfl,rfl⟩|⟨s,m,p,q,k,ds,pow,d,r,hc,h0,rfl,hq,hq1,hd,hl,rfl⟩
   ·rcases h' with⟨_,rfl⟩|⟨s,rfl,rfl⟩|⟨s,rfl,rfl⟩|⟨s,m,p,q,k,ds,pow,d,r,hc,h0,rfl,hq,hq1,hd,hl,rfl⟩
    ·rfl
    ·exact(nan_not_iw s a).elim
    ·exact(sign_nan s a).elim
    ·exact(nan_not_fw s m p hc a).elim
   ·rcases h' with⟨a,_⟩|⟨t,e,rfl⟩|⟨t,e,rfl⟩|⟨t,m,p,q,k,ds,pow,d,r,hc,h0,e,hq,hq1,hd,hl,rfl⟩
    ·exact(nan_not_iw s a).elim
    ·rw[iw_one s t e]
    ·exact(sign_iw t s e.symm).elim
    ·exact(iw_fw s t m p hc e).elim
   ·rcases h' with⟨a,_⟩|⟨t,e,rfl⟩|⟨t,e,rfl⟩|⟨t,m,p,q,k,ds,pow,d,r,hc,h0,e,hq,hq1,hd,hl,rfl⟩
    ·exact(sign_nan s a).elim
    ·exact(sign_iw s t e).elim
    ·rw[sign_one s t e]
    ·exact(sign_fw s t m p hc h0 e).elim
   ·rcases h' with⟨a,_⟩|⟨t,e,rfl⟩|⟨t,e,rfl⟩|⟨t,m',p',q',k',ds',pow',d',r',hc',h0',e,hq',hq1',hd',hl',rfl⟩
    ·exact(nan_not_fw s m p hc a).elim
    ·exact(iw_fw t s m p hc e.symm).elim
    ·exact(sign_fw t s m p hc h0 e.symm).elim
    ·obtain⟨rfl,rfl,rfl⟩:=fw_one s t m m' p p' hc hc' e
     obtain⟨rfl,rfl⟩:=odd_one q k q' k' (hq.symm.trans hq') hq1 hq1'
     obtain⟨rfl,rfl⟩:=exD_one ds ds' pow pow' q _ hd hd'
     obtain⟨rfl,rfl⟩:=cutV_one _ _ _ _ _ _ _ _ hl hl'
     rfl
end Go.Proofs.YtenbfookfcmpoaaGreatDoor
namespace Go.Proofs.YtenbfookfcmpoaaGreatDoor
open Go.ChangeShapes Go.WideShapes Go.RowKit
def cap4(V:Nat):Nat:=min V 401
theorem cap4_step(V d:Nat):min ((cap4 V:Int)*10+(d:Int)) 401=(cap4 (V*10+d):Int):=by unfold cap4;omega
theorem cap4_le(V:Nat):cap4 V≤401:=by unfold cap4;omega
def CountV(s:ByteArray)(k j:Nat)(n:Int)(ok:Bool)(k':Nat):Prop:=
 Run 10 s k j∧((400<runV 10 s k j∧n=0∧ok=false∧k'=k)∨(runV 10 s k j≤400∧n=(runV 10 s k j:Int)∧ok=true∧k'=j))
set_option maxHeartbeats 2000000 in
set_option maxRecDepth 100000 in
theorem fcount_any(G k:Nat)(s:ByteArray)(av p v:Value)(w:World)(h:FC w G s k av p v)(hk:k≤s.size)(hs:s.size≤1200) :
  Calls Tryz.prog 121 #[.pointer (some ⟨G,0,none⟩)] w fun e w'=>∃j n ok k',CountV s k j n ok k'∧e=.returned (.tuple #[.int .i64 n,.bool ok])∧FC w' G s k' av p v∧Mod G w w':=by
 have HR:Hid (FC w G s k av p v):=h
 have hat:=h.at_
 have hfr:=h.froz 1
 have hkk:(k:Int)≤1200:=by omega
 clear h
 go_enter Tryz.func121,Tryz.ntmps121
 go_wp2_with fail
 go_loopw [2] (fun pv wl=>∃ (i N:Nat),pv=.int .i64 (N:Int)∧k≤i∧i≤s.size∧N≤401∧Hid (N=cap4 (runV 10 s k i))∧Hid (∀i',k≤i'→i'<i→Dig 10 s i')∧Hid (FC wl G s i av p v)∧Hid (Mod G w wl)) (fun _ wl=>s.size-rrAt G wl)
 case atStart=>exact⟨k,0,rfl,Nat.le_refl _,hk,by omega,by show 0=cap4 (runV 10 s k k);rw[runV_zero];rfl,fun i' h1 h2=>by omega,HR.out,Mod.refl G _⟩
 case round=>
  obtain⟨i,N,rfl,hki,his,hN,HC,HI,HR,HM⟩:=hrel
  clear hat hfr
  have htx:=HR.out.txt
  have hat:=HR.out.at_
  have hfr:=HR.out.froz 1
  by_cases hlt:i<s.size
  ·have hlt':(i:Int)<(s.size:Int):=by omega
   have HD:Hid _:=fun w=>implDigit_byte s[i] w
   have hd0:=digN_lo 36 (s[i].toNat:Int) (by omega)
   have hd1:=digN_hi 36 (s[i].toNat:Int) (by omega)
   have HDS:Hid _:=fun(_:Unit)=>digN_same 36 99 (s[i].toNat:Int) 10 (by omega) (by omega)
   have HBA:Hid _:=fun(_:Unit)=>bAt_in s i hlt
   obtain⟨d,hd⟩:∃d:Int,digN 36 (s[i].toNat:Int)=d:=⟨_,rfl⟩
   rw[hd]at HD hd0 hd1 HDS
   clear hd
   by_cases hten:10≤d
   ·have HEND:Hid (¬Dig 10 s i):=fun h=>by have h1:=h.2;rw[HBA.out ()]at h1;have h2:=(HDS.out ()).1.2 h1;omega
    have HRN:Hid (Run 10 s k i):=⟨hki,his,HI.out,HEND.out⟩
    by_cases hb:400<N
    ·have hb':decide (400<(N:Int))=true:=decide_eq_true (by omega)
     have HV:Hid (400<runV 10 s k i):=by have:=HC.out;show 400<_;unfold cap4 at this;omega
     go_wp2_with fail
     go_quiet (fail)
     go_wp2_with fail
     go_region_held3 (fun w'=>w'.cell? ⟨G,0,none⟩=some (.string s)∧w'.cell? ⟨G,1,none⟩=some (.int .i64 (i:Int))) (go_keep) (first|(go_at_call 142;refine(HD.out _).mono ?_;rintro e w' ⟨rfl,rfl⟩))
     all_goals go_wp2_with fail
     try rw[Exit.noGoto_ret]
     go_ret2
     exact⟨i,0,false,k,⟨HRN.out,.inl ⟨HV.out,rfl,rfl,rfl⟩⟩,rfl,(HR.out.drewN _).set k,(HM.out.drewN _).setCell _ _⟩
    ·have hb':decide (400<(N:Int))=false:=decide_eq_false (by omega)
     have HV:Hid (runV 10 s k i≤400∧(N:Int)=(runV 10 s k i:Int)):=by have:=HC.out;show _∧_;unfold cap4 at this;omega
     go_wp2_with fail
     go_quiet (fail)
     go_wp2_with fail
     go_region_held3 (fun w'=>w'.cell? ⟨G,0,none⟩=some (.string s)∧w'.cell? ⟨G,1,none⟩=some (.int .i64 (i:Int))) (go_keep) (first|(go_at_call 142;refine(HD.out _).mono ?_;rintro e w' ⟨rfl,rfl⟩))
     all_goals go_wp2_with fail
     try rw[Exit.noGoto_ret]
     go_ret2
     exact⟨i,N,true,i,⟨HRN.out,.inr ⟨HV.out.1,HV.out.2,rfl,rfl⟩⟩,rfl,HR.out,HM.out⟩
   ·have hten':decide (10≤d)=false:=decide_eq_false hten
    have HDG:Hid (Dig 10 s i):=⟨hlt,by rw[HBA.out ()];exact(HDS.out ()).1.1 (by omega)⟩
    obtain⟨D,hD⟩:∃D:Nat,d=(D:Int):=⟨d.toNat,by omega⟩
    have HMIN:Hid (min ((N:Int)*10+(D:Int)) 401=(cap4 (runV 10 s k (i+1)):Int)):=by
     show _=_
     rw[runV_step 10 s k i hki hlt D (by rw[HBA.out (),←(HDS.out ()).2 (by omega)];omega),HC.out]
     exact cap4_step _ _
    obtain⟨M,hM⟩:∃M:Nat,cap4 (runV 10 s k (i+1))=M:=⟨_,rfl⟩
    have hM4:M≤401:=by rw[←hM];exact cap4_le _
    rw[hM]at HMIN
    have HMM:Hid (M=cap4 (runV 10 s k (i+1))):=hM.symm
    subst hD
    clear hM
    have hmin:=HMIN.out
    clear hten
    go_wp2_with fail
    go_quiet (fail)
    go_wp2_with fail
    go_region_held3 (fun w'=>w'.cell? ⟨G,0,none⟩=some (.string s)∧w'.cell? ⟨G,1,none⟩=some (.int .i64 (i:Int))) (go_keep) (first|(go_at_call 142;refine(HD.out _).mono ?_;rintro e w' ⟨rfl,rfl⟩))
    all_goals go_wp2_with fail
    refine⟨⟨i+1,M,?_,by omega,by omega,hM4,HMM.out,?_,(HR.out.drewN _).set1,(HM.out.drewN _).setCell _ _⟩,?_⟩
    ·first|(congr 1;rw[←hmin];split<;>omega)|(congr 1;done)
    ·intro i' h1 h2
     by_cases e:i'=i
     ·subst e;exact HDG.out
     ·exact HI.out i' h1 (by omega)
    ·rw[fcAt_is HR.out]
     exact Nat.lt_of_le_of_lt (Nat.le_of_eq (congrArg (s.size - ·) (fcAt_is (HR.out.drewN _).set1))) (show s.size-(i+1)<s.size-i by omega)
  ·have hlt':decide ((i:Int)<(s.size:Int))=false:=decide_eq_false (by omega)
   have HEND:Hid (¬Dig 10 s i):=fun h=>hlt h.1
   have HRN:Hid (Run 10 s k i):=⟨hki,his,HI.out,HEND.out⟩
   by_cases hb:400<N
   ·have hb':decide (400<(N:Int))=true:=decide_eq_true (by omega)
    have HV:Hid (400<runV 10 s k i):=by have:=HC.out;show 400<_;unfold cap4 at this;omega
    go_wp2_with fail
    go_quiet (fail)
    go_wp2_with fail
    try rw[Exit.noGoto_ret]
    go_ret2
    exact⟨i,0,false,k,⟨HRN.out,.inl ⟨HV.out,rfl,rfl,rfl⟩⟩,rfl,(HR.out.drewN _).set k,(HM.out.drewN _).setCell _ _⟩
   ·have hb':decide (400<(N:Int))=false:=decide_eq_false (by omega)
    have HV:Hid (runV 10 s k i≤400∧(N:Int)=(runV 10 s k i:Int)):=by have:=HC.out;show _∧_;unfold cap4 at this;omega
    go_wp2_with fail
    go_quiet (fail)
    go_wp2_with fail
    try rw[Exit.noGoto_ret]
    go_ret2
    exact⟨i,N,true,i,⟨HRN.out,.inr ⟨HV.out.1,HV.out.2,rfl,rfl⟩⟩,rfl,HR.out,HM.out⟩
set_option maxHeartbeats 400000 in
theorem l6spaces_any(n:Nat)(hn:n≤5000)(w:World):Calls Tryz.prog 50 #[.int .i64 (n:Int)] w fun e w'=>e=.returned (.string (spacesB n))∧w'=w:=by
 have hn':(n:Int)≤5000:=by omega
 go_enter Tryz.func50,Tryz.ntmps50
 go_wp2
 go_loop [0,3] (fun v0 v3=>∃i:Nat,i≤n∧v0=.int .i64 ((n:Int)-i)∧v3=.string (spacesB i)) (fun v0 _=>(intOf v0).toNat)
 case atStart=>exact⟨0,by omega,by simp,rfl⟩
 case round=>
  obtain⟨i,hi,rfl,rfl⟩:=hrel
  have hz:=spacesB_size i
  have hnx:=spacesB_next i
  by_cases hlt:i<n
  ·have hd:decide (0<(n:Int)-i)=true:=decide_eq_true (by omega)
   go_wp2
   go_round
   case rel=>exact⟨i+1,by omega,by congr 1;omega,by rw[←hnx]⟩
   case measure=>simp only[intOf];omega
  ·obtain rfl:i=n:=by omega
   go_wp2
   go_ret
   exact⟨rfl,rfl⟩
set_option maxHeartbeats 400000 in
theorem l6sign_any(s:ByteArray)(hs:s.size≤10000)(w:World):Calls Tryz.prog 49 #[.string s] w fun e w'=>e=.returned (.tuple #[.string (signS s),.string (restS s)])∧∃n,w'=w.drewN n:=by
 have hs':(s.size:Int)≤10000:=by omega
 unfold signS restS
 by_cases h0:s.size=0
 ·have hb:bAt s 0=0:=bAt_out s 0 (by omega)
  rw[if_neg (by omega),if_neg (by omega)]
  go_enter Tryz.func49,Tryz.ntmps49
  go_wp2
  go_ret2
  exact⟨rfl,0,rfl⟩
 ·have h1:0<s.size:=by omega
  have hb:=bAt_in s 0 h1
  obtain⟨C,hC⟩:∃C:Int,(s[0].toNat:Int)=C:=⟨_,rfl⟩
  rw[hC]at hb
  rw[hb]
  clear hb h0
  by_cases h:C=45
  ·have h':(C==45)=true:=by rw[h];rfl
   rw[if_pos h,if_pos h]
   go_enter Tryz.func49,Tryz.ntmps49
   go_wp2
   go_quiet (fail)
   go_wp2
   go_ret2
   exact⟨rfl,_,rfl⟩
  ·have h':(C==45)=false:=beq_eq_false_iff_ne.2 h
   rw[if_neg h,if_neg h]
   go_enter Tryz.func49,Tryz.ntmps49
   go_wp2
   go_ret2
   exact⟨rfl,0,rfl⟩
def Code(B:Nat)(w:World)(a:Option Addr)(len:Nat):Prop:=len≤1048576∧∀i:Nat,i<len→∃x:Addr,a=some x∧x.block≠B∧∃z:Int,0≤z∧z≤255∧w.cell? (x.add i)=some (.int .u8 z)
def Cur(B:Nat)(w:World)(a:Option Addr)(len cap:Nat)(pos:Int):Prop:=
 ∃seed:Int,w.cell? ⟨B,0,none⟩=some (.slice a len cap)∧w.cell? ⟨B,1,none⟩=some (.int .i64 pos)∧w.cell? ⟨B,2,none⟩=some (.int .u64 seed)
  ∧ w.frozen? ⟨B,1,none⟩=false∧w.frozen? ⟨B,2,none⟩=false
theorem Code.only{B:Nat}{w w':World}{a:Option Addr}{len:Nat}(h:Code B w a len)(ho:Only B w w'):Code B w' a len:=
 ⟨h.1,fun i hi=>by
  obtain⟨x,hx,hb,z,h0,h1,hc⟩:=h.2 i hi
  exact⟨x,hx,hb,z,h0,h1,by rw[ho.cell (by unfold Addr.add;split<;>exact hb)];exact hc⟩⟩
theorem Cur.below{B C:Nat}{w w':World}{a:Option Addr}{len cap:Nat}{pos:Int}(h:Cur B w a len cap pos)(hb:Below C w w')(hB:B<C):Cur B w' a len cap pos:=by
 obtain⟨seed,c0,c1,c2,f1,f2⟩:=h
 exact⟨seed,by rw[hb.cell (p:=⟨B,0,none⟩) hB];exact c0,by rw[hb.cell (p:=⟨B,1,none⟩) hB];exact c1,by rw[hb.cell (p:=⟨B,2,none⟩) hB];exact c2,by rw[hb.frozen (p:=⟨B,1,none⟩) hB];exact f1,by rw[hb.frozen (p:=⟨B,2,none⟩) hB];exact f2⟩
theorem Code.below{B:Nat}{w w':World}{a:Option Addr}{len:Nat}(h:Code B w a len)(hb:Below w.heap.size w w'):Code B w' a len:=
 ⟨h.1,fun i hi=>by
  obtain⟨x,hx,hne,z,h0,h1,hc⟩:=h.2 i hi
  exact⟨x,hx,hne,z,h0,h1,by rw[hb.cell (cell_lt hc)];exact hc⟩⟩
theorem low8(X:Int)(h0:0≤X)(h1:X<18446744073709551616):0≤wrap64 (bits .and .u64 X 255)∧wrap64 (bits .and .u64 X 255)≤255:=by
 rw[u64_and X 255 h0 h1 (by omega) (by omega)]
 have h:=Nat.and_le_right (n:=X.toNat) (m:=(255:Int).toNat)
 have e:(255:Int).toNat=255:=rfl
 rw[e]at h ⊢
 generalize X.toNat &&& 255=k at *
 unfold wrap64
 omega
theorem u64_in(x:Int):0≤IntKind.u64.wrap x∧IntKind.u64.wrap x<18446744073709551616:=by rw[IntKind.wrap_u64];omega
set_option maxHeartbeats 400000 in
theorem next_any(B:Nat)(w:World)(a:Option Addr)(len cap:Nat)(pos:Int)(hc:Cur B w a len cap pos)(hk:Code B w a len)(h0:0≤pos)(h1:pos≤1000000000) :
  Calls Tryz.prog 36 #[.pointer (some ⟨B,0,none⟩)] w fun e w'=>∃v:Int,0≤v∧v≤255∧e=.returned (.int .i64 v)∧Cur B w' a len cap (pos+1)∧Only B w w':=by
 obtain⟨seed,c0,c1,c2,f1,f2⟩:=hc
 by_cases hlt:pos<len
 ·obtain⟨hlen,hk⟩:=hk
  obtain⟨x,rfl,hb,z,hz0,hz1,hx⟩:=hk pos.toNat (by omega)
  clear hk
  go_enter Tryz.func36,Tryz.ntmps36
  go_wp2
  go_quiet (fail)
  go_wp2
  go_quiet (fail)
  go_wp2
  go_ret
  exact⟨z,hz0,hz1,rfl,⟨_,by simp[go_sem,c0],by simp[go_sem,c1],by simp[go_sem,c2];rfl,by simp[go_sem,f1],by simp[go_sem,f2]⟩,(((Only.refl _ _).drewN _).setCell _ _).setCell _ _⟩
 ·go_enter Tryz.func36,Tryz.ntmps36
  clear hk
  go_wp2
  go_quiet (fail)
  go_wp2
  have hl:=low8 (IntKind.u64.wrap (IntKind.u64.wrap (seed*6364136223846793005)+1442695040888963407) / 1099511627776) (by have:=u64_in (IntKind.u64.wrap (seed*6364136223846793005)+1442695040888963407);omega) (by have:=u64_in (IntKind.u64.wrap (seed*6364136223846793005)+1442695040888963407);omega)
  go_ret
  exact⟨_,hl.1,hl.2,rfl,⟨_,by simp[go_sem,c0],by simp[go_sem,c1],by simp[go_sem,c2];rfl,by simp[go_sem,f1],by simp[go_sem,f2]⟩,(((Only.refl _ _).drewN _).setCell _ _).setCell _ _⟩
end Go.Proofs.YtenbfookfcmpoaaGreatDoor
