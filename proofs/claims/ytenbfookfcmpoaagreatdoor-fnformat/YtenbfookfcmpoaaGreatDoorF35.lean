import Derived.Test.YtenbfookfcmpoaaGreatDoorF32
namespace Go.Proofs.YtenbfookfcmpoaaGreatDoor
open Go.ChangeShapes Go.WideShapes Go.RowKit
theorem Big.slice{w:World}{v:Value}{A:Nat}(h:Big w v A):∃ao n cap,v=.slice ao n cap∧n≤cap∧cap≤maxLen∧(n=0↔A=0):=by
 obtain⟨ls,⟨ao,cap,hv,h1,h2,_⟩,_,h3,rfl⟩:=h
 refine⟨ao,ls.length,cap,hv,h1,h2,?_⟩
 rw[←trim_nil_iff h3]
 exact List.length_eq_zero_iff
theorem bits_only{A n m:Nat}(h:Bits A n)(k:Bits A m)(h0:0<A):n=m:=by rw[bits_log h h0,bits_log k h0]
theorem l0bits_is(v:Value)(A n a:Nat)(w:World)(h:Big w v A)(hA:A<4294967296 ^ n)(hn:n<1000000)(h0:0<A)(ha:Bits A a) :
  Calls Tryz.prog 112 #[v] w fun e w'=>e=.returned (.int .i64 (a:Int))∧w'=w:=by
 refine(l0bits_any v A n w h hA hn).mono ?_
 rintro e w' ⟨rfl,m,rfl,hm,_⟩
 rw[bits_only hm ha h0]
 exact⟨rfl,rfl⟩
theorem shl_more{A n k m:Nat}(h:A<4294967296 ^ n)(hk:k≤32*m):A*2 ^ k<4294967296 ^ (n+m):=by
 have h2:2 ^ k≤4294967296 ^ m:=by rw[pow32];exact Nat.pow_le_pow_right (by omega) hk
 rw[Nat.pow_add]
 exact Nat.mul_lt_mul_of_lt_of_le h h2 (Nat.pow_pos (by omega))
theorem near_ratio(A C R q:Nat)(e:Int)(hd:Div A C R q 0)(hC:0<C)(hlo:C*4611686018427387904≤A)(h1:-2000≤e)(h2:e≤2000)(some:Bool)(hs:some=decide (0<R))(w:World) :
  Calls Tryz.prog 116 #[.int .u64 (q:Int),.int .i64 e,.bool some] w fun r w'=>r=.returned (.float .f64 (ratioAt A C e))∧w'=w:=by
 have hq:=hd.2.2.2
 obtain⟨e1,e2⟩:=div_end hd hC
 have hq2:4611686018427387904≤q:=by
  rw[e1,Nat.le_div_iff_mul_le hC,Nat.mul_comm];exact hlo
 unfold ratioAt
 rw[←e1,←e2]
 by_cases h0:R=0
 ·subst hs
  rw[if_pos h0,decide_eq_false (by omega)]
  have h:=l2near_any (q:Int) e (by omega) (by omega) w
  rw[Int.toNat_natCast]at h
  exact h
 ·subst hs
  rw[if_neg h0,decide_eq_true (by omega)]
  refine l2near_some _ (q:Int) e ?_ (by omega) (by omega) h1 h2 w
  intro j hj hj'
  rw[Int.toNat_natCast]at hj hj' ⊢
  have hj1:j≤1:=by
   apply Nat.le_of_not_lt
   intro h
   have:2 ^ 2≤2 ^ j:=Nat.pow_le_pow_right (by omega) h
   have:q*2 ^ 2≤q*2 ^ j:=Nat.mul_le_mul_left _ this
   omega
  have hst:=fw_stick false q e (by omega)
  rcases(show j=0∨j=1 by omega) with rfl|rfl
  ·rw[Nat.pow_zero,Nat.mul_one,hst]
   congr 1
   omega
  ·rw[Nat.pow_one,Nat.mul_comm q 2,odd_twice]
   rfl
set_option maxHeartbeats 400000 in
theorem l4ratio_zero(v u:Value)(w:World)(h:Big w v 0) :
  Calls Tryz.prog 78 #[v,u] w fun e w'=>e=.returned (.float .f64 0)∧w'=w:=by
 obtain⟨ao,n,cap,rfl,h1,h2,h3⟩:=h.slice
 obtain rfl:n=0:=h3.2 rfl
 go_enter Tryz.func78,Tryz.ntmps78
 go_wp2
 go_ret
 exact⟨rfl,rfl⟩
set_option maxHeartbeats 3200000 in
set_option maxRecDepth 100000 in
theorem l4ratio_up(v u:Value)(A C n a b:Nat)(w:World)(h:Big w v A)(h':Big w u C)(hA:A<4294967296 ^ n)(hC:C<4294967296 ^ n)(hn:n<20000)(hA0:0<A)(hC0:0<C)(ha:Bits A a)(hb:Bits C b)
  (hd1:(a:Int)-b≤1900) (hd2:-1900≤(a:Int)-b) (_ha':a≤1000000) (_hb':b≤1000000) (hc:a<b+63) :
  Calls Tryz.prog 78 #[v,u] w fun e w'=>e=.returned (.float .f64 (ratioAt (A*2 ^ (b+63-a)) (C) ((a:Int)-b-63)))∧Below w.heap.size w w':=by
 have HB1:Hid _:=fun(_:Unit)=>l0bits_is v A n a w h hA (by omega) hA0 ha
 have HB2:Hid _:=fun(_:Unit)=>l0bits_is u C n b w h' hC (by omega) hC0 hb
 have HA1:Hid (A*2 ^ (b+63-a)<4294967296 ^ (n+65)):=shl_more hA (by omega)
 have HC1:Hid (C<4294967296 ^ (n+65)):=Nat.lt_of_lt_of_le hC (Nat.pow_le_pow_right (by omega) (by omega))
 have HC0:Hid (0<C):=hC0
 have HAP:Hid _:=apart (bits_shl (k:=b+63-a) ha hA0) (bits_pos hb hC0) (by omega)
 have HSH:Hid _:=fun(_:Unit)=>l0shl_big v A n (b+63-a) w h hA (by omega) (by omega)
 have HX:Hid (Big w u C):=h'
 obtain⟨ao,la,cap,rfl,l1,l2,l3⟩:=h.slice
 have l0:(0:Int)<(la:Int):=by have:=l3.1;omega
 have l4:((la:Int)==0)=false:=beq_eq_false_iff_ne.2 (by omega)
 have l5:cap≤9223372036854775807:=l2
 generalize hA':A*2 ^ (b+63-a)=A' at *
 generalize hC':C=C' at *
 have he:-((a:Int)-b-63)=((b+63-a:Nat):Int):=by omega
 have he2:(a:Int)-b-63<0:=by omega
 obtain⟨E,hE⟩:∃E:Int,(a:Int)-b-63=E:=⟨_,rfl⟩
 obtain⟨K,hK⟩:∃K:Nat,b+63-a=K:=⟨_,rfl⟩
 rw[hK]at HSH he
 rw[hE]at he he2 ⊢
 clear h h' hA hC hA0 hC0 ha hb l2 l3
 have hE1:-2000≤E:=by omega
 have hE2:E≤2000:=by omega
 clear hA' hC' hK hc hd1 hd2
 go_enter Tryz.func78,Tryz.ntmps78
 go_wp2_with fail
 refine(HB1.out ()).mono ?_
 rintro r w' ⟨rfl,hw⟩
 rw[hw]
 clear HB1 hw w'
 go_wp2_with fail
 refine(HB2.out ()).mono ?_
 rintro r w' ⟨rfl,hw⟩
 rw[hw]
 clear HB2 hw w'
 go_wp2_with fail
 refine(HSH.out ()).mono ?_
 rintro r w1 ⟨v1,rfl,hb1,hv1⟩
 have H1:Hid (Big w1 v1 A'):=hv1
 have H2:Hid (Big w1 u C'):=HX.out.below hb1 (Nat.le_refl _)
 have HW:Hid (Below w.heap.size w w1):=hb1
 have HC:Hid _:=fun wr (hb:Below w1.heap.size w1 wr) j (hj:j≤63)=>l0shl_big u C' (n+65) j wr (H2.out.below hb (Nat.le_refl _)) HC1.out (by omega) (by omega)
 clear hb1 hv1 HSH HX
 go_wp2
 clear hE he he2
 clear _ha' _hb' l0 l1 l4 l5
 go_loopw [0,6,7] (fun va q k wr=>∃ (j Q R:Nat),k=.int .i64 ((j:Int)-1)∧j≤64∧q=.int .u64 (Q:Int)∧Hid (Div A' C' R Q j)∧Hid (Big wr va R)∧Below w1.heap.size w1 wr) (fun _ _ k _=>(intOf k+1).toNat)
 case atStart=>exact⟨64,0,A',rfl,Nat.le_refl _,rfl,div_start HAP.out.1,H1.out,Below.refl _ _⟩
 case round=>
  obtain⟨j,Q,R,rfl,hj,rfl,HD,HR,hbe⟩:=hrel
  have hsz:=hbe.size
  cases j with
  | zero=>
   obtain⟨ra,rn,rcap,hrv,r1,r2,r3⟩:=HR.out.slice
   subst hrv
   have r4:rcap≤9223372036854775807:=r2
   have HN:Hid _:=fun s hs w=>near_ratio A' C' R Q _ HD.out HC0.out HAP.out.2 hE1 hE2 s hs w
   have HM:Hid _:=fun w=>HN.out (decide (0<rn)) (decide_eq_decide.2 ⟨fun h=>Nat.pos_of_ne_zero fun h'=>Nat.ne_of_gt h (r3.2 h'),fun h=>Nat.pos_of_ne_zero fun h'=>Nat.ne_of_gt h (r3.1 h')⟩) w
   clear HN HD HR r2 r3
   go_wp2_with fail
   refine(HM.out _).mono ?_
   rintro r w' ⟨rfl,hw⟩
   rw[hw]
   clear hw w'
   go_wp2
   go_ret
   exact⟨rfl,HW.out.trans (hbe.mono HW.out.size)⟩
  | succ j=>
   have c1:(j:Int)≤63:=by omega
   have HB:Hid (C'*2 ^ j<4294967296 ^ (n+65+2)):=shl_more HC1.out (by omega)
   have HRL:Hid (R<4294967296 ^ (n+65+2)):=Nat.lt_of_le_of_lt (div_rest HD.out) (Nat.lt_of_lt_of_le HA1.out (Nat.pow_le_pow_right (by omega) (by omega)))
   have HOR:Hid _:=or_cast Q j HD.out.2.2.2 (by omega)
   go_wp2_with fail
   refine(HC.out _ hbe j (by omega)).mono ?_
   rintro r w2 ⟨v2,rfl,hb2,hv2⟩
   have HR2:Hid _:=fun(_:Unit)=>HR.out.below hb2 (Nat.le_refl _)
   have HV2:Hid _:=fun(_:Unit)=>hv2
   have HW2:Hid (Below w1.heap.size w1 w2):=hbe.trans (hb2.mono hsz)
   clear hb2 hv2 hbe
   obtain⟨D,hD⟩:∃D:Nat,D=C'*2 ^ j:=⟨_,rfl⟩
   rw[←hD]at HV2 HB
   have HDD:Hid (D=C'*2 ^ j):=hD
   have HCM:Hid _:=fun(_:Unit)=>l0cmp_any _ _ R D w2 (HR2.out ()) (HV2.out ())
   clear hD
   by_cases hlt:R<D
   ·have hcm:cmpI R D = -1:=cmpI_lt hlt
    rw[hcm]at HCM
    clear hcm
    go_wp2_with fail
    refine(HCM.out ()).mono ?_
    rintro r w3 ⟨hb3,rfl⟩
    have HW3:Hid (Below w1.heap.size w1 w3):=HW2.out.trans (hb3.mono HW2.out.size)
    have HR3:Hid _:=fun(_:Unit)=>(HR2.out ()).below hb3 (Nat.le_refl _)
    have HDV:Hid _:=fun(_:Unit)=>div_no HD.out (by rw[←HDD.out];exact hlt)
    clear hb3 HCM hlt
    go_wp2
    go_roundw
    case rel=>exact⟨j,Q,R,rfl,by omega,rfl,HDV.out (),HR3.out (),HW3.out⟩
    case measure=>simp only[intOf];omega
   ·have hcm:(0:Int)≤cmpI R D:=by unfold cmpI;split<;>(try split)<;>omega
    have HDV:Hid _:=fun(_:Unit)=>div_yes HD.out (by omega) (by rw[←HDD.out];omega)
    rw[←HDD.out]at HDV
    have hle:D≤R:=by omega
    generalize cmpI R D=cm at *
    clear hlt
    go_wp2_with fail
    refine(HCM.out ()).mono ?_
    rintro r w3 ⟨hb3,rfl⟩
    have HW3:Hid (Below w1.heap.size w1 w3):=HW2.out.trans (hb3.mono HW2.out.size)
    have HSB:Hid _:=fun(_:Unit)=>l0sub_any _ _ R D (n+65+2) w3 ((HR2.out ()).below hb3 (Nat.le_refl _)) ((HV2.out ()).below hb3 (Nat.le_refl _)) HRL.out (by omega) hle
    clear hb3 HCM hle
    go_wp2_with fail
    refine(HSB.out ()).mono ?_
    rintro r w4 ⟨v4,rfl,hb4,hv4⟩
    have HW4:Hid (Below w1.heap.size w1 w4):=HW3.out.trans (hb4.mono HW3.out.size)
    have HV4:Hid _:=fun(_:Unit)=>hv4
    have ho2:=HOR.out.2
    clear hb4 hv4 HSB
    go_wp2
    go_roundw
    case rel=>exact⟨j,Q ||| 2 ^ j,R-D,rfl,by omega,by rw[show(2:Int) ^ j=((2 ^ j:Nat):Int) from(Int.natCast_pow 2 j).symm,HOR.out.1],HDV.out (),HV4.out (),HW4.out⟩
    case measure=>simp only[intOf];omega
set_option maxHeartbeats 3200000 in
set_option maxRecDepth 100000 in
theorem l4ratio_down(v u:Value)(A C n a b:Nat)(w:World)(h:Big w v A)(h':Big w u C)(hA:A<4294967296 ^ n)(hC:C<4294967296 ^ n)(hn:n<20000)(hA0:0<A)(hC0:0<C)(ha:Bits A a)(hb:Bits C b)
  (hd1:(a:Int)-b≤1900) (hd2:-1900≤(a:Int)-b) (_ha':a≤1000000) (_hb':b≤1000000) (hc:b+63≤a) :
  Calls Tryz.prog 78 #[v,u] w fun e w'=>e=.returned (.float .f64 (ratioAt (A) (C*2 ^ (a-(b+63))) ((a:Int)-b-63)))∧Below w.heap.size w w':=by
 have HB1:Hid _:=fun(_:Unit)=>l0bits_is v A n a w h hA (by omega) hA0 ha
 have HB2:Hid _:=fun(_:Unit)=>l0bits_is u C n b w h' hC (by omega) hC0 hb
 have HA1:Hid (A<4294967296 ^ (n+65)):=Nat.lt_of_lt_of_le hA (Nat.pow_le_pow_right (by omega) (by omega))
 have HC1:Hid (C*2 ^ (a-(b+63))<4294967296 ^ (n+65)):=shl_more hC (by omega)
 have HC0:Hid (0<C*2 ^ (a-(b+63))):=Nat.mul_pos hC0 (Nat.two_pow_pos _)
 have HAP:Hid _:=apart (bits_pos ha hA0) (bits_shl (k:=a-(b+63)) hb hC0) (by omega)
 have HSH:Hid _:=fun(_:Unit)=>l0shl_big u C n (a-(b+63)) w h' hC (by omega) (by omega)
 have HX:Hid (Big w v A):=h
 obtain⟨ao,la,cap,rfl,l1,l2,l3⟩:=h.slice
 have l0:(0:Int)<(la:Int):=by have:=l3.1;omega
 have l4:((la:Int)==0)=false:=beq_eq_false_iff_ne.2 (by omega)
 have l5:cap≤9223372036854775807:=l2
 generalize hA':A=A' at *
 generalize hC':C*2 ^ (a-(b+63))=C' at *
 have he:(a:Int)-b-63=((a-(b+63):Nat):Int):=by omega
 have he2:0≤(a:Int)-b-63:=by omega
 obtain⟨E,hE⟩:∃E:Int,(a:Int)-b-63=E:=⟨_,rfl⟩
 obtain⟨K,hK⟩:∃K:Nat,a-(b+63)=K:=⟨_,rfl⟩
 rw[hK]at HSH he
 rw[hE]at he he2 ⊢
 clear h h' hA hC hA0 hC0 ha hb l2 l3
 have hE1:-2000≤E:=by omega
 have hE2:E≤2000:=by omega
 rw[←he]at HSH
 have he3:decide (E<0)=false:=decide_eq_false (by omega)
 clear he he2
 clear hA' hC' hK hc hd1 hd2
 go_enter Tryz.func78,Tryz.ntmps78
 go_wp2_with fail
 refine(HB1.out ()).mono ?_
 rintro r w' ⟨rfl,hw⟩
 rw[hw]
 clear HB1 hw w'
 go_wp2_with fail
 refine(HB2.out ()).mono ?_
 rintro r w' ⟨rfl,hw⟩
 rw[hw]
 clear HB2 hw w'
 go_wp2_with fail
 refine(HSH.out ()).mono ?_
 rintro r w1 ⟨v1,rfl,hb1,hv1⟩
 have H1:Hid (Big w1 v1 C'):=hv1
 have H2:Hid (Big w1 (.slice ao la cap) A'):=HX.out.below hb1 (Nat.le_refl _)
 have HW:Hid (Below w.heap.size w w1):=hb1
 have HC:Hid _:=fun wr (hb:Below w1.heap.size w1 wr) j (hj:j≤63)=>l0shl_big v1 C' (n+65) j wr (H1.out.below hb (Nat.le_refl _)) HC1.out (by omega) (by omega)
 clear hb1 hv1 HSH HX
 go_wp2
 clear hE he3
 clear _ha' _hb' l0 l1 l4 l5
 go_loopw [0,6,7] (fun va q k wr=>∃ (j Q R:Nat),k=.int .i64 ((j:Int)-1)∧j≤64∧q=.int .u64 (Q:Int)∧Hid (Div A' C' R Q j)∧Hid (Big wr va R)∧Below w1.heap.size w1 wr) (fun _ _ k _=>(intOf k+1).toNat)
 case atStart=>exact⟨64,0,A',rfl,Nat.le_refl _,rfl,div_start HAP.out.1,H2.out,Below.refl _ _⟩
 case round=>
  obtain⟨j,Q,R,rfl,hj,rfl,HD,HR,hbe⟩:=hrel
  have hsz:=hbe.size
  cases j with
  | zero=>
   obtain⟨ra,rn,rcap,hrv,r1,r2,r3⟩:=HR.out.slice
   subst hrv
   have r4:rcap≤9223372036854775807:=r2
   have HN:Hid _:=fun s hs w=>near_ratio A' C' R Q _ HD.out HC0.out HAP.out.2 hE1 hE2 s hs w
   have HM:Hid _:=fun w=>HN.out (decide (0<rn)) (decide_eq_decide.2 ⟨fun h=>Nat.pos_of_ne_zero fun h'=>Nat.ne_of_gt h (r3.2 h'),fun h=>Nat.pos_of_ne_zero fun h'=>Nat.ne_of_gt h (r3.1 h')⟩) w
   clear HN HD HR r2 r3
   go_wp2_with fail
   refine(HM.out _).mono ?_
   rintro r w' ⟨rfl,hw⟩
   rw[hw]
   clear hw w'
   go_wp2
   go_ret
   exact⟨rfl,HW.out.trans (hbe.mono HW.out.size)⟩
  | succ j=>
   have c1:(j:Int)≤63:=by omega
   have HB:Hid (C'*2 ^ j<4294967296 ^ (n+65+2)):=shl_more HC1.out (by omega)
   have HRL:Hid (R<4294967296 ^ (n+65+2)):=Nat.lt_of_le_of_lt (div_rest HD.out) (Nat.lt_of_lt_of_le HA1.out (Nat.pow_le_pow_right (by omega) (by omega)))
   have HOR:Hid _:=or_cast Q j HD.out.2.2.2 (by omega)
   go_wp2_with fail
   refine(HC.out _ hbe j (by omega)).mono ?_
   rintro r w2 ⟨v2,rfl,hb2,hv2⟩
   have HR2:Hid _:=fun(_:Unit)=>HR.out.below hb2 (Nat.le_refl _)
   have HV2:Hid _:=fun(_:Unit)=>hv2
   have HW2:Hid (Below w1.heap.size w1 w2):=hbe.trans (hb2.mono hsz)
   clear hb2 hv2 hbe
   obtain⟨D,hD⟩:∃D:Nat,D=C'*2 ^ j:=⟨_,rfl⟩
   rw[←hD]at HV2 HB
   have HDD:Hid (D=C'*2 ^ j):=hD
   have HCM:Hid _:=fun(_:Unit)=>l0cmp_any _ _ R D w2 (HR2.out ()) (HV2.out ())
   clear hD
   by_cases hlt:R<D
   ·have hcm:cmpI R D = -1:=cmpI_lt hlt
    rw[hcm]at HCM
    clear hcm
    go_wp2_with fail
    refine(HCM.out ()).mono ?_
    rintro r w3 ⟨hb3,rfl⟩
    have HW3:Hid (Below w1.heap.size w1 w3):=HW2.out.trans (hb3.mono HW2.out.size)
    have HR3:Hid _:=fun(_:Unit)=>(HR2.out ()).below hb3 (Nat.le_refl _)
    have HDV:Hid _:=fun(_:Unit)=>div_no HD.out (by rw[←HDD.out];exact hlt)
    clear hb3 HCM hlt
    go_wp2
    go_roundw
    case rel=>exact⟨j,Q,R,rfl,by omega,rfl,HDV.out (),HR3.out (),HW3.out⟩
    case measure=>simp only[intOf];omega
   ·have hcm:(0:Int)≤cmpI R D:=by unfold cmpI;split<;>(try split)<;>omega
    have HDV:Hid _:=fun(_:Unit)=>div_yes HD.out (by omega) (by rw[←HDD.out];omega)
    rw[←HDD.out]at HDV
    have hle:D≤R:=by omega
    generalize cmpI R D=cm at *
    clear hlt
    go_wp2_with fail
    refine(HCM.out ()).mono ?_
    rintro r w3 ⟨hb3,rfl⟩
    have HW3:Hid (Below w1.heap.size w1 w3):=HW2.out.trans (hb3.mono HW2.out.size)
    have HSB:Hid _:=fun(_:Unit)=>l0sub_any _ _ R D (n+65+2) w3 ((HR2.out ()).below hb3 (Nat.le_refl _)) ((HV2.out ()).below hb3 (Nat.le_refl _)) HRL.out (by omega) hle
    clear hb3 HCM hle
    go_wp2_with fail
    refine(HSB.out ()).mono ?_
    rintro r w4 ⟨v4,rfl,hb4,hv4⟩
    have HW4:Hid (Below w1.heap.size w1 w4):=HW3.out.trans (hb4.mono HW3.out.size)
    have HV4:Hid _:=fun(_:Unit)=>hv4
    have ho2:=HOR.out.2
    clear hb4 hv4 HSB
    go_wp2
    go_roundw
    case rel=>exact⟨j,Q ||| 2 ^ j,R-D,rfl,by omega,by rw[show(2:Int) ^ j=((2 ^ j:Nat):Int) from(Int.natCast_pow 2 j).symm,HOR.out.1],HDV.out (),HV4.out (),HW4.out⟩
    case measure=>simp only[intOf];omega
theorem bits_ex(A n:Nat)(hA:A<4294967296 ^ n)(hn:n<20000)(h0:0<A):Bits A (A.log2+1)∧A.log2+1≤1000000:=by
 refine⟨log_bits h0,?_⟩
 rw[pow32]at hA
 have:=(Nat.log2_lt (by omega)).2 hA
 omega
theorem l4ratio_any(v u:Value)(A C n:Nat)(w:World)(h:Big w v A)(h':Big w u C)(hA:A<4294967296 ^ n)(hC:C<4294967296 ^ n)(hn:n<20000)(hC0:0<C)
  (hd:A=0∨((A.log2:Int)-C.log2≤1900∧-1900≤(A.log2:Int)-C.log2)) :
  Calls Tryz.prog 78 #[v,u] w fun e w'=>e=.returned (.float .f64 (if A=0 then 0 else ratioW A C))∧Below w.heap.size w w':=by
 by_cases h0:A=0
 ·subst h0
  refine(l4ratio_zero v u w h).mono ?_
  rintro e w' ⟨rfl,rfl⟩
  rw[if_pos rfl]
  exact⟨rfl,Below.refl _ _⟩
 ·rw[if_neg h0]
  obtain⟨d1,d2⟩:=hd.resolve_left h0
  obtain⟨ha,ha'⟩:=bits_ex A n hA hn (by omega)
  obtain⟨hb,hb'⟩:=bits_ex C n hC hn hC0
  unfold ratioW
  generalize hx:A.log2=x at *
  generalize hy:C.log2=y at *
  by_cases hc:x+1<y+1+63
  ·have hr:=l4ratio_up v u A C n (x+1) (y+1) w h h' hA hC hn (by omega) hC0 ha hb (by omega) (by omega) ha' hb' hc
   rw[show y+1+63-(x+1)=(-((x:Int)-y-63)).toNat by omega,show(((x+1:Nat):Int)-((y+1:Nat):Int)-63)=(x:Int)-y-63 by omega]at hr
   rw[show((x:Int)-y-63).toNat=0 by omega,Nat.pow_zero,Nat.mul_one]
   exact hr
  ·have hr:=l4ratio_down v u A C n (x+1) (y+1) w h h' hA hC hn (by omega) hC0 ha hb (by omega) (by omega) ha' hb' (by omega)
   rw[show x+1-(y+1+63)=((x:Int)-y-63).toNat by omega,show(((x+1:Nat):Int)-((y+1:Nat):Int)-63)=(x:Int)-y-63 by omega]at hr
   rw[show(-((x:Int)-y-63)).toNat=0 by omega,Nat.pow_zero,Nat.mul_one]
   exact hr
def Strip(s r:ByteArray):Prop:=good 10 r.data.toList∧valN 10 r.data.toList=valN 10 s.data.toList∧r.size≤s.size
theorem strip_step(s r:ByteArray)(h:Strip s r)(h0:0<r.size)(hz:r[0].toNat=48):Strip s (r.extract 1 r.size):=by
 obtain⟨h1,h2,h3⟩:=h
 have hc:=text_cons r h0
 refine⟨by rw[hc]at h1;exact good_tail h1,?_,by have:=extract_one r h0;omega⟩
 rw[←h2]
 conv=>rhs;rw[hc]
 rw[valN_zero 10 _ _ hz]
theorem strip_some(s r:ByteArray)(h:Strip s r)(h0:0<r.size)(hz:r[0].toNat≠48):10 ^ (r.size-1)≤valN 10 s.data.toList∧valN 10 s.data.toList<10 ^ r.size:=by
 obtain⟨h1,h2,h3⟩:=h
 have hc:=text_cons r h0
 have hl:(r.extract 1 r.size).data.toList.length=r.size-1:=by
  have:=extract_one r h0
  have:(r.extract 1 r.size).data.toList.length=(r.extract 1 r.size).size:=by simp
  omega
 have a:=valN_good_lt 10 _ h1
 rw[show r.data.toList.length=r.size by simp]at a
 have b:=valN_good_ge 10 r[0] (r.extract 1 r.size).data.toList (fun h=>hz ((digN_zero _).1 h))
 rw[←hc,hl]at b
 rw[←h2]
 exact⟨b,a⟩
theorem strip_none(s r:ByteArray)(h:Strip s r)(h0:r.size=0):valN 10 s.data.toList=0:=by
 rw[←h.2.1]
 have:r.data.toList = []:=List.length_eq_zero_iff.1 (by simpa using h0)
 rw[this];exact valN_nil 10
set_option maxHeartbeats 3200000 in
set_option maxRecDepth 100000 in
theorem l4decimal_any(s:ByteArray)(e:Int)(w:World)(hs:s.size≤1300)(hg:good 10 s.data.toList)(he1:-200000≤e)(he2:e≤200000) :
  Calls Tryz.prog 39 #[.string s,.int .i64 e] w fun r w'=>r=.returned (.float .f64 (decW 10 (valN 10 s.data.toList) e))∧Below w.heap.size w w':=by
 have HG:Hid (Strip s s):=⟨hg,rfl,Nat.le_refl _⟩
 obtain⟨N,HN⟩:∃N:Nat,Hid (N≤1300∧1300≤N):=⟨1300,⟨by omega,by omega⟩⟩
 clear hg
 obtain⟨V,hV⟩:∃V,V=valN 10 s.data.toList:=⟨_,rfl⟩
 rw[←hV]
 have HE:Hid (valN 10 s.data.toList=V):=hV.symm
 clear hV
 go_enter Tryz.func39,Tryz.ntmps39
 go_wp2
 go_loopw [0] (fun a wr=>∃r:ByteArray,a=.string r∧Hid (Strip s r)∧r.size≤s.size∧wr=w) (fun a _=>(match a with | .string r=>r.size|_=>0))
 case atStart=>exact⟨s,rfl,HG,Nat.le_refl _,rfl⟩
 case round=>
  obtain⟨r,rfl,HS,hrs,rfl⟩:=hrel
  have hr13:r.size≤1300:=by omega
  have HL:Hid _:=fun w=>l4big_any r 10 w (by omega) (by omega)
  rw[HS.out.2.1,HE.out]at HL
  by_cases h0:0<r.size
  ·have h0':(0:Int)<(r.size:Int):=by omega
   by_cases hz:r[0].toNat=48
   ·have b48:((r[0].toNat:Int)==48)=true:=beq_iff_eq.2 (by omega)
    have HN:Hid _:=fun(_:Unit)=>strip_step s r HS.out h0 hz
    have hsz:=extract_one r h0
    clear HL hz
    go_wp2
    go_roundw
    case rel=>exact⟨r.extract 1 r.size,rfl,HN.out (),by omega,by first|rfl|trivial⟩
    case measure=>show(r.extract 1 r.size).size<r.size;omega
   ·have b48:((r[0].toNat:Int)==48)=false:=beq_eq_false_iff_ne.2 (by omega)
    obtain⟨v1,v2⟩:=strip_some s r HS.out h0 hz
    rw[HE.out]at v1 v2
    have hVp:0<V:=Nat.lt_of_lt_of_le (Nat.pow_pos (by omega)) v1
    have HV1:Hid _:=fun(_:Unit)=>v1
    have HV2:Hid _:=fun(_:Unit)=>v2
    clear hz v1 v2 HS
    go_wp2_with fail
    refine(HL.out _).mono ?_
    rintro x w1 ⟨v,rfl,hb1,hv1⟩
    have HB1:Hid (Big w1 v V):=hv1
    have HW1:Hid (Below wr.heap.size wr w1):=hb1
    obtain⟨ao,la,cap,rfl,l1,l2,l3⟩:=hv1.slice
    have l0:((la:Int)==0)=false:=beq_eq_false_iff_ne.2 (by have:=l3.1;omega)
    have l5:cap≤9223372036854775807:=l2
    clear hb1 hv1 HL l2 l3
    by_cases c1:400<(r.size:Int)+e
    ·have HX:Hid (decW 10 V e=iw false):=dec_over V e r.size (HV1.out ()) (by omega) (by omega)
     go_wp2_with (go_at_call 75;refine(l2inf_any _).mono ?_;rintro x w' ⟨rfl,rfl⟩)
     go_ret
     exact⟨by rw[HX.out];rfl,HW1.out⟩
    ·by_cases c2:(r.size:Int)+e < -400
     ·have HX:Hid (decW 10 V e=0):=dec_under V e r.size hVp (HV2.out ()) (by omega)
      go_wp2
      go_ret
      exact⟨by rw[HX.out];rfl,HW1.out⟩
     ·have d1:decide (400<(r.size:Int)+e)=false:=decide_eq_false c1
      have d2:decide ((r.size:Int)+e < -400)=false:=decide_eq_false c2
      have HD:Hid _:=fun(_:Unit)=>dec_within V e r.size (HV1.out ()) (HV2.out ()) (by omega) (by omega) (by omega)
      have HVB:Hid (V<4294967296 ^ N):=by
       show V<4294967296 ^ N
       have a1:10 ^ r.size≤4294967296 ^ r.size:=Nat.pow_le_pow_left (by omega) _
       have a2:4294967296 ^ r.size≤4294967296 ^ N:=Nat.pow_le_pow_right (by have:=HN.out;omega) (by have:=HN.out;omega)
       exact Nat.lt_of_lt_of_le (HV2.out ()) (Nat.le_trans a1 a2)
      by_cases c3:0≤e
      ·obtain⟨K,rfl⟩:∃K:Nat,e=(K:Int):=⟨e.toNat,by omega⟩
       have HX:Hid (decW 10 V K=ratioW (V*10 ^ K) 1):=by
        show decW 10 V K=ratioW (V*10 ^ K) 1
        unfold decW
        rw[if_neg (by omega),Int.toNat_natCast,show(-(K:Int)).toNat=0 by omega,Nat.pow_zero]
       have HD':=HD.out ()
       rw[Int.toNat_natCast,show(-(K:Int)).toNat=0 by omega,Nat.pow_zero]at HD'
       have HDD:Hid _:=fun(_:Unit)=>HD'
       have HK:Hid (10 ^ K<4294967296 ^ (N+500)):=Nat.lt_of_lt_of_le (pow_small 10 K (by have:=HN.out;omega)) (Nat.pow_le_pow_right (by have:=HN.out;omega) (by have:=HN.out;omega))
       have HT:Hid (V*10 ^ K<4294967296 ^ (N+(N+500))):=mul_bound HVB.out HK.out
       have HPW:Hid _:=fun(_:Unit)=>l0pow_any 10 K w1 (by omega) (by omega)
       clear HD HD'
       go_wp2_with fail
       refine(HPW.out ()).mono ?_
       rintro x w2 ⟨v2,rfl,hb2,hv2⟩
       have HTM:Hid _:=fun(_:Unit)=>l0times_any _ _ V (10 ^ K) (N+500) w2 (HB1.out.below hb2 (Nat.le_refl _)) hv2 (Nat.lt_of_lt_of_le HVB.out (Nat.pow_le_pow_right (by have:=HN.out;omega) (by have:=HN.out;omega))) HK.out (by have:=HN.out;omega)
       have HW2:Hid (Below wr.heap.size wr w2):=HW1.out.trans (hb2.mono HW1.out.size)
       clear hb2 hv2 HPW
       go_wp2_with fail
       refine(HTM.out ()).mono ?_
       rintro x w3 ⟨v3,rfl,hb3,hv3⟩
       have HB3:Hid (Big w3 v3 (V*10 ^ K)):=hv3
       have HW3:Hid (Below wr.heap.size wr w3):=HW2.out.trans (hb3.mono HW2.out.size)
       clear hb3 hv3 HTM
       go_wp2_with fail
       have HRT:Hid _:=fun(_:Unit)=>l4ratio_any v3 (.slice (some ⟨w3.heap.size,0,none⟩) 1 1) (V*10 ^ K) 1 (N+(N+500)) (w3.alloc (.cells #[.int .u64 1] 44)) (HB3.out.below ((Below.refl _ w3).alloc (Nat.le_refl _) _) (Nat.le_refl _)) (Big.one w3 44) HT.out (Nat.one_lt_pow (by have:=HN.out;omega) (by have:=HN.out;omega)) (by have:=HN.out;omega) (by have:=HN.out;omega) (.inr (HDD.out ()))
       rw[if_neg (Nat.ne_of_gt (Nat.mul_pos hVp (Nat.pow_pos (by have:=HN.out;omega))))]at HRT
       refine(HRT.out ()).mono ?_
       rintro x w4 ⟨rfl,hb4⟩
       have HW4:Hid (Below wr.heap.size wr w4):=(HW3.out.alloc HW3.out.size _).trans (hb4.mono (by have:=HW3.out.size;simp;omega))
       clear hb4 HRT
       go_wp2
       go_ret
       exact⟨by rw[HX.out];rfl,HW4.out⟩
      ·obtain⟨K,hK⟩:∃K:Nat,-e=(K:Int):=⟨(-e).toNat,by omega⟩
       have HX:Hid (decW 10 V e=ratioW V (10 ^ K)):=by
        show decW 10 V e=ratioW V (10 ^ K)
        unfold decW
        rw[if_neg (by omega),hK,Int.toNat_natCast,show e.toNat=0 by omega,Nat.pow_zero,Nat.mul_one]
       have HD':=HD.out ()
       rw[hK,Int.toNat_natCast,show e.toNat=0 by omega,Nat.pow_zero,Nat.mul_one]at HD'
       have HDD:Hid _:=fun(_:Unit)=>HD'
       have HK:Hid (10 ^ K<4294967296 ^ (N+500)):=Nat.lt_of_lt_of_le (pow_small 10 K (by have:=HN.out;omega)) (Nat.pow_le_pow_right (by have:=HN.out;omega) (by have:=HN.out;omega))
       have HPW:Hid _:=fun(_:Unit)=>l0pow_any 10 K w1 (by omega) (by omega)
       have c4:decide (0≤e)=false:=decide_eq_false c3
       clear HD HD' c3
       go_wp2_with fail
       refine(HPW.out ()).mono ?_
       rintro x w2 ⟨v2,rfl,hb2,hv2⟩
       have HRT:Hid _:=fun(_:Unit)=>l4ratio_any _ _ V (10 ^ K) (N+500) w2 (HB1.out.below hb2 (Nat.le_refl _)) hv2 (Nat.lt_of_lt_of_le HVB.out (Nat.pow_le_pow_right (by have:=HN.out;omega) (by have:=HN.out;omega))) HK.out (by have:=HN.out;omega) (Nat.pow_pos (by have:=HN.out;omega)) (.inr (HDD.out ()))
       rw[if_neg (Nat.ne_of_gt hVp)]at HRT
       have HW2:Hid (Below wr.heap.size wr w2):=HW1.out.trans (hb2.mono HW1.out.size)
       clear hb2 hv2 HPW
       go_wp2_with fail
       refine(HRT.out ()).mono ?_
       rintro x w3 ⟨rfl,hb3⟩
       have HW3:Hid (Below wr.heap.size wr w3):=HW2.out.trans (hb3.mono HW2.out.size)
       clear hb3 HRT
       go_wp2
       go_ret
       exact⟨by rw[HX.out];rfl,HW3.out⟩
  ·obtain hz:r.size=0:=by omega
   have hV0:V=0:=by rw[←HE.out];exact strip_none s r HS.out hz
   subst hV0
   clear HS HE
   go_wp2_with fail
   refine(HL.out _).mono ?_
   rintro x w1 ⟨v,rfl,hb1,hv1⟩
   obtain⟨ao,la,cap,rfl,l1,l2,l3⟩:=hv1.slice
   obtain rfl:la=0:=l3.2 rfl
   have HW1:Hid (Below wr.heap.size wr w1):=hb1
   clear hb1 hv1 HL l2 l3
   go_wp2
   go_ret
   exact⟨rfl,HW1.out⟩
end Go.Proofs.YtenbfookfcmpoaaGreatDoor
namespace Go.Proofs.YtenbfookfcmpoaaGreatDoor
open Go.ChangeShapes Go.WideShapes Go.RowKit
open Ieee (double)
set_option maxHeartbeats 1000000 in
theorem l5value_any(ds:ByteArray)(p:Int)(hs:ds.size≤1300)(hg:good 10 ds.data.toList)(hp:-100000≤p)(hp2:p≤100000)(w:World) :
  Calls Tryz.prog 123 #[.agg #[.string ds,.int .i64 p]] w fun e w'=>e=.returned (.float .f64 (decW 10 (valN 10 ds.data.toList) (p-(ds.size:Int))))∧Below w.heap.size w w':=by
 have HD:Hid _:=fun w=>l4decimal_any ds (p-(ds.size:Int)) w hs hg (by omega) (by omega)
 generalize decW 10 (valN 10 ds.data.toList) (p-(ds.size:Int))=D at *
 have hs':(ds.size:Int)≤1300:=by omega
 clear hg
 go_enter Tryz.func123,Tryz.ntmps123
 go_wp2_with fail
 refine(HD.out _).mono ?_
 rintro e w1 ⟨rfl,hb⟩
 have HB:Hid _:=hb
 clear hb
 go_wp2
 go_ret
 exact⟨rfl,((Below.refl _ _).alloc (Nat.le_refl _) _).trans (HB.out.mono (by simp))⟩
def Rds(x:Nat)(t:ByteArray)(p:Int):Bool:=double.order (decW 10 (valN 10 t.data.toList) (p-(t.size:Int))) x==some .eq
def LeastD(ds:ByteArray)(pow:Int)(x:Nat)(t:ByteArray)(p':Int):Prop:=∃n t2 p2,1≤n∧n≤ds.size∧cutV ds pow n (decide (n<ds.size)) t2 p2
 ∧ (∀k,1≤k→k<n→Rds x (padB ds k) pow=false∧∀u r,cutV ds pow k (decide (k<ds.size)) u r→Rds x u r=false)
 ∧ ((Rds x (padB ds n) pow=true∧(Rds x t2 p2=true→roundsB ds (n:Int)=false)∧t=padB ds n∧p'=pow)∨(Rds x t2 p2=true∧(Rds x (padB ds n) pow=true→roundsB ds (n:Int)=true)∧t=t2∧p'=p2))
theorem boxed(w:World)(ds:ByteArray)(p:Int)(T:Nat):∃W,W=w.alloc (.cells #[.string ds,.int .i64 p] T)∧Below w.heap.size w W∧w.heap.size<W.heap.size
  ∧ W.cell? ⟨w.heap.size,0,none⟩=some (.string ds)∧W.cell? ⟨w.heap.size,1,none⟩=some (.int .i64 p)∧W.frozen? ⟨w.heap.size,0,none⟩=false∧W.frozen? ⟨w.heap.size,1,none⟩=false:=
 ⟨_,rfl,(Below.refl _ _).alloc (Nat.le_refl _) _,by simp,by simp[go_sem],by simp[go_sem],by simp[go_sem],by simp[go_sem]⟩
set_option maxHeartbeats 8000000 in
set_option maxRecDepth 100000 in
theorem l5least_any(x:Nat)(q:Nat)(E:Int)(hq:0<q)(hxq:x=fw false q E)(hself:double.order x x=some .eq)(hX:∀w,Calls Tryz.prog 92 #[.float .f64 x] w fun e w'=>
  ∃ds pow,ExD ds pow q E∧ds.size≤1100∧-1100≤pow∧pow≤1100∧e=.returned (.agg #[.string ds,.int .i64 pow])∧Below w.heap.size w w') (w:World) :
  Calls Tryz.prog 88 #[.float .f64 x] w fun e w'=>∃ds pow t p',ExD ds pow q E∧ds.size≤1100∧-1100≤pow∧pow≤1100∧LeastD ds pow x t p'∧e=.returned (.agg #[.string t,.int .i64 p'])∧Below w.heap.size w w':=by
 have H3:Hid _:=hX
 have HXQ:Hid (x=fw false q E∧double.order x x=some .eq∧0<q):=⟨hxq,hself,hq⟩
 obtain⟨Wr,hWr,hBr,hlr,r0,r1,g0,g1⟩:=boxed w ⟨#[]⟩ 0 157
 have HWr:Hid _:=hWr
 have HR0:Hid _:=fun(_:Unit)=>And.intro hBr (And.intro hlr (And.intro r0 (And.intro r1 (And.intro g0 g1))))
 clear hX hWr hBr hlr r0 r1 g0 g1 hxq hself hq
 go_enter Tryz.func88,Tryz.ntmps88
 go_wp2_with fail
 rw[←HWr.out]
 refine(H3.out _).mono ?_
 rintro e w2 ⟨ds,pow,hd,hs,hp1,hp2,rfl,hb2⟩
 obtain⟨Wd,hWd,hBd,hld,d0,d1,_,_⟩:=boxed w2 ds pow 157
 have HWd:Hid _:=hWd
 have HD:Hid _:=fun(_:Unit)=>hd
 have HRd:Hid (Below w.heap.size w Wd∧w.heap.size<Wd.heap.size∧Wd.cell? ⟨w.heap.size,0,none⟩=some (.string ⟨#[]⟩)∧Wd.cell? ⟨w.heap.size,1,none⟩=some (.int .i64 0)∧Wd.frozen? ⟨w.heap.size,0,none⟩=false∧Wd.frozen? ⟨w.heap.size,1,none⟩=false):=by
  obtain⟨a1,a2,a3,a4,a5,a6⟩:=HR0.out ()
  have hb:Below Wr.heap.size Wr Wd:=hb2.trans (hBd.mono hb2.size)
  exact⟨a1.trans (hb.mono (by omega)),Nat.lt_of_lt_of_le a2 hb.size,(hb.cell (p:=⟨w.heap.size,0,none⟩) a2).trans a3,(hb.cell (p:=⟨w.heap.size,1,none⟩) a2).trans a4,(hb.frozen (p:=⟨w.heap.size,0,none⟩) a2).trans a5,(hb.frozen (p:=⟨w.heap.size,1,none⟩) a2).trans a6⟩
 have HDd:Hid _:=fun(_:Unit)=>And.intro hld (And.intro d0 d1)
 have hs1:=hd.1
 clear hd hb2 hBd hld d0 d1 hWd HR0 HWr H3
 go_wp2_with fail
 rw[←HWd.out]
 go_loopw [4] (fun vn wr=>∃n:Nat,vn=.int .i64 (n:Int)∧1≤n∧n≤ds.size∧Hid (∀k,1≤k→k<n→Rds x (padB ds k) pow=false∧∀u r,cutV ds pow k (decide (k<ds.size)) u r→Rds x u r=false)∧Hid (Below Wd.heap.size Wd wr)) (fun vn _=>ds.size+1-(intOf vn).toNat)
 case atStart=>exact⟨1,rfl,Nat.le_refl _,hs1,fun k h1 h2=>by omega,Below.refl _ _⟩
 case round=>
  obtain⟨n,rfl,hn1,hn2,HN,HBn⟩:=hrel
  have hni:(n:Int)≤(ds.size:Int):=by omega
  have hsi:(ds.size:Int)≤1100:=by omega
  have d0:wr.cell? ⟨w2.heap.size,0,none⟩=some (.string ds):=(HBn.out.cell (p:=⟨w2.heap.size,0,none⟩) (HDd.out ()).1).trans (HDd.out ()).2.1
  have d1:wr.cell? ⟨w2.heap.size,1,none⟩=some (.int .i64 pow):=(HBn.out.cell (p:=⟨w2.heap.size,1,none⟩) (HDd.out ()).1).trans (HDd.out ()).2.2
  go_wp2_with fail
  refine(l5cut_any ds pow n false hs (HD.out ()).2.1 (by omega) (by omega) (by omega) _).mono ?_
  rintro e w5 ⟨t1,p1,hc1,rfl,hb5⟩
  have e1:t1=padB ds n∧p1=pow:=by
   rcases hc1 with⟨_,a,b⟩|⟨h,_⟩
   ·exact⟨a,b⟩
   ·cases h
  obtain⟨rfl,rfl⟩:=e1
  have hb5':Below Wd.heap.size Wd w5:=HBn.out.trans (hb5.mono HBn.out.size)
  have hl5:w2.heap.size<w5.heap.size:=Nat.lt_of_lt_of_le (HDd.out ()).1 hb5'.size
  have HB5:Hid (Below Wd.heap.size Wd w5):=hb5'
  have d05:w5.cell? ⟨w2.heap.size,0,none⟩=some (.string ds):=(hb5'.cell (p:=⟨w2.heap.size,0,none⟩) (HDd.out ()).1).trans (HDd.out ()).2.1
  have d15:w5.cell? ⟨w2.heap.size,1,none⟩=some (.int .i64 p1):=(hb5'.cell (p:=⟨w2.heap.size,1,none⟩) (HDd.out ()).1).trans (HDd.out ()).2.2
  have hps:=padB_size ds n
  have HPG:Hid _:=padB_good ds n (HD.out ()).2.1
  clear hb5 hc1 d0 d1
  go_wp2_with fail
  refine(l5cut_any ds p1 n _ hs (HD.out ()).2.1 (by omega) (by omega) (by omega) _).mono ?_
  rintro e w6 ⟨t2,p2,hc2,rfl,hb6⟩
  have hz2:=cut5_size _ _ _ _ _ _ hc2
  have HC2:Hid (cutV ds p1 n (decide (n<ds.size)) t2 p2):=hc2
  have HG2:Hid _:=cutV_good _ _ _ _ _ _ (HD.out ()).2.1 hc2
  have hl6:w5.heap.size<w6.heap.size:=by have h:=hb6.size;simp at h;omega
  have a0:=(hb6.cell (p:=⟨w5.heap.size,0,none⟩) (by simp)).trans (by simp[go_sem]:_=some (.string (padB ds n)))
  have a1:=(hb6.cell (p:=⟨w5.heap.size,1,none⟩) (by simp)).trans (by simp[go_sem]:_=some (.int .i64 p1))
  have HB6:Hid (Below Wd.heap.size Wd w6):=(HB5.out.alloc HB5.out.size _).trans (hb6.mono (by have:=HB5.out.size;simp;omega))
  clear hb6 hc2 d05 d15
  go_wp2_with fail
  refine(l5value_any (padB ds n) p1 (by omega) HPG.out (by omega) (by omega) _).mono ?_
  rintro e w7 ⟨rfl,hb7⟩
  have hl7:w6.heap.size<w7.heap.size:=by have h:=hb7.size;simp at h;omega
  have HB7:Hid (Below Wd.heap.size Wd w7):=(HB6.out.alloc HB6.out.size _).trans (hb7.mono (by have:=HB6.out.size;simp;omega))
  have b0:=(hb7.cell (p:=⟨w6.heap.size,0,none⟩) (by simp)).trans (by simp[go_sem]:_=some (.string t2))
  have b1:=(hb7.cell (p:=⟨w6.heap.size,1,none⟩) (by simp)).trans (by simp[go_sem]:_=some (.int .i64 p2))
  have a07:=(hb7.cell (p:=⟨w5.heap.size,0,none⟩) (by simp<;>omega)).trans (((Below.refl w6.heap.size w6).alloc (Nat.le_refl _) _).cell (p:=⟨w5.heap.size,0,none⟩) hl6 |>.trans a0)
  have a17:=(hb7.cell (p:=⟨w5.heap.size,1,none⟩) (by simp<;>omega)).trans (((Below.refl w6.heap.size w6).alloc (Nat.le_refl _) _).cell (p:=⟨w5.heap.size,1,none⟩) hl6 |>.trans a1)
  obtain⟨D1,hD1⟩:∃D1,D1=decW 10 (valN 10 (padB ds n).data.toList) (p1-((padB ds n).size:Int)):=⟨_,rfl⟩
  obtain⟨A,hA⟩:∃A,A=Rds x (padB ds n) p1:=⟨_,rfl⟩
  have hA':(FloatKind.f64.format.order D1 x==some .eq)=A:=by rw[hA,hD1];rfl
  have HAE:Hid (A=Rds x (padB ds n) p1):=hA
  rw[←hD1]
  clear hb7 a0 a1 hA hD1
  go_wp2_with fail
  refine(l5value_any t2 p2 (by omega) HG2.out (by omega) (by omega) _).mono ?_
  rintro e w8 ⟨rfl,hb8⟩
  have HB8:Hid (Below Wd.heap.size Wd w8):=HB7.out.trans (hb8.mono HB7.out.size)
  have hl8:w7.heap.size≤w8.heap.size:=hb8.size
  have b08:=(hb8.cell (p:=⟨w6.heap.size,0,none⟩) hl7).trans b0
  have b18:=(hb8.cell (p:=⟨w6.heap.size,1,none⟩) hl7).trans b1
  have hl57:w5.heap.size<w7.heap.size:=by omega
  have a08:=(hb8.cell (p:=⟨w5.heap.size,0,none⟩) hl57).trans a07
  have a18:=(hb8.cell (p:=⟨w5.heap.size,1,none⟩) hl57).trans a17
  have hl68:w6.heap.size<w8.heap.size:=by omega
  have hl58:w5.heap.size<w8.heap.size:=by omega
  have d08:w8.cell? ⟨w2.heap.size,0,none⟩=some (.string ds):=(HB8.out.cell (p:=⟨w2.heap.size,0,none⟩) (HDd.out ()).1).trans (HDd.out ()).2.1
  have d18:w8.cell? ⟨w2.heap.size,1,none⟩=some (.int .i64 p1):=(HB8.out.cell (p:=⟨w2.heap.size,1,none⟩) (HDd.out ()).1).trans (HDd.out ()).2.2
  obtain⟨D2,hD2⟩:∃D2,D2=decW 10 (valN 10 t2.data.toList) (p2-(t2.size:Int)):=⟨_,rfl⟩
  obtain⟨B,hB⟩:∃B,B=Rds x t2 p2:=⟨_,rfl⟩
  have hB':(FloatKind.f64.format.order D2 x==some .eq)=B:=by rw[hB,hD2];rfl
  have HBE:Hid (B=Rds x t2 p2):=hB
  rw[←hD2]
  clear hb8 b0 b1 a07 a17 hB hD2
  obtain⟨hRb,hRl,r0d,r1d,g0d,g1d⟩:=HRd.out
  have r0:w8.cell? ⟨w.heap.size,0,none⟩=some (.string ⟨#[]⟩):=(HB8.out.cell (p:=⟨w.heap.size,0,none⟩) hRl).trans r0d
  have r1:w8.cell? ⟨w.heap.size,1,none⟩=some (.int .i64 0):=(HB8.out.cell (p:=⟨w.heap.size,1,none⟩) hRl).trans r1d
  have g0:w8.frozen? ⟨w.heap.size,0,none⟩=false:=(HB8.out.frozen (p:=⟨w.heap.size,0,none⟩) hRl).trans g0d
  have g1:w8.frozen? ⟨w.heap.size,1,none⟩=false:=(HB8.out.frozen (p:=⟨w.heap.size,1,none⟩) hRl).trans g1d
  have hRl8:w.heap.size<w8.heap.size:=Nat.lt_of_lt_of_le hRl HB8.out.size
  have HRB:Hid (Below w.heap.size w w8):=hRb.trans (HB8.out.mono (by omega))
  have HROU:Hid _:=fun w=>l5rounds_any ds p1 (n:Int) (by omega) (HD.out ()).2.1 w
  clear r0d r1d g0d g1d hRb
  cases A
  ·cases B
   ·have hend:n<ds.size:=by
     apply Classical.byContradiction
     intro hge
     have hn:n=ds.size:=by omega
     have hpad:padB ds n=ds:=by
      unfold padB
      rw[if_neg hge,show n-ds.size=0 by omega]
      show ds++ByteArray.empty=ds
      simp
     have h1:=HAE.out
     rw[hpad]at h1
     unfold Rds at h1
     rw[exD_reads ds p1 q E HXQ.out.2.2 (HD.out ()),←HXQ.out.1,HXQ.out.2.1]at h1
     revert h1;decide
    have HN2:Hid (∀k,1≤k→k<n+1→Rds x (padB ds k) p1=false∧∀u r,cutV ds p1 k (decide (k<ds.size)) u r→Rds x u r=false):=by
     intro k h1 h2
     by_cases hk:k<n
     ·exact HN.out k h1 hk
     ·obtain rfl:k=n:=by omega
      refine⟨HAE.out.symm,fun u r hu=>?_⟩
      obtain⟨rfl,rfl⟩:=cutV_one _ _ _ _ _ _ _ _ hu HC2.out
      exact HBE.out.symm
    go_wp2
    exact⟨⟨n+1,rfl,by omega,by omega,HN2.out,HB8.out⟩,by simp only[intOf];omega⟩
   ·go_wp2
    refine bodyPost_ret (v:=.agg #[.string t2,.int .i64 p2]) (by simp[results,Tryz.results88,go_sem,r0,r1]) rfl ⟨ds,p1,t2,p2,HD.out (),hs,hp1,hp2,⟨n,t2,p2,hn1,hn2,HC2.out,HN.out,.inr ⟨HBE.out.symm,(fun h=>by rw[←HAE.out]at h;cases h),rfl,rfl⟩⟩,rfl,(by repeat (first|exact HRB.out|with_reducible refine Below.alloc ?_ (by simp<;>omega) _|with_reducible refine Below.setCell ?_ (by simp<;>omega) _))⟩
  ·cases B
   ·go_wp2
    refine bodyPost_ret (v:=.agg #[.string (padB ds n),.int .i64 p1]) (by simp[results,Tryz.results88,go_sem,r0,r1]) rfl ⟨ds,p1,padB ds n,p1,HD.out (),hs,hp1,hp2,⟨n,t2,p2,hn1,hn2,HC2.out,HN.out,.inl ⟨HAE.out.symm,(fun h=>by rw[←HBE.out]at h;cases h),rfl,rfl⟩⟩,rfl,(by repeat (first|exact HRB.out|with_reducible refine Below.alloc ?_ (by simp<;>omega) _|with_reducible refine Below.setCell ?_ (by simp<;>omega) _))⟩
   ·obtain⟨rb,hrb⟩:∃rb,rb=roundsB ds (n:Int):=⟨_,rfl⟩
    have HRBE:Hid (rb=roundsB ds (n:Int)):=hrb
    rw[←hrb]at HROU
    clear hrb
    cases rb
    ·go_wp2_with (go_at_call 94;refine(HROU.out _).mono ?_;rintro e w9 ⟨rfl,rfl⟩)
     have hba:=(Below.refl ((w8.setCell ⟨w.heap.size,0,none⟩ (.string (padB ds n))).setCell ⟨w.heap.size,1,none⟩ (.int .i64 p1)).heap.size ((w8.setCell ⟨w.heap.size,0,none⟩ (.string (padB ds n))).setCell ⟨w.heap.size,1,none⟩ (.int .i64 p1))).alloc (Nat.le_refl _) (.cells #[.string ds,.int .i64 p1] 157)
     have e0:=(hba.cell (p:=⟨w.heap.size,0,none⟩) (by simpa using hRl8)).trans (by simp[go_sem,r0]:_=some (.string (padB ds n)))
     have e1:=(hba.cell (p:=⟨w.heap.size,1,none⟩) (by simpa using hRl8)).trans (by simp[go_sem,r1]:_=some (.int .i64 p1))
     refine bodyPost_ret (v:=.agg #[.string (padB ds n),.int .i64 p1]) (by simp[results,Tryz.results88,go_sem,e0,e1]) rfl ⟨ds,p1,padB ds n,p1,HD.out (),hs,hp1,hp2,⟨n,t2,p2,hn1,hn2,HC2.out,HN.out,.inl ⟨HAE.out.symm,(fun _=>HRBE.out.symm),rfl,rfl⟩⟩,rfl,(by repeat (first|exact HRB.out|with_reducible refine Below.alloc ?_ (by simp<;>omega) _|with_reducible refine Below.setCell ?_ (by simp<;>omega) _))⟩
    ·go_wp2_with (go_at_call 94;refine(HROU.out _).mono ?_;rintro e w9 ⟨rfl,rfl⟩)
     have hba:=(Below.refl ((w8.setCell ⟨w.heap.size,0,none⟩ (.string t2)).setCell ⟨w.heap.size,1,none⟩ (.int .i64 p2)).heap.size ((w8.setCell ⟨w.heap.size,0,none⟩ (.string t2)).setCell ⟨w.heap.size,1,none⟩ (.int .i64 p2))).alloc (Nat.le_refl _) (.cells #[.string ds,.int .i64 p1] 157)
     have e0:=(hba.cell (p:=⟨w.heap.size,0,none⟩) (by simpa using hRl8)).trans (by simp[go_sem,r0]:_=some (.string t2))
     have e1:=(hba.cell (p:=⟨w.heap.size,1,none⟩) (by simpa using hRl8)).trans (by simp[go_sem,r1]:_=some (.int .i64 p2))
     refine bodyPost_ret (v:=.agg #[.string t2,.int .i64 p2]) (by simp[results,Tryz.results88,go_sem,e0,e1]) rfl ⟨ds,p1,t2,p2,HD.out (),hs,hp1,hp2,⟨n,t2,p2,hn1,hn2,HC2.out,HN.out,.inr ⟨HBE.out.symm,(fun _=>HRBE.out.symm),rfl,rfl⟩⟩,rfl,(by repeat (first|exact HRB.out|with_reducible refine Below.alloc ?_ (by simp<;>omega) _|with_reducible refine Below.setCell ?_ (by simp<;>omega) _))⟩
end Go.Proofs.YtenbfookfcmpoaaGreatDoor
namespace Go.Proofs.YtenbfookfcmpoaaGreatDoor
open Go.ChangeShapes Go.WideShapes Go.RowKit
set_option maxHeartbeats 1000000 in
set_option maxRecDepth 100000 in
theorem digitAt_any(ds:ByteArray)(x p:Int)(hs:ds.size≤100000)(hx:-100000≤x)(hx':x≤100000)(hp:-100000≤p)(hp':p≤100000)(w:World) :
  Calls Tryz.prog 208 #[.agg #[.string ds,.int .i64 x],.int .i64 p] w fun e w'=>e=.returned (.int .u8 ((dAt ds x p).toNat:Int))∧w'=w.alloc (.cells #[.string ds,.int .i64 x] 69):=by
 have hs':(ds.size:Int)≤100000:=by omega
 by_cases h1:x-p<0
 ·have e:dAt ds x p=48:=by unfold dAt;rw[dif_neg (by omega)]
  rw[e]
  have h1':decide (x-p<0)=true:=decide_eq_true h1
  go_enter Tryz.func208,Tryz.ntmps208
  go_wp2
  go_ret
  exact⟨rfl,rfl⟩
 ·have h1':decide (x-p<0)=false:=decide_eq_false h1
  obtain⟨k,hk⟩:=Int.eq_ofNat_of_zero_le (show 0≤x-p by omega)
  by_cases h2:k<ds.size
  ·have e:dAt ds x p=ds[k]:=by
    unfold dAt
    rw[dif_pos (by omega)]
    congr 1
    omega
   rw[e]
   have h2':decide ((ds.size:Int)≤(k:Int))=false:=decide_eq_false (by omega)
   go_enter Tryz.func208,Tryz.ntmps208
   go_wp2
   go_ret
   exact⟨rfl,rfl⟩
  ·have e:dAt ds x p=48:=by unfold dAt;rw[dif_neg (by omega)]
   rw[e]
   have h2':decide ((ds.size:Int)≤(k:Int))=true:=decide_eq_true (by omega)
   go_enter Tryz.func208,Tryz.ntmps208
   go_wp2
   go_ret
   exact⟨rfl,rfl⟩
end Go.Proofs.YtenbfookfcmpoaaGreatDoor
namespace Go.Proofs.YtenbfookfcmpoaaGreatDoor
open Go.ChangeShapes Go.WideShapes Go.RowKit Go.Shelf
attribute [local go_sem] Oper.semAt_some
set_option maxHeartbeats 1000000 in
set_option maxRecDepth 100000 in
theorem span_any(ds:ByteArray)(x fr lo:Int)(w:World) :
  Calls Tryz.prog 212 #[.agg #[.string ds,.int .i64 x],.int .i64 fr,.int .i64 lo] w fun e w'=>
   e=.returned (.func (.func 213) #[] #[.pointer (some ⟨w.heap.size+1,0,none⟩),.pointer (some ⟨w.heap.size+2,0,none⟩),.pointer (some ⟨w.heap.size,0,none⟩)])
   ∧ w'=((w.alloc (.cells #[.string ds,.int .i64 x] 69)).alloc (.cells #[.int .i64 fr] 3)).alloc (.cells #[.int .i64 lo] 3):=by
 go_enter Tryz.func212,Tryz.ntmps212
 go_wp2
 go_ret
 exact⟨rfl,rfl⟩
def spnE(ds:ByteArray)(x fr:Int)(i:Nat):Array Value:=#[.int .i64 (fr-(i:Int)),.int .u8 ((dAt ds x (fr-(i:Int))).toNat:Int)]
def SpnB(ds:ByteArray)(x fr lo:Int)(D:Nat)(W:World):Prop:=W.heap[D]? = some (.cells #[.string ds,.int .i64 x] 69 (0,0))∧W.heap[D+1]? = some (.cells #[.int .i64 fr] 3 (0,0))∧W.heap[D+2]? = some (.cells #[.int .i64 lo] 3 (0,0))
theorem SpnB.rnd{ds:ByteArray}{x fr lo:Int}{D b:Nat}{W W':World}(h:SpnB ds x fr lo D W)(hr:Rnd b W W')(hb:b<D):SpnB ds x fr lo D W':=
 ⟨hr.2.1 _ _ _ _ h.1 (by omega) (by decide),hr.2.1 _ _ _ _ h.2.1 (by omega) (by decide),hr.2.1 _ _ _ _ h.2.2 (by omega) (by decide)⟩
theorem SpnB.below{ds:ByteArray}{x fr lo:Int}{D:Nat}{W W':World}(h:SpnB ds x fr lo D W)(hr:Below W.heap.size W W'):SpnB ds x fr lo D W':=by
 have k:∀i o,W.heap[i]? = some o→W'.heap[i]? = some o:=fun i o hi=>by rw[hr.block i (Array.getElem?_eq_some_iff.1 hi).1];exact hi
 exact⟨k _ _ h.1,k _ _ h.2.1,k _ _ h.2.2⟩
def spnLeft(fr:Int)(n:Nat)(v:Value):Nat:=(n:Int).toNat-(fr-intOf v).toNat
set_option maxHeartbeats 2000000 in
set_option maxRecDepth 100000 in
theorem spn_gives(T:TypeId)(b D:Nat)(ds:ByteArray)(x fr lo:Int)(n:Nat)(hn:(n:Int)=max (fr-lo+1) 0)(hs:ds.size≤100000)(hx:-90000≤x)(hx':x≤90000)(hf:-90000≤fr)(hf':fr≤90000)(ht:-90000≤lo)(ht':lo≤90000)(w:World)(hB:SpnB ds x fr lo D w)(hbD:b<D) :
  Gives T b 213 #[.pointer (some ⟨D+1,0,none⟩),.pointer (some ⟨D+2,0,none⟩),.pointer (some ⟨D,0,none⟩)] (spnE ds x fr) n w:=by
 intro l J W hW hJ hY h0
 have HJ:Hid _:=hJ
 have HY:Hid _:=hY
 have HS:Hid (SpnB ds x fr lo D W):=by
  have k:∀i o,w.heap[i]? = some o→W.heap[i]? = some o:=fun i o hi=>by rw[hW.block i (Array.getElem?_eq_some_iff.1 hi).1];exact hi
  exact⟨k _ _ hB.1,k _ _ hB.2.1,k _ _ hB.2.2⟩
 have HD:Hid _:=fun p (h1:-100000≤p) (h2:p≤100000) (w:World)=>digitAt_any ds x p hs (by omega) (by omega) h1 h2 w
 clear hJ hY hB hW
 have hc1:W.cell? ⟨D+1,0,none⟩=some (.int .i64 fr):=by simp[World.cell?,HS.out.2.1]
 refine callsIn_of_wp Tryz.func213 rfl trivial ?_ rfl
 simp only[Tryz.ntmps213,List.size_toArray,List.length_cons,List.length_nil,Nat.reduceAdd,Nat.reduceSub,Array.replicate_succ,Array.replicate_zero,List.push_toArray,List.append_toArray,List.nil_append,List.cons_append]
 gi_wp2
 gi_loopw [5] (fun p wr=>∃i:Nat,p=.int .i64 (fr-(i:Int))∧i≤n∧Hid (J i wr)∧Hid (SpnB ds x fr lo D wr)) (fun p _=>spnLeft fr n p)
 case atStart=>exact⟨0,by simp,by omega,h0,HS.out⟩
 case round=>
  clear hc1 HS
  obtain⟨i,rfl,hi,HJi,HS⟩:=hrel
  have hc2:wr.cell? ⟨D+2,0,none⟩=some (.int .i64 lo):=by simp[World.cell?,HS.out.2.2]
  have hd0:wr.cell? ⟨D,0,none⟩=some (.string ds):=by simp[World.cell?,HS.out.1]
  have hd1:wr.cell? ⟨D,1,none⟩=some (.int .i64 x):=by simp[World.cell?,HS.out.1]
  by_cases hlt:i<n
  ·have hle:lo≤fr-(i:Int):=by omega
   gi_wp2
   refine⟨trivial,rfl,(callsIn_wide.2 (HD.out (fr-(i:Int)) (by omega) (by omega) wr)).mono ?_⟩
   rintro e w2 ⟨rfl,rfl⟩
   obtain⟨w2,hw2⟩:∃w2,wr.alloc (.cells #[.string ds,.int .i64 x] 69)=w2:=⟨_,rfl⟩
   have hb2:Below wr.heap.size wr w2:=by rw[←hw2];exact(Below.refl _ _).alloc (Nat.le_refl _) _
   have HJ2:Hid (J i w2):=HJ.out i wr w2 HJi.out (Own1.below hb2)
   have HS2:Hid (SpnB ds x fr lo D w2):=HS.out.below hb2
   rw[hw2]
   clear hw2 hb2 hc2 hd0 hd1
   obtain⟨fn,tmps,assign,body,hy,hR⟩:=HY.out i hlt w2 HJ2.out
   unfold spnE at hy
   gi_wp2
   refine⟨rfl,hR.mono ?_⟩
   rintro e W3 ⟨rfl,hJ3,hr3⟩
   have HJ3:Hid (J (i+1) W3):=hJ3
   have HS3:Hid (SpnB ds x fr lo D W3):=HS2.out.rnd hr3 hbD
   clear hJ3 hr3 hy hR
   gi_wp2
   go_roundw
   case rel=>exact⟨i+1,by congr 1;omega,by omega,HJ3.out,HS3.out⟩
   case measure=>
    show(n:Int).toNat-(fr-(fr-(i:Int)-1)).toNat<(n:Int).toNat-(fr-(fr-(i:Int))).toNat
    omega
  ·have hle:decide (lo≤fr-(i:Int))=false:=decide_eq_false (by omega)
   gi_wp2
   go_end0
   obtain rfl:i=n:=by omega
   exact⟨⟨_,rfl⟩,HJi.out⟩
attribute [local go_sem] Oper.semAt_some
def putC(ds:ByteArray)(x fr mark:Int)(i:Nat):List Value:=Lib.byteCells (putL (dAt ds x) fr mark i)
theorem putC_len(ds:ByteArray)(x fr mark:Int)(i:Nat):(putC ds x fr mark i).length≤2*i:=by
 unfold putC
 rw[Lib.byteCells_length]
 induction i with
 | zero=>simp[putL]
 | succ i ih=>
  rw[putL_succ,List.length_append]
  split<;>simp<;>omega
theorem putC_succ(ds:ByteArray)(x fr mark:Int)(i:Nat):putC ds x fr mark (i+1)=putC ds x fr mark i++(if fr-(i:Int)=mark then [.int .u8 46] else [])++[.int .u8 ((dAt ds x (fr-(i:Int))).toNat:Int)]:=by
 unfold putC
 rw[putL_succ,Lib.byteCells_append,List.append_assoc]
 split<;>rfl
theorem write_world(H:Nat)(w:World)(hH:w.heap.size=H)(o:Obj)(ds:ByteArray)(x fr lo:Int):∃W,W=((((w.alloc o).alloc (.cells #[.pointer none,.slice none 0 0] 95)).alloc (.cells #[.string ds,.int .i64 x] 69)).alloc (.cells #[.int .i64 fr] 3)).alloc (.cells #[.int .i64 lo] 3)
  ∧ W.heap.size=H+5∧Below H w W∧SpnB ds x fr lo (H+2) W∧Lib.IsBuilderF 95 5 (H+1) (H+1) [] W∧W.heap[H]? = some o:=by
 subst hH
 refine⟨_,rfl,by simp,((((((Below.refl _ w).alloc (Nat.le_refl _) _).alloc (by simp) _).alloc (by simp<;>omega) _).alloc (by simp<;>omega) _).alloc (by simp<;>omega) _),⟨?_,?_,?_⟩,?_,?_⟩
 ·rw[Below.heap_alloc _ _ _ (by simp),Below.heap_alloc _ _ _ (by simp)]
  have:=World.alloc_heap_new ((w.alloc o).alloc (.cells #[.pointer none,.slice none 0 0] 95)) (.cells #[.string ds,.int .i64 x] 69)
  rwa [World.size_alloc,World.size_alloc]at this
 ·rw[Below.heap_alloc _ _ _ (by simp)]
  have:=World.alloc_heap_new (((w.alloc o).alloc (.cells #[.pointer none,.slice none 0 0] 95)).alloc (.cells #[.string ds,.int .i64 x] 69)) (.cells #[.int .i64 fr] 3)
  rwa [World.size_alloc,World.size_alloc,World.size_alloc]at this
 ·have:=World.alloc_heap_new ((((w.alloc o).alloc (.cells #[.pointer none,.slice none 0 0] 95)).alloc (.cells #[.string ds,.int .i64 x] 69)).alloc (.cells #[.int .i64 fr] 3)) (.cells #[.int .i64 lo] 3)
  rwa [World.size_alloc,World.size_alloc,World.size_alloc,World.size_alloc]at this
 ·have h:=Lib.IsBuilderF.of (Lib.fresh_isBuilder 95 5 (w.alloc o))
  rw[World.size_alloc]at h
  exact((h.alloc _).alloc _).alloc _
 ·rw[Below.heap_alloc _ _ _ (by simp;omega),Below.heap_alloc _ _ _ (by simp;omega),Below.heap_alloc _ _ _ (by simp;omega),Below.heap_alloc _ _ _ (by simp)]
  exact World.alloc_heap_new w o
set_option maxHeartbeats 4000000 in
set_option maxRecDepth 100000 in
theorem plainWrite_any(ds:ByteArray)(x:Int)(k:Nat)(hs:ds.size≤2000)(hx:-2000≤x)(hx':x≤2000)(hk:k≤2000)(w:World) :
  Calls Tryz.prog 214 #[.agg #[.string ds,.int .i64 x,.int .i64 (k:Int)]] w fun e w'=>e=.returned (.string (fixB ds (x+1) k))∧Below w.heap.size w w':=by
 have HSP:Hid _:=fun fr lo (w:World)=>span_any ds x fr lo w
 obtain⟨fr,hfr⟩:∃fr,max x 0=fr:=⟨_,rfl⟩
 obtain⟨H,hH⟩:∃H,w.heap.size=H:=⟨_,rfl⟩
 obtain⟨n,hn⟩:∃n:Nat,n=fr.toNat+1+k:=⟨_,rfl⟩
 have HT:Hid (putL (dAt ds x) fr (-1) n=(fixB ds (x+1) k).data.toList):=by
  have h1:=plain_text ds x k
  have e1:fxP (x+1)-1=fr:=by unfold fxP;split<;>omega
  have e2:(fxP (x+1)).toNat+k=n:=by omega
  rw[e1,e2]at h1
  exact h1
 obtain⟨W5,hW5,hz5,hb5,hsp5,hbl5,_⟩:=write_world H w hH (.cells #[.string ds,.int .i64 x,.int .i64 (k:Int)] 139) ds x fr (-(k:Int))
 have HW5:Hid _:=hW5
 have HG:Hid (Gives 115 (H+1) 213 #[.pointer (some ⟨H+2+1,0,none⟩),.pointer (some ⟨H+2+2,0,none⟩),.pointer (some ⟨H+2,0,none⟩)] (spnE ds x fr) n W5):=
  spn_gives 115 (H+1) (H+2) ds x fr (-(k:Int)) n (by omega) (by omega) (by omega) (by omega) (by omega) (by omega) (by omega) (by omega) W5 hsp5 (by omega)
 have HB5:Hid _:=And.intro hb5 hbl5
 clear hW5 hb5 hsp5 hbl5
 refine(callsIn_wide (n:=0)).1 ?_
 refine callsIn_of_wp_marks Tryz.func214 rfl trivial ?_ rfl
 simp only[Tryz.ntmps214,List.size_toArray,List.length_cons,List.length_nil,Nat.reduceAdd,Nat.reduceSub,Array.replicate_succ,Array.replicate_zero,List.push_toArray,List.append_toArray,List.nil_append,List.cons_append]
 gi_wp2
 refine⟨trivial,rfl,(callsIn_wide.2 (HSP.out _ _ _)).mono ?_⟩
 rintro e w2 ⟨rfl,rfl⟩
 simp only[World.size_alloc,hH,←HW5.out]
 gi_wp2
 refine range_all (T:=115) (b:=H+1) (enc:=spnE ds x fr) (n:=n) rfl (enters_of Tryz.func213 (by kernel_rfl) rfl) HG.out (fun _=>rfl) (by omega)
  (fun i W=>Hid (Lib.IsBuilderF 95 5 (H+1) (H+1) (putC ds x fr (-1) i) W∧Below H w W)) ?hI ?h0 ?a1 ?assign ?body ?done
 case hI=>
  rintro i A A' h hc
  exact⟨isBuilder_chg h.out.1 hc (by decide) (by decide),below_chg h.out.2 hc (by omega) (by omega)⟩
 case h0=>exact⟨HB5.out.2,HB5.out.1⟩
 case assign=>
  intro l i W K hK
  gi_wp2
  exact hK
 case body=>
  intro l i hi W hI hsz
  have hl:=putC_len ds x fr (-1) i
  have hz:H+1≤W.heap.size:=by omega
  have HE:Hid (putC ds x fr (-1) (i+1)=putC ds x fr (-1) i++(if fr-(i:Int) = -1 then [.int .u8 46] else [])++[.int .u8 ((dAt ds x (fr-(i:Int))).toNat:Int)]):=putC_succ ds x fr (-1) i
  unfold spnE
  generalize dAt ds x (fr-(i:Int))=c at *
  generalize putC ds x fr (-1) i=P at *
  generalize putC ds x fr (-1) (i+1)=P' at *
  by_cases hm:fr-(i:Int) = -1
  ·rw[if_pos hm]at HE
   gi_wp2
   refine⟨trivial,rfl,(CallsIn.inRound l (callsIn_wide.2 (writeByte_any (H+1) (H+1) _ 46 W hI.out.1 (by omega) hz))).mono ?_⟩
   rintro e W1 ⟨rfl,h1,b1,k1⟩
   have HI1:Hid _:=And.intro (Or.inr h1:Lib.IsBuilderF 95 5 (H+1) (H+1) _ W1) (And.intro b1 k1)
   have hz1:H+1≤W1.heap.size:=Nat.le_trans hz b1.size
   clear h1 b1 k1
   gi_wp2
   refine⟨trivial,rfl,(CallsIn.inRound l (callsIn_wide.2 (writeByte_any (H+1) (H+1) _ (c.toNat:Int) W1 HI1.out.1 (by simp;omega) hz1))).mono ?_⟩
   rintro e W2 ⟨rfl,h2,b2,k2⟩
   have HI2:Hid (KeepsFrom W5.heap.size W W2∧Rnd (H+1) W W2∧Hid (Lib.IsBuilderF 95 5 (H+1) (H+1) P' W2∧Below H w W2)):=by
    have hk:=HI1.out.2.2.trans k2
    have hz2:W.heap.size≤W2.heap.size:=Nat.le_trans HI1.out.2.1.size b2.size
    refine⟨keeps_of_kept hk hz2 (builder_cells hI.out.1),rnd_of_kept hk (HI1.out.2.1.trans b2),?_,hI.out.2.trans ((HI1.out.2.1.trans b2).mono (by omega))⟩
    rw[HE.out]
    exact .inr h2
   clear h2 b2 k2
   gi_wp2
   exact HI2.out
  ·rw[if_neg hm,List.append_nil]at HE
   gi_wp2
   refine⟨trivial,rfl,(CallsIn.inRound l (callsIn_wide.2 (writeByte_any (H+1) (H+1) _ (c.toNat:Int) W hI.out.1 (by omega) hz))).mono ?_⟩
   rintro e W2 ⟨rfl,h2,b2,k2⟩
   have HI2:Hid (KeepsFrom W5.heap.size W W2∧Rnd (H+1) W W2∧Hid (Lib.IsBuilderF 95 5 (H+1) (H+1) P' W2∧Below H w W2)):=by
    refine⟨keeps_of_kept k2 b2.size (builder_cells hI.out.1),rnd_of_kept k2 b2,?_,hI.out.2.trans (b2.mono (by omega))⟩
    rw[HE.out]
    exact .inr h2
   clear h2 b2 k2
   gi_wp2
   exact HI2.out
 case done=>
  intro W hI hsz hK
  have HK:Hid _:=hK
  clear hK
  gi_wp2
  refine⟨trivial,rfl,(callsIn_wide.2 (bldString_any (H+1) (H+1) (putL (dAt ds x) fr (-1) n) W hI.out.1 (by omega))).mono ?_⟩
  rintro e W2 ⟨rfl,_,b2,k2⟩
  have hK2:W2.heap[W5.heap.size]? = some (.deferred (some [])):=k2 _ _ HK.out (by rw[hz5];intro e;have:=Option.some.inj e;omega) (fun _ _ e=>by cases e)
  rw[hz5]at hK2
  have HB:Hid (Below H w W2):=hI.out.2.trans (b2.mono (by omega))
  have HT2:Hid ((⟨(putL (dAt ds x) fr (-1) n).toArray⟩:ByteArray)=fixB ds (x+1) k):=bytes_ext _ _ HT.out
  clear b2 k2
  generalize putL (dAt ds x) fr (-1) n=L at *
  gi_wp2
  refine⟨by simp,.inl ⟨_,_,rfl,run_takeDeferred hK2,?_⟩⟩
  exact⟨_,results_tmp rfl _ _ _,by rw[HT2.out];rfl,by rw[hH];exact below_put HB.out _ (by omega)⟩
attribute [local go_sem] Oper.semAt_some
theorem power_world(H:Nat)(w:World)(hH:w.heap.size=H)(o:Obj)(ds:ByteArray)(x fr lo:Int):∃W,W=(((((w.alloc o).alloc (.cells #[.pointer none,.slice none 0 0] 95)).alloc (.cells #[.int .i64 x] 3)).alloc (.cells #[.string ds,.int .i64 x] 69)).alloc (.cells #[.int .i64 fr] 3)).alloc (.cells #[.int .i64 lo] 3)
  ∧ W.heap.size=H+6∧Below H w W∧SpnB ds x fr lo (H+3) W∧Lib.IsBuilderF 95 5 (H+1) (H+1) [] W∧W.heap[H+2]? = some (.cells #[.int .i64 x] 3 (0,0)):=by
 subst hH
 refine⟨_,rfl,by simp,(((((((Below.refl _ w).alloc (Nat.le_refl _) _).alloc (by simp) _).alloc (by simp<;>omega) _).alloc (by simp<;>omega) _).alloc (by simp<;>omega) _).alloc (by simp<;>omega) _),⟨?_,?_,?_⟩,?_,?_⟩
 ·rw[Below.heap_alloc _ _ _ (by simp),Below.heap_alloc _ _ _ (by simp)]
  have:=World.alloc_heap_new (((w.alloc o).alloc (.cells #[.pointer none,.slice none 0 0] 95)).alloc (.cells #[.int .i64 x] 3)) (.cells #[.string ds,.int .i64 x] 69)
  rwa [World.size_alloc,World.size_alloc,World.size_alloc]at this
 ·rw[Below.heap_alloc _ _ _ (by simp)]
  have:=World.alloc_heap_new ((((w.alloc o).alloc (.cells #[.pointer none,.slice none 0 0] 95)).alloc (.cells #[.int .i64 x] 3)).alloc (.cells #[.string ds,.int .i64 x] 69)) (.cells #[.int .i64 fr] 3)
  rwa [World.size_alloc,World.size_alloc,World.size_alloc,World.size_alloc]at this
 ·have:=World.alloc_heap_new (((((w.alloc o).alloc (.cells #[.pointer none,.slice none 0 0] 95)).alloc (.cells #[.int .i64 x] 3)).alloc (.cells #[.string ds,.int .i64 x] 69)).alloc (.cells #[.int .i64 fr] 3)) (.cells #[.int .i64 lo] 3)
  rwa [World.size_alloc,World.size_alloc,World.size_alloc,World.size_alloc,World.size_alloc]at this
 ·have h:=Lib.IsBuilderF.of (Lib.fresh_isBuilder 95 5 (w.alloc o))
  rw[World.size_alloc]at h
  exact(((h.alloc _).alloc _).alloc _).alloc _
 ·rw[Below.heap_alloc _ _ _ (by simp),Below.heap_alloc _ _ _ (by simp),Below.heap_alloc _ _ _ (by simp)]
  have:=World.alloc_heap_new ((w.alloc o).alloc (.cells #[.pointer none,.slice none 0 0] 95)) (.cells #[.int .i64 x] 3)
  rwa [World.size_alloc,World.size_alloc]at this
theorem cell_kept2{b k:Nat}{W W':World}{v:Value}{t:TypeId}(h:Lib.OthersKept 5 (some b) W W')(hk:W.heap[k]? = some (.cells #[v] t (0,0)))(hb:k≠b)(ht:t≠5):W'.cell? ⟨k,0,none⟩=some v:=by
 have:=h k _ hk (fun e=>hb (Option.some.inj e)) (fun c fz e=>by cases e;exact ht rfl)
 simp[World.cell?,this]
set_option maxHeartbeats 4000000 in
set_option maxRecDepth 100000 in
theorem powerWrite_any(ds:ByteArray)(x:Int)(n:Nat)(hs:ds.size≤2000)(hx:-2000≤x)(hx':x≤2000)(hn0:1≤n)(hn:n≤2000)(w:World)(ht:Tab w)(hw:1<w.heap.size) :
  Calls Tryz.prog 211 #[.agg #[.string ds,.int .i64 x,.int .i64 (n:Int)]] w fun e w'=>e=.returned (.string (sciB (padB ds n) (x+1)))∧Below w.heap.size w w':=by
 have HSP:Hid _:=fun fr lo (w:World)=>span_any ds x fr lo w
 have HTB:Hid (∀W,Below w.heap.size w W→Calls Tryz.prog 164 #[.int .i64 x,.int .i64 10] W fun e w'=>e=.returned (.string (intText x 10))∧Below W.heap.size W w'):=fun W hb=>
  implInt_any x 10 W (fun i hi=>by rw[hb.cell (p:=⟨1,i,none⟩) hw];exact ht i hi) (Nat.lt_of_lt_of_le hw hb.size)
 obtain⟨H,hH⟩:∃H,w.heap.size=H:=⟨_,rfl⟩
 have HT:Hid ((⟨(putL (dAt ds x) x (x-1) n).toArray⟩:ByteArray)++⟨#[101]⟩++intText x 10=sciB (padB ds n) (x+1)):=power_text ds x n hn0
 obtain⟨W5,hW5,hz5,hb5,hsp5,hbl5,hx5⟩:=power_world H w hH (.cells #[.string ds,.int .i64 x,.int .i64 (n:Int)] 137) ds x x (x+1-(n:Int))
 have HW5:Hid _:=hW5
 have HG:Hid (Gives 115 (H+1) 213 #[.pointer (some ⟨H+3+1,0,none⟩),.pointer (some ⟨H+3+2,0,none⟩),.pointer (some ⟨H+3,0,none⟩)] (spnE ds x x) n W5):=
  spn_gives 115 (H+1) (H+3) ds x x (x+1-(n:Int)) n (by omega) (by omega) (by omega) (by omega) (by omega) (by omega) (by omega) (by omega) W5 hsp5 (by omega)
 have HB5:Hid _:=And.intro hb5 (And.intro hbl5 hx5)
 clear hW5 hb5 hsp5 hbl5 hx5 ht
 refine(callsIn_wide (n:=0)).1 ?_
 refine callsIn_of_wp_marks Tryz.func211 rfl trivial ?_ rfl
 simp only[Tryz.ntmps211,List.size_toArray,List.length_cons,List.length_nil,Nat.reduceAdd,Nat.reduceSub,Array.replicate_succ,Array.replicate_zero,List.push_toArray,List.append_toArray,List.nil_append,List.cons_append]
 gi_wp2
 refine⟨trivial,rfl,(callsIn_wide.2 (HSP.out _ _ _)).mono ?_⟩
 rintro e w2 ⟨rfl,rfl⟩
 simp only[World.size_alloc,hH,←HW5.out]
 gi_wp2
 refine range_all (T:=115) (b:=H+1) (enc:=spnE ds x x) (n:=n) rfl (enters_of Tryz.func213 (by kernel_rfl) rfl) HG.out (fun _=>rfl) (by omega)
  (fun i W=>Hid (Lib.IsBuilderF 95 5 (H+1) (H+1) (putC ds x x (x-1) i) W∧Below H w W∧W.heap[H+2]? = some (.cells #[.int .i64 x] 3 (0,0)))) ?hI ?h0 ?a1 ?assign ?body ?done
 case hI=>
  rintro i A A' h hc
  exact⟨isBuilder_chg h.out.1 hc (by decide) (by decide),below_chg h.out.2.1 hc (by omega) (by omega),hc.2.2.2.2 _ _ h.out.2.2 (.inl (by omega))⟩
 case h0=>exact⟨HB5.out.2.1,HB5.out.1,HB5.out.2.2⟩
 case assign=>
  intro l i W K hK
  gi_wp2
  exact hK
 case body=>
  intro l i hi W hI hsz
  have hl:=putC_len ds x x (x-1) i
  have hz:H+1≤W.heap.size:=by omega
  have HE:Hid (putC ds x x (x-1) (i+1)=putC ds x x (x-1) i++(if x-(i:Int)=x-1 then [.int .u8 46] else [])++[.int .u8 ((dAt ds x (x-(i:Int))).toNat:Int)]):=putC_succ ds x x (x-1) i
  have hxc:W.cell? ⟨H+2,0,none⟩=some (.int .i64 x):=by simp[World.cell?,hI.out.2.2]
  unfold spnE
  generalize dAt ds x (x-(i:Int))=c at *
  generalize putC ds x x (x-1) i=P at *
  generalize putC ds x x (x-1) (i+1)=P' at *
  by_cases hm:x-(i:Int)=x-1
  ·rw[if_pos hm]at HE
   gi_wp2
   refine⟨trivial,rfl,(CallsIn.inRound l (callsIn_wide.2 (writeByte_any (H+1) (H+1) _ 46 W hI.out.1 (by omega) hz))).mono ?_⟩
   rintro e W1 ⟨rfl,h1,b1,k1⟩
   have HI1:Hid _:=And.intro (Or.inr h1:Lib.IsBuilderF 95 5 (H+1) (H+1) _ W1) (And.intro b1 k1)
   have hz1:H+1≤W1.heap.size:=Nat.le_trans hz b1.size
   clear h1 b1 k1 hxc
   gi_wp2
   refine⟨trivial,rfl,(CallsIn.inRound l (callsIn_wide.2 (writeByte_any (H+1) (H+1) _ (c.toNat:Int) W1 HI1.out.1 (by simp;omega) hz1))).mono ?_⟩
   rintro e W2 ⟨rfl,h2,b2,k2⟩
   have HI2:Hid (KeepsFrom W5.heap.size W W2∧Rnd (H+1) W W2∧Hid (Lib.IsBuilderF 95 5 (H+1) (H+1) P' W2∧Below H w W2∧W2.heap[H+2]? = some (.cells #[.int .i64 x] 3 (0,0)))):=by
    have hk:=HI1.out.2.2.trans k2
    have hz2:W.heap.size≤W2.heap.size:=Nat.le_trans HI1.out.2.1.size b2.size
    refine⟨keeps_of_kept hk hz2 (builder_cells hI.out.1),rnd_of_kept hk (HI1.out.2.1.trans b2),?_,hI.out.2.1.trans ((HI1.out.2.1.trans b2).mono (by omega)),(rnd_of_kept hk (HI1.out.2.1.trans b2)).2.1 _ _ _ _ hI.out.2.2 (by omega) (by decide)⟩
    rw[HE.out]
    exact .inr h2
   clear h2 b2 k2
   gi_wp2
   exact HI2.out
  ·rw[if_neg hm,List.append_nil]at HE
   gi_wp2
   refine⟨trivial,rfl,(CallsIn.inRound l (callsIn_wide.2 (writeByte_any (H+1) (H+1) _ (c.toNat:Int) W hI.out.1 (by omega) hz))).mono ?_⟩
   rintro e W2 ⟨rfl,h2,b2,k2⟩
   have HI2:Hid (KeepsFrom W5.heap.size W W2∧Rnd (H+1) W W2∧Hid (Lib.IsBuilderF 95 5 (H+1) (H+1) P' W2∧Below H w W2∧W2.heap[H+2]? = some (.cells #[.int .i64 x] 3 (0,0)))):=by
    refine⟨keeps_of_kept k2 b2.size (builder_cells hI.out.1),rnd_of_kept k2 b2,?_,hI.out.2.1.trans (b2.mono (by omega)),(rnd_of_kept k2 b2).2.1 _ _ _ _ hI.out.2.2 (by omega) (by decide)⟩
    rw[HE.out]
    exact .inr h2
   clear h2 b2 k2 hxc
   gi_wp2
   exact HI2.out
 case done=>
  intro W hI hsz hK
  have HK:Hid _:=hK
  have hxc:W.cell? ⟨H+2,0,none⟩=some (.int .i64 x):=by simp[World.cell?,hI.out.2.2]
  clear hK
  have HSt:Hid (∀W1:World,W1.heap=W.heap→Below H w W1→Calls Tryz.prog 42 #[.pointer (some ⟨H+1,0,none⟩)] W1 fun e w'=>e=.returned (.string ⟨(putL (dAt ds x) x (x-1) n).toArray⟩)∧(w'.cell? ⟨H+2,0,none⟩=some (.int .i64 x)∧Below H w w'∧w'.heap[H+6]? = some (.deferred (some [])))):=fun W1 h1 hb1=>by
   have hB:Lib.IsBuilderF 95 5 (H+1) (H+1) (putC ds x x (x-1) n) W1:=by
    have:=hI.out.1
    unfold Lib.IsBuilderF Lib.BuilderAtF World.ownsRowF at this ⊢
    rw[h1]
    exact this
   refine(bldString_any (H+1) (H+1) (putL (dAt ds x) x (x-1) n) W1 hB (by rw[h1];omega)).mono ?_
   rintro e W2 ⟨rfl,_,b2,k2⟩
   refine⟨rfl,cell_kept2 k2 (by rw[h1];exact hI.out.2.2) (by omega) (by decide),hb1.trans (b2.mono (by omega)),k2 _ _ (by rw[h1,←hz5];exact HK.out) (by intro e;have:=Option.some.inj e;omega) (fun _ _ e=>by cases e)⟩
  have hLs:(⟨(putL (dAt ds x) x (x-1) n).toArray⟩:ByteArray).size≤4000:=by
   have h1:=putC_len ds x x (x-1) n
   unfold putC at h1
   rw[Lib.byteCells_length]at h1
   rw[←data_len]
   show(putL (dAt ds x) x (x-1) n).length≤4000
   omega
  have hXs:(intText x 10).size≤70:=int_size x
  generalize (⟨(putL (dAt ds x) x (x-1) n).toArray⟩:ByteArray)=L at *
  generalize intText x 10=X at *
  generalize putC ds x x (x-1) n=P at *
  have hl1:(L++(⟨#[101]⟩:ByteArray)).size=L.size+1:=append_size _ _
  gi_wp2
  refine wpIn_normal ?_
  gi_region_with (first
   | (refine⟨trivial,rfl,?_⟩;gi_at_call 42;refine(callsIn_wide.2 (HSt.out _ (by rfl) (by repeat (first|exact hI.out.2.1|with_reducible refine Below.drew ?_)))).mono ?_;rintro e W2 ⟨rfl,hxc2,b2,hk2⟩;have HB2:Hid (Below H w W2):=b2;have HK2:Hid (W2.heap[H+6]? = some (.deferred (some []))):=hk2;clear b2 hk2)
   | (refine⟨trivial,rfl,?_⟩;gi_at_call 164;refine(callsIn_wide.2 (HTB.out _ (by rw[hH];repeat (first|exact HB2.out|with_reducible refine Below.drew ?_)))).mono ?_;rintro e W3 ⟨rfl,b3⟩))
  all_goals simp only[normalOnly]
  all_goals
   have HF:Hid (Below w.heap.size w (W3.putObj (H+6) (.deferred none))):=by rw[hH];exact below_put ((show Below H w W2 from HB2.out).trans (b3.mono (by have:=HB2.out.size;rw[hH]at this;exact this))) _ (by omega)
   have hK3:W3.heap[H+6]? = some (.deferred (some [])):=by rw[b3.block _ (Array.getElem?_eq_some_iff.1 HK2.out).1];exact HK2.out
   clear b3
   gi_wp2
   refine⟨by simp,.inl ⟨_,_,rfl,run_takeDeferred hK3,?_⟩⟩
   exact⟨_,results_tmp rfl _ _ _,by rw[←HT.out];rfl,HF.out⟩
end Go.Proofs.YtenbfookfcmpoaaGreatDoor
