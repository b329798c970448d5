import Derived.Test.YtenbfookfcmpoaaGreatDoorF13
import Derived.Test.YtenbfookfcmpoaaGreatDoorF09
import Derived.Deep.CutRange
namespace Go.Proofs.YtenbfookfcmpoaaGreatDoor
open Go.ChangeShapes Go.WideShapes Go.RowKit
theorem or_odd(q:Nat)(h:q<18446744073709551616):bits .or .u64 (q:Int) 1=((oddOf q:Nat):Int):=by
 have e:=u64_or_nat q 1 h (by omega)
 rw[show((1:Nat):Int)=1 from rfl]at e
 rw[e]
 congr 1
 unfold oddOf
 have h1:∀x:Nat,2 ^ 1*x ||| 1=2 ^ 1*x+1:=fun x=>(Nat.two_pow_add_eq_or_of_lt (show 1<2 ^ 1 by omega) x).symm
 rcases Nat.mod_two_eq_zero_or_one q with h0|h0
 ·have e2:q=2 ^ 1*(q / 2):=by omega
  conv=>lhs;rw[e2]
  rw[h1];omega
 ·have e2:q=2 ^ 1*(q / 2)+1:=by omega
  conv=>lhs;rw[e2,←h1,Nat.or_assoc,Nat.or_self]
  rw[h1];omega
theorem Lg.below{w w':World}{B N:Nat}{R:List Value}{t:TypeId}(h:Lg w B N R t)(hm:Below w.heap.size w w'):Lg w' B N R t:=by
 obtain⟨c,h1,h2,h3⟩:=h
 exact⟨c,h1,h2,(hm.block B h3.lt).trans h3⟩
theorem ord_lt(N M:Nat)(h:N<M):ordN N M = -1:=by unfold ordN;rw[if_pos h]
theorem bitLen_lt(N:Nat):N<2 ^ bitLen N:=(bitLen_spec N).1
theorem room{c A a L:Nat}(hA:cntOk c A)(hL:bitLen A+a≤L)(h:L≤4799):c+a / 32+1≤151:=by
 rcases Nat.eq_zero_or_pos c with rfl|hc
 ·omega
 ·have h1:=hA.2 hc
  have h2:=bitLen_lt A
  rw[be_two]at h1
  have h3:32*(c-1)<bitLen A:=(Nat.pow_lt_pow_iff_right (by omega)).1 (Nat.lt_of_le_of_lt h1 h2)
  omega
theorem room_one{c T L:Nat}(hT:cntOk c T)(h:T<2 ^ L)(hL:L≤4800):c+1 / 32+1≤151:=by
 obtain⟨n,hn⟩:∃n:Nat,n=150:=⟨_,rfl⟩
 have h1:T<be ^ n:=by
  rw[be_two];exact Nat.lt_of_lt_of_le h (Nat.pow_le_pow_right (by omega) (by omega))
 have:=cnt_le hT h1
 omega
set_option maxHeartbeats 4000000 in
set_option maxRecDepth 100000 in
theorem quo_any(A C c k la lb a b L:Nat)(w:World)(hA:cntOk c A)(hc:c≤151)(hC:cntOk k C)(hk:k≤151)(hC0:0<C)(h1:bitLen A=la)(h2:bitLen C=lb)(ha:a=lb-la)(hb:b=la-lb)(hL:L=max la lb)(hLm:L≤4798) :
  Calls Tryz.prog 163 #[lgV c A,lgV k C] w fun e w'=>∃q t,Lng (A*2 ^ a) (C*2 ^ b) 64 q t∧e=.returned (.tuple #[.int .u64 (stk q t:Int),.int .i64 ((la:Int)-lb-63)])∧Below w.heap.size w w':=by
 have HS1:Hid (A*2 ^ a<2*(C*2 ^ b)):=by
  show A*2 ^ a<2*(C*2 ^ b)
  have e1:=bitLen_lt A
  have e2:=(bitLen_spec C).2 (by omega)
  rw[h1]at e1
  rw[h2]at e2
  have hp:1≤lb:=by
   rw[←h2];unfold bitLen;rw[if_neg (by omega)];omega
  have f1:A*2 ^ a<2 ^ la*2 ^ a:=Nat.mul_lt_mul_of_pos_right e1 (Nat.two_pow_pos a)
  have f2:2 ^ (lb-1)*2 ^ b≤C*2 ^ b:=Nat.mul_le_mul_right _ e2
  have f3:2*(2 ^ (lb-1)*2 ^ b)=2 ^ lb*2 ^ b:=by rw[←Nat.mul_assoc,Nat.mul_comm 2,←Nat.pow_succ,show(lb-1).succ=lb by omega]
  have f4:2 ^ la*2 ^ a=2 ^ lb*2 ^ b:=by rw[←Nat.pow_add,←Nat.pow_add];congr 1;omega
  omega
 have HS2:Hid (C*2 ^ b<2 ^ L):=by
  show C*2 ^ b<2 ^ L
  have e1:=bitLen_lt C
  rw[h2]at e1
  have f1:C*2 ^ b<2 ^ lb*2 ^ b:=Nat.mul_lt_mul_of_pos_right e1 (Nat.two_pow_pos b)
  rw[←Nat.pow_add]at f1
  have f2:2 ^ (lb+b)=2 ^ L:=by congr 1;omega
  omega
 have HRA:Hid (c+a / 32+1≤151):=room (L:=L) hA (by omega) (by omega)
 have HRC:Hid (k+b / 32+1≤151):=room (L:=L) hC (by omega) (by omega)
 have HB0:Hid (0<C*2 ^ b):=Nat.mul_pos hC0 (Nat.two_pow_pos b)
 have HA:Hid (cntOk c A):=hA
 have HC:Hid (cntOk k C):=hC
 obtain⟨X,hX⟩:∃X,(lgL c (dg A)).toArray=X:=⟨_,rfl⟩
 obtain⟨Y,hY⟩:∃Y,(lgL k (dg C)).toArray=Y:=⟨_,rfl⟩
 obtain⟨H,hH⟩:∃H,w.heap.size=H:=⟨_,rfl⟩
 have HH:Hid (w.heap.size=H):=hH
 obtain⟨W,hW⟩:∃W,(w.alloc (.cells X 115)).alloc (.cells Y 115)=W:=⟨_,rfl⟩
 have HL1:Hid (LB W H c (dg A) [] 115):=by
  have h:=(LB.new w c (dg A) [] 115).alloc (.cells Y 115)
  rw[←blk_nil,hX,hW,hH]at h;exact h
 have HL2:Hid (LB W (H+1) k (dg C) [] 115):=by
  have h:=LB.new (w.alloc (.cells X 115)) k (dg C) [] 115
  rw[←blk_nil,hY,hW,show(w.alloc (.cells X 115)).heap.size=H+1 by simp[hH]]at h;exact h
 have HBW:Hid (Below w.heap.size w W):=by rw[←hW];exact((Below.refl _ w).alloc (Nat.le_refl _) _).alloc (by simp) _
 have HN1:Hid _:=fun(_:Unit)=>length_any H A c [] 115 W hc hA HL1.out
 have HN2:Hid (∀n,Calls Tryz.prog 178 #[.pointer (some ⟨H+1,0,none⟩)] (W.drewN n) fun e w'=>e=.returned (.int .i64 (lb:Int))∧∃m,w'=(W.drewN n).drewN m):=fun n=>by
  have h:=length_any (H+1) C k [] 115 (W.drewN n) hk hC (HL2.out.drewN n)
  rw[h2]at h;exact h
 rw[h1]at HN1
 unfold lgV
 rw[hX,hY]
 clear hX hY hA hC h1 h2 hC0
 go_enter Tryz.func163,Tryz.ntmps163
 go_wp2_with fail
 refine(HN1.out ()).mono ?_
 rintro e w1 ⟨rfl,n1,rfl⟩
 clear hW HN1
 go_wp2_with fail
 refine(HN2.out _).mono ?_
 rintro e w2 ⟨rfl,n2,rfl⟩
 clear HN2
 have HD1:Hid (LB ((W.drewN n1).drewN n2) H c (dg A) [] 115):=HL1.out
 have HD2:Hid (LB ((W.drewN n1).drewN n2) (H+1) k (dg C) [] 115):=HL2.out
 have HDB:Hid (Below w.heap.size w ((W.drewN n1).drewN n2)):=below_drewN (below_drewN HBW.out _) _
 generalize (W.drewN n1).drewN n2=W2 at *
 clear HL1 HL2 HBW
 have HSA:Hid _:=fun(_:Unit)=>shift_any H A a [] 115 W2 c HA.out HD1.out HRA.out
 have HSC:Hid (∀w',LB w' (H+1) k (dg C) [] 115→Calls Tryz.prog 64 #[.pointer (some ⟨H+1,0,none⟩),.int .i64 (b:Int)] w' fun e w''=>e=.returned (.tuple #[])∧Mod (H+1) w' w''∧Lg w'' (H+1) (C*2 ^ b) [] 115):=fun w' h=>shift_any (H+1) C b [] 115 w' k HC.out h HRC.out
 obtain⟨E,hE⟩:∃E:Int,(la:Int)-(lb:Int)=E:=⟨_,rfl⟩
 have HE:Hid ((la:Int)-(lb:Int)=E):=hE
 have hE1:-5000≤E∧E≤5000:=by omega
 have hab:(E<0∧-E=(a:Int)∧(b:Int)=0)∨(0<E∧E=(b:Int)∧(a:Int)=0)∨(E=0∧(a:Int)=0∧(b:Int)=0):=by omega
 obtain⟨hE2,hE3⟩:=hE1
 have hla:(la:Int)≤5000:=by omega
 have hlb:(lb:Int)≤5000:=by omega
 have HLm:Hid (L≤4798):=hLm
 clear hLm hL ha hb HRA HRC
 go_upto_region 2 with fail
 go_cut [12] from 9 to 12 (fun _ wc=>Hid (Lg wc H (A*2 ^ a) [] 115)∧Hid (LB wc (H+1) k (dg C) [] 115)∧Hid (Below w.heap.size w wc))
 case first=>
  rcases hab with⟨x1,x2,x3⟩|⟨x1,x2,x3⟩|⟨x1,x2,x3⟩
  ·clear x3
   go_wp2_with fail
   refine(HSA.out ()).mono ?_
   rintro e w3 ⟨rfl,hm3,hg3⟩
   have HB3:Hid (LB w3 (H+1) k (dg C) [] 115):=HD2.out.other hm3 (by omega)
   have HM3:Hid (Below w.heap.size w w3):=HDB.out.trans (hm3.below (by rw[HH.out];exact Nat.le_refl _) HDB.out.size)
   have HG3:Hid (Lg w3 H (A*2 ^ a) [] 115):=hg3
   clear hm3 hg3
   go_wp2
   go_meet
   case rel=>exact⟨HG3.out,HB3.out,HM3.out⟩
  ·rw[x3]at HSA
   clear x2 x3
   go_wp2_with fail
   refine(HSA.out ()).mono ?_
   rintro e w3 ⟨rfl,hm3,hg3⟩
   have HB3:Hid (LB w3 (H+1) k (dg C) [] 115):=HD2.out.other hm3 (by omega)
   have HM3:Hid (Below w.heap.size w w3):=HDB.out.trans (hm3.below (by rw[HH.out];exact Nat.le_refl _) HDB.out.size)
   have HG3:Hid (Lg w3 H (A*2 ^ a) [] 115):=hg3
   clear hm3 hg3
   go_wp2
   go_meet
   case rel=>exact⟨HG3.out,HB3.out,HM3.out⟩
  ·rw[x2]at HSA
   clear x2 x3
   subst x1
   go_wp2_with fail
   refine(HSA.out ()).mono ?_
   rintro e w3 ⟨rfl,hm3,hg3⟩
   have HB3:Hid (LB w3 (H+1) k (dg C) [] 115):=HD2.out.other hm3 (by omega)
   have HM3:Hid (Below w.heap.size w w3):=HDB.out.trans (hm3.below (by rw[HH.out];exact Nat.le_refl _) HDB.out.size)
   have HG3:Hid (Lg w3 H (A*2 ^ a) [] 115):=hg3
   clear hm3 hg3
   go_wp2
   go_meet
   case rel=>exact⟨HG3.out,HB3.out,HM3.out⟩
 case rest=>
  obtain⟨HG3,HB3,HM3⟩:=hcut
  clear HSA HD1 HD2 HDB
  go_upto_region 3 with fail
  go_cut [15] from 13 to 15 (fun _ wc=>Hid (Lg wc H (A*2 ^ a) [] 115)∧Hid (Lg wc (H+1) (C*2 ^ b) [] 115)∧Hid (Below w.heap.size w wc))
  case first=>
   rcases hab with⟨x1,x2,x3⟩|⟨x1,x2,x3⟩|⟨x1,x2,x3⟩
   ·rw[x3]at HSC
    clear x2 x3
    go_wp2_with fail
    refine(HSC.out _ HB3.out).mono ?_
    rintro e w4 ⟨rfl,hm4,hg4⟩
    have HG1:Hid (Lg w4 H (A*2 ^ a) [] 115):=HG3.out.other hm4 (by omega)
    have HG2:Hid (Lg w4 (H+1) (C*2 ^ b) [] 115):=hg4
    have HDW:Hid (Below w.heap.size w w4):=HM3.out.trans (hm4.below (by rw[HH.out];omega) HM3.out.size)
    clear hm4 hg4
    go_wp2
    go_meet
    case rel=>exact⟨HG1.out,HG2.out,HDW.out⟩
   ·rw[←x2]at HSC
    clear x2 x3
    go_wp2_with fail
    refine(HSC.out _ HB3.out).mono ?_
    rintro e w4 ⟨rfl,hm4,hg4⟩
    have HG1:Hid (Lg w4 H (A*2 ^ a) [] 115):=HG3.out.other hm4 (by omega)
    have HG2:Hid (Lg w4 (H+1) (C*2 ^ b) [] 115):=hg4
    have HDW:Hid (Below w.heap.size w w4):=HM3.out.trans (hm4.below (by rw[HH.out];omega) HM3.out.size)
    clear hm4 hg4
    go_wp2
    go_meet
    case rel=>exact⟨HG1.out,HG2.out,HDW.out⟩
   ·rw[x3]at HSC
    clear x2 x3
    subst x1
    go_wp2_with fail
    refine(HSC.out _ HB3.out).mono ?_
    rintro e w4 ⟨rfl,hm4,hg4⟩
    have HG1:Hid (Lg w4 H (A*2 ^ a) [] 115):=HG3.out.other hm4 (by omega)
    have HG2:Hid (Lg w4 (H+1) (C*2 ^ b) [] 115):=hg4
    have HDW:Hid (Below w.heap.size w w4):=HM3.out.trans (hm4.below (by rw[HH.out];omega) HM3.out.size)
    clear hm4 hg4
    go_wp2
    go_meet
    case rel=>exact⟨HG1.out,HG2.out,HDW.out⟩
  case rest=>
   obtain⟨HG1,HG2,HDW⟩:=hcut
   clear HSC HG3 HB3 HM3 hab hE
   go_wp2
   go_loopw [4,16] (fun sv iv wl=>∃ (i q T:Nat),iv=.int .i64 (i:Int)∧sv=.int .u64 (q:Int)∧i≤64∧Hid (Lng (A*2 ^ a) (C*2 ^ b) i q T)∧Hid (Lg wl H T [] 115)∧Hid (Lg wl (H+1) (C*2 ^ b) [] 115)∧Hid (Below w.heap.size w wl)) (fun _ iv _=>64-(intOf iv).toNat)
   case atStart=>exact⟨0,0,A*2 ^ a,rfl,rfl,by omega,lng_start _ _ HS1.out,HG1.out,HG2.out,HDW.out⟩
   case round=>
    clear HG1 HG2 HDW
    obtain⟨i,q,T,rfl,rfl,hi,HL,HG1,HG2,HDW⟩:=hrel
    by_cases hi6:i<64
    ·have hi6':(i:Int)<64:=by omega
     have hq:(q:Int)<9223372036854775808:=by
      have h1:=HL.out.2.2
      have h2:(2:Nat) ^ i≤2 ^ 63:=Nat.pow_le_pow_right (by omega) (by omega)
      have h3:(2:Nat) ^ 63=9223372036854775808:=rfl
      omega
     have HO:Hid (bits .or .u64 ((q:Int)*2) 1=((2*q+1:Nat):Int)):=by
      have h:=or_odd (2*q) (by omega)
      rw[odd_twice,show((2*q:Nat):Int)=(q:Int)*2 by omega]at h
      exact h
     have HTL:Hid (T<2 ^ (L+1)):=by
      have h1:=HL.out.2.1
      have h2:=HS2.out
      show T<2 ^ (L+1)
      rw[Nat.pow_succ];omega
     obtain⟨c1,hc1,hk1,hl1⟩:=HG1.out
     obtain⟨c2,hc2,hk2,hl2⟩:=HG2.out
     have HO1:Hid _:=fun(_:Unit)=>order_any H T (C*2 ^ b) c1 c2 [] 115 wr hc1 hc2 hk1 hk2 hl1
     have HL2:Hid (LB wr (H+1) c2 (dg (C*2 ^ b)) [] 115):=hl2
     have HK1:Hid (cntOk c1 T):=hk1
     have HL1:Hid (LB wr H c1 (dg T) [] 115):=hl1
     clear hk1 hl1 hk2 hl2
     go_wp2_with fail
     refine HL2.out.wpLoad _ rfl rfl ?_
     go_at_K
     go_wp2_with fail
     refine(HO1.out ()).mono ?_
     rintro e w5 ⟨rfl,hb5⟩
     have HD1:Hid (LB w5 H c1 (dg T) [] 115):=(hb5.block H HL1.out.lt).trans HL1.out
     have HD2:Hid (LB w5 (H+1) c2 (dg (C*2 ^ b)) [] 115):=(hb5.block (H+1) HL2.out.lt).trans HL2.out
     have HE2:Hid (Lg w5 (H+1) (C*2 ^ b) [] 115):=HG2.out.below hb5
     have HB5:Hid (Below w.heap.size w w5):=HDW.out.trans (hb5.mono HDW.out.size)
     clear hb5 HO1 HL1 HL2
     by_cases hTB:T<C*2 ^ b
     ·have HSH:Hid _:=fun(_:Unit)=>shift_any H T 1 [] 115 w5 c1 HK1.out HD1.out (room_one HK1.out HTL.out (by have:=HLm.out;omega))
      rw[ord_lt _ _ hTB]
      have HLN:Hid _:=fun(_:Unit)=>lng_no HL.out hTB
      clear hTB
      go_wp2_with fail
      refine(HSH.out ()).mono ?_
      rintro e w6 ⟨rfl,hm6,hg6⟩
      have HG6:Hid (Lg w6 H (2*T) [] 115):=by rw[Nat.pow_one,Nat.mul_comm]at hg6;exact hg6
      have HH6:Hid (Lg w6 (H+1) (C*2 ^ b) [] 115):=HE2.out.other hm6 (by omega)
      have HB6:Hid (Below w.heap.size w w6):=HB5.out.trans (hm6.below (by rw[HH.out];exact Nat.le_refl _) HB5.out.size)
      clear hm6 hg6
      go_wp2
      refine⟨⟨i+1,2*q,2*T,rfl,by rw[show((2*q:Nat):Int)=(q:Int)*2 by omega],by omega,HLN.out (),HG6.out,HH6.out,HB6.out⟩,?_⟩
      show 64-((i:Int)+1).toNat<64-(i:Int).toNat;omega
     ·have HSU:Hid _:=fun(_:Unit)=>sub_any H T (C*2 ^ b) c1 c2 [] 115 w5 hc1 (by omega) HK1.out HD1.out
      have HLN:Hid _:=fun(_:Unit)=>lng_yes HL.out (show C*2 ^ b≤T by omega)
      have hy:ordN T (C*2 ^ b)=0∨ordN T (C*2 ^ b)=1:=by
       unfold ordN;rw[if_neg hTB];split<;>simp
      generalize ordN T (C*2 ^ b)=y at *
      clear hTB
      rcases hy with rfl|rfl
      all_goals
       go_wp2_with fail
       refine HD2.out.wpLoad _ rfl rfl ?_
       go_at_K
       go_wp2_with fail
       refine(HSU.out ()).mono ?_
       rintro e w6 ⟨rfl,hm6,hg6⟩
       obtain⟨c3,hc3,hk3,hl3⟩:=hg6
       have HSH:Hid _:=fun(_:Unit)=>shift_any H (T-C*2 ^ b) 1 [] 115 w6 c3 hk3 hl3 (room_one hk3 (Nat.lt_of_le_of_lt (Nat.sub_le _ _) HTL.out) (by have:=HLm.out;omega))
       have HH6:Hid (Lg w6 (H+1) (C*2 ^ b) [] 115):=HE2.out.other hm6 (by omega)
       have HB6:Hid (Below w.heap.size w w6):=HB5.out.trans (hm6.below (by rw[HH.out];exact Nat.le_refl _) HB5.out.size)
       clear hm6 hk3 hl3 HSU
       obtain⟨q2,hq2⟩:∃q2:Nat,2*q+1=q2:=⟨_,rfl⟩
       have ho1:=HO.out
       rw[hq2]at ho1
       have HQ2:Hid (2*q+1=q2):=hq2
       clear hq2 HO
       go_wp2_with fail
       refine(HSH.out ()).mono ?_
       rintro e w7 ⟨rfl,hm7,hg7⟩
       have HG7:Hid (Lg w7 H (2*(T-C*2 ^ b)) [] 115):=by rw[Nat.pow_one,Nat.mul_comm]at hg7;exact hg7
       have HH7:Hid (Lg w7 (H+1) (C*2 ^ b) [] 115):=HH6.out.other hm7 (by omega)
       have HB7:Hid (Below w.heap.size w w7):=HB6.out.trans (hm7.below (by rw[HH.out];exact Nat.le_refl _) HB6.out.size)
       clear hm7 hg7
       go_wp2
       refine⟨⟨i+1,q2,2*(T-C*2 ^ b),rfl,rfl,by omega,by rw[←HQ2.out];exact HLN.out (),HG7.out,HH7.out,HB7.out⟩,?_⟩
       ·show 64-((i:Int)+1).toNat<64-(i:Int).toNat;omega
    ·obtain rfl:i=64:=by omega
     obtain⟨c1,hc1,hk1,hl1⟩:=HG1.out
     have hcnt:=hl1.cnt
     have HQ:Hid (bits .or .u64 (q:Int) 1=((oddOf q:Nat):Int)):=or_odd q (by have h1:=HL.out.2.2;have h3:(2:Nat) ^ 64=18446744073709551616:=rfl;omega)
     have HCP:Hid (0<c1↔0<T):=cnt_pos hk1
     clear hk1 hl1
     by_cases hz:0<c1
     ·have hz':(0:Int)<(c1:Int):=by omega
      have hq1:=HQ.out
      go_wp2
      go_ret2
      refine⟨q,T,HL.out,?_,HDW.out⟩
      have hst:stk q T=oddOf q:=by unfold stk;rw[if_neg (by have:=HCP.out.1 hz;omega)]
      have hE9:=HE.out
      rw[hst]
      show Ending.returned (.tuple #[.int .u64 _,.int .i64 _])=_
      have e9:(la:Int)-lb-63=E-63:=by rw[hE9]
      rw[e9]
     ·have hz':decide ((0:Int)<(c1:Int))=false:=decide_eq_false (by omega)
      go_wp2
      go_ret2
      refine⟨q,T,HL.out,?_,HDW.out⟩
      have hst:stk q T=q:=by unfold stk;rw[if_pos (by have:=HCP.out.2;omega)]
      have hE9:=HE.out
      rw[hst]
      show Ending.returned (.tuple #[.int .u64 _,.int .i64 _])=_
      have e9:(la:Int)-lb-63=E-63:=by rw[hE9]
      rw[e9]
end Go.Proofs.YtenbfookfcmpoaaGreatDoor
