import Derived.Test.YtenbfookfcmpoaaGreatDoorF21
import Derived.Test.YtenbfookfcmpoaaGreatDoorF14
import Derived.Test.YtenbfookfcmpoaaGreatDoorF29
import Derived.Test.YtenbfookfcmpoaaGreatDoorF25
namespace Go.Proofs.YtenbfookfcmpoaaGreatDoor
open Go.ChangeShapes Go.WideShapes Go.RowKit
def Fin(b:Nat)(m:Int)(s:ByteArray)(k:Nat)(neg:Bool)(x:Nat)(r:Option Nat)(j:Nat):Prop:=
 ∃V beh r1 j1,DgR b s k V beh r1 j1∧((∃a,r1=some a∧r=some a∧j=j1)∨(r1=none∧∃P r2,Pow m s j1 P r2 j∧((∃a,r2=some a∧r=some a) ∨
  (r2=none∧r=none∧x=signBit neg+(if b=16 then quoW V 1 (P-4*(beh:Int)).toNat (-(P-4*(beh:Int))).toNat else decW 10 V (P-(beh:Int)))))))
theorem err_none:errV none=.nilIface:=rfl
theorem err_some(k:Nat):errV (some k)=.iface 133 (.agg #[.int .i64 (k:Int)]):=rfl
theorem pow_range{m:Int}{s:ByteArray}{j i:Nat}{P:Int}{r:Option Nat}(h:Pow m s j P r i):-10000000<P∧P<10000000:=by
 rcases h with⟨_,rfl,_,_⟩|⟨_,neg,k,_,_,⟨_,rfl,_⟩|⟨_,_,N,hc,rfl⟩⟩
 ·omega
 ·omega
 ·have:=capM_lt hc
  split<;>omega
theorem cnt_one1:cntOk 1 1:=⟨by rw[be_eq];omega,fun _=>by rw[Nat.sub_self,Nat.pow_zero];omega⟩
theorem len_of{V n:Nat}(h:V<2 ^ n):bitLen V≤n:=by
 rcases Nat.lt_or_ge n (bitLen V) with hlt|hge
 ·have h0:V≠0:=by rintro rfl;simp[bitLen]at hlt
  have h1:=(bitLen_spec V).2 h0
  have h2:2 ^ n≤2 ^ (bitLen V-1):=Nat.pow_le_pow_right (by omega) (by omega)
  omega
 ·exact hge
set_option maxHeartbeats 2000000 in
set_option maxRecDepth 100000 in
theorem hex_any(neg:Bool)(G k:Nat)(s:ByteArray)(w:World)(h:Rr w G s k)(hk:k≤s.size)(hs:s.size≤1200)(hk2:2≤k) :
  Calls Tryz.prog 134 #[.pointer (some ⟨G,0,none⟩),.bool neg] w fun e w'=>∃x r j,Fin 16 112 s k neg x r j∧j≤s.size∧e=.returned (.tuple #[.float .f64 (if r=none then x else 0),errV r])∧Rr w' G s j∧Mod G w w':=by
 have HDG:Hid _:=fun(_:Unit)=>digits_walk 16 G k s w (by omega) (by omega) h hk hs
 have hGw:=h.lt
 have hz:=num_zero
 rw[dg_nil]at hz
 obtain⟨C,hC⟩:∃C,blk 0 (dg 0) [.int .i64 0]=C:=⟨_,rfl⟩
 have HC:Hid (blk 0 (dg 0) [.int .i64 0]=C):=hC
 rw[hC]at hz
 clear hC h
 go_enter Tryz.func134,Tryz.ntmps134
 go_wp2_with fail
 refine(HDG.out ()).mono ?_
 rintro e w1 ⟨V,beh,r1,j1,c,hdg,hj1,hcn,hc,hbe,hV,rfl,hr1,hm1⟩
 have HDR:Hid (DgR 16 s k V beh r1 j1):=hdg
 have HR1:Hid (Rr w1 G s j1):=hr1
 have HM1:Hid (Mod G w w1):=hm1
 have HCN:Hid (cntOk c V):=hcn
 have HV:Hid (V<16 ^ (s.size-k)):=hV
 have HN2:Hid (LB (w1.alloc (.cells C 246)) w1.heap.size 0 (dg 0) [.int .i64 0] 246):=by
  have h:=LB.new w1 0 (dg 0) [.int .i64 0] 246
  rw[HC.out]at h;exact h
 have hst:=LB.cellsNum HN2.out (blk c (dg V) [.int .i64 (beh:Int)]) (by rw[blk_size];rfl) (blk_one _ _ _ rfl)
 have hsz:(blk c (dg V) [.int .i64 (beh:Int)]).size=153:=by rw[blk_size];rfl
 have HX2:Hid _:=fun(_:Unit)=>LB.storedNum (c':=c) (f':=dg V) (R':=[.int .i64 (beh:Int)]) HN2.out
 clear hdg hr1 hm1 hcn hV HDG
 cases r1 with
 | some a=>
  rw[err_some]
  go_wp2_with fail
  go_ret2
  have hma:=(Mod.refl w1.heap.size (w1.alloc (.cells C 246))).setRow (blk c (dg V) [.int .i64 (beh:Int)])
  exact⟨0,some a,j1,⟨V,beh,some a,j1,HDR.out,.inl ⟨a,rfl,rfl,rfl⟩⟩,hj1,rfl,(HR1.out.alloc _).other hma (by have:=HR1.out.lt;omega),(HM1.out.alloc _).late hma HM1.out.size⟩
 | none=>
  rw[err_none]
  obtain⟨N,hN⟩:∃N,w1.heap.size=N:=⟨_,rfl⟩
  have HNN:Hid (w1.heap.size=N):=hN
  obtain⟨w2,hw2⟩:∃w2,(w1.alloc (.cells C 246)).setRow N (blk c (dg V) [.int .i64 (beh:Int)])=w2:=⟨_,rfl⟩
  have HX:Hid (LB w2 N c (dg V) [.int .i64 (beh:Int)] 246):=by
   have h:=HX2.out ();rw[hN,hw2]at h;exact h
  have HR2:Hid (Rr w2 G s j1):=by
   have hma:=(Mod.refl w1.heap.size (w1.alloc (.cells C 246))).setRow (blk c (dg V) [.int .i64 (beh:Int)])
   have h:=(HR1.out.alloc (.cells C 246)).other hma (by have:=HR1.out.lt;omega)
   rw[hN,hw2]at h;exact h
  have HM2:Hid (Mod G w w2):=by
   have hma:=(Mod.refl w1.heap.size (w1.alloc (.cells C 246))).setRow (blk c (dg V) [.int .i64 (beh:Int)])
   have h:=(HM1.out.alloc (.cells C 246)).late hma HM1.out.size
   rw[hN,hw2]at h;exact h
  have hGN:G<N:=by rw[←hN];exact HR1.out.lt
  have HNW:Hid (w.heap.size≤N):=by rw[←hN];exact HM1.out.size
  rw[hN]at hst
  have HPW:Hid _:=fun(_:Unit)=>power_any 112 (by decide) G j1 s w2 HR2.out hj1 hs
  clear HX2 HN2 HR1 HM1
  go_wp2_with fail
  clear hw2 hN hst
  refine(HPW.out ()).mono ?_
  rintro e w3 ⟨P,r2,j2,hpw,hj2,rfl,hr3,hm3⟩
  have HPW2:Hid (Pow 112 s j1 P r2 j2):=hpw
  obtain⟨p1,p2⟩:=pow_range hpw
  have HR3:Hid (Rr w3 G s j2):=hr3
  have HM3:Hid (Mod G w w3):=HM2.out.trans hm3
  have HX3:Hid (LB w3 N c (dg V) [.int .i64 (beh:Int)] 246):=HX.out.other hm3 (by omega)
  clear hpw hr3 hm3 HPW HX HR2 HM2
  cases r2 with
  | some a=>
   rw[err_some]
   go_wp2_with fail
   go_ret2
   exact⟨0,some a,j2,⟨V,beh,none,j1,HDR.out,.inr ⟨rfl,P,some a,HPW2.out,.inl ⟨a,rfl,rfl⟩⟩⟩,hj2,rfl,HR3.out,HM3.out⟩
  | none=>
   rw[err_none]
   obtain⟨Q,hQ⟩:∃Q:Int,P-4*(beh:Int)=Q:=⟨_,rfl⟩
   have w1':IntKind.i64.wrap (P-IntKind.i64.wrap (4*(beh:Int)))=Q:=by
    rw[show IntKind.i64.wrap (4*(beh:Int))=4*(beh:Int) by rw[IntKind.wrap_i64];omega,IntKind.wrap_i64];omega
   have hbl:bitLen V≤4798:=by
    have h1:=HV.out
    rw[show(16:Nat)=2 ^ 4 from rfl,←Nat.pow_mul]at h1
    have:=len_of h1
    omega
   have HNE:Hid (∀W',Calls Tryz.prog 152 #[.bool neg,.agg (lgL c (dg V)).toArray,lgV 1 1,.int .i64 (IntKind.i64.wrap (P-IntKind.i64.wrap (4*(beh:Int))))] W' fun e w''=>e=.returned (.float .f64 (signBit neg+quoW V 1 Q.toNat (-Q).toNat))∧Below W'.heap.size W' w''):=fun W'=>by
    rw[w1']
    exact nearest_any neg V 1 c 1 Q.toNat (-Q).toNat Q W' HCN.out hc cnt_one1 (by omega) (by omega) hbl (by decide) (by omega) (by omega) (by omega)
   have HQ:Hid (P-4*(beh:Int)=Q):=hQ
   have hN3:=HX3.out.lt
   have hbh:=HX3.out.beh
   obtain⟨d9,hd9,hr9⟩:=lg_desc
   have hi9:(Tryz.prog.info? 115).map (·.size)=some (lgL c (dg V)).length:=by rw[lgL_length];exact lg_size
   clear hQ w1' hbl
   go_wp2_with fail
   refine wp_region_held_drew (S:=fun w'=>LB w' N c (dg V) [.int .i64 (beh:Int)] 246∧Below w3.heap.size w3 w') (by kernel_rfl) ⟨HX3.out,(Below.refl _ w3).drew⟩ (fun hHeld=>?_)
   refine tkH 0 ?v0 rfl ?_ ?y0
   case y0=>(intro w hSw;go_simp;first|done|with_reducible rfl)
   refine tkH 1 ?v1 rfl ?_ ?y1
   case y1=>(intro w hSw;go_simp;first|done|with_reducible rfl)
   refine wpAnyH_take (i:=2) (oi:=_) (v:=_) rfl (by kernel_rfl) (by kernel_rfl) (by kernel_rfl) (fun _ _ _ h=>h) (yieldsIf_load_mid (by rfl) _ _ rfl _ _ rfl (lgL c (dg V)) d9 (fun w h=>h.1.range) hd9 hr9 hi9) (by assumption) ?_
   refine nmH ?_
   refine tkH 4 ?v4 rfl ?_ ?y4
   case y4=>(intro w hSw;go_simp;first|done|with_reducible rfl)
   refine tkH 5 ?v5 rfl ?_ ?y5
   case y5=>(intro w hSw;go_simp;first|done|with_reducible rfl)
   refine tkH 6 ?v6 rfl ?_ ?y6
   case y6=>(intro w hSw;have hbw:=hSw.1.beh;clear hSw;go_simp;first|done|with_reducible rfl)
   refine tkH 7 ?v7 rfl ?_ ?y7
   case y7=>(intro w hSw;go_simp;first|done|with_reducible rfl)
   refine tkH 8 ?v8 rfl ?_ ?y8
   case y8=>(intro w hSw;go_simp;first|done|with_reducible rfl)
   refine rdH 3 rfl (fun K hK=>?_)
   go_simp
   refine(largeOf_one _).mono ?_
   rintro e w7 ⟨rfl,hb7⟩
   have HX7:LB w7 N c (dg V) [.int .i64 (beh:Int)] 246:=(hb7.block N hN3).trans HX3.out
   have HB7:Below w3.heap.size w3 w7:=((Below.refl _ w3).drew).trans hb7
   dsimp only
   refine hK.out _ _ ⟨HX7,HB7⟩ (fun hHeld=>?_)
   clear hK K hb7
   refine nmH ?_
   refine rdH 9 rfl (fun K hK=>?_)
   go_simp
   refine(HNE.out _).mono ?_
   rintro e w8 ⟨rfl,hb8⟩
   have HX8:LB w8 N c (dg V) [.int .i64 (beh:Int)] 246:=(hb8.block N HX7.lt).trans HX7
   have HB8:Below w3.heap.size w3 w8:=HB7.trans (hb8.mono HB7.size)
   dsimp only
   refine hK.out _ _ ⟨HX8,HB8⟩ (fun hHeld=>?_)
   clear hK K hb8
   refine nmH ?_
   refine rdH 10 rfl (fun K hK=>?_)
   go_simp
   refine hK.out _ _ ⟨HX8,HB8⟩ (fun hHeld=>?_)
   clear hK K
   refine nmH ?_
   refine rdH 11 rfl (fun K hK=>?_)
   go_simp
   refine hK.out _ _ ⟨HX8,HB8⟩ (fun hHeld=>?_)
   clear hK K
   refine nmH ?_
   refine wpAnyH_done (by kernel_rfl) ?_ _
   have HR8:Hid (Rr w8 G s j2):=HR3.out.below HB8
   have HM8:Hid (Mod G w w8):=HM3.out.trans (Mod.of_below HB8)
   clear hHeld HX8 HB8 HX7 HB7
   go_wp2
   go_ret2
   exact⟨_,none,j2,⟨V,beh,none,j1,HDR.out,.inr ⟨rfl,P,none,HPW2.out,.inr ⟨rfl,rfl,by rw[if_pos rfl,HQ.out]⟩⟩⟩,hj2,rfl,HR8.out,HM8.out⟩
theorem quo_dec_lo(V K n:Nat)(e Q:Int)(hV:V<10 ^ n)(hn:n≤1200)(hQ:min (max e (-1530)) 310=Q)(hK:-Q=(K:Int)):quoW V (1*5 ^ K) 0 K=decW 10 V e:=by
 rw[dec_clamp V e n hV hn,hQ,show Q = -(K:Int) by omega]
 unfold quoW
 by_cases h:V=0
 ·subst h;rw[if_pos rfl,dec_nil]
 ·rw[if_neg h,dec_fifth V K (by omega),Nat.one_mul]
theorem quo_dec_hi(V K n:Nat)(e Q:Int)(hV:V<10 ^ n)(hn:n≤1200)(hQ:min (max e (-1530)) 310=Q)(hK:Q=(K:Int)):quoW (V*5 ^ K) 1 K 0=decW 10 V e:=by
 rw[dec_clamp V e n hV hn,hQ,hK]
 unfold quoW
 by_cases h:V=0
 ·subst h;rw[Nat.zero_mul,if_pos rfl,dec_nil]
 ·rw[if_neg (Nat.ne_of_gt (Nat.mul_pos (by omega) (Nat.pow_pos (by omega)))),dec_five V K (by omega)]
theorem five_len(K:Nat)(h:K≤1530):1*5 ^ K<2 ^ (7*510+1):=by
 obtain⟨n,hn⟩:∃n:Nat,n=510:=⟨_,rfl⟩
 have h1:5 ^ K≤5 ^ (3*n):=Nat.pow_le_pow_right (by omega) (by omega)
 have h2:5 ^ (3*n)≤2 ^ (7*n):=by rw[Nat.pow_mul,Nat.pow_mul];exact Nat.pow_le_pow_left (by decide) n
 have h3:2 ^ (7*n)<2 ^ (7*n+1):=Nat.pow_lt_pow_right (by omega) (by omega)
 rw[←hn];omega
theorem ten_len(V K n:Nat)(hV:V<10 ^ n)(hn:n≤1200)(hK:K≤310):V*5 ^ K<2 ^ (10*400+7*104):=by
 obtain⟨a,ha⟩:∃a:Nat,a=400:=⟨_,rfl⟩
 obtain⟨b,hb⟩:∃b:Nat,b=104:=⟨_,rfl⟩
 have h1:10 ^ n≤10 ^ (3*a):=Nat.pow_le_pow_right (by omega) (by omega)
 have h2:10 ^ (3*a)≤2 ^ (10*a):=by rw[Nat.pow_mul,Nat.pow_mul];exact Nat.pow_le_pow_left (by decide) a
 have h3:5 ^ K≤5 ^ (3*b):=Nat.pow_le_pow_right (by omega) (by omega)
 have h4:5 ^ (3*b)≤2 ^ (7*b):=by rw[Nat.pow_mul,Nat.pow_mul];exact Nat.pow_le_pow_left (by decide) b
 have h5:V*5 ^ K<2 ^ (10*a)*5 ^ K:=Nat.mul_lt_mul_of_pos_right (by omega) (Nat.pow_pos (by omega))
 have h6:2 ^ (10*a)*5 ^ K≤2 ^ (10*a)*2 ^ (7*b):=Nat.mul_le_mul_left _ (by omega)
 rw[←Nat.pow_add]at h6
 rw[←ha,←hb];omega
theorem five_facts(K:Nat)(h:K≤1530):1*5 ^ K<be ^ 151∧bitLen (1*5 ^ K)≤4798:=by
 have h1:=five_len K h
 obtain⟨a,ha⟩:∃a:Nat,a=7*510+1:=⟨_,rfl⟩
 rw[←ha]at h1
 obtain⟨n,hn⟩:∃n:Nat,n=151:=⟨_,rfl⟩
 rw[←hn,be_two]
 exact⟨Nat.lt_of_lt_of_le h1 (Nat.pow_le_pow_right (by omega) (by omega)),by have:=len_of h1;omega⟩
theorem ten_facts(V K n:Nat)(hV:V<10 ^ n)(hn:n≤1200)(hK:K≤310):V*5 ^ K<be ^ 151∧bitLen (V*5 ^ K)≤4798:=by
 have h1:=ten_len V K n hV hn hK
 obtain⟨a,ha⟩:∃a:Nat,a=10*400+7*104:=⟨_,rfl⟩
 rw[←ha]at h1
 obtain⟨n,hn⟩:∃n:Nat,n=151:=⟨_,rfl⟩
 rw[←hn,be_two]
 exact⟨Nat.lt_of_lt_of_le h1 (Nat.pow_le_pow_right (by omega) (by omega)),by have:=len_of h1;omega⟩
theorem ten_own(V n:Nat)(hV:V<10 ^ n)(hn:n≤1200):bitLen V≤4798:=by
 have h:=(ten_facts V 0 n hV hn (by omega)).2
 rw[Nat.pow_zero,Nat.mul_one]at h
 exact h
set_option maxHeartbeats 2000000 in
set_option maxRecDepth 100000 in
theorem decimal_any(neg:Bool)(G k:Nat)(s:ByteArray)(w:World)(h:Rr w G s k)(hk:k≤s.size)(hs:s.size≤1200) :
  Calls Tryz.prog 135 #[.pointer (some ⟨G,0,none⟩),.bool neg] w fun e w'=>∃x r j,Fin 10 101 s k neg x r j∧j≤s.size∧e=.returned (.tuple #[.float .f64 (if r=none then x else 0),errV r])∧Rr w' G s j∧Mod G w w':=by
 have HDG:Hid _:=fun(_:Unit)=>digits_walk 10 G k s w (by omega) (by omega) h hk hs
 have hGw:=h.lt
 have hz:=num_zero
 rw[dg_nil]at hz
 obtain⟨C,hC⟩:∃C,blk 0 (dg 0) [.int .i64 0]=C:=⟨_,rfl⟩
 have HC:Hid (blk 0 (dg 0) [.int .i64 0]=C):=hC
 rw[hC]at hz
 clear hC h
 go_enter Tryz.func135,Tryz.ntmps135
 go_wp2_with fail
 refine(HDG.out ()).mono ?_
 rintro e w1 ⟨V,beh,r1,j1,c,hdg,hj1,hcn,hc,hbe,hV,rfl,hr1,hm1⟩
 have HDR:Hid (DgR 10 s k V beh r1 j1):=hdg
 have HR1:Hid (Rr w1 G s j1):=hr1
 have HM1:Hid (Mod G w w1):=hm1
 have HCN:Hid (cntOk c V):=hcn
 have HV:Hid (V<10 ^ (s.size-k)):=hV
 have HN2:Hid (LB (w1.alloc (.cells C 246)) w1.heap.size 0 (dg 0) [.int .i64 0] 246):=by
  have h:=LB.new w1 0 (dg 0) [.int .i64 0] 246
  rw[HC.out]at h;exact h
 have hst:=LB.cellsNum HN2.out (blk c (dg V) [.int .i64 (beh:Int)]) (by rw[blk_size];rfl) (blk_one _ _ _ rfl)
 have hsz:(blk c (dg V) [.int .i64 (beh:Int)]).size=153:=by rw[blk_size];rfl
 have HX2:Hid _:=fun(_:Unit)=>LB.storedNum (c':=c) (f':=dg V) (R':=[.int .i64 (beh:Int)]) HN2.out
 clear hdg hr1 hm1 hcn hV HDG
 cases r1 with
 | some a=>
  rw[err_some]
  go_wp2_with fail
  go_ret2
  have hma:=(Mod.refl w1.heap.size (w1.alloc (.cells C 246))).setRow (blk c (dg V) [.int .i64 (beh:Int)])
  exact⟨0,some a,j1,⟨V,beh,some a,j1,HDR.out,.inl ⟨a,rfl,rfl,rfl⟩⟩,hj1,rfl,(HR1.out.alloc _).other hma (by have:=HR1.out.lt;omega),(HM1.out.alloc _).late hma HM1.out.size⟩
 | none=>
  rw[err_none]
  obtain⟨N,hN⟩:∃N,w1.heap.size=N:=⟨_,rfl⟩
  have HNN:Hid (w1.heap.size=N):=hN
  obtain⟨w2,hw2⟩:∃w2,(w1.alloc (.cells C 246)).setRow N (blk c (dg V) [.int .i64 (beh:Int)])=w2:=⟨_,rfl⟩
  have HX:Hid (LB w2 N c (dg V) [.int .i64 (beh:Int)] 246):=by
   have h:=HX2.out ();rw[hN,hw2]at h;exact h
  have HR2:Hid (Rr w2 G s j1):=by
   have hma:=(Mod.refl w1.heap.size (w1.alloc (.cells C 246))).setRow (blk c (dg V) [.int .i64 (beh:Int)])
   have h:=(HR1.out.alloc (.cells C 246)).other hma (by have:=HR1.out.lt;omega)
   rw[hN,hw2]at h;exact h
  have HM2:Hid (Mod G w w2):=by
   have hma:=(Mod.refl w1.heap.size (w1.alloc (.cells C 246))).setRow (blk c (dg V) [.int .i64 (beh:Int)])
   have h:=(HM1.out.alloc (.cells C 246)).late hma HM1.out.size
   rw[hN,hw2]at h;exact h
  have hGN:G<N:=by rw[←hN];exact HR1.out.lt
  have HNW:Hid (w.heap.size≤N):=by rw[←hN];exact HM1.out.size
  rw[hN]at hst
  have HPW:Hid _:=fun(_:Unit)=>power_any 101 (by decide) G j1 s w2 HR2.out hj1 hs
  clear HX2 HN2 HR1 HM1
  go_wp2_with fail
  clear hw2 hN hst
  refine(HPW.out ()).mono ?_
  rintro e w3 ⟨P,r2,j2,hpw,hj2,rfl,hr3,hm3⟩
  have HPW2:Hid (Pow 101 s j1 P r2 j2):=hpw
  obtain⟨p1,p2⟩:=pow_range hpw
  have HR3:Hid (Rr w3 G s j2):=hr3
  have HM3:Hid (Mod G w w3):=HM2.out.trans hm3
  have HX3:Hid (LB w3 N c (dg V) [.int .i64 (beh:Int)] 246):=HX.out.other hm3 (by omega)
  clear hpw hr3 hm3 HPW HX HR2 HM2
  cases r2 with
  | some a=>
   rw[err_some]
   go_wp2_with fail
   go_ret2
   exact⟨0,some a,j2,⟨V,beh,none,j1,HDR.out,.inr ⟨rfl,P,some a,HPW2.out,.inl ⟨a,rfl,rfl⟩⟩⟩,hj2,rfl,HR3.out,HM3.out⟩
  | none=>
   rw[err_none]
   obtain⟨Q,hQ⟩:∃Q:Int,min (max (P-(beh:Int)) (-1530)) 310=Q:=⟨_,rfl⟩
   have HQ:Hid (min (max (P-(beh:Int)) (-1530)) 310=Q):=hQ
   have hcs:(P-(beh:Int) < -1530∧Q = -1530)∨(310<P-(beh:Int)∧Q=310)∨(-1530≤P-(beh:Int)∧P-(beh:Int)≤310∧Q=P-(beh:Int)):=by omega
   have hbh:=HX3.out.beh
   clear hQ
   go_upto_region 7 with fail
   go_cut [8] from 27 to 32 (fun s8 wc=>s8=.int .i64 Q∧wc=w3)
   case first=>
    rcases hcs with⟨x1,x2⟩|⟨x1,x2⟩|⟨x1,x2,x3⟩
    ·go_wp2
     go_meet
     case rel=>exact⟨by rw[x2],rfl⟩
    ·go_wp2
     go_meet
     case rel=>exact⟨by rw[x2],rfl⟩
    ·go_wp2
     go_meet
     case rel=>exact⟨by rw[x3],rfl⟩
   case rest=>
    obtain⟨rfl,hwc⟩:=hcut
    have hwc':=hwc.symm
    subst hwc'
    have hz8:=lg_zero
    rw[dg_nil]at hz8
    obtain⟨D,hD⟩:∃D,blk 0 (dg 0) []=D:=⟨_,rfl⟩
    have HDD:Hid (blk 0 (dg 0) []=D):=hD
    rw[hD]at hz8
    have HNEW:Hid (∀w':World,LB (w'.alloc (.cells D 115)) w'.heap.size 0 (dg 0) [] 115):=fun w'=>by rw[←hD];exact LB.new w' 0 (dg 0) [] _
    obtain⟨H3,hH3⟩:∃H3,w3.heap.size=H3:=⟨_,rfl⟩
    have hNH:N<H3:=by rw[←hH3];exact HX3.out.lt
    obtain⟨d9,hd9,hr9⟩:=lg_desc
    have hi9:(Tryz.prog.info? 115).map (·.size)=some (lgL c (dg V)).length:=by rw[lgL_length];exact lg_size
    clear hcs hbh hD
    go_wp2_with fail
    go_cut [9,10] from 33 to 35 (fun s9 s10 wd=>∃A B:Nat,s9=.pointer (some ⟨A,0,none⟩)∧s10=.pointer (some ⟨B,0,none⟩)∧A≠B∧H3≤A∧H3≤B∧Hid (LB wd A c (dg V) [] 115)∧Hid (LB wd B 1 (dg 1) [] 115)∧Hid (Below H3 w3 wd∧H3≤wd.heap.size))
    case first=>
     refine wp_region_held_drew (S:=fun w'=>LB w' N c (dg V) [.int .i64 (beh:Int)] 246∧Below H3 w3 w') (by kernel_rfl) ⟨HX3.out,(Below.refl _ w3).drew⟩ (fun hHeld=>?_)
     have HS0:Hid (LB w3.drew N c (dg V) [.int .i64 (beh:Int)] 246∧Below H3 w3 w3.drew∧H3≤w3.drew.heap.size):=⟨HX3.out,(Below.refl _ w3).drew,by rw[←hH3];exact Nat.le_refl _⟩
     generalize w3.drew=wa at *
     refine tkH 0 ?v0 rfl ?_ ?y0
     case y0=>(intro w hSw;go_simp;first|done|with_reducible rfl)
     refine wpAnyH_take (i:=1) (oi:=_) (v:=_) rfl (by kernel_rfl) (by kernel_rfl) (by kernel_rfl) (fun _ _ _ h=>h) (yieldsIf_load_mid (by rfl) _ _ rfl _ _ rfl (lgL c (dg V)) d9 (fun w h=>h.1.range) hd9 hr9 hi9) (by assumption) ?_
     refine nmH ?_
     refine wpAnyH_ready (rs:=[2,3,4]) (by kernel_rfl) (by simp) ?_
     refine AllReadyH.cons (o:=_) rfl (fun K hK=>?_) ?_
     ·go_simp
      refine(largeOf_one _).mono ?_
      rintro e w1x ⟨rfl,hb7⟩
      have HSw1x:Hid (LB w1x N c (dg V) [.int .i64 (beh:Int)] 246∧Below H3 w3 w1x∧H3≤w1x.heap.size):=⟨(hb7.block N HS0.out.1.lt).trans HS0.out.1,HS0.out.2.1.trans (hb7.mono HS0.out.2.2),Nat.le_trans HS0.out.2.2 hb7.size⟩
      clear hb7
      dsimp only
      refine hK.out _ _ ⟨HSw1x.out.1,HSw1x.out.2.1⟩ (fun hHeld=>?_)
      clear hK K
      refine nmH ?_
      refine wpAnyH_ready (rs:=[3,4]) (by kernel_rfl) (by simp) ?_
      refine AllReadyH.cons (o:=_) rfl (fun K hK=>?_) ?_
      ·go_simp
       obtain⟨A,hA⟩:∃A,w1x.heap.size=A:=⟨_,rfl⟩
       obtain⟨w2x,hw2x⟩:∃w2x,w1x.alloc (.cells D 115)=w2x:=⟨_,rfl⟩
       rw[hA,hw2x]
       have HSw2x:Hid (LB w2x N c (dg V) [.int .i64 (beh:Int)] 246∧Below H3 w3 w2x∧H3≤w2x.heap.size):=by rw[←hw2x];exact⟨HSw1x.out.1.alloc _,HSw1x.out.2.1.alloc HSw1x.out.2.2 _,by have:=HSw1x.out.2.2;simp;omega⟩
       have HLAw2x:Hid (LB w2x A 0 (dg 0) [] 115):=by rw[←hw2x,←hA];exact HNEW.out _
       have hgeA:H3≤A:=by rw[←hA];exact HSw1x.out.2.2
       clear hA hw2x
       refine hK.out _ _ ⟨HSw2x.out.1,HSw2x.out.2.1⟩ (fun hHeld=>?_)
       clear hK K
       refine nmH ?_
       refine rdH 4 rfl (fun K hK=>?_)
       go_simp
       obtain⟨B,hB⟩:∃B,w2x.heap.size=B:=⟨_,rfl⟩
       obtain⟨wf,hwf⟩:∃wf,w2x.alloc (.cells D 115)=wf:=⟨_,rfl⟩
       rw[hB,hwf]
       have HSwf:Hid (LB wf N c (dg V) [.int .i64 (beh:Int)] 246∧Below H3 w3 wf∧H3≤wf.heap.size):=by rw[←hwf];exact⟨HSw2x.out.1.alloc _,HSw2x.out.2.1.alloc HSw2x.out.2.2 _,by have:=HSw2x.out.2.2;simp;omega⟩
       have HLBwf:Hid (LB wf B 0 (dg 0) [] 115):=by rw[←hwf,←hB];exact HNEW.out _
       have hgeB:H3≤B:=by rw[←hB];exact HSw2x.out.2.2
       have HLAwf:Hid (LB wf A 0 (dg 0) [] 115):=by rw[←hwf];exact HLAw2x.out.alloc _
       have hneAB:A<B:=by rw[←hB];exact HLAw2x.out.lt
       clear hB hwf
       refine hK.out _ _ ⟨HSwf.out.1,HSwf.out.2.1⟩ (fun hHeld=>?_)
       clear hK K
       try simp only[Act.put]
       try simp only[List.setIfInBounds_toArray]
       try simp only[List.set_cons_succ]
       try simp only[List.set_cons_zero]
       have hab:A≠B:=by omega
       refine rdH 5 rfl (fun K hK=>?_)
       have hs5:=HLAwf.out.cells c (dg V)
       have hln5:=lgL_length c (dg V)
       go_simp
       obtain⟨wg,hwg⟩:∃wg,wf.setRow A (lgL c (dg V)).toArray=wg:=⟨_,rfl⟩
       rw[hwg]
       have hmg:Mod A wf wg:=by rw[←hwg];exact(Mod.refl A wf).setRow _
       have HAg:Hid (LB wg A c (dg V) [] 115):=by rw[←hwg];exact HLAwf.out.stored
       have HBg:Hid (LB wg B 0 (dg 0) [] 115):=HLBwf.out.other hmg (Ne.symm hab)
       have HXg:Hid (LB wg N c (dg V) [.int .i64 (beh:Int)] 246):=HSwf.out.1.other hmg (by omega)
       have HBWg:Hid (Below H3 w3 wg∧H3≤wg.heap.size):=⟨HSwf.out.2.1.trans (hmg.below hgeA HSwf.out.2.2),Nat.le_trans HSwf.out.2.2 hmg.size⟩
       clear hs5 hln5 hwg hmg
       refine hK.out _ _ ⟨HXg.out,HBWg.out.1⟩ (fun hHeld=>?_)
       clear hK K
       unfold lgV
       refine rdH 6 rfl (fun K hK=>?_)
       have hs6:=HBg.out.cells 1 (dg 1)
       have hln6:=lgL_length 1 (dg 1)
       go_simp
       obtain⟨wh,hwh⟩:∃wh,wg.setRow B (lgL 1 (dg 1)).toArray=wh:=⟨_,rfl⟩
       rw[hwh]
       have hmh:Mod B wg wh:=by rw[←hwh];exact(Mod.refl B wg).setRow _
       have HAh:Hid (LB wh A c (dg V) [] 115):=HAg.out.other hmh hab
       have HBh:Hid (LB wh B 1 (dg 1) [] 115):=by rw[←hwh];exact HBg.out.stored
       have HXh:Hid (LB wh N c (dg V) [.int .i64 (beh:Int)] 246):=HXg.out.other hmh (by omega)
       have HBWh:Hid (Below H3 w3 wh∧H3≤wh.heap.size):=⟨HBWg.out.1.trans (hmh.below hgeB HBWg.out.2),Nat.le_trans HBWg.out.2 hmh.size⟩
       clear hs6 hln6 hwh hmh
       refine hK.out _ _ ⟨HXh.out,HBWh.out.1⟩ (fun hHeld=>?_)
       clear hK K
       refine wpAnyH_done (by kernel_rfl) ?_ _
       go_wp2
       go_meet
       case rel=>exact⟨A,B,rfl,rfl,hab,hgeA,hgeB,HAh.out,HBh.out,HBWh.out⟩
      refine AllReadyH.cons (o:=_) rfl (fun K hK=>?_) AllReadyH.nil
      go_simp
      obtain⟨B,hB⟩:∃B,w1x.heap.size=B:=⟨_,rfl⟩
      obtain⟨w2x,hw2x⟩:∃w2x,w1x.alloc (.cells D 115)=w2x:=⟨_,rfl⟩
      rw[hB,hw2x]
      have HSw2x:Hid (LB w2x N c (dg V) [.int .i64 (beh:Int)] 246∧Below H3 w3 w2x∧H3≤w2x.heap.size):=by rw[←hw2x];exact⟨HSw1x.out.1.alloc _,HSw1x.out.2.1.alloc HSw1x.out.2.2 _,by have:=HSw1x.out.2.2;simp;omega⟩
      have HLBw2x:Hid (LB w2x B 0 (dg 0) [] 115):=by rw[←hw2x,←hB];exact HNEW.out _
      have hgeB:H3≤B:=by rw[←hB];exact HSw1x.out.2.2
      clear hB hw2x
      refine hK.out _ _ ⟨HSw2x.out.1,HSw2x.out.2.1⟩ (fun hHeld=>?_)
      clear hK K
      refine nmH ?_
      refine rdH 3 rfl (fun K hK=>?_)
      go_simp
      obtain⟨A,hA⟩:∃A,w2x.heap.size=A:=⟨_,rfl⟩
      obtain⟨wf,hwf⟩:∃wf,w2x.alloc (.cells D 115)=wf:=⟨_,rfl⟩
      rw[hA,hwf]
      have HSwf:Hid (LB wf N c (dg V) [.int .i64 (beh:Int)] 246∧Below H3 w3 wf∧H3≤wf.heap.size):=by rw[←hwf];exact⟨HSw2x.out.1.alloc _,HSw2x.out.2.1.alloc HSw2x.out.2.2 _,by have:=HSw2x.out.2.2;simp;omega⟩
      have HLAwf:Hid (LB wf A 0 (dg 0) [] 115):=by rw[←hwf,←hA];exact HNEW.out _
      have hgeA:H3≤A:=by rw[←hA];exact HSw2x.out.2.2
      have HLBwf:Hid (LB wf B 0 (dg 0) [] 115):=by rw[←hwf];exact HLBw2x.out.alloc _
      have hneBA:B<A:=by rw[←hA];exact HLBw2x.out.lt
      clear hA hwf
      refine hK.out _ _ ⟨HSwf.out.1,HSwf.out.2.1⟩ (fun hHeld=>?_)
      clear hK K
      try simp only[Act.put]
      try simp only[List.setIfInBounds_toArray]
      try simp only[List.set_cons_succ]
      try simp only[List.set_cons_zero]
      have hab:A≠B:=by omega
      refine rdH 5 rfl (fun K hK=>?_)
      have hs5:=HLAwf.out.cells c (dg V)
      have hln5:=lgL_length c (dg V)
      go_simp
      obtain⟨wg,hwg⟩:∃wg,wf.setRow A (lgL c (dg V)).toArray=wg:=⟨_,rfl⟩
      rw[hwg]
      have hmg:Mod A wf wg:=by rw[←hwg];exact(Mod.refl A wf).setRow _
      have HAg:Hid (LB wg A c (dg V) [] 115):=by rw[←hwg];exact HLAwf.out.stored
      have HBg:Hid (LB wg B 0 (dg 0) [] 115):=HLBwf.out.other hmg (Ne.symm hab)
      have HXg:Hid (LB wg N c (dg V) [.int .i64 (beh:Int)] 246):=HSwf.out.1.other hmg (by omega)
      have HBWg:Hid (Below H3 w3 wg∧H3≤wg.heap.size):=⟨HSwf.out.2.1.trans (hmg.below hgeA HSwf.out.2.2),Nat.le_trans HSwf.out.2.2 hmg.size⟩
      clear hs5 hln5 hwg hmg
      refine hK.out _ _ ⟨HXg.out,HBWg.out.1⟩ (fun hHeld=>?_)
      clear hK K
      unfold lgV
      refine rdH 6 rfl (fun K hK=>?_)
      have hs6:=HBg.out.cells 1 (dg 1)
      have hln6:=lgL_length 1 (dg 1)
      go_simp
      obtain⟨wh,hwh⟩:∃wh,wg.setRow B (lgL 1 (dg 1)).toArray=wh:=⟨_,rfl⟩
      rw[hwh]
      have hmh:Mod B wg wh:=by rw[←hwh];exact(Mod.refl B wg).setRow _
      have HAh:Hid (LB wh A c (dg V) [] 115):=HAg.out.other hmh hab
      have HBh:Hid (LB wh B 1 (dg 1) [] 115):=by rw[←hwh];exact HBg.out.stored
      have HXh:Hid (LB wh N c (dg V) [.int .i64 (beh:Int)] 246):=HXg.out.other hmh (by omega)
      have HBWh:Hid (Below H3 w3 wh∧H3≤wh.heap.size):=⟨HBWg.out.1.trans (hmh.below hgeB HBWg.out.2),Nat.le_trans HBWg.out.2 hmh.size⟩
      clear hs6 hln6 hwh hmh
      refine hK.out _ _ ⟨HXh.out,HBWh.out.1⟩ (fun hHeld=>?_)
      clear hK K
      refine wpAnyH_done (by kernel_rfl) ?_ _
      go_wp2
      go_meet
      case rel=>exact⟨A,B,rfl,rfl,hab,hgeA,hgeB,HAh.out,HBh.out,HBWh.out⟩
     refine AllReadyH.cons (o:=_) rfl (fun K hK=>?_) ?_
     ·go_simp
      obtain⟨A,hA⟩:∃A,wa.heap.size=A:=⟨_,rfl⟩
      obtain⟨w1x,hw1x⟩:∃w1x,wa.alloc (.cells D 115)=w1x:=⟨_,rfl⟩
      rw[hA,hw1x]
      have HSw1x:Hid (LB w1x N c (dg V) [.int .i64 (beh:Int)] 246∧Below H3 w3 w1x∧H3≤w1x.heap.size):=by rw[←hw1x];exact⟨HS0.out.1.alloc _,HS0.out.2.1.alloc HS0.out.2.2 _,by have:=HS0.out.2.2;simp;omega⟩
      have HLAw1x:Hid (LB w1x A 0 (dg 0) [] 115):=by rw[←hw1x,←hA];exact HNEW.out _
      have hgeA:H3≤A:=by rw[←hA];exact HS0.out.2.2
      clear hA hw1x
      refine hK.out _ _ ⟨HSw1x.out.1,HSw1x.out.2.1⟩ (fun hHeld=>?_)
      clear hK K
      refine nmH ?_
      refine wpAnyH_ready (rs:=[2,4]) (by kernel_rfl) (by simp) ?_
      refine AllReadyH.cons (o:=_) rfl (fun K hK=>?_) ?_
      ·go_simp
       refine(largeOf_one _).mono ?_
       rintro e w2x ⟨rfl,hb7⟩
       have HSw2x:Hid (LB w2x N c (dg V) [.int .i64 (beh:Int)] 246∧Below H3 w3 w2x∧H3≤w2x.heap.size):=⟨(hb7.block N HSw1x.out.1.lt).trans HSw1x.out.1,HSw1x.out.2.1.trans (hb7.mono HSw1x.out.2.2),Nat.le_trans HSw1x.out.2.2 hb7.size⟩
       have HLAw2x:Hid (LB w2x A 0 (dg 0) [] 115):=(hb7.block A HLAw1x.out.lt).trans HLAw1x.out
       clear hb7
       dsimp only
       refine hK.out _ _ ⟨HSw2x.out.1,HSw2x.out.2.1⟩ (fun hHeld=>?_)
       clear hK K
       refine nmH ?_
       refine rdH 4 rfl (fun K hK=>?_)
       go_simp
       obtain⟨B,hB⟩:∃B,w2x.heap.size=B:=⟨_,rfl⟩
       obtain⟨wf,hwf⟩:∃wf,w2x.alloc (.cells D 115)=wf:=⟨_,rfl⟩
       rw[hB,hwf]
       have HSwf:Hid (LB wf N c (dg V) [.int .i64 (beh:Int)] 246∧Below H3 w3 wf∧H3≤wf.heap.size):=by rw[←hwf];exact⟨HSw2x.out.1.alloc _,HSw2x.out.2.1.alloc HSw2x.out.2.2 _,by have:=HSw2x.out.2.2;simp;omega⟩
       have HLBwf:Hid (LB wf B 0 (dg 0) [] 115):=by rw[←hwf,←hB];exact HNEW.out _
       have hgeB:H3≤B:=by rw[←hB];exact HSw2x.out.2.2
       have HLAwf:Hid (LB wf A 0 (dg 0) [] 115):=by rw[←hwf];exact HLAw2x.out.alloc _
       have hneAB:A<B:=by rw[←hB];exact HLAw2x.out.lt
       clear hB hwf
       refine hK.out _ _ ⟨HSwf.out.1,HSwf.out.2.1⟩ (fun hHeld=>?_)
       clear hK K
       try simp only[Act.put]
       try simp only[List.setIfInBounds_toArray]
       try simp only[List.set_cons_succ]
       try simp only[List.set_cons_zero]
       have hab:A≠B:=by omega
       refine rdH 5 rfl (fun K hK=>?_)
       have hs5:=HLAwf.out.cells c (dg V)
       have hln5:=lgL_length c (dg V)
       go_simp
       obtain⟨wg,hwg⟩:∃wg,wf.setRow A (lgL c (dg V)).toArray=wg:=⟨_,rfl⟩
       rw[hwg]
       have hmg:Mod A wf wg:=by rw[←hwg];exact(Mod.refl A wf).setRow _
       have HAg:Hid (LB wg A c (dg V) [] 115):=by rw[←hwg];exact HLAwf.out.stored
       have HBg:Hid (LB wg B 0 (dg 0) [] 115):=HLBwf.out.other hmg (Ne.symm hab)
       have HXg:Hid (LB wg N c (dg V) [.int .i64 (beh:Int)] 246):=HSwf.out.1.other hmg (by omega)
       have HBWg:Hid (Below H3 w3 wg∧H3≤wg.heap.size):=⟨HSwf.out.2.1.trans (hmg.below hgeA HSwf.out.2.2),Nat.le_trans HSwf.out.2.2 hmg.size⟩
       clear hs5 hln5 hwg hmg
       refine hK.out _ _ ⟨HXg.out,HBWg.out.1⟩ (fun hHeld=>?_)
       clear hK K
       unfold lgV
       refine rdH 6 rfl (fun K hK=>?_)
       have hs6:=HBg.out.cells 1 (dg 1)
       have hln6:=lgL_length 1 (dg 1)
       go_simp
       obtain⟨wh,hwh⟩:∃wh,wg.setRow B (lgL 1 (dg 1)).toArray=wh:=⟨_,rfl⟩
       rw[hwh]
       have hmh:Mod B wg wh:=by rw[←hwh];exact(Mod.refl B wg).setRow _
       have HAh:Hid (LB wh A c (dg V) [] 115):=HAg.out.other hmh hab
       have HBh:Hid (LB wh B 1 (dg 1) [] 115):=by rw[←hwh];exact HBg.out.stored
       have HXh:Hid (LB wh N c (dg V) [.int .i64 (beh:Int)] 246):=HXg.out.other hmh (by omega)
       have HBWh:Hid (Below H3 w3 wh∧H3≤wh.heap.size):=⟨HBWg.out.1.trans (hmh.below hgeB HBWg.out.2),Nat.le_trans HBWg.out.2 hmh.size⟩
       clear hs6 hln6 hwh hmh
       refine hK.out _ _ ⟨HXh.out,HBWh.out.1⟩ (fun hHeld=>?_)
       clear hK K
       refine wpAnyH_done (by kernel_rfl) ?_ _
       go_wp2
       go_meet
       case rel=>exact⟨A,B,rfl,rfl,hab,hgeA,hgeB,HAh.out,HBh.out,HBWh.out⟩
      refine AllReadyH.cons (o:=_) rfl (fun K hK=>?_) AllReadyH.nil
      go_simp
      obtain⟨B,hB⟩:∃B,w1x.heap.size=B:=⟨_,rfl⟩
      obtain⟨w2x,hw2x⟩:∃w2x,w1x.alloc (.cells D 115)=w2x:=⟨_,rfl⟩
      rw[hB,hw2x]
      have HSw2x:Hid (LB w2x N c (dg V) [.int .i64 (beh:Int)] 246∧Below H3 w3 w2x∧H3≤w2x.heap.size):=by rw[←hw2x];exact⟨HSw1x.out.1.alloc _,HSw1x.out.2.1.alloc HSw1x.out.2.2 _,by have:=HSw1x.out.2.2;simp;omega⟩
      have HLBw2x:Hid (LB w2x B 0 (dg 0) [] 115):=by rw[←hw2x,←hB];exact HNEW.out _
      have hgeB:H3≤B:=by rw[←hB];exact HSw1x.out.2.2
      have HLAw2x:Hid (LB w2x A 0 (dg 0) [] 115):=by rw[←hw2x];exact HLAw1x.out.alloc _
      have hneAB:A<B:=by rw[←hB];exact HLAw1x.out.lt
      clear hB hw2x
      refine hK.out _ _ ⟨HSw2x.out.1,HSw2x.out.2.1⟩ (fun hHeld=>?_)
      clear hK K
      refine nmH ?_
      refine rdH 2 rfl (fun K hK=>?_)
      go_simp
      refine(largeOf_one _).mono ?_
      rintro e wf ⟨rfl,hb7⟩
      have HSwf:Hid (LB wf N c (dg V) [.int .i64 (beh:Int)] 246∧Below H3 w3 wf∧H3≤wf.heap.size):=⟨(hb7.block N HSw2x.out.1.lt).trans HSw2x.out.1,HSw2x.out.2.1.trans (hb7.mono HSw2x.out.2.2),Nat.le_trans HSw2x.out.2.2 hb7.size⟩
      have HLAwf:Hid (LB wf A 0 (dg 0) [] 115):=(hb7.block A HLAw2x.out.lt).trans HLAw2x.out
      have HLBwf:Hid (LB wf B 0 (dg 0) [] 115):=(hb7.block B HLBw2x.out.lt).trans HLBw2x.out
      clear hb7
      dsimp only
      refine hK.out _ _ ⟨HSwf.out.1,HSwf.out.2.1⟩ (fun hHeld=>?_)
      clear hK K
      try simp only[Act.put]
      try simp only[List.setIfInBounds_toArray]
      try simp only[List.set_cons_succ]
      try simp only[List.set_cons_zero]
      have hab:A≠B:=by omega
      refine rdH 5 rfl (fun K hK=>?_)
      have hs5:=HLAwf.out.cells c (dg V)
      have hln5:=lgL_length c (dg V)
      go_simp
      obtain⟨wg,hwg⟩:∃wg,wf.setRow A (lgL c (dg V)).toArray=wg:=⟨_,rfl⟩
      rw[hwg]
      have hmg:Mod A wf wg:=by rw[←hwg];exact(Mod.refl A wf).setRow _
      have HAg:Hid (LB wg A c (dg V) [] 115):=by rw[←hwg];exact HLAwf.out.stored
      have HBg:Hid (LB wg B 0 (dg 0) [] 115):=HLBwf.out.other hmg (Ne.symm hab)
      have HXg:Hid (LB wg N c (dg V) [.int .i64 (beh:Int)] 246):=HSwf.out.1.other hmg (by omega)
      have HBWg:Hid (Below H3 w3 wg∧H3≤wg.heap.size):=⟨HSwf.out.2.1.trans (hmg.below hgeA HSwf.out.2.2),Nat.le_trans HSwf.out.2.2 hmg.size⟩
      clear hs5 hln5 hwg hmg
      refine hK.out _ _ ⟨HXg.out,HBWg.out.1⟩ (fun hHeld=>?_)
      clear hK K
      unfold lgV
      refine rdH 6 rfl (fun K hK=>?_)
      have hs6:=HBg.out.cells 1 (dg 1)
      have hln6:=lgL_length 1 (dg 1)
      go_simp
      obtain⟨wh,hwh⟩:∃wh,wg.setRow B (lgL 1 (dg 1)).toArray=wh:=⟨_,rfl⟩
      rw[hwh]
      have hmh:Mod B wg wh:=by rw[←hwh];exact(Mod.refl B wg).setRow _
      have HAh:Hid (LB wh A c (dg V) [] 115):=HAg.out.other hmh hab
      have HBh:Hid (LB wh B 1 (dg 1) [] 115):=by rw[←hwh];exact HBg.out.stored
      have HXh:Hid (LB wh N c (dg V) [.int .i64 (beh:Int)] 246):=HXg.out.other hmh (by omega)
      have HBWh:Hid (Below H3 w3 wh∧H3≤wh.heap.size):=⟨HBWg.out.1.trans (hmh.below hgeB HBWg.out.2),Nat.le_trans HBWg.out.2 hmh.size⟩
      clear hs6 hln6 hwh hmh
      refine hK.out _ _ ⟨HXh.out,HBWh.out.1⟩ (fun hHeld=>?_)
      clear hK K
      refine wpAnyH_done (by kernel_rfl) ?_ _
      go_wp2
      go_meet
      case rel=>exact⟨A,B,rfl,rfl,hab,hgeA,hgeB,HAh.out,HBh.out,HBWh.out⟩
     refine AllReadyH.cons (o:=_) rfl (fun K hK=>?_) AllReadyH.nil
     go_simp
     obtain⟨B,hB⟩:∃B,wa.heap.size=B:=⟨_,rfl⟩
     obtain⟨w1x,hw1x⟩:∃w1x,wa.alloc (.cells D 115)=w1x:=⟨_,rfl⟩
     rw[hB,hw1x]
     have HSw1x:Hid (LB w1x N c (dg V) [.int .i64 (beh:Int)] 246∧Below H3 w3 w1x∧H3≤w1x.heap.size):=by rw[←hw1x];exact⟨HS0.out.1.alloc _,HS0.out.2.1.alloc HS0.out.2.2 _,by have:=HS0.out.2.2;simp;omega⟩
     have HLBw1x:Hid (LB w1x B 0 (dg 0) [] 115):=by rw[←hw1x,←hB];exact HNEW.out _
     have hgeB:H3≤B:=by rw[←hB];exact HS0.out.2.2
     clear hB hw1x
     refine hK.out _ _ ⟨HSw1x.out.1,HSw1x.out.2.1⟩ (fun hHeld=>?_)
     clear hK K
     refine nmH ?_
     refine wpAnyH_ready (rs:=[2,3]) (by kernel_rfl) (by simp) ?_
     refine AllReadyH.cons (o:=_) rfl (fun K hK=>?_) ?_
     ·go_simp
      refine(largeOf_one _).mono ?_
      rintro e w2x ⟨rfl,hb7⟩
      have HSw2x:Hid (LB w2x N c (dg V) [.int .i64 (beh:Int)] 246∧Below H3 w3 w2x∧H3≤w2x.heap.size):=⟨(hb7.block N HSw1x.out.1.lt).trans HSw1x.out.1,HSw1x.out.2.1.trans (hb7.mono HSw1x.out.2.2),Nat.le_trans HSw1x.out.2.2 hb7.size⟩
      have HLBw2x:Hid (LB w2x B 0 (dg 0) [] 115):=(hb7.block B HLBw1x.out.lt).trans HLBw1x.out
      clear hb7
      dsimp only
      refine hK.out _ _ ⟨HSw2x.out.1,HSw2x.out.2.1⟩ (fun hHeld=>?_)
      clear hK K
      refine nmH ?_
      refine rdH 3 rfl (fun K hK=>?_)
      go_simp
      obtain⟨A,hA⟩:∃A,w2x.heap.size=A:=⟨_,rfl⟩
      obtain⟨wf,hwf⟩:∃wf,w2x.alloc (.cells D 115)=wf:=⟨_,rfl⟩
      rw[hA,hwf]
      have HSwf:Hid (LB wf N c (dg V) [.int .i64 (beh:Int)] 246∧Below H3 w3 wf∧H3≤wf.heap.size):=by rw[←hwf];exact⟨HSw2x.out.1.alloc _,HSw2x.out.2.1.alloc HSw2x.out.2.2 _,by have:=HSw2x.out.2.2;simp;omega⟩
      have HLAwf:Hid (LB wf A 0 (dg 0) [] 115):=by rw[←hwf,←hA];exact HNEW.out _
      have hgeA:H3≤A:=by rw[←hA];exact HSw2x.out.2.2
      have HLBwf:Hid (LB wf B 0 (dg 0) [] 115):=by rw[←hwf];exact HLBw2x.out.alloc _
      have hneBA:B<A:=by rw[←hA];exact HLBw2x.out.lt
      clear hA hwf
      refine hK.out _ _ ⟨HSwf.out.1,HSwf.out.2.1⟩ (fun hHeld=>?_)
      clear hK K
      try simp only[Act.put]
      try simp only[List.setIfInBounds_toArray]
      try simp only[List.set_cons_succ]
      try simp only[List.set_cons_zero]
      have hab:A≠B:=by omega
      refine rdH 5 rfl (fun K hK=>?_)
      have hs5:=HLAwf.out.cells c (dg V)
      have hln5:=lgL_length c (dg V)
      go_simp
      obtain⟨wg,hwg⟩:∃wg,wf.setRow A (lgL c (dg V)).toArray=wg:=⟨_,rfl⟩
      rw[hwg]
      have hmg:Mod A wf wg:=by rw[←hwg];exact(Mod.refl A wf).setRow _
      have HAg:Hid (LB wg A c (dg V) [] 115):=by rw[←hwg];exact HLAwf.out.stored
      have HBg:Hid (LB wg B 0 (dg 0) [] 115):=HLBwf.out.other hmg (Ne.symm hab)
      have HXg:Hid (LB wg N c (dg V) [.int .i64 (beh:Int)] 246):=HSwf.out.1.other hmg (by omega)
      have HBWg:Hid (Below H3 w3 wg∧H3≤wg.heap.size):=⟨HSwf.out.2.1.trans (hmg.below hgeA HSwf.out.2.2),Nat.le_trans HSwf.out.2.2 hmg.size⟩
      clear hs5 hln5 hwg hmg
      refine hK.out _ _ ⟨HXg.out,HBWg.out.1⟩ (fun hHeld=>?_)
      clear hK K
      unfold lgV
      refine rdH 6 rfl (fun K hK=>?_)
      have hs6:=HBg.out.cells 1 (dg 1)
      have hln6:=lgL_length 1 (dg 1)
      go_simp
      obtain⟨wh,hwh⟩:∃wh,wg.setRow B (lgL 1 (dg 1)).toArray=wh:=⟨_,rfl⟩
      rw[hwh]
      have hmh:Mod B wg wh:=by rw[←hwh];exact(Mod.refl B wg).setRow _
      have HAh:Hid (LB wh A c (dg V) [] 115):=HAg.out.other hmh hab
      have HBh:Hid (LB wh B 1 (dg 1) [] 115):=by rw[←hwh];exact HBg.out.stored
      have HXh:Hid (LB wh N c (dg V) [.int .i64 (beh:Int)] 246):=HXg.out.other hmh (by omega)
      have HBWh:Hid (Below H3 w3 wh∧H3≤wh.heap.size):=⟨HBWg.out.1.trans (hmh.below hgeB HBWg.out.2),Nat.le_trans HBWg.out.2 hmh.size⟩
      clear hs6 hln6 hwh hmh
      refine hK.out _ _ ⟨HXh.out,HBWh.out.1⟩ (fun hHeld=>?_)
      clear hK K
      refine wpAnyH_done (by kernel_rfl) ?_ _
      go_wp2
      go_meet
      case rel=>exact⟨A,B,rfl,rfl,hab,hgeA,hgeB,HAh.out,HBh.out,HBWh.out⟩
     refine AllReadyH.cons (o:=_) rfl (fun K hK=>?_) AllReadyH.nil
     go_simp
     obtain⟨A,hA⟩:∃A,w1x.heap.size=A:=⟨_,rfl⟩
     obtain⟨w2x,hw2x⟩:∃w2x,w1x.alloc (.cells D 115)=w2x:=⟨_,rfl⟩
     rw[hA,hw2x]
     have HSw2x:Hid (LB w2x N c (dg V) [.int .i64 (beh:Int)] 246∧Below H3 w3 w2x∧H3≤w2x.heap.size):=by rw[←hw2x];exact⟨HSw1x.out.1.alloc _,HSw1x.out.2.1.alloc HSw1x.out.2.2 _,by have:=HSw1x.out.2.2;simp;omega⟩
     have HLAw2x:Hid (LB w2x A 0 (dg 0) [] 115):=by rw[←hw2x,←hA];exact HNEW.out _
     have hgeA:H3≤A:=by rw[←hA];exact HSw1x.out.2.2
     have HLBw2x:Hid (LB w2x B 0 (dg 0) [] 115):=by rw[←hw2x];exact HLBw1x.out.alloc _
     have hneBA:B<A:=by rw[←hA];exact HLBw1x.out.lt
     clear hA hw2x
     refine hK.out _ _ ⟨HSw2x.out.1,HSw2x.out.2.1⟩ (fun hHeld=>?_)
     clear hK K
     refine nmH ?_
     refine rdH 2 rfl (fun K hK=>?_)
     go_simp
     refine(largeOf_one _).mono ?_
     rintro e wf ⟨rfl,hb7⟩
     have HSwf:Hid (LB wf N c (dg V) [.int .i64 (beh:Int)] 246∧Below H3 w3 wf∧H3≤wf.heap.size):=⟨(hb7.block N HSw2x.out.1.lt).trans HSw2x.out.1,HSw2x.out.2.1.trans (hb7.mono HSw2x.out.2.2),Nat.le_trans HSw2x.out.2.2 hb7.size⟩
     have HLBwf:Hid (LB wf B 0 (dg 0) [] 115):=(hb7.block B HLBw2x.out.lt).trans HLBw2x.out
     have HLAwf:Hid (LB wf A 0 (dg 0) [] 115):=(hb7.block A HLAw2x.out.lt).trans HLAw2x.out
     clear hb7
     dsimp only
     refine hK.out _ _ ⟨HSwf.out.1,HSwf.out.2.1⟩ (fun hHeld=>?_)
     clear hK K
     try simp only[Act.put]
     try simp only[List.setIfInBounds_toArray]
     try simp only[List.set_cons_succ]
     try simp only[List.set_cons_zero]
     have hab:A≠B:=by omega
     refine rdH 5 rfl (fun K hK=>?_)
     have hs5:=HLAwf.out.cells c (dg V)
     have hln5:=lgL_length c (dg V)
     go_simp
     obtain⟨wg,hwg⟩:∃wg,wf.setRow A (lgL c (dg V)).toArray=wg:=⟨_,rfl⟩
     rw[hwg]
     have hmg:Mod A wf wg:=by rw[←hwg];exact(Mod.refl A wf).setRow _
     have HAg:Hid (LB wg A c (dg V) [] 115):=by rw[←hwg];exact HLAwf.out.stored
     have HBg:Hid (LB wg B 0 (dg 0) [] 115):=HLBwf.out.other hmg (Ne.symm hab)
     have HXg:Hid (LB wg N c (dg V) [.int .i64 (beh:Int)] 246):=HSwf.out.1.other hmg (by omega)
     have HBWg:Hid (Below H3 w3 wg∧H3≤wg.heap.size):=⟨HSwf.out.2.1.trans (hmg.below hgeA HSwf.out.2.2),Nat.le_trans HSwf.out.2.2 hmg.size⟩
     clear hs5 hln5 hwg hmg
     refine hK.out _ _ ⟨HXg.out,HBWg.out.1⟩ (fun hHeld=>?_)
     clear hK K
     unfold lgV
     refine rdH 6 rfl (fun K hK=>?_)
     have hs6:=HBg.out.cells 1 (dg 1)
     have hln6:=lgL_length 1 (dg 1)
     go_simp
     obtain⟨wh,hwh⟩:∃wh,wg.setRow B (lgL 1 (dg 1)).toArray=wh:=⟨_,rfl⟩
     rw[hwh]
     have hmh:Mod B wg wh:=by rw[←hwh];exact(Mod.refl B wg).setRow _
     have HAh:Hid (LB wh A c (dg V) [] 115):=HAg.out.other hmh hab
     have HBh:Hid (LB wh B 1 (dg 1) [] 115):=by rw[←hwh];exact HBg.out.stored
     have HXh:Hid (LB wh N c (dg V) [.int .i64 (beh:Int)] 246):=HXg.out.other hmh (by omega)
     have HBWh:Hid (Below H3 w3 wh∧H3≤wh.heap.size):=⟨HBWg.out.1.trans (hmh.below hgeB HBWg.out.2),Nat.le_trans HBWg.out.2 hmh.size⟩
     clear hs6 hln6 hwh hmh
     refine hK.out _ _ ⟨HXh.out,HBWh.out.1⟩ (fun hHeld=>?_)
     clear hK K
     refine wpAnyH_done (by kernel_rfl) ?_ _
     go_wp2
     go_meet
     case rel=>exact⟨A,B,rfl,rfl,hab,hgeA,hgeB,HAh.out,HBh.out,HBWh.out⟩
    case rest=>
     obtain⟨A,B,rfl,rfl,hab,hgeA,hgeB,HAh,HBh,HBWh⟩:=hcut
     by_cases hq:Q<0
     ·obtain⟨K5,hK5⟩:∃K5:Nat,-Q=(K5:Int):=⟨(-Q).toNat,by omega⟩
      have hK6:K5≤1530:=by have:=HQ.out;omega
      have HF5:Hid (1*5 ^ K5<be ^ 151∧bitLen (1*5 ^ K5)≤4798):=five_facts K5 hK6
      have HFV:Hid (bitLen V≤4798):=ten_own V _ HV.out (by omega)
      have HPS:Hid (0<1*5 ^ K5):=Nat.mul_pos (by omega) (Nat.pow_pos (by omega))
      have HRS:Hid _:=fun(_:Unit)=>raise_any B 1 5 K5 [] 115 wc ⟨1,by omega,cnt_one1,HBh.out⟩ (by omega) (by omega) (by omega) HF5.out.1
      have HWX:Hid (quoW V (1*5 ^ K5) 0 K5=decW 10 V (P-(beh:Int))):=quo_dec_lo V K5 _ _ Q HV.out (by omega) HQ.out hK5
      obtain⟨F,hF⟩:∃F,1*5 ^ K5=F:=⟨_,rfl⟩
      rw[hF]at HF5 HPS HRS HWX
      clear hF
      rw[show((5:Nat):Int)=5 from rfl]at HRS
      go_wp2_with fail
      refine(HRS.out ()).mono ?_
      rintro e wi ⟨rfl,hmi,hgi⟩
      obtain⟨c2,hc2,hk2,hl2⟩:=hgi
      have HAi:Hid (LB wi A c (dg V) [] 115):=HAh.out.other hmi hab
      have HBi:Hid (LB wi B c2 (dg F) [] 115):=hl2
      have HBWi:Hid (Below H3 w3 wi∧H3≤wi.heap.size):=⟨HBWh.out.1.trans (hmi.below hgeB HBWh.out.2),Nat.le_trans HBWh.out.2 hmi.size⟩
      have HNE:Hid (∀W',Calls Tryz.prog 152 #[.bool neg,.agg (lgL c (dg V)).toArray,.agg (lgL c2 (dg F)).toArray,.int .i64 Q] W' fun e w''=>e=.returned (.float .f64 (signBit neg+decW 10 V (P-(beh:Int))))∧Below W'.heap.size W' w''):=fun W'=>by
       rw[←HWX.out]
       exact nearest_any neg V F c c2 0 K5 Q W' HCN.out hc hk2 hc2 HPS.out HFV.out HF5.out.2 (by omega) (by omega) (by omega)
      clear hmi hk2 hl2
      go_upto_region 12 with fail
      refine wp_region_list ?_
      refine wpList_plain rfl fun K hK=>?_
      go_simp
      refine hK _ _ ?_
      clear hK K
      refine wpList_load_mid rfl _ _ rfl A 0 rfl _ d9 HAi.out.range hd9 hr9 (by rw[lgL_length];exact lg_size) ?_
      refine wpList_load_mid rfl _ _ rfl B 0 rfl _ d9 HBi.out.range hd9 hr9 (by rw[lgL_length];exact lg_size) ?_
      try simp only[Act.put]
      try simp only[List.setIfInBounds_toArray]
      try simp only[List.set_cons_succ]
      try simp only[List.set_cons_zero]
      go_wp2_with fail
      refine(HNE.out _).mono ?_
      rintro e wj ⟨rfl,hbj⟩
      have HBj:Hid (Below w3.heap.size w3 wj):=by rw[hH3];exact HBWi.out.1.trans (hbj.mono HBWi.out.2)
      clear hbj
      go_wp2
      go_ret2
      exact⟨_,none,j2,⟨V,beh,none,j1,HDR.out,.inr ⟨rfl,P,none,HPW2.out,.inr ⟨rfl,rfl,by rw[if_neg (by decide)]⟩⟩⟩,hj2,rfl,HR3.out.below HBj.out,HM3.out.trans (Mod.of_below HBj.out)⟩
     ·obtain⟨K5,hK5⟩:∃K5:Nat,Q=(K5:Int):=⟨Q.toNat,by omega⟩
      have hq':decide (Q<0)=false:=decide_eq_false hq
      have hK6:K5≤310:=by have:=HQ.out;omega
      subst hK5
      have HF5:Hid (V*5 ^ K5<be ^ 151∧bitLen (V*5 ^ K5)≤4798):=ten_facts V K5 _ HV.out (by omega) hK6
      have HRS:Hid _:=fun(_:Unit)=>raise_any A V 5 K5 [] 115 wc ⟨c,hc,HCN.out,HAh.out⟩ (by omega) (by omega) (by omega) HF5.out.1
      have HWX:Hid (quoW (V*5 ^ K5) 1 K5 0=decW 10 V (P-(beh:Int))):=quo_dec_hi V K5 _ _ (K5:Int) HV.out (by omega) HQ.out rfl
      obtain⟨F,hF⟩:∃F,V*5 ^ K5=F:=⟨_,rfl⟩
      rw[hF]at HF5 HRS HWX
      clear hF
      rw[show((5:Nat):Int)=5 from rfl]at HRS
      go_wp2_with fail
      refine(HRS.out ()).mono ?_
      rintro e wi ⟨rfl,hmi,hgi⟩
      obtain⟨c2,hc2,hk2,hl2⟩:=hgi
      have HAi:Hid (LB wi A c2 (dg F) [] 115):=hl2
      have HBi:Hid (LB wi B 1 (dg 1) [] 115):=HBh.out.other hmi (Ne.symm hab)
      have HBWi:Hid (Below H3 w3 wi∧H3≤wi.heap.size):=⟨HBWh.out.1.trans (hmi.below hgeA HBWh.out.2),Nat.le_trans HBWh.out.2 hmi.size⟩
      have HNE:Hid (∀W',Calls Tryz.prog 152 #[.bool neg,.agg (lgL c2 (dg F)).toArray,.agg (lgL 1 (dg 1)).toArray,.int .i64 (K5:Int)] W' fun e w''=>e=.returned (.float .f64 (signBit neg+decW 10 V (P-(beh:Int))))∧Below W'.heap.size W' w''):=fun W'=>by
       rw[←HWX.out]
       exact nearest_any neg F 1 c2 1 K5 0 (K5:Int) W' hk2 hc2 cnt_one1 (by omega) (by omega) HF5.out.2 (by decide) (by omega) (by omega) (by omega)
      clear hmi hk2 hl2
      go_upto_region 12 with fail
      refine wp_region_list ?_
      refine wpList_plain rfl fun K hK=>?_
      go_simp
      refine hK _ _ ?_
      clear hK K
      refine wpList_load_mid rfl _ _ rfl A 0 rfl _ d9 HAi.out.range hd9 hr9 (by rw[lgL_length];exact lg_size) ?_
      refine wpList_load_mid rfl _ _ rfl B 0 rfl _ d9 HBi.out.range hd9 hr9 (by rw[lgL_length];exact lg_size) ?_
      try simp only[Act.put]
      try simp only[List.setIfInBounds_toArray]
      try simp only[List.set_cons_succ]
      try simp only[List.set_cons_zero]
      go_wp2_with fail
      refine(HNE.out _).mono ?_
      rintro e wj ⟨rfl,hbj⟩
      have HBj:Hid (Below w3.heap.size w3 wj):=by rw[hH3];exact HBWi.out.1.trans (hbj.mono HBWi.out.2)
      clear hbj
      go_wp2
      go_ret2
      exact⟨_,none,j2,⟨V,beh,none,j1,HDR.out,.inr ⟨rfl,P,none,HPW2.out,.inr ⟨rfl,rfl,by rw[if_neg (by decide)]⟩⟩⟩,hj2,rfl,HR3.out.below HBj.out,HM3.out.trans (Mod.of_below HBj.out)⟩
end Go.Proofs.YtenbfookfcmpoaaGreatDoor
namespace Go.Proofs.YtenbfookfcmpoaaGreatDoor
open Go.RowKit
theorem fin_none{s:ByteArray}{b k:Nat}{V beh j:Nat}(h:DgR b s k V beh none j):∃p ds e,Run b s k p∧k<p∧Frac b s k p (some (ds,e,j))∧V=valN b ds.data.toList∧e = -(beh:Int):=by
 obtain⟨p,hr,h⟩:=h
 rcases h with⟨_,h,_⟩|⟨hk,⟨hb,_,rfl,rfl,rfl⟩|⟨hb,i,hi,⟨_,h,_⟩|⟨hl,_,rfl,rfl,rfl⟩⟩⟩
 ·cases h
 ·exact⟨_,_,0,hr,hk,.inl ⟨hb,rfl⟩,rfl,by simp⟩
 ·cases h
 ·exact⟨p,_,_,hr,hk,.inr ⟨hb,_,hi,.inr ⟨hl,rfl⟩⟩,rfl,rfl⟩
theorem fin_some{s:ByteArray}{b k:Nat}{V beh j a:Nat}(h:DgR b s k V beh (some a) j):(Run b s k k∧a=k)∨∃p,Run b s k p∧k<p∧Frac b s k p none∧a=p+1:=by
 obtain⟨p,hr,h⟩:=h
 rcases h with⟨rfl,h,_⟩|⟨hk,⟨_,h,_⟩|⟨hb,i,hi,⟨rfl,h,_⟩|⟨_,h,_⟩⟩⟩
 ·exact .inl ⟨hr,Option.some.inj h⟩
 ·cases h
 ·exact .inr ⟨p,hr,hk,.inr ⟨hb,_,hi,.inl ⟨rfl,rfl⟩⟩,Option.some.inj h⟩
 ·cases h
theorem pow_none{m:Int}{s:ByteArray}{j i:Nat}{P:Int}(h:Pow m s j P none i):∃n,Expo m s j (.inl (n,i))∧(P=n∨(100000≤P∧n=100000)∨(P≤-100000∧n = -100000)):=by
 rcases h with⟨hb,rfl,_,rfl⟩|⟨hb,neg,k,hs,hr,⟨_,_,h⟩|⟨hk,_,N,hc,rfl⟩⟩
 ·exact⟨0,.inl ⟨hb,rfl⟩,.inl rfl⟩
 ·cases h
 ·refine⟨expV neg (runV 10 s k i),.inr ⟨hb,neg,k,i,hs,hr,.inr ⟨hk,rfl⟩⟩,?_⟩
  unfold expV cap
  rcases hc with⟨h1,rfl⟩|⟨h1,h2,h3⟩
  ·by_cases h:runV 10 s k i≤100000
   ·left;rw[Nat.min_eq_left h]
   ·rw[Nat.min_eq_right (by omega)]
    cases neg
    ·right;left;simp;omega
    ·right;right;simp;omega
  ·rw[Nat.min_eq_right (by omega)]
   cases neg
   ·right;left;simp;omega
   ·right;right;simp;omega
theorem pow_some{m:Int}{s:ByteArray}{j i a:Nat}{P:Int}(h:Pow m s j P (some a) i):Expo m s j (.inr a):=by
 rcases h with⟨hb,_,h,_⟩|⟨hb,neg,k,hs,hr,⟨rfl,_,h⟩|⟨_,h,_⟩⟩
 ·cases h
 ·have:=Option.some.inj h
  subst this
  exact .inr ⟨hb,neg,_,_,hs,hr,.inl ⟨rfl,rfl⟩⟩
 ·cases h
theorem dec_far(V n:Nat)(e P k:Int)(hV:V<10 ^ n)(hn:n≤1200)(he:-1200≤e)(he':e≤0)(h:P=k∨(100000≤P∧k=100000)∨(P≤-100000∧k = -100000)):decW 10 V (P+e)=decW 10 V (e+k):=by
 rw[dec_clamp V (P+e) n hV hn,dec_clamp V (e+k) n hV hn]
 congr 1
 omega
theorem fw_far(V L:Nat)(e P k:Int)(hV:V<2 ^ L)(hL:L≤5000)(he:-5000≤e)(he':e≤0)(h:P=k∨(100000≤P∧k=100000)∨(P≤-100000∧k = -100000)):fw false V (P+e)=fw false V (e+k):=by
 rcases h with rfl|⟨h1,rfl⟩|⟨h1,rfl⟩
 ·congr 1;omega
 ·by_cases h0:V=0
  ·subst h0;rw[fw_zero,fw_zero]
  ·rw[fw_over false V (P+e) _ (by omega) rfl (by omega),fw_over false V (e+100000) _ (by omega) rfl (by omega)]
 ·by_cases h0:V=0
  ·subst h0;rw[fw_zero,fw_zero]
  ·have hl:V.log2<L:=(Nat.log2_lt h0).2 hV
   rw[fw_low false V (P+e) (by omega),fw_low false V (e + -100000) (by omega)]
theorem quo_hex(V:Nat)(Q:Int):quoW V 1 Q.toNat (-Q).toNat=fw false V Q:=by
 unfold quoW
 by_cases h:V=0
 ·subst h;rw[if_pos rfl,fw_zero];rfl
 ·rw[if_neg h,Nat.one_mul,ratioW_fw V Q.toNat (-Q).toNat (by omega)]
  congr 1
  omega
end Go.Proofs.YtenbfookfcmpoaaGreatDoor
namespace Go.Proofs.YtenbfookfcmpoaaGreatDoor
open Go.ChangeShapes Go.WideShapes Go.RowKit
open Ieee (double)
def Flo(s:ByteArray)(fl:Nat→Prop)(r:Option Nat)(j:Nat):Prop:=
 ∃neg k,Sgn s 0 neg k∧(
  (∃nan,bAt s k=wordC nan 0∧Wrd nan s k r j∧fl=(if nan then IsNan else (· = iw neg))) ∨
  (bAt s k≠105∧bAt s k≠110∧∃b k1 x,(b=10∨b=16)∧Bas s k b k1∧Fin b (markOf b) s k1 neg x r j∧fl=(· = x)))
theorem nan_here:IsNan (signBit false+(2047*4503599627370496+2251799813685248)):=⟨_,_,rfl⟩
theorem nan_eq{x:Nat}(h:(fun z=>z=x)=IsNan):x<18446744073709551616:=by
 have h1:(signBit false+(2047*4503599627370496+2251799813685248)=x)=IsNan _:=congrFun h _
 have h2:=nan_here
 rw[←h1]at h2
 rw[←h2]
 decide
theorem nan_if{x:Nat}(r:Option Nat)(h:(fun z=>z=x)=IsNan):(if r=none then x else 0)<18446744073709551616:=by
 have:=nan_eq h
 split<;>omega
def FloQ(G:Nat)(s:ByteArray)(w:World)(e:Ending)(w':World):Prop:=
 ∃fl r j x,Flo s fl r j∧(r=none→fl x)∧(fl=IsNan→x<18446744073709551616)∧j≤s.size∧e=.returned (.tuple #[.float .f64 x,errV r])∧Rr w' G s j∧Mod G w w'
theorem wrd_le{nan:Bool}{s:ByteArray}{k j:Nat}{r:Option Nat}(hk:k≤s.size)(h:Wrd nan s k r j):j≤s.size:=by
 obtain⟨i,h1,h2,rfl,_⟩:=h
 rcases Nat.eq_zero_or_pos i with rfl|hp
 ·omega
 ·have h3:=h2 (i-1) (by omega)
  rcases Nat.lt_or_ge (k+(i-1)) s.size with h|h
  ·omega
  ·rw[bAt_out s _ (by omega)]at h3
   exfalso
   have:i-1=0∨i-1=1∨i-1=2:=by omega
   unfold wordC at h3
   rcases this with e|e|e<;>rw[e]at h3<;>cases nan<;>simp at h3
set_option maxHeartbeats 2000000 in
set_option maxRecDepth 100000 in
theorem rfloat_any(G:Nat)(s:ByteArray)(w:World)(h:Rr w G s 0)(hs:s.size≤1200) :
  Calls Tryz.prog 106 #[.pointer (some ⟨G,0,none⟩)] w (FloQ G s w):=by
 obtain⟨neg,k,hsg⟩:=sgn_any s 0
 have hk:=sgn_le s 0 neg k hsg (by omega)
 have HSG:Hid (Sgn s 0 neg k):=hsg
 have HSI:Hid _:=fun(_:Unit)=>rsign_any G 0 s w h (by omega) hs neg k hsg
 have HSE:Hid (∀ (W:World) (c:UInt8),c.toNat≠0→Rr W G s k→Calls Tryz.prog 81 #[.pointer (some ⟨G,0,none⟩),.string ⟨#[c]⟩] W fun e w'=>e=.returned (.bool (decide (bAt s k=(c.toNat:Int))))∧∃n,w'=W.drewN n):=fun W c hc hr=>by
  rw[←pre_one s k c hc];exact sees_any G k s ⟨#[c]⟩ W hr hk
 have HSX:Hid (∀ (W:World),Rr W G s k→Calls Tryz.prog 81 #[.pointer (some ⟨G,0,none⟩),.string ⟨#[48,120]⟩] W fun e w'=>e=.returned (.bool (decide (bAt s k=48∧k+1<s.size∧bAt s (k+1)=120)))∧∃n,w'=W.drewN n):=fun W hr=>by
  have h2:=pre_two s k 48 120
  have h3:=sees_any G k s ⟨#[48,120]⟩ W hr hk
  rw[h2]at h3;exact h3
 clear h hsg
 go_enter Tryz.func106,Tryz.ntmps106
 go_wp2_with fail
 refine(HSI.out ()).mono ?_
 rintro e w1 ⟨rfl,hr1,hm1⟩
 have HR1:Hid (Rr w1 G s k):=hr1
 have HM1:Hid (Mod G w w1):=hm1
 clear hr1 hm1 HSI
 by_cases hi:bAt s k=105
 ·have HC:Hid _:=fun(_:Unit)=>HSE.out w1 105 (by decide) HR1.out
  rw[show((105:UInt8).toNat:Int)=105 from rfl,decide_eq_true hi]at HC
  have HW0:Hid (bAt s k=wordC false 0):=hi
  clear hi HSE HSX
  go_wp2_with fail
  refine(HC.out ()).mono ?_
  rintro e w2 ⟨rfl,n,rfl⟩
  have HE:Hid (∀W,Rr W G s k→Calls Tryz.prog 133 #[.pointer (some ⟨G,0,none⟩),.string ⟨#[105,110,102]⟩] W fun e w'=>∃r j,Wrd false s k r j∧e=.returned (errV r)∧Rr w' G s j∧Mod G W w'):=fun W hr=>expect_any false G k s W hr hk hs
  have HF:Hid (∀W,Calls Tryz.prog 56 #[.agg #[.bool neg,.int .u64 2047,.int .u64 0]] W fun e w'=>e=.returned (.float .f64 (iw neg))∧Below W.heap.size W w'):=fun W=>float_inf neg W
  go_wp2_with fail
  refine(infinity_any _ _).mono ?_
  rintro e w3 ⟨rfl,rfl⟩
  go_wp2_with fail
  refine(HF.out _).mono ?_
  rintro e w4 ⟨rfl,hb4⟩
  have HR4:Hid (Rr w4 G s k):=Rr.below (Rr.alloc (w:=w1.drewN n) (show Rr _ G s k from HR1.out) _) hb4
  have HM4:Hid (Mod G w w4):=(Mod.alloc (w:=w1.drewN n) (show Mod G w _ from HM1.out) _).trans (Mod.of_below hb4)
  clear hb4
  go_wp2_with fail
  refine(HE.out _ HR4.out).mono ?_
  rintro e w5 ⟨r,j,hw,rfl,hr5,hm5⟩
  have H5:Hid (FloQ G s w (.returned (.tuple #[.float .f64 (iw neg),errV r])) w5):=⟨_,r,j,iw neg,⟨neg,k,HSG.out,.inl ⟨false,HW0.out,hw,rfl⟩⟩,fun _=>rfl,fun _=>by cases neg<;>decide,wrd_le hk hw,rfl,hr5,HM4.out.trans hm5⟩
  clear hw hr5 hm5
  go_wp2
  go_ret2
  exact H5.out
 ·have HC:Hid _:=fun(_:Unit)=>HSE.out w1 105 (by decide) HR1.out
  rw[show((105:UInt8).toNat:Int)=105 from rfl,decide_eq_false hi]at HC
  have HNI:Hid (bAt s k≠105):=hi
  clear hi
  go_wp2_with fail
  refine(HC.out ()).mono ?_
  rintro e w2 ⟨rfl,n,rfl⟩
  have HR2:Hid (Rr (w1.drewN n) G s k):=HR1.out
  have HM2:Hid (Mod G w (w1.drewN n)):=HM1.out
  generalize w1.drewN n=w2 at *
  clear HR1 HM1 HC
  by_cases hn:bAt s k=110
  ·have HC:Hid _:=fun(_:Unit)=>HSE.out w2 110 (by decide) HR2.out
   rw[show((110:UInt8).toNat:Int)=110 from rfl,decide_eq_true hn]at HC
   have HW0:Hid (bAt s k=wordC true 0):=hn
   clear hn HSE HSX
   go_wp2_with fail
   refine(HC.out ()).mono ?_
   rintro e w3 ⟨rfl,n3,rfl⟩
   have HE:Hid (∀W,Rr W G s k→Calls Tryz.prog 133 #[.pointer (some ⟨G,0,none⟩),.string ⟨#[110,97,110]⟩] W fun e w'=>∃r j,Wrd true s k r j∧e=.returned (errV r)∧Rr w' G s j∧Mod G W w'):=fun W hr=>expect_any true G k s W hr hk hs
   have HF:Hid (∀W,Calls Tryz.prog 56 #[.agg #[.bool false,.int .u64 2047,.int .u64 2251799813685248]] W fun e w'=>e=.returned (.float .f64 (signBit false+(2047*4503599627370496+2251799813685248)))∧Below W.heap.size W w'):=fun W=>by
    refine(float_any false 2047 2251799813685248 (by omega) (by omega) W).mono ?_
    rintro e w' ⟨rfl,rfl⟩
    exact⟨rfl,((Below.refl _ W).alloc (by simp) _).alloc (by simp) _⟩
   go_wp2_with fail
   refine(HF.out _).mono ?_
   rintro e w4 ⟨rfl,hb4⟩
   have HR4:Hid (Rr w4 G s k):=Rr.below (w:=w2.drewN n3) (show Rr _ G s k from HR2.out) hb4
   have HM4:Hid (Mod G w w4):=Mod.trans (b:=w2.drewN n3) (show Mod G w _ from HM2.out) (Mod.of_below hb4)
   clear hb4
   go_wp2_with fail
   refine(HE.out _ HR4.out).mono ?_
   rintro e w5 ⟨r,j,hw,rfl,hr5,hm5⟩
   have H5:Hid (FloQ G s w (.returned (.tuple #[.float .f64 (signBit false+(2047*4503599627370496+2251799813685248)),errV r])) w5):=⟨_,r,j,_,⟨neg,k,HSG.out,.inl ⟨true,HW0.out,hw,rfl⟩⟩,fun _=>nan_here,fun _=>by decide,wrd_le hk hw,rfl,hr5,HM4.out.trans hm5⟩
   clear hw hr5 hm5
   go_wp2
   go_ret2
   exact H5.out
  ·have HC:Hid _:=fun(_:Unit)=>HSE.out w2 110 (by decide) HR2.out
   rw[show((110:UInt8).toNat:Int)=110 from rfl,decide_eq_false hn]at HC
   have HNN:Hid (bAt s k≠110):=hn
   clear hn HSE
   go_wp2_with fail
   refine(HC.out ()).mono ?_
   rintro e w3 ⟨rfl,n3,rfl⟩
   have HR3:Hid (Rr (w2.drewN n3) G s k):=HR2.out
   have HM3:Hid (Mod G w (w2.drewN n3)):=HM2.out
   generalize w2.drewN n3=w3 at *
   clear HR2 HM2 HC
   have HX:Hid _:=fun(_:Unit)=>HSX.out w3 HR3.out
   by_cases hx:bAt s k=48∧k+1<s.size∧bAt s (k+1)=120
   ·rw[decide_eq_true hx]at HX
    have hk2:k+2≤s.size:=by omega
    have HBS:Hid (Bas s k 16 (k+2)):=.inl ⟨hx.1,hx.2.1,hx.2.2,rfl,rfl⟩
    clear hx HSX
    go_wp2_with fail
    refine(HX.out ()).mono ?_
    rintro e w4 ⟨rfl,n4,rfl⟩
    have hat:=Rr.at_ (w:=w3.drewN n4) HR3.out
    have hfr:=Rr.froz (w:=w3.drewN n4) HR3.out 1
    have HR4:Hid (Rr ((w3.drewN n4).setCell ⟨G,1,none⟩ (.int .i64 ((k:Int)+2))) G s (k+2)):=by
     have h:=Rr.set (w:=w3.drewN n4) HR3.out (k+2)
     rw[show((k+2:Nat):Int)=(k:Int)+2 by omega]at h
     exact h
    have HM4:Hid (Mod G w ((w3.drewN n4).setCell ⟨G,1,none⟩ (.int .i64 ((k:Int)+2)))):=Mod.setCell (w:=w3.drewN n4) (show Mod G w _ from HM3.out) _ _
    have hks:(k:Int)≤1200:=by omega
    have HH:Hid _:=fun(_:Unit)=>hex_any neg G (k+2) s _ HR4.out (by omega) hs (by omega)
    clear HX
    go_wp2_with fail
    refine(HH.out ()).mono ?_
    rintro e w5 ⟨x,r,j,hf,hj,rfl,hr5,hm5⟩
    have H5:Hid (FloQ G s w (.returned (.tuple #[.float .f64 (if r=none then x else 0),errV r])) w5):=⟨_,r,j,_,⟨neg,k,HSG.out,.inr ⟨HNI.out,HNN.out,16,k+2,x,.inr rfl,HBS.out,hf,rfl⟩⟩,fun h=>by rw[if_pos h],fun h=>nan_if r h,hj,rfl,hr5,HM4.out.trans hm5⟩
    clear hf hr5 hm5 hj HH
    generalize (if r=none then x else 0)=y at *
    generalize errV r=ev at *
    go_wp2
    go_ret2
    exact H5.out
   ·rw[decide_eq_false hx]at HX
    have HBS:Hid (Bas s k 10 k):=.inr ⟨hx,rfl,rfl⟩
    clear hx HSX
    go_wp2_with fail
    refine(HX.out ()).mono ?_
    rintro e w4 ⟨rfl,n4,rfl⟩
    have HH:Hid _:=fun(_:Unit)=>decimal_any neg G k s (w3.drewN n4) HR3.out hk hs
    clear HX
    go_wp2_with fail
    refine(HH.out ()).mono ?_
    rintro e w5 ⟨x,r,j,hf,hj,rfl,hr5,hm5⟩
    have H5:Hid (FloQ G s w (.returned (.tuple #[.float .f64 (if r=none then x else 0),errV r])) w5):=⟨_,r,j,_,⟨neg,k,HSG.out,.inr ⟨HNI.out,HNN.out,10,k,x,.inl rfl,HBS.out,hf,rfl⟩⟩,fun h=>by rw[if_pos h],fun h=>nan_if r h,hj,rfl,hr5,Mod.trans (b:=w3.drewN n4) (show Mod G w _ from HM3.out) hm5⟩
    clear hf hr5 hm5 hj HH
    generalize (if r=none then x else 0)=y at *
    generalize errV r=ev at *
    go_wp2
    go_ret2
    exact H5.out
end Go.Proofs.YtenbfookfcmpoaaGreatDoor
