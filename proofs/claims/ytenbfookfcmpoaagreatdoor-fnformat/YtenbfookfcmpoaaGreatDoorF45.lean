import Derived.Test.YtenbfookfcmpoaaGreatDoorF44
import Derived.Test.YtenbfookfcmpoaaGreatDoorF43
namespace Go.Proofs.YtenbfookfcmpoaaGreatDoor
open Go.ChangeShapes Go.WideShapes Go.RowKit
attribute [local go_sem] run_store_float
def ShB(w:World)(A:Nat)(k:Int)(s:Bool)(m e:Int)(D:Nat)(t:ByteArray)(z:Int)(W:World):Prop:=Box4 w A k s m e W∧W.cell? ⟨D,0,none⟩=some (.string t)∧W.cell? ⟨D,1,none⟩=some (.int .i64 z)
theorem ShB.drew{w W:World}{A:Nat}{k:Int}{s:Bool}{m e:Int}{D:Nat}{t:ByteArray}{z:Int}(h:ShB w A k s m e D t z W):ShB w A k s m e D t z W.drew:=⟨h.1.drew,h.2⟩
theorem ShB.next{w W W':World}{A:Nat}{k:Int}{s:Bool}{m e:Int}{D:Nat}{t:ByteArray}{z:Int}(h:ShB w A k s m e D t z W)(hb:Below W.heap.size W W'):ShB w A k s m e D t z W':=
 ⟨h.1.next hb,(hb.cell (lt_cell h.2.1)).trans h.2.1,(hb.cell (lt_cell h.2.2)).trans h.2.2⟩
theorem u64n_nat(q:Nat)(h:q≤9007199254740992):u64n (q:Int)=q:=by
 unfold u64n
 rw[IntKind.wrap_u64]
 omega
set_option maxHeartbeats 4000000 in
set_option maxRecDepth 100000 in
theorem implShort_any(x:Nat)(hx:x<18446744073709551616)(w:World)(hG:WrG w) :
  Calls Tryz.prog 11 #[.float .f64 x] w fun e w'=>∃t,shortV x t∧t.size≤5000∧e=.returned (.string t)∧Below w.heap.size w w':=by
 obtain⟨k,s,m,e,hp⟩:=parts_ex x hx
 obtain⟨q,rfl,hq,he1,he2⟩:=parts_mant x k s m e hp
 have HP:Hid _:=fun(_:Unit)=>implParts_of x hx k s q e hp w hG.1 hG.2.2.1
 have HPV:Hid (partsV x k s (q:Int) e):=hp
 have HG:Hid (WrG w):=hG
 obtain⟨X,hX⟩:∃X,fw false q e=X:=⟨_,rfl⟩
 have HN:Hid (∀W:World,Calls Tryz.prog 27 #[.bool false,.int .i64 (q:Int),.int .i64 e] W fun r w'=>r=.returned (.float .f64 X)∧Below W.heap.size W w'):=fun W=>by
  have:=implNear_any false (q:Int) e W
  rw[u64n_nat q hq,hX]at this
  exact this
 clear hp hG
 go_enter Tryz.func11,Tryz.ntmps11
 go_wp2_with fail
 refine(HP.out ()).mono ?_
 rintro r W1 ⟨rfl,hb1⟩
 obtain⟨A,hA⟩:∃A,W1.heap.size=A:=⟨_,rfl⟩
 obtain⟨W2,hW2⟩:∃W2,W1.alloc (.cells #[.int .i64 k,.bool s,.int .i64 (q:Int),.int .i64 e] 65)=W2:=⟨_,rfl⟩
 have HX2:Hid (Box4 w A k s (q:Int) e W2):=by rw[←hW2,←hA];exact Box4.new hb1
 have hc0:=HX2.out.2.1
 have hc1:=HX2.out.2.2.1
 have hc2:=HX2.out.2.2.2.1
 have hc3:=HX2.out.2.2.2.2
 clear hb1 HP
 go_wp2_with fail
 refine(HN.out _).mono ?_
 rintro r W3 ⟨rfl,hb3⟩
 obtain⟨P,hP⟩:∃P,W3.heap.size=P:=⟨_,rfl⟩
 obtain⟨W4,hW4⟩:∃W4,W3.alloc (.cells #[.float .f64 X] 29)=W4:=⟨_,rfl⟩
 have HX4:Hid (Box4 w A k s (q:Int) e W4):=by
  rw[←hW4]
  exact(HX2.out.next hb3).next ((Below.refl _ _).alloc (Nat.le_refl _) _)
 have hp4:W4.cell? ⟨P,0,none⟩=some (.float .f64 X):=by rw[←hW4,←hP];simp[go_sem]
 have HP4:Hid (W4.cell? ⟨P,0,none⟩=some (.float .f64 X)):=hp4
 have hd0:=HX4.out.2.1
 have hd1:=HX4.out.2.2.1
 have hd2:=HX4.out.2.2.2.1
 have hd3:=HX4.out.2.2.2.2
 have HD:Hid (Calls Tryz.prog 28 #[.agg #[.int .i64 k,.bool s,.int .i64 (q:Int),.int .i64 e]] W4 fun r w'=>∃ds y,Hid (DofR q e ds y)∧r=.returned (.agg #[.string ds,.int .i64 y])∧Below W4.heap.size W4 w'):=by
  have hg:=HG.out.below HX4.out.1
  refine(decimalOf_any k s q e hq (by omega) (by omega) W4 hg.2.1 hg.2.2.2).mono ?_
  rintro r w' ⟨ds,y,h1,h2,h3,h4,rfl,hb⟩
  exact⟨ds,y,⟨h1,h2,h3,h4⟩,rfl,hb⟩
 clear hb3 HN hc0 hc1 hc2 hc3 HX2
 go_wp2_with fail
 refine(HD.out).mono ?_
 rintro r W5 ⟨ds,y,HDR,rfl,hb5⟩
 have HX5:Hid (Box4 w A k s (q:Int) e W5):=HX4.out.next hb5
 have HP5:Hid (W5.cell? ⟨P,0,none⟩=some (.float .f64 X)):=(hb5.cell (lt_cell hp4)).trans hp4
 have HLE:Hid (Calls Tryz.prog 29 #[.agg #[.string ds,.int .i64 y],.func (.func 30) #[] #[.pointer (some ⟨P,0,none⟩)]] W5 fun r w'=>∃t z,Hid (LdR q e ds y t z)∧r=.returned (.agg #[.string t,.int .i64 z])∧Below W5.heap.size W5 w'):=
  least_ok x k s q e HPV.out ds y HDR.out ⟨P,0,none⟩ W5 (HG.out.below HX5.out.1) (by rw[hX];exact HP5.out)
 clear hb5 hp4 hd0 hd1 hd2 hd3 HD HP4 HX4 hW4 hP
 go_wp2_with fail
 refine(HLE.out).mono ?_
 rintro r W6 ⟨t,z,HLD,rfl,hb6⟩
 obtain⟨D,hD⟩:∃D,W6.heap.size=D:=⟨_,rfl⟩
 obtain⟨W7,hW7⟩:∃W7,W6.alloc (.cells #[.string t,.int .i64 z] 69)=W7:=⟨_,rfl⟩
 have HX7:Hid (ShB w A k s (q:Int) e D t z W7):=by
  rw[←hW7,←hD]
  exact⟨(HX5.out.next hb6).next ((Below.refl _ _).alloc (Nat.le_refl _) _),by simp[go_sem],by simp[go_sem]⟩
 obtain⟨u,hu,hus,hsg⟩:=short_signed x k s q e HPV.out ds y HDR.out t z HLD.out
 have HU:Hid (shortV x u∧u.size≤5000):=⟨hu,hus⟩
 have HSG:Hid _:=hsg
 have HB:Hid (t.size≤17∧-1201≤z∧z≤1201):=by
  rcases HLD.out with⟨_,rfl,rfl⟩|⟨_,d,_,_,a,b,c⟩
  ·exact⟨by decide,by decide,by decide⟩
  ·exact⟨a,b,c⟩
 have HF:Hid (∀W,ShB w A k s (q:Int) e D t z W→Calls Tryz.prog 32 #[.agg #[.string t,.int .i64 z]] W fun r w'=>∃F,Hid (ShF t z F)∧r=.returned F∧Hid (ShB w A k s (q:Int) e D t z w')):=fun W hW=>by
  have:=HB.out
  refine(shortForm_any t z (by omega) (by omega) (by omega) W).mono ?_
  rintro r w' ⟨F,hF,rfl,hb⟩
  exact⟨F,hF,rfl,hW.next hb⟩
 have hc0:=HX7.out.1.2.1
 have hc1:=HX7.out.1.2.2.1
 have hc2:=HX7.out.1.2.2.2.1
 have hc3:=HX7.out.1.2.2.2.2
 have hc4:=HX7.out.2.1
 have hc5:=HX7.out.2.2
 clear hb6 hu hus hsg HX5 HP5 HLE
 go_wp2
 refine wp_region_held_drew (S:=fun X'=>ShB w A k s (q:Int) e D t z X') (by kernel_rfl) HX7.out.drew (fun hHeld=>?_)
 refine tkH 0 ?v0 rfl ?_ ?y0
 case y0=>(intro w' hSw;obtain⟨⟨_,y0,y1,y2,y3⟩,y4,y5⟩:=hSw;go_simp;first|done|with_reducible rfl)
 refine tkH 1 ?v1 rfl ?_ ?y1
 case y1=>(intro w' hSw;obtain⟨⟨_,y0,y1,y2,y3⟩,y4,y5⟩:=hSw;go_simp;first|done|with_reducible rfl)
 have HXd:Hid (ShB w A k s (q:Int) e D t z W7.drew):=HX7.out.drew
 generalize W7.drew=W8 at *
 refine rdH 2 rfl (fun K hK=>?_)
 go_simp
 refine(HF.out _ HXd.out).mono ?_
 rintro r W9 ⟨F,HFF,rfl,HX9⟩
 dsimp only
 refine hK.out _ _ HX9.out (fun hHeld=>?_)
 clear hK K
 refine nmH ?_
 refine rdH 3 rfl (fun K hK=>?_)
 go_simp
 refine(HSG.out F HFF.out _ (HG.out.below HX9.out.1.1)).mono ?_
 rintro r W10 ⟨rfl,hb10⟩
 have HX10:Hid (ShB w A k s (q:Int) e D t z W10):=HX9.out.next hb10
 clear hb10
 dsimp only
 refine hK.out _ _ HX10.out (fun hHeld=>?_)
 clear hK K
 refine nmH ?_
 refine rdH 4 rfl (fun K hK=>?_)
 go_simp
 refine hK.out _ _ HX10.out (fun hHeld=>?_)
 clear hK K
 refine wpAnyH_done (by kernel_rfl) ?_ _
 go_wp2
 go_ret
 exact⟨u,HU.out.1,HU.out.2,rfl,HX10.out.1.1⟩
def plV(l z q:Bool)(wd pr:Int)(r:Bool)(n:Int)(f:Nat):Value:=.agg #[.bool l,.bool z,.bool q,.int .i64 wd,.int .i64 pr,.bool r,.int .i64 n,.float .f64 f]
theorem box_below(w:World)(b:Obj):Below w.heap.size w (w.alloc b):=(Below.refl _ w).alloc (Nat.le_refl _) _
set_option maxHeartbeats 400000 in
theorem whole_any(l z q:Bool)(wd pr:Int)(r:Bool)(n:Int)(f:Nat)(w:World)(hG:WrG w) :
  Calls Tryz.prog 153 #[plV l z q wd pr r n f] w fun e w'=>∃t,numV 100 pr ⟨r,n,f⟩ t∧e=.returned (.string t)∧Below w.heap.size w w':=by
 have HX:Hid (∀ob,Calls Tryz.prog 164 #[.int .i64 n,.int .i64 10] (w.alloc ob) fun e w'=>e=.returned (.string (intText n 10))∧Below (w.alloc ob).heap.size (w.alloc ob) w'):=fun ob=>
  have h:=hG.below (box_below w ob)
  implInt_any n 10 _ h.2.1 h.2.2.2
 clear hG
 unfold plV
 go_enter Tryz.func153,Tryz.ntmps153
 go_wp2_with (go_at_call 164;refine(HX.out _).mono ?_;rintro e w' ⟨rfl,hb⟩)
 go_ret
 have h0:=box_below w (.cells #[.bool l,.bool z,.bool q,.int .i64 wd,.int .i64 pr,.bool r,.int .i64 n,.float .f64 f] 196)
 exact⟨_,.inl ⟨rfl,rfl⟩,rfl,h0.trans (hb.mono h0.size)⟩
set_option maxHeartbeats 400000 in
theorem pbits_any(l z q:Bool)(wd pr:Int)(r:Bool)(n:Int)(f:Nat)(w:World)(hG:WrG w) :
  Calls Tryz.prog 154 #[plV l z q wd pr r n f] w fun e w'=>∃t,numV 120 pr ⟨r,n,f⟩ t∧e=.returned (.string t)∧Below w.heap.size w w':=by
 have HX:Hid (∀ob,Calls Tryz.prog 165 #[.int .i64 n,.int .i64 16] (w.alloc ob) fun e w'=>e=.returned (.string (bitsText n 16))∧Below (w.alloc ob).heap.size (w.alloc ob) w'):=fun ob=>
  have h:=hG.below (box_below w ob)
  implBits_any n 16 _ h.2.1 h.2.2.2
 clear hG
 unfold plV
 go_enter Tryz.func154,Tryz.ntmps154
 go_wp2_with (go_at_call 165;refine(HX.out _).mono ?_;rintro e w' ⟨rfl,hb⟩)
 go_ret
 have h0:=box_below w (.cells #[.bool l,.bool z,.bool q,.int .i64 wd,.int .i64 pr,.bool r,.int .i64 n,.float .f64 f] 196)
 exact⟨_,.inr (.inl ⟨rfl,rfl⟩),rfl,h0.trans (hb.mono h0.size)⟩
set_option maxHeartbeats 400000 in
theorem shortest_any(l z q:Bool)(wd pr:Int)(r:Bool)(n:Int)(f:Nat)(hf:f<18446744073709551616)(w:World)(hG:WrG w) :
  Calls Tryz.prog 157 #[plV l z q wd pr r n f] w fun e w'=>∃t,numV 103 pr ⟨r,n,f⟩ t∧e=.returned (.string t)∧Below w.heap.size w w':=by
 have HX:Hid (∀ob,Calls Tryz.prog 11 #[.float .f64 f] (w.alloc ob) fun e w'=>∃t,Hid (shortV f t)∧e=.returned (.string t)∧Below (w.alloc ob).heap.size (w.alloc ob) w'):=fun ob=>
  (implShort_any f hf _ (hG.below (box_below w ob))).mono fun e w' ⟨t,a,_,c,d⟩=>⟨t,a,c,d⟩
 clear hG hf
 unfold plV
 go_enter Tryz.func157,Tryz.ntmps157
 go_wp2_with (go_at_call 11;refine(HX.out _).mono ?_;rintro e w' ⟨t,HV,rfl,hb⟩)
 go_ret
 have h0:=box_below w (.cells #[.bool l,.bool z,.bool q,.int .i64 wd,.int .i64 pr,.bool r,.int .i64 n,.float .f64 f] 196)
 exact⟨t,.inr (.inr (.inl ⟨rfl,HV.out⟩)),rfl,h0.trans (hb.mono h0.size)⟩
set_option maxHeartbeats 400000 in
theorem hexed_any(l z q:Bool)(wd pr:Int)(r:Bool)(n:Int)(f:Nat)(hf:f<18446744073709551616)(w:World)(hG:WrG w) :
  Calls Tryz.prog 158 #[plV l z q wd pr r n f] w fun e w'=>∃t,numV 104 pr ⟨r,n,f⟩ t∧e=.returned (.string t)∧Below w.heap.size w w':=by
 have HX:Hid (∀ob,Calls Tryz.prog 169 #[.float .f64 f] (w.alloc ob) fun e w'=>∃t,Hid (hexV f t)∧e=.returned (.string t)∧Below (w.alloc ob).heap.size (w.alloc ob) w'):=fun ob=>
  (implHex_any f hf _ (hG.below (box_below w ob))).mono fun e w' ⟨t,a,c,d⟩=>⟨t,a,c,d⟩
 clear hG hf
 unfold plV
 go_enter Tryz.func158,Tryz.ntmps158
 go_wp2_with (go_at_call 169;refine(HX.out _).mono ?_;rintro e w' ⟨t,HV,rfl,hb⟩)
 go_ret
 have h0:=box_below w (.cells #[.bool l,.bool z,.bool q,.int .i64 wd,.int .i64 pr,.bool r,.int .i64 n,.float .f64 f] 196)
 exact⟨t,.inr (.inr (.inr (.inl ⟨rfl,HV.out⟩))),rfl,h0.trans (hb.mono h0.size)⟩
set_option maxHeartbeats 400000 in
theorem places_any(l z q:Bool)(wd pr:Int)(r:Bool)(n:Int)(f:Nat)(hp:-1≤pr)(w:World) :
  Calls Tryz.prog 167 #[plV l z q wd pr r n f] w fun e w'=>e=.returned (.int .i64 (prec6 pr))∧Below w.heap.size w w':=by
 unfold plV prec6
 have h0:=box_below w (.cells #[.bool l,.bool z,.bool q,.int .i64 wd,.int .i64 pr,.bool r,.int .i64 n,.float .f64 f] 196)
 by_cases h:pr = -1
 ·subst h
  rw[if_pos (by decide)]
  go_enter Tryz.func167,Tryz.ntmps167
  go_wp2
  go_ret
  exact⟨rfl,h0⟩
 ·have hb:(pr == -1)=false:=beq_eq_false_iff_ne.2 h
  rw[if_neg (by omega)]
  clear h
  go_enter Tryz.func167,Tryz.ntmps167
  go_wp2
  go_ret
  exact⟨rfl,h0⟩
def Box8(w:World)(P:Nat)(l z q:Bool)(wd pr:Int)(r:Bool)(n:Int)(f:Nat)(W:World):Prop:=Below w.heap.size w W∧W.cell? ⟨P,0,none⟩=some (.bool l)∧W.cell? ⟨P,1,none⟩=some (.bool z)∧W.cell? ⟨P,2,none⟩=some (.bool q)∧W.cell? ⟨P,3,none⟩=some (.int .i64 wd)∧W.cell? ⟨P,4,none⟩=some (.int .i64 pr)∧W.cell? ⟨P,5,none⟩=some (.bool r)∧W.cell? ⟨P,6,none⟩=some (.int .i64 n)∧W.cell? ⟨P,7,none⟩=some (.float .f64 f)
section
variable {w W W':World} {P:Nat} {l z q r:Bool} {wd pr n:Int} {f:Nat}
theorem Box8.drew(h:Box8 w P l z q wd pr r n f W):Box8 w P l z q wd pr r n f W.drew:=⟨h.1.drew,h.2⟩
theorem Box8.next(h:Box8 w P l z q wd pr r n f W)(hb:Below W.heap.size W W'):Box8 w P l z q wd pr r n f W':=by
 obtain⟨h1,h2,h3,h4,h5,h6,h7,h8,h9⟩:=h
 exact⟨h1.trans (hb.mono h1.size),(hb.cell (lt_cell h2)).trans h2,(hb.cell (lt_cell h3)).trans h3,(hb.cell (lt_cell h4)).trans h4,(hb.cell (lt_cell h5)).trans h5,(hb.cell (lt_cell h6)).trans h6,(hb.cell (lt_cell h7)).trans h7,(hb.cell (lt_cell h8)).trans h8,(hb.cell (lt_cell h9)).trans h9⟩
end
theorem Box8.new(w:World)(l z q:Bool)(wd pr:Int)(r:Bool)(n:Int)(f:Nat):Box8 w w.heap.size l z q wd pr r n f (w.alloc (.cells #[.bool l,.bool z,.bool q,.int .i64 wd,.int .i64 pr,.bool r,.int .i64 n,.float .f64 f] 196)):=
 ⟨box_below w _,by simp[go_sem],by simp[go_sem],by simp[go_sem],by simp[go_sem],by simp[go_sem],by simp[go_sem],by simp[go_sem],by simp[go_sem]⟩
set_option maxHeartbeats 2000000 in
set_option maxRecDepth 100000 in
theorem powered_any(l z q:Bool)(wd pr:Int)(r:Bool)(n:Int)(f:Nat)(hf:f<18446744073709551616)(hp:-1≤pr)(hp4:pr≤400)(w:World)(hG:WrG w) :
  Calls Tryz.prog 155 #[plV l z q wd pr r n f] w fun e w'=>∃t,numV 101 pr ⟨r,n,f⟩ t∧e=.returned (.string t)∧Below w.heap.size w w':=by
 have HPL:Hid (∀W,Box8 w w.heap.size l z q wd pr r n f W→Calls Tryz.prog 167 #[.agg #[.bool l,.bool z,.bool q,.int .i64 wd,.int .i64 pr,.bool r,.int .i64 n,.float .f64 f]] W fun e w'=>e=.returned (.int .i64 (prec6 pr))∧Hid (Box8 w w.heap.size l z q wd pr r n f w')):=fun W hW=>
  (places_any l z q wd pr r n f hp W).mono fun e w' ⟨a,b⟩=>⟨a,hW.next b⟩
 have hq:0≤prec6 pr∧prec6 pr≤400:=by unfold prec6;split<;>omega
 have HDG:Hid (∀W,Box8 w w.heap.size l z q wd pr r n f W→Calls Tryz.prog 166 #[.float .f64 f,.int .i64 (prec6 pr+1)] W fun e w'=>∃t,Hid (digitsV f (prec6 pr+1) t)∧e=.returned (.string t)∧Hid (Box8 w w.heap.size l z q wd pr r n f w')):=fun W hW=>
  (implDigits5_any f hf _ W (hG.below hW.1)).mono fun e w' ⟨t,a,b,c⟩=>⟨t,a,b,hW.next c⟩
 have HV6:Hid (0≤prec6 pr∧prec6 pr≤400):=hq
 obtain⟨y,hy⟩:∃y,prec6 pr=y:=⟨_,rfl⟩
 rw[hy]at HPL HDG hq
 obtain⟨hy0,hy4⟩:=hq
 have HY:Hid (prec6 pr=y):=hy
 rw[show y+1=IntKind.i64.wrap (y+1) by rw[IntKind.wrap_i64];omega]at HDG
 clear hG hf hy HV6 hp hp4
 unfold plV
 go_enter Tryz.func155,Tryz.ntmps155
 obtain⟨W2,hW2⟩:∃W2,w.alloc (.cells #[.bool l,.bool z,.bool q,.int .i64 wd,.int .i64 pr,.bool r,.int .i64 n,.float .f64 f] 196)=W2:=⟨_,rfl⟩
 have HX2:Hid (Box8 w w.heap.size l z q wd pr r n f W2):=by rw[←hW2];exact Box8.new w l z q wd pr r n f
 obtain⟨A,hA⟩:∃A,w.heap.size=A:=⟨_,rfl⟩
 go_wp2
 rw[hA]at HPL HDG HX2
 refine wp_region_held_drew (S:=fun X=>Box8 w A l z q wd pr r n f X) (by kernel_rfl) HX2.out.drew (fun hHeld=>?_)
 refine tkH 0 ?v0 rfl ?_
 refine tkH 1 ?v1 rfl ?_
 refine tkH 2 ?v2 rfl ?_ ?y2
 case y2=>(intro w' hSw;obtain⟨_,y0,y1,y2,y3,y4,y5,y6,y7⟩:=hSw;go_simp;first|done|with_reducible rfl)
 refine tkH 3 ?v3 rfl ?_ ?y3
 case y3=>(intro w' hSw;obtain⟨_,y0,y1,y2,y3,y4,y5,y6,y7⟩:=hSw;go_simp;first|done|with_reducible rfl)
 have HXd:Hid (Box8 w A l z q wd pr r n f W2.drew):=HX2.out.drew
 generalize W2.drew=W3 at *
 refine rdH 4 rfl (fun K hK=>?_)
 go_simp
 refine(HPL.out _ HXd.out).mono ?_
 rintro e W4 ⟨rfl,HX4⟩
 dsimp only
 refine hK.out _ _ HX4.out (fun hHeld=>?_)
 clear hK K
 refine nmH ?_
 refine tkH 5 ?v5 rfl ?_
 refine rdH 6 rfl (fun K hK=>?_)
 go_simp
 refine(HDG.out _ HX4.out).mono ?_
 rintro e W5 ⟨t,HV,rfl,HX5⟩
 dsimp only
 refine hK.out _ _ HX5.out (fun hHeld=>?_)
 clear hK K
 refine nmH ?_
 refine rdH 7 rfl (fun K hK=>?_)
 go_simp
 refine hK.out _ _ HX5.out (fun hHeld=>?_)
 clear hK K
 refine wpAnyH_done (by kernel_rfl) ?_ _
 go_wp2
 go_ret
 rw[show IntKind.i64.wrap (y+1)=y+1 by rw[IntKind.wrap_i64];omega]at HV
 rw[←HY.out]at HV
 exact⟨t,.inr (.inr (.inr (.inr (.inl ⟨rfl,HV.out⟩)))),rfl,HX5.out.1⟩
set_option maxHeartbeats 2000000 in
set_option maxRecDepth 100000 in
theorem fixed_any(l z q:Bool)(wd pr:Int)(r:Bool)(n:Int)(f:Nat)(hf:f<18446744073709551616)(hp:-1≤pr)(hp4:pr≤400)(w:World)(hG:WrG w) :
  Calls Tryz.prog 156 #[plV l z q wd pr r n f] w fun e w'=>∃t,numV 102 pr ⟨r,n,f⟩ t∧e=.returned (.string t)∧Below w.heap.size w w':=by
 have HPL:Hid (∀W,Box8 w w.heap.size l z q wd pr r n f W→Calls Tryz.prog 167 #[.agg #[.bool l,.bool z,.bool q,.int .i64 wd,.int .i64 pr,.bool r,.int .i64 n,.float .f64 f]] W fun e w'=>e=.returned (.int .i64 (prec6 pr))∧Hid (Box8 w w.heap.size l z q wd pr r n f w')):=fun W hW=>
  (places_any l z q wd pr r n f hp W).mono fun e w' ⟨a,b⟩=>⟨a,hW.next b⟩
 have hq:0≤prec6 pr∧prec6 pr≤400:=by unfold prec6;split<;>omega
 have HDG:Hid (∀W,Box8 w w.heap.size l z q wd pr r n f W→Calls Tryz.prog 168 #[.float .f64 f,.int .i64 (prec6 pr)] W fun e w'=>∃t,Hid (fixedV f (prec6 pr) t)∧e=.returned (.string t)∧Hid (Box8 w w.heap.size l z q wd pr r n f w')):=fun W hW=>
  (implFixed_any f hf _ W (hG.below hW.1)).mono fun e w' ⟨t,a,b,c⟩=>⟨t,a,b,hW.next c⟩
 have HV6:Hid (0≤prec6 pr∧prec6 pr≤400):=hq
 obtain⟨y,hy⟩:∃y,prec6 pr=y:=⟨_,rfl⟩
 rw[hy]at HPL HDG hq
 obtain⟨hy0,hy4⟩:=hq
 have HY:Hid (prec6 pr=y):=hy
 clear hG hf hy HV6 hp hp4
 unfold plV
 go_enter Tryz.func156,Tryz.ntmps156
 obtain⟨W2,hW2⟩:∃W2,w.alloc (.cells #[.bool l,.bool z,.bool q,.int .i64 wd,.int .i64 pr,.bool r,.int .i64 n,.float .f64 f] 196)=W2:=⟨_,rfl⟩
 have HX2:Hid (Box8 w w.heap.size l z q wd pr r n f W2):=by rw[←hW2];exact Box8.new w l z q wd pr r n f
 obtain⟨A,hA⟩:∃A,w.heap.size=A:=⟨_,rfl⟩
 go_wp2
 rw[hA]at HPL HDG HX2
 refine wp_region_held_drew (S:=fun X=>Box8 w A l z q wd pr r n f X) (by kernel_rfl) HX2.out.drew (fun hHeld=>?_)
 refine tkH 0 ?v0 rfl ?_
 refine tkH 1 ?v1 rfl ?_
 refine tkH 2 ?v2 rfl ?_ ?y2
 case y2=>(intro w' hSw;obtain⟨_,y0,y1,y2,y3,y4,y5,y6,y7⟩:=hSw;go_simp;first|done|with_reducible rfl)
 refine tkH 3 ?v3 rfl ?_ ?y3
 case y3=>(intro w' hSw;obtain⟨_,y0,y1,y2,y3,y4,y5,y6,y7⟩:=hSw;go_simp;first|done|with_reducible rfl)
 have HXd:Hid (Box8 w A l z q wd pr r n f W2.drew):=HX2.out.drew
 generalize W2.drew=W3 at *
 refine rdH 4 rfl (fun K hK=>?_)
 go_simp
 refine(HPL.out _ HXd.out).mono ?_
 rintro e W4 ⟨rfl,HX4⟩
 dsimp only
 refine hK.out _ _ HX4.out (fun hHeld=>?_)
 clear hK K
 refine nmH ?_
 refine rdH 5 rfl (fun K hK=>?_)
 go_simp
 refine(HDG.out _ HX4.out).mono ?_
 rintro e W5 ⟨t,HV,rfl,HX5⟩
 dsimp only
 refine hK.out _ _ HX5.out (fun hHeld=>?_)
 clear hK K
 refine nmH ?_
 refine rdH 6 rfl (fun K hK=>?_)
 go_simp
 refine hK.out _ _ HX5.out (fun hHeld=>?_)
 clear hK K
 refine wpAnyH_done (by kernel_rfl) ?_ _
 go_wp2
 go_ret
 rw[←HY.out]at HV
 exact⟨t,.inr (.inr (.inr (.inr (.inr ⟨rfl,HV.out⟩)))),rfl,HX5.out.1⟩
structure LRow (c pr:Int) (a:ArgV) (pv:Value) (RB SB:Bool) (MO:Int) (kk:Nat):Prop where
 enters:∀args W,(callFunc kk args).run Tryz.prog W=.ok (.enter kk args) W
 writes:∀W,WrG W→Calls Tryz.prog kk #[pv] W fun e w'=>∃t,numV c pr a t∧e=.returned (.string t)∧Below W.heap.size W w'
 sign:SB=decide (c≠120)
 fits:(RB=a.real∧pr≤MO)↔Fits c pr a
theorem row_hit(l z q:Bool)(wd pr:Int)(a:ArgV)(c:Int)(row:Array Value)(hf:a.flt<18446744073709551616)(hp:-1≤pr)(hp4:pr≤400)(h:FormR (plV l z q wd pr a.real a.num a.flt) c row true) :
  ∃RB SB MO kk,row=#[.int .u8 c,.bool RB,.bool SB,.int .i64 MO,.func (.func kk) #[plV l z q wd pr a.real a.num a.flt] #[]]∧LRow c pr a (plV l z q wd pr a.real a.num a.flt) RB SB MO kk∧-1≤MO∧MO≤400:=by
 rcases h with⟨k,hk,rfl,rfl,_⟩|⟨_,_,h⟩
 ·rcases(by omega:k=0∨k=1∨k=2∨k=3∨k=4∨k=5) with rfl|rfl|rfl|rfl|rfl|rfl
  ·refine⟨false,true,-1,_,rfl,⟨enters_of Tryz.func153 (by kernel_rfl) rfl,fun W hG=>whole_any l z q wd pr a.real a.num a.flt W hG,rfl,?_⟩,by decide,by decide⟩
   unfold Fits
   constructor
   ·rintro⟨h1,h2⟩;exact .inl ⟨.inl rfl,h1.symm,by omega⟩
   ·rintro(⟨_,h1,h2⟩|⟨h,_⟩|⟨h,_⟩|⟨h,_⟩)
    ·exact⟨h1.symm,by omega⟩
    ·exact absurd h (by decide)
    ·exact absurd h (by decide)
    ·exact absurd h (by decide)
  ·refine⟨false,false,-1,_,rfl,⟨enters_of Tryz.func154 (by kernel_rfl) rfl,fun W hG=>pbits_any l z q wd pr a.real a.num a.flt W hG,rfl,?_⟩,by decide,by decide⟩
   unfold Fits
   constructor
   ·rintro⟨h1,h2⟩;exact .inl ⟨.inr rfl,h1.symm,by omega⟩
   ·rintro(⟨_,h1,h2⟩|⟨h,_⟩|⟨h,_⟩|⟨h,_⟩)
    ·exact⟨h1.symm,by omega⟩
    ·exact absurd h (by decide)
    ·exact absurd h (by decide)
    ·exact absurd h (by decide)
  ·refine⟨true,true,399,_,rfl,⟨enters_of Tryz.func155 (by kernel_rfl) rfl,fun W hG=>powered_any l z q wd pr a.real a.num a.flt hf hp hp4 W hG,rfl,?_⟩,by decide,by decide⟩
   unfold Fits
   constructor
   ·rintro⟨h1,h2⟩;exact .inr (.inr (.inl ⟨rfl,h1.symm,by omega⟩))
   ·rintro(⟨h,_⟩|⟨h,_⟩|⟨_,h1,h2⟩|⟨h,_⟩)
    ·exact absurd h (by decide)
    ·exact absurd h (by decide)
    ·exact⟨h1.symm,by omega⟩
    ·exact absurd h (by decide)
  ·refine⟨true,true,400,_,rfl,⟨enters_of Tryz.func156 (by kernel_rfl) rfl,fun W hG=>fixed_any l z q wd pr a.real a.num a.flt hf hp hp4 W hG,rfl,?_⟩,by decide,by decide⟩
   unfold Fits
   constructor
   ·rintro⟨h1,h2⟩;exact .inr (.inr (.inr ⟨rfl,h1.symm⟩))
   ·rintro(⟨h,_⟩|⟨h,_⟩|⟨h,_⟩|⟨_,h1⟩)
    ·exact absurd h (by decide)
    ·exact absurd h (by decide)
    ·exact absurd h (by decide)
    ·exact⟨h1.symm,by omega⟩
  ·refine⟨true,true,-1,_,rfl,⟨enters_of Tryz.func157 (by kernel_rfl) rfl,fun W hG=>shortest_any l z q wd pr a.real a.num a.flt hf W hG,rfl,?_⟩,by decide,by decide⟩
   unfold Fits
   constructor
   ·rintro⟨h1,h2⟩;exact .inr (.inl ⟨.inl rfl,h1.symm,by omega⟩)
   ·rintro(⟨h,_⟩|⟨_,h1,h2⟩|⟨h,_⟩|⟨h,_⟩)
    ·exact absurd h (by decide)
    ·exact⟨h1.symm,by omega⟩
    ·exact absurd h (by decide)
    ·exact absurd h (by decide)
  ·refine⟨true,true,-1,_,rfl,⟨enters_of Tryz.func158 (by kernel_rfl) rfl,fun W hG=>hexed_any l z q wd pr a.real a.num a.flt hf W hG,rfl,?_⟩,by decide,by decide⟩
   unfold Fits
   constructor
   ·rintro⟨h1,h2⟩;exact .inr (.inl ⟨.inr rfl,h1.symm,by omega⟩)
   ·rintro(⟨h,_⟩|⟨_,h1,h2⟩|⟨h,_⟩|⟨h,_⟩)
    ·exact absurd h (by decide)
    ·exact⟨h1.symm,by omega⟩
    ·exact absurd h (by decide)
    ·exact absurd h (by decide)
 ·cases h
theorem row_miss(pv:Value)(c pr:Int)(a:ArgV)(row:Array Value)(h:FormR pv c row false):row=#[.int .u8 0,.bool false,.bool false,.int .i64 0,.nilFunc]∧¬Fits c pr a:=by
 rcases h with⟨k,_,_,_,h⟩|⟨h,rfl,_⟩
 ·cases h
 ·refine⟨rfl,?_⟩
  unfold Fits
  rintro(⟨e|e,_⟩|⟨e|e,_⟩|⟨e,_⟩|⟨e,_⟩)
  ·exact h 0 (by omega) e.symm
  ·exact h 1 (by omega) e.symm
  ·exact h 4 (by omega) e.symm
  ·exact h 5 (by omega) e.symm
  ·exact h 2 (by omega) e.symm
  ·exact h 3 (by omega) e.symm
def FB(w:World)(B G:Nat)(s:ByteArray)(k:Nat)(av:Value)(out:List UInt8):Prop:=∃p v,Bd w B G 3 97 #[.string s,.int .i64 (k:Int),av,p,v] v (Lib.byteCells out)
theorem Bd.of_block{w w':World}{B b o:Nat}{T:TypeId}{cs:Array Value}{v:Value}{out:List Value}(h:Bd w B b o T cs v out)(hm:∀g,g<w.heap.size→B≤g→w'.heap[g]? = w.heap[g]?):Bd w' B b o T cs v out:=by
 refine⟨h.base,(hm b h.lt h.base).trans h.blk,h.adr,h.buf,⟨h.own.1,?_⟩,h.lies,h.ne8⟩
 rcases h.own.2 with hn|⟨g,cap,cur,fz,rfl,hb,hg,rest⟩
 ·exact .inl hn
 ·exact .inr ⟨g,cap,cur,fz,rfl,hb,(hm g (Array.getElem?_eq_some_iff.1 hg).1 hb).trans hg,rest⟩
theorem FB.below{w w':World}{B G k:Nat}{s:ByteArray}{av:Value}{out:List UInt8}(h:FB w B G s k av out)(hb:Below w.heap.size w w'):FB w' B G s k av out:=by
 obtain⟨p,v,h⟩:=h
 exact⟨p,v,h.of_block fun g hg _=>hb.block g hg⟩
theorem FB.lt{w:World}{B G k:Nat}{s:ByteArray}{av:Value}{out:List UInt8}(h:FB w B G s k av out):G<w.heap.size:=by
 obtain⟨p,v,h⟩:=h
 exact h.lt
theorem FB.fc{w:World}{B G k:Nat}{s:ByteArray}{av:Value}{out:List UInt8}(h:FB w B G s k av out):∃p v,FC w G s k av p v:=by
 obtain⟨p,v,h⟩:=h
 exact⟨p,v,h.blk⟩
theorem FB.row{w w':World}{B G k k':Nat}{s:ByteArray}{av av' p v:Value}{out:List UInt8}(h:Bd w B G 3 97 #[.string s,.int .i64 (k:Int),av,p,v] v (Lib.byteCells out))(hf:FC w' G s k' av' p v)(hm:Mod G w w'):Bd w' B G 3 97 #[.string s,.int .i64 (k':Int),av',p,v] v (Lib.byteCells out):=by
 refine⟨h.base,hf,h.adr,rfl,⟨h.own.1,?_⟩,h.lies,h.ne8⟩
 rcases h.own.2 with hn|⟨g,cap,cur,fz,rfl,hb,hg,rest⟩
 ·exact .inl hn
 ·have hne:g≠G:=fun e=>h.ne (by simp[Value.ownBlock,e])
  exact .inr ⟨g,cap,cur,fz,rfl,hb,(hm.2.2.2.2 g (Array.getElem?_eq_some_iff.1 hg).1 hne).trans hg,rest⟩
def ArgR(B G:Nat)(s:ByteArray)(k:Nat)(av:Value)(ars:List ArgV)(out:List UInt8)(l z q:Bool)(wd pr:Int)(w w':World)(ok:Bool):Prop:=
 Below B w w'∧((ok=false∧letterF s ars l z q wd pr k=.bad k∧FB w' B G s k av out)∨(ok=true∧∃t av',letterF s ars l z q wd pr k=.good t (k+1)∧k<s.size∧t.size≤6000∧FB w' B G s (k+1) av' (out++t.data.toList)∧ArgsAt B w' av' ars.tail))
def ArgQ(B G:Nat)(s:ByteArray)(k:Nat)(av:Value)(ars:List ArgV)(out:List UInt8)(l z q:Bool)(wd pr:Int)(w:World)(e:Ending)(w':World):Prop:=∃ok,e=.returned (.bool ok)∧ArgR B G s k av ars out l z q wd pr w w' ok
theorem letterF_nil(s:ByteArray)(l z q:Bool)(wd pr:Int)(k:Nat):letterF s [] l z q wd pr k=.bad k:=rfl
theorem letterF_no(s:ByteArray)(a:ArgV)(ars:List ArgV)(l z q:Bool)(wd pr:Int)(k:Nat)(h:¬Fits (bAt s k) pr a):letterF s (a :: ars) l z q wd pr k=.bad k:=by
 unfold letterF
 exact if_neg h
theorem letterF_yes(s:ByteArray)(a:ArgV)(ars:List ArgV)(l z q:Bool)(wd pr:Int)(k:Nat)(h:Fits (bAt s k) pr a)(t:ByteArray)(ht:numV (bAt s k) pr a t):letterF s (a :: ars) l z q wd pr k=.good (padS l z q wd (bAt s k) t) (k+1):=by
 have e:letterF s (a :: ars) l z q wd pr k=.good (padS l z q wd (bAt s k) (numT (bAt s k) pr a)) (k+1):=if_pos h
 rw[e,numT_is _ _ _ _ ht]
theorem fits_in(c pr:Int)(a:ArgV)(h:Fits c pr a):c≠0:=by
 rintro rfl
 rcases h with⟨h|h,_⟩|⟨h|h,_⟩|⟨h,_⟩|⟨h,_⟩<;>exact absurd h (by decide)
theorem letterF_out(s:ByteArray)(ars:List ArgV)(l z q:Bool)(wd pr:Int)(k:Nat)(h:¬k<s.size):letterF s ars l z q wd pr k=.bad k:=by
 cases ars with
 | nil=>rfl
 | cons a ars=>exact letterF_no s a ars l z q wd pr k (fun hf=>fits_in _ _ _ hf (bAt_out s k h))
def RowI(c pr:Int)(a:ArgV)(pv:Value)(RB SB:Bool)(MO:Int)(FV:Value)(ok:Bool):Prop:=
 (ok=false∧¬Fits c pr a)∨(ok=true∧∃kk,FV=.func (.func kk) #[pv] #[]∧LRow c pr a pv RB SB MO kk∧-1≤MO∧MO≤400)
def ArS(X:World)(P G:Nat)(l z q:Bool)(wd pr:Int)(r:Bool)(n:Int)(f:Nat)(s:ByteArray)(k:Nat)(Y:World):Prop:=Box8 X P l z q wd pr r n f Y∧Y.cell? ⟨G,0,none⟩=some (.string s)∧Y.cell? ⟨G,1,none⟩=some (.int .i64 (k:Int))
section
variable {X Y Y':World} {P G k:Nat} {l z q r:Bool} {wd pr n:Int} {f:Nat} {s:ByteArray}
theorem ArS.next(h:ArS X P G l z q wd pr r n f s k Y)(hb:Below Y.heap.size Y Y'):ArS X P G l z q wd pr r n f s k Y':=
 ⟨h.1.next hb,(hb.cell (lt_cell h.2.1)).trans h.2.1,(hb.cell (lt_cell h.2.2)).trans h.2.2⟩
theorem ArS.drew(h:ArS X P G l z q wd pr r n f s k Y):ArS X P G l z q wd pr r n f s k Y.drew:=⟨h.1.drew,h.2⟩
theorem ArS.alloc(h:ArS X P G l z q wd pr r n f s k Y)(ob:Obj):ArS X P G l z q wd pr r n f s k (Y.alloc ob):=h.next (box_below Y ob)
theorem ArS.set(h:ArS X P G l z q wd pr r n f s k Y)(A o:Nat)(v:Value)(hA:X.heap.size≤A)(hP:P<A)(hG:G<A):ArS X P G l z q wd pr r n f s k (Y.setCell ⟨A,o,none⟩ v):=by
 obtain⟨⟨h1,h2,h3,h4,h5,h6,h7,h8,h9⟩,h10,h11⟩:=h
 have hp:∀i,(Y.setCell ⟨A,o,none⟩ v).cell? ⟨P,i,none⟩=Y.cell? ⟨P,i,none⟩:=fun i=>World.cell?_setCell_far Y _ _ v (by show A≠P;omega)
 have hg:∀i,(Y.setCell ⟨A,o,none⟩ v).cell? ⟨G,i,none⟩=Y.cell? ⟨G,i,none⟩:=fun i=>World.cell?_setCell_far Y _ _ v (by show A≠G;omega)
 exact⟨⟨h1.setCell (p:=⟨A,o,none⟩) hA _,(hp 0).trans h2,(hp 1).trans h3,(hp 2).trans h4,(hp 3).trans h5,(hp 4).trans h6,(hp 5).trans h7,(hp 6).trans h8,(hp 7).trans h9⟩,(hg 0).trans h10,(hg 1).trans h11⟩
end
theorem FB.drew{w:World}{B G k:Nat}{s:ByteArray}{av:Value}{out:List UInt8}(h:FB w B G s k av out):FB w.drew B G s k av out:=by
 obtain⟨p,v,h⟩:=h
 exact⟨p,v,h.drew⟩
theorem padS_size(left zero plus:Bool)(width c:Int)(s:ByteArray)(h0:0≤width)(h4:width≤400)(hs:s.size≤5000):(padS left zero plus width c s).size≤6000:=by
 have h1:=rest_size s
 have h2:(signP plus c s).size≤1:=by
  unfold signP
  split
  ·decide
  ·split<;>decide
 unfold padS
 split
 ·rw[append_size];omega
 ·split
  ·rw[append_size,append_size,spacesB_size];omega
  ·split
   ·rw[append_size,append_size,zerosB_size];omega
   ·rw[append_size,append_size,spacesB_size];omega
theorem FB.step{w:World}{B G k:Nat}{s:ByteArray}{av:Value}{out:List UInt8}(h:FB w B G s k av out)(a:Value):FB ((w.setCell ⟨G,2,none⟩ a).setCell ⟨G,1,none⟩ (.int .i64 ((k:Int)+1))) B G s (k+1) a out:=by
 obtain⟨p,v,h⟩:=h
 have hf:FC w G s k av p v:=h.blk
 exact⟨p,v,FB.row h (hf.setArgs a).set1 (((Mod.refl G w).setCell _ _).setCell _ _)⟩
structure Sv7 (P A:Nat) (l z q:Bool) (wd pr:Int) (r:Bool) (n:Int) (f:Nat) (C:Int) (RB SB:Bool) (MO:Int) (FV:Value) (Y:World):Prop where
 pb:PB Y P l z q wd pr r n f
 blk:Y.heap[A]? = some (.cells #[.int .u8 C,.bool RB,.bool SB,.int .i64 MO,FV] 234 (0,0))
section
variable {P A:Nat} {l z q r:Bool} {wd pr n:Int} {f:Nat} {C:Int} {RB SB:Bool} {MO:Int} {FV:Value} {Y Y':World}
theorem Sv7.a2(h:Sv7 P A l z q wd pr r n f C RB SB MO FV Y):Y.cell? ⟨A,2,none⟩=some (.bool SB):=by rw[cell_of_heap h.blk];rfl
theorem Sv7.a4(h:Sv7 P A l z q wd pr r n f C RB SB MO FV Y):Y.cell? ⟨A,4,none⟩=some FV:=by rw[cell_of_heap h.blk];rfl
theorem Sv7.next(h:Sv7 P A l z q wd pr r n f C RB SB MO FV Y)(hb:Below Y.heap.size Y Y'):Sv7 P A l z q wd pr r n f C RB SB MO FV Y':=
 ⟨h.pb.below hb,(hb.block A (Array.getElem?_eq_some_iff.1 h.blk).1).trans h.blk⟩
theorem Sv7.kept(h:Sv7 P A l z q wd pr r n f C RB SB MO FV Y){G:Nat}(hk:Lib.OthersKept 5 (some G) Y Y')(hP:P≠G)(hA:A≠G):Sv7 P A l z q wd pr r n f C RB SB MO FV Y':=
 ⟨hk P _ h.pb (by simpa using hP) (fun c fz e=>by simp at e),hk A _ h.blk (by simpa using hA) (fun c fz e=>by simp at e)⟩
end
theorem PB.setA{w:World}{P:Nat}{l z q r:Bool}{wd pr n:Int}{f:Nat}(h:PB w P l z q wd pr r n f)(r':Bool)(n':Int)(f':Nat):PB (((w.setCell ⟨P,5,none⟩ (.bool r')).setCell ⟨P,6,none⟩ (.int .i64 n')).setCell ⟨P,7,none⟩ (.float .f64 f')) P l z q wd pr r' n' f':=by
 have h1:PB (w.setCell ⟨P,5,none⟩ (.bool r')) P l z q wd pr r' n f:=by
  unfold PB
  rw[setCell_eq_setRow w P 5 _ _ (0,0) _ h]
  exact setRow_heap w P _ _ _ (0,0) h
 have h2:PB ((w.setCell ⟨P,5,none⟩ (.bool r')).setCell ⟨P,6,none⟩ (.int .i64 n')) P l z q wd pr r' n' f:=by
  unfold PB
  rw[setCell_eq_setRow _ P 6 _ _ (0,0) _ h1]
  exact setRow_heap _ P _ _ _ (0,0) h1
 unfold PB
 rw[setCell_eq_setRow _ P 7 _ _ (0,0) _ h2]
 exact setRow_heap _ P _ _ _ (0,0) h2
theorem formOf_any(l z q:Bool)(wd pr:Int)(a:ArgV)(c:Int)(hf:a.flt<18446744073709551616)(hp:-1≤pr)(hp4:pr≤400)(w:World) :
  Calls Tryz.prog 143 #[.agg #[.bool l,.bool z,.bool q,.int .i64 wd,.int .i64 pr,.bool a.real,.int .i64 a.num,.float .f64 a.flt],.int .u8 c] w fun e w'=>∃C RB SB MO FV ok,RowI c pr a (plV l z q wd pr a.real a.num a.flt) RB SB MO FV ok∧FV.oneCell'=true∧e=.returned (.tuple #[.agg #[.int .u8 C,.bool RB,.bool SB,.int .i64 MO,FV],.bool ok])∧Below w.heap.size w w':=by
 obtain⟨W,hW⟩:∃W,w.alloc (.cells #[.bool l,.bool z,.bool q,.int .i64 wd,.int .i64 pr,.bool a.real,.int .i64 a.num,.float .f64 a.flt] 196)=W:=⟨_,rfl⟩
 have hB8:Box8 w w.heap.size l z q wd pr a.real a.num a.flt W:=by rw[←hW];exact Box8.new w l z q wd pr a.real a.num a.flt
 have:=formOf_core (plV l z q wd pr a.real a.num a.flt) c w W (by rw[←hW];exact run_box_place _ _ rfl w) hB8.1 (fun ob=>by
  obtain⟨h1,h2,h3,h4,h5,h6,h7,h8,h9⟩:=hB8.next (box_below W ob)
  unfold plV
  simp[go_sem,h2,h3,h4,h5,h6,h7,h8,h9])
 refine Calls.mono (show Calls Tryz.prog _ #[plV l z q wd pr a.real a.num a.flt,.int .u8 c] w _ from this) ?_
 rintro e w' ⟨row,ok,hR,rfl,hb⟩
 cases ok
 ·obtain⟨rfl,hn⟩:=row_miss _ c pr a row hR
  exact⟨_,_,_,_,_,false,.inl ⟨rfl,hn⟩,rfl,rfl,hb⟩
 ·obtain⟨RB,SB,MO,kk,rfl,hL,h1,h2⟩:=row_hit l z q wd pr a c row hf hp hp4 hR
  exact⟨_,RB,SB,MO,_,true,.inr ⟨rfl,kk,rfl,hL,h1,h2⟩,rfl,rfl,hb⟩
attribute [local go_sem] run_store_float
set_option maxHeartbeats 4000000 in
set_option maxRecDepth 100000 in
theorem writeArg_none(B G k:Nat)(s:ByteArray)(av:Value)(ars:List ArgV)(out:List UInt8)(l z q:Bool)(wd pr:Int)(w:World)(h:FB w B G s k av out)(hA:ArgsAt B w av ars)(hs:s.size≤1200)(hk:k≤s.size)(hn:k=s.size∨ars = []) :
  Calls Tryz.prog 122 #[.pointer (some ⟨G,0,none⟩),plV l z q wd pr false 0 0] w fun e w'=>ArgQ B G s k av ars out l z q wd pr w e w':=by
 have hB:B≤w.heap.size:=by obtain⟨p,v,hb⟩:=h;have:=hb.lt;have:=hb.base;omega
 have HE:Hid (∀ob m,ArgR B G s k av ars out l z q wd pr w ((w.alloc ob).drewN m) false):=fun ob m=>by
  have hb:Below w.heap.size w ((w.alloc ob).drewN m):=below_drewN (box_below w ob) m
  refine⟨hb.mono hB,.inl ⟨rfl,?_,h.below hb⟩⟩
  rcases hn with e|e
  ·exact letterF_out s ars l z q wd pr k (by omega)
  ·rw[e];exact letterF_nil s l z q wd pr k
 obtain⟨ao,cap,hav,h2,h3,h4,h5,h6⟩:=hA
 obtain⟨p,v,hfc⟩:=h.fc
 have htx:=hfc.txt
 have hat:=hfc.at_
 have hag:=hfc.args
 rw[hav]at hag
 have hsi:(s.size:Int)≤1200:=by omega
 have hGlt:G<w.heap.size:=hfc.lt
 have hGne:G≠w.heap.size:=by omega
 have hGn2:w.heap.size≠G:=by omega
 clear hfc hav h6 h5 h2 h h4
 unfold plV
 by_cases e:k=s.size
 ·subst e
  clear hn
  go_enter Tryz.func122,Tryz.ntmps122
  go_wp2_with fail
  go_quiet (fail)
  go_wp2_with fail
  go_ret
  exact⟨false,rfl,HE.out _ _⟩
 ·have e':((k:Int)==(s.size:Int))=false:=beq_eq_false_iff_ne.2 (by omega)
  obtain rfl:ars = []:=hn.resolve_left e
  clear hn e
  go_enter Tryz.func122,Tryz.ntmps122
  go_wp2_with fail
  go_quiet (fail)
  go_wp2_with fail
  go_ret
  exact⟨false,rfl,HE.out _ _⟩
set_option maxHeartbeats 4000000 in
set_option maxRecDepth 100000 in
theorem writeArg_some(B G k:Nat)(s:ByteArray)(av:Value)(a:ArgV)(ars:List ArgV)(out:List UInt8)(l z q:Bool)(wd pr:Int)(w:World)(h:FB w B G s k av out)(hA:ArgsAt B w av (a :: ars))(hG:WrG w)(hs:s.size≤1200)(hk:k<s.size)(hw0:0≤wd)(hw4:wd≤400)(hp:-1≤pr)(hp4:pr≤400)(ho:out.length≤10000000) :
  Calls Tryz.prog 122 #[.pointer (some ⟨G,0,none⟩),plV l z q wd pr false 0 0] w fun e w'=>ArgQ B G s k av (a :: ars) out l z q wd pr w e w':=by
 have hB:B≤w.heap.size:=by obtain⟨p,v,hb⟩:=h;have:=hb.lt;have:=hb.base;omega
 have HBG:Hid (B≤G):=by obtain⟨p,v,hb⟩:=h;exact hb.base
 have HA:Hid (ArgsAt B w av (a :: ars)):=hA
 obtain⟨ao,cap,hav,h2,h3,h4,h5,h6⟩:=hA
 obtain⟨g,o,rfl,hg,hcells⟩:=h6 (by simp)
 obtain⟨r0,r1,r2⟩:=hcells 0 a rfl
 rw[Nat.mul_zero,Nat.add_zero]at r0 r1 r2
 obtain⟨n,hn⟩:∃n:Nat,(a :: ars).length=n+1:=⟨ars.length,rfl⟩
 obtain⟨p,v,hfc⟩:=h.fc
 have htx:=hfc.txt
 have hat:=hfc.at_
 have hag:=hfc.args
 have hav2:=hav
 rw[hn]at hav2
 rw[hav,hn]at hag
 have hsi:(s.size:Int)≤1200:=by omega
 have hGlt:G<w.heap.size:=hfc.lt
 have hGne:G≠w.heap.size:=by omega
 have hGn2:w.heap.size≠G:=by omega
 have hki:(k:Int)<(s.size:Int):=by omega
 have e':((k:Int)==(s.size:Int))=false:=beq_eq_false_iff_ne.2 (by omega)
 have hgw:g<w.heap.size:=by omega
 have hgne:g≠w.heap.size:=by omega
 have hgn2:w.heap.size≠g:=by omega
 have HF:Hid (FB w B G s k av out):=h
 have hni:(n:Int)+1≤100:=by omega
 have ez:((n:Int)+1==0)=false:=beq_eq_false_iff_ne.2 (by omega)
 unfold plV
 clear h hfc hcells h6 hav
 go_enter Tryz.func122,Tryz.ntmps122
 go_wp2_with fail
 go_quiet (fail)
 go_wp2_with fail
 obtain⟨X,hX⟩:∃X,((((w.alloc (.cells #[.bool l,.bool z,.bool q,.int .i64 wd,.int .i64 pr,.bool false,.int .i64 0,.float .f64 0] 196)).drewN nq).setCell ⟨w.heap.size,5,none⟩ (.bool a.real)).setCell ⟨w.heap.size,6,none⟩ (.int .i64 a.num)).setCell ⟨w.heap.size,7,none⟩ (.float .f64 a.flt)=X:=⟨_,rfl⟩
 obtain⟨P,hP⟩:∃P,w.heap.size=P:=⟨_,rfl⟩
 have HbX:Hid (Below w.heap.size w X):=by
  rw[←hX]
  exact(((below_drewN (box_below w _) nq).setCell (p:=⟨w.heap.size,5,none⟩) (Nat.le_refl _) _).setCell (p:=⟨w.heap.size,6,none⟩) (Nat.le_refl _) _).setCell (p:=⟨w.heap.size,7,none⟩) (Nat.le_refl _) _
 have HPB:Hid (PB X P l z q wd pr a.real a.num a.flt):=by
  rw[←hX,←hP]
  have h0:PB ((w.alloc (.cells #[.bool l,.bool z,.bool q,.int .i64 wd,.int .i64 pr,.bool false,.int .i64 0,.float .f64 0] 196)).drewN nq) w.heap.size l z q wd pr false 0 0:=heap_alloc_last w _
  exact h0.setA a.real a.num a.flt
 have hFX:=HF.out.below HbX.out
 have HFX:Hid (FB X B G s k av out):=hFX
 have hPX:P<X.heap.size:=HPB.out.lt
 have hGX:G<X.heap.size:=hFX.lt
 have HS0:Hid (ArS X P G l z q wd pr a.real a.num a.flt s k X):=by
  obtain⟨p',v',hfc'⟩:=hFX.fc
  have hb:=HPB.out
  exact⟨⟨Below.refl _ _,hb.c0,hb.c1,hb.c2,hb.c3,hb.c4,hb.c5,hb.c6,hb.c7⟩,hfc'.txt,hfc'.at_⟩
 rw[hX,hP]
 have HFO:Hid (∀Y,ArS X P G l z q wd pr a.real a.num a.flt s k Y→Calls Tryz.prog 143 #[.agg #[.bool l,.bool z,.bool q,.int .i64 wd,.int .i64 pr,.bool a.real,.int .i64 a.num,.float .f64 a.flt],.int .u8 (s[k].toNat:Int)] Y fun e w'=>∃C RB SB MO FV ok,Hid (RowI (bAt s k) pr a (plV l z q wd pr a.real a.num a.flt) RB SB MO FV ok∧FV.oneCell'=true)∧e=.returned (.tuple #[.agg #[.int .u8 C,.bool RB,.bool SB,.int .i64 MO,FV],.bool ok])∧Hid (ArS X P G l z q wd pr a.real a.num a.flt s k w')∧Below Y.heap.size Y w'):=fun Y hY=>by
  rw[←bAt_in s k hk]
  refine(formOf_any l z q wd pr a (bAt s k) (h5 a (by simp)) hp hp4 Y).mono ?_
  rintro e w' ⟨C,RB,SB,MO,FV,ok,h1,h2,h3,h4⟩
  exact⟨C,RB,SB,MO,FV,ok,⟨h1,h2⟩,h3,hY.next h4,h4⟩
 have hGP:G<P:=by rw[←hP];exact hGlt
 clear hX hFX r0 r1 r2 htx hat hag hgw hgne hgn2 hGlt hGne hGn2
 go_cut [5,6] (fun s5 s6 wx=>∃A C RB SB MO FV ok,s5=.pointer (some ⟨A,0,none⟩)∧s6=.bool ok∧Hid (RowI (bAt s k) pr a (plV l z q wd pr a.real a.num a.flt) RB SB MO FV ok∧X.heap.size≤A∧wx.heap[A]? = some (.cells #[.int .u8 C,.bool RB,.bool SB,.int .i64 MO,FV] 234 (0,0))∧ArS X P G l z q wd pr a.real a.num a.flt s k wx))
 case first=>
  refine wp_region_held_drew (S:=fun Y=>ArS X P G l z q wd pr a.real a.num a.flt s k Y) (by kernel_rfl) HS0.out.drew (fun hHeld=>?_)
  obtain⟨W3,hW3⟩:∃W3,X.drew=W3:=⟨_,rfl⟩
  have HSd:Hid (ArS X P G l z q wd pr a.real a.num a.flt s k W3):=by rw[←hW3];exact HS0.out.drew
  rw[hW3]at hHeld ⊢
  clear hW3
  refine tkH 0 ?v0 rfl ?_ ?y0
  case y0=>(intro w' hSw;obtain⟨⟨_,y0,y1,y2,y3,y4,y5,y6,y7⟩,g0,g1⟩:=hSw;go_simp;first|done|with_reducible rfl)
  refine tkH 1 ?v1 rfl ?_
  refine tkH 2 ?v2 rfl ?_
  refine tkH 3 ?v3 rfl ?_
  refine tkH 4 ?v4 rfl ?_
  refine tkH 5 ?v5 rfl ?_ ?y5
  case y5=>(intro w' hSw;obtain⟨⟨_,y0,y1,y2,y3,y4,y5,y6,y7⟩,g0,g1⟩:=hSw;go_simp;first|done|with_reducible rfl)
  refine tkH 6 ?v6 rfl ?_
  refine tkH 7 ?v7 rfl ?_
  refine tkH 8 ?v8 rfl ?_
  refine tkH 9 ?v9 rfl ?_
  refine tkH 10 ?v10 rfl ?_ ?y10
  case y10=>(intro w' hSw;obtain⟨⟨_,y0,y1,y2,y3,y4,y5,y6,y7⟩,g0,g1⟩:=hSw;go_simp;first|done|with_reducible rfl)
  refine tkH 11 ?v11 rfl ?_
  refine wpAnyH_ready (rs:=[12,16]) (by kernel_rfl) (by simp) ?_
  refine AllReadyH.cons (o:=_) rfl (fun K hK=>?_) (AllReadyH.cons (o:=_) rfl (fun K hK=>?_) AllReadyH.nil)
  ·go_simp
   refine(HFO.out _ HSd.out).mono ?_
   rintro e Y ⟨C,RB,SB,MO,FV,ok,HI,rfl,HSY,hbY⟩
   dsimp only
   refine hK.out _ _ HSY.out (fun hHeld=>?_)
   clear hK K
   have hst:∀ (W:World) (x:Addr) (m:Mode),(store x FV m).run Tryz.prog W=stored Tryz.prog W x FV m:=fun W x m=>run_store _ W x FV m HI.out.2
   refine tkH 13 ?v13 rfl ?_
   refine tkH 14 ?v14 rfl ?_
   refine tkH 15 ?v15 rfl ?_
   refine rdH 16 rfl (fun K hK=>?_)
   go_simp
   refine hK.out _ _ (HSY.out.alloc _) (fun hHeld=>?_)
   clear hK K
   refine nmH ?_
   refine rdH 17 rfl (fun K hK=>?_)
   go_simp
   refine hK.out _ _ (HSY.out.alloc _) (fun hHeld=>?_)
   clear hK K
   refine nmH ?_
   refine rdH 18 rfl (fun K hK=>?_)
   go_simp
   refine hK.out _ _ (HSY.out.alloc _) (fun hHeld=>?_)
   clear hK K
   refine wpAnyH_done (by kernel_rfl) ?_ _
   go_wp2_with fail
   go_meet
   exact⟨_,C,RB,SB,MO,FV,ok,rfl,rfl,HI.out.1,HSY.out.1.1.size,heap_alloc_last Y _,HSY.out.alloc _⟩
  ·go_simp
   obtain⟨W4,hW4⟩:∃W4,W3.alloc (.cells #[.int .u8 0,.bool false,.bool false,.int .i64 0,.nilFunc] 234)=W4:=⟨_,rfl⟩
   have HS4:Hid (ArS X P G l z q wd pr a.real a.num a.flt s k W4):=by rw[←hW4];exact HSd.out.alloc _
   have HA4:Hid (W4.heap[W3.heap.size]? = some (.cells #[.int .u8 0,.bool false,.bool false,.int .i64 0,.nilFunc] 234 (0,0))):=by rw[←hW4];exact heap_alloc_last W3 _
   have HX3:Hid (X.heap.size≤W3.heap.size):=HSd.out.1.1.size
   rw[hW4]
   refine hK.out _ _ HS4.out (fun hHeld=>?_)
   clear hK K hW4
   try simp only[Act.put]
   try simp only[List.setIfInBounds_toArray]
   try simp only[List.set_cons_succ]
   try simp only[List.set_cons_zero]
   obtain⟨A,hA⟩:∃A,W3.heap.size=A:=⟨_,rfl⟩
   rw[hA]at HA4 HX3 ⊢
   clear hA
   refine rdH 12 rfl (fun K hK=>?_)
   go_simp
   refine(HFO.out _ HS4.out).mono ?_
   rintro e Y ⟨C,RB,SB,MO,FV,ok,HI,rfl,HSY,hbY⟩
   have hst:∀ (W:World) (x:Addr) (m:Mode),(store x FV m).run Tryz.prog W=stored Tryz.prog W x FV m:=fun W x m=>run_store _ W x FV m HI.out.2
   have HFr:Hid (FrS X A Y):=by
    have hlt:=(Array.getElem?_eq_some_iff.1 HA4.out).1
    refine⟨HSY.out.1.1,?_,HX3.out,(hbY.block A hlt).trans HA4.out⟩
    have:=hbY.size
    omega
   dsimp only
   refine hK.out _ _ HSY.out (fun hHeld=>?_)
   clear hK K
   have c0:Y.cell? ⟨A,0,none⟩=some (.int .u8 0):=by rw[cell_of_heap HFr.out.2.2.2];rfl
   have c1:Y.cell? ⟨A,1,none⟩=some (.bool false):=by rw[cell_of_heap HFr.out.2.2.2];rfl
   have c2:Y.cell? ⟨A,2,none⟩=some (.bool false):=by rw[cell_of_heap HFr.out.2.2.2];rfl
   have c3:Y.cell? ⟨A,3,none⟩=some (.int .i64 0):=by rw[cell_of_heap HFr.out.2.2.2];rfl
   have c4:Y.cell? ⟨A,4,none⟩=some .nilFunc:=by rw[cell_of_heap HFr.out.2.2.2];rfl
   have f0:Y.frozen? ⟨A,0,none⟩=false:=frozen_of_heap HFr.out.2.2.2 0
   have f1:Y.frozen? ⟨A,1,none⟩=false:=frozen_of_heap HFr.out.2.2.2 1
   have f2:Y.frozen? ⟨A,2,none⟩=false:=frozen_of_heap HFr.out.2.2.2 2
   have f3:Y.frozen? ⟨A,3,none⟩=false:=frozen_of_heap HFr.out.2.2.2 3
   have f4:Y.frozen? ⟨A,4,none⟩=false:=frozen_of_heap HFr.out.2.2.2 4
   refine tkH 13 ?vb13 rfl ?_
   refine tkH 14 ?vb14 rfl ?_
   refine tkH 15 ?vb15 rfl ?_
   have HFIN:Hid (ArS X P G l z q wd pr a.real a.num a.flt s k (((((Y.setCell ⟨A,0,none⟩ (.int .u8 C)).setCell ⟨A,1,none⟩ (.bool RB)).setCell ⟨A,2,none⟩ (.bool SB)).setCell ⟨A,3,none⟩ (.int .i64 MO)).setCell ⟨A,4,none⟩ FV)):=by
    have:=HX3.out
    exact((((HSY.out.set A 0 _ this (by omega) (by omega)).set A 1 _ this (by omega) (by omega)).set A 2 _ this (by omega) (by omega)).set A 3 _ this (by omega) (by omega)).set A 4 _ this (by omega) (by omega)
   refine rdH 17 rfl (fun K hK=>?_)
   go_simp
   refine hK.out _ _ HFIN.out (fun hHeld=>?_)
   clear hK K
   refine nmH ?_
   refine rdH 18 rfl (fun K hK=>?_)
   go_simp
   refine hK.out _ _ HFIN.out (fun hHeld=>?_)
   clear hK K
   refine wpAnyH_done (by kernel_rfl) ?_ _
   go_wp2_with fail
   go_meet
   exact⟨A,C,RB,SB,MO,FV,ok,rfl,rfl,HI.out.1,HX3.out,(FrS.put HFr.out _ _ _ _ _).1,HFIN.out⟩
 case rest=>
  obtain⟨A,C,RB,SB,MO,FV,ok,rfl,rfl,HZ⟩:=hcut
  have hB4:B≤w.heap.size:=hB
  have hPG:P≠G:=by omega
  have hAG:A≠G:=by have:=HZ.out.2.1;omega
  have HXc:Hid (Below X.heap.size X wc):=HZ.out.2.2.2.1.1
  have HBw:Hid (Below B w wc):=by
   have h1:=HbX.out.mono hB
   exact h1.trans (HZ.out.2.2.2.1.1.mono (Nat.le_trans hB HbX.out.size))
  have HFw:Hid (FB wc B G s k av out):=HFX.out.below HZ.out.2.2.2.1.1
  have HPw:Hid (PB wc P l z q wd pr a.real a.num a.flt):=HPB.out.below HZ.out.2.2.2.1.1
  have HAw:Hid (wc.heap[A]? = some (.cells #[.int .u8 C,.bool RB,.bool SB,.int .i64 MO,FV] 234 (0,0))):=HZ.out.2.2.1
  have b1:wc.cell? ⟨A,1,none⟩=some (.bool RB):=by rw[cell_of_heap HAw.out];rfl
  have b3:wc.cell? ⟨A,3,none⟩=some (.int .i64 MO):=by rw[cell_of_heap HAw.out];rfl
  have p4:=HPw.out.c4
  have p5:=HPw.out.c5
  have HRI:Hid (RowI (bAt s k) pr a (plV l z q wd pr a.real a.num a.flt) RB SB MO FV ok):=HZ.out.1
  have HNO:Hid (¬Fits (bAt s k) pr a→ArgR B G s k av (a :: ars) out l z q wd pr w wc false):=fun hn=>⟨HBw.out,.inl ⟨rfl,letterF_no s a ars l z q wd pr k hn,HFw.out⟩⟩
  clear HZ HFO HS0
  obtain⟨AR,hAR⟩:∃AR,a.real=AR:=⟨_,rfl⟩
  rw[hAR]at p5
  rcases HRI.out with⟨rfl,hnf⟩|⟨rfl,kk,hFV,hL,hm1,hm2⟩
  ·have HR:Hid (ArgR B G s k av (a :: ars) out l z q wd pr w wc false):=HNO.out hnf
   clear HRI HNO hnf
   go_wp2_with fail
   go_ret
   exact⟨false,rfl,HR.out⟩
  ·by_cases hfit:RB=AR∧pr≤MO
   ·have HFit:Hid (Fits (bAt s k) pr a):=hL.fits.1 (by rw[hAR];exact hfit)
    have HL:Hid (LRow (bAt s k) pr a (plV l z q wd pr a.real a.num a.flt) RB SB MO kk):=hL
    have hen:=hL.enters
    obtain⟨rfl,hm⟩:=hfit
    have hmd:decide (MO<pr)=false:=decide_eq_false (by omega)
    clear HRI HNO hL
    go_wp2_with fail
    obtain⟨W7,hW7⟩:∃W7,wc.drew=W7:=⟨_,rfl⟩
    have HS7:Hid (Sv7 P A l z q wd pr a.real a.num a.flt C a.real SB MO FV wc.drew):=⟨HPw.out,by rw[hAR];exact HAw.out⟩
    have HG7:Hid (WrG W7):=by rw[←hW7];exact hG.below ((HbX.out.trans (HXc.out.mono HbX.out.size)).drew)
    have HF7:Hid (FB W7 B G s k av out):=by rw[←hW7];exact FB.drew HFw.out
    have HB7:Hid (Below B w W7):=by rw[←hW7];exact HBw.out.drew
    have HCL:Hid (∀W,WrG W→Sv7 P A l z q wd pr a.real a.num a.flt C a.real SB MO FV W→FB W B G s k av out→Below B w W→Calls Tryz.prog kk #[plV l z q wd pr a.real a.num a.flt] W fun e w'=>∃t,Hid (numV (bAt s k) pr a t)∧e=.returned (.string t)∧Hid (WrG w'∧Sv7 P A l z q wd pr a.real a.num a.flt C a.real SB MO FV w'∧FB w' B G s k av out∧Below B w w')):=fun W h1 h2 h3 h4=>
     (HL.out.writes W h1).mono fun e w' ⟨t,ht,he,hb⟩=>⟨t,ht,he,h1.below hb,h2.next hb,h3.below hb,h4.trans (hb.mono (Nat.le_trans hB4 h4.size))⟩
    have HFI:Hid (∀t W,numV (bAt s k) pr a t→WrG W→Sv7 P A l z q wd pr a.real a.num a.flt C a.real SB MO FV W→FB W B G s k av out→Below B w W→Calls Tryz.prog 145 #[.agg #[.bool l,.bool z,.bool q,.int .i64 wd,.int .i64 pr,.bool a.real,.int .i64 a.num,.float .f64 a.flt],.string t,.bool SB] W fun e w'=>e=.returned (.string (padS l z q wd (bAt s k) t))∧Hid (WrG w'∧Sv7 P A l z q wd pr a.real a.num a.flt C a.real SB MO FV w'∧FB w' B G s k av out∧Below B w w')):=fun t W ht h1 h2 h3 h4=>by
     have hfl:=fill_any l z q wd pr a.real a.num a.flt t (bAt s k) W hw0 hw4 (numV_size _ _ _ _ ht) (numV_np _ _ _ _ ht)
     rw[←HL.out.sign]at hfl
     exact hfl.mono fun e w' ⟨he,hb⟩=>⟨he,h1.below hb,h2.next hb,h3.below hb,h4.trans (hb.mono (Nat.le_trans hB4 h4.size))⟩
    clear hAR p5 p4 b1 b3
    subst hFV
    refine wp_region_held_drew (S:=fun Y=>Sv7 P A l z q wd pr a.real a.num a.flt C a.real SB MO (.func (.func kk) #[plV l z q wd pr a.real a.num a.flt] #[]) Y) (by kernel_rfl) HS7.out (fun hHeld=>?_)
    rw[hW7]at hHeld HS7 ⊢
    clear hW7
    refine tkH 0 ?vc0 rfl ?_
    refine tkH 1 ?vc1 rfl ?_
    refine tkH 2 ?vc2 rfl ?_
    refine tkH 3 ?vc3 rfl ?_ ?yc3
    case yc3=>(intro w' hSw;have y0:=hSw.pb.c0;have y1:=hSw.pb.c1;have y2:=hSw.pb.c2;have y3:=hSw.pb.c3;have y4:=hSw.pb.c4;have y5:=hSw.pb.c5;have y6:=hSw.pb.c6;have y7:=hSw.pb.c7;clear hSw;go_simp;first|done|with_reducible rfl)
    refine tkH 4 ?vc4 rfl ?_
    refine tkH 5 ?vc5 rfl ?_ ?yc5
    case yc5=>(intro w' hSw;have a2:=hSw.a2;have a4:=hSw.a4;clear hSw;go_simp;first|done|with_reducible rfl)
    refine tkH 7 ?vc7 rfl ?_
    refine tkH 8 ?vc8 rfl ?_ ?yc8
    case yc8=>(intro w' hSw;have a2:=hSw.a2;have a4:=hSw.a4;clear hSw;go_simp;first|done|with_reducible rfl)
    refine rdH 6 rfl (fun K hK=>?_)
    go_simp
    refine(HCL.out _ HG7.out HS7.out HF7.out HB7.out).mono ?_
    rintro e Y1 ⟨t,HT,rfl,H1⟩
    dsimp only
    refine hK.out _ _ H1.out.2.1 (fun hHeld=>?_)
    clear hK K
    refine nmH ?_
    refine rdH 9 rfl (fun K hK=>?_)
    go_simp
    refine(HFI.out t _ HT.out H1.out.1 H1.out.2.1 H1.out.2.2.1 H1.out.2.2.2).mono ?_
    rintro e Y2 ⟨rfl,H2⟩
    dsimp only
    refine hK.out _ _ H2.out.2.1 (fun hHeld=>?_)
    clear hK K
    have hus:=padS_size l z q wd (bAt s k) t hw0 hw4 (numV_size _ _ _ _ HT.out)
    have HLT:Hid (letterF s (a :: ars) l z q wd pr k=.good (padS l z q wd (bAt s k) t) (k+1)):=letterF_yes s a ars l z q wd pr k HFit.out t HT.out
    obtain⟨U,hU⟩:∃U,padS l z q wd (bAt s k) t=U:=⟨_,rfl⟩
    rw[hU]at hus HLT ⊢
    clear hU
    have HWS:Hid (Calls Tryz.prog 144 #[.pointer (some ⟨G,3,none⟩),.string U] Y2 fun e w'=>e=.returned (.tuple #[.int .i64 (U.size:Int),.nilIface])∧Hid (Sv7 P A l z q wd pr a.real a.num a.flt C a.real SB MO (.func (.func kk) #[plV l z q wd pr a.real a.num a.flt] #[]) w'∧FB w' B G s k av (out++U.data.toList)∧Below B w w')):=by
     obtain⟨_,hs7,⟨p',v',hbd⟩,hbB⟩:=H2.out
     refine(gTextK_any B G 3 _ _ _ _ U Y2 hbd (by rw[Lib.byteCells_length];omega) (Nat.le_trans hB4 hbB.size)).mono ?_
     rintro e w' ⟨rfl,v2,hbd2,hb2,hk2⟩
     refine⟨rfl,hs7.kept hk2 hPG hAG,⟨.pointer (some ⟨G,3,none⟩),v2,?_⟩,hbB.trans hb2⟩
     rw[Lib.strCells_eq,←Lib.byteCells_append]at hbd2
     exact hbd2
    refine nmH ?_
    refine rdH 10 rfl (fun K hK=>?_)
    go_simp
    refine HWS.out.mono ?_
    rintro e Z ⟨rfl,H3⟩
    dsimp only
    refine hK.out _ _ H3.out.1 (fun hHeld=>?_)
    clear hK K
    refine wpAnyH_done (by kernel_rfl) ?_ _
    obtain⟨p3,v3,hfc3⟩:=H3.out.2.1.fc
    have z1:=hfc3.at_
    have z2:=hfc3.args
    rw[hav2]at z2
    have HAV:Hid (av=.slice (some ⟨g,o,none⟩) (n+1) cap):=hav2
    clear hav2
    have zf1:=hfc3.froz 1
    have zf2:=hfc3.froz 2
    clear hfc3
    have hcap:n+1≤cap:=by omega
    have hcapi:(n:Int)+1≤(cap:Int):=by omega
    go_wp2_with fail
    all_goals
     go_ret
     have hA3:=HA.out.below H3.out.2.2
     rw[HAV.out]at hA3
     refine⟨true,rfl,((H3.out.2.2.setCell (p:=⟨G,2,none⟩) HBG.out _).setCell (p:=⟨G,1,none⟩) HBG.out _),.inr ⟨rfl,U,_,HLT.out,hk,hus,FB.step H3.out.2.1 _,?_⟩⟩
     refine ArgsAt.below ?_ (((Below.refl B Z).setCell (p:=⟨G,2,none⟩) HBG.out _).setCell (p:=⟨G,1,none⟩) HBG.out _)
     first
      | exact args_tail (by simpa using hn) hA3
      | exact args_last (by simpa using hn) (by omega) hA3
   ·have HR:Hid (ArgR B G s k av (a :: ars) out l z q wd pr w wc false):=HNO.out (fun hf=>hfit (by have:=hL.fits.2 hf;rw[hAR]at this;exact this))
    clear HRI HNO hL
    by_cases hr:RB=AR
    ·have hmd:decide (MO<pr)=true:=decide_eq_true (by have:¬pr≤MO:=fun h=>hfit ⟨hr,h⟩;omega)
     subst hr
     clear hfit
     go_wp2_with fail
     go_ret
     exact⟨false,rfl,HR.out⟩
    ·clear hfit
     have:(RB=true∧AR=false)∨(RB=false∧AR=true):=by cases RB<;>cases AR<;>simp at hr ⊢
     clear hr
     rcases this with⟨rfl,rfl⟩|⟨rfl,rfl⟩
     ·go_wp2_with fail
      go_ret
      exact⟨false,rfl,HR.out⟩
     ·go_wp2_with fail
      go_ret
      exact⟨false,rfl,HR.out⟩
theorem WrG.belowB{w w':World}{B:Nat}(h:WrG w)(hT:0<B∧1<B)(hb:Below B w w'):WrG w':=
 ⟨fun i hi=>by rw[hb.cell (p:=⟨0,i,none⟩) hT.1];exact h.1 i hi,fun i hi=>by rw[hb.cell (p:=⟨1,i,none⟩) hT.2];exact h.2.1 i hi,Nat.lt_of_lt_of_le h.2.2.1 hb.size,Nat.lt_of_lt_of_le h.2.2.2 hb.size⟩
theorem fcountF(B G k:Nat)(s:ByteArray)(av:Value)(out:List UInt8)(w:World)(h:FB w B G s k av out)(hk:k≤s.size)(hs:s.size≤1200) :
  Calls Tryz.prog 121 #[.pointer (some ⟨G,0,none⟩)] w fun e w'=>∃j n ok k',CountV s k j n ok k'∧e=.returned (.tuple #[.int .i64 n,.bool ok])∧FB w' B G s k' av out∧Mod G w w':=by
 obtain⟨p,v,hb⟩:=h
 refine(fcount_any G k s av p v w hb.blk hk hs).mono ?_
 rintro e w' ⟨j,n,ok,k',h1,h2,h3,h4⟩
 exact⟨j,n,ok,k',h1,h2,⟨p,v,FB.row hb h3 h4⟩,h4⟩
theorem fseesF(B G k:Nat)(s q:ByteArray)(av:Value)(out:List UInt8)(w:World)(h:FB w B G s k av out)(hk:k≤s.size) :
  Calls Tryz.prog 81 #[.pointer (some ⟨G,0,none⟩),.string q] w fun e w'=>e=.returned (.bool (pre (s.extract k s.size) q))∧∃n,w'=w.drewN n:=by
 obtain⟨p,v,hb⟩:=h
 exact fsees_any G k s q av p v w hb.blk hk
theorem FB.drewN{w:World}{B G k:Nat}{s:ByteArray}{av:Value}{out:List UInt8}(h:FB w B G s k av out)(n:Nat):FB (w.drewN n) B G s k av out:=by
 obtain⟨p,v,h⟩:=h
 exact⟨p,v,⟨h.base,h.blk,h.adr,h.buf,h.own,h.lies,h.ne8⟩⟩
theorem FB.mod{w w':World}{B G P k:Nat}{s:ByteArray}{av:Value}{out:List UInt8}(h:FB w B G s k av out)(hm:Mod P w w')(hP:∃cs T fz,w.heap[P]? = some (.cells cs T fz)∧T≠5)(hne:P≠G):FB w' B G s k av out:=by
 obtain⟨p,v,h⟩:=h
 obtain⟨cs,T,fz,hb,hT⟩:=hP
 refine⟨p,v,h.base,(hm.2.2.2.2 G h.lt (fun e=>hne e.symm)).trans h.blk,h.adr,h.buf,⟨h.own.1,?_⟩,h.lies,h.ne8⟩
 rcases h.own.2 with hn|⟨g,cap,cur,fz',rfl,hbg,hg,rest⟩
 ·exact .inl hn
 ·have:g≠P:=fun e=>by
   rw[e,hb]at hg
   simp only[Option.some.injEq,Obj.cells.injEq]at hg
   exact hT hg.2.1
  exact .inr ⟨g,cap,cur,fz',rfl,hbg,(hm.2.2.2.2 g (Array.getElem?_eq_some_iff.1 hg).1 this).trans hg,rest⟩
theorem Mod.belowB{w w':World}{B P:Nat}(hm:Mod P w w')(hP:B≤P)(hB:B≤w.heap.size):Below B w w':=
 ⟨hm.1,hm.2.1,hm.2.2.1,hm.2.2.2.1,fun k hk=>hm.2.2.2.2 k (by omega) (by omega)⟩
theorem padS_none(l z q:Bool)(c:Int)(t:ByteArray):padS l z q (-1) c t=padS l z q 0 c t:=by
 unfold padS
 rw[if_pos (by omega),if_pos (by omega)]
theorem letterF_none(s:ByteArray)(ars:List ArgV)(l z q:Bool)(pr:Int)(j:Nat):letterF s ars l z q (-1) pr j=letterF s ars l z q 0 pr j:=by
 cases ars with
 | nil=>rfl
 | cons a ars=>
  show @ite _ (Fits (bAt s j) pr a) (Classical.propDecidable _) (PlaceR.good (padS l z q (-1) (bAt s j) (numT (bAt s j) pr a)) (j+1)) _=_
  rw[padS_none]
  rfl
theorem count_no(s:ByteArray)(k j:Nat)(h:400<runV 10 s k j):countR s k j = -2:=by
 unfold countR countV
 have hne:(s.extract k j).data.toList≠[]:=fun e=>by
  unfold runV at h
  rw[e,valN_nil]at h
  omega
 rw[if_neg hne,if_pos (by unfold runV at h;exact h)]
theorem count_yes(s:ByteArray)(k j:Nat)(hj:j≤s.size)(h:runV 10 s k j≤400):(j≤k∧countR s k j = -1∧runV 10 s k j=0)∨(k<j∧countR s k j=(runV 10 s k j:Int)):=by
 unfold countR countV
 by_cases hk:k<j
 ·right
  refine⟨hk,?_⟩
  have hne:(s.extract k j).data.toList≠[]:=fun e=>by
   have:=congrArg List.length e
   rw[data_len,ByteArray.size_extract]at this
   simp at this
   omega
  rw[if_neg hne,if_neg (by unfold runV at h;omega)]
  rfl
 ·left
  have e:(s.extract k j).data.toList = []:=List.length_eq_zero_iff.1 (by rw[data_len,ByteArray.size_extract];omega)
  refine⟨by omega,by rw[if_pos e],?_⟩
  unfold runV
  rw[e,valN_nil]
theorem hasF_zero(c:Int)(s:ByteArray)(k:Nat):hasF c s k k=false:=by
 unfold hasF
 exact @decide_eq_false _ (Classical.propDecidable _) (fun⟨i,h1,h2,_⟩=>by omega)
theorem hasF_next(c:Int)(s:ByteArray)(k i:Nat)(hk:k≤i):hasF c s k (i+1)=(hasF c s k i || decide (bAt s i=c)):=by
 unfold hasF
 by_cases h:bAt s i=c
 ·rw[decide_eq_true h,Bool.or_true]
  exact @decide_eq_true _ (Classical.propDecidable _) ⟨i,hk,by omega,h⟩
 ·rw[decide_eq_false h,Bool.or_false]
  by_cases h2:∃j,k≤j∧j<i∧bAt s j=c
  ·rw[@decide_eq_true _ (Classical.propDecidable _) h2]
   obtain⟨j,a,b,e⟩:=h2
   exact @decide_eq_true _ (Classical.propDecidable _) ⟨j,a,by omega,e⟩
  ·rw[@decide_eq_false _ (Classical.propDecidable _) h2]
   refine @decide_eq_false _ (Classical.propDecidable _) (fun⟨j,a,b,e⟩=>h2 ⟨j,a,?_,e⟩)
   have:j≠i:=fun e2=>h (e2 ▸ e)
   omega
end Go.Proofs.YtenbfookfcmpoaaGreatDoor
