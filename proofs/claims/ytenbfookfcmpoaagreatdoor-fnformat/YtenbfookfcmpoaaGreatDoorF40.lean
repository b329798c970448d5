import Derived.Test.YtenbfookfcmpoaaGreatDoorF37
import Derived.Test.YtenbfookfcmpoaaGreatDoorF35
namespace Go.Proofs.YtenbfookfcmpoaaGreatDoor
open Go.ChangeShapes Go.WideShapes Go.RowKit
set_option maxHeartbeats 400000 in
theorem pick_any(B:Nat)(w:World)(a:Option Addr)(len cap:Nat)(pos n:Int)(hc:Cur B w a len cap pos)(hk:Code B w a len)(h0:0≤pos)(h1:pos≤900000000)(hn:2≤n)(hn':n≤1000000) :
  Calls Tryz.prog 16 #[.pointer (some ⟨B,0,none⟩),.int .i64 n] w fun e w'=>∃v pos':Int,0≤v∧v<n∧e=.returned (.int .i64 v)∧pos≤pos'∧pos'≤pos+2∧Cur B w' a len cap pos'∧Code B w' a len∧Only B w w':=by
 have HN:Hid _:=fun(_:Unit)=>next_any B w a len cap pos hc hk h0 (by omega)
 have HK:Hid _:=fun(_:Unit)=>hk
 clear hc hk
 go_enter Tryz.func16,Tryz.ntmps16
 go_wp2_with fail
 refine(HN.out ()).mono ?_
 rintro e w1 ⟨x,hx0,hx1,rfl,hc1,ho1⟩
 have hk1:=(HK.out ()).only ho1
 by_cases hs:200<n
 ·have HN2:Hid _:=fun(_:Unit)=>next_any B w1 a len cap (pos+1) hc1 hk1 (by omega) (by omega)
  have HO:Hid _:=fun(_:Unit)=>ho1
  have HK1:Hid _:=fun(_:Unit)=>hk1
  clear hc1 ho1 hk1 HN HK
  go_wp2_with fail
  refine(HN2.out ()).mono ?_
  rintro e w2 ⟨y,hy0,hy1,rfl,hc2,ho2⟩
  have HO2:Hid _:=fun(_:Unit)=>ho2
  have HC2:Hid _:=fun(_:Unit)=>hc2
  clear hc2 ho2 HN2
  have hm0:0≤(x*256+y) % n:=Int.emod_nonneg _ (by omega)
  have hm1:(x*256+y) % n<n:=Int.emod_lt_of_pos _ (by omega)
  go_wp2
  go_ret
  exact⟨_,_,hm0,hm1,rfl,by omega,by omega,HC2.out (),(HK1.out ()).only (HO2.out ()),(HO.out ()).trans (HO2.out ())⟩
 ·have HO:Hid _:=fun(_:Unit)=>ho1
  have HC1:Hid _:=fun(_:Unit)=>hc1
  have HK1:Hid _:=fun(_:Unit)=>hk1
  clear hc1 ho1 hk1 HN HK
  have hm0:0≤x % n:=Int.emod_nonneg _ (by omega)
  have hm1:x % n<n:=Int.emod_lt_of_pos _ (by omega)
  go_wp2
  go_ret
  exact⟨_,_,hm0,hm1,rfl,by omega,by omega,HC1.out (),HK1.out (),HO.out ()⟩
set_option maxHeartbeats 400000 in
theorem bits_any(B:Nat)(w:World)(a:Option Addr)(len cap:Nat)(pos:Int)(hc:Cur B w a len cap pos)(hk:Code B w a len)(h0:0≤pos)(h1:pos≤900000000) :
  Calls Tryz.prog 37 #[.pointer (some ⟨B,0,none⟩)] w fun e w'=>∃v:Int,(Lit.int .i64 v).wf=true∧e=.returned (.int .i64 v)∧Cur B w' a len cap (pos+8)∧Code B w' a len∧Only B w w':=by
 have HS:Hid _:=fun(_:Unit)=>And.intro hc hk
 clear hc hk
 go_enter Tryz.func37,Tryz.ntmps37
 go_wp2
 go_loopw [3,4] (fun n k wl=>∃ (j:Nat) (N:Int),j≤8∧n=.int .u64 N∧k=.int .i64 j∧Hid (Cur B wl a len cap (pos+j)∧Code B wl a len∧Only B w wl)) (fun _ k _=>8-(intOf k).toNat)
 case atStart=>exact⟨0,0,by omega,rfl,rfl,by have:=(HS.out ()).1;simpa using this,(HS.out ()).2,Only.refl _ _⟩
 case round=>
  obtain⟨j,N,hj,rfl,rfl,HR⟩:=hrel
  by_cases hlt:j<8
  ·obtain⟨hc,hk,ho⟩:=HR.out
   have HN:Hid _:=fun(_:Unit)=>next_any B wr a len cap (pos+j) hc hk (by omega) (by omega)
   have HX:Hid _:=fun(_:Unit)=>And.intro hk ho
   clear hc hk ho HR
   go_wp2_with fail
   refine(HN.out ()).mono ?_
   rintro e w1 ⟨x,hx0,hx1,rfl,hc1,ho1⟩
   have HY:Hid _:=fun(_:Unit)=>And.intro hc1 ho1
   clear hc1 ho1 HN
   go_wp2
   refine⟨⟨j+1,_,by omega,rfl,by go_num,?_,(HX.out ()).1.only (HY.out ()).2,(HX.out ()).2.trans (HY.out ()).2⟩,by simp[intOf];omega⟩
   have h:=(HY.out ()).1
   rw[show pos+((j+1:Nat):Int)=pos+(j:Int)+1 by omega]
   exact h
  ·have e8:j=8:=by omega
   subst e8
   go_wp2
   go_ret
   exact⟨_,wrap64_wf N,rfl,HR.out⟩
theorem small_wf(v:Int)(h0:-1000≤v)(h1:v≤1000):(Lit.int .i64 v).wf=true:=by
 refine WalkArith.wf_i64 ?_;omega
def DS(B:Nat)(w0 w:World)(a:Option Addr)(len cap:Nat)(n:Int):Prop:=∃pos:Int,0≤pos∧pos≤n∧Cur B w a len cap pos∧Code B w a len∧w0.grownBy w (some B)
theorem grown_trans{a b c:World}{r:Option Nat}(h:a.grownBy b r)(k:b.grownBy c r):a.grownBy c r:=
 ⟨k.os.trans h.os,k.tape.trans h.tape,k.output.trans h.output,Nat.le_trans h.size k.size,fun x hx hr=>(k.block x (Nat.lt_of_lt_of_le hx h.size) hr).trans (h.block x hx hr)⟩
theorem grown_refl(a:World)(r:Option Nat):a.grownBy a r:=⟨rfl,rfl,rfl,Nat.le_refl _,fun _ _ _=>rfl⟩
theorem Only.grown{B:Nat}{w w':World}(h:Only B w w'):w.grownBy w' (some B):=⟨h.1,h.2.1,h.2.2.1,by rw[h.2.2.2.1];exact Nat.le_refl _,fun k _ hr=>h.2.2.2.2 k (fun e=>hr (by rw[e]))⟩
theorem below_grown{w w':World}(r:Option Nat)(h:Below w.heap.size w w'):w.grownBy w' r:=⟨h.os,h.tape,h.output,h.size,fun k hk _=>h.block k hk⟩
theorem cur_lt{B:Nat}{w:World}{a:Option Addr}{len cap:Nat}{pos:Int}(h:Cur B w a len cap pos):B<w.heap.size:=by
 obtain⟨_,c0,_⟩:=h
 exact cell_lt c0
theorem DS.below{B:Nat}{w0 w w':World}{a:Option Addr}{len cap:Nat}{n:Int}(h:DS B w0 w a len cap n)(hb:Below w.heap.size w w'):DS B w0 w' a len cap n:=by
 obtain⟨pos,h0,h1,hc,hk,hg⟩:=h
 exact⟨pos,h0,h1,hc.below hb (cur_lt hc),hk.below hb,grown_trans hg (below_grown _ hb)⟩
theorem DS.mono{B:Nat}{w0 w:World}{a:Option Addr}{len cap:Nat}{n m:Int}(h:DS B w0 w a len cap n)(hm:n≤m):DS B w0 w a len cap m:=by
 obtain⟨pos,h0,h1,h2⟩:=h
 exact⟨pos,h0,by omega,h2⟩
theorem DS.only{B:Nat}{w0 w w':World}{a:Option Addr}{len cap:Nat}{n m:Int}{pos:Int}(h:DS B w0 w a len cap n)(ho:Only B w w')(h0:0≤pos)(h1:pos≤m)(hc:Cur B w' a len cap pos):DS B w0 w' a len cap m:=by
 obtain⟨_,_,_,_,hk,hg⟩:=h
 exact⟨pos,h0,h1,hc,hk.only ho,grown_trans hg ho.grown⟩
theorem DS.self{B:Nat}{w0 w:World}{a:Option Addr}{len cap:Nat}{n:Int}(h:DS B w0 w a len cap n):DS B w w a len cap n:=by
 obtain⟨pos,h0,h1,h2,h3,_⟩:=h
 exact⟨pos,h0,h1,h2,h3,grown_refl _ _⟩
theorem DS.join{B:Nat}{w0 w w':World}{a:Option Addr}{len cap:Nat}{n m:Int}(h:DS B w0 w a len cap n)(k:DS B w w' a len cap m):DS B w0 w' a len cap m:=by
 obtain⟨_,_,_,_,_,hg⟩:=h
 obtain⟨pos,h0,h1,h2,h3,h4⟩:=k
 exact⟨pos,h0,h1,h2,h3,grown_trans hg h4⟩
theorem DS.cell{B:Nat}{w w':World}{a:Option Addr}{len cap:Nat}{m:Int}(k:DS B w w' a len cap m)(p:Addr)(hp:p.block<w.heap.size)(hB:p.block≠B):w'.cell? p=w.cell? p:=by
 obtain⟨pos,h0,h1,h2,h3,h4⟩:=k
 exact h4.cell_far p hp (by intro h;cases h;exact hB rfl)
theorem DS.fresh{B:Nat}{w0 w:World}{a:Option Addr}{len cap:Nat}{n:Int}(h:DS B w0 w a len cap n):w.heap.size≠B:=by
 obtain⟨pos,_,_,hc,_⟩:=h
 have:=cur_lt hc
 omega
theorem pick_ds(B:Nat)(w0 w:World)(a:Option Addr)(len cap:Nat)(m n:Int)(h:DS B w0 w a len cap m)(hm:m≤800000000)(hn:2≤n)(hn':n≤1000000) :
  Calls Tryz.prog 16 #[.pointer (some ⟨B,0,none⟩),.int .i64 n] w fun e w'=>∃v:Int,0≤v∧v<n∧e=.returned (.int .i64 v)∧DS B w0 w' a len cap (m+2):=by
 have H:=h
 obtain⟨pos,h0,h1,hc,hk,hg⟩:=h
 refine(pick_any B w a len cap pos n hc hk h0 (by omega) hn hn').mono ?_
 rintro e w' ⟨v,pos',hv0,hv1,rfl,hp0,hp1,hc',hk',ho⟩
 exact⟨v,hv0,hv1,rfl,H.only ho (by omega) (by omega) hc'⟩
theorem bits_ds(B:Nat)(w0 w:World)(a:Option Addr)(len cap:Nat)(m:Int)(h:DS B w0 w a len cap m)(hm:m≤800000000) :
  Calls Tryz.prog 37 #[.pointer (some ⟨B,0,none⟩)] w fun e w'=>∃v:Int,(Lit.int .i64 v).wf=true∧e=.returned (.int .i64 v)∧DS B w0 w' a len cap (m+8):=by
 have H:=h
 obtain⟨pos,h0,h1,hc,hk,hg⟩:=h
 refine(bits_any B w a len cap pos hc hk h0 (by omega)).mono ?_
 rintro e w' ⟨v,hv,rfl,hc',hk',ho⟩
 exact⟨v,hv,rfl,H.only ho (by omega) (by omega) hc'⟩
theorem DS.start(w:World)(a:Option Addr)(len cap:Nat)(T:Nat)(hk:Code w.heap.size w a len):DS w.heap.size w (w.alloc (.cells #[.slice a len cap,.int .i64 0,.int .u64 0] T)) a len cap 0:=by
 refine⟨0,by omega,by omega,⟨0,?_,?_,?_,?_,?_⟩,hk.below ((Below.refl _ _).alloc (Nat.le_refl _) _),below_grown _ ((Below.refl _ _).alloc (Nat.le_refl _) _)⟩
 all_goals simp[go_sem]
theorem DS.done{w w':World}{a:Option Addr}{len cap:Nat}{n:Int}(h:DS w.heap.size w w' a len cap n):Below w.heap.size w w':=by
 obtain⟨_,_,_,_,_,h⟩:=h
 exact⟨h.os,h.tape,h.output,h.size,fun k hk=>h.block k hk (by intro e;cases e;exact Nat.lt_irrefl _ hk)⟩
theorem DS.append{B:Nat}{w wr w1:World}{a:Option Addr}{len cap:Nat}{n:Int}{u:Value}{o:Obj}(h:DS B w wr a len cap n)(hk:Code B w a len)(hB:B<w.heap.size)
  (hg:(wr.alloc o).grownBy w1 u.ownBlock) (hu:∀g,u.ownBlock=some g→w.heap.size≤g):DS B w w1 a len cap n:=by
 obtain⟨pos,h0,h1,hc,_,hw⟩:=h
 have hsz:w.heap.size≤wr.heap.size:=hw.size
 have key:∀k,k<w.heap.size→w1.heap[k]? = wr.heap[k]?:=fun k hk=>by
  rw[hg.block k (by simp;omega) (by intro e;have:=hu k e.symm;omega)]
  exact((Below.refl wr.heap.size wr).alloc (Nat.le_refl _) o).block k (by omega)
 have g1:w.grownBy w1 (some B):=⟨hg.os.trans hw.os,hg.tape.trans hw.tape,hg.output.trans hw.output,Nat.le_trans hsz (Nat.le_trans (by simp) hg.size),fun k hk hr=>(key k hk).trans (hw.block k hk hr)⟩
 refine⟨pos,h0,h1,?_,?_,g1⟩
 ·obtain⟨seed,c0,c1,c2,f1,f2⟩:=hc
  have e:w1.heap[B]? = wr.heap[B]?:=key B hB
  exact⟨seed,(World.cell?_of_block (a:=⟨B,0,none⟩) e).trans c0,(World.cell?_of_block (a:=⟨B,1,none⟩) e).trans c1,(World.cell?_of_block (a:=⟨B,2,none⟩) e).trans c2,(World.frozen?_of_block (a:=⟨B,1,none⟩) e).trans f1,(World.frozen?_of_block (a:=⟨B,2,none⟩) e).trans f2⟩
 ·refine⟨hk.1,fun i hi=>?_⟩
  obtain⟨x,hx,hb,z,z0,z1,hcell⟩:=hk.2 i hi
  have hbl:(x.add i).block=x.block:=by unfold Addr.add;split<;>rfl
  exact⟨x,hx,hb,z,z0,z1,by rw[g1.cell_far (x.add i) (cell_lt hcell) (by intro e;cases e;exact hb hbl.symm)];exact hcell⟩
theorem own_text{w:World}{B e n:Nat}{v:Value}{os:List Nat}(h:w.ownsRow B e 1 v n (os.map cellD))(hn:os.length=n)(h0:0<n) :
  (convert 22 9 v).run Tryz.prog w=.ok (.string ⟨(os.map dchr).toArray⟩) w:=by
 rcases own_cell h hn with⟨_,h⟩|⟨g,cap,rfl,h1,h2,h3,h4⟩
 ·omega
 ·have hl:(os.map dchr).length=n:=by simp[hn]
  have:=run_convert_bytes_back (P:=Tryz.prog) w 22 9 5 ⟨g,0,none⟩ cap (os.map dchr) Tryz.underlying22 Tryz.underlying5 Tryz.underlying9 (fun j hj=>by
   rw[show(⟨g,0,none⟩:Addr).add j=⟨g,j,none⟩ by(simp[Addr.add];try omega),h4 j (by omega)]
   have hj':j<os.length:=by omega
   simp[cellD,List.getElem?_eq_getElem hj'])
  rw[hl]at this
  exact this
theorem good_dchr(os:List Nat)(h:Ten os):good 10 (os.map dchr):=by
 intro c hc
 obtain⟨d,hd,rfl⟩:=List.mem_map.1 hc
 rw[digN_dchr d (h d hd)]
 have:=h d hd
 omega
theorem digit_pick(v:Int)(h0:0≤v)(h1:v<10):∃D:Nat,D<10∧v=(D:Int)∧Value.int .u8 (48+v)=cellD D:=by
 obtain⟨D,rfl⟩:=Int.eq_ofNat_of_zero_le h0
 refine⟨D,by omega,rfl,?_⟩
 unfold cellD
 rw[dchr_nat D (by omega)]
 rfl
theorem own_far{w w':World}{base e n:Nat}{v:Value}{xs:List Value}{B:Nat}(h:w.ownsRow base e 1 v n xs)(hg:w.grownBy w' (some B))(hB:B<base):w'.ownsRow base e 1 v n xs:=by
 obtain⟨h0,h⟩:=h
 refine⟨h0,?_⟩
 rcases h with h|⟨g,cap,cur,hv,hb,hh,h1⟩
 ·exact .inl h
 ·exact .inr ⟨g,cap,cur,hv,hb,(hg.block g (Array.getElem?_eq_some_iff.1 hh).1 (by intro e;cases e;omega)).trans hh,h1⟩
set_option maxHeartbeats 1600000 in
set_option maxRecDepth 100000 in
theorem l7digits_ds(B:Nat)(w0 w:World)(a:Option Addr)(len cap:Nat)(m:Int)(k:Nat)(h:DS B w0 w a len cap m)(hm:m≤700000000)(hk1:1≤k)(hk2:k≤1000) :
  Calls Tryz.prog 40 #[.pointer (some ⟨B,0,none⟩),.int .i64 (k:Int)] w fun e w'=>∃s:ByteArray,s.size=k∧good 10 s.data.toList∧e=.returned (.string s)∧DS B w0 w' a len cap (m+2*k):=by
 obtain⟨i1,hi,hz0,hz1,hz2⟩:=info_parts Tryz.infoB
 have H0:Hid (DS B w0 w a len cap m):=h
 have HK:Hid (Code B w a len):=h.choose_spec.2.2.2.1
 have HB:Hid (B<w.heap.size):=cur_lt h.choose_spec.2.2.1
 clear h
 go_enter Tryz.func40,Tryz.ntmps40
 go_wp2
 go_loopw [1,5] (fun vn vo wr=>∃ (j:Nat) (os:List Nat),vn=.int .i64 ((k:Int)-(j:Int))∧j≤k∧os.length=j∧Hid (Ten os)∧wr.ownsRow w.heap.size 5 1 vo os.length (os.map cellD)∧Hid (DS B w wr a len cap (m+2*j))∧w.heap.size≤wr.heap.size) (fun vn _ _=>(intOf vn).toNat)
 case atStart=>exact⟨0,[],by simp,by omega,rfl,fun _ h=>absurd h (by simp),World.ownsRow_nil _ _ _ _,by show DS _ _ _ _ _ _ _;simpa using H0.out.self,Nat.le_refl _⟩
 case round=>
  obtain⟨j,os,rfl,hj,hjl,HT,hown,HD,hsz⟩:=hrel
  by_cases hlt:j<k
  ·go_wp2_with fail
   refine(pick_ds B wr wr a len cap _ 10 HD.out.self (by omega) (by omega) (by omega)).mono ?_
   rintro e wp ⟨v,hv0,hv1,rfl,hdp⟩
   have HDP:Hid (DS B w wp a len cap (m+2*(j:Int)+2)):=HD.out.join hdp
   have hown2:=own_far hown hdp.choose_spec.2.2.2.2 HB.out
   have hsz2:w.heap.size≤wp.heap.size:=Nat.le_trans hsz hdp.choose_spec.2.2.2.2.size
   have HO:Hid (∀g,u5.ownBlock=some g→w.heap.size≤g):=fun g hg=>(own_block_lt hown g hg).1
   obtain⟨D,hD,hvD,hcD⟩:=digit_pick v hv0 hv1
   have HCD:Hid (Value.int .u8 (48+v)=cellD D):=hcD
   clear hdp hown hvD hcD
   go_wp2_with (first
    | (at_builtin;refine wpList_append_lies _ rfl _ _ 22 rfl w.heap.size 5 i1 (.int .u8 0) 1 1 Tryz.underlying22 hi hz0 hz1 hz2 rfl (by decide) _ _ _ rfl (hown2.alloc _) ⟨wp.heap.size,0,none⟩ 1 1 [.int .u8 (48+v)] rfl rfl ?c1 ?c2 (by decide) ?c3 ?c4 ?c5 (wp.heap.size+1) ?c6 ?_)
    | go_in)
   case c1=>
    intro j u hj
    match j,hj with
    | 0,hj=>simp at hj;subst hj;simp[Addr.add]
   case c2=>intro u hu;simp at hu;subst hu;rfl
   case c3=>unfold maxLen;omega
   case c4=>omega
   case c5=>simp;omega
   case c6=>simp
   ·intro g1 cap1 w1 hown' hgrow hwhere hlt1
    have HD1:Hid (DS B w w1 a len cap (m+2*(j:Int)+2)):=HDP.out.append HK.out HB.out hgrow HO.out
    have HS:Hid (w.heap.size≤w1.heap.size):=Nat.le_trans hsz2 (Nat.le_trans (by simp) hgrow.size)
    have HW1:Hid (w1.ownsRow w.heap.size 5 1 (.slice (some ⟨g1,0,none⟩) (j+1) cap1) (os++[D]).length ((os++[D]).map cellD)):=by
     rw[HCD.out]at hown'
     rw[List.map_append,List.length_append,hjl]
     exact hown'
    clear hown' hgrow hwhere hlt1 hown2
    go_wp2
    exact⟨⟨j+1,os++[D],by simp;omega,by omega,by simp[hjl],ten_snoc HT.out hD,HW1.out,by show DS _ _ _ _ _ _ _;exact HD1.out.mono (by omega),HS.out⟩,by simp only[intOf];omega⟩
  ·obtain rfl:j=k:=by omega
   have hcv:=own_text hown rfl (by omega)
   have HG:Hid _:=good_dchr os HT.out
   have hjj:decide (0<(j:Int)-(j:Int))=false:=decide_eq_false (by omega)
   clear hown
   go_wp2
   go_ret
   exact⟨⟨(os.map dchr).toArray⟩,by rw[←data_len];simpa using hjl,HG.out,rfl,H0.out.join HD.out⟩
end Go.Proofs.YtenbfookfcmpoaaGreatDoor
namespace Go.Proofs.YtenbfookfcmpoaaGreatDoor
open Go.ChangeShapes Go.WideShapes Go.RowKit
open Ieee (double)
set_option maxHeartbeats 400000 in
theorem l2nan_any(w:World):Calls Tryz.prog 73 #[] w fun e w'=>∃b,IsNan b∧b<18446744073709551616∧e=.returned (.float .f64 b)∧w'=w.drew:=by
 obtain⟨b,hb,hlt,hrun⟩:=run_nan (P:=Tryz.prog) 29 w
 go_enter Tryz.func73,Tryz.ntmps73
 go_wp2
 go_ret
 exact⟨b,hb,hlt,rfl,rfl⟩
set_option maxHeartbeats 400000 in
theorem l2signed_plus(x:Nat)(w:World):Calls Tryz.prog 74 #[.bool false,.float .f64 x] w fun e w'=>e=.returned (.float .f64 x)∧w'=w:=by
 go_enter Tryz.func74,Tryz.ntmps74
 go_wp2
 go_ret
 exact⟨rfl,rfl⟩
set_option maxHeartbeats 400000 in
theorem l2signed_minus(x y:Nat)(hy:Op.negFloat .f64 x=y)(w:World):Calls Tryz.prog 74 #[.bool true,.float .f64 x] w fun e w'=>e=.returned (.float .f64 y)∧w'=w:=by
 have hng:=run_neg x
 rw[hy]at hng
 clear hy
 go_enter Tryz.func74,Tryz.ntmps74
 go_wp2
 go_ret
 exact⟨rfl,rfl⟩
theorem l2signed_fw(s:Bool)(m:Nat)(p:Int)(h:Rep m p)(w:World):Calls Tryz.prog 74 #[.bool s,.float .f64 (fw false m p)] w fun e w'=>e=.returned (.float .f64 (fw s m p))∧w'=w:=by
 cases s
 ·exact l2signed_plus _ w
 ·exact l2signed_minus _ _ (neg_rep false m p h) w
theorem l2signed_iw(s:Bool)(w:World):Calls Tryz.prog 74 #[.bool s,.float .f64 (iw false)] w fun e w'=>e=.returned (.float .f64 (iw s))∧w'=w:=by
 cases s
 ·exact l2signed_plus _ w
 ·exact l2signed_minus _ _ (neg_iw false) w
def fromV(U b:Nat):Prop:=b<18446744073709551616∧((IsNan U∧IsNan b)∨(¬IsNan U∧b=U))
def Told(n:Int)(U:Nat)(s:Bool)(E M:Nat):Prop:=
 IntKind.u64.wrap n=(U:Int)∧bits .and .u64 ((U:Int) / 4503599627370496) 2047=(E:Int)∧bits .and .u64 (U:Int) 4503599627370495=(M:Int)∧((U:Int) / 9223372036854775808==1)=s
theorem told_any(n:Int):∃s E M,E<2048∧M<4503599627370496∧u64n n=signBit s+(E*4503599627370496+M)∧Told n (u64n n) s E M:=by
 have hu:=u64n_cast n
 have hlt:=u64n_lt n
 generalize u64n n=U at *
 obtain⟨s,E,M,hE,hM,hU⟩:=word_parts U hlt
 have ha:=mask11 ((U:Int) / 4503599627370496) (by omega) (by omega)
 have hb:=mask52 (U:Int) (by omega) (by omega)
 have eE:(U:Int) / 4503599627370496 % 2048=(E:Int):=by cases s<;>simp only[signBit]at hU<;>simp at hU<;>omega
 have eM:(U:Int) % 4503599627370496=(M:Int):=by cases s<;>simp only[signBit]at hU<;>simp at hU<;>omega
 rw[eE]at ha
 rw[eM]at hb
 have es:((U:Int) / 9223372036854775808==1)=s:=by
  cases s
  ·simp only[signBit]at hU;simp at hU;rw[beq_eq_false_iff_ne];omega
  ·simp only[signBit]at hU;simp at hU;rw[beq_iff_eq];omega
 exact⟨s,E,M,hE,hM,hU,hu,ha,hb,es⟩
set_option maxRecDepth 100000 in
set_option maxHeartbeats 400000 in
theorem from_inf(n:Int)(U:Nat)(s:Bool)(ht:Told n U s 2047 0)(w:World) :
  Calls Tryz.prog 38 #[.int .i64 n] w fun e w'=>e=.returned (.float .f64 (iw s))∧w'=w:=by
 obtain⟨hu,ha,hb,es⟩:=ht
 cases s
 all_goals
  go_enter Tryz.func38,Tryz.ntmps38
  go_wp2_with (first|(go_at_call 75;refine(l2inf_any _).mono ?_;rintro e w' ⟨rfl,rfl⟩)|(go_at_call 74;refine(l2signed_iw _ _).mono ?_;rintro e w' ⟨rfl,rfl⟩))
  go_ret
  exact⟨rfl,rfl⟩
set_option maxRecDepth 100000 in
set_option maxHeartbeats 400000 in
theorem from_nan(n:Int)(U:Nat)(s:Bool)(M:Nat)(ht:Told n U s 2047 M)(hM:M≠0)(w:World) :
  Calls Tryz.prog 38 #[.int .i64 n] w fun e w'=>∃b,IsNan b∧b<18446744073709551616∧e=.returned (.float .f64 b)∧w'=w.drew:=by
 obtain⟨hu,ha,hb,es⟩:=ht
 have e2:((M:Int) != 0)=true:=by rw[bne_iff_ne];omega
 clear hM es
 go_enter Tryz.func38,Tryz.ntmps38
 go_wp2_with (go_at_call 73;refine(l2nan_any _).mono ?_;rintro e w' ⟨b,hnb,hbl,rfl,rfl⟩)
 go_ret
 exact⟨b,hnb,hbl,rfl,rfl⟩
set_option maxRecDepth 100000 in
set_option maxHeartbeats 400000 in
theorem from_small(n:Int)(U:Nat)(s:Bool)(M:Nat)(ht:Told n U s 0 M)(hM:M<4503599627370496)(w:World) :
  Calls Tryz.prog 38 #[.int .i64 n] w fun e w'=>e=.returned (.float .f64 (fw s M (-1074)))∧w'=w:=by
 obtain⟨hu,ha,hb,es⟩:=ht
 have HR:Hid _:=fun(_:Unit)=>rep_at M (-1074) (by omega) (by omega) (by omega)
 cases s
 all_goals
  go_enter Tryz.func38,Tryz.ntmps38
  go_wp2_with (first|(go_at_call 76;refine(l2scaled_any M (-1074) (by omega) (by omega) (by omega) _).mono ?_;rintro e w' ⟨rfl,rfl⟩)|(go_at_call 74;refine(l2signed_fw _ _ _ (HR.out ()) _).mono ?_;rintro e w' ⟨rfl,rfl⟩))
  go_ret
  exact⟨rfl,rfl⟩
set_option maxRecDepth 100000 in
set_option maxHeartbeats 400000 in
theorem from_normal(n:Int)(U:Nat)(s:Bool)(E M:Nat)(ht:Told n U s E M)(hE0:1≤E)(hE1:E≤2046)(hM:M<4503599627370496)(w:World) :
  Calls Tryz.prog 38 #[.int .i64 n] w fun e w'=>e=.returned (.float .f64 (fw s (4503599627370496+M) ((E:Int)-1075)))∧w'=w:=by
 obtain⟨hu,ha,hb,es⟩:=ht
 have e1:((E:Int)==2047)=false:=by rw[beq_eq_false_iff_ne];omega
 have e2:((E:Int)==0)=false:=by rw[beq_eq_false_iff_ne];omega
 have ho:=or_one M hM
 have HR:Hid _:=fun(_:Unit)=>rep_at (4503599627370496+M) ((E:Int)-1075) (by omega) (by omega) (by omega)
 cases s
 all_goals
  go_enter Tryz.func38,Tryz.ntmps38
  go_wp2_with (first|(go_at_call 76;refine(l2scaled_any (4503599627370496+M) ((E:Int)-1075) (by omega) (by omega) (by omega) _).mono ?_;rintro e w' ⟨rfl,rfl⟩)|(go_at_call 74;refine(l2signed_fw _ _ _ (HR.out ()) _).mono ?_;rintro e w' ⟨rfl,rfl⟩))
  go_ret
  exact⟨rfl,rfl⟩
theorem specFrom_any(n:Int)(w:World) :
  Calls Tryz.prog 38 #[.int .i64 n] w fun e w'=>∃b,fromV (u64n n) b∧e=.returned (.float .f64 b)∧∃k,w'=w.drewN k:=by
 have hlt:=u64n_lt n
 obtain⟨s,E,M,hE,hM,hU,ht⟩:=told_any n
 by_cases hinf:E=2047
 ·subst hinf
  by_cases hz:M=0
  ·subst hz
   refine(from_inf n _ s ht w).mono ?_
   rintro e w' ⟨rfl,rfl⟩
   have hi:u64n n=iw s:=by rw[hU];unfold iw;omega
   exact⟨iw s,⟨by rw[←hi];exact hlt,.inr ⟨by rw[hU];exact not_nan s _ (by omega),hi.symm⟩⟩,rfl,0,rfl⟩
  ·refine(from_nan n _ s M ht hz w).mono ?_
   rintro e w' ⟨b,hb,hbl,rfl,rfl⟩
   exact⟨b,⟨hbl,.inl ⟨by rw[hU];exact nan_word s _ (by omega) (by omega),hb⟩⟩,rfl,1,rfl⟩
 ·have hnn:¬IsNan (u64n n):=by rw[hU];exact not_nan s _ (by omega)
  by_cases hz:E=0
  ·subst hz
   refine(from_small n _ s M ht hM w).mono ?_
   rintro e w' ⟨rfl,rfl⟩
   have hc:Canon M (-1074):=.inr ⟨hM,rfl⟩
   have hi:u64n n=fw s M (-1074):=by rw[hU,fw_canon s M _ hc];unfold rung;omega
   exact⟨_,⟨fw_lt s M _ hc,.inr ⟨hnn,hi.symm⟩⟩,rfl,0,rfl⟩
  ·refine(from_normal n _ s E M ht (by omega) (by omega) hM w).mono ?_
   rintro e w' ⟨rfl,rfl⟩
   have hc:Canon (4503599627370496+M) ((E:Int)-1075):=.inl ⟨by omega,by omega,by omega,by omega⟩
   have hi:u64n n=fw s (4503599627370496+M) ((E:Int)-1075):=by rw[hU,fw_canon s _ _ hc];unfold rung;omega
   exact⟨_,⟨fw_lt s _ _ hc,.inr ⟨hnn,hi.symm⟩⟩,rfl,0,rfl⟩
theorem decW_lt(V:Nat)(e:Int):decW 10 V e<18446744073709551616:=by
 unfold decW
 split
 ·omega
 ·unfold ratioW ratioAt
  split<;>exact fw_word _ _ _
theorem DS.drewN{B:Nat}{w0 w:World}{a:Option Addr}{len cap:Nat}{n:Int}(h:DS B w0 w a len cap n)(k:Nat):DS B w0 (w.drewN k) a len cap n:=h.below (below_drewN (Below.refl _ _) k)
theorem whole_rep(v:Int)(h0:0≤v)(h1:v<9007199254740992):∃k:Nat,v=(k:Int)∧Rep k 0∧floatOfInt .f64 v=fw false k 0:=by
 obtain⟨k,rfl⟩:=Int.eq_ofNat_of_zero_le h0
 exact⟨k,rfl,rep_whole k (by omega),float_of k⟩
theorem floats_at(cs:List Nat)(h:∀f∈cs,f<18446744073709551616)(n:Nat)(hn:n<cs.length):∃f,((cs.map (Value.float .f64)).toArray)[n]? = some (.float .f64 f)∧f<18446744073709551616:=by
 refine⟨cs[n],?_,h _ (List.getElem_mem hn)⟩
 simp[List.getElem?_eq_getElem hn]
set_option maxHeartbeats 4000000 in
set_option maxRecDepth 100000 in
theorem flt_ds(B:Nat)(w0 w:World)(a:Option Addr)(len cap:Nat)(m:Int)(h:DS B w0 w a len cap m)(hm:m≤600000000) :
  Calls Tryz.prog 18 #[.pointer (some ⟨B,0,none⟩)] w fun e w'=>∃x:Nat,x<18446744073709551616∧e=.returned (.float .f64 x)∧DS B w0 w' a len cap (m+50):=by
 have HP:Hid _:=fun(_:Unit)=>pick_ds B w0 w a len cap m 9 h (by omega) (by omega) (by omega)
 clear h
 go_enter Tryz.func18,Tryz.ntmps18
 go_wp2_with fail
 refine(HP.out ()).mono ?_
 rintro e w1 ⟨x,hx0,hx1,rfl,hd1⟩
 have H1:Hid _:=fun(_:Unit)=>hd1
 clear HP hd1
 have hx:x=0∨x=1∨x=2∨x=3∨x=4∨x=5∨x=6∨x=7∨x=8:=by omega
 clear hx0 hx1
 rcases hx with rfl|rfl|rfl|rfl|rfl|rfl|rfl|rfl|rfl
 ·go_wp2_with fail
  refine(bits_ds B w0 w1 a len cap _ (H1.out ()) (by omega)).mono ?_
  rintro e w2 ⟨v,hv,rfl,hd2⟩
  have H2:Hid _:=fun(_:Unit)=>hd2
  clear hv hd2
  go_wp2_with fail
  refine(specFrom_any v w2).mono ?_
  rintro e w3 ⟨b,hb,rfl,k,rfl⟩
  have HB:Hid _:=hb.1
  clear hb
  go_wp2
  go_ret
  exact⟨b,HB.out,rfl,((H2.out ()).drewN k).mono (by omega)⟩
 ·go_wp2_with fail
  refine(pick_ds B w0 w1 a len cap _ 1000 (H1.out ()) (by omega) (by omega) (by omega)).mono ?_
  rintro e w2 ⟨v,hv0,hv1,rfl,hd2⟩
  have H2:Hid _:=fun(_:Unit)=>hd2
  clear hd2
  go_wp2_with fail
  refine(pick_ds B w0 w2 a len cap _ 1000 (H2.out ()) (by omega) (by omega) (by omega)).mono ?_
  rintro e w3 ⟨u,hu0,hu1,rfl,hd3⟩
  have H3:Hid _:=fun(_:Unit)=>hd3
  clear hd3
  obtain⟨k,hk,hkr,hkf⟩:=whole_rep v hv0 (by omega)
  obtain⟨l,hl,hlr,hlf⟩:=whole_rep (1+u) (by omega) (by omega)
  obtain⟨r,hr,hrl⟩:=div_rep false false k l 0 0 hkr hlr (by omega)
  have hrun:=run_valid (P:=Tryz.prog) .quo 29 _ _ _ hr
  have HRL:Hid _:=hrl
  clear hr hrl hkr hlr hk hl
  go_wp2
  go_ret
  exact⟨r,HRL.out,rfl,(H3.out ()).mono (by omega)⟩
 ·go_wp2_with fail
  refine(pick_ds B w0 w1 a len cap _ 2048 (H1.out ()) (by omega) (by omega) (by omega)).mono ?_
  rintro e w2 ⟨v,hv0,hv1,rfl,hd2⟩
  have H2:Hid _:=fun(_:Unit)=>hd2
  clear hd2
  go_wp2_with fail
  refine(pick_ds B w0 w2 a len cap _ 5 (H2.out ()) (by omega) (by omega) (by omega)).mono ?_
  rintro e w3 ⟨u,hu0,hu1,rfl,hd3⟩
  have H3:Hid _:=fun(_:Unit)=>hd3
  clear hd3
  go_wp2_with fail
  refine(specFrom_any _ w3).mono ?_
  rintro e w4 ⟨b,hb,rfl,k,rfl⟩
  have HB:Hid _:=hb.1
  clear hb
  go_wp2
  go_ret
  exact⟨b,HB.out,rfl,((H3.out ()).drewN k).mono (by omega)⟩
 ·go_wp2_with fail
  refine(bits_ds B w0 w1 a len cap _ (H1.out ()) (by omega)).mono ?_
  rintro e w2 ⟨v,hv,rfl,hd2⟩
  have H2:Hid _:=fun(_:Unit)=>hd2
  clear hv hd2
  go_wp2_with fail
  refine(pick_ds B w0 w2 a len cap _ 52 (H2.out ()) (by omega) (by omega) (by omega)).mono ?_
  rintro e w3 ⟨u,hu0,hu1,rfl,hd3⟩
  have H3:Hid _:=fun(_:Unit)=>hd3
  clear hd3
  go_wp2_with fail
  refine(specFrom_any _ w3).mono ?_
  rintro e w4 ⟨b,hb,rfl,k,rfl⟩
  have HB:Hid _:=hb.1
  clear hb
  go_wp2
  go_ret
  exact⟨b,HB.out,rfl,((H3.out ()).drewN k).mono (by omega)⟩
 ·go_wp2_with fail
  refine(pick_ds B w0 w1 a len cap _ 100000 (H1.out ()) (by omega) (by omega) (by omega)).mono ?_
  rintro e w2 ⟨v,hv0,hv1,rfl,hd2⟩
  have H2:Hid _:=fun(_:Unit)=>hd2
  clear hd2
  obtain⟨k,hk,hkr,hkf⟩:=whole_rep v hv0 (by omega)
  obtain⟨r,hr,hrl⟩:=div_rep false false k 100 0 0 hkr (rep_whole 100 (by omega)) (by omega)
  rw[←bits_100]at hr
  have hrun:=run_valid (P:=Tryz.prog) .quo 29 _ _ _ hr
  have HRL:Hid _:=hrl
  clear hr hrl hkr hk
  go_wp2
  go_ret
  exact⟨r,HRL.out,rfl,(H2.out ()).mono (by omega)⟩
 ·go_wp2_with fail
  refine(bits_ds B w0 w1 a len cap _ (H1.out ()) (by omega)).mono ?_
  rintro e w2 ⟨v,hv,rfl,hd2⟩
  have H2:Hid _:=fun(_:Unit)=>hd2
  have hfo:=floatOf_is v
  have HWL:Hid (wordI v<18446744073709551616):=fw_word _ _ _
  clear hv hd2
  generalize wordI v=W at *
  go_wp2
  go_ret
  exact⟨W,HWL.out,rfl,(H2.out ()).mono (by omega)⟩
 ·obtain⟨b,hbn,hbl,hrn⟩:=run_nan (P:=Tryz.prog) 29 w1
  have hr1:=run_valid (P:=Tryz.prog) .quo 29 4607182418800017408 0 (iw false) (one_by_zero false)
  have hr2:=run_valid (P:=Tryz.prog) .quo 29 13830554455654793216 0 (iw true) minus_one_by_zero
  have hr3:=fun w=>run_neg 0 w
  have HIL:Hid (iw false<18446744073709551616∧iw true<18446744073709551616∧Op.negFloat .f64 0<18446744073709551616):=⟨by decide,by decide,by decide⟩
  have HBL:Hid (b<18446744073709551616):=hbl
  have HB:Hid _:=fun(O:Obj)=>(H1.out ()).below (((Below.refl _ _).drew).alloc (Nat.le_refl _) O)
  have hB:=(H1.out ()).fresh
  clear hbn hbl
  generalize iw false=I1 at *
  generalize iw true=I2 at *
  generalize Op.negFloat .f64 0=I3 at *
  go_wp2_with fail
  refine(pick_ds B _ _ a len cap _ 20 (HB.out _).self (by omega) (by omega) (by omega)).mono ?_
  rintro e w2 ⟨y,hy0,hy1,rfl,hd2⟩
  obtain⟨n,rfl⟩:=Int.eq_ofNat_of_zero_le hy0
  have hn:n<20:=by omega
  obtain⟨f,hf,hfl⟩:∃f,w2.cell? ⟨w1.heap.size,n,none⟩=some (.float .f64 f)∧f<18446744073709551616:=by
   obtain⟨f,h1,h2⟩:=floats_at [0,I3,I1,I2,b,4936209963552724370,4950912855330343670,1,4503599627370496,9218868437227405311,4845873199050653696,4890909195324358656,14114281232179134464,4890909195324358655,4591870180066957722,4599075939470750515,4907451598986591450,4921056587992461136,4517329193108106637,4518273666404680566] (by
    obtain⟨i1,i2,i3⟩:=HIL.out
    have i4:=HBL.out
    intro f hf
    simp only[List.mem_cons,List.not_mem_nil,or_false]at hf
    rcases hf with rfl|rfl|rfl|rfl|rfl|rfl|rfl|rfl|rfl|rfl|rfl|rfl|rfl|rfl|rfl|rfl|rfl|rfl|rfl|rfl<;>first|assumption|omega) n hn
   refine⟨f,?_,h2⟩
   rw[hd2.cell ⟨w1.heap.size,n,none⟩ (by simp) hB]
   exact(World.cell?_alloc_mark (w:=w1.drew) ..).trans h1
  have H2:Hid _:=fun(_:Unit)=>(HB.out _).join hd2
  have HFL:Hid _:=hfl
  have HNL:Hid _:=neg_lt f hfl
  have hrn2:=fun w=>run_neg f w
  clear hd2 HB hfl hr1 hr2 hr3 hrn hy0
  generalize Op.negFloat .f64 f=g at *
  go_wp2_with fail
  refine(pick_ds B w0 w2 a len cap _ 3 (H2.out ()) (by omega) (by omega) (by omega)).mono ?_
  rintro e w3 ⟨u,hu0,hu1,rfl,hd3⟩
  have H3:Hid _:=fun(_:Unit)=>hd3
  clear hd3
  by_cases hu:u=0
  ·subst hu
   go_wp2
   go_ret
   exact⟨g,HNL.out,rfl,(H3.out ()).mono (by omega)⟩
  ·have hu':(u==0)=false:=beq_eq_false_iff_ne.2 hu
   go_wp2
   go_ret
   exact⟨f,HFL.out,rfl,(H3.out ()).mono (by omega)⟩
 ·go_wp2_with fail
  refine(pick_ds B w0 w1 a len cap _ 17 (H1.out ()) (by omega) (by omega) (by omega)).mono ?_
  rintro e w2 ⟨v,hv0,hv1,rfl,hd2⟩
  have H2:Hid _:=fun(_:Unit)=>hd2
  clear hd2
  obtain⟨k,hk⟩:∃k:Nat,1+v=(k:Int):=⟨(1+v).toNat,by omega⟩
  have hk1:1≤k:=by omega
  have hk2:k≤17:=by omega
  go_wp2_with fail
  refine(l7digits_ds B w0 w2 a len cap _ k (H2.out ()) (by omega) hk1 (by omega)).mono ?_
  rintro e w3 ⟨s,hs,hg,rfl,hd3⟩
  have H3:Hid _:=fun(_:Unit)=>And.intro hg hd3
  clear hg hd3
  go_wp2_with fail
  refine(pick_ds B w0 w3 a len cap _ 60 (H3.out ()).2 (by omega) (by omega) (by omega)).mono ?_
  rintro e w4 ⟨u,hu0,hu1,rfl,hd4⟩
  have H4:Hid _:=fun(_:Unit)=>hd4
  clear hd4
  go_wp2_with fail
  refine(l4decimal_any s _ w4 (by omega) (H3.out ()).1 (by omega) (by omega)).mono ?_
  rintro e w5 ⟨rfl,hb5⟩
  have H5:Hid _:=fun(_:Unit)=>(H4.out ()).below hb5
  have HDL:Hid _:=decW_lt (valN 10 s.data.toList) (u-40)
  clear hb5
  generalize decW 10 (valN 10 s.data.toList) (u-40)=Z at *
  go_wp2
  go_ret
  exact⟨Z,HDL.out,rfl,(H5.out ()).mono (by omega)⟩
 ·go_wp2_with fail
  refine(pick_ds B w0 w1 a len cap _ 4096 (H1.out ()) (by omega) (by omega) (by omega)).mono ?_
  rintro e w2 ⟨v,hv0,hv1,rfl,hd2⟩
  have H2:Hid _:=fun(_:Unit)=>hd2
  clear hd2
  obtain⟨k,hk,hkr,hkf⟩:=whole_rep v hv0 (by omega)
  have hneg:=neg_rep false k 0 hkr
  have hmul:=mul_rep true k 0 hkr (-3) (by omega) (by omega)
  rw[←bits_eighth]at hmul
  have hrun:=run_valid (P:=Tryz.prog) .mul 29 _ _ _ hmul
  have hrn:=fun w=>run_neg (fw false k 0) w
  rw[hneg]at hrn
  have HFW:Hid (fw true k (0 + -3)<18446744073709551616):=fw_word _ _ _
  have e3:(!false)=true:=rfl
  rw[e3]at hrn
  clear hmul hkr hk hneg
  generalize fw true k (0 + -3)=Z at *
  generalize fw true k 0=Y at *
  go_wp2
  go_ret
  exact⟨Z,HFW.out,rfl,(H2.out ()).mono (by omega)⟩
end Go.Proofs.YtenbfookfcmpoaaGreatDoor
namespace Go.Proofs.YtenbfookfcmpoaaGreatDoor
open Go.ChangeShapes Go.WideShapes Go.RowKit
set_option maxHeartbeats 1000000 in
theorem num_ds(B:Nat)(w0 w:World)(a:Option Addr)(len cap:Nat)(m:Int)(h:DS B w0 w a len cap m)(hm:m≤700000000) :
  Calls Tryz.prog 17 #[.pointer (some ⟨B,0,none⟩)] w fun e w'=>∃v:Int,(Lit.int .i64 v).wf=true∧e=.returned (.int .i64 v)∧DS B w0 w' a len cap (m+20):=by
 have HP:Hid _:=fun(_:Unit)=>pick_ds B w0 w a len cap m 5 h (by omega) (by omega) (by omega)
 clear h
 go_enter Tryz.func17,Tryz.ntmps17
 go_wp2_with fail
 refine(HP.out ()).mono ?_
 rintro e w1 ⟨x,hx0,hx1,rfl,hd1⟩
 have H1:Hid _:=fun(_:Unit)=>hd1
 clear HP hd1
 have hx:x=0∨x=1∨x=2∨3≤x:=by omega
 rcases hx with rfl|rfl|rfl|hx
 ·go_wp2_with fail
  refine(bits_ds B w0 w1 a len cap _ (H1.out ()) (by omega)).mono ?_
  rintro e w2 ⟨v,hv,rfl,hd2⟩
  have H2:Hid _:=fun(_:Unit)=>And.intro hv hd2
  clear hv hd2
  go_wp2
  go_ret
  exact⟨v,(H2.out ()).1,rfl,(H2.out ()).2.mono (by omega)⟩
 ·go_wp2_with fail
  refine(bits_ds B w0 w1 a len cap _ (H1.out ()) (by omega)).mono ?_
  rintro e w2 ⟨v,hv,rfl,hd2⟩
  have H2:Hid _:=fun(_:Unit)=>hd2
  clear hv hd2
  go_wp2_with fail
  refine(pick_ds B w0 w2 a len cap _ 64 (H2.out ()) (by omega) (by omega) (by omega)).mono ?_
  rintro e w3 ⟨y,hy0,hy1,rfl,hd3⟩
  have H3:Hid _:=fun(_:Unit)=>hd3
  clear hd3
  go_wp2
  go_ret
  exact⟨_,wrap64_wf _,rfl,(H3.out ()).mono (by omega)⟩
 ·have HB:Hid _:=fun(O:Obj)=>(H1.out ()).below ((Below.refl _ _).alloc (Nat.le_refl _) O)
  have hB:=(H1.out ()).fresh
  go_wp2_with fail
  refine(pick_ds B _ _ a len cap _ 9 (HB.out _).self (by omega) (by omega) (by omega)).mono ?_
  rintro e w2 ⟨y,hy0,hy1,rfl,hd2⟩
  have hcell:=fun o=>hd2.cell ⟨w1.heap.size,o,none⟩ (by simp) hB
  have H2:Hid _:=fun(_:Unit)=>(HB.out _).join hd2
  clear hd2 HB
  have hy:y=0∨y=1∨y=2∨y=3∨y=4∨y=5∨y=6∨y=7∨y=8:=by omega
  rcases hy with rfl|rfl|rfl|rfl|rfl|rfl|rfl|rfl|rfl
  all_goals
   go_wp2
   go_ret
   exact⟨_,by decide,rfl,(H2.out ()).mono (by omega)⟩
 ·have e0:(x==0)=false:=beq_eq_false_iff_ne.2 (by omega)
  have e1:(x==1)=false:=beq_eq_false_iff_ne.2 (by omega)
  have e2:(x==2)=false:=beq_eq_false_iff_ne.2 (by omega)
  go_wp2_with fail
  refine(pick_ds B w0 w1 a len cap _ 200 (H1.out ()) (by omega) (by omega) (by omega)).mono ?_
  rintro e w2 ⟨y,hy0,hy1,rfl,hd2⟩
  have H2:Hid _:=fun(_:Unit)=>hd2
  clear hd2
  go_wp2
  go_ret
  exact⟨_,small_wf _ (by omega) (by omega),rfl,(H2.out ()).mono (by omega)⟩
end Go.Proofs.YtenbfookfcmpoaaGreatDoor
