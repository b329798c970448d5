import Derived.Test.YtenbfookfcmpoaaGreatDoorF40
import Derived.OwnWalk
import Derived.Lib.FrozenHead2
import Derived.Deep.Cut
import Derived.Deep.CutRange
namespace Go.Proofs.YtenbfookfcmpoaaGreatDoor
open Go.ChangeShapes Go.WideShapes Go.RowKit
theorem box_belowD(w:World)(b:Obj):Below w.heap.size w (w.alloc b):=(Below.refl _ w).alloc (Nat.le_refl _) _
def argC(a:ArgV):List Value:=[.bool a.real,.int .i64 a.num,.float .f64 a.flt]
def argCells(l:List ArgV):List Value:=l.flatMap argC
theorem argCells_append(l:List ArgV)(a:ArgV):argCells (l++[a])=argCells l++argC a:=by simp[argCells]
theorem argCells_at(l:List ArgV):∀ (i:Nat) (a:ArgV),l[i]? = some a→(argCells l)[i*3]? = some (.bool a.real)∧(argCells l)[i*3+1]? = some (.int .i64 a.num)∧(argCells l)[i*3+2]? = some (.float .f64 a.flt):=by
 induction l with
 | nil=>intro i a h;simp at h
 | cons x l ih=>
  intro i a h
  have e:argCells (x :: l)=.bool x.real :: .int .i64 x.num :: .float .f64 x.flt :: argCells l:=rfl
  cases i with
  | zero=>
   have:x=a:=by simpa using h
   subst this
   rw[e]
   exact⟨rfl,rfl,rfl⟩
  | succ i=>
   have h':l[i]? = some a:=by simpa using h
   obtain⟨h1,h2,h3⟩:=ih i a h'
   rw[e,show(i+1)*3=i*3+1+1+1 by omega]
   exact⟨h1,h2,h3⟩
structure DF (B:Nat) (w0:World) (a:Option Addr) (len cap:Nat) (m:Int) (v:Value) (l:List ArgV) (W:World):Prop where
 hB:w0.heap.size=B
 hk:Code B w0 a len
 ds:DS B w0 W a len cap m
 own:W.ownsRowF (B+1) 34 3 v l.length (argCells l)
 fl:∀x∈l,x.flt<18446744073709551616
section
variable {B len cap:Nat} {w0 W W':World} {a:Option Addr} {m m':Int} {v v':Value} {l:List ArgV}
theorem DF.ne(h:DF B w0 a len cap m v l W):v.ownBlock=none∨v.ownBlock≠some B:=by
 by_cases e:v.ownBlock=some B
 ·have:=(h.own.lt B e).1;omega
 ·exact .inr e
theorem DF.step(h:DF B w0 a len cap m v l W)(k:DS B W W' a len cap m'):DF B w0 a len cap m' v l W':=by
 have hg:W.grownBy W' (some B):=by obtain⟨_,_,_,_,_,hg⟩:=k;exact hg
 exact⟨h.hB,h.hk,h.ds.join k,h.own.kept hg h.ne,h.fl⟩
theorem DF.below(h:DF B w0 a len cap m v l W)(hb:Below W.heap.size W W'):DF B w0 a len cap m v l W':=
 ⟨h.hB,h.hk,h.ds.below hb,h.own.kept (below_grown none hb) (by by_cases e:v.ownBlock=none;exact .inl e;exact .inr e),h.fl⟩
theorem DF.more(h:DF B w0 a len cap m v l W)(hg:W.grownBy W' v.ownBlock)(x:ArgV)(hx:x.flt<18446744073709551616)(hown:W'.ownsRowF (B+1) 34 3 v' (l.length+1) (argCells l++argC x)):DF B w0 a len cap m v' (l++[x]) W':=by
 obtain⟨pos,h0,h1,hc,_,hgw⟩:=h.ds
 have hBl:=cur_lt hc
 have hne:v.ownBlock≠some B:=by rcases h.ne with e|e;rw[e];simp;exact e
 have hg2:w0.grownBy W' (some B):=by
  refine⟨hg.os.trans hgw.os,hg.tape.trans hgw.tape,hg.output.trans hgw.output,Nat.le_trans hgw.size hg.size,fun x hx hr=>?_⟩
  refine(hg.block x (Nat.lt_of_lt_of_le hx hgw.size) (fun e=>?_)).trans (hgw.block x hx hr)
  have:=(h.own.lt x e.symm).1
  have:=h.hB
  omega
 have eB:W'.heap[B]? = W.heap[B]?:=hg.block B hBl (fun e=>hne e.symm)
 refine⟨h.hB,h.hk,⟨pos,h0,h1,?_,?_,hg2⟩,by rw[List.length_append,argCells_append];exact hown,?_⟩
 ·obtain⟨seed,c0,c1,c2,f1,f2⟩:=hc
  exact⟨seed,(World.cell?_of_block (a:=⟨B,0,none⟩) eB).trans c0,(World.cell?_of_block (a:=⟨B,1,none⟩) eB).trans c1,(World.cell?_of_block (a:=⟨B,2,none⟩) eB).trans c2,(World.frozen?_of_block (a:=⟨B,1,none⟩) eB).trans f1,(World.frozen?_of_block (a:=⟨B,2,none⟩) eB).trans f2⟩
 ·refine⟨h.hk.1,fun i hi=>?_⟩
  obtain⟨y,hy,hb,z,z0,z1,hcell⟩:=h.hk.2 i hi
  have hbl:(y.add i).block=y.block:=by unfold Addr.add;split<;>rfl
  exact⟨y,hy,hb,z,z0,z1,by rw[hg2.cell_far (y.add i) (cell_lt hcell) (by intro e;cases e;exact hb hbl.symm)];exact hcell⟩
 ·intro y hy
  rcases List.mem_append.1 hy with hy|hy
  ·exact h.fl y hy
  ·rw[List.mem_singleton.1 hy];exact hx
theorem DF.start(hk:Code w0.heap.size w0 a len)(T:Nat):DF w0.heap.size w0 a len cap 0 (.slice none 0 0) [] (w0.alloc (.cells #[.slice a len cap,.int .i64 0,.int .u64 0] T)):=
 ⟨rfl,hk,DS.start w0 a len cap T hk,World.ownsRowF_nil _ _ _ _,fun x hx=>by cases hx⟩
theorem DF.args(h:DF B w0 a len cap m v l W)(hl:l.length≤100):ArgsAt W.heap.size W v l:=by
 rcases h.own.2 with⟨rfl,hn⟩|⟨g,c,cur,fz,rfl,hb,hg,h1,h2,h3,h4,h5⟩
 ·have:l = []:=List.length_eq_zero_iff.1 hn
  subst this
  exact⟨none,0,rfl,by simp,by simp,by omega,fun x hx=>by(cases hx),fun h=>absurd rfl h⟩
 ·refine⟨_,c,rfl,h2,hl,by unfold maxLen at h3;omega,h.fl,fun _=>⟨g,0,rfl,(Array.getElem?_eq_some_iff.1 hg).1,fun i x hi=>?_⟩⟩
  obtain⟨e1,e2,e3⟩:=argCells_at l i x hi
  have key:=h.own.cells (g:=g) rfl
  have had:∀j,(⟨g,0,none⟩:Addr).add j=⟨g,j,none⟩:=fun j=>by(simp[Addr.add];try omega)
  have k1:=key _ _ e1
  have k2:=key _ _ e2
  have k3:=key _ _ e3
  rw[had]at k1 k2 k3
  rw[Nat.zero_add,Nat.mul_comm 3 i]
  exact⟨k1,k2,k3⟩
end
theorem int_size10(n:Int):(intText n 10).size≤65:=by
 unfold intText
 rw[if_pos (by omega)]
 have h1:∀k,(⟨(textOf 10 k).toArray⟩:ByteArray).size≤64:=fun k=>by
  rw[←data_len]
  exact textOf_length 10 k
 split
 ·rw[append_size]
  have:=h1 (unsig (-n))
  have e:(⟨#[45]⟩:ByteArray).size=1:=rfl
  rw[show(10:Int).toNat=10 from rfl]
  omega
 ·have:=h1 (unsig n)
  rw[show(10:Int).toNat=10 from rfl]
  omega
theorem app_n(t E:ByteArray)(k:Nat)(h:E.size=k):(t++E).size=t.size+k:=by rw[append_size,h]
theorem DF.mono{B len cap:Nat}{w0 W:World}{a:Option Addr}{m m':Int}{v:Value}{l:List ArgV}(h:DF B w0 a len cap m v l W)(hm:m≤m'):DF B w0 a len cap m' v l W:=⟨h.hB,h.hk,h.ds.mono hm,h.own,h.fl⟩
def DrfQ(w:World)(e:Ending)(w':World):Prop:=∃ (t:ByteArray) (v:Value) (l:List ArgV),t.size≤1200∧e=.returned (.tuple #[.string t,v])∧ArgsAt w'.heap.size w' v l∧Below w.heap.size w w'
theorem drfQ{w w':World}{e:Ending}{t:ByteArray}{v:Value}(l:List ArgV)(h1:t.size≤1200)(h2:e=.returned (.tuple #[.string t,v]))(h3:ArgsAt w'.heap.size w' v l)(h4:Below w.heap.size w w'):DrfQ w e w':=⟨t,v,l,h1,h2,h3,h4⟩
theorem DF.done{B len cap:Nat}{w0 W:World}{a:Option Addr}{m:Int}{v:Value}{l:List ArgV}(h:DF B w0 a len cap m v l W):Below w0.heap.size w0 W:=by
 have:=h.ds
 rw[←h.hB]at this
 exact this.done
theorem strs_at(cs:List ByteArray)(h:∀f∈cs,f.size≤30)(n:Nat)(hn:n<cs.length):∃f,((cs.map Value.string).toArray)[n]? = some (.string f)∧f.size≤30:=by
 refine⟨cs[n],?_,h _ (List.getElem_mem hn)⟩
 simp[List.getElem?_eq_getElem hn]
theorem arg_info:(Tryz.prog.info? 34).map (fun i=>(i.zero,i.size,i.bytes))=some (some (.agg #[.bool false,.int .i64 0,.float .f64 0]),3,24):=by kernel_rfl
set_option maxHeartbeats 4000000 in
set_option maxRecDepth 100000 in
theorem drawFormat_any(w:World)(a:Option Addr)(len cap:Nat)(hk:Code w.heap.size w a len) :
  Calls Tryz.prog 5 #[.slice a len cap] w (DrfQ w):=by
 obtain⟨i0,hi,hz0,hz1,hz2⟩:=info_parts arg_info
 obtain⟨B,hB⟩:∃B,w.heap.size=B:=⟨_,rfl⟩
 have HS:Hid (DF B w a len cap 0 (.slice none 0 0) [] (w.alloc (.cells #[.slice a len cap,.int .i64 0,.int .u64 0] 46))):=by rw[←hB];exact DF.start hk _
 clear hk
 go_enter Tryz.func5,Tryz.ntmps5
 go_wp2_with fail
 have HBE:Hid (w.heap.size=B):=hB
 clear hB
 refine(pick_ds B _ _ a len cap 0 5 HS.out.ds.self (by omega) (by omega) (by omega)).mono ?_
 rintro e w1 ⟨x,hx0,hx1,rfl,hd1⟩
 obtain⟨n0,rfl⟩:=Int.eq_ofNat_of_zero_le hx0
 have H1:Hid (DF B w a len cap (0+2) (.slice none 0 0) [] w1):=HS.out.step hd1
 clear HS hd1 hx0
 have hn0:n0≤4:=by omega
 clear hx1
 go_wp2_with fail
 go_loopw [5,6,7] (fun v5 v6 v7 wl=>∃ (n:Nat) (t:ByteArray) (l:List ArgV),v7=.int .i64 (n:Int)∧n≤4∧v5=.string t∧(t.size=0∨2≤t.size)∧t.size+150*n≤600∧l.length+n≤4∧Hid (DF B w a len cap (1000*(4-(n:Int))+2) v6 l wl)) (fun _ _ v7 _=>(intOf v7).toNat)
 case atStart=>exact⟨n0,⟨#[]⟩,[],rfl,hn0,rfl,.inl rfl,by show 0+150*n0≤600;omega,by simp;exact hn0,⟨H1.out.hB,H1.out.hk,H1.out.ds.mono (by omega),H1.out.own,H1.out.fl⟩⟩
 case round=>
  clear H1 hn0
  obtain⟨n,t,l,rfl,hn,rfl,ht2,htz,hll,HD⟩:=hrel
  by_cases hpos:0<n
  ·obtain⟨n,rfl⟩:∃k,n=k+1:=⟨n-1,by omega⟩
   have hgt:(0:Int)<((n+1:Nat):Int):=by omega
   go_wp2_with fail
   refine(pick_ds B _ _ a len cap _ 8 HD.out.ds.self (by omega) (by omega) (by omega)).mono ?_
   rintro e w2 ⟨x,hx0,hx1,rfl,hd2⟩
   have H2:Hid (DF B w a len cap (1000*(4-((n+1:Nat):Int))+2+2) u6 l w2):=HD.out.step hd2
   clear HD hd2
   by_cases hxz:x=0
   ·subst hxz
    go_wp2_with fail
    exact⟨⟨n,_,l,rfl,by omega,rfl,.inr (by rw[app_n _ _ 2 rfl];omega),by rw[app_n _ _ 2 rfl];omega,by omega,H2.out.mono (by omega)⟩,by simp only[intOf];omega⟩
   ·by_cases hxo:x=1
    ·subst hxo
     go_wp2_with fail
     exact⟨⟨n,_,l,rfl,by omega,rfl,.inr (by rw[app_n _ _ 3 rfl];omega),by rw[app_n _ _ 3 rfl];omega,by omega,H2.out.mono (by omega)⟩,by simp only[intOf];omega⟩
    ·have hxb0:(x==0)=false:=beq_eq_false_iff_ne.2 hxz
     have hxb1:(x==1)=false:=beq_eq_false_iff_ne.2 hxo
     go_wp2_with fail
     refine(pick_ds B _ _ a len cap _ 3 H2.out.ds.self (by omega) (by omega) (by omega)).mono ?_
     rintro e w3 ⟨y,hy0,hy1,rfl,hd3⟩
     obtain⟨k0,rfl⟩:=Int.eq_ofNat_of_zero_le hy0
     have H3:Hid (DF B w a len cap (1000*(4-((n+1:Nat):Int))+6) u6 l w3):=(H2.out.step hd3).mono (by omega)
     have hk0:k0≤2:=by omega
     clear H2 hd3 hy0 hy1 hxz hxo hxb0 hxb1 hx0 hx1
     go_wp2_with fail
     go_loopw [5,8] (fun v5 v8 wl=>∃ (k:Nat) (t1:ByteArray),v8=.int .i64 (k:Int)∧k≤2∧v5=.string t1∧t1.size+k≤t.size+3∧1≤t1.size∧Hid (DF B w a len cap (1000*(4-((n+1:Nat):Int))+10-2*(k:Int)) u6 l wl)) (fun _ v8 _=>(intOf v8).toNat)
     case atStart=>exact⟨k0,_,rfl,hk0,rfl,by rw[app_n _ _ 1 rfl];omega,by rw[app_n _ _ 1 rfl];omega,H3.out.mono (by omega)⟩
     case round=>
      clear H3 hk0
      obtain⟨k,t1,rfl,hk2,rfl,htz1,ht1,HD⟩:=hrel
      by_cases hkp:0<k
      ·obtain⟨k,rfl⟩:∃j,k=j+1:=⟨k-1,by omega⟩
       have hgt1:(0:Int)<((k+1:Nat):Int):=by omega
       go_wp2_with fail
       refine(pick_ds B _ _ a len cap _ 3 HD.out.ds.self (by omega) (by omega) (by omega)).mono ?_
       rintro e w4 ⟨z,hzz0,hzz1,rfl,hd4⟩
       have H4:Hid (DF B w a len cap (1000*(4-((n+1:Nat):Int))+10-2*(k:Int)) u6 l w4):=(HD.out.step hd4).mono (by omega)
       clear HD hd4
       obtain rfl|rfl|rfl:z=0∨z=1∨z=2:=by omega
       all_goals go_wp2_with fail
       all_goals exact⟨⟨k,_,rfl,by omega,rfl,by rw[app_n _ _ 1 rfl];omega,by rw[app_n _ _ 1 rfl];omega,H4⟩,by simp only[intOf];omega⟩
      ·obtain rfl:k=0:=by omega
       go_wp2_with fail
       refine(pick_ds B _ _ a len cap _ 2 HD.out.ds.self (by omega) (by omega) (by omega)).mono ?_
       rintro e w5 ⟨y,hy0,hy1,rfl,hd5⟩
       have H5:Hid (DF B w a len cap (1000*(4-((n+1:Nat):Int))+12) u6 l w5):=(HD.out.step hd5).mono (by omega)
       clear HD hd5
       go_upto_if 39 with fail
       go_cut [5] from 17 to 99 (fun v5 wc=>∃t2:ByteArray,v5=.string t2∧t2.size≤t.size+68∧1≤t2.size∧Hid (DF B w a len cap (1000*(4-((n+1:Nat):Int))+14) u6 l wc))
       case first=>
        by_cases hyz:y=0
        ·subst hyz
         go_wp2_with fail
         refine(pick_ds B _ _ a len cap _ 30 H5.out.ds.self (by omega) (by omega) (by omega)).mono ?_
         rintro e w6 ⟨p,hp0,hp1,rfl,hd6⟩
         have H6:Hid (DF B w a len cap (1000*(4-((n+1:Nat):Int))+14) u6 l w6):=(H5.out.step hd6).mono (by omega)
         clear hd6
         have his:=int_size10 (1+p)
         go_wp2_with fail
         refine(specInt_any (1+p) 10 w6).mono ?_
         rintro e w7 ⟨rfl,rfl⟩
         go_wp2_with fail
         go_meet
         exact⟨_,rfl,by rw[append_size];omega,by rw[append_size];omega,H6⟩
        ·have hyb:(y==0)=false:=beq_eq_false_iff_ne.2 hyz
         go_wp2_with fail
         go_meet
         exact⟨_,rfl,by omega,ht1,H5.out.mono (by omega)⟩
       case rest=>
        clear H5 hy0 hy1
        obtain⟨t2,rfl,htz2,ht21,H7⟩:=hcut
        go_wp2_with fail
        refine(pick_ds B _ _ a len cap _ 6 H7.out.ds.self (by omega) (by omega) (by omega)).mono ?_
        rintro e w8 ⟨z,hzz0,hzz1,rfl,hd8⟩
        have H8:Hid (DF B w a len cap (1000*(4-((n+1:Nat):Int))+16) u6 l w8):=(H7.out.step hd8).mono (by omega)
        clear H7 hd8
        obtain rfl|rfl|rfl|rfl|rfl|rfl:z=0∨z=1∨z=2∨z=3∨z=4∨z=5:=by omega
        ·go_upto_region 16 with fail
         rw[show((⟨#[100,120,101,102,103,104]⟩:ByteArray).extract 0 6).extract 0 1=⟨#[100]⟩ from by decide]
         have n120:¬(⟨#[100]⟩:ByteArray)=⟨#[120]⟩:=by decide
         have m120:((⟨#[100]⟩:ByteArray) == ⟨#[120]⟩)=false:=by decide
         go_wp2_with fail
         refine(num_ds B _ _ a len cap _ H8.out.ds.self (by omega)).mono ?_
         rintro e w9 ⟨v,hv,rfl,hd9⟩
         have H9:Hid (DF B w a len cap (1000*(4-((n+1:Nat):Int))+80) u6 l w9):=(H8.out.step hd9).mono (by omega)
         clear hd9
         go_wp2_with (at_builtin;refine wpList_append_ownF _ rfl _ _ 23 rfl (B+1) 34 i0 (.agg #[.bool false,.int .i64 0,.float .f64 0]) 3 24 Tryz.underlying23 hi hz0 hz1 hz2 rfl (by decide) _ _ _ rfl (H9.out.own.alloc _) ⟨w9.heap.size,0,none⟩ 1 1 [.bool false,.int .i64 v,.float .f64 0] rfl rfl ?c1 ?c2 ?c3 ?c4 ?c5 ?_)
         case c1=>
          intro j u hj
          match j,hj with
          | 0,hj=>simp at hj;subst hj;simp[Addr.add]
          | 1,hj=>simp at hj;subst hj;simp[Addr.add]
          | 2,hj=>simp at hj;subst hj;simp[Addr.add]
         case c2=>intro u hu;simp at hu;rcases hu with rfl|rfl|rfl<;>rfl
         case c3=>unfold maxLen;omega
         case c4=>omega
         case c5=>have h1:=cur_lt H9.out.ds.choose_spec.2.2.1;simp;omega
         intro v' wz hown' hgrow _
         have HG:Hid (DF B w a len cap (1000*(4-(n:Int))+2) v' (l++[(⟨false,v,0⟩:ArgV)]) wz):=DF.mono (DF.more (H9.out.below (box_belowD _ _)) hgrow (⟨false,v,0⟩:ArgV) (by first|assumption|(show(0:Nat)<18446744073709551616;decide)) hown') (by omega)
         clear hown' hgrow
         go_wp2_with fail
         exact⟨⟨n,_,l++[(⟨false,v,0⟩:ArgV)],rfl,by omega,rfl,.inr (by rw[app_n _ _ 1 rfl];first|omega|(rw[append_size,append_size,show(⟨#[46]⟩:ByteArray).size=1 from rfl];omega)),by rw[app_n _ _ 1 rfl];first|omega|(rw[append_size,append_size,show(⟨#[46]⟩:ByteArray).size=1 from rfl];omega),by simp;omega,HG⟩,by simp only[intOf];omega⟩
        ·go_upto_region 16 with fail
         rw[show((⟨#[100,120,101,102,103,104]⟩:ByteArray).extract 1 6).extract 0 1=⟨#[120]⟩ from by decide]
         have n100:¬(⟨#[120]⟩:ByteArray)=⟨#[100]⟩:=by decide
         have m100:((⟨#[120]⟩:ByteArray) == ⟨#[100]⟩)=false:=by decide
         go_wp2_with fail
         refine(num_ds B _ _ a len cap _ H8.out.ds.self (by omega)).mono ?_
         rintro e w9 ⟨v,hv,rfl,hd9⟩
         have H9:Hid (DF B w a len cap (1000*(4-((n+1:Nat):Int))+80) u6 l w9):=(H8.out.step hd9).mono (by omega)
         clear hd9
         go_wp2_with (at_builtin;refine wpList_append_ownF _ rfl _ _ 23 rfl (B+1) 34 i0 (.agg #[.bool false,.int .i64 0,.float .f64 0]) 3 24 Tryz.underlying23 hi hz0 hz1 hz2 rfl (by decide) _ _ _ rfl (H9.out.own.alloc _) ⟨w9.heap.size,0,none⟩ 1 1 [.bool false,.int .i64 v,.float .f64 0] rfl rfl ?c1 ?c2 ?c3 ?c4 ?c5 ?_)
         case c1=>
          intro j u hj
          match j,hj with
          | 0,hj=>simp at hj;subst hj;simp[Addr.add]
          | 1,hj=>simp at hj;subst hj;simp[Addr.add]
          | 2,hj=>simp at hj;subst hj;simp[Addr.add]
         case c2=>intro u hu;simp at hu;rcases hu with rfl|rfl|rfl<;>rfl
         case c3=>unfold maxLen;omega
         case c4=>omega
         case c5=>have h1:=cur_lt H9.out.ds.choose_spec.2.2.1;simp;omega
         intro v' wz hown' hgrow _
         have HG:Hid (DF B w a len cap (1000*(4-(n:Int))+2) v' (l++[(⟨false,v,0⟩:ArgV)]) wz):=DF.mono (DF.more (H9.out.below (box_belowD _ _)) hgrow (⟨false,v,0⟩:ArgV) (by first|assumption|(show(0:Nat)<18446744073709551616;decide)) hown') (by omega)
         clear hown' hgrow
         go_wp2_with fail
         exact⟨⟨n,_,l++[(⟨false,v,0⟩:ArgV)],rfl,by omega,rfl,.inr (by rw[app_n _ _ 1 rfl];first|omega|(rw[append_size,append_size,show(⟨#[46]⟩:ByteArray).size=1 from rfl];omega)),by rw[app_n _ _ 1 rfl];first|omega|(rw[append_size,append_size,show(⟨#[46]⟩:ByteArray).size=1 from rfl];omega),by simp;omega,HG⟩,by simp only[intOf];omega⟩
        ·go_upto_region 16 with fail
         rw[show((⟨#[100,120,101,102,103,104]⟩:ByteArray).extract 2 6).extract 0 1=⟨#[101]⟩ from by decide]
         have n100:¬(⟨#[101]⟩:ByteArray)=⟨#[100]⟩:=by decide
         have m100:((⟨#[101]⟩:ByteArray) == ⟨#[100]⟩)=false:=by decide
         have n120:¬(⟨#[101]⟩:ByteArray)=⟨#[120]⟩:=by decide
         have m120:((⟨#[101]⟩:ByteArray) == ⟨#[120]⟩)=false:=by decide
         go_wp2_with fail
         refine(pick_ds B _ _ a len cap _ 3 H8.out.ds.self (by omega) (by omega) (by omega)).mono ?_
         rintro e wa ⟨y,hy0,hy1,rfl,hda⟩
         have HA:Hid (DF B w a len cap (1000*(4-((n+1:Nat):Int))+18) u6 l wa):=(H8.out.step hda).mono (by omega)
         clear H8 hda
         by_cases hyz:y=0
         ·subst hyz
          go_wp2_with fail
          refine(pick_ds B _ _ a len cap _ 12 HA.out.ds.self (by omega) (by omega) (by omega)).mono ?_
          rintro e wb ⟨p,hp0,hp1,rfl,hdb⟩
          have HB2:Hid (DF B w a len cap (1000*(4-((n+1:Nat):Int))+20) u6 l wb):=(HA.out.step hdb).mono (by omega)
          clear HA hdb
          have his:=int_size10 p
          go_wp2_with fail
          refine(specInt_any p 10 wb).mono ?_
          rintro e wc2 ⟨rfl,rfl⟩
          obtain⟨T3,hT3⟩:∃T3,intText p 10=T3:=⟨_,rfl⟩
          rw[hT3]at his ⊢
          clear hT3
          go_wp2_with fail
          refine(flt_ds B _ _ a len cap _ HB2.out.ds.self (by omega)).mono ?_
          rintro e w9 ⟨v,hv,rfl,hd9⟩
          have H9:Hid (DF B w a len cap (1000*(4-((n+1:Nat):Int))+80) u6 l w9):=(HB2.out.step hd9).mono (by omega)
          clear hd9
          go_wp2_with (at_builtin;refine wpList_append_ownF _ rfl _ _ 23 rfl (B+1) 34 i0 (.agg #[.bool false,.int .i64 0,.float .f64 0]) 3 24 Tryz.underlying23 hi hz0 hz1 hz2 rfl (by decide) _ _ _ rfl (H9.out.own.alloc _) ⟨w9.heap.size,0,none⟩ 1 1 [.bool true,.int .i64 0,.float .f64 v] rfl rfl ?c1 ?c2 ?c3 ?c4 ?c5 ?_)
          case c1=>
           intro j u hj
           match j,hj with
           | 0,hj=>simp at hj;subst hj;simp[Addr.add]
           | 1,hj=>simp at hj;subst hj;simp[Addr.add]
           | 2,hj=>simp at hj;subst hj;simp[Addr.add]
          case c2=>intro u hu;simp at hu;rcases hu with rfl|rfl|rfl<;>rfl
          case c3=>unfold maxLen;omega
          case c4=>omega
          case c5=>have h1:=cur_lt H9.out.ds.choose_spec.2.2.1;simp;omega
          intro v' wz hown' hgrow _
          have HG:Hid (DF B w a len cap (1000*(4-(n:Int))+2) v' (l++[(⟨true,0,v⟩:ArgV)]) wz):=DF.mono (DF.more (H9.out.below (box_belowD _ _)) hgrow (⟨true,0,v⟩:ArgV) (by first|assumption|(show(0:Nat)<18446744073709551616;decide)) hown') (by omega)
          clear hown' hgrow
          go_wp2_with fail
          exact⟨⟨n,_,l++[(⟨true,0,v⟩:ArgV)],rfl,by omega,rfl,.inr (by rw[app_n _ _ 1 rfl];first|omega|(rw[append_size,append_size,show(⟨#[46]⟩:ByteArray).size=1 from rfl];omega)),by rw[app_n _ _ 1 rfl];first|omega|(rw[append_size,append_size,show(⟨#[46]⟩:ByteArray).size=1 from rfl];omega),by simp;omega,HG⟩,by simp only[intOf];omega⟩
         ·have hyb:(y==0)=false:=beq_eq_false_iff_ne.2 hyz
          go_wp2_with fail
          refine(flt_ds B _ _ a len cap _ HA.out.ds.self (by omega)).mono ?_
          rintro e w9 ⟨v,hv,rfl,hd9⟩
          have H9:Hid (DF B w a len cap (1000*(4-((n+1:Nat):Int))+80) u6 l w9):=(HA.out.step hd9).mono (by omega)
          clear hd9
          go_wp2_with (at_builtin;refine wpList_append_ownF _ rfl _ _ 23 rfl (B+1) 34 i0 (.agg #[.bool false,.int .i64 0,.float .f64 0]) 3 24 Tryz.underlying23 hi hz0 hz1 hz2 rfl (by decide) _ _ _ rfl (H9.out.own.alloc _) ⟨w9.heap.size,0,none⟩ 1 1 [.bool true,.int .i64 0,.float .f64 v] rfl rfl ?c1 ?c2 ?c3 ?c4 ?c5 ?_)
          case c1=>
           intro j u hj
           match j,hj with
           | 0,hj=>simp at hj;subst hj;simp[Addr.add]
           | 1,hj=>simp at hj;subst hj;simp[Addr.add]
           | 2,hj=>simp at hj;subst hj;simp[Addr.add]
          case c2=>intro u hu;simp at hu;rcases hu with rfl|rfl|rfl<;>rfl
          case c3=>unfold maxLen;omega
          case c4=>omega
          case c5=>have h1:=cur_lt H9.out.ds.choose_spec.2.2.1;simp;omega
          intro v' wz hown' hgrow _
          have HG:Hid (DF B w a len cap (1000*(4-(n:Int))+2) v' (l++[(⟨true,0,v⟩:ArgV)]) wz):=DF.mono (DF.more (H9.out.below (box_belowD _ _)) hgrow (⟨true,0,v⟩:ArgV) (by first|assumption|(show(0:Nat)<18446744073709551616;decide)) hown') (by omega)
          clear hown' hgrow
          go_wp2_with fail
          exact⟨⟨n,_,l++[(⟨true,0,v⟩:ArgV)],rfl,by omega,rfl,.inr (by rw[app_n _ _ 1 rfl];first|omega|(rw[append_size,append_size,show(⟨#[46]⟩:ByteArray).size=1 from rfl];omega)),by rw[app_n _ _ 1 rfl];first|omega|(rw[append_size,append_size,show(⟨#[46]⟩:ByteArray).size=1 from rfl];omega),by simp;omega,HG⟩,by simp only[intOf];omega⟩
        ·go_upto_region 16 with fail
         rw[show((⟨#[100,120,101,102,103,104]⟩:ByteArray).extract 3 6).extract 0 1=⟨#[102]⟩ from by decide]
         have n100:¬(⟨#[102]⟩:ByteArray)=⟨#[100]⟩:=by decide
         have m100:((⟨#[102]⟩:ByteArray) == ⟨#[100]⟩)=false:=by decide
         have n120:¬(⟨#[102]⟩:ByteArray)=⟨#[120]⟩:=by decide
         have m120:((⟨#[102]⟩:ByteArray) == ⟨#[120]⟩)=false:=by decide
         go_wp2_with fail
         refine(pick_ds B _ _ a len cap _ 3 H8.out.ds.self (by omega) (by omega) (by omega)).mono ?_
         rintro e wa ⟨y,hy0,hy1,rfl,hda⟩
         have HA:Hid (DF B w a len cap (1000*(4-((n+1:Nat):Int))+18) u6 l wa):=(H8.out.step hda).mono (by omega)
         clear H8 hda
         by_cases hyz:y=0
         ·subst hyz
          go_wp2_with fail
          refine(pick_ds B _ _ a len cap _ 12 HA.out.ds.self (by omega) (by omega) (by omega)).mono ?_
          rintro e wb ⟨p,hp0,hp1,rfl,hdb⟩
          have HB2:Hid (DF B w a len cap (1000*(4-((n+1:Nat):Int))+20) u6 l wb):=(HA.out.step hdb).mono (by omega)
          clear HA hdb
          have his:=int_size10 p
          go_wp2_with fail
          refine(specInt_any p 10 wb).mono ?_
          rintro e wc2 ⟨rfl,rfl⟩
          obtain⟨T3,hT3⟩:∃T3,intText p 10=T3:=⟨_,rfl⟩
          rw[hT3]at his ⊢
          clear hT3
          go_wp2_with fail
          refine(flt_ds B _ _ a len cap _ HB2.out.ds.self (by omega)).mono ?_
          rintro e w9 ⟨v,hv,rfl,hd9⟩
          have H9:Hid (DF B w a len cap (1000*(4-((n+1:Nat):Int))+80) u6 l w9):=(HB2.out.step hd9).mono (by omega)
          clear hd9
          go_wp2_with (at_builtin;refine wpList_append_ownF _ rfl _ _ 23 rfl (B+1) 34 i0 (.agg #[.bool false,.int .i64 0,.float .f64 0]) 3 24 Tryz.underlying23 hi hz0 hz1 hz2 rfl (by decide) _ _ _ rfl (H9.out.own.alloc _) ⟨w9.heap.size,0,none⟩ 1 1 [.bool true,.int .i64 0,.float .f64 v] rfl rfl ?c1 ?c2 ?c3 ?c4 ?c5 ?_)
          case c1=>
           intro j u hj
           match j,hj with
           | 0,hj=>simp at hj;subst hj;simp[Addr.add]
           | 1,hj=>simp at hj;subst hj;simp[Addr.add]
           | 2,hj=>simp at hj;subst hj;simp[Addr.add]
          case c2=>intro u hu;simp at hu;rcases hu with rfl|rfl|rfl<;>rfl
          case c3=>unfold maxLen;omega
          case c4=>omega
          case c5=>have h1:=cur_lt H9.out.ds.choose_spec.2.2.1;simp;omega
          intro v' wz hown' hgrow _
          have HG:Hid (DF B w a len cap (1000*(4-(n:Int))+2) v' (l++[(⟨true,0,v⟩:ArgV)]) wz):=DF.mono (DF.more (H9.out.below (box_belowD _ _)) hgrow (⟨true,0,v⟩:ArgV) (by first|assumption|(show(0:Nat)<18446744073709551616;decide)) hown') (by omega)
          clear hown' hgrow
          go_wp2_with fail
          exact⟨⟨n,_,l++[(⟨true,0,v⟩:ArgV)],rfl,by omega,rfl,.inr (by rw[app_n _ _ 1 rfl];first|omega|(rw[append_size,append_size,show(⟨#[46]⟩:ByteArray).size=1 from rfl];omega)),by rw[app_n _ _ 1 rfl];first|omega|(rw[append_size,append_size,show(⟨#[46]⟩:ByteArray).size=1 from rfl];omega),by simp;omega,HG⟩,by simp only[intOf];omega⟩
         ·have hyb:(y==0)=false:=beq_eq_false_iff_ne.2 hyz
          go_wp2_with fail
          refine(flt_ds B _ _ a len cap _ HA.out.ds.self (by omega)).mono ?_
          rintro e w9 ⟨v,hv,rfl,hd9⟩
          have H9:Hid (DF B w a len cap (1000*(4-((n+1:Nat):Int))+80) u6 l w9):=(HA.out.step hd9).mono (by omega)
          clear hd9
          go_wp2_with (at_builtin;refine wpList_append_ownF _ rfl _ _ 23 rfl (B+1) 34 i0 (.agg #[.bool false,.int .i64 0,.float .f64 0]) 3 24 Tryz.underlying23 hi hz0 hz1 hz2 rfl (by decide) _ _ _ rfl (H9.out.own.alloc _) ⟨w9.heap.size,0,none⟩ 1 1 [.bool true,.int .i64 0,.float .f64 v] rfl rfl ?c1 ?c2 ?c3 ?c4 ?c5 ?_)
          case c1=>
           intro j u hj
           match j,hj with
           | 0,hj=>simp at hj;subst hj;simp[Addr.add]
           | 1,hj=>simp at hj;subst hj;simp[Addr.add]
           | 2,hj=>simp at hj;subst hj;simp[Addr.add]
          case c2=>intro u hu;simp at hu;rcases hu with rfl|rfl|rfl<;>rfl
          case c3=>unfold maxLen;omega
          case c4=>omega
          case c5=>have h1:=cur_lt H9.out.ds.choose_spec.2.2.1;simp;omega
          intro v' wz hown' hgrow _
          have HG:Hid (DF B w a len cap (1000*(4-(n:Int))+2) v' (l++[(⟨true,0,v⟩:ArgV)]) wz):=DF.mono (DF.more (H9.out.below (box_belowD _ _)) hgrow (⟨true,0,v⟩:ArgV) (by first|assumption|(show(0:Nat)<18446744073709551616;decide)) hown') (by omega)
          clear hown' hgrow
          go_wp2_with fail
          exact⟨⟨n,_,l++[(⟨true,0,v⟩:ArgV)],rfl,by omega,rfl,.inr (by rw[app_n _ _ 1 rfl];first|omega|(rw[append_size,append_size,show(⟨#[46]⟩:ByteArray).size=1 from rfl];omega)),by rw[app_n _ _ 1 rfl];first|omega|(rw[append_size,append_size,show(⟨#[46]⟩:ByteArray).size=1 from rfl];omega),by simp;omega,HG⟩,by simp only[intOf];omega⟩
        ·go_upto_region 16 with fail
         rw[show((⟨#[100,120,101,102,103,104]⟩:ByteArray).extract 4 6).extract 0 1=⟨#[103]⟩ from by decide]
         have n100:¬(⟨#[103]⟩:ByteArray)=⟨#[100]⟩:=by decide
         have m100:((⟨#[103]⟩:ByteArray) == ⟨#[100]⟩)=false:=by decide
         have n120:¬(⟨#[103]⟩:ByteArray)=⟨#[120]⟩:=by decide
         have m120:((⟨#[103]⟩:ByteArray) == ⟨#[120]⟩)=false:=by decide
         go_wp2_with fail
         refine(pick_ds B _ _ a len cap _ 3 H8.out.ds.self (by omega) (by omega) (by omega)).mono ?_
         rintro e wa ⟨y,hy0,hy1,rfl,hda⟩
         have HA:Hid (DF B w a len cap (1000*(4-((n+1:Nat):Int))+18) u6 l wa):=(H8.out.step hda).mono (by omega)
         clear H8 hda
         by_cases hyz:y=0
         ·subst hyz
          go_wp2_with fail
          refine(flt_ds B _ _ a len cap _ HA.out.ds.self (by omega)).mono ?_
          rintro e w9 ⟨v,hv,rfl,hd9⟩
          have H9:Hid (DF B w a len cap (1000*(4-((n+1:Nat):Int))+80) u6 l w9):=(HA.out.step hd9).mono (by omega)
          clear hd9
          go_wp2_with (at_builtin;refine wpList_append_ownF _ rfl _ _ 23 rfl (B+1) 34 i0 (.agg #[.bool false,.int .i64 0,.float .f64 0]) 3 24 Tryz.underlying23 hi hz0 hz1 hz2 rfl (by decide) _ _ _ rfl (H9.out.own.alloc _) ⟨w9.heap.size,0,none⟩ 1 1 [.bool true,.int .i64 0,.float .f64 v] rfl rfl ?c1 ?c2 ?c3 ?c4 ?c5 ?_)
          case c1=>
           intro j u hj
           match j,hj with
           | 0,hj=>simp at hj;subst hj;simp[Addr.add]
           | 1,hj=>simp at hj;subst hj;simp[Addr.add]
           | 2,hj=>simp at hj;subst hj;simp[Addr.add]
          case c2=>intro u hu;simp at hu;rcases hu with rfl|rfl|rfl<;>rfl
          case c3=>unfold maxLen;omega
          case c4=>omega
          case c5=>have h1:=cur_lt H9.out.ds.choose_spec.2.2.1;simp;omega
          intro v' wz hown' hgrow _
          have HG:Hid (DF B w a len cap (1000*(4-(n:Int))+2) v' (l++[(⟨true,0,v⟩:ArgV)]) wz):=DF.mono (DF.more (H9.out.below (box_belowD _ _)) hgrow (⟨true,0,v⟩:ArgV) (by first|assumption|(show(0:Nat)<18446744073709551616;decide)) hown') (by omega)
          clear hown' hgrow
          go_wp2_with fail
          exact⟨⟨n,_,l++[(⟨true,0,v⟩:ArgV)],rfl,by omega,rfl,.inr (by rw[app_n _ _ 1 rfl];first|omega|(rw[append_size,append_size,show(⟨#[46]⟩:ByteArray).size=1 from rfl];omega)),by rw[app_n _ _ 1 rfl];first|omega|(rw[append_size,append_size,show(⟨#[46]⟩:ByteArray).size=1 from rfl];omega),by simp;omega,HG⟩,by simp only[intOf];omega⟩
         ·have hyb:(y==0)=false:=beq_eq_false_iff_ne.2 hyz
          go_wp2_with fail
          refine(flt_ds B _ _ a len cap _ HA.out.ds.self (by omega)).mono ?_
          rintro e w9 ⟨v,hv,rfl,hd9⟩
          have H9:Hid (DF B w a len cap (1000*(4-((n+1:Nat):Int))+80) u6 l w9):=(HA.out.step hd9).mono (by omega)
          clear hd9
          go_wp2_with (at_builtin;refine wpList_append_ownF _ rfl _ _ 23 rfl (B+1) 34 i0 (.agg #[.bool false,.int .i64 0,.float .f64 0]) 3 24 Tryz.underlying23 hi hz0 hz1 hz2 rfl (by decide) _ _ _ rfl (H9.out.own.alloc _) ⟨w9.heap.size,0,none⟩ 1 1 [.bool true,.int .i64 0,.float .f64 v] rfl rfl ?c1 ?c2 ?c3 ?c4 ?c5 ?_)
          case c1=>
           intro j u hj
           match j,hj with
           | 0,hj=>simp at hj;subst hj;simp[Addr.add]
           | 1,hj=>simp at hj;subst hj;simp[Addr.add]
           | 2,hj=>simp at hj;subst hj;simp[Addr.add]
          case c2=>intro u hu;simp at hu;rcases hu with rfl|rfl|rfl<;>rfl
          case c3=>unfold maxLen;omega
          case c4=>omega
          case c5=>have h1:=cur_lt H9.out.ds.choose_spec.2.2.1;simp;omega
          intro v' wz hown' hgrow _
          have HG:Hid (DF B w a len cap (1000*(4-(n:Int))+2) v' (l++[(⟨true,0,v⟩:ArgV)]) wz):=DF.mono (DF.more (H9.out.below (box_belowD _ _)) hgrow (⟨true,0,v⟩:ArgV) (by first|assumption|(show(0:Nat)<18446744073709551616;decide)) hown') (by omega)
          clear hown' hgrow
          go_wp2_with fail
          exact⟨⟨n,_,l++[(⟨true,0,v⟩:ArgV)],rfl,by omega,rfl,.inr (by rw[app_n _ _ 1 rfl];first|omega|(rw[append_size,append_size,show(⟨#[46]⟩:ByteArray).size=1 from rfl];omega)),by rw[app_n _ _ 1 rfl];first|omega|(rw[append_size,append_size,show(⟨#[46]⟩:ByteArray).size=1 from rfl];omega),by simp;omega,HG⟩,by simp only[intOf];omega⟩
        ·go_upto_region 16 with fail
         rw[show((⟨#[100,120,101,102,103,104]⟩:ByteArray).extract 5 6).extract 0 1=⟨#[104]⟩ from by decide]
         have n100:¬(⟨#[104]⟩:ByteArray)=⟨#[100]⟩:=by decide
         have m100:((⟨#[104]⟩:ByteArray) == ⟨#[100]⟩)=false:=by decide
         have n120:¬(⟨#[104]⟩:ByteArray)=⟨#[120]⟩:=by decide
         have m120:((⟨#[104]⟩:ByteArray) == ⟨#[120]⟩)=false:=by decide
         go_wp2_with fail
         refine(pick_ds B _ _ a len cap _ 3 H8.out.ds.self (by omega) (by omega) (by omega)).mono ?_
         rintro e wa ⟨y,hy0,hy1,rfl,hda⟩
         have HA:Hid (DF B w a len cap (1000*(4-((n+1:Nat):Int))+18) u6 l wa):=(H8.out.step hda).mono (by omega)
         clear H8 hda
         by_cases hyz:y=0
         ·subst hyz
          go_wp2_with fail
          refine(flt_ds B _ _ a len cap _ HA.out.ds.self (by omega)).mono ?_
          rintro e w9 ⟨v,hv,rfl,hd9⟩
          have H9:Hid (DF B w a len cap (1000*(4-((n+1:Nat):Int))+80) u6 l w9):=(HA.out.step hd9).mono (by omega)
          clear hd9
          go_wp2_with (at_builtin;refine wpList_append_ownF _ rfl _ _ 23 rfl (B+1) 34 i0 (.agg #[.bool false,.int .i64 0,.float .f64 0]) 3 24 Tryz.underlying23 hi hz0 hz1 hz2 rfl (by decide) _ _ _ rfl (H9.out.own.alloc _) ⟨w9.heap.size,0,none⟩ 1 1 [.bool true,.int .i64 0,.float .f64 v] rfl rfl ?c1 ?c2 ?c3 ?c4 ?c5 ?_)
          case c1=>
           intro j u hj
           match j,hj with
           | 0,hj=>simp at hj;subst hj;simp[Addr.add]
           | 1,hj=>simp at hj;subst hj;simp[Addr.add]
           | 2,hj=>simp at hj;subst hj;simp[Addr.add]
          case c2=>intro u hu;simp at hu;rcases hu with rfl|rfl|rfl<;>rfl
          case c3=>unfold maxLen;omega
          case c4=>omega
          case c5=>have h1:=cur_lt H9.out.ds.choose_spec.2.2.1;simp;omega
          intro v' wz hown' hgrow _
          have HG:Hid (DF B w a len cap (1000*(4-(n:Int))+2) v' (l++[(⟨true,0,v⟩:ArgV)]) wz):=DF.mono (DF.more (H9.out.below (box_belowD _ _)) hgrow (⟨true,0,v⟩:ArgV) (by first|assumption|(show(0:Nat)<18446744073709551616;decide)) hown') (by omega)
          clear hown' hgrow
          go_wp2_with fail
          exact⟨⟨n,_,l++[(⟨true,0,v⟩:ArgV)],rfl,by omega,rfl,.inr (by rw[app_n _ _ 1 rfl];first|omega|(rw[append_size,append_size,show(⟨#[46]⟩:ByteArray).size=1 from rfl];omega)),by rw[app_n _ _ 1 rfl];first|omega|(rw[append_size,append_size,show(⟨#[46]⟩:ByteArray).size=1 from rfl];omega),by simp;omega,HG⟩,by simp only[intOf];omega⟩
         ·have hyb:(y==0)=false:=beq_eq_false_iff_ne.2 hyz
          go_wp2_with fail
          refine(flt_ds B _ _ a len cap _ HA.out.ds.self (by omega)).mono ?_
          rintro e w9 ⟨v,hv,rfl,hd9⟩
          have H9:Hid (DF B w a len cap (1000*(4-((n+1:Nat):Int))+80) u6 l w9):=(HA.out.step hd9).mono (by omega)
          clear hd9
          go_wp2_with (at_builtin;refine wpList_append_ownF _ rfl _ _ 23 rfl (B+1) 34 i0 (.agg #[.bool false,.int .i64 0,.float .f64 0]) 3 24 Tryz.underlying23 hi hz0 hz1 hz2 rfl (by decide) _ _ _ rfl (H9.out.own.alloc _) ⟨w9.heap.size,0,none⟩ 1 1 [.bool true,.int .i64 0,.float .f64 v] rfl rfl ?c1 ?c2 ?c3 ?c4 ?c5 ?_)
          case c1=>
           intro j u hj
           match j,hj with
           | 0,hj=>simp at hj;subst hj;simp[Addr.add]
           | 1,hj=>simp at hj;subst hj;simp[Addr.add]
           | 2,hj=>simp at hj;subst hj;simp[Addr.add]
          case c2=>intro u hu;simp at hu;rcases hu with rfl|rfl|rfl<;>rfl
          case c3=>unfold maxLen;omega
          case c4=>omega
          case c5=>have h1:=cur_lt H9.out.ds.choose_spec.2.2.1;simp;omega
          intro v' wz hown' hgrow _
          have HG:Hid (DF B w a len cap (1000*(4-(n:Int))+2) v' (l++[(⟨true,0,v⟩:ArgV)]) wz):=DF.mono (DF.more (H9.out.below (box_belowD _ _)) hgrow (⟨true,0,v⟩:ArgV) (by first|assumption|(show(0:Nat)<18446744073709551616;decide)) hown') (by omega)
          clear hown' hgrow
          go_wp2_with fail
          exact⟨⟨n,_,l++[(⟨true,0,v⟩:ArgV)],rfl,by omega,rfl,.inr (by rw[app_n _ _ 1 rfl];first|omega|(rw[append_size,append_size,show(⟨#[46]⟩:ByteArray).size=1 from rfl];omega)),by rw[app_n _ _ 1 rfl];first|omega|(rw[append_size,append_size,show(⟨#[46]⟩:ByteArray).size=1 from rfl];omega),by simp;omega,HG⟩,by simp only[intOf];omega⟩
  ·obtain rfl:n=0:=by omega
   go_wp2_with fail
   refine(pick_ds B _ _ a len cap _ 12 HD.out.ds.self (by omega) (by omega) (by omega)).mono ?_
   rintro e w2 ⟨x,hx0,hx1,rfl,hd2⟩
   have H2:Hid (DF B w a len cap 5000 u6 l w2):=(HD.out.step hd2).mono (by omega)
   clear HD hd2
   by_cases hx0:x=0
   ·subst hx0
    go_wp2_with (at_builtin;refine wpList_append_ownF _ rfl _ _ 23 rfl (B+1) 34 i0 (.agg #[.bool false,.int .i64 0,.float .f64 0]) 3 24 Tryz.underlying23 hi hz0 hz1 hz2 rfl (by decide) _ _ _ rfl (H2.out.own.alloc _) ⟨w2.heap.size,0,none⟩ 1 1 [.bool false,.int .i64 0,.float .f64 0] rfl rfl ?c1 ?c2 ?c3 ?c4 ?c5 ?_)
    case c1=>
     intro j u hj
     match j,hj with
     | 0,hj=>simp at hj;subst hj;simp[Addr.add]
     | 1,hj=>simp at hj;subst hj;simp[Addr.add]
     | 2,hj=>simp at hj;subst hj;simp[Addr.add]
    case c2=>intro u hu;simp at hu;rcases hu with rfl|rfl|rfl<;>rfl
    case c3=>unfold maxLen;omega
    case c4=>omega
    case c5=>have h1:=cur_lt H2.out.ds.choose_spec.2.2.1;simp;omega
    intro v' wz hown' hgrow _
    have HG:Hid (DF B w a len cap 6000 v' (l++[(⟨false,0,0⟩:ArgV)]) wz):=DF.mono (DF.more (H2.out.below (box_belowD _ _)) hgrow (⟨false,0,0⟩:ArgV) (by first|assumption|(show(0:Nat)<18446744073709551616;decide)|(show(4609434218613702656:Nat)<18446744073709551616;decide)) hown') (by omega)
    clear hown' hgrow
    go_wp2_with fail
    go_ret2
    exact drfQ (l++[(⟨false,0,0⟩:ArgV)]) (by omega) rfl (HG.out.args (by simp;omega)) HG.out.done
   have hxb0:(x==0)=false:=beq_eq_false_iff_ne.2 hx0
   by_cases hx1:x=1
   ·subst hx1
    cases l with
    | nil=>
     have hv:u6=.slice none 0 0∨∃g c,u6=.slice (some ⟨g,0,none⟩) 0 c:=by
      rcases H2.out.own.2 with⟨h,_⟩|⟨g,c,_,_,h,_⟩
      ·exact .inl h
      ·exact .inr ⟨g,c,h⟩
     have HA:Hid (ArgsAt w2.heap.size w2 u6 []∧Below w.heap.size w w2):=⟨H2.out.args (by simp),H2.out.done⟩
     rcases hv with rfl|⟨g,c,rfl⟩
     all_goals go_wp2_with fail
     all_goals go_ret2
     all_goals exact drfQ [] (by omega) rfl HA.out.1 HA.out.2
    | cons x0 l=>
     obtain⟨g,c,hv,hc⟩:∃g c,u6=.slice (some ⟨g,0,none⟩) (l.length+1) c∧l.length+1≤c:=by
      rcases H2.out.own.2 with⟨_,h⟩|⟨g,c,_,_,h,_,_,_,h2,_⟩
      ·simp at h
      ·exact⟨g,c,h,h2⟩
     have HA:Hid (ArgsAt w2.heap.size w2 u6 (x0 :: l)∧Below w.heap.size w w2):=⟨H2.out.args (by omega),H2.out.done⟩
     subst hv
     have hci:(l.length:Int)+1≤(c:Int):=by omega
     have hll2:l.length+1≤4:=by simpa using hll
     go_wp2_with fail
     all_goals go_ret2
     all_goals
      first
       | exact drfQ l (by omega) rfl (args_tail rfl HA.out.1) HA.out.2
       | exact drfQ l (by omega) rfl (args_last rfl (by omega) HA.out.1) HA.out.2
   have hxb1:(x==1)=false:=beq_eq_false_iff_ne.2 hx1
   by_cases hx2:x=2
   ·subst hx2
    have HB2:Hid _:=fun(O:Obj)=>H2.out.below (box_belowD w2 O)
    have hBf:=H2.out.ds.fresh
    go_wp2_with fail
    refine(pick_ds B _ _ a len cap _ 15 (HB2.out _).ds.self (by omega) (by omega) (by omega)).mono ?_
    rintro e w3 ⟨y,hy0,hy1,rfl,hd3⟩
    obtain⟨k,rfl⟩:=Int.eq_ofNat_of_zero_le hy0
    have hk15:k<15:=by omega
    have hki:(k:Int)<15:=by omega
    obtain⟨E,hE,hEz⟩:∃E,w3.cell? ⟨w2.heap.size,k,none⟩=some (.string E)∧E.size≤30:=by
     obtain⟨E,h1,h2⟩:=strs_at [⟨#[37]⟩,⟨#[37,53]⟩,⟨#[37,46,100]⟩,⟨#[37,46,53]⟩,⟨#[37,113]⟩,⟨#[37,52,48,49,100]⟩,⟨#[37,52,48,48,100]⟩,⟨#[37,46,52,48,49,102]⟩,⟨#[37,46,52,48,48,101]⟩,⟨#[37,46,51,57,57,101]⟩,⟨#[37,46,51,103]⟩,⟨#[37,46,51,100]⟩,⟨#[37,57,57,57,57,57,57,57,57,57,57,57,57,57,57,57,57,57,57,57,57,100]⟩,⟨#[37,45,43,48,45,56,100]⟩,⟨#[37,48,56,103]⟩] (by decide) k hk15
     refine⟨E,?_,h2⟩
     rw[hd3.cell ⟨w2.heap.size,k,none⟩ (by simp) hBf]
     exact(World.cell?_alloc_mark (w:=w2) ..).trans h1
    have H3:Hid (DF B w a len cap 5100 u6 l w3):=((HB2.out _).step hd3).mono (by omega)
    clear HB2 hd3 H2
    go_wp2_with fail
    refine(pick_ds B _ _ a len cap _ 2 H3.out.ds.self (by omega) (by omega) (by omega)).mono ?_
    rintro e w4 ⟨y,hy0,hy1,rfl,hd4⟩
    have H4:Hid (DF B w a len cap 5200 u6 l w4):=(H3.out.step hd4).mono (by omega)
    clear H3 hd4
    rcases(show y=0∨y=1 by omega) with rfl|rfl
    ·go_wp2_with (at_builtin;refine wpList_append_ownF _ rfl _ _ 23 rfl (B+1) 34 i0 (.agg #[.bool false,.int .i64 0,.float .f64 0]) 3 24 Tryz.underlying23 hi hz0 hz1 hz2 rfl (by decide) _ _ _ rfl (H4.out.own.alloc _) ⟨w4.heap.size,0,none⟩ 1 1 [.bool true,.int .i64 0,.float .f64 4609434218613702656] rfl rfl ?c1 ?c2 ?c3 ?c4 ?c5 ?_)
     case c1=>
      intro j u hj
      match j,hj with
      | 0,hj=>simp at hj;subst hj;simp[Addr.add]
      | 1,hj=>simp at hj;subst hj;simp[Addr.add]
      | 2,hj=>simp at hj;subst hj;simp[Addr.add]
     case c2=>intro u hu;simp at hu;rcases hu with rfl|rfl|rfl<;>rfl
     case c3=>unfold maxLen;omega
     case c4=>omega
     case c5=>have h1:=cur_lt H4.out.ds.choose_spec.2.2.1;simp;omega
     intro v' wz hown' hgrow _
     have HG:Hid (DF B w a len cap 6000 v' (l++[(⟨true,0,4609434218613702656⟩:ArgV)]) wz):=DF.mono (DF.more (H4.out.below (box_belowD _ _)) hgrow (⟨true,0,4609434218613702656⟩:ArgV) (by first|assumption|(show(0:Nat)<18446744073709551616;decide)|(show(4609434218613702656:Nat)<18446744073709551616;decide)) hown') (by omega)
     clear hown' hgrow
     go_wp2_with fail
     go_ret2
     exact drfQ (l++[(⟨true,0,4609434218613702656⟩:ArgV)]) (by rw[append_size];omega) rfl (HG.out.args (by simp;omega)) HG.out.done
    ·go_wp2_with (at_builtin;refine wpList_append_ownF _ rfl _ _ 23 rfl (B+1) 34 i0 (.agg #[.bool false,.int .i64 0,.float .f64 0]) 3 24 Tryz.underlying23 hi hz0 hz1 hz2 rfl (by decide) _ _ _ rfl (H4.out.own.alloc _) ⟨w4.heap.size,0,none⟩ 1 1 [.bool false,.int .i64 0,.float .f64 4609434218613702656] rfl rfl ?c1 ?c2 ?c3 ?c4 ?c5 ?_)
     case c1=>
      intro j u hj
      match j,hj with
      | 0,hj=>simp at hj;subst hj;simp[Addr.add]
      | 1,hj=>simp at hj;subst hj;simp[Addr.add]
      | 2,hj=>simp at hj;subst hj;simp[Addr.add]
     case c2=>intro u hu;simp at hu;rcases hu with rfl|rfl|rfl<;>rfl
     case c3=>unfold maxLen;omega
     case c4=>omega
     case c5=>have h1:=cur_lt H4.out.ds.choose_spec.2.2.1;simp;omega
     intro v' wz hown' hgrow _
     have HG:Hid (DF B w a len cap 6000 v' (l++[(⟨false,0,4609434218613702656⟩:ArgV)]) wz):=DF.mono (DF.more (H4.out.below (box_belowD _ _)) hgrow (⟨false,0,4609434218613702656⟩:ArgV) (by first|assumption|(show(0:Nat)<18446744073709551616;decide)|(show(4609434218613702656:Nat)<18446744073709551616;decide)) hown') (by omega)
     clear hown' hgrow
     go_wp2_with fail
     go_ret2
     exact drfQ (l++[(⟨false,0,4609434218613702656⟩:ArgV)]) (by rw[append_size];omega) rfl (HG.out.args (by simp;omega)) HG.out.done
   have hxb2:(x==2)=false:=beq_eq_false_iff_ne.2 hx2
   by_cases hx3:x=3
   ·subst hx3
    by_cases ht0:t.size=0
    ·have htb:¬(0:Int)<(t.size:Int):=by omega
     go_wp2_with fail
     all_goals go_ret2
     all_goals exact drfQ l (by omega) rfl (H2.out.args (by omega)) H2.out.done
    ·have ht3:(2:Int)≤(t.size:Int):=by omega
     have ht6:(t.size:Int)≤600:=by omega
     go_wp2_with fail
     refine(pick_ds B _ _ a len cap _ (t.size:Int) H2.out.ds.self (by omega) (by omega) (by omega)).mono ?_
     rintro e w3 ⟨y,hy0,hy1,rfl,hd3⟩
     obtain⟨k,rfl⟩:=Int.eq_ofNat_of_zero_le hy0
     have H3:Hid (DF B w a len cap 5100 u6 l w3):=(H2.out.step hd3).mono (by omega)
     clear hd3 H2
     have hk1:k+1≤t.size:=by omega
     have hk2:(k:Int)+1≤(t.size:Int):=by omega
     go_wp2_with fail
     go_quiet (fail)
     all_goals go_wp2_with fail
     all_goals go_ret2
     all_goals exact drfQ l (by rw[append_size,ByteArray.size_extract,ByteArray.size_extract];omega) rfl ((H3.out.below (below_drewN (Below.refl _ _) _)).args (by omega)) (H3.out.below (below_drewN (Below.refl _ _) _)).done
   ·have hxb3:(x==3)=false:=beq_eq_false_iff_ne.2 hx3
    go_wp2_with fail
    go_ret2
    exact drfQ l (by omega) rfl (H2.out.args (by omega)) H2.out.done
end Go.Proofs.YtenbfookfcmpoaaGreatDoor
