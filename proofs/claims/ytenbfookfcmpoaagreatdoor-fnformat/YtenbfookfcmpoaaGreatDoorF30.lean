import Derived.Test.YtenbfookfcmpoaaGreatDoorF28
import Derived.Deep.Cut
import Derived.Deep.CutRange
namespace Go.Proofs.YtenbfookfcmpoaaGreatDoor
open Go.RowKit
theorem rest_list(ds:ByteArray)(n:Nat)(hn:n<ds.size):(ds.extract n ds.size).toList=ds[n] :: ds.data.toList.drop (n+1):=by
 rw[ByteArray.toList_eq,ext_list,List.take_of_length_le (by rw[List.length_drop,data_len];exact Nat.le_refl _),List.drop_eq_getElem_cons (by rw[data_len];exact hn)]
 rfl
theorem less_five(c:UInt8)(r:List UInt8):Op.bytesLess (c :: r) [53]=decide (c.toNat<53):=by
 have hnil:∀r:List UInt8,Op.bytesLess r []=false:=fun r=>by cases r<;>rfl
 show(decide (c<53) || (c==53&&Op.bytesLess r []))=_
 rw[hnil,Bool.and_false,Bool.or_false]
 rfl
theorem rest_cases(ds:ByteArray)(n:Nat)(hn:n<ds.size) :
  (Op.bytesLess (ds.extract n ds.size).toList [53]=true∧¬(ds.extract n ds.size).toList = [53]∧roundsB ds (n:Int)=false)
  ∨ (Op.bytesLess (ds.extract n ds.size).toList [53]=false∧¬(ds.extract n ds.size).toList = [53]∧roundsB ds (n:Int)=true)
  ∨ (Op.bytesLess (ds.extract n ds.size).toList [53]=false∧(ds.extract n ds.size).toList = [53]∧roundsB ds (n:Int)=(if h:0<n then decide ((ds[n-1].toNat-48) % 2=1) else false)):=by
 rw[rest_list ds n hn,less_five]
 have hlen:(ds.data.toList.drop (n+1)).length=ds.size-(n+1):=by rw[List.length_drop,data_len]
 unfold roundsB
 rw[dif_pos ⟨by omega,by omega⟩]
 simp only[Int.toNat_natCast]
 by_cases h1:ds[n].toNat<53
 ·refine .inl ⟨decide_eq_true h1,fun h=>?_,?_⟩
  ·have:=(List.cons.inj h).1
   rw[this]at h1
   exact absurd h1 (by decide)
  ·rw[if_pos (.inl (by omega))]
   exact decide_eq_false (by omega)
 ·have h2:decide (ds[n].toNat<53)=false:=decide_eq_false h1
  by_cases h3:ds[n].toNat≠53∨n+1<ds.size
  ·refine .inr (.inl ⟨h2,fun h=>?_,?_⟩)
   ·have e1:=(List.cons.inj h).1
    have e2:=congrArg List.length (List.cons.inj h).2
    rw[hlen]at e2
    rw[e1]at h3
    rcases h3 with h3|h3
    ·exact h3 rfl
    ·simp at e2
     omega
   ·rw[if_pos h3]
    exact decide_eq_true (by omega)
  ·refine .inr (.inr ⟨h2,?_,?_⟩)
   ·have e0:ds.data.toList.drop (n+1) = []:=List.length_eq_zero_iff.1 (by rw[hlen];omega)
    rw[e0]
    congr 1
    exact UInt8.toNat_inj.1 (show ds[n].toNat=53 by omega)
   ·rw[if_neg h3]
end Go.Proofs.YtenbfookfcmpoaaGreatDoor
namespace Go.Proofs.YtenbfookfcmpoaaGreatDoor
open Go.ChangeShapes Go.WideShapes Go.RowKit
def ArB(w:World)(ds:ByteArray)(x:Int)(W:World):Prop:=Below w.heap.size w W∧W.cell? ⟨w.heap.size,0,none⟩=some (.string ds)∧W.cell? ⟨w.heap.size,1,none⟩=some (.int .i64 x)∧w.heap.size+3≤W.heap.size
 ∧ (∀k,k<2→W.heap[w.heap.size+1+k]? = some (.cells #[.string ⟨#[]⟩,.int .i64 0] 69 (0,0)))
theorem ArB.drew{w W:World}{ds:ByteArray}{x:Int}(h:ArB w ds x W):ArB w ds x W.drew:=⟨h.1.drew,h.2.1,h.2.2.1,h.2.2.2.1,h.2.2.2.2⟩
theorem ArB.next{w W W':World}{ds:ByteArray}{x:Int}(h:ArB w ds x W)(hb:Below W.heap.size W W'):ArB w ds x W':=by
 obtain⟨h1,h2,h3,h4,h5⟩:=h
 refine⟨h1.trans (hb.mono h1.size),(hb.cell (cell_lt h2)).trans h2,(hb.cell (cell_lt h3)).trans h3,Nat.le_trans h4 hb.size,fun k hk=>?_⟩
 rw[hb.block _ (by omega)]
 exact h5 k hk
def SetD(W:World)(A:Nat)(t:ByteArray)(y:Int):Prop:=W.heap[A]? = some (.cells #[.string t,.int .i64 y] 69 (0,0))
def NewD(W:World)(A:Nat):Prop:=SetD W A ⟨#[]⟩ 0
theorem SetD.lt{W:World}{A:Nat}{t:ByteArray}{y:Int}(h:SetD W A t y):A<W.heap.size:=(Array.getElem?_eq_some_iff.1 h).1
theorem NewD.lt{W:World}{A:Nat}(h:NewD W A):A<W.heap.size:=(Array.getElem?_eq_some_iff.1 h).1
theorem SetD.c0{W:World}{A:Nat}{t:ByteArray}{y:Int}(h:SetD W A t y):W.cell? ⟨A,0,none⟩=some (.string t):=by simp[World.cell?,show W.heap[A]? = _ from h]
theorem SetD.c1{W:World}{A:Nat}{t:ByteArray}{y:Int}(h:SetD W A t y):W.cell? ⟨A,1,none⟩=some (.int .i64 y):=by simp[World.cell?,show W.heap[A]? = _ from h]
theorem SetD.fr{W:World}{A:Nat}{t:ByteArray}{y:Int}(h:SetD W A t y)(o:Nat):W.frozen? ⟨A,o,none⟩=false:=by simp[World.frozen?,show W.heap[A]? = _ from h]
theorem NewD.c0{W:World}{A:Nat}(h:NewD W A):W.cell? ⟨A,0,none⟩=some (.string ⟨#[]⟩):=SetD.c0 h
theorem NewD.c1{W:World}{A:Nat}(h:NewD W A):W.cell? ⟨A,1,none⟩=some (.int .i64 0):=SetD.c1 h
theorem NewD.f0{W:World}{A:Nat}(h:NewD W A):W.frozen? ⟨A,0,none⟩=false:=SetD.fr h 0
theorem NewD.f1{W:World}{A:Nat}(h:NewD W A):W.frozen? ⟨A,1,none⟩=false:=SetD.fr h 1
theorem new_heap(W:World)(o:Obj):(W.alloc o).heap[W.heap.size]? = some o:=by show(W.heap.push o)[W.heap.size]? = _;simp
theorem NewD.new(W:World):NewD (W.alloc (.cells #[.string ⟨#[]⟩,.int .i64 0] 69)) W.heap.size:=new_heap W _
theorem SetD.next{W W':World}{A:Nat}{t:ByteArray}{y:Int}(h:SetD W A t y)(hb:Below W.heap.size W W'):SetD W' A t y:=(hb.block A h.lt).trans h
theorem NewD.next{W W':World}{A:Nat}(h:NewD W A)(hb:Below W.heap.size W W'):NewD W' A:=SetD.next h hb
theorem SetD.put{W:World}{A:Nat}{t:ByteArray}{y:Int}(h:SetD W A t y)(t':ByteArray)(y':Int):SetD ((W.setCell ⟨A,0,none⟩ (.string t')).setCell ⟨A,1,none⟩ (.int .i64 y')) A t' y':=by
 have h1:(W.setCell ⟨A,0,none⟩ (.string t')).heap[A]? = some (.cells #[.string t',.int .i64 y] 69 (0,0)):=by
  rw[setCell_eq_setRow W A 0 _ 69 (0,0) _ h]
  exact setRow_heap W A _ _ 69 (0,0) h
 show((W.setCell ⟨A,0,none⟩ (.string t')).setCell ⟨A,1,none⟩ (.int .i64 y')).heap[A]? = _
 rw[setCell_eq_setRow _ A 1 _ 69 (0,0) _ h1]
 exact setRow_heap _ A _ _ 69 (0,0) h1
theorem SetD.other{W:World}{A B:Nat}{t:ByteArray}{y:Int}(h:SetD W A t y)(hne:A≠B)(t':ByteArray)(y':Int):SetD ((W.setCell ⟨B,0,none⟩ (.string t')).setCell ⟨B,1,none⟩ (.int .i64 y')) A t y:=by
 show((W.setCell ⟨B,0,none⟩ (.string t')).setCell ⟨B,1,none⟩ (.int .i64 y')).heap[A]? = _
 rw[Below.heap_setCell _ _ _ _ hne,Below.heap_setCell _ _ _ _ hne]
 exact h
theorem NewD.put{W:World}{A:Nat}(h:NewD W A)(t':ByteArray)(y':Int):SetD ((W.setCell ⟨A,0,none⟩ (.string t')).setCell ⟨A,1,none⟩ (.int .i64 y')) A t' y':=SetD.put h t' y'
theorem NewD.other{W:World}{A B:Nat}(h:NewD W A)(hne:A≠B)(t':ByteArray)(y':Int):NewD ((W.setCell ⟨B,0,none⟩ (.string t')).setCell ⟨B,1,none⟩ (.int .i64 y')) A:=SetD.other h hne t' y'
theorem ArB.put{w W:World}{ds:ByteArray}{x:Int}{A:Nat}(h:ArB w ds x W)(hA:w.heap.size+3≤A)(t:ByteArray)(y:Int):ArB w ds x ((W.setCell ⟨A,0,none⟩ (.string t)).setCell ⟨A,1,none⟩ (.int .i64 y)):=by
 obtain⟨h1,h2,h3,h4,h5⟩:=h
 have hb:Below (w.heap.size+3) W ((W.setCell ⟨A,0,none⟩ (.string t)).setCell ⟨A,1,none⟩ (.int .i64 y)):=((Below.refl _ W).setCell (p:=⟨A,0,none⟩) hA _).setCell (p:=⟨A,1,none⟩) hA _
 refine⟨h1.trans (hb.mono (by omega)),(hb.cell (p:=⟨w.heap.size,0,none⟩) (by show w.heap.size<_;omega)).trans h2,(hb.cell (p:=⟨w.heap.size,1,none⟩) (by show w.heap.size<_;omega)).trans h3,Nat.le_trans h4 hb.size,fun k hk=>?_⟩
 rw[hb.block _ (by omega)]
 exact h5 k hk
set_option maxHeartbeats 8000000 in
set_option maxRecDepth 100000 in
theorem around_any(ds:ByteArray)(x:Int)(n:Nat)(hs:ds.size≤2000)(hx:-10000≤x)(hx':x≤10000)(hn:n<ds.size)(hg:good 10 ds.data.toList)(w:World) :
  Calls Tryz.prog 69 #[.agg #[.string ds,.int .i64 x],.int .i64 (n:Int)] w fun e w'=>∃tl yl th yh,LowD ds x n tl yl∧HighD ds x n th yh∧Below w.heap.size w w'
   ∧ ((roundsB ds (n:Int)=true∧e=.returned (.tuple #[.agg #[.string th,.int .i64 yh],.agg #[.string tl,.int .i64 yl]]))∨(roundsB ds (n:Int)=false∧e=.returned (.tuple #[.agg #[.string tl,.int .i64 yl],.agg #[.string th,.int .i64 yh]]))):=by
 have hsz:=take_size ds n (by omega)
 have HL:Hid (∀W,ArB w ds x W→Calls Tryz.prog 67 #[.string (ds.extract 0 n),.int .i64 x] W fun e w'=>∃t y,Hid (LowD ds x n t y)∧e=.returned (.agg #[.string t,.int .i64 y])∧Hid (ArB w ds x w')∧Hid (Below W.heap.size W w')):=fun W hW=>by
  refine(trimmed_any (ds.extract 0 n) x (by omega) W).mono ?_
  rintro e W' ⟨t,y,hl,_,rfl,hb⟩
  exact⟨t,y,hl,rfl,hW.next hb,hb⟩
 have HH:Hid (∀W,ArB w ds x W→Calls Tryz.prog 105 #[.agg #[.string ds,.int .i64 x],.int .i64 (n:Int)] W fun e w'=>∃t y,Hid (HighD ds x n t y)∧e=.returned (.agg #[.string t,.int .i64 y])∧Hid (ArB w ds x w')∧Hid (Below W.heap.size W w')):=fun W hW=>by
  refine(countUp_any ds x n hs hx hx' (by omega) hg W).mono ?_
  rintro e W' ⟨t,y,hl,rfl,hb⟩
  exact⟨t,y,hl,rfl,hW.next hb,hb⟩
 have hn':(n:Int)<(ds.size:Int):=by omega
 have hn2:(n:Int)≤(ds.size:Int):=by omega
 have hs':(ds.size:Int)≤2000:=by omega
 obtain⟨W0,hW0⟩:∃W0,((w.alloc (.cells #[.string ds,.int .i64 x] 69)).alloc (.cells #[.string ⟨#[]⟩,.int .i64 0] 69)).alloc (.cells #[.string ⟨#[]⟩,.int .i64 0] 69)=W0:=⟨_,rfl⟩
 have HW0:Hid _:=hW0
 have HA0:Hid (ArB w ds x W0):=by
  rw[←hW0]
  refine⟨((((Below.refl _ _).alloc (Nat.le_refl _) _).alloc (by simp) _).alloc (by simp<;>omega) _),by simp[go_sem],by simp[go_sem],by simp,fun k hk=>?_⟩
  match k,hk with
  | 0,_=>
   rw[Below.heap_alloc _ _ _ (by simp)]
   have:=new_heap (w.alloc (.cells #[.string ds,.int .i64 x] 69)) (.cells #[.string ⟨#[]⟩,.int .i64 0] 69)
   rwa [World.size_alloc]at this
  | 1,_=>
   have:=new_heap ((w.alloc (.cells #[.string ds,.int .i64 x] 69)).alloc (.cells #[.string ⟨#[]⟩,.int .i64 0] 69)) (.cells #[.string ⟨#[]⟩,.int .i64 0] 69)
   rwa [World.size_alloc,World.size_alloc]at this
 clear hW0
 go_enter Tryz.func69,Tryz.ntmps69
 go_wp2
 rw[HW0.out]
 go_cut [6,7] from 10 to 19 (fun s6 s7 wd=>∃ (A B:Nat) (tl:ByteArray) (yl:Int) (th:ByteArray) (yh:Int),s6=.pointer (some ⟨A,0,none⟩)∧s7=.pointer (some ⟨B,0,none⟩)∧A≠B∧w.heap.size+3≤A∧w.heap.size+3≤B∧Hid (LowD ds x n tl yl)∧Hid (HighD ds x n th yh)∧Hid (SetD wd A tl yl)∧Hid (SetD wd B th yh)∧Hid (ArB w ds x wd))
 case first=>
  refine wp_region_held_drew (S:=fun W=>ArB w ds x W) (by kernel_rfl) HA0.out.drew (fun hHeld=>?_)
  have Hv0:Hid (ArB w ds x W0.drew):=HA0.out.drew
  generalize W0.drew=v0 at *
  refine tkH 0 ?v0 rfl ?_ ?y0
  case y0=>(intro w' hSw;have q0:=hSw.2.1;have q1:=hSw.2.2.1;go_simp;first|done|with_reducible rfl)
  refine tkH 1 ?v1 rfl ?_ ?y1
  case y1=>(intro w' hSw;have q0:=hSw.2.1;have q1:=hSw.2.2.1;go_simp;first|done|with_reducible rfl)
  refine tkH 2 ?v2 rfl ?_ ?y2
  case y2=>(intro w' hSw;have q0:=hSw.2.1;have q1:=hSw.2.2.1;go_simp;first|done|with_reducible rfl)
  refine tkH 3 ?v3 rfl ?_ ?y3
  case y3=>(intro w' hSw;have q0:=hSw.2.1;have q1:=hSw.2.2.1;go_simp;first|done|with_reducible rfl)
  refine tkH 4 ?v4 rfl ?_ ?y4
  case y4=>(intro w' hSw;have q0:=hSw.2.1;have q1:=hSw.2.2.1;go_simp;first|done|with_reducible rfl)
  refine tkH 5 ?v5 rfl ?_ ?y5
  case y5=>(intro w' hSw;have q0:=hSw.2.1;have q1:=hSw.2.2.1;go_simp;first|done|with_reducible rfl)
  refine tkH 7 ?v7 rfl ?_ ?y7
  case y7=>(intro w' hSw;have q0:=hSw.2.1;have q1:=hSw.2.2.1;go_simp;first|done|with_reducible rfl)
  refine tkH 8 ?v8 rfl ?_ ?y8
  case y8=>(intro w' hSw;have q0:=hSw.2.1;have q1:=hSw.2.2.1;go_simp;first|done|with_reducible rfl)
  refine wpAnyH_ready (rs:=[6,10,11]) (by kernel_rfl) (by simp) ?_
  refine AllReadyH.cons (o:=_) rfl (fun K hK=>?_) ?_
  ·go_simp
   refine(HL.out _ Hv0.out).mono ?_
   rintro e v1 ⟨tl,yl,HLo,rfl,Hv1,bv1⟩
   clear bv1
   dsimp only
   refine hK.out _ _ Hv1.out (fun hHeld=>?_)
   clear hK K
   refine nmH ?_
   refine wpAnyH_ready (rs:=[9,10,11]) (by kernel_rfl) (by simp) ?_
   refine AllReadyH.cons (o:=_) rfl (fun K hK=>?_) ?_
   ·go_simp
    refine(HH.out _ Hv1.out).mono ?_
    rintro e v2 ⟨th,yh,HHi,rfl,Hv2,bv2⟩
    clear bv2
    dsimp only
    refine hK.out _ _ Hv2.out (fun hHeld=>?_)
    clear hK K
    refine nmH ?_
    refine wpAnyH_ready (rs:=[10,11]) (by kernel_rfl) (by simp) ?_
    refine AllReadyH.cons (o:=_) rfl (fun K hK=>?_) ?_
    ·go_simp
     obtain⟨A,hA⟩:∃A,v2.heap.size=A:=⟨_,rfl⟩
     obtain⟨v3,hv3⟩:∃v3,v2.alloc (.cells #[.string ⟨#[]⟩,.int .i64 0] 69)=v3:=⟨_,rfl⟩
     rw[hA,hv3]
     have bv3:Hid (Below v2.heap.size v2 v3):=by rw[←hv3];exact(Below.refl _ _).alloc (Nat.le_refl _) _
     have Hv3:Hid (ArB w ds x v3):=Hv2.out.next bv3.out
     have NAv3:Hid (NewD v3 A):=by rw[←hA,←hv3];exact NewD.new _
     have gA:w.heap.size+3≤A:=by rw[←hA];exact Hv2.out.2.2.2.1
     clear bv3 hv3 hA
     refine hK.out _ _ Hv3.out (fun hHeld=>?_)
     clear hK K
     refine nmH ?_
     refine rdH 11 rfl (fun K hK=>?_)
     ·go_simp
      obtain⟨B,hB⟩:∃B,v3.heap.size=B:=⟨_,rfl⟩
      obtain⟨v4,hv4⟩:∃v4,v3.alloc (.cells #[.string ⟨#[]⟩,.int .i64 0] 69)=v4:=⟨_,rfl⟩
      rw[hB,hv4]
      have bv4:Hid (Below v3.heap.size v3 v4):=by rw[←hv4];exact(Below.refl _ _).alloc (Nat.le_refl _) _
      have Hv4:Hid (ArB w ds x v4):=Hv3.out.next bv4.out
      have NBv4:Hid (NewD v4 B):=by rw[←hB,←hv4];exact NewD.new _
      have gB:w.heap.size+3≤B:=by rw[←hB];exact Hv3.out.2.2.2.1
      have NAv4:Hid (NewD v4 A):=NAv3.out.next bv4.out
      have hne:A<B:=by rw[←hB];exact NAv3.out.lt
      clear bv4 hv4 hB
      refine hK.out _ _ Hv4.out (fun hHeld=>?_)
      clear hK K
      try simp only[Act.put]
      try simp only[List.setIfInBounds_toArray]
      try simp only[List.set_cons_succ]
      try simp only[List.set_cons_zero]
      have hab:A≠B:=by omega
      refine rdH 12 rfl (fun K hK=>?_)
      have c0:=NAv4.out.c0
      have c1:=NAv4.out.c1
      have f0:=NAv4.out.f0
      have f1:=NAv4.out.f1
      go_simp
      obtain⟨v5,hv5⟩:∃v5,(v4.setCell ⟨A,0,none⟩ (.string tl)).setCell ⟨A,1,none⟩ (.int .i64 yl)=v5:=⟨_,rfl⟩
      rw[hv5]
      have Hv5:Hid (ArB w ds x v5):=by rw[←hv5];exact Hv4.out.put gA tl yl
      have SAv5:Hid (SetD v5 A tl yl):=by rw[←hv5];exact NAv4.out.put tl yl
      have NBv5:Hid (NewD v5 B):=by rw[←hv5];exact NBv4.out.other (Ne.symm hab) tl yl
      clear c0 c1 f0 f1 hv5
      refine hK.out _ _ Hv5.out (fun hHeld=>?_)
      clear hK K
      refine rdH 13 rfl (fun K hK=>?_)
      have c0:=NBv5.out.c0
      have c1:=NBv5.out.c1
      have f0:=NBv5.out.f0
      have f1:=NBv5.out.f1
      go_simp
      obtain⟨v6,hv6⟩:∃v6,(v5.setCell ⟨B,0,none⟩ (.string th)).setCell ⟨B,1,none⟩ (.int .i64 yh)=v6:=⟨_,rfl⟩
      rw[hv6]
      have Hv6:Hid (ArB w ds x v6):=by rw[←hv6];exact Hv5.out.put gB th yh
      have SBv6:Hid (SetD v6 B th yh):=by rw[←hv6];exact NBv5.out.put th yh
      have SAv6:Hid (SetD v6 A tl yl):=by rw[←hv6];exact SAv5.out.other hab th yh
      clear c0 c1 f0 f1 hv6
      refine hK.out _ _ Hv6.out (fun hHeld=>?_)
      clear hK K
      refine wpAnyH_done (by kernel_rfl) ?_ _
      go_wp2
      go_meet
      case rel=>exact⟨A,B,tl,yl,th,yh,rfl,rfl,hab,gA,gB,HLo,HHi,SAv6,SBv6,Hv6⟩
    refine AllReadyH.cons (o:=_) rfl (fun K hK=>?_) AllReadyH.nil
    ·go_simp
     obtain⟨B,hB⟩:∃B,v2.heap.size=B:=⟨_,rfl⟩
     obtain⟨v7,hv7⟩:∃v7,v2.alloc (.cells #[.string ⟨#[]⟩,.int .i64 0] 69)=v7:=⟨_,rfl⟩
     rw[hB,hv7]
     have bv7:Hid (Below v2.heap.size v2 v7):=by rw[←hv7];exact(Below.refl _ _).alloc (Nat.le_refl _) _
     have Hv7:Hid (ArB w ds x v7):=Hv2.out.next bv7.out
     have NBv7:Hid (NewD v7 B):=by rw[←hB,←hv7];exact NewD.new _
     have gB:w.heap.size+3≤B:=by rw[←hB];exact Hv2.out.2.2.2.1
     clear bv7 hv7 hB
     refine hK.out _ _ Hv7.out (fun hHeld=>?_)
     clear hK K
     refine nmH ?_
     refine rdH 10 rfl (fun K hK=>?_)
     ·go_simp
      obtain⟨A,hA⟩:∃A,v7.heap.size=A:=⟨_,rfl⟩
      obtain⟨v8,hv8⟩:∃v8,v7.alloc (.cells #[.string ⟨#[]⟩,.int .i64 0] 69)=v8:=⟨_,rfl⟩
      rw[hA,hv8]
      have bv8:Hid (Below v7.heap.size v7 v8):=by rw[←hv8];exact(Below.refl _ _).alloc (Nat.le_refl _) _
      have Hv8:Hid (ArB w ds x v8):=Hv7.out.next bv8.out
      have NAv8:Hid (NewD v8 A):=by rw[←hA,←hv8];exact NewD.new _
      have gA:w.heap.size+3≤A:=by rw[←hA];exact Hv7.out.2.2.2.1
      have NBv8:Hid (NewD v8 B):=NBv7.out.next bv8.out
      have hne:B<A:=by rw[←hA];exact NBv7.out.lt
      clear bv8 hv8 hA
      refine hK.out _ _ Hv8.out (fun hHeld=>?_)
      clear hK K
      try simp only[Act.put]
      try simp only[List.setIfInBounds_toArray]
      try simp only[List.set_cons_succ]
      try simp only[List.set_cons_zero]
      have hab:A≠B:=by omega
      refine rdH 12 rfl (fun K hK=>?_)
      have c0:=NAv8.out.c0
      have c1:=NAv8.out.c1
      have f0:=NAv8.out.f0
      have f1:=NAv8.out.f1
      go_simp
      obtain⟨v9,hv9⟩:∃v9,(v8.setCell ⟨A,0,none⟩ (.string tl)).setCell ⟨A,1,none⟩ (.int .i64 yl)=v9:=⟨_,rfl⟩
      rw[hv9]
      have Hv9:Hid (ArB w ds x v9):=by rw[←hv9];exact Hv8.out.put gA tl yl
      have SAv9:Hid (SetD v9 A tl yl):=by rw[←hv9];exact NAv8.out.put tl yl
      have NBv9:Hid (NewD v9 B):=by rw[←hv9];exact NBv8.out.other (Ne.symm hab) tl yl
      clear c0 c1 f0 f1 hv9
      refine hK.out _ _ Hv9.out (fun hHeld=>?_)
      clear hK K
      refine rdH 13 rfl (fun K hK=>?_)
      have c0:=NBv9.out.c0
      have c1:=NBv9.out.c1
      have f0:=NBv9.out.f0
      have f1:=NBv9.out.f1
      go_simp
      obtain⟨v10,hv10⟩:∃v10,(v9.setCell ⟨B,0,none⟩ (.string th)).setCell ⟨B,1,none⟩ (.int .i64 yh)=v10:=⟨_,rfl⟩
      rw[hv10]
      have Hv10:Hid (ArB w ds x v10):=by rw[←hv10];exact Hv9.out.put gB th yh
      have SBv10:Hid (SetD v10 B th yh):=by rw[←hv10];exact NBv9.out.put th yh
      have SAv10:Hid (SetD v10 A tl yl):=by rw[←hv10];exact SAv9.out.other hab th yh
      clear c0 c1 f0 f1 hv10
      refine hK.out _ _ Hv10.out (fun hHeld=>?_)
      clear hK K
      refine wpAnyH_done (by kernel_rfl) ?_ _
      go_wp2
      go_meet
      case rel=>exact⟨A,B,tl,yl,th,yh,rfl,rfl,hab,gA,gB,HLo,HHi,SAv10,SBv10,Hv10⟩
   refine AllReadyH.cons (o:=_) rfl (fun K hK=>?_) ?_
   ·go_simp
    obtain⟨A,hA⟩:∃A,v1.heap.size=A:=⟨_,rfl⟩
    obtain⟨v11,hv11⟩:∃v11,v1.alloc (.cells #[.string ⟨#[]⟩,.int .i64 0] 69)=v11:=⟨_,rfl⟩
    rw[hA,hv11]
    have bv11:Hid (Below v1.heap.size v1 v11):=by rw[←hv11];exact(Below.refl _ _).alloc (Nat.le_refl _) _
    have Hv11:Hid (ArB w ds x v11):=Hv1.out.next bv11.out
    have NAv11:Hid (NewD v11 A):=by rw[←hA,←hv11];exact NewD.new _
    have gA:w.heap.size+3≤A:=by rw[←hA];exact Hv1.out.2.2.2.1
    clear bv11 hv11 hA
    refine hK.out _ _ Hv11.out (fun hHeld=>?_)
    clear hK K
    refine nmH ?_
    refine wpAnyH_ready (rs:=[9,11]) (by kernel_rfl) (by simp) ?_
    refine AllReadyH.cons (o:=_) rfl (fun K hK=>?_) ?_
    ·go_simp
     refine(HH.out _ Hv11.out).mono ?_
     rintro e v12 ⟨th,yh,HHi,rfl,Hv12,bv12⟩
     have NAv12:Hid (NewD v12 A):=NAv11.out.next bv12.out
     clear bv12
     dsimp only
     refine hK.out _ _ Hv12.out (fun hHeld=>?_)
     clear hK K
     refine nmH ?_
     refine rdH 11 rfl (fun K hK=>?_)
     ·go_simp
      obtain⟨B,hB⟩:∃B,v12.heap.size=B:=⟨_,rfl⟩
      obtain⟨v13,hv13⟩:∃v13,v12.alloc (.cells #[.string ⟨#[]⟩,.int .i64 0] 69)=v13:=⟨_,rfl⟩
      rw[hB,hv13]
      have bv13:Hid (Below v12.heap.size v12 v13):=by rw[←hv13];exact(Below.refl _ _).alloc (Nat.le_refl _) _
      have Hv13:Hid (ArB w ds x v13):=Hv12.out.next bv13.out
      have NBv13:Hid (NewD v13 B):=by rw[←hB,←hv13];exact NewD.new _
      have gB:w.heap.size+3≤B:=by rw[←hB];exact Hv12.out.2.2.2.1
      have NAv13:Hid (NewD v13 A):=NAv12.out.next bv13.out
      have hne:A<B:=by rw[←hB];exact NAv12.out.lt
      clear bv13 hv13 hB
      refine hK.out _ _ Hv13.out (fun hHeld=>?_)
      clear hK K
      try simp only[Act.put]
      try simp only[List.setIfInBounds_toArray]
      try simp only[List.set_cons_succ]
      try simp only[List.set_cons_zero]
      have hab:A≠B:=by omega
      refine rdH 12 rfl (fun K hK=>?_)
      have c0:=NAv13.out.c0
      have c1:=NAv13.out.c1
      have f0:=NAv13.out.f0
      have f1:=NAv13.out.f1
      go_simp
      obtain⟨v14,hv14⟩:∃v14,(v13.setCell ⟨A,0,none⟩ (.string tl)).setCell ⟨A,1,none⟩ (.int .i64 yl)=v14:=⟨_,rfl⟩
      rw[hv14]
      have Hv14:Hid (ArB w ds x v14):=by rw[←hv14];exact Hv13.out.put gA tl yl
      have SAv14:Hid (SetD v14 A tl yl):=by rw[←hv14];exact NAv13.out.put tl yl
      have NBv14:Hid (NewD v14 B):=by rw[←hv14];exact NBv13.out.other (Ne.symm hab) tl yl
      clear c0 c1 f0 f1 hv14
      refine hK.out _ _ Hv14.out (fun hHeld=>?_)
      clear hK K
      refine rdH 13 rfl (fun K hK=>?_)
      have c0:=NBv14.out.c0
      have c1:=NBv14.out.c1
      have f0:=NBv14.out.f0
      have f1:=NBv14.out.f1
      go_simp
      obtain⟨v15,hv15⟩:∃v15,(v14.setCell ⟨B,0,none⟩ (.string th)).setCell ⟨B,1,none⟩ (.int .i64 yh)=v15:=⟨_,rfl⟩
      rw[hv15]
      have Hv15:Hid (ArB w ds x v15):=by rw[←hv15];exact Hv14.out.put gB th yh
      have SBv15:Hid (SetD v15 B th yh):=by rw[←hv15];exact NBv14.out.put th yh
      have SAv15:Hid (SetD v15 A tl yl):=by rw[←hv15];exact SAv14.out.other hab th yh
      clear c0 c1 f0 f1 hv15
      refine hK.out _ _ Hv15.out (fun hHeld=>?_)
      clear hK K
      refine wpAnyH_done (by kernel_rfl) ?_ _
      go_wp2
      go_meet
      case rel=>exact⟨A,B,tl,yl,th,yh,rfl,rfl,hab,gA,gB,HLo,HHi,SAv15,SBv15,Hv15⟩
    refine AllReadyH.cons (o:=_) rfl (fun K hK=>?_) AllReadyH.nil
    ·go_simp
     obtain⟨B,hB⟩:∃B,v11.heap.size=B:=⟨_,rfl⟩
     obtain⟨v16,hv16⟩:∃v16,v11.alloc (.cells #[.string ⟨#[]⟩,.int .i64 0] 69)=v16:=⟨_,rfl⟩
     rw[hB,hv16]
     have bv16:Hid (Below v11.heap.size v11 v16):=by rw[←hv16];exact(Below.refl _ _).alloc (Nat.le_refl _) _
     have Hv16:Hid (ArB w ds x v16):=Hv11.out.next bv16.out
     have NBv16:Hid (NewD v16 B):=by rw[←hB,←hv16];exact NewD.new _
     have gB:w.heap.size+3≤B:=by rw[←hB];exact Hv11.out.2.2.2.1
     have NAv16:Hid (NewD v16 A):=NAv11.out.next bv16.out
     have hne:A<B:=by rw[←hB];exact NAv11.out.lt
     clear bv16 hv16 hB
     refine hK.out _ _ Hv16.out (fun hHeld=>?_)
     clear hK K
     refine nmH ?_
     refine rdH 9 rfl (fun K hK=>?_)
     ·go_simp
      refine(HH.out _ Hv16.out).mono ?_
      rintro e v17 ⟨th,yh,HHi,rfl,Hv17,bv17⟩
      have NAv17:Hid (NewD v17 A):=NAv16.out.next bv17.out
      have NBv17:Hid (NewD v17 B):=NBv16.out.next bv17.out
      clear bv17
      dsimp only
      refine hK.out _ _ Hv17.out (fun hHeld=>?_)
      clear hK K
      try simp only[Act.put]
      try simp only[List.setIfInBounds_toArray]
      try simp only[List.set_cons_succ]
      try simp only[List.set_cons_zero]
      have hab:A≠B:=by omega
      refine rdH 12 rfl (fun K hK=>?_)
      have c0:=NAv17.out.c0
      have c1:=NAv17.out.c1
      have f0:=NAv17.out.f0
      have f1:=NAv17.out.f1
      go_simp
      obtain⟨v18,hv18⟩:∃v18,(v17.setCell ⟨A,0,none⟩ (.string tl)).setCell ⟨A,1,none⟩ (.int .i64 yl)=v18:=⟨_,rfl⟩
      rw[hv18]
      have Hv18:Hid (ArB w ds x v18):=by rw[←hv18];exact Hv17.out.put gA tl yl
      have SAv18:Hid (SetD v18 A tl yl):=by rw[←hv18];exact NAv17.out.put tl yl
      have NBv18:Hid (NewD v18 B):=by rw[←hv18];exact NBv17.out.other (Ne.symm hab) tl yl
      clear c0 c1 f0 f1 hv18
      refine hK.out _ _ Hv18.out (fun hHeld=>?_)
      clear hK K
      refine rdH 13 rfl (fun K hK=>?_)
      have c0:=NBv18.out.c0
      have c1:=NBv18.out.c1
      have f0:=NBv18.out.f0
      have f1:=NBv18.out.f1
      go_simp
      obtain⟨v19,hv19⟩:∃v19,(v18.setCell ⟨B,0,none⟩ (.string th)).setCell ⟨B,1,none⟩ (.int .i64 yh)=v19:=⟨_,rfl⟩
      rw[hv19]
      have Hv19:Hid (ArB w ds x v19):=by rw[←hv19];exact Hv18.out.put gB th yh
      have SBv19:Hid (SetD v19 B th yh):=by rw[←hv19];exact NBv18.out.put th yh
      have SAv19:Hid (SetD v19 A tl yl):=by rw[←hv19];exact SAv18.out.other hab th yh
      clear c0 c1 f0 f1 hv19
      refine hK.out _ _ Hv19.out (fun hHeld=>?_)
      clear hK K
      refine wpAnyH_done (by kernel_rfl) ?_ _
      go_wp2
      go_meet
      case rel=>exact⟨A,B,tl,yl,th,yh,rfl,rfl,hab,gA,gB,HLo,HHi,SAv19,SBv19,Hv19⟩
   refine AllReadyH.cons (o:=_) rfl (fun K hK=>?_) AllReadyH.nil
   ·go_simp
    obtain⟨B,hB⟩:∃B,v1.heap.size=B:=⟨_,rfl⟩
    obtain⟨v20,hv20⟩:∃v20,v1.alloc (.cells #[.string ⟨#[]⟩,.int .i64 0] 69)=v20:=⟨_,rfl⟩
    rw[hB,hv20]
    have bv20:Hid (Below v1.heap.size v1 v20):=by rw[←hv20];exact(Below.refl _ _).alloc (Nat.le_refl _) _
    have Hv20:Hid (ArB w ds x v20):=Hv1.out.next bv20.out
    have NBv20:Hid (NewD v20 B):=by rw[←hB,←hv20];exact NewD.new _
    have gB:w.heap.size+3≤B:=by rw[←hB];exact Hv1.out.2.2.2.1
    clear bv20 hv20 hB
    refine hK.out _ _ Hv20.out (fun hHeld=>?_)
    clear hK K
    refine nmH ?_
    refine wpAnyH_ready (rs:=[9,10]) (by kernel_rfl) (by simp) ?_
    refine AllReadyH.cons (o:=_) rfl (fun K hK=>?_) ?_
    ·go_simp
     refine(HH.out _ Hv20.out).mono ?_
     rintro e v21 ⟨th,yh,HHi,rfl,Hv21,bv21⟩
     have NBv21:Hid (NewD v21 B):=NBv20.out.next bv21.out
     clear bv21
     dsimp only
     refine hK.out _ _ Hv21.out (fun hHeld=>?_)
     clear hK K
     refine nmH ?_
     refine rdH 10 rfl (fun K hK=>?_)
     ·go_simp
      obtain⟨A,hA⟩:∃A,v21.heap.size=A:=⟨_,rfl⟩
      obtain⟨v22,hv22⟩:∃v22,v21.alloc (.cells #[.string ⟨#[]⟩,.int .i64 0] 69)=v22:=⟨_,rfl⟩
      rw[hA,hv22]
      have bv22:Hid (Below v21.heap.size v21 v22):=by rw[←hv22];exact(Below.refl _ _).alloc (Nat.le_refl _) _
      have Hv22:Hid (ArB w ds x v22):=Hv21.out.next bv22.out
      have NAv22:Hid (NewD v22 A):=by rw[←hA,←hv22];exact NewD.new _
      have gA:w.heap.size+3≤A:=by rw[←hA];exact Hv21.out.2.2.2.1
      have NBv22:Hid (NewD v22 B):=NBv21.out.next bv22.out
      have hne:B<A:=by rw[←hA];exact NBv21.out.lt
      clear bv22 hv22 hA
      refine hK.out _ _ Hv22.out (fun hHeld=>?_)
      clear hK K
      try simp only[Act.put]
      try simp only[List.setIfInBounds_toArray]
      try simp only[List.set_cons_succ]
      try simp only[List.set_cons_zero]
      have hab:A≠B:=by omega
      refine rdH 12 rfl (fun K hK=>?_)
      have c0:=NAv22.out.c0
      have c1:=NAv22.out.c1
      have f0:=NAv22.out.f0
      have f1:=NAv22.out.f1
      go_simp
      obtain⟨v23,hv23⟩:∃v23,(v22.setCell ⟨A,0,none⟩ (.string tl)).setCell ⟨A,1,none⟩ (.int .i64 yl)=v23:=⟨_,rfl⟩
      rw[hv23]
      have Hv23:Hid (ArB w ds x v23):=by rw[←hv23];exact Hv22.out.put gA tl yl
      have SAv23:Hid (SetD v23 A tl yl):=by rw[←hv23];exact NAv22.out.put tl yl
      have NBv23:Hid (NewD v23 B):=by rw[←hv23];exact NBv22.out.other (Ne.symm hab) tl yl
      clear c0 c1 f0 f1 hv23
      refine hK.out _ _ Hv23.out (fun hHeld=>?_)
      clear hK K
      refine rdH 13 rfl (fun K hK=>?_)
      have c0:=NBv23.out.c0
      have c1:=NBv23.out.c1
      have f0:=NBv23.out.f0
      have f1:=NBv23.out.f1
      go_simp
      obtain⟨v24,hv24⟩:∃v24,(v23.setCell ⟨B,0,none⟩ (.string th)).setCell ⟨B,1,none⟩ (.int .i64 yh)=v24:=⟨_,rfl⟩
      rw[hv24]
      have Hv24:Hid (ArB w ds x v24):=by rw[←hv24];exact Hv23.out.put gB th yh
      have SBv24:Hid (SetD v24 B th yh):=by rw[←hv24];exact NBv23.out.put th yh
      have SAv24:Hid (SetD v24 A tl yl):=by rw[←hv24];exact SAv23.out.other hab th yh
      clear c0 c1 f0 f1 hv24
      refine hK.out _ _ Hv24.out (fun hHeld=>?_)
      clear hK K
      refine wpAnyH_done (by kernel_rfl) ?_ _
      go_wp2
      go_meet
      case rel=>exact⟨A,B,tl,yl,th,yh,rfl,rfl,hab,gA,gB,HLo,HHi,SAv24,SBv24,Hv24⟩
    refine AllReadyH.cons (o:=_) rfl (fun K hK=>?_) AllReadyH.nil
    ·go_simp
     obtain⟨A,hA⟩:∃A,v20.heap.size=A:=⟨_,rfl⟩
     obtain⟨v25,hv25⟩:∃v25,v20.alloc (.cells #[.string ⟨#[]⟩,.int .i64 0] 69)=v25:=⟨_,rfl⟩
     rw[hA,hv25]
     have bv25:Hid (Below v20.heap.size v20 v25):=by rw[←hv25];exact(Below.refl _ _).alloc (Nat.le_refl _) _
     have Hv25:Hid (ArB w ds x v25):=Hv20.out.next bv25.out
     have NAv25:Hid (NewD v25 A):=by rw[←hA,←hv25];exact NewD.new _
     have gA:w.heap.size+3≤A:=by rw[←hA];exact Hv20.out.2.2.2.1
     have NBv25:Hid (NewD v25 B):=NBv20.out.next bv25.out
     have hne:B<A:=by rw[←hA];exact NBv20.out.lt
     clear bv25 hv25 hA
     refine hK.out _ _ Hv25.out (fun hHeld=>?_)
     clear hK K
     refine nmH ?_
     refine rdH 9 rfl (fun K hK=>?_)
     ·go_simp
      refine(HH.out _ Hv25.out).mono ?_
      rintro e v26 ⟨th,yh,HHi,rfl,Hv26,bv26⟩
      have NAv26:Hid (NewD v26 A):=NAv25.out.next bv26.out
      have NBv26:Hid (NewD v26 B):=NBv25.out.next bv26.out
      clear bv26
      dsimp only
      refine hK.out _ _ Hv26.out (fun hHeld=>?_)
      clear hK K
      try simp only[Act.put]
      try simp only[List.setIfInBounds_toArray]
      try simp only[List.set_cons_succ]
      try simp only[List.set_cons_zero]
      have hab:A≠B:=by omega
      refine rdH 12 rfl (fun K hK=>?_)
      have c0:=NAv26.out.c0
      have c1:=NAv26.out.c1
      have f0:=NAv26.out.f0
      have f1:=NAv26.out.f1
      go_simp
      obtain⟨v27,hv27⟩:∃v27,(v26.setCell ⟨A,0,none⟩ (.string tl)).setCell ⟨A,1,none⟩ (.int .i64 yl)=v27:=⟨_,rfl⟩
      rw[hv27]
      have Hv27:Hid (ArB w ds x v27):=by rw[←hv27];exact Hv26.out.put gA tl yl
      have SAv27:Hid (SetD v27 A tl yl):=by rw[←hv27];exact NAv26.out.put tl yl
      have NBv27:Hid (NewD v27 B):=by rw[←hv27];exact NBv26.out.other (Ne.symm hab) tl yl
      clear c0 c1 f0 f1 hv27
      refine hK.out _ _ Hv27.out (fun hHeld=>?_)
      clear hK K
      refine rdH 13 rfl (fun K hK=>?_)
      have c0:=NBv27.out.c0
      have c1:=NBv27.out.c1
      have f0:=NBv27.out.f0
      have f1:=NBv27.out.f1
      go_simp
      obtain⟨v28,hv28⟩:∃v28,(v27.setCell ⟨B,0,none⟩ (.string th)).setCell ⟨B,1,none⟩ (.int .i64 yh)=v28:=⟨_,rfl⟩
      rw[hv28]
      have Hv28:Hid (ArB w ds x v28):=by rw[←hv28];exact Hv27.out.put gB th yh
      have SBv28:Hid (SetD v28 B th yh):=by rw[←hv28];exact NBv27.out.put th yh
      have SAv28:Hid (SetD v28 A tl yl):=by rw[←hv28];exact SAv27.out.other hab th yh
      clear c0 c1 f0 f1 hv28
      refine hK.out _ _ Hv28.out (fun hHeld=>?_)
      clear hK K
      refine wpAnyH_done (by kernel_rfl) ?_ _
      go_wp2
      go_meet
      case rel=>exact⟨A,B,tl,yl,th,yh,rfl,rfl,hab,gA,gB,HLo,HHi,SAv28,SBv28,Hv28⟩
  refine AllReadyH.cons (o:=_) rfl (fun K hK=>?_) ?_
  ·go_simp
   obtain⟨A,hA⟩:∃A,v0.heap.size=A:=⟨_,rfl⟩
   obtain⟨v29,hv29⟩:∃v29,v0.alloc (.cells #[.string ⟨#[]⟩,.int .i64 0] 69)=v29:=⟨_,rfl⟩
   rw[hA,hv29]
   have bv29:Hid (Below v0.heap.size v0 v29):=by rw[←hv29];exact(Below.refl _ _).alloc (Nat.le_refl _) _
   have Hv29:Hid (ArB w ds x v29):=Hv0.out.next bv29.out
   have NAv29:Hid (NewD v29 A):=by rw[←hA,←hv29];exact NewD.new _
   have gA:w.heap.size+3≤A:=by rw[←hA];exact Hv0.out.2.2.2.1
   clear bv29 hv29 hA
   refine hK.out _ _ Hv29.out (fun hHeld=>?_)
   clear hK K
   refine nmH ?_
   refine wpAnyH_ready (rs:=[6,11]) (by kernel_rfl) (by simp) ?_
   refine AllReadyH.cons (o:=_) rfl (fun K hK=>?_) ?_
   ·go_simp
    refine(HL.out _ Hv29.out).mono ?_
    rintro e v30 ⟨tl,yl,HLo,rfl,Hv30,bv30⟩
    have NAv30:Hid (NewD v30 A):=NAv29.out.next bv30.out
    clear bv30
    dsimp only
    refine hK.out _ _ Hv30.out (fun hHeld=>?_)
    clear hK K
    refine nmH ?_
    refine wpAnyH_ready (rs:=[9,11]) (by kernel_rfl) (by simp) ?_
    refine AllReadyH.cons (o:=_) rfl (fun K hK=>?_) ?_
    ·go_simp
     refine(HH.out _ Hv30.out).mono ?_
     rintro e v31 ⟨th,yh,HHi,rfl,Hv31,bv31⟩
     have NAv31:Hid (NewD v31 A):=NAv30.out.next bv31.out
     clear bv31
     dsimp only
     refine hK.out _ _ Hv31.out (fun hHeld=>?_)
     clear hK K
     refine nmH ?_
     refine rdH 11 rfl (fun K hK=>?_)
     ·go_simp
      obtain⟨B,hB⟩:∃B,v31.heap.size=B:=⟨_,rfl⟩
      obtain⟨v32,hv32⟩:∃v32,v31.alloc (.cells #[.string ⟨#[]⟩,.int .i64 0] 69)=v32:=⟨_,rfl⟩
      rw[hB,hv32]
      have bv32:Hid (Below v31.heap.size v31 v32):=by rw[←hv32];exact(Below.refl _ _).alloc (Nat.le_refl _) _
      have Hv32:Hid (ArB w ds x v32):=Hv31.out.next bv32.out
      have NBv32:Hid (NewD v32 B):=by rw[←hB,←hv32];exact NewD.new _
      have gB:w.heap.size+3≤B:=by rw[←hB];exact Hv31.out.2.2.2.1
      have NAv32:Hid (NewD v32 A):=NAv31.out.next bv32.out
      have hne:A<B:=by rw[←hB];exact NAv31.out.lt
      clear bv32 hv32 hB
      refine hK.out _ _ Hv32.out (fun hHeld=>?_)
      clear hK K
      try simp only[Act.put]
      try simp only[List.setIfInBounds_toArray]
      try simp only[List.set_cons_succ]
      try simp only[List.set_cons_zero]
      have hab:A≠B:=by omega
      refine rdH 12 rfl (fun K hK=>?_)
      have c0:=NAv32.out.c0
      have c1:=NAv32.out.c1
      have f0:=NAv32.out.f0
      have f1:=NAv32.out.f1
      go_simp
      obtain⟨v33,hv33⟩:∃v33,(v32.setCell ⟨A,0,none⟩ (.string tl)).setCell ⟨A,1,none⟩ (.int .i64 yl)=v33:=⟨_,rfl⟩
      rw[hv33]
      have Hv33:Hid (ArB w ds x v33):=by rw[←hv33];exact Hv32.out.put gA tl yl
      have SAv33:Hid (SetD v33 A tl yl):=by rw[←hv33];exact NAv32.out.put tl yl
      have NBv33:Hid (NewD v33 B):=by rw[←hv33];exact NBv32.out.other (Ne.symm hab) tl yl
      clear c0 c1 f0 f1 hv33
      refine hK.out _ _ Hv33.out (fun hHeld=>?_)
      clear hK K
      refine rdH 13 rfl (fun K hK=>?_)
      have c0:=NBv33.out.c0
      have c1:=NBv33.out.c1
      have f0:=NBv33.out.f0
      have f1:=NBv33.out.f1
      go_simp
      obtain⟨v34,hv34⟩:∃v34,(v33.setCell ⟨B,0,none⟩ (.string th)).setCell ⟨B,1,none⟩ (.int .i64 yh)=v34:=⟨_,rfl⟩
      rw[hv34]
      have Hv34:Hid (ArB w ds x v34):=by rw[←hv34];exact Hv33.out.put gB th yh
      have SBv34:Hid (SetD v34 B th yh):=by rw[←hv34];exact NBv33.out.put th yh
      have SAv34:Hid (SetD v34 A tl yl):=by rw[←hv34];exact SAv33.out.other hab th yh
      clear c0 c1 f0 f1 hv34
      refine hK.out _ _ Hv34.out (fun hHeld=>?_)
      clear hK K
      refine wpAnyH_done (by kernel_rfl) ?_ _
      go_wp2
      go_meet
      case rel=>exact⟨A,B,tl,yl,th,yh,rfl,rfl,hab,gA,gB,HLo,HHi,SAv34,SBv34,Hv34⟩
    refine AllReadyH.cons (o:=_) rfl (fun K hK=>?_) AllReadyH.nil
    ·go_simp
     obtain⟨B,hB⟩:∃B,v30.heap.size=B:=⟨_,rfl⟩
     obtain⟨v35,hv35⟩:∃v35,v30.alloc (.cells #[.string ⟨#[]⟩,.int .i64 0] 69)=v35:=⟨_,rfl⟩
     rw[hB,hv35]
     have bv35:Hid (Below v30.heap.size v30 v35):=by rw[←hv35];exact(Below.refl _ _).alloc (Nat.le_refl _) _
     have Hv35:Hid (ArB w ds x v35):=Hv30.out.next bv35.out
     have NBv35:Hid (NewD v35 B):=by rw[←hB,←hv35];exact NewD.new _
     have gB:w.heap.size+3≤B:=by rw[←hB];exact Hv30.out.2.2.2.1
     have NAv35:Hid (NewD v35 A):=NAv30.out.next bv35.out
     have hne:A<B:=by rw[←hB];exact NAv30.out.lt
     clear bv35 hv35 hB
     refine hK.out _ _ Hv35.out (fun hHeld=>?_)
     clear hK K
     refine nmH ?_
     refine rdH 9 rfl (fun K hK=>?_)
     ·go_simp
      refine(HH.out _ Hv35.out).mono ?_
      rintro e v36 ⟨th,yh,HHi,rfl,Hv36,bv36⟩
      have NAv36:Hid (NewD v36 A):=NAv35.out.next bv36.out
      have NBv36:Hid (NewD v36 B):=NBv35.out.next bv36.out
      clear bv36
      dsimp only
      refine hK.out _ _ Hv36.out (fun hHeld=>?_)
      clear hK K
      try simp only[Act.put]
      try simp only[List.setIfInBounds_toArray]
      try simp only[List.set_cons_succ]
      try simp only[List.set_cons_zero]
      have hab:A≠B:=by omega
      refine rdH 12 rfl (fun K hK=>?_)
      have c0:=NAv36.out.c0
      have c1:=NAv36.out.c1
      have f0:=NAv36.out.f0
      have f1:=NAv36.out.f1
      go_simp
      obtain⟨v37,hv37⟩:∃v37,(v36.setCell ⟨A,0,none⟩ (.string tl)).setCell ⟨A,1,none⟩ (.int .i64 yl)=v37:=⟨_,rfl⟩
      rw[hv37]
      have Hv37:Hid (ArB w ds x v37):=by rw[←hv37];exact Hv36.out.put gA tl yl
      have SAv37:Hid (SetD v37 A tl yl):=by rw[←hv37];exact NAv36.out.put tl yl
      have NBv37:Hid (NewD v37 B):=by rw[←hv37];exact NBv36.out.other (Ne.symm hab) tl yl
      clear c0 c1 f0 f1 hv37
      refine hK.out _ _ Hv37.out (fun hHeld=>?_)
      clear hK K
      refine rdH 13 rfl (fun K hK=>?_)
      have c0:=NBv37.out.c0
      have c1:=NBv37.out.c1
      have f0:=NBv37.out.f0
      have f1:=NBv37.out.f1
      go_simp
      obtain⟨v38,hv38⟩:∃v38,(v37.setCell ⟨B,0,none⟩ (.string th)).setCell ⟨B,1,none⟩ (.int .i64 yh)=v38:=⟨_,rfl⟩
      rw[hv38]
      have Hv38:Hid (ArB w ds x v38):=by rw[←hv38];exact Hv37.out.put gB th yh
      have SBv38:Hid (SetD v38 B th yh):=by rw[←hv38];exact NBv37.out.put th yh
      have SAv38:Hid (SetD v38 A tl yl):=by rw[←hv38];exact SAv37.out.other hab th yh
      clear c0 c1 f0 f1 hv38
      refine hK.out _ _ Hv38.out (fun hHeld=>?_)
      clear hK K
      refine wpAnyH_done (by kernel_rfl) ?_ _
      go_wp2
      go_meet
      case rel=>exact⟨A,B,tl,yl,th,yh,rfl,rfl,hab,gA,gB,HLo,HHi,SAv38,SBv38,Hv38⟩
   refine AllReadyH.cons (o:=_) rfl (fun K hK=>?_) AllReadyH.nil
   ·go_simp
    obtain⟨B,hB⟩:∃B,v29.heap.size=B:=⟨_,rfl⟩
    obtain⟨v39,hv39⟩:∃v39,v29.alloc (.cells #[.string ⟨#[]⟩,.int .i64 0] 69)=v39:=⟨_,rfl⟩
    rw[hB,hv39]
    have bv39:Hid (Below v29.heap.size v29 v39):=by rw[←hv39];exact(Below.refl _ _).alloc (Nat.le_refl _) _
    have Hv39:Hid (ArB w ds x v39):=Hv29.out.next bv39.out
    have NBv39:Hid (NewD v39 B):=by rw[←hB,←hv39];exact NewD.new _
    have gB:w.heap.size+3≤B:=by rw[←hB];exact Hv29.out.2.2.2.1
    have NAv39:Hid (NewD v39 A):=NAv29.out.next bv39.out
    have hne:A<B:=by rw[←hB];exact NAv29.out.lt
    clear bv39 hv39 hB
    refine hK.out _ _ Hv39.out (fun hHeld=>?_)
    clear hK K
    refine nmH ?_
    refine rdH 6 rfl (fun K hK=>?_)
    ·go_simp
     refine(HL.out _ Hv39.out).mono ?_
     rintro e v40 ⟨tl,yl,HLo,rfl,Hv40,bv40⟩
     have NAv40:Hid (NewD v40 A):=NAv39.out.next bv40.out
     have NBv40:Hid (NewD v40 B):=NBv39.out.next bv40.out
     clear bv40
     dsimp only
     refine hK.out _ _ Hv40.out (fun hHeld=>?_)
     clear hK K
     refine nmH ?_
     refine rdH 9 rfl (fun K hK=>?_)
     ·go_simp
      refine(HH.out _ Hv40.out).mono ?_
      rintro e v41 ⟨th,yh,HHi,rfl,Hv41,bv41⟩
      have NAv41:Hid (NewD v41 A):=NAv40.out.next bv41.out
      have NBv41:Hid (NewD v41 B):=NBv40.out.next bv41.out
      clear bv41
      dsimp only
      refine hK.out _ _ Hv41.out (fun hHeld=>?_)
      clear hK K
      try simp only[Act.put]
      try simp only[List.setIfInBounds_toArray]
      try simp only[List.set_cons_succ]
      try simp only[List.set_cons_zero]
      have hab:A≠B:=by omega
      refine rdH 12 rfl (fun K hK=>?_)
      have c0:=NAv41.out.c0
      have c1:=NAv41.out.c1
      have f0:=NAv41.out.f0
      have f1:=NAv41.out.f1
      go_simp
      obtain⟨v42,hv42⟩:∃v42,(v41.setCell ⟨A,0,none⟩ (.string tl)).setCell ⟨A,1,none⟩ (.int .i64 yl)=v42:=⟨_,rfl⟩
      rw[hv42]
      have Hv42:Hid (ArB w ds x v42):=by rw[←hv42];exact Hv41.out.put gA tl yl
      have SAv42:Hid (SetD v42 A tl yl):=by rw[←hv42];exact NAv41.out.put tl yl
      have NBv42:Hid (NewD v42 B):=by rw[←hv42];exact NBv41.out.other (Ne.symm hab) tl yl
      clear c0 c1 f0 f1 hv42
      refine hK.out _ _ Hv42.out (fun hHeld=>?_)
      clear hK K
      refine rdH 13 rfl (fun K hK=>?_)
      have c0:=NBv42.out.c0
      have c1:=NBv42.out.c1
      have f0:=NBv42.out.f0
      have f1:=NBv42.out.f1
      go_simp
      obtain⟨v43,hv43⟩:∃v43,(v42.setCell ⟨B,0,none⟩ (.string th)).setCell ⟨B,1,none⟩ (.int .i64 yh)=v43:=⟨_,rfl⟩
      rw[hv43]
      have Hv43:Hid (ArB w ds x v43):=by rw[←hv43];exact Hv42.out.put gB th yh
      have SBv43:Hid (SetD v43 B th yh):=by rw[←hv43];exact NBv42.out.put th yh
      have SAv43:Hid (SetD v43 A tl yl):=by rw[←hv43];exact SAv42.out.other hab th yh
      clear c0 c1 f0 f1 hv43
      refine hK.out _ _ Hv43.out (fun hHeld=>?_)
      clear hK K
      refine wpAnyH_done (by kernel_rfl) ?_ _
      go_wp2
      go_meet
      case rel=>exact⟨A,B,tl,yl,th,yh,rfl,rfl,hab,gA,gB,HLo,HHi,SAv43,SBv43,Hv43⟩
  refine AllReadyH.cons (o:=_) rfl (fun K hK=>?_) AllReadyH.nil
  ·go_simp
   obtain⟨B,hB⟩:∃B,v0.heap.size=B:=⟨_,rfl⟩
   obtain⟨v44,hv44⟩:∃v44,v0.alloc (.cells #[.string ⟨#[]⟩,.int .i64 0] 69)=v44:=⟨_,rfl⟩
   rw[hB,hv44]
   have bv44:Hid (Below v0.heap.size v0 v44):=by rw[←hv44];exact(Below.refl _ _).alloc (Nat.le_refl _) _
   have Hv44:Hid (ArB w ds x v44):=Hv0.out.next bv44.out
   have NBv44:Hid (NewD v44 B):=by rw[←hB,←hv44];exact NewD.new _
   have gB:w.heap.size+3≤B:=by rw[←hB];exact Hv0.out.2.2.2.1
   clear bv44 hv44 hB
   refine hK.out _ _ Hv44.out (fun hHeld=>?_)
   clear hK K
   refine nmH ?_
   refine wpAnyH_ready (rs:=[6,10]) (by kernel_rfl) (by simp) ?_
   refine AllReadyH.cons (o:=_) rfl (fun K hK=>?_) ?_
   ·go_simp
    refine(HL.out _ Hv44.out).mono ?_
    rintro e v45 ⟨tl,yl,HLo,rfl,Hv45,bv45⟩
    have NBv45:Hid (NewD v45 B):=NBv44.out.next bv45.out
    clear bv45
    dsimp only
    refine hK.out _ _ Hv45.out (fun hHeld=>?_)
    clear hK K
    refine nmH ?_
    refine wpAnyH_ready (rs:=[9,10]) (by kernel_rfl) (by simp) ?_
    refine AllReadyH.cons (o:=_) rfl (fun K hK=>?_) ?_
    ·go_simp
     refine(HH.out _ Hv45.out).mono ?_
     rintro e v46 ⟨th,yh,HHi,rfl,Hv46,bv46⟩
     have NBv46:Hid (NewD v46 B):=NBv45.out.next bv46.out
     clear bv46
     dsimp only
     refine hK.out _ _ Hv46.out (fun hHeld=>?_)
     clear hK K
     refine nmH ?_
     refine rdH 10 rfl (fun K hK=>?_)
     ·go_simp
      obtain⟨A,hA⟩:∃A,v46.heap.size=A:=⟨_,rfl⟩
      obtain⟨v47,hv47⟩:∃v47,v46.alloc (.cells #[.string ⟨#[]⟩,.int .i64 0] 69)=v47:=⟨_,rfl⟩
      rw[hA,hv47]
      have bv47:Hid (Below v46.heap.size v46 v47):=by rw[←hv47];exact(Below.refl _ _).alloc (Nat.le_refl _) _
      have Hv47:Hid (ArB w ds x v47):=Hv46.out.next bv47.out
      have NAv47:Hid (NewD v47 A):=by rw[←hA,←hv47];exact NewD.new _
      have gA:w.heap.size+3≤A:=by rw[←hA];exact Hv46.out.2.2.2.1
      have NBv47:Hid (NewD v47 B):=NBv46.out.next bv47.out
      have hne:B<A:=by rw[←hA];exact NBv46.out.lt
      clear bv47 hv47 hA
      refine hK.out _ _ Hv47.out (fun hHeld=>?_)
      clear hK K
      try simp only[Act.put]
      try simp only[List.setIfInBounds_toArray]
      try simp only[List.set_cons_succ]
      try simp only[List.set_cons_zero]
      have hab:A≠B:=by omega
      refine rdH 12 rfl (fun K hK=>?_)
      have c0:=NAv47.out.c0
      have c1:=NAv47.out.c1
      have f0:=NAv47.out.f0
      have f1:=NAv47.out.f1
      go_simp
      obtain⟨v48,hv48⟩:∃v48,(v47.setCell ⟨A,0,none⟩ (.string tl)).setCell ⟨A,1,none⟩ (.int .i64 yl)=v48:=⟨_,rfl⟩
      rw[hv48]
      have Hv48:Hid (ArB w ds x v48):=by rw[←hv48];exact Hv47.out.put gA tl yl
      have SAv48:Hid (SetD v48 A tl yl):=by rw[←hv48];exact NAv47.out.put tl yl
      have NBv48:Hid (NewD v48 B):=by rw[←hv48];exact NBv47.out.other (Ne.symm hab) tl yl
      clear c0 c1 f0 f1 hv48
      refine hK.out _ _ Hv48.out (fun hHeld=>?_)
      clear hK K
      refine rdH 13 rfl (fun K hK=>?_)
      have c0:=NBv48.out.c0
      have c1:=NBv48.out.c1
      have f0:=NBv48.out.f0
      have f1:=NBv48.out.f1
      go_simp
      obtain⟨v49,hv49⟩:∃v49,(v48.setCell ⟨B,0,none⟩ (.string th)).setCell ⟨B,1,none⟩ (.int .i64 yh)=v49:=⟨_,rfl⟩
      rw[hv49]
      have Hv49:Hid (ArB w ds x v49):=by rw[←hv49];exact Hv48.out.put gB th yh
      have SBv49:Hid (SetD v49 B th yh):=by rw[←hv49];exact NBv48.out.put th yh
      have SAv49:Hid (SetD v49 A tl yl):=by rw[←hv49];exact SAv48.out.other hab th yh
      clear c0 c1 f0 f1 hv49
      refine hK.out _ _ Hv49.out (fun hHeld=>?_)
      clear hK K
      refine wpAnyH_done (by kernel_rfl) ?_ _
      go_wp2
      go_meet
      case rel=>exact⟨A,B,tl,yl,th,yh,rfl,rfl,hab,gA,gB,HLo,HHi,SAv49,SBv49,Hv49⟩
    refine AllReadyH.cons (o:=_) rfl (fun K hK=>?_) AllReadyH.nil
    ·go_simp
     obtain⟨A,hA⟩:∃A,v45.heap.size=A:=⟨_,rfl⟩
     obtain⟨v50,hv50⟩:∃v50,v45.alloc (.cells #[.string ⟨#[]⟩,.int .i64 0] 69)=v50:=⟨_,rfl⟩
     rw[hA,hv50]
     have bv50:Hid (Below v45.heap.size v45 v50):=by rw[←hv50];exact(Below.refl _ _).alloc (Nat.le_refl _) _
     have Hv50:Hid (ArB w ds x v50):=Hv45.out.next bv50.out
     have NAv50:Hid (NewD v50 A):=by rw[←hA,←hv50];exact NewD.new _
     have gA:w.heap.size+3≤A:=by rw[←hA];exact Hv45.out.2.2.2.1
     have NBv50:Hid (NewD v50 B):=NBv45.out.next bv50.out
     have hne:B<A:=by rw[←hA];exact NBv45.out.lt
     clear bv50 hv50 hA
     refine hK.out _ _ Hv50.out (fun hHeld=>?_)
     clear hK K
     refine nmH ?_
     refine rdH 9 rfl (fun K hK=>?_)
     ·go_simp
      refine(HH.out _ Hv50.out).mono ?_
      rintro e v51 ⟨th,yh,HHi,rfl,Hv51,bv51⟩
      have NAv51:Hid (NewD v51 A):=NAv50.out.next bv51.out
      have NBv51:Hid (NewD v51 B):=NBv50.out.next bv51.out
      clear bv51
      dsimp only
      refine hK.out _ _ Hv51.out (fun hHeld=>?_)
      clear hK K
      try simp only[Act.put]
      try simp only[List.setIfInBounds_toArray]
      try simp only[List.set_cons_succ]
      try simp only[List.set_cons_zero]
      have hab:A≠B:=by omega
      refine rdH 12 rfl (fun K hK=>?_)
      have c0:=NAv51.out.c0
      have c1:=NAv51.out.c1
      have f0:=NAv51.out.f0
      have f1:=NAv51.out.f1
      go_simp
      obtain⟨v52,hv52⟩:∃v52,(v51.setCell ⟨A,0,none⟩ (.string tl)).setCell ⟨A,1,none⟩ (.int .i64 yl)=v52:=⟨_,rfl⟩
      rw[hv52]
      have Hv52:Hid (ArB w ds x v52):=by rw[←hv52];exact Hv51.out.put gA tl yl
      have SAv52:Hid (SetD v52 A tl yl):=by rw[←hv52];exact NAv51.out.put tl yl
      have NBv52:Hid (NewD v52 B):=by rw[←hv52];exact NBv51.out.other (Ne.symm hab) tl yl
      clear c0 c1 f0 f1 hv52
      refine hK.out _ _ Hv52.out (fun hHeld=>?_)
      clear hK K
      refine rdH 13 rfl (fun K hK=>?_)
      have c0:=NBv52.out.c0
      have c1:=NBv52.out.c1
      have f0:=NBv52.out.f0
      have f1:=NBv52.out.f1
      go_simp
      obtain⟨v53,hv53⟩:∃v53,(v52.setCell ⟨B,0,none⟩ (.string th)).setCell ⟨B,1,none⟩ (.int .i64 yh)=v53:=⟨_,rfl⟩
      rw[hv53]
      have Hv53:Hid (ArB w ds x v53):=by rw[←hv53];exact Hv52.out.put gB th yh
      have SBv53:Hid (SetD v53 B th yh):=by rw[←hv53];exact NBv52.out.put th yh
      have SAv53:Hid (SetD v53 A tl yl):=by rw[←hv53];exact SAv52.out.other hab th yh
      clear c0 c1 f0 f1 hv53
      refine hK.out _ _ Hv53.out (fun hHeld=>?_)
      clear hK K
      refine wpAnyH_done (by kernel_rfl) ?_ _
      go_wp2
      go_meet
      case rel=>exact⟨A,B,tl,yl,th,yh,rfl,rfl,hab,gA,gB,HLo,HHi,SAv53,SBv53,Hv53⟩
   refine AllReadyH.cons (o:=_) rfl (fun K hK=>?_) AllReadyH.nil
   ·go_simp
    obtain⟨A,hA⟩:∃A,v44.heap.size=A:=⟨_,rfl⟩
    obtain⟨v54,hv54⟩:∃v54,v44.alloc (.cells #[.string ⟨#[]⟩,.int .i64 0] 69)=v54:=⟨_,rfl⟩
    rw[hA,hv54]
    have bv54:Hid (Below v44.heap.size v44 v54):=by rw[←hv54];exact(Below.refl _ _).alloc (Nat.le_refl _) _
    have Hv54:Hid (ArB w ds x v54):=Hv44.out.next bv54.out
    have NAv54:Hid (NewD v54 A):=by rw[←hA,←hv54];exact NewD.new _
    have gA:w.heap.size+3≤A:=by rw[←hA];exact Hv44.out.2.2.2.1
    have NBv54:Hid (NewD v54 B):=NBv44.out.next bv54.out
    have hne:B<A:=by rw[←hA];exact NBv44.out.lt
    clear bv54 hv54 hA
    refine hK.out _ _ Hv54.out (fun hHeld=>?_)
    clear hK K
    refine nmH ?_
    refine rdH 6 rfl (fun K hK=>?_)
    ·go_simp
     refine(HL.out _ Hv54.out).mono ?_
     rintro e v55 ⟨tl,yl,HLo,rfl,Hv55,bv55⟩
     have NAv55:Hid (NewD v55 A):=NAv54.out.next bv55.out
     have NBv55:Hid (NewD v55 B):=NBv54.out.next bv55.out
     clear bv55
     dsimp only
     refine hK.out _ _ Hv55.out (fun hHeld=>?_)
     clear hK K
     refine nmH ?_
     refine rdH 9 rfl (fun K hK=>?_)
     ·go_simp
      refine(HH.out _ Hv55.out).mono ?_
      rintro e v56 ⟨th,yh,HHi,rfl,Hv56,bv56⟩
      have NAv56:Hid (NewD v56 A):=NAv55.out.next bv56.out
      have NBv56:Hid (NewD v56 B):=NBv55.out.next bv56.out
      clear bv56
      dsimp only
      refine hK.out _ _ Hv56.out (fun hHeld=>?_)
      clear hK K
      try simp only[Act.put]
      try simp only[List.setIfInBounds_toArray]
      try simp only[List.set_cons_succ]
      try simp only[List.set_cons_zero]
      have hab:A≠B:=by omega
      refine rdH 12 rfl (fun K hK=>?_)
      have c0:=NAv56.out.c0
      have c1:=NAv56.out.c1
      have f0:=NAv56.out.f0
      have f1:=NAv56.out.f1
      go_simp
      obtain⟨v57,hv57⟩:∃v57,(v56.setCell ⟨A,0,none⟩ (.string tl)).setCell ⟨A,1,none⟩ (.int .i64 yl)=v57:=⟨_,rfl⟩
      rw[hv57]
      have Hv57:Hid (ArB w ds x v57):=by rw[←hv57];exact Hv56.out.put gA tl yl
      have SAv57:Hid (SetD v57 A tl yl):=by rw[←hv57];exact NAv56.out.put tl yl
      have NBv57:Hid (NewD v57 B):=by rw[←hv57];exact NBv56.out.other (Ne.symm hab) tl yl
      clear c0 c1 f0 f1 hv57
      refine hK.out _ _ Hv57.out (fun hHeld=>?_)
      clear hK K
      refine rdH 13 rfl (fun K hK=>?_)
      have c0:=NBv57.out.c0
      have c1:=NBv57.out.c1
      have f0:=NBv57.out.f0
      have f1:=NBv57.out.f1
      go_simp
      obtain⟨v58,hv58⟩:∃v58,(v57.setCell ⟨B,0,none⟩ (.string th)).setCell ⟨B,1,none⟩ (.int .i64 yh)=v58:=⟨_,rfl⟩
      rw[hv58]
      have Hv58:Hid (ArB w ds x v58):=by rw[←hv58];exact Hv57.out.put gB th yh
      have SBv58:Hid (SetD v58 B th yh):=by rw[←hv58];exact NBv57.out.put th yh
      have SAv58:Hid (SetD v58 A tl yl):=by rw[←hv58];exact SAv57.out.other hab th yh
      clear c0 c1 f0 f1 hv58
      refine hK.out _ _ Hv58.out (fun hHeld=>?_)
      clear hK K
      refine wpAnyH_done (by kernel_rfl) ?_ _
      go_wp2
      go_meet
      case rel=>exact⟨A,B,tl,yl,th,yh,rfl,rfl,hab,gA,gB,HLo,HHi,SAv58,SBv58,Hv58⟩
 case rest=>
  obtain⟨A,B,tl,yl,th,yh,rfl,rfl,hab,gA,gB,HLo,HHi,HSA,HSB,HAR⟩:=hcut
  have q0:=HAR.out.2.1
  have a0:=HSA.out.c0
  have a1:=HSA.out.c1
  have b0:=HSB.out.c0
  have b1:=HSB.out.c1
  have e1:SetD wc (w.heap.size+1) ⟨#[]⟩ 0:=HAR.out.2.2.2.2 0 (by omega)
  have e2:SetD wc (w.heap.size+1+1) ⟨#[]⟩ 0:=HAR.out.2.2.2.2 1 (by omega)
  have e10:=e1.c0
  have e11:=e1.c1
  have e20:=e2.c0
  have e21:=e2.c1
  have f10:=e1.fr 0
  have f11:=e1.fr 1
  have f20:=e2.fr 0
  have f21:=e2.fr 1
  have HBW:Hid (Below w.heap.size w wc):=HAR.out.1
  have hab':¬A=B:=hab
  have x1:¬A=w.heap.size+1:=by omega
  have x2:¬A=w.heap.size+1+1:=by omega
  have x3:¬B=w.heap.size+1:=by omega
  have x4:¬B=w.heap.size+1+1:=by omega
  clear e1 e2 HL HH HA0 HW0
  have hre:=rest_cases ds n hn
  have hfin:∀ (u v:ByteArray) (p q:Int),Hid (Below w.heap.size w ((((wc.drew.setCell ⟨w.heap.size+1,0,none⟩ (.string u)).setCell ⟨w.heap.size+1,1,none⟩ (.int .i64 p)).setCell ⟨w.heap.size+1+1,0,none⟩ (.string v)).setCell ⟨w.heap.size+1+1,1,none⟩ (.int .i64 q))):=fun u v p q=>
   ((((HBW.out.drew).setCell (p:=⟨w.heap.size+1,0,none⟩) (by simp) _).setCell (p:=⟨w.heap.size+1,1,none⟩) (by simp) _).setCell (p:=⟨w.heap.size+1+1,0,none⟩) (by simp<;>omega) _).setCell (p:=⟨w.heap.size+1+1,1,none⟩) (by simp<;>omega) _
  have HFIN:Hid _:=hfin
  clear hfin
  by_cases hn0:n=0
  ·subst hn0
   have hR:ds.extract 0 ds.size=ds:=by simp
   rw[hR]at hre
   rcases hre with⟨hl,hq,hrr⟩|⟨hl,hq,hrr⟩|⟨hl,hq,hrr⟩
   ·have HR:Hid (roundsB ds ((0:Nat):Int)=false):=hrr
    clear hrr
    go_wp2
    go_region
    all_goals
     go_wp2
     refine bodyPost_ret (v:=.tuple #[.agg #[.string tl,.int .i64 yl],.agg #[.string th,.int .i64 yh]]) (by simp[results,Tryz.results69,go_sem,e10,e11,e20,e21]) rfl ⟨tl,yl,th,yh,HLo.out,HHi.out,HFIN.out _ _ _ _,.inr ⟨HR.out,rfl⟩⟩
   ·have HR:Hid (roundsB ds ((0:Nat):Int)=true):=hrr
    clear hrr
    go_wp2
    go_region
    all_goals
     go_wp2
     refine bodyPost_ret (v:=.tuple #[.agg #[.string th,.int .i64 yh],.agg #[.string tl,.int .i64 yl]]) (by simp[results,Tryz.results69,go_sem,e10,e11,e20,e21]) rfl ⟨tl,yl,th,yh,HLo.out,HHi.out,HFIN.out _ _ _ _,.inl ⟨HR.out,rfl⟩⟩
   ·have HR:Hid (roundsB ds ((0:Nat):Int)=false):=hrr
    clear hrr
    go_wp2
    go_region
    all_goals
     go_wp2
     refine bodyPost_ret (v:=.tuple #[.agg #[.string tl,.int .i64 yl],.agg #[.string th,.int .i64 yh]]) (by simp[results,Tryz.results69,go_sem,e10,e11,e20,e21]) rfl ⟨tl,yl,th,yh,HLo.out,HHi.out,HFIN.out _ _ _ _,.inr ⟨HR.out,rfl⟩⟩
  ·obtain⟨m,hm⟩:∃m,n=m+1:=⟨n-1,by omega⟩
   have hml:m<ds.size:=by omega
   have hmi:(n:Int)-1=(m:Int):=by omega
   have hn3:(0:Int)<(n:Int):=by omega
   rcases hre with⟨hl,hq,hrr⟩|⟨hl,hq,hrr⟩|⟨hl,hq,hrr⟩
   ·have HR:Hid (roundsB ds (n:Int)=false):=hrr
    clear hrr hm hn0
    go_wp2
    go_region
    all_goals
     go_wp2
     refine bodyPost_ret (v:=.tuple #[.agg #[.string tl,.int .i64 yl],.agg #[.string th,.int .i64 yh]]) (by simp[results,Tryz.results69,go_sem,e10,e11,e20,e21]) rfl ⟨tl,yl,th,yh,HLo.out,HHi.out,HFIN.out _ _ _ _,.inr ⟨HR.out,rfl⟩⟩
   ·have HR:Hid (roundsB ds (n:Int)=true):=hrr
    clear hrr hm hn0
    go_wp2
    go_region
    all_goals
     go_wp2
     refine bodyPost_ret (v:=.tuple #[.agg #[.string th,.int .i64 yh],.agg #[.string tl,.int .i64 yl]]) (by simp[results,Tryz.results69,go_sem,e10,e11,e20,e21]) rfl ⟨tl,yl,th,yh,HLo.out,HHi.out,HFIN.out _ _ _ _,.inl ⟨HR.out,rfl⟩⟩
   ·have hdg:=good_digit ds[m] (good_at 10 ds hg m hml)
    have hrr2:roundsB ds (n:Int)=decide ((ds[m].toNat-48) % 2=1):=by
     rw[hrr,dif_pos (by omega)]
     simp only[show n-1=m by omega]
    rcases Nat.mod_two_eq_zero_or_one ds[m].toNat with ho|ho
    ·have ho2:(ds[m].toNat:Int) % 2=0:=by omega
     have HR:Hid (roundsB ds (n:Int)=false):=by rw[hrr2];exact decide_eq_false (by omega)
     clear hrr hrr2 hm hn0 hdg ho
     go_wp2
     go_region
     all_goals
      go_wp2
      refine bodyPost_ret (v:=.tuple #[.agg #[.string tl,.int .i64 yl],.agg #[.string th,.int .i64 yh]]) (by simp[results,Tryz.results69,go_sem,e10,e11,e20,e21]) rfl ⟨tl,yl,th,yh,HLo.out,HHi.out,HFIN.out _ _ _ _,.inr ⟨HR.out,rfl⟩⟩
    ·have ho2:(ds[m].toNat:Int) % 2=1:=by omega
     have HR:Hid (roundsB ds (n:Int)=true):=by rw[hrr2];exact decide_eq_true (by omega)
     clear hrr hrr2 hm hn0 hdg ho
     go_wp2
     go_region
     all_goals
      go_wp2
      refine bodyPost_ret (v:=.tuple #[.agg #[.string th,.int .i64 yh],.agg #[.string tl,.int .i64 yl]]) (by simp[results,Tryz.results69,go_sem,e10,e11,e20,e21]) rfl ⟨tl,yl,th,yh,HLo.out,HHi.out,HFIN.out _ _ _ _,.inl ⟨HR.out,rfl⟩⟩
end Go.Proofs.YtenbfookfcmpoaaGreatDoor
