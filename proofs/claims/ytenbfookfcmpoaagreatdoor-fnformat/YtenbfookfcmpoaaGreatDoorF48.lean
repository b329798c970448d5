import Derived.Test.YtenbfookfcmpoaaGreatDoorF46
import Derived.Test.YtenbfookfcmpoaaGreatDoorF47
namespace Go.Proofs.YtenbfookfcmpoaaGreatDoor
open Go.ChangeShapes Go.WideShapes Go.RowKit
structure SfB (w:World) (R C:Nat) (s:ByteArray) (k:Nat) (av v:Value) (ars:List ArgV) (out:List UInt8) (W:World):Prop where
 hR:w.heap.size=R
 hC:C=R+1
 rd:Rd C W s k
 own:W.ownsRowF (R+2) 5 1 v out.length (Lib.byteCells out)
 rb:ResB W R (.bool false) (.int .i64 0) (.string ⟨#[]⟩)
 ar:ArgsAt R W av ars
 bl:Below R w W
theorem own_same{B:Nat}{W W':World}{v:Value}{n:Nat}{l:List Value}(h:W.ownsRowF B 5 1 v n l)(hs:∀g,B≤g→v.ownBlock=some g→W'.heap[g]? = W.heap[g]?):W'.ownsRowF B 5 1 v n l:=by
 refine⟨h.1,?_⟩
 rcases h.2 with hn|⟨g,cap,cur,fz,rfl,hb,hg,rest⟩
 ·exact .inl hn
 ·exact .inr ⟨g,cap,cur,fz,rfl,hb,(hs g hb rfl).trans hg,rest⟩
section
variable {w W W':World} {R C k k':Nat} {s:ByteArray} {av v v':Value} {ars:List ArgV} {out out':List UInt8}
theorem SfB.clt(h:SfB w R C s k av v ars out W):C<W.heap.size:=cell_lt h.rd.1
theorem SfB.only(h:SfB w R C s k av v ars out W)(ho:Only C W W')(hr:Rd C W' s k'):SfB w R C s k' av v ars out W':=by
 have hC:=h.hC
 exact⟨h.hR,hC,hr,own_same h.own (fun g hg _=>ho.2.2.2.2 g (by omega)),(ho.2.2.2.2 R (by omega)).trans h.rb,h.ar.below (ho.below (by omega)),h.bl.trans (ho.below (by omega))⟩
theorem SfB.below(h:SfB w R C s k av v ars out W)(hb:Below W.heap.size W W'):SfB w R C s k av v ars out W':=by
 have hlt:=h.clt
 have hC:=h.hC
 refine⟨h.hR,hC,h.rd.below hb hlt,own_same h.own (fun g _ hg=>hb.block g (h.own.lt g hg).2),(hb.block R (by omega)).trans h.rb,h.ar.below (hb.mono (by omega)),h.bl.trans (hb.mono (by omega))⟩
theorem SfB.onlyF{F:Nat}(h:SfB w R C s k av v ars out W)(ho:Only F W W')(hF:R+2≤F)(hT:∃cs T fz,W.heap[F]? = some (.cells cs T fz)∧T≠5):SfB w R C s k av v ars out W':=by
 have hC:=h.hC
 obtain⟨cs,T,fz,hb,hT⟩:=hT
 refine⟨h.hR,hC,⟨(ho.cell (p:=⟨C,0,none⟩) (by show C≠F;omega)).trans h.rd.1,(ho.cell (p:=⟨C,1,none⟩) (by show C≠F;omega)).trans h.rd.2.1,(ho.frozen (p:=⟨C,1,none⟩) (by show C≠F;omega)).trans h.rd.2.2⟩,own_same h.own (fun g _ hg=>ho.2.2.2.2 g (fun e=>?_)),(ho.2.2.2.2 R (by omega)).trans h.rb,h.ar.below (ho.below (by omega)),h.bl.trans (ho.below (by omega))⟩
 rcases h.own.2 with⟨rfl,_⟩|⟨g',cap,cur,fz',rfl,_,hg',_⟩
 ·simp[Value.ownBlock]at hg
 ·have:g'=g:=by simpa [Value.ownBlock] using hg
  rw[this,e,hb]at hg'
  simp only[Option.some.injEq,Obj.cells.injEq]at hg'
  exact hT hg'.2.1
theorem SfB.grow(h:SfB w R C s k av v ars out W)(hg:W.grownBy W' v.ownBlock)(hown:W'.ownsRowF (R+2) 5 1 v' out'.length (Lib.byteCells out')):SfB w R C s k av v' ars out' W':=by
 have hC:=h.hC
 have hlt:=h.clt
 have hne:∀x,x<R+2→some x≠v.ownBlock:=fun x hx e=>by have:=(h.own.lt x e.symm).1;omega
 have hbC:=hg.block C hlt (hne C (by omega))
 have hbel:Below R W W':=(Below.refl R W).grown hg (by omega) (fun x hx=>by have:=(h.own.lt x hx).1;omega)
 exact⟨h.hR,hC,⟨(World.cell?_of_block (w:=W) hbC).trans h.rd.1,(World.cell?_of_block (w:=W) hbC).trans h.rd.2.1,(World.frozen?_of_block (w:=W) hbC).trans h.rd.2.2⟩,hown,(hg.block R (by omega) (hne R (by omega))).trans h.rb,h.ar.below hbel,h.bl.trans hbel⟩
theorem SfB.drewN(h:SfB w R C s k av v ars out W)(n:Nat):SfB w R C s k av v ars out (W.drewN n):=⟨h.hR,h.hC,h.rd,h.own,h.rb,h.ar,below_drewN h.bl n⟩
end
def FX(W:World)(F:Nat)(l z q:Bool)(wd pr c:Int):Prop:=W.heap[F]? = some (.cells #[.bool l,.bool z,.bool q,.int .i64 wd,.int .i64 pr,.int .u8 c] 57 (0,0))
section
variable {W W':World} {F:Nat} {l z q:Bool} {wd pr c:Int}
theorem FX.c0(h:FX W F l z q wd pr c):W.cell? ⟨F,0,none⟩=some (.bool l):=by rw[cell_of_heap h];rfl
theorem FX.c1(h:FX W F l z q wd pr c):W.cell? ⟨F,1,none⟩=some (.bool z):=by rw[cell_of_heap h];rfl
theorem FX.c2(h:FX W F l z q wd pr c):W.cell? ⟨F,2,none⟩=some (.bool q):=by rw[cell_of_heap h];rfl
theorem FX.c3(h:FX W F l z q wd pr c):W.cell? ⟨F,3,none⟩=some (.int .i64 wd):=by rw[cell_of_heap h];rfl
theorem FX.c4(h:FX W F l z q wd pr c):W.cell? ⟨F,4,none⟩=some (.int .i64 pr):=by rw[cell_of_heap h];rfl
theorem FX.c5(h:FX W F l z q wd pr c):W.cell? ⟨F,5,none⟩=some (.int .u8 c):=by rw[cell_of_heap h];rfl
theorem FX.froz(h:FX W F l z q wd pr c)(o:Nat):W.frozen? ⟨F,o,none⟩=false:=frozen_of_heap h o
theorem FX.lt(h:FX W F l z q wd pr c):F<W.heap.size:=(Array.getElem?_eq_some_iff.1 h).1
theorem FX.ty(h:FX W F l z q wd pr c):∃cs T fz,W.heap[F]? = some (.cells cs T fz)∧T≠5:=⟨_,_,_,h,by decide⟩
theorem FX.only{C:Nat}(h:FX W F l z q wd pr c)(ho:Only C W W')(hF:F≠C):FX W' F l z q wd pr c:=(ho.2.2.2.2 F hF).trans h
theorem FX.below(h:FX W F l z q wd pr c)(hb:Below W.heap.size W W'):FX W' F l z q wd pr c:=(hb.block F h.lt).trans h
theorem FX.set0(h:FX W F l z q wd pr c)(y:Bool):FX (W.setCell ⟨F,0,none⟩ (.bool y)) F y z q wd pr c:=by
 unfold FX
 rw[setCell_eq_setRow W F 0 _ _ (0,0) _ h]
 exact setRow_heap W F _ _ _ (0,0) h
theorem FX.set1(h:FX W F l z q wd pr c)(y:Bool):FX (W.setCell ⟨F,1,none⟩ (.bool y)) F l y q wd pr c:=by
 unfold FX
 rw[setCell_eq_setRow W F 1 _ _ (0,0) _ h]
 exact setRow_heap W F _ _ _ (0,0) h
theorem FX.set2(h:FX W F l z q wd pr c)(y:Bool):FX (W.setCell ⟨F,2,none⟩ (.bool y)) F l z y wd pr c:=by
 unfold FX
 rw[setCell_eq_setRow W F 2 _ _ (0,0) _ h]
 exact setRow_heap W F _ _ _ (0,0) h
theorem FX.set3(h:FX W F l z q wd pr c)(y:Int):FX (W.setCell ⟨F,3,none⟩ (.int .i64 y)) F l z q y pr c:=by
 unfold FX
 rw[setCell_eq_setRow W F 3 _ _ (0,0) _ h]
 exact setRow_heap W F _ _ _ (0,0) h
theorem FX.set4(h:FX W F l z q wd pr c)(y:Int):FX (W.setCell ⟨F,4,none⟩ (.int .i64 y)) F l z q wd y c:=by
 unfold FX
 rw[setCell_eq_setRow W F 4 _ _ (0,0) _ h]
 exact setRow_heap W F _ _ _ (0,0) h
theorem FX.set5(h:FX W F l z q wd pr c)(y:Int):FX (W.setCell ⟨F,5,none⟩ (.int .u8 y)) F l z q wd pr y:=by
 unfold FX
 rw[setCell_eq_setRow W F 5 _ _ (0,0) _ h]
 exact setRow_heap W F _ _ _ (0,0) h
end
theorem l6number_any(l z q:Bool)(wd pr c:Int)(a:ArgV)(hf:a.flt<18446744073709551616)(hp1:-1≤pr)(hp4:pr≤400)(hc:c=100∨c=120∨c=101∨c=102∨c=103∨c=104)(w:World) :
  Calls Tryz.prog 23 #[.agg #[.bool l,.bool z,.bool q,.int .i64 wd,.int .i64 pr,.int .u8 c],.agg #[.bool a.real,.int .i64 a.num,.float .f64 a.flt]] w fun e w'=>NumQ c pr a w e w':=by
 obtain⟨r,n,f⟩:=a
 rcases hc with rfl|rfl|rfl|rfl|rfl|rfl
 ·cases r
  ·by_cases h:pr = -1
   ·exact numD_0 l z q wd pr n f h w
   ·exact numD_1 l z q wd pr n f h w
  ·exact numD_2 l z q wd pr n f w
 ·cases r
  ·by_cases h:pr = -1
   ·exact numX_0 l z q wd pr n f h w
   ·exact numX_1 l z q wd pr n f h w
  ·exact numX_2 l z q wd pr n f w
 ·by_cases h:pr = -1
  ·subst h
   cases r
   ·exact numE_3 l z q wd n f hf w
   ·exact numE_0 l z q wd n f hf w
  ·cases r
   ·exact numE_4 l z q wd pr n f hf (by omega) hp4 w
   ·by_cases h4:pr<400
    ·exact numE_1 l z q wd pr n f hf (by omega) hp4 h4 w
    ·exact numE_2 l z q wd pr n f hf (by omega) hp4 h4 w
 ·by_cases h:pr = -1
  ·subst h
   cases r
   ·exact numF_2 l z q wd n f hf w
   ·exact numF_0 l z q wd n f hf w
  ·cases r
   ·exact numF_3 l z q wd pr n f hf (by omega) hp4 w
   ·exact numF_1 l z q wd pr n f hf (by omega) hp4 w
 ·cases r
  ·exact numG_2 l z q wd pr n f hf w
  ·by_cases h:pr = -1
   ·exact numG_0 l z q wd pr n f hf h w
   ·exact numG_1 l z q wd pr n f hf h w
 ·cases r
  ·exact numH_2 l z q wd pr n f hf w
  ·by_cases h:pr = -1
   ·exact numH_0 l z q wd pr n f hf h w
   ·exact numH_1 l z q wd pr n f hf h w
end Go.Proofs.YtenbfookfcmpoaaGreatDoor
