import Derived.Test.YtenbfookfcmpoaaGreatDoorF41
namespace Go.Proofs.YtenbfookfcmpoaaGreatDoor
open Ieee (double)
theorem fixedV_one(x:Nat)(n:Int)(t t':ByteArray)(h:fixedV x n t)(h':fixedV x n t'):t=t':=by
 rcases h with⟨ho,rfl⟩|⟨ho,h⟩
 ·rcases h' with⟨_,rfl⟩|⟨ho',_⟩
  ·rfl
  ·exfalso;omega
 ·rcases h' with⟨ho',_⟩|⟨_,h'⟩
  ·exfalso;omega
  ·rcases h with⟨a,rfl⟩|⟨s,rfl,rfl⟩|⟨s,rfl,rfl⟩|⟨s,m,p,q,k,ds,pow,d,r,hc,h0,rfl,hq,hq1,hd,hl,rfl⟩
   ·rcases h' with⟨_,rfl⟩|⟨s,rfl,rfl⟩|⟨s,rfl,rfl⟩|⟨s,m,p,q,k,ds,pow,d,r,hc,h0,rfl,hq,hq1,hd,hl,rfl⟩
    ·rfl
    ·exact(nan_not_iw s a).elim
    ·exact(sign_nan s a).elim
    ·exact(nan_not_fw s m p hc a).elim
   ·rcases h' with⟨a,_⟩|⟨t,e,rfl⟩|⟨t,e,rfl⟩|⟨t,m,p,q,k,ds,pow,d,r,hc,h0,e,hq,hq1,hd,hl,rfl⟩
    ·exact(nan_not_iw s a).elim
    ·rw[iw_one s t e]
    ·exact(sign_iw t s e.symm).elim
    ·exact(iw_fw s t m p hc e).elim
   ·rcases h' with⟨a,_⟩|⟨t,e,rfl⟩|⟨t,e,rfl⟩|⟨t,m,p,q,k,ds,pow,d,r,hc,h0,e,hq,hq1,hd,hl,rfl⟩
    ·exact(sign_nan s a).elim
    ·exact(sign_iw s t e).elim
    ·rw[sign_one s t e]
    ·exact(sign_fw s t m p hc h0 e).elim
   ·rcases h' with⟨a,_⟩|⟨t,e,rfl⟩|⟨t,e,rfl⟩|⟨t,m',p',q',k',ds',pow',d',r',hc',h0',e,hq',hq1',hd',hl',rfl⟩
    ·exact(nan_not_fw s m p hc a).elim
    ·exact(iw_fw t s m p hc e.symm).elim
    ·exact(sign_fw t s m p hc h0 e.symm).elim
    ·obtain⟨rfl,rfl,rfl⟩:=fw_one s t m m' p p' hc hc' e
     obtain⟨rfl,rfl⟩:=odd_one q k q' k' (hq.symm.trans hq') hq1 hq1'
     obtain⟨rfl,rfl⟩:=exD_one ds ds' pow pow' q _ hd hd'
     obtain⟨rfl,rfl⟩:=fixD_one hl hl'
     rfl
end Go.Proofs.YtenbfookfcmpoaaGreatDoor
namespace Go.Proofs.YtenbfookfcmpoaaGreatDoor
open Go.RowKit
def prec6(pr:Int):Int:=if pr<0 then 6 else pr
def numV(c pr:Int)(a:ArgV)(t:ByteArray):Prop:=
 (c=100∧t=intText a.num 10)∨(c=120∧t=bitsText a.num 16)∨(c=103∧shortV a.flt t)∨(c=104∧hexV a.flt t)∨(c=101∧digitsV a.flt (prec6 pr+1) t)∨(c=102∧fixedV a.flt (prec6 pr) t)
theorem numV_one(c pr:Int)(a:ArgV)(t t':ByteArray)(h:numV c pr a t)(h':numV c pr a t'):t=t':=by
 rcases h with⟨rfl,h⟩|⟨rfl,h⟩|⟨rfl,h⟩|⟨rfl,h⟩|⟨rfl,h⟩|⟨rfl,h⟩<;>rcases h' with⟨q,h'⟩|⟨q,h'⟩|⟨q,h'⟩|⟨q,h'⟩|⟨q,h'⟩|⟨q,h'⟩<;>first
  | exact absurd q (by decide)
  | exact h.trans h'.symm
  | exact shortV_one _ _ _ h h'
  | exact hexV_one _ _ _ h h'
  | exact digitsV_one _ _ _ _ h h'
  | exact fixedV_one _ _ _ _ h h'
noncomputable def numT(c pr:Int)(a:ArgV):ByteArray:=@Classical.epsilon _ ⟨⟨#[]⟩⟩ (numV c pr a)
theorem numT_is(c pr:Int)(a:ArgV)(t:ByteArray)(h:numV c pr a t):numT c pr a=t:=
 numV_one c pr a _ _ (@Classical.epsilon_spec _ (numV c pr a) ⟨t,h⟩) h
def Fits(c pr:Int)(a:ArgV):Prop:=
 ((c=100∨c=120)∧a.real=false∧pr = -1)∨((c=103∨c=104)∧a.real=true∧pr = -1)∨(c=101∧a.real=true∧pr<400)∨(c=102∧a.real=true)
def isFlag(c:Int):Prop:=c=45∨c=48∨c=43
instance (c:Int):Decidable (isFlag c):=by unfold isFlag;infer_instance
def flagEnd(s:ByteArray):Nat→Nat→Nat
 | 0,k=>k
 | n+1,k=>if isFlag (bAt s k) then flagEnd s n (k+1) else k
def digEnd(s:ByteArray):Nat→Nat→Nat
 | 0,k=>k
 | n+1,k=>if k<s.size∧digN 99 (bAt s k)<10 then digEnd s n (k+1) else k
noncomputable def hasF(c:Int)(s:ByteArray)(k j:Nat):Bool:=@decide (∃i,k≤i∧i<j∧bAt s i=c) (Classical.propDecidable _)
def FRun(s:ByteArray)(k j:Nat):Prop:=k≤j∧j≤s.size∧(∀i,k≤i→i<j→isFlag (bAt s i))∧¬isFlag (bAt s j)
theorem flag_in(s:ByteArray)(k:Nat)(h:isFlag (bAt s k)):k<s.size:=by
 by_cases hk:k<s.size
 ·exact hk
 ·rw[bAt_out s k hk]at h;rcases h with h|h|h<;>omega
theorem fRun_one(s:ByteArray)(k j j':Nat)(h:FRun s k j)(h':FRun s k j'):j=j':=by
 rcases Nat.lt_trichotomy j j' with hlt|he|hlt
 ·exact absurd (h'.2.2.1 j h.1 hlt) h.2.2.2
 ·exact he
 ·exact absurd (h.2.2.1 j' h'.1 hlt) h'.2.2.2
theorem flagEnd_run(s:ByteArray):∀n k,k≤s.size→s.size-k≤n→FRun s k (flagEnd s n k)
 | 0,k,hk,hn=>by
  have e:k=s.size:=by omega
  refine⟨Nat.le_refl _,hk,fun i h1 h2=>by unfold flagEnd at h2;omega,fun h=>?_⟩
  have:=flag_in s _ h
  unfold flagEnd at this
  omega
 | n+1,k,hk,hn=>by
  unfold flagEnd
  by_cases h:isFlag (bAt s k)
  ·rw[if_pos h]
   have hlt:=flag_in s k h
   obtain⟨a1,a2,a3,a4⟩:=flagEnd_run s n (k+1) (by omega) (by omega)
   refine⟨by omega,a2,fun i h1 h2=>?_,a4⟩
   by_cases hi:i=k
   ·rw[hi];exact h
   ·exact a3 i (by omega) h2
  ·rw[if_neg h]
   exact⟨Nat.le_refl _,hk,fun i h1 h2=>by omega,h⟩
theorem digEnd_run(s:ByteArray):∀n k,k≤s.size→s.size-k≤n→Run 10 s k (digEnd s n k)
 | 0,k,hk,hn=>by
  refine⟨Nat.le_refl _,hk,fun i h1 h2=>by unfold digEnd at h2;omega,fun h=>?_⟩
  have:=h.1
  unfold digEnd at this
  omega
 | n+1,k,hk,hn=>by
  unfold digEnd
  by_cases h:k<s.size∧digN 99 (bAt s k)<10
  ·rw[if_pos h]
   obtain⟨a1,a2,a3,a4⟩:=digEnd_run s n (k+1) (by omega) (by omega)
   refine⟨by omega,a2,fun i h1 h2=>?_,a4⟩
   by_cases hi:i=k
   ·rw[hi];exact h
   ·exact a3 i (by omega) h2
  ·rw[if_neg h]
   exact⟨Nat.le_refl _,hk,fun i h1 h2=>by omega,h⟩
def fEnd(s:ByteArray)(k:Nat):Nat:=flagEnd s s.size k
def dEnd(s:ByteArray)(k:Nat):Nat:=digEnd s s.size k
theorem fEnd_run(s:ByteArray)(k:Nat)(hk:k≤s.size):FRun s k (fEnd s k):=flagEnd_run s s.size k hk (by omega)
theorem dEnd_run(s:ByteArray)(k:Nat)(hk:k≤s.size):Run 10 s k (dEnd s k):=digEnd_run s s.size k hk (by omega)
theorem fEnd_is(s:ByteArray)(k j:Nat)(h:FRun s k j):fEnd s k=j:=fRun_one s k _ _ (fEnd_run s k (by have:=h.1;have:=h.2.1;omega)) h
theorem dEnd_is(s:ByteArray)(k j:Nat)(h:Run 10 s k j):dEnd s k=j:=run_one 10 s k _ _ (dEnd_run s k (by have:=h.1;have:=h.2.1;omega)) h
inductive PlaceR where
 | bad:Nat→PlaceR
 | good:ByteArray→Nat→PlaceR
noncomputable def letterF(s:ByteArray)(ars:List ArgV)(left zero plus:Bool)(wd pr:Int)(j:Nat):PlaceR:=
 match ars with
 | []=>.bad j
 | a :: _=>@ite _ (Fits (bAt s j) pr a) (Classical.propDecidable _) (.good (padS left zero plus wd (bAt s j) (numT (bAt s j) pr a)) (j+1)) (.bad j)
noncomputable def placeF(s:ByteArray)(ars:List ArgV)(k:Nat):PlaceR:=
 if countR s (fEnd s k) (dEnd s (fEnd s k)) = -2 then .bad (fEnd s k)
 else if bAt s (dEnd s (fEnd s k))=46 then
  (if countR s (dEnd s (fEnd s k)+1) (dEnd s (dEnd s (fEnd s k)+1))<0 then .bad (dEnd s (fEnd s k)+1)
  else letterF s ars (hasF 45 s k (fEnd s k)) (hasF 48 s k (fEnd s k)) (hasF 43 s k (fEnd s k)) (countR s (fEnd s k) (dEnd s (fEnd s k))) (countR s (dEnd s (fEnd s k)+1) (dEnd s (dEnd s (fEnd s k)+1))) (dEnd s (dEnd s (fEnd s k)+1)))
 else letterF s ars (hasF 45 s k (fEnd s k)) (hasF 48 s k (fEnd s k)) (hasF 43 s k (fEnd s k)) (countR s (fEnd s k) (dEnd s (fEnd s k))) (-1) (dEnd s (fEnd s k))
inductive FmtR where
 | bad:Nat→FmtR
 | good:List UInt8→FmtR
noncomputable def fmtF(s:ByteArray):Nat→Nat→List ArgV→List UInt8→FmtR
 | 0,_,_,_=>.bad 0
 | n+1,k,ars,out=>
  if h:k<s.size then
   (if bAt s k≠37 then fmtF s n (k+1) ars (out++[s[k]])
   else if bAt s (k+1)=37 then fmtF s n (k+2) ars (out++[37])
   else match placeF s ars (k+1) with
    | .bad a=>.bad a
    | .good t k'=>fmtF s n k' ars.tail (out++t.data.toList))
  else if ars = [] then .good out else .bad s.size
noncomputable def fmtA(s:ByteArray)(ars:List ArgV):FmtR:=fmtF s (s.size+1) 0 ars []
def FmtS(s:ByteArray)(ars0:List ArgV)(k:Nat)(ars:List ArgV)(out:List UInt8):Prop:=∃n,s.size-k<n∧fmtF s n k ars out=fmtA s ars0
theorem FmtS.start(s:ByteArray)(ars:List ArgV):FmtS s ars 0 ars []:=⟨s.size+1,by omega,rfl⟩
theorem FmtS.done{s:ByteArray}{ars0:List ArgV}{k:Nat}{out:List UInt8}(h:FmtS s ars0 k [] out)(hk:¬k<s.size):fmtA s ars0=.good out:=by
 obtain⟨n,hn,e⟩:=h
 obtain⟨m,rfl⟩:∃m,n=m+1:=⟨n-1,by omega⟩
 rw[←e,fmtF,dif_neg hk,if_pos rfl]
theorem FmtS.left{s:ByteArray}{ars0 ars:List ArgV}{k:Nat}{out:List UInt8}(h:FmtS s ars0 k ars out)(hk:¬k<s.size)(ha:ars≠[]):fmtA s ars0=.bad s.size:=by
 obtain⟨n,hn,e⟩:=h
 obtain⟨m,rfl⟩:∃m,n=m+1:=⟨n-1,by omega⟩
 rw[←e,fmtF,dif_neg hk,if_neg ha]
theorem FmtS.byte{s:ByteArray}{ars0 ars:List ArgV}{k:Nat}{out:List UInt8}(h:FmtS s ars0 k ars out)(hk:k<s.size)(hb:bAt s k≠37):FmtS s ars0 (k+1) ars (out++[s[k]]):=by
 obtain⟨n,hn,e⟩:=h
 obtain⟨m,rfl⟩:∃m,n=m+1:=⟨n-1,by omega⟩
 rw[fmtF,dif_pos hk,if_pos hb]at e
 exact⟨m,by omega,e⟩
theorem FmtS.twice{s:ByteArray}{ars0 ars:List ArgV}{k:Nat}{out:List UInt8}(h:FmtS s ars0 k ars out)(hk:k<s.size)(hb:bAt s k=37)(hc:bAt s (k+1)=37):FmtS s ars0 (k+2) ars (out++[37]):=by
 obtain⟨n,hn,e⟩:=h
 obtain⟨m,rfl⟩:∃m,n=m+1:=⟨n-1,by omega⟩
 rw[fmtF,dif_pos hk,if_neg (fun q=>q hb),if_pos hc]at e
 have:k+1<s.size:=by
  by_cases h1:k+1<s.size
  ·exact h1
  ·rw[bAt_out s (k+1) h1]at hc;omega
 exact⟨m,by omega,e⟩
theorem FmtS.fault{s:ByteArray}{ars0 ars:List ArgV}{k a:Nat}{out:List UInt8}(h:FmtS s ars0 k ars out)(hk:k<s.size)(hb:bAt s k=37)(hc:bAt s (k+1)≠37)(hp:placeF s ars (k+1)=.bad a):fmtA s ars0=.bad a:=by
 obtain⟨n,hn,e⟩:=h
 obtain⟨m,rfl⟩:∃m,n=m+1:=⟨n-1,by omega⟩
 rw[fmtF,dif_pos hk,if_neg (fun q=>q hb),if_neg hc,hp]at e
 exact e.symm
theorem FmtS.place{s:ByteArray}{ars0 ars:List ArgV}{k k':Nat}{t:ByteArray}{out:List UInt8}(h:FmtS s ars0 k ars out)(hk:k<s.size)(hb:bAt s k=37)(hc:bAt s (k+1)≠37)(hp:placeF s ars (k+1)=.good t k')(hlt:k<k'):FmtS s ars0 k' ars.tail (out++t.data.toList):=by
 obtain⟨n,hn,e⟩:=h
 obtain⟨m,rfl⟩:∃m,n=m+1:=⟨n-1,by omega⟩
 rw[fmtF,dif_pos hk,if_neg (fun q=>q hb),if_neg hc,hp]at e
 exact⟨m,by omega,e⟩
end Go.Proofs.YtenbfookfcmpoaaGreatDoor
namespace Go.Proofs.YtenbfookfcmpoaaGreatDoor
open Go.ChangeShapes Go.WideShapes Go.RowKit
def PB(w:World)(P:Nat)(l z q:Bool)(wd pr:Int)(r:Bool)(n:Int)(f:Nat):Prop:=w.heap[P]? = some (.cells #[.bool l,.bool z,.bool q,.int .i64 wd,.int .i64 pr,.bool r,.int .i64 n,.float .f64 f] 196 (0,0))
section
variable {w w':World} {P:Nat} {l z q r:Bool} {wd pr n:Int} {f:Nat}
theorem PB.c0(h:PB w P l z q wd pr r n f):w.cell? ⟨P,0,none⟩=some (.bool l):=by rw[cell_of_heap h];rfl
theorem PB.c1(h:PB w P l z q wd pr r n f):w.cell? ⟨P,1,none⟩=some (.bool z):=by rw[cell_of_heap h];rfl
theorem PB.c2(h:PB w P l z q wd pr r n f):w.cell? ⟨P,2,none⟩=some (.bool q):=by rw[cell_of_heap h];rfl
theorem PB.c3(h:PB w P l z q wd pr r n f):w.cell? ⟨P,3,none⟩=some (.int .i64 wd):=by rw[cell_of_heap h];rfl
theorem PB.c4(h:PB w P l z q wd pr r n f):w.cell? ⟨P,4,none⟩=some (.int .i64 pr):=by rw[cell_of_heap h];rfl
theorem PB.c5(h:PB w P l z q wd pr r n f):w.cell? ⟨P,5,none⟩=some (.bool r):=by rw[cell_of_heap h];rfl
theorem PB.c6(h:PB w P l z q wd pr r n f):w.cell? ⟨P,6,none⟩=some (.int .i64 n):=by rw[cell_of_heap h];rfl
theorem PB.c7(h:PB w P l z q wd pr r n f):w.cell? ⟨P,7,none⟩=some (.float .f64 f):=by rw[cell_of_heap h];rfl
theorem PB.froz(h:PB w P l z q wd pr r n f)(o:Nat):w.frozen? ⟨P,o,none⟩=false:=frozen_of_heap h o
theorem PB.lt(h:PB w P l z q wd pr r n f):P<w.heap.size:=(Array.getElem?_eq_some_iff.1 h).1
theorem PB.other{B:Nat}(h:PB w P l z q wd pr r n f)(hm:Mod B w w')(hB:P≠B):PB w' P l z q wd pr r n f:=(hm.2.2.2.2 P h.lt hB).trans h
theorem PB.below(h:PB w P l z q wd pr r n f)(hm:Below w.heap.size w w'):PB w' P l z q wd pr r n f:=(hm.block P h.lt).trans h
theorem PB.set0(h:PB w P l z q wd pr r n f)(y:Bool):PB (w.setCell ⟨P,0,none⟩ (.bool y)) P y z q wd pr r n f:=by
 unfold PB
 rw[setCell_eq_setRow w P 0 _ _ (0,0) _ h]
 exact setRow_heap w P _ _ _ (0,0) h
theorem PB.set1(h:PB w P l z q wd pr r n f)(y:Bool):PB (w.setCell ⟨P,1,none⟩ (.bool y)) P l y q wd pr r n f:=by
 unfold PB
 rw[setCell_eq_setRow w P 1 _ _ (0,0) _ h]
 exact setRow_heap w P _ _ _ (0,0) h
theorem PB.set2(h:PB w P l z q wd pr r n f)(y:Bool):PB (w.setCell ⟨P,2,none⟩ (.bool y)) P l z y wd pr r n f:=by
 unfold PB
 rw[setCell_eq_setRow w P 2 _ _ (0,0) _ h]
 exact setRow_heap w P _ _ _ (0,0) h
theorem PB.set3(h:PB w P l z q wd pr r n f)(y:Int):PB (w.setCell ⟨P,3,none⟩ (.int .i64 y)) P l z q y pr r n f:=by
 unfold PB
 rw[setCell_eq_setRow w P 3 _ _ (0,0) _ h]
 exact setRow_heap w P _ _ _ (0,0) h
theorem PB.set4(h:PB w P l z q wd pr r n f)(y:Int):PB (w.setCell ⟨P,4,none⟩ (.int .i64 y)) P l z q wd y r n f:=by
 unfold PB
 rw[setCell_eq_setRow w P 4 _ _ (0,0) _ h]
 exact setRow_heap w P _ _ _ (0,0) h
end
set_option maxHeartbeats 400000 in
theorem take_yes(P:Nat)(l z q:Bool)(wd pr:Int)(r:Bool)(n:Int)(f:Nat)(c:Int)(w:World)(h:PB w P l z q wd pr r n f)(hc:isFlag c) :
  Calls Tryz.prog 120 #[.pointer (some ⟨P,0,none⟩),.int .u8 c] w fun e w'=>e=.returned (.bool true)∧PB w' P (l || decide (c=45)) (z || decide (c=48)) (q || decide (c=43)) wd pr r n f∧Mod P w w':=by
 have h0:=h.c0
 have h1:=h.c1
 have h2:=h.c2
 have f0:=h.froz 0
 have f1:=h.froz 1
 have f2:=h.froz 2
 have H:Hid (PB w P l z q wd pr r n f):=h
 clear h
 rcases hc with rfl|rfl|rfl
 ·go_enter Tryz.func120,Tryz.ntmps120
  go_wp2
  try rw[Exit.noGoto_ret]
  go_ret
  refine⟨rfl,?_,(Mod.refl P w).setCell _ _⟩
  have:=H.out.set0 true
  simpa using this
 ·go_enter Tryz.func120,Tryz.ntmps120
  go_wp2
  try rw[Exit.noGoto_ret]
  go_ret
  refine⟨rfl,?_,(Mod.refl P w).setCell _ _⟩
  have:=H.out.set1 true
  simpa using this
 ·go_enter Tryz.func120,Tryz.ntmps120
  go_wp2
  try rw[Exit.noGoto_ret]
  go_ret
  refine⟨rfl,?_,(Mod.refl P w).setCell _ _⟩
  have:=H.out.set2 true
  simpa using this
set_option maxHeartbeats 400000 in
theorem take_no(P:Nat)(c:Int)(w:World)(hc:¬isFlag c) :
  Calls Tryz.prog 120 #[.pointer (some ⟨P,0,none⟩),.int .u8 c] w fun e w'=>e=.returned (.bool false)∧w'=w:=by
 have h1:(c==45)=false:=beq_eq_false_iff_ne.2 (fun e=>hc (.inl e))
 have h2:(c==48)=false:=beq_eq_false_iff_ne.2 (fun e=>hc (.inr (.inl e)))
 have h3:(c==43)=false:=beq_eq_false_iff_ne.2 (fun e=>hc (.inr (.inr e)))
 clear hc
 go_enter Tryz.func120,Tryz.ntmps120
 go_wp2
 try rw[Exit.noGoto_ret]
 go_ret
 exact⟨rfl,rfl⟩
section
variable {P:Program} {ops:Array Oper} {Q:Exit→Act→World→Prop} {a:Act} {w:World} {rest:List Oper} {o:Oper}
theorem wpList_val(hg:o.guard=none)(v:Value)(w':World)(hrun:(execOp a.eval o).run P w=.ok (.value v) w')(h:wpList P ops Q rest (a.put o.dst v) w'):wpList P ops Q (o :: rest) a w:=
 wpList_plain hg fun K hK=>by unfold Oper.wp;rw[hrun];exact hK _ _ h
theorem wpList_unit(hg:o.guard=none)(w':World)(hrun:(execOp a.eval o).run P w=.ok .skip w')(h:wpList P ops Q rest (a.put o.dst undef) w'):wpList P ops Q (o :: rest) a w:=
 wpList_plain hg fun K hK=>by unfold Oper.wp;rw[hrun];exact hK _ _ h
theorem exec_load(t:TypeId)(x:Operand)(ho:o.op=.load t x)(p v:Value)(hx:a.eval x=p)(hrun:(Instr.loadAt t p).run P w=.ok v w):(execOp a.eval o).run P w=.ok (.value v) w:=by
 unfold execOp
 simp only[ho,hx,Sem.run_bind,hrun,Result.andThen,Sem.run_pure]
theorem exec_build(t:TypeId)(xs:Array (Nat × Operand))(ho:o.op=.build t xs)(ys:Array (Nat × Value))(v:Value)(hx:(xs.map fun(i,x)=>(i,a.eval x))=ys)(hrun:(Instr.build t ys).run P w=.ok v w):(execOp a.eval o).run P w=.ok (.value v) w:=by
 unfold execOp
 simp only[ho,hx,Sem.run_bind,hrun,Result.andThen,Sem.run_pure]
theorem exec_box(t:TypeId)(x:Operand)(ho:o.op=.box t x)(y v:Value)(w':World)(hx:a.eval x=y)(hrun:(Instr.box t y).run P w=.ok v w'):(execOp a.eval o).run P w=.ok (.value v) w':=by
 unfold execOp
 simp only[ho,hx,Sem.run_bind,hrun,Result.andThen,Sem.run_pure]
theorem exec_func(fn:Fn)(xs ys:Array Operand)(ho:o.op=.makeFunc fn xs ys)(us vs:Array Value)(v:Value)(hx:xs.map a.eval=us)(hy:ys.map a.eval=vs)(hrun:(Instr.makeFunc fn us vs).run P w=.ok v w):(execOp a.eval o).run P w=.ok (.value v) w:=by
 unfold execOp
 simp only[ho,hx,hy,Sem.run_bind,hrun,Result.andThen,Sem.run_pure]
theorem exec_alloc(t:TypeId)(ho:o.op=.alloc t)(v:Value)(w':World)(hrun:(Instr.alloc t true (.tuple #[])).run P w=.ok v w'):(execOp a.eval o).run P w=.ok (.value v) w':=by
 unfold execOp
 simp only[ho,Sem.run_bind,hrun,Result.andThen,Sem.run_pure]
theorem exec_store(t:TypeId)(x y:Operand)(ho:o.op=.store t x y)(p v:Value)(w':World)(hx:a.eval x=p)(hy:a.eval y=v)(hrun:(Instr.storeAt t p v).run P w=.ok () w'):(execOp a.eval o).run P w=.ok .skip w':=by
 unfold execOp
 simp only[ho,hx,hy,Sem.run_bind,hrun,Result.andThen,Sem.run_pure]
end
theorem run_store_func{P:Program}{w:World}{a:Addr}{m:Mode}(k:Fn)(xs ys:Array Value):(store a (.func k xs ys) m).run P w=stored P w a (.func k xs ys) m:=run_store P w a _ m rfl
theorem run_store_nilf{P:Program}{w:World}{a:Addr}{m:Mode}:(store a .nilFunc m).run P w=stored P w a .nilFunc m:=run_store P w a _ m rfl
def formA(pv:Value)(c:Int)(r s:Bool)(m:Int)(k:Nat):Array Value:=#[.int .u8 c,.bool r,.bool s,.int .i64 m,.func (.func k) #[pv] #[]]
theorem built_form(pv:Value)(c:Int)(r s:Bool)(m:Int)(k:Nat)(W:World):(Instr.build 234 #[(0,.int .u8 c),(1,.bool r),(2,.bool s),(3,.int .i64 m),(4,.func (.func k) #[pv] #[])]).run Tryz.prog W=.ok (.agg (formA pv c r s m k)) W:=by kernel_rfl
def tableA(pv:Value):Array Value:=formA pv 100 false true (-1) 153++formA pv 120 false false (-1) 154++formA pv 101 true true 399 155++formA pv 102 true true 400 156++formA pv 103 true true (-1) 157++formA pv 104 true true (-1) 158
theorem built_table(pv:Value)(W:World):(Instr.build 250 #[(0,.agg (formA pv 100 false true (-1) 153)),(1,.agg (formA pv 120 false false (-1) 154)),(2,.agg (formA pv 101 true true 399 155)),(3,.agg (formA pv 102 true true 400 156)),(4,.agg (formA pv 103 true true (-1) 157)),(5,.agg (formA pv 104 true true (-1) 158))]).run Tryz.prog W=.ok (.agg (tableA pv)) W:=by kernel_rfl
theorem made_func(k:Nat)(pv:Value)(W:World):(Instr.makeFunc (.func k) #[pv] #[]).run Tryz.prog W=.ok (.func (.func k) #[pv] #[]) W:=by simp[Instr.makeFunc,go_sem]
def zeroT:Array Value:=#[.int .u8 0,.bool false,.bool false,.int .i64 0,.nilFunc,.int .u8 0,.bool false,.bool false,.int .i64 0,.nilFunc,.int .u8 0,.bool false,.bool false,.int .i64 0,.nilFunc,.int .u8 0,.bool false,.bool false,.int .i64 0,.nilFunc,.int .u8 0,.bool false,.bool false,.int .i64 0,.nilFunc,.int .u8 0,.bool false,.bool false,.int .i64 0,.nilFunc]
theorem alloc_form(W:World):(Instr.alloc 234 true (.tuple #[])).run Tryz.prog W=.ok (.pointer (some ⟨W.heap.size,0,none⟩)) (W.alloc (.cells #[.int .u8 0,.bool false,.bool false,.int .i64 0,.nilFunc] 234)):=by simp[go_sem]
theorem run_box_place(pv:Value)(cs:Array Value)(hpv:pv=.agg cs)(W:World):(Instr.box 196 pv).run Tryz.prog W=.ok (.pointer (some ⟨W.heap.size,0,none⟩)) (W.alloc (.cells cs 196)):=by
 subst hpv
 simp[go_sem,Instr.box]
theorem alloc_table(W:World):(Instr.alloc 250 true (.tuple #[])).run Tryz.prog W=.ok (.pointer (some ⟨W.heap.size,0,none⟩)) (W.alloc (.cells zeroT 250)):=by simp[go_sem,zeroT]
theorem store_table(pv:Value)(W:World):(Instr.storeAt 250 (.pointer (some ⟨W.heap.size,0,none⟩)) (.agg (tableA pv))).run Tryz.prog (W.alloc (.cells zeroT 250))=.ok () (W.alloc (.cells (tableA pv) 250)):=
 run_storeAt_new W _ _ _ (by kernel_rfl) (by kernel_rfl) (by kernel_rfl)
theorem load_table(pv:Value)(W:World):(Instr.loadAt 250 (.pointer (some ⟨W.heap.size,0,none⟩))).run Tryz.prog (W.alloc (.cells (tableA pv) 250))=.ok (.agg (tableA pv)) (W.alloc (.cells (tableA pv) 250)):=
 run_loadAt_new W _ _ 6 234 Tryz.underlying250 (by kernel_rfl)
attribute [local go_sem] run_store_func run_store_nilf
def ltr:Nat→Int
 | 0=>100|1=>120|2=>101|3=>102|4=>103|_=>104
def rowA(pv:Value):Nat→Array Value
 | 0=>formA pv 100 false true (-1) 153|1=>formA pv 120 false false (-1) 154|2=>formA pv 101 true true 399 155|3=>formA pv 102 true true 400 156|4=>formA pv 103 true true (-1) 157|_=>formA pv 104 true true (-1) 158
theorem idx0(pv:Value)(W:World):(Instr.index 250 (.agg (tableA pv)) (.int .i64 0)).run Tryz.prog W=.ok (.agg #[.int .u8 100,.bool false,.bool true,.int .i64 (-1),.func (.func 153) #[pv] #[]]) W:=by kernel_rfl
theorem idx1(pv:Value)(W:World):(Instr.index 250 (.agg (tableA pv)) (.int .i64 1)).run Tryz.prog W=.ok (.agg #[.int .u8 120,.bool false,.bool false,.int .i64 (-1),.func (.func 154) #[pv] #[]]) W:=by kernel_rfl
theorem idx2(pv:Value)(W:World):(Instr.index 250 (.agg (tableA pv)) (.int .i64 2)).run Tryz.prog W=.ok (.agg #[.int .u8 101,.bool true,.bool true,.int .i64 399,.func (.func 155) #[pv] #[]]) W:=by kernel_rfl
theorem idx3(pv:Value)(W:World):(Instr.index 250 (.agg (tableA pv)) (.int .i64 3)).run Tryz.prog W=.ok (.agg #[.int .u8 102,.bool true,.bool true,.int .i64 400,.func (.func 156) #[pv] #[]]) W:=by kernel_rfl
theorem idx4(pv:Value)(W:World):(Instr.index 250 (.agg (tableA pv)) (.int .i64 4)).run Tryz.prog W=.ok (.agg #[.int .u8 103,.bool true,.bool true,.int .i64 (-1),.func (.func 157) #[pv] #[]]) W:=by kernel_rfl
theorem idx5(pv:Value)(W:World):(Instr.index 250 (.agg (tableA pv)) (.int .i64 5)).run Tryz.prog W=.ok (.agg #[.int .u8 104,.bool true,.bool true,.int .i64 (-1),.func (.func 158) #[pv] #[]]) W:=by kernel_rfl
def FormR(pv:Value)(c:Int)(row:Array Value)(ok:Bool):Prop:=
 (∃k,k<6∧c=ltr k∧row=rowA pv k∧ok=true)∨((∀k,k<6→ltr k≠c)∧row=#[.int .u8 0,.bool false,.bool false,.int .i64 0,.nilFunc]∧ok=false)
def FrS(w:World)(R:Nat)(W:World):Prop:=Below w.heap.size w W∧R<W.heap.size∧w.heap.size≤R∧W.heap[R]? = some (.cells #[.int .u8 0,.bool false,.bool false,.int .i64 0,.nilFunc] 234 (0,0))
theorem FrS.alloc{w W:World}{R:Nat}(h:FrS w R W)(ob:Obj):FrS w R (W.alloc ob):=by
 obtain⟨h1,h2,h3,h4⟩:=h
 refine⟨h1.alloc h1.size _,?_,h3,(Below.heap_alloc _ _ _ h2).trans h4⟩
 have:(W.alloc ob).heap.size=W.heap.size+1:=by simp
 omega
theorem FrS.put{w W:World}{R:Nat}(h:FrS w R W)(a b c d e:Value) :
  (((((W.setCell ⟨R,0,none⟩ a).setCell ⟨R,1,none⟩ b).setCell ⟨R,2,none⟩ c).setCell ⟨R,3,none⟩ d).setCell ⟨R,4,none⟩ e).heap[R]? = some (.cells #[a,b,c,d,e] 234 (0,0))∧Below w.heap.size w (((((W.setCell ⟨R,0,none⟩ a).setCell ⟨R,1,none⟩ b).setCell ⟨R,2,none⟩ c).setCell ⟨R,3,none⟩ d).setCell ⟨R,4,none⟩ e):=by
 obtain⟨h1,h2,h3,h4⟩:=h
 refine⟨?_,((((h1.setCell (p:=⟨R,0,none⟩) h3 _).setCell (p:=⟨R,1,none⟩) h3 _).setCell (p:=⟨R,2,none⟩) h3 _).setCell (p:=⟨R,3,none⟩) h3 _).setCell (p:=⟨R,4,none⟩) h3 _⟩
 have g0:(W.setCell ⟨R,0,none⟩ a).heap[R]? = some (.cells #[a,.bool false,.bool false,.int .i64 0,.nilFunc] 234 (0,0)):=by rw[setCell_eq_setRow W R 0 _ _ (0,0) _ h4];exact setRow_heap W R _ _ _ (0,0) h4
 have g1:=setRow_heap _ R _ (#[a,b,.bool false,.int .i64 0,.nilFunc]) _ (0,0) g0
 have e1:=setCell_eq_setRow _ R 1 _ _ (0,0) b g0
 rw[show(#[a,.bool false,.bool false,.int .i64 0,.nilFunc]:Array Value).setIfInBounds 1 b=#[a,b,.bool false,.int .i64 0,.nilFunc] from rfl]at e1
 rw[←e1]at g1
 have g2:=setRow_heap _ R _ (#[a,b,c,.int .i64 0,.nilFunc]) _ (0,0) g1
 have e2:=setCell_eq_setRow _ R 2 _ _ (0,0) c g1
 rw[show(#[a,b,.bool false,.int .i64 0,.nilFunc]:Array Value).setIfInBounds 2 c=#[a,b,c,.int .i64 0,.nilFunc] from rfl]at e2
 rw[←e2]at g2
 have g3:=setRow_heap _ R _ (#[a,b,c,d,.nilFunc]) _ (0,0) g2
 have e3:=setCell_eq_setRow _ R 3 _ _ (0,0) d g2
 rw[show(#[a,b,c,.int .i64 0,.nilFunc]:Array Value).setIfInBounds 3 d=#[a,b,c,d,.nilFunc] from rfl]at e3
 rw[←e3]at g3
 have g4:=setRow_heap _ R _ (#[a,b,c,d,e]) _ (0,0) g3
 have e4:=setCell_eq_setRow _ R 4 _ _ (0,0) e g3
 rw[show(#[a,b,c,d,.nilFunc]:Array Value).setIfInBounds 4 e=#[a,b,c,d,e] from rfl]at e4
 rw[←e4]at g4
 exact g4
set_option maxHeartbeats 4000000 in
set_option maxRecDepth 100000 in
theorem formOf_core(pv:Value)(c:Int)(w W:World)
  (hbox:(Instr.box 196 pv).run Tryz.prog w=.ok (.pointer (some ⟨w.heap.size,0,none⟩)) W) (hbW:Below w.heap.size w W)
  (hl:∀ob,(Instr.loadAt 196 (.pointer (some ⟨w.heap.size,0,none⟩))).run Tryz.prog (W.alloc ob)=.ok pv (W.alloc ob)) :
  Calls Tryz.prog 143 #[pv,.int .u8 c] w fun e w'=>∃row ok,FormR pv c row ok∧e=.returned (.tuple #[.agg row,.bool ok])∧Below w.heap.size w w':=by
 go_enter Tryz.func143,Tryz.ntmps143
 refine wp_seq_k (fun K hK=>?_)
 refine wp_region_lit ?_
 refine wpList_val rfl _ _ (exec_box _ _ rfl _ _ _ rfl hbox) ?_
 simp only[Act.put,List.setIfInBounds_toArray,List.set_cons_succ,List.set_cons_zero]
 refine wpList_val rfl _ _ (exec_alloc _ rfl _ _ (alloc_form _)) ?_
 simp only[Act.put,List.setIfInBounds_toArray,List.set_cons_succ,List.set_cons_zero]
 refine wpList_val rfl (.bool false) _ rfl ?_
 simp only[Act.put,List.setIfInBounds_toArray,List.set_cons_succ,List.set_cons_zero]
 refine wpList_nil (hK _ _ ?_)
 clear hK K
 have hl':=hl (.cells #[.int .u8 0,.bool false,.bool false,.int .i64 0,.nilFunc] 234)
 obtain⟨W1,hW1⟩:∃W1,W.alloc (.cells #[.int .u8 0,.bool false,.bool false,.int .i64 0,.nilFunc] 234)=W1:=⟨_,rfl⟩
 rw[hW1]at hl' ⊢
 refine wp_seq_k (fun K hK=>?_)
 refine wp_region_lit ?_
 refine wpList_val rfl _ _ (exec_load _ _ rfl _ _ rfl hl') ?_
 simp only[Act.put,List.setIfInBounds_toArray,List.set_cons_succ,List.set_cons_zero]
 refine wpList_val rfl _ _ (exec_func _ _ _ rfl #[pv] #[] _ (by kernel_rfl) (by kernel_rfl) (made_func _ pv _)) ?_
 simp only[Act.put,List.setIfInBounds_toArray,List.set_cons_succ,List.set_cons_zero]
 refine wpList_val rfl _ _ (exec_build _ _ rfl #[(0,.int .u8 100),(1,.bool false),(2,.bool true),(3,.int .i64 (-1)),(4,.func (.func 153) #[pv] #[])] _ (by kernel_rfl) (built_form pv _ _ _ _ _ _)) ?_
 simp only[Act.put,List.setIfInBounds_toArray,List.set_cons_succ,List.set_cons_zero]
 refine wpList_val rfl _ _ (exec_load _ _ rfl _ _ rfl hl') ?_
 simp only[Act.put,List.setIfInBounds_toArray,List.set_cons_succ,List.set_cons_zero]
 refine wpList_val rfl _ _ (exec_func _ _ _ rfl #[pv] #[] _ (by kernel_rfl) (by kernel_rfl) (made_func _ pv _)) ?_
 simp only[Act.put,List.setIfInBounds_toArray,List.set_cons_succ,List.set_cons_zero]
 refine wpList_val rfl _ _ (exec_build _ _ rfl #[(0,.int .u8 120),(1,.bool false),(2,.bool false),(3,.int .i64 (-1)),(4,.func (.func 154) #[pv] #[])] _ (by kernel_rfl) (built_form pv _ _ _ _ _ _)) ?_
 simp only[Act.put,List.setIfInBounds_toArray,List.set_cons_succ,List.set_cons_zero]
 refine wpList_val rfl _ _ (exec_load _ _ rfl _ _ rfl hl') ?_
 simp only[Act.put,List.setIfInBounds_toArray,List.set_cons_succ,List.set_cons_zero]
 refine wpList_val rfl _ _ (exec_func _ _ _ rfl #[pv] #[] _ (by kernel_rfl) (by kernel_rfl) (made_func _ pv _)) ?_
 simp only[Act.put,List.setIfInBounds_toArray,List.set_cons_succ,List.set_cons_zero]
 refine wpList_val rfl _ _ (exec_build _ _ rfl #[(0,.int .u8 101),(1,.bool true),(2,.bool true),(3,.int .i64 399),(4,.func (.func 155) #[pv] #[])] _ (by kernel_rfl) (built_form pv _ _ _ _ _ _)) ?_
 simp only[Act.put,List.setIfInBounds_toArray,List.set_cons_succ,List.set_cons_zero]
 refine wpList_val rfl _ _ (exec_load _ _ rfl _ _ rfl hl') ?_
 simp only[Act.put,List.setIfInBounds_toArray,List.set_cons_succ,List.set_cons_zero]
 refine wpList_val rfl _ _ (exec_func _ _ _ rfl #[pv] #[] _ (by kernel_rfl) (by kernel_rfl) (made_func _ pv _)) ?_
 simp only[Act.put,List.setIfInBounds_toArray,List.set_cons_succ,List.set_cons_zero]
 refine wpList_val rfl _ _ (exec_build _ _ rfl #[(0,.int .u8 102),(1,.bool true),(2,.bool true),(3,.int .i64 400),(4,.func (.func 156) #[pv] #[])] _ (by kernel_rfl) (built_form pv _ _ _ _ _ _)) ?_
 simp only[Act.put,List.setIfInBounds_toArray,List.set_cons_succ,List.set_cons_zero]
 refine wpList_val rfl _ _ (exec_load _ _ rfl _ _ rfl hl') ?_
 simp only[Act.put,List.setIfInBounds_toArray,List.set_cons_succ,List.set_cons_zero]
 refine wpList_val rfl _ _ (exec_func _ _ _ rfl #[pv] #[] _ (by kernel_rfl) (by kernel_rfl) (made_func _ pv _)) ?_
 simp only[Act.put,List.setIfInBounds_toArray,List.set_cons_succ,List.set_cons_zero]
 refine wpList_val rfl _ _ (exec_build _ _ rfl #[(0,.int .u8 103),(1,.bool true),(2,.bool true),(3,.int .i64 (-1)),(4,.func (.func 157) #[pv] #[])] _ (by kernel_rfl) (built_form pv _ _ _ _ _ _)) ?_
 simp only[Act.put,List.setIfInBounds_toArray,List.set_cons_succ,List.set_cons_zero]
 refine wpList_val rfl _ _ (exec_load _ _ rfl _ _ rfl hl') ?_
 simp only[Act.put,List.setIfInBounds_toArray,List.set_cons_succ,List.set_cons_zero]
 refine wpList_val rfl _ _ (exec_func _ _ _ rfl #[pv] #[] _ (by kernel_rfl) (by kernel_rfl) (made_func _ pv _)) ?_
 simp only[Act.put,List.setIfInBounds_toArray,List.set_cons_succ,List.set_cons_zero]
 refine wpList_val rfl _ _ (exec_build _ _ rfl #[(0,.int .u8 104),(1,.bool true),(2,.bool true),(3,.int .i64 (-1)),(4,.func (.func 158) #[pv] #[])] _ (by kernel_rfl) (built_form pv _ _ _ _ _ _)) ?_
 simp only[Act.put,List.setIfInBounds_toArray,List.set_cons_succ,List.set_cons_zero]
 refine wpList_val rfl _ _ (exec_build _ _ rfl #[(0,.agg (formA pv 100 false true (-1) 153)),(1,.agg (formA pv 120 false false (-1) 154)),(2,.agg (formA pv 101 true true 399 155)),(3,.agg (formA pv 102 true true 400 156)),(4,.agg (formA pv 103 true true (-1) 157)),(5,.agg (formA pv 104 true true (-1) 158))] _ (by kernel_rfl) (built_table pv _)) ?_
 simp only[Act.put,List.setIfInBounds_toArray,List.set_cons_succ,List.set_cons_zero]
 refine wpList_val rfl _ _ (exec_alloc _ rfl _ _ (alloc_table _)) ?_
 simp only[Act.put,List.setIfInBounds_toArray,List.set_cons_succ,List.set_cons_zero]
 refine wpList_unit rfl _ (exec_store _ _ _ rfl (.pointer (some ⟨W1.heap.size,0,none⟩)) (.agg (tableA pv)) _ rfl rfl (store_table pv W1)) ?_
 simp only[Act.put]
 refine wpList_nil (hK _ _ ?_)
 clear hK K
 refine wp_seq_k (fun K hK=>?_)
 refine wp_seq_k (fun K2 hK2=>?_)
 refine wp_region_lit ?_
 refine wpList_val rfl _ _ (exec_load _ _ rfl (.pointer (some ⟨W1.heap.size,0,none⟩)) (.agg (tableA pv)) rfl (load_table pv W1)) ?_
 simp only[Act.put,List.setIfInBounds_toArray,List.set_cons_succ,List.set_cons_zero]
 refine wpList_val rfl (.int .i64 0) _ rfl ?_
 simp only[Act.put,List.setIfInBounds_toArray,List.set_cons_succ,List.set_cons_zero]
 refine wpList_nil (hK2 _ _ ?_)
 clear hK2 K2
 have HB:Hid (Below w.heap.size w W1):=by show Below _ _ _;rw[←hW1];exact hbW.alloc hbW.size _
 obtain⟨W2,hW2⟩:∃W2,W1.alloc (.cells (tableA pv) 250)=W2:=⟨_,rfl⟩
 obtain⟨R,hR⟩:∃R,W.heap.size=R:=⟨_,rfl⟩
 have HB2:Hid (FrS w R W2):=by
  have hb:=HB.out
  rw[←hW2,←hR]
  refine FrS.alloc ⟨hb,?_,hbW.size,?_⟩ _
  ·rw[←hW1];simp
  ·rw[←hW1];exact heap_alloc_last W _
 obtain⟨TB,hTB⟩:∃TB,Value.agg (tableA pv)=TB:=⟨_,rfl⟩
 have hi0:=fun(W:World)=>idx0 pv W
 have hi1:=fun(W:World)=>idx1 pv W
 have hi2:=fun(W:World)=>idx2 pv W
 have hi3:=fun(W:World)=>idx3 pv W
 have hi4:=fun(W:World)=>idx4 pv W
 have hi5:=fun(W:World)=>idx5 pv W
 rw[hTB]at hi0 hi1 hi2 hi3 hi4 hi5
 rw[hW2,hR,hTB]
 clear hl hl' hbox hbW hW1 hW2 hR hTB HB
 go_wp2_with fail
 go_loopw [29] (fun v29 wl=>∃i:Nat,i≤6∧v29=.int .i64 (i:Int)∧Hid (∀j,j<i→ltr j≠c)∧Hid (FrS w R wl)) (fun v29 _=>6-(intOf v29).toNat)
 case atStart=>exact⟨0,by omega,rfl,fun j hj=>by omega,HB2⟩
 case round=>
  obtain⟨i,hi,rfl,HI,HF⟩:=hrel
  have hRlt:R<wr.heap.size:=HF.out.2.1
  have hRne:R≠wr.heap.size:=by omega
  have hRn2:wr.heap.size≠R:=by omega
  have c0:wr.cell? ⟨R,0,none⟩=some (.int .u8 0):=by rw[cell_of_heap HF.out.2.2.2];rfl
  have c1:wr.cell? ⟨R,1,none⟩=some (.bool false):=by rw[cell_of_heap HF.out.2.2.2];rfl
  have c2:wr.cell? ⟨R,2,none⟩=some (.bool false):=by rw[cell_of_heap HF.out.2.2.2];rfl
  have c3:wr.cell? ⟨R,3,none⟩=some (.int .i64 0):=by rw[cell_of_heap HF.out.2.2.2];rfl
  have c4:wr.cell? ⟨R,4,none⟩=some .nilFunc:=by rw[cell_of_heap HF.out.2.2.2];rfl
  have f0:wr.frozen? ⟨R,0,none⟩=false:=frozen_of_heap HF.out.2.2.2 0
  have f1:wr.frozen? ⟨R,1,none⟩=false:=frozen_of_heap HF.out.2.2.2 1
  have f2:wr.frozen? ⟨R,2,none⟩=false:=frozen_of_heap HF.out.2.2.2 2
  have f3:wr.frozen? ⟨R,3,none⟩=false:=frozen_of_heap HF.out.2.2.2 3
  have f4:wr.frozen? ⟨R,4,none⟩=false:=frozen_of_heap HF.out.2.2.2 4
  rcases(by omega:i=0∨i=1∨i=2∨i=3∨i=4∨i=5∨i=6) with rfl|rfl|rfl|rfl|rfl|rfl|rfl
  ·by_cases hc:(100:Int)=c
   ·subst hc
    go_wp2_with fail
    obtain⟨hp,hb⟩:=FrS.put HF.out (.int .u8 100) (.bool false) (.bool true) (.int .i64 (-1)) (.func (.func 153) #[pv] #[])
    have hlt:=(Array.getElem?_eq_some_iff.1 hp).1
    have hp2:=(Below.heap_alloc _ (.cells #[.int .u8 100,.bool false,.bool true,.int .i64 (-1),.func (.func 153) #[pv] #[]] 234) _ hlt).trans hp
    have hb2:=hb.alloc hb.size (.cells #[.int .u8 100,.bool false,.bool true,.int .i64 (-1),.func (.func 153) #[pv] #[]] 234)
    generalize (World.alloc _ _)=X at hp2 hb2 ⊢
    have e0:X.cell? ⟨R,0,none⟩=some (.int .u8 100):=by rw[cell_of_heap hp2];rfl
    have e1:X.cell? ⟨R,1,none⟩=some (.bool false):=by rw[cell_of_heap hp2];rfl
    have e2:X.cell? ⟨R,2,none⟩=some (.bool true):=by rw[cell_of_heap hp2];rfl
    have e3:X.cell? ⟨R,3,none⟩=some (.int .i64 (-1)):=by rw[cell_of_heap hp2];rfl
    have e4:X.cell? ⟨R,4,none⟩=some (.func (.func 153) #[pv] #[]):=by rw[cell_of_heap hp2];rfl
    exact bodyPost_ret (v:=.tuple #[.agg #[.int .u8 100,.bool false,.bool true,.int .i64 (-1),.func (.func 153) #[pv] #[]],.bool true]) (by simp[results,Tryz.results143,go_sem,e0,e1,e2,e3,e4]) rfl ⟨_,true,.inl ⟨0,by omega,rfl,rfl,rfl⟩,rfl,hb2⟩
   ·have hcb:((100:Int)==c)=false:=beq_eq_false_iff_ne.2 hc
    go_wp2_with fail
    refine⟨⟨0+1,by omega,rfl,?_,?_⟩,by simp only[intOf];omega⟩
    ·intro j hj
     by_cases e:j=0
     ·subst e;exact hc
     ·exact HI.out j (by omega)
    ·exact FrS.alloc HF.out _
  ·by_cases hc:(120:Int)=c
   ·subst hc
    go_wp2_with fail
    obtain⟨hp,hb⟩:=FrS.put HF.out (.int .u8 120) (.bool false) (.bool false) (.int .i64 (-1)) (.func (.func 154) #[pv] #[])
    have hlt:=(Array.getElem?_eq_some_iff.1 hp).1
    have hp2:=(Below.heap_alloc _ (.cells #[.int .u8 120,.bool false,.bool false,.int .i64 (-1),.func (.func 154) #[pv] #[]] 234) _ hlt).trans hp
    have hb2:=hb.alloc hb.size (.cells #[.int .u8 120,.bool false,.bool false,.int .i64 (-1),.func (.func 154) #[pv] #[]] 234)
    generalize (World.alloc _ _)=X at hp2 hb2 ⊢
    have e0:X.cell? ⟨R,0,none⟩=some (.int .u8 120):=by rw[cell_of_heap hp2];rfl
    have e1:X.cell? ⟨R,1,none⟩=some (.bool false):=by rw[cell_of_heap hp2];rfl
    have e2:X.cell? ⟨R,2,none⟩=some (.bool false):=by rw[cell_of_heap hp2];rfl
    have e3:X.cell? ⟨R,3,none⟩=some (.int .i64 (-1)):=by rw[cell_of_heap hp2];rfl
    have e4:X.cell? ⟨R,4,none⟩=some (.func (.func 154) #[pv] #[]):=by rw[cell_of_heap hp2];rfl
    exact bodyPost_ret (v:=.tuple #[.agg #[.int .u8 120,.bool false,.bool false,.int .i64 (-1),.func (.func 154) #[pv] #[]],.bool true]) (by simp[results,Tryz.results143,go_sem,e0,e1,e2,e3,e4]) rfl ⟨_,true,.inl ⟨1,by omega,rfl,rfl,rfl⟩,rfl,hb2⟩
   ·have hcb:((120:Int)==c)=false:=beq_eq_false_iff_ne.2 hc
    go_wp2_with fail
    refine⟨⟨1+1,by omega,rfl,?_,?_⟩,by simp only[intOf];omega⟩
    ·intro j hj
     by_cases e:j=1
     ·subst e;exact hc
     ·exact HI.out j (by omega)
    ·exact FrS.alloc HF.out _
  ·by_cases hc:(101:Int)=c
   ·subst hc
    go_wp2_with fail
    obtain⟨hp,hb⟩:=FrS.put HF.out (.int .u8 101) (.bool true) (.bool true) (.int .i64 399) (.func (.func 155) #[pv] #[])
    have hlt:=(Array.getElem?_eq_some_iff.1 hp).1
    have hp2:=(Below.heap_alloc _ (.cells #[.int .u8 101,.bool true,.bool true,.int .i64 399,.func (.func 155) #[pv] #[]] 234) _ hlt).trans hp
    have hb2:=hb.alloc hb.size (.cells #[.int .u8 101,.bool true,.bool true,.int .i64 399,.func (.func 155) #[pv] #[]] 234)
    generalize (World.alloc _ _)=X at hp2 hb2 ⊢
    have e0:X.cell? ⟨R,0,none⟩=some (.int .u8 101):=by rw[cell_of_heap hp2];rfl
    have e1:X.cell? ⟨R,1,none⟩=some (.bool true):=by rw[cell_of_heap hp2];rfl
    have e2:X.cell? ⟨R,2,none⟩=some (.bool true):=by rw[cell_of_heap hp2];rfl
    have e3:X.cell? ⟨R,3,none⟩=some (.int .i64 399):=by rw[cell_of_heap hp2];rfl
    have e4:X.cell? ⟨R,4,none⟩=some (.func (.func 155) #[pv] #[]):=by rw[cell_of_heap hp2];rfl
    exact bodyPost_ret (v:=.tuple #[.agg #[.int .u8 101,.bool true,.bool true,.int .i64 399,.func (.func 155) #[pv] #[]],.bool true]) (by simp[results,Tryz.results143,go_sem,e0,e1,e2,e3,e4]) rfl ⟨_,true,.inl ⟨2,by omega,rfl,rfl,rfl⟩,rfl,hb2⟩
   ·have hcb:((101:Int)==c)=false:=beq_eq_false_iff_ne.2 hc
    go_wp2_with fail
    refine⟨⟨2+1,by omega,rfl,?_,?_⟩,by simp only[intOf];omega⟩
    ·intro j hj
     by_cases e:j=2
     ·subst e;exact hc
     ·exact HI.out j (by omega)
    ·exact FrS.alloc HF.out _
  ·by_cases hc:(102:Int)=c
   ·subst hc
    go_wp2_with fail
    obtain⟨hp,hb⟩:=FrS.put HF.out (.int .u8 102) (.bool true) (.bool true) (.int .i64 400) (.func (.func 156) #[pv] #[])
    have hlt:=(Array.getElem?_eq_some_iff.1 hp).1
    have hp2:=(Below.heap_alloc _ (.cells #[.int .u8 102,.bool true,.bool true,.int .i64 400,.func (.func 156) #[pv] #[]] 234) _ hlt).trans hp
    have hb2:=hb.alloc hb.size (.cells #[.int .u8 102,.bool true,.bool true,.int .i64 400,.func (.func 156) #[pv] #[]] 234)
    generalize (World.alloc _ _)=X at hp2 hb2 ⊢
    have e0:X.cell? ⟨R,0,none⟩=some (.int .u8 102):=by rw[cell_of_heap hp2];rfl
    have e1:X.cell? ⟨R,1,none⟩=some (.bool true):=by rw[cell_of_heap hp2];rfl
    have e2:X.cell? ⟨R,2,none⟩=some (.bool true):=by rw[cell_of_heap hp2];rfl
    have e3:X.cell? ⟨R,3,none⟩=some (.int .i64 400):=by rw[cell_of_heap hp2];rfl
    have e4:X.cell? ⟨R,4,none⟩=some (.func (.func 156) #[pv] #[]):=by rw[cell_of_heap hp2];rfl
    exact bodyPost_ret (v:=.tuple #[.agg #[.int .u8 102,.bool true,.bool true,.int .i64 400,.func (.func 156) #[pv] #[]],.bool true]) (by simp[results,Tryz.results143,go_sem,e0,e1,e2,e3,e4]) rfl ⟨_,true,.inl ⟨3,by omega,rfl,rfl,rfl⟩,rfl,hb2⟩
   ·have hcb:((102:Int)==c)=false:=beq_eq_false_iff_ne.2 hc
    go_wp2_with fail
    refine⟨⟨3+1,by omega,rfl,?_,?_⟩,by simp only[intOf];omega⟩
    ·intro j hj
     by_cases e:j=3
     ·subst e;exact hc
     ·exact HI.out j (by omega)
    ·exact FrS.alloc HF.out _
  ·by_cases hc:(103:Int)=c
   ·subst hc
    go_wp2_with fail
    obtain⟨hp,hb⟩:=FrS.put HF.out (.int .u8 103) (.bool true) (.bool true) (.int .i64 (-1)) (.func (.func 157) #[pv] #[])
    have hlt:=(Array.getElem?_eq_some_iff.1 hp).1
    have hp2:=(Below.heap_alloc _ (.cells #[.int .u8 103,.bool true,.bool true,.int .i64 (-1),.func (.func 157) #[pv] #[]] 234) _ hlt).trans hp
    have hb2:=hb.alloc hb.size (.cells #[.int .u8 103,.bool true,.bool true,.int .i64 (-1),.func (.func 157) #[pv] #[]] 234)
    generalize (World.alloc _ _)=X at hp2 hb2 ⊢
    have e0:X.cell? ⟨R,0,none⟩=some (.int .u8 103):=by rw[cell_of_heap hp2];rfl
    have e1:X.cell? ⟨R,1,none⟩=some (.bool true):=by rw[cell_of_heap hp2];rfl
    have e2:X.cell? ⟨R,2,none⟩=some (.bool true):=by rw[cell_of_heap hp2];rfl
    have e3:X.cell? ⟨R,3,none⟩=some (.int .i64 (-1)):=by rw[cell_of_heap hp2];rfl
    have e4:X.cell? ⟨R,4,none⟩=some (.func (.func 157) #[pv] #[]):=by rw[cell_of_heap hp2];rfl
    exact bodyPost_ret (v:=.tuple #[.agg #[.int .u8 103,.bool true,.bool true,.int .i64 (-1),.func (.func 157) #[pv] #[]],.bool true]) (by simp[results,Tryz.results143,go_sem,e0,e1,e2,e3,e4]) rfl ⟨_,true,.inl ⟨4,by omega,rfl,rfl,rfl⟩,rfl,hb2⟩
   ·have hcb:((103:Int)==c)=false:=beq_eq_false_iff_ne.2 hc
    go_wp2_with fail
    refine⟨⟨4+1,by omega,rfl,?_,?_⟩,by simp only[intOf];omega⟩
    ·intro j hj
     by_cases e:j=4
     ·subst e;exact hc
     ·exact HI.out j (by omega)
    ·exact FrS.alloc HF.out _
  ·by_cases hc:(104:Int)=c
   ·subst hc
    go_wp2_with fail
    obtain⟨hp,hb⟩:=FrS.put HF.out (.int .u8 104) (.bool true) (.bool true) (.int .i64 (-1)) (.func (.func 158) #[pv] #[])
    have hlt:=(Array.getElem?_eq_some_iff.1 hp).1
    have hp2:=(Below.heap_alloc _ (.cells #[.int .u8 104,.bool true,.bool true,.int .i64 (-1),.func (.func 158) #[pv] #[]] 234) _ hlt).trans hp
    have hb2:=hb.alloc hb.size (.cells #[.int .u8 104,.bool true,.bool true,.int .i64 (-1),.func (.func 158) #[pv] #[]] 234)
    generalize (World.alloc _ _)=X at hp2 hb2 ⊢
    have e0:X.cell? ⟨R,0,none⟩=some (.int .u8 104):=by rw[cell_of_heap hp2];rfl
    have e1:X.cell? ⟨R,1,none⟩=some (.bool true):=by rw[cell_of_heap hp2];rfl
    have e2:X.cell? ⟨R,2,none⟩=some (.bool true):=by rw[cell_of_heap hp2];rfl
    have e3:X.cell? ⟨R,3,none⟩=some (.int .i64 (-1)):=by rw[cell_of_heap hp2];rfl
    have e4:X.cell? ⟨R,4,none⟩=some (.func (.func 158) #[pv] #[]):=by rw[cell_of_heap hp2];rfl
    exact bodyPost_ret (v:=.tuple #[.agg #[.int .u8 104,.bool true,.bool true,.int .i64 (-1),.func (.func 158) #[pv] #[]],.bool true]) (by simp[results,Tryz.results143,go_sem,e0,e1,e2,e3,e4]) rfl ⟨_,true,.inl ⟨5,by omega,rfl,rfl,rfl⟩,rfl,hb2⟩
   ·have hcb:((104:Int)==c)=false:=beq_eq_false_iff_ne.2 hc
    go_wp2_with fail
    refine⟨⟨5+1,by omega,rfl,?_,?_⟩,by simp only[intOf];omega⟩
    ·intro j hj
     by_cases e:j=5
     ·subst e;exact hc
     ·exact HI.out j (by omega)
    ·exact FrS.alloc HF.out _
  ·go_wp2_with fail
   obtain⟨hp,hb⟩:=FrS.put HF.out (.int .u8 0) (.bool false) (.bool false) (.int .i64 0) .nilFunc
   generalize (World.setCell _ _ _)=X at hp hb ⊢
   have e0:X.cell? ⟨R,0,none⟩=some (.int .u8 0):=by rw[cell_of_heap hp];rfl
   have e1:X.cell? ⟨R,1,none⟩=some (.bool false):=by rw[cell_of_heap hp];rfl
   have e2:X.cell? ⟨R,2,none⟩=some (.bool false):=by rw[cell_of_heap hp];rfl
   have e3:X.cell? ⟨R,3,none⟩=some (.int .i64 0):=by rw[cell_of_heap hp];rfl
   have e4:X.cell? ⟨R,4,none⟩=some .nilFunc:=by rw[cell_of_heap hp];rfl
   exact bodyPost_ret (v:=.tuple #[.agg #[.int .u8 0,.bool false,.bool false,.int .i64 0,.nilFunc],.bool false]) (by simp[results,Tryz.results143,go_sem,e0,e1,e2,e3,e4]) rfl ⟨_,false,.inr ⟨fun k hk=>HI.out k (by omega),rfl,rfl⟩,rfl,hb⟩
theorem fixB_size2(ds:ByteArray)(x:Int)(k:Nat)(hx:x≤1300)(hk:k≤1300):(fixB ds (x+1) k).size≤10000:=by
 rw[←data_len,←plain_text]
 have h1:∀n,(putL (dAt ds x) (fxP (x+1)-1) (-1) n).length≤2*n:=fun n=>by
  induction n with
  | zero=>simp[putL]
  | succ n ih=>
   rw[putL_succ,List.length_append]
   split<;>simp<;>omega
 have:=h1 ((fxP (x+1)).toNat+k)
 have h2:(fxP (x+1)).toNat≤1301:=by unfold fxP;split<;>omega
 omega
theorem fixed_signed(x:Nat)(k:Int)(s:Bool)(m e:Int)(hp:partsV x k s m e)(ds:ByteArray)(y:Int)(hd:DofR m.toNat e ds y)(n:Nat)(hn2:n≤400)(t:ByteArray)(z:Int)(hr:RndD ds y (y+1+(n:Int)) t z):∃u,fixedV x (n:Int) u∧∀W,WrG W→Calls Tryz.prog 33 #[.agg #[.int .i64 k,.bool s,.int .i64 m,.int .i64 e],.iface 139 (.agg #[.string t,.int .i64 z,.int .i64 (n:Int)])] W fun r w'=>r=.returned (.string u)∧Below W.heap.size W w':=by
 obtain⟨b1,b2⟩:=rnd_bounds ds y _ t z (dof_good hd) hr
 obtain⟨hd1,hd2,hd3,hd4⟩:=hd
 have key:∀ (k:Int),(k=0∨k=1)→∀W,WrG W→Calls Tryz.prog 33 #[.agg #[.int .i64 k,.bool s,.int .i64 m,.int .i64 e],.iface 139 (.agg #[.string t,.int .i64 z,.int .i64 (n:Int)])] W fun r w'=>r=.returned (.string (sgnB s++fixB t (z+1) n))∧Below W.heap.size W w':=fun k hk W _=>
  signed_plain _ k hk s m e _ (by have:=fixB_size2 t z n (by omega) (by omega);omega) W fun W1 _=>plainWrite_any t z n (by omega) (by omega) (by omega) (by omega) W1
 have hin:(0:Int)≤(n:Int)∧(n:Int)≤400:=by omega
 rcases hp with⟨hn,rfl,rfl,rfl,rfl⟩|⟨rfl,rfl,rfl,rfl⟩|⟨rfl,rfl,rfl,rfl⟩|⟨n',p,q,t',hc,h0,rfl,hn,hq,rfl,rfl,rfl⟩
 ·exact⟨_,.inr ⟨hin,.inl ⟨hn,rfl⟩⟩,fun W _=>signed_nan _ 0 0 W⟩
 ·exact⟨_,.inr ⟨hin,.inr (.inl ⟨s,rfl,rfl⟩)⟩,fun W _=>signed_inf _ s 0 0 W⟩
 ·rcases hd1 with⟨_,rfl,rfl⟩|⟨h,_⟩
  ·have hz:t=⟨#[]⟩∧z=0:=by
    rcases hr with⟨h,_⟩|⟨_,_,rfl,rfl⟩|⟨_,h,_⟩
    ·omega
    ·exact⟨rfl,rfl⟩
    ·exact absurd h (by show ¬((0:Int)+1+(n:Int)<((0:Nat):Int));omega)
   obtain⟨rfl,rfl⟩:=hz
   have:=key 0 (.inl rfl)
   exact⟨_,.inr ⟨hin,.inr (.inr (.inl ⟨s,rfl,rfl⟩))⟩,this⟩
  ·exact absurd h (by decide)
 ·rw[Int.toNat_natCast]at hd1
  obtain⟨_,hq0,_,_⟩:=parts_bounds n' p q t' hc h0 hn
  rcases hd1 with⟨h,_⟩|⟨_,hx⟩
  ·omega
  ·obtain⟨d,p',hcut,htx⟩:=rnd_fix ds y n t z hx.2.1 hx.1 hx.2.2.1 hr
   have:=key 1 (.inr rfl)
   rw[htx]at this
   exact⟨_,.inr ⟨hin,.inr (.inr (.inr ⟨s,n',p,q,t',ds,y+1,d,p',hc,h0,rfl,hn,hq,hx,hcut,rfl⟩))⟩,this⟩
set_option maxHeartbeats 1000000 in
set_option maxRecDepth 100000 in
theorem implFixed_out(x:Nat)(n:Int)(hn:n<0∨400<n)(w:World) :
  Calls Tryz.prog 168 #[.float .f64 x,.int .i64 n] w fun e w'=>e=.returned (.string ⟨#[]⟩)∧Below w.heap.size w w':=by
 rcases hn with h|h
 ·go_enter Tryz.func168,Tryz.ntmps168
  go_wp2
  go_ret
  exact⟨rfl,Below.refl _ _⟩
 ·have h1:¬n<0:=by omega
  go_enter Tryz.func168,Tryz.ntmps168
  go_wp2
  go_ret
  exact⟨rfl,Below.refl _ _⟩
def Box6(w:World)(A:Nat)(k:Int)(s:Bool)(m e:Int)(C:Nat)(ds:ByteArray)(y:Int)(W:World):Prop:=Box4 w A k s m e W∧W.cell? ⟨C,0,none⟩=some (.string ds)∧W.cell? ⟨C,1,none⟩=some (.int .i64 y)
theorem Box6.next{w W W':World}{A:Nat}{k:Int}{s:Bool}{m e:Int}{C:Nat}{ds:ByteArray}{y:Int}(h:Box6 w A k s m e C ds y W)(hb:Below W.heap.size W W'):Box6 w A k s m e C ds y W':=
 ⟨h.1.next hb,(hb.cell (lt_cell h.2.1)).trans h.2.1,(hb.cell (lt_cell h.2.2)).trans h.2.2⟩
set_option maxHeartbeats 1000000 in
set_option maxRecDepth 100000 in
theorem implFixed_in(x:Nat)(hx:x<18446744073709551616)(n:Nat)(hn2:n≤400)(w:World)(hG:WrG w) :
  Calls Tryz.prog 168 #[.float .f64 x,.int .i64 (n:Int)] w fun e w'=>∃t,fixedV x (n:Int) t∧e=.returned (.string t)∧Below w.heap.size w w':=by
 obtain⟨k,s,m,e,hp⟩:=parts_ex x hx
 obtain⟨q,rfl,hq,he1,he2⟩:=parts_mant x k s m e hp
 have HP:Hid _:=fun(_:Unit)=>implParts_of x hx k s q e hp w hG.1 hG.2.2.1
 have HG:Hid (WrG w):=hG
 have HS:Hid (∀ds y t z,DofR q e ds y→RndD ds y (y+1+(n:Int)) t z→∃u,fixedV x (n:Int) u∧∀W,WrG W→Calls Tryz.prog 33 #[.agg #[.int .i64 k,.bool s,.int .i64 (q:Int),.int .i64 e],.iface 139 (.agg #[.string t,.int .i64 z,.int .i64 (n:Int)])] W fun r w'=>r=.returned (.string u)∧Below W.heap.size W w'):=fun ds y t z hd hr=>
  fixed_signed x k s q e hp ds y (by rw[Int.toNat_natCast];exact hd) n hn2 t z hr
 have hn1':¬(n:Int)<0:=by omega
 have hn2':¬400<(n:Int):=by omega
 clear hp hG
 go_enter Tryz.func168,Tryz.ntmps168
 go_wp2_with fail
 refine(HP.out ()).mono ?_
 rintro r W1 ⟨rfl,hb1⟩
 obtain⟨A,hA⟩:∃A,W1.heap.size=A:=⟨_,rfl⟩
 obtain⟨W2,hW2⟩:∃W2,W1.alloc (.cells #[.int .i64 k,.bool s,.int .i64 (q:Int),.int .i64 e] 65)=W2:=⟨_,rfl⟩
 have HX2:Hid (Box4 w A k s (q:Int) e W2):=by rw[←hW2,←hA];exact Box4.new hb1
 have HD:Hid (∀W,Box4 w A k s (q:Int) e W→Calls Tryz.prog 28 #[.agg #[.int .i64 k,.bool s,.int .i64 (q:Int),.int .i64 e]] W fun r w'=>∃ds y,Hid (DofR q e ds y)∧r=.returned (.agg #[.string ds,.int .i64 y])∧Hid (Box4 w A k s (q:Int) e w')):=fun W hW=>by
  have hg:=HG.out.below hW.1
  refine(decimalOf_any k s q e hq (by omega) (by omega) W hg.2.1 hg.2.2.2).mono ?_
  rintro r w' ⟨ds,y,h1,h2,h3,h4,rfl,hb⟩
  exact⟨ds,y,⟨h1,h2,h3,h4⟩,rfl,hW.next hb⟩
 have hc0:=HX2.out.2.1
 have hc1:=HX2.out.2.2.1
 have hc2:=HX2.out.2.2.2.1
 have hc3:=HX2.out.2.2.2.2
 clear hb1
 go_wp2_with fail
 refine(HD.out _ HX2.out).mono ?_
 rintro r W3 ⟨ds,y,HDR,rfl,HX3⟩
 have hy1:-1200≤y:=HDR.out.2.2.1
 have hy2:y≤1200:=HDR.out.2.2.2
 obtain⟨C,hC⟩:∃C,W3.heap.size=C:=⟨_,rfl⟩
 obtain⟨W4,hW4⟩:∃W4,W3.alloc (.cells #[.string ds,.int .i64 y] 69)=W4:=⟨_,rfl⟩
 have HX4:Hid (Box6 w A k s (q:Int) e C ds y W4):=by
  rw[←hW4,←hC]
  exact⟨HX3.out.next ((Below.refl _ _).alloc (Nat.le_refl _) _),by simp[go_sem],by simp[go_sem]⟩
 have HRN:Hid (∀W,Box6 w A k s (q:Int) e C ds y W→Calls Tryz.prog 68 #[.agg #[.string ds,.int .i64 y],.int .i64 (y+1+(n:Int))] W fun r w'=>∃t z,Hid (RndD ds y (y+1+(n:Int)) t z)∧r=.returned (.agg #[.string t,.int .i64 z])∧Hid (Box6 w A k s (q:Int) e C ds y w')):=fun W hW=>by
  refine(round_any ds y (y+1+(n:Int)) (by have:=HDR.out.2.1;omega) (by omega) (by omega) (dof_good HDR.out) W).mono ?_
  rintro r w' ⟨t,z,h1,rfl,hb⟩
  exact⟨t,z,h1,rfl,hW.next hb⟩
 clear hc0 hc1 hc2 hc3 hW2
 go_wp2
 refine wp_region_held_drew (S:=fun X=>Box6 w A k s (q:Int) e C ds y X) (by kernel_rfl) ⟨HX4.out.1.drew,HX4.out.2⟩ (fun hHeld=>?_)
 refine tkH 0 ?v0 rfl ?_ ?y0
 case y0=>(intro w' hSw;obtain⟨⟨_,y0,y1,y2,y3⟩,y4,y5⟩:=hSw;go_simp;first|done|with_reducible rfl)
 refine tkH 1 ?v1 rfl ?_ ?y1
 case y1=>(intro w' hSw;obtain⟨⟨_,y0,y1,y2,y3⟩,y4,y5⟩:=hSw;go_simp;first|done|with_reducible rfl)
 refine tkH 2 ?v2 rfl ?_ ?y2
 case y2=>(intro w' hSw;obtain⟨⟨_,y0,y1,y2,y3⟩,y4,y5⟩:=hSw;go_simp;first|done|with_reducible rfl)
 refine tkH 3 ?v3 rfl ?_ ?y3
 case y3=>(intro w' hSw;obtain⟨⟨_,y0,y1,y2,y3⟩,y4,y5⟩:=hSw;go_simp;first|done|with_reducible rfl)
 refine tkH 4 ?v4 rfl ?_
 refine tkH 5 ?v5 rfl ?_
 refine tkH 6 ?v6 rfl ?_
 refine tkH 8 ?v8 rfl ?_
 have HXd:Hid (Box6 w A k s (q:Int) e C ds y W4.drew):=⟨HX4.out.1.drew,HX4.out.2⟩
 generalize W4.drew=W5 at *
 have hwr:IntKind.i64.wrap (IntKind.i64.wrap (y+1)+(n:Int))=y+1+(n:Int):=by rw[IntKind.wrap_i64,IntKind.wrap_i64];omega
 simp only[hwr]
 refine rdH 7 rfl (fun K hK=>?_)
 go_simp
 try rw[hwr]
 refine(HRN.out _ HXd.out).mono ?_
 rintro r W6 ⟨t,z,HRD,rfl,HX6⟩
 dsimp only
 refine hK.out _ _ HX6.out (fun hHeld=>?_)
 clear hK K
 refine nmH ?_
 refine tkH 9 ?v9 rfl ?_
 refine tkH 10 ?v10 rfl ?_
 obtain⟨u,hu,hs⟩:=HS.out ds y t z HDR.out HRD.out
 have HV:Hid (fixedV x (n:Int) u):=hu
 have HSG:Hid _:=hs
 clear hu hs
 refine rdH 11 rfl (fun K hK=>?_)
 go_simp
 refine(HSG.out _ (HG.out.below HX6.out.1.1)).mono ?_
 rintro r W7 ⟨rfl,hb7⟩
 have HX7:Hid (Box6 w A k s (q:Int) e C ds y W7):=HX6.out.next hb7
 clear hb7
 dsimp only
 refine hK.out _ _ HX7.out (fun hHeld=>?_)
 clear hK K
 refine nmH ?_
 refine rdH 12 rfl (fun K hK=>?_)
 go_simp
 refine hK.out _ _ HX7.out (fun hHeld=>?_)
 clear hK K
 refine wpAnyH_done (by kernel_rfl) ?_ _
 go_wp2
 go_ret
 exact⟨u,HV.out,rfl,HX7.out.1.1⟩
theorem implFixed_any(x:Nat)(hx:x<18446744073709551616)(n:Int)(w:World)(hG:WrG w) :
  Calls Tryz.prog 168 #[.float .f64 x,.int .i64 n] w fun e w'=>∃t,fixedV x n t∧e=.returned (.string t)∧Below w.heap.size w w':=by
 by_cases ho:n<0∨400<n
 ·refine(implFixed_out x n ho w).mono ?_
  rintro e w' ⟨rfl,hb⟩
  exact⟨_,.inl ⟨ho,rfl⟩,rfl,hb⟩
 ·obtain⟨j,rfl⟩:=Int.eq_ofNat_of_zero_le (show 0≤n by omega)
  exact implFixed_in x hx j (by omega) w hG
end Go.Proofs.YtenbfookfcmpoaaGreatDoor
namespace Go.Proofs.YtenbfookfcmpoaaGreatDoor
open Go.RowKit
def NP(t:ByteArray):Prop:=t.data.toList.head?≠some 43
theorem np_app{a b:ByteArray}(ha:NP a)(hb:NP b):NP (a++b):=by
 unfold NP at *
 rw[append_list,List.head?_append]
 cases h:a.data.toList.head? with
 | none=>simpa using hb
 | some c=>rw[h]at ha;simpa using ha
theorem np_good(b:Int)(hb:b≤36)(t:ByteArray)(h:good b t.data.toList):NP t:=fun e=>by
 have hm:(43:UInt8)∈t.data.toList:=List.mem_of_mem_head? e
 have:=h 43 hm
 have e2:digN 99 ((43:UInt8).toNat:Int)=99:=by decide
 omega
theorem np_sgn(s:Bool):NP (sgnB s):=by unfold NP;cases s<;>decide
theorem np_text(b n:Nat)(h2:2≤b)(h36:b≤36):NP ⟨(textOf b n).toArray⟩:=np_good b (by omega) _ (text_good b n h2 h36)
theorem np_int(n:Int)(b:Nat)(h2:2≤b)(h36:b≤36):NP (intText n b):=by
 by_cases hn:n<0
 ·rw[intText_neg n b (by omega) hn]
  exact np_app (by unfold NP;decide) (np_text _ _ (by omega) (by omega))
 ·rw[intText_pos n b (by omega) hn]
  exact np_text _ _ (by omega) (by omega)
theorem np_bits(n:Int):NP (bitsText n 16):=by
 unfold bitsText
 rw[if_pos (by decide)]
 exact np_text _ _ (by decide) (by decide)
theorem np_ten{t:ByteArray}(h:good 10 t.data.toList):NP t:=np_good 10 (by decide) t h
theorem np_zeros(n:Nat):NP (zerosB n):=np_ten (zeros_good n)
theorem np_sci(ds:ByteArray)(pow:Int)(hg:good 10 ds.data.toList):NP (sciB ds pow):=by
 unfold sciB
 refine np_app (np_app ?_ (by unfold NP;decide)) (np_int _ 10 (by decide) (by decide))
 split
 ·exact np_app (np_ten (good_extract ds 0 1 hg)) (np_app (by unfold NP;decide) (np_ten (good_extract ds 1 _ hg)))
 ·exact np_ten (good_extract ds 0 1 hg)
theorem np_plain(ds:ByteArray)(pow:Int)(hg:good 10 ds.data.toList):NP (plainB ds pow):=by
 unfold plainB
 split
 ·exact np_app (np_app (by unfold NP;decide) (np_zeros _)) (np_ten hg)
 ·split
  ·exact np_app (np_ten hg) (np_zeros _)
  ·exact np_app (np_app (np_ten (good_extract ds _ _ hg)) (by unfold NP;decide)) (np_ten (good_extract ds _ _ hg))
theorem np_fix(ds:ByteArray)(p:Int)(k:Nat)(hg:good 10 ds.data.toList):NP (fixB ds p k):=by
 have h:=fix_good ds p k hg
 unfold fixB
 split
 ·exact np_ten (good_extract _ _ _ h)
 ·exact np_app (np_app (np_ten (good_extract _ _ _ h)) (by unfold NP;decide)) (np_ten (good_extract _ _ _ h))
theorem np_nan:NP ⟨#[110,97,110]⟩:=by unfold NP;decide
theorem np_inf(s:Bool):NP (sgnB s++⟨#[105,110,102]⟩):=np_app (np_sgn s) (by unfold NP;decide)
theorem np_hexB(s:Bool)(q E:Int):NP (hexB s q E):=by
 unfold hexB
 exact np_app (np_app (np_app (np_app (np_sgn s) (by unfold NP;decide)) (np_int _ 16 (by decide) (by decide))) (by unfold NP;decide)) (np_int _ 10 (by decide) (by decide))
theorem np_shortB(u:ByteArray)(p:Int)(hg:good 10 u.data.toList):NP (shortB u p):=by
 unfold shortB
 split
 ·exact np_plain u p hg
 ·exact np_sci u p hg
theorem numV_np(c pr:Int)(a:ArgV)(t:ByteArray)(h:numV c pr a t):NP t:=by
 rcases h with⟨_,rfl⟩|⟨_,rfl⟩|⟨_,h⟩|⟨_,h⟩|⟨_,h⟩|⟨_,h⟩
 ·exact np_int _ 10 (by decide) (by decide)
 ·exact np_bits _
 ·rcases h with⟨_,rfl⟩|⟨s,_,rfl⟩|⟨s,_,rfl⟩|⟨s,n,p,q,k,ds,pow,d,p',u,_,_,_,_,_,_,_,ht,rfl⟩
  ·exact np_nan
  ·exact np_inf s
  ·exact np_app (np_sgn s) (by unfold NP;decide)
  ·exact np_app (np_sgn s) (np_shortB u p' ht.2.1)
 ·rcases h with⟨_,rfl⟩|⟨s,_,rfl⟩|⟨s,_,rfl⟩|⟨s,n,p,q,k,_,_,_,_,_,rfl⟩
  ·exact np_nan
  ·exact np_inf s
  ·exact np_hexB _ _ _
  ·exact np_hexB _ _ _
 ·rcases h with⟨_,rfl⟩|⟨_,⟨_,rfl⟩|⟨s,_,rfl⟩|⟨s,_,rfl⟩|⟨s,m,p,q,k,ds,pow,d,p',_,_,_,_,_,hx,hc,rfl⟩⟩
  ·unfold NP;decide
  ·exact np_nan
  ·exact np_inf s
  ·exact np_app (np_sgn s) (np_sci _ _ (zeros_good _))
  ·exact np_app (np_sgn s) (np_sci _ _ (good_extract d _ _ (cut_good _ _ _ _ _ _ hx.2.1 hc).1))
 ·rcases h with⟨_,rfl⟩|⟨_,⟨_,rfl⟩|⟨s,_,rfl⟩|⟨s,_,rfl⟩|⟨s,m,p,q,k,ds,pow,d,p',_,_,_,_,_,hx,hf,rfl⟩⟩
  ·unfold NP;decide
  ·exact np_nan
  ·exact np_inf s
  ·exact np_app (np_sgn s) (np_fix _ _ _ (fun c hc=>by cases hc))
  ·refine np_app (np_sgn s) (np_fix _ _ _ ?_)
   rcases hf with⟨_,rfl,_⟩|⟨_,hc⟩
   ·exact fun c hc=>by cases hc
   ·exact(cut_good _ _ _ _ _ _ hx.2.1 hc).1
theorem fixB_short(ds:ByteArray)(p:Int)(k:Nat)(hp:p≤330)(hk:k≤400):(fixB ds p k).size≤1000:=by
 have h1:(fxP p).toNat≤330:=by unfold fxP;split<;>omega
 have e3:(⟨#[46]⟩:ByteArray).size=1:=rfl
 unfold fixB
 split
 ·rw[ByteArray.size_extract];omega
 ·rw[append_size,append_size,ByteArray.size_extract,ByteArray.size_extract];omega
theorem bits_size(n:Int):(bitsText n 16).size≤70:=by
 unfold bitsText
 rw[if_pos (by decide),←data_len]
 have:=textOf_length (16:Int).toNat (unsig n)
 exact Nat.le_trans this (by decide)
theorem numV_size(c pr:Int)(a:ArgV)(t:ByteArray)(h:numV c pr a t):t.size≤5000:=by
 have e3:(⟨#[105,110,102]⟩:ByteArray).size=3:=rfl
 rcases h with⟨_,rfl⟩|⟨_,rfl⟩|⟨_,h⟩|⟨_,h⟩|⟨_,h⟩|⟨_,h⟩
 ·have:=int_size a.num;omega
 ·have:=bits_size a.num;omega
 ·rcases h with⟨_,rfl⟩|⟨s,_,rfl⟩|⟨s,_,rfl⟩|⟨s,n,p,q,k,ds,pow,d,p',u,hc,h0,_,hq,_,hx,hl,ht,rfl⟩
  ·decide
  ·have:=sgnB_size s;rw[append_size];omega
  ·have:=sgnB_size s;rw[append_size];have e4:(⟨#[48]⟩:ByteArray).size=1:=rfl;omega
  ·obtain⟨b1,b2,b3,b4⟩:=exact_sizes n p q k ds pow hc h0 hq hx
   obtain⟨l1,l2,l3,l4,l5⟩:=least_facts ds pow _ d p' hx.2.1 (by omega) hl
   obtain⟨t1,t2,j,_,t4,_⟩:=ht
   have:=sgnB_size s
   have h1:=plainB_size u p' (by omega) (by omega) (by omega)
   have h2:=sciB_size u p'
   rw[append_size]
   unfold shortB
   split<;>omega
 ·rcases h with⟨_,rfl⟩|⟨s,_,rfl⟩|⟨s,_,rfl⟩|⟨s,n,p,q,k,_,_,_,_,_,rfl⟩
  ·decide
  ·have:=sgnB_size s;rw[append_size];omega
  ·have:=hexB_size s 0 0;omega
  ·have:=hexB_size s q (p+k);omega
 ·rcases h with⟨_,rfl⟩|⟨hn,⟨_,rfl⟩|⟨s,_,rfl⟩|⟨s,_,rfl⟩|⟨s,m,p,q,k,ds,pow,d,p',_,_,_,_,_,hx,hc,rfl⟩⟩
  ·decide
  ·decide
  ·have:=sgnB_size s;rw[append_size];omega
  ·have:=sgnB_size s;rw[append_size];have h2:=sciB_size (zerosB (prec6 pr+1).toNat) 1;rw[zerosB_size]at h2;omega
  ·have:=sgnB_size s;rw[append_size];have h2:=sciB_size (d.extract 0 (prec6 pr+1).toNat) p';rw[ByteArray.size_extract]at h2;omega
 ·rcases h with⟨_,rfl⟩|⟨hn,⟨_,rfl⟩|⟨s,_,rfl⟩|⟨s,_,rfl⟩|⟨s,m,p,q,k,ds,pow,d,p',hc,h0,_,hq,_,hx,hf,rfl⟩⟩
  ·decide
  ·decide
  ·have:=sgnB_size s;rw[append_size];omega
  ·have:=sgnB_size s;rw[append_size];have:=fixB_short ⟨#[]⟩ 1 (prec6 pr).toNat (by omega) (by omega);omega
  ·obtain⟨b1,b2,b3,b4⟩:=exact_sizes m p q k ds pow hc h0 hq hx
   have:=sgnB_size s
   rw[append_size]
   have:=fixB_short d p' (prec6 pr).toNat (by
    rcases hf with⟨_,_,rfl⟩|⟨_,hc⟩
    ·omega
    ·have:=(cut_good _ _ _ _ _ _ hx.2.1 hc).2.2.2.2;omega) (by omega)
   omega
end Go.Proofs.YtenbfookfcmpoaaGreatDoor
namespace Go.Proofs.YtenbfookfcmpoaaGreatDoor
open Go.ChangeShapes Go.WideShapes Go.RowKit
theorem head_bAt(t:ByteArray)(c:UInt8)(hc:c.toNat≠0):t.data.toList.head? = some c↔bAt t 0=(c.toNat:Int):=by
 by_cases h:0<t.size
 ·rw[bAt_in t 0 h]
  have e:t.data.toList.head? = some t[0]:=by
   rw[List.head?_eq_getElem?,List.getElem?_eq_getElem (by rw[data_len];exact h)]
   rfl
  rw[e]
  constructor
  ·intro h1;simp only[Option.some.injEq]at h1;rw[h1]
  ·intro h1
   have:t[0].toNat=c.toNat:=by omega
   rw[UInt8.toNat_inj.1 this]
 ·rw[bAt_out t 0 h]
  have e:t.data.toList = []:=List.length_eq_zero_iff.1 (by rw[data_len];omega)
  rw[e]
  constructor
  ·intro h1;cases h1
  ·intro h1;omega
theorem cut_is(t:ByteArray)(hnp:NP t):Cut t (decide (bAt t 0=45)) (restS t):=by
 have h43:bAt t 0≠43:=fun e=>hnp ((head_bAt t 43 (by decide)).2 e)
 unfold restS
 by_cases h0:0<t.size
 ·have hb:=bAt_in t 0 h0
  by_cases h:bAt t 0=45
  ·rw[if_pos h,decide_eq_true h]
   exact .inr (.inl ⟨h0,by omega,rfl,rfl⟩)
  ·rw[if_neg h,decide_eq_false h]
   exact .inr (.inr (.inr ⟨h0,by omega,by omega,rfl,rfl⟩))
 ·have hb:=bAt_out t 0 h0
  rw[if_neg (by omega),decide_eq_false (by omega)]
  exact .inl ⟨by omega,rfl,rfl⟩
theorem rest_size(t:ByteArray):(restS t).size≤t.size:=by
 unfold restS
 split
 ·rw[ByteArray.size_extract];omega
 ·exact Nat.le_refl _
theorem text_is(R:ByteArray)(a b c:UInt8):R.toList = [a,b,c]↔R=⟨#[a,b,c]⟩:=by
 rw[ByteArray.toList_eq]
 constructor
 ·intro h
  apply ByteArray.ext
  apply Array.toList_inj.1
  exact h
 ·rintro rfl;rfl
section
variable {A X1 X2 X3 R:ByteArray} {l z:Bool}
theorem pad_l(h:A=if l=true then X1 else if z=true∧R≠⟨#[105,110,102]⟩∧R≠⟨#[110,97,110]⟩ then X2 else X3)(hl:l=true):A=X1:=by rw[h,if_pos hl]
theorem pad_z(h:A=if l=true then X1 else if z=true∧R≠⟨#[105,110,102]⟩∧R≠⟨#[110,97,110]⟩ then X2 else X3)(hl:l=false)(hz:z=true)(hr:(!R.toList == [105,110,102])=true∧(!R.toList == [110,97,110])=true):A=X2:=by
 have h1:R≠⟨#[105,110,102]⟩:=fun e=>by have:=(text_is R 105 110 102).2 e;rw[this]at hr;exact absurd hr.1 (by decide)
 have h2:R≠⟨#[110,97,110]⟩:=fun e=>by have:=(text_is R 110 97 110).2 e;rw[this]at hr;exact absurd hr.2 (by decide)
 rw[h,if_neg (by rw[hl];decide),if_pos ⟨hz,h1,h2⟩]
theorem pad_i(h:A=if l=true then X1 else if z=true∧R≠⟨#[105,110,102]⟩∧R≠⟨#[110,97,110]⟩ then X2 else X3)(hl:l=false)(hr:R.toList = [105,110,102]):A=X3:=by
 rw[h,if_neg (by rw[hl];decide),if_neg (fun h=>h.2.1 ((text_is R 105 110 102).1 hr))]
theorem pad_n(h:A=if l=true then X1 else if z=true∧R≠⟨#[105,110,102]⟩∧R≠⟨#[110,97,110]⟩ then X2 else X3)(hl:l=false)(hr:R.toList = [110,97,110]):A=X3:=by
 rw[h,if_neg (by rw[hl];decide),if_neg (fun h=>h.2.2 ((text_is R 110 97 110).1 hr))]
theorem pad_e(h:A=if l=true then X1 else if z=true∧R≠⟨#[105,110,102]⟩∧R≠⟨#[110,97,110]⟩ then X2 else X3)(hl:l=false)(hr:(!R.toList == [105,110,102])=false∨(!R.toList == [110,97,110])=false):A=X3:=by
 rcases hr with hr|hr
 ·exact pad_i h hl (by simpa using hr)
 ·exact pad_n h hl (by simpa using hr)
theorem pad_o(h:A=if l=true then X1 else if z=true∧R≠⟨#[105,110,102]⟩∧R≠⟨#[110,97,110]⟩ then X2 else X3)(hl:l=false)(hz:¬z=true):A=X3:=by
 rw[h,if_neg (by rw[hl];decide),if_neg (fun h=>hz h.1)]
end
set_option maxHeartbeats 4000000 in
set_option maxRecDepth 100000 in
theorem fill_any(l z q:Bool)(wd pr:Int)(r:Bool)(n:Int)(f:Nat)(t:ByteArray)(c:Int)(w:World)(hw0:0≤wd)(hw1:wd≤400)(ht:t.size≤5000)(hnp:NP t) :
  Calls Tryz.prog 145 #[.agg #[.bool l,.bool z,.bool q,.int .i64 wd,.int .i64 pr,.bool r,.int .i64 n,.float .f64 f],.string t,.bool (decide (c≠120))] w fun e w'=>e=.returned (.string (padS l z q wd c t))∧Below w.heap.size w w':=by
 have hK:=fun K=>padS_eq l z q wd c t K
 have hcut:=cut_is t hnp
 obtain⟨neg,hneg⟩:∃neg,decide (bAt t 0=45)=neg:=⟨_,rfl⟩
 have hsg:signP q c t=if neg=true then ⟨#[45]⟩ else if (q&&decide (c≠120) && !decide (t=⟨#[110,97,110]⟩))=true then ⟨#[43]⟩ else ⟨#[]⟩:=by
  unfold signP
  rw[←hneg]
  simp[and_assoc]
 have hrn:neg=false→restS t=t:=fun h=>by
  unfold restS
  rw[←hneg]at h
  rw[if_neg (of_decide_eq_false h)]
 have hRz:=rest_size t
 obtain⟨R,hR⟩:∃R,restS t=R:=⟨_,rfl⟩
 obtain⟨sg,hs⟩:∃sg,decide (c≠120)=sg:=⟨_,rfl⟩
 obtain⟨A,hA⟩:∃A,padS l z q wd c t=A:=⟨_,rfl⟩
 rw[hneg,hR]at hcut
 rw[hs]at hsg ⊢
 rw[hA]at hK ⊢
 rw[hR]at hK hrn hRz
 have HC:Hid _:=fun(W:World)=>cutSign_any t W (by omega) neg R hcut
 have hRi:(R.size:Int)≤5000:=by omega
 have HK:Hid _:=hK
 obtain⟨bn,hbn⟩:∃bn,decide (R=⟨#[110,97,110]⟩)=bn:=⟨_,rfl⟩
 obtain⟨bi,hbi⟩:∃bi,decide (R=⟨#[105,110,102]⟩)=bi:=⟨_,rfl⟩
 have hG:∃G:ByteArray,signP q c t=G∧((neg=true∧G=⟨#[45]⟩)∨(neg=false∧(q&&sg && !bn)=true∧G=⟨#[43]⟩)∨(neg=false∧(q&&sg && !bn)=false∧G=⟨#[]⟩)):=by
  refine⟨_,rfl,?_⟩
  rw[hsg]
  cases neg
  ·rw[hrn rfl]at hbn
   rw[if_neg (by simp),hbn]
   by_cases h:(q&&sg && !bn)=true
   ·rw[if_pos h];exact .inr (.inl ⟨rfl,h,rfl⟩)
   ·rw[if_neg h];exact .inr (.inr ⟨rfl,by simpa using h,rfl⟩)
  ·exact .inl ⟨rfl,rfl⟩
 obtain⟨G,hGe,hG⟩:=hG
 rw[hGe]at HK
 have HBN:Hid (decide (R=⟨#[110,97,110]⟩)=bn∧decide (R=⟨#[105,110,102]⟩)=bi):=⟨hbn,hbi⟩
 clear hcut hneg hsg hrn hR hs hA hK hGe hRz hnp ht hbn hbi
 have HRP:Hid (∀ (x:UInt8) (g:Nat) (K:Nat) (W:World),K=(wd-(g:Int)-(R.size:Int)).toNat→Calls Tryz.prog 159 #[.string ⟨#[x]⟩,.int .i64 (max (wd-(g:Int)-(R.size:Int)) 0)] W fun e w'=>e=.returned (.string (repB x K))∧Below W.heap.size W w'):=fun x g K W hK=>by
  have e:max (wd-(g:Int)-(R.size:Int)) 0=(K:Int):=by omega
  rw[e]
  exact repeat_any x K (by omega) W
 rcases hG with⟨rfl,rfl⟩|⟨rfl,hc3,rfl⟩|⟨rfl,hc3,rfl⟩
 ·obtain⟨K,hKe⟩:∃K,K=(wd-(1:Nat)-(R.size:Int)).toNat:=⟨_,rfl⟩
  have HA:Hid _:=HK.out K hKe
  have H1:Hid (∀ (x:UInt8) (W:World),Calls Tryz.prog 159 #[.string ⟨#[x]⟩,.int .i64 (max (wd-1-(R.size:Int)) 0)] W fun e w'=>e=.returned (.string (repB x K))∧Below W.heap.size W w'):=fun x W=>by have:=HRP.out x 1 K W hKe;simpa using this
  have hK4:(K:Int)≤400:=by omega
  have hz:=fun x=>repB_size x K
  clear hKe HRP HK
  go_enter Tryz.func145,Tryz.ntmps145
  go_wp2_with (first|(go_at_call 149;refine(HC.out _).mono ?_;rintro e w' ⟨rfl,m,rfl⟩)|(go_at_call 159;refine(H1.out _ _).mono ?_;rintro e w' ⟨rfl,hb⟩))
  all_goals
   go_ret
   refine⟨by first|(rw[pad_l HA.out (by assumption)];rfl)|(rw[pad_z HA.out (by assumption) (by assumption) (by assumption)];rfl)|(rw[pad_i HA.out (by assumption) (by assumption)];rfl)|(rw[pad_n HA.out (by assumption) (by assumption)];rfl)|(rw[pad_z HA.out (by assumption) (by assumption) ⟨by assumption,by simp[hnn]⟩];rfl)|(rw[pad_e HA.out (by assumption) (by assumption)];rfl)|(rw[pad_e HA.out (by assumption) (.inl (by assumption))];rfl)|(rw[pad_o HA.out (by assumption) (by assumption)];rfl),?_⟩
   refine Below.trans (below_drewN ((Below.refl _ w).alloc (Nat.le_refl _) _) m) (hb.mono ?_)
   exact(below_drewN ((Below.refl _ w).alloc (Nat.le_refl _) _) m).size
 ·obtain⟨⟨rfl,rfl⟩,rfl⟩:(q=true∧sg=true)∧bn=false:=by simpa using hc3
  clear hc3
  have hnn:(R.toList == [110,97,110])=false:=by
   apply beq_eq_false_iff_ne.2
   intro e
   have:=HBN.out.1
   rw[decide_eq_true ((text_is R 110 97 110).1 e)]at this
   cases this
  obtain⟨K,hKe⟩:∃K,K=(wd-(1:Nat)-(R.size:Int)).toNat:=⟨_,rfl⟩
  have HA:Hid _:=HK.out K hKe
  have H1:Hid (∀ (x:UInt8) (W:World),Calls Tryz.prog 159 #[.string ⟨#[x]⟩,.int .i64 (max (wd-1-(R.size:Int)) 0)] W fun e w'=>e=.returned (.string (repB x K))∧Below W.heap.size W w'):=fun x W=>by have:=HRP.out x 1 K W hKe;simpa using this
  have hK4:(K:Int)≤400:=by omega
  have hz:=fun x=>repB_size x K
  clear hKe HRP HK
  go_enter Tryz.func145,Tryz.ntmps145
  go_wp2_with (first|(go_at_call 149;refine(HC.out _).mono ?_;rintro e w' ⟨rfl,m,rfl⟩)|(go_at_call 159;refine(H1.out _ _).mono ?_;rintro e w' ⟨rfl,hb⟩))
  all_goals
   go_ret
   refine⟨by first|(rw[pad_l HA.out (by assumption)];rfl)|(rw[pad_z HA.out (by assumption) (by assumption) (by assumption)];rfl)|(rw[pad_i HA.out (by assumption) (by assumption)];rfl)|(rw[pad_n HA.out (by assumption) (by assumption)];rfl)|(rw[pad_z HA.out (by assumption) (by assumption) ⟨by assumption,by simp[hnn]⟩];rfl)|(rw[pad_e HA.out (by assumption) (by assumption)];rfl)|(rw[pad_e HA.out (by assumption) (.inl (by assumption))];rfl)|(rw[pad_o HA.out (by assumption) (by assumption)];rfl),?_⟩
   refine Below.trans (below_drewN ((Below.refl _ w).alloc (Nat.le_refl _) _) m) (hb.mono ?_)
   exact(below_drewN ((Below.refl _ w).alloc (Nat.le_refl _) _) m).size
 ·have h3:q=false∨(q=true∧sg=false)∨(q=true∧sg=true∧R.toList = [110,97,110]):=by
   cases q
   ·exact .inl rfl
   ·cases sg
    ·exact .inr (.inl ⟨rfl,rfl⟩)
    ·refine .inr (.inr ⟨rfl,rfl,(text_is R 110 97 110).2 ?_⟩)
     have:bn=true:=by simpa using hc3
     rw[this]at HBN
     exact of_decide_eq_true HBN.out.1
  clear hc3
  rcases h3 with rfl|⟨rfl,rfl⟩|⟨rfl,rfl,hnn⟩
  ·obtain⟨K,hKe⟩:∃K,K=(wd-(0:Nat)-(R.size:Int)).toNat:=⟨_,rfl⟩
   have HA:Hid _:=HK.out K hKe
   have H1:Hid (∀ (x:UInt8) (W:World),Calls Tryz.prog 159 #[.string ⟨#[x]⟩,.int .i64 (max (wd-(R.size:Int)) 0)] W fun e w'=>e=.returned (.string (repB x K))∧Below W.heap.size W w'):=fun x W=>by have:=HRP.out x 0 K W hKe;simpa using this
   have hK4:(K:Int)≤400:=by omega
   have hz:=fun x=>repB_size x K
   clear hKe HRP HK
   go_enter Tryz.func145,Tryz.ntmps145
   go_wp2_with (first|(go_at_call 149;refine(HC.out _).mono ?_;rintro e w' ⟨rfl,m,rfl⟩)|(go_at_call 159;refine(H1.out _ _).mono ?_;rintro e w' ⟨rfl,hb⟩))
   all_goals
    go_ret
    refine⟨by first|(rw[pad_l HA.out (by assumption)];rfl)|(rw[pad_z HA.out (by assumption) (by assumption) (by assumption)];rfl)|(rw[pad_i HA.out (by assumption) (by assumption)];rfl)|(rw[pad_n HA.out (by assumption) (by assumption)];rfl)|(rw[pad_z HA.out (by assumption) (by assumption) ⟨by assumption,by simp[hnn]⟩];rfl)|(rw[pad_e HA.out (by assumption) (by assumption)];rfl)|(rw[pad_e HA.out (by assumption) (.inl (by assumption))];rfl)|(rw[pad_o HA.out (by assumption) (by assumption)];rfl),?_⟩
    refine Below.trans (below_drewN ((Below.refl _ w).alloc (Nat.le_refl _) _) m) (hb.mono ?_)
    exact(below_drewN ((Below.refl _ w).alloc (Nat.le_refl _) _) m).size
  ·obtain⟨K,hKe⟩:∃K,K=(wd-(0:Nat)-(R.size:Int)).toNat:=⟨_,rfl⟩
   have HA:Hid _:=HK.out K hKe
   have H1:Hid (∀ (x:UInt8) (W:World),Calls Tryz.prog 159 #[.string ⟨#[x]⟩,.int .i64 (max (wd-(R.size:Int)) 0)] W fun e w'=>e=.returned (.string (repB x K))∧Below W.heap.size W w'):=fun x W=>by have:=HRP.out x 0 K W hKe;simpa using this
   have hK4:(K:Int)≤400:=by omega
   have hz:=fun x=>repB_size x K
   clear hKe HRP HK
   go_enter Tryz.func145,Tryz.ntmps145
   go_wp2_with (first|(go_at_call 149;refine(HC.out _).mono ?_;rintro e w' ⟨rfl,m,rfl⟩)|(go_at_call 159;refine(H1.out _ _).mono ?_;rintro e w' ⟨rfl,hb⟩))
   all_goals
    go_ret
    refine⟨by first|(rw[pad_l HA.out (by assumption)];rfl)|(rw[pad_z HA.out (by assumption) (by assumption) (by assumption)];rfl)|(rw[pad_i HA.out (by assumption) (by assumption)];rfl)|(rw[pad_n HA.out (by assumption) (by assumption)];rfl)|(rw[pad_z HA.out (by assumption) (by assumption) ⟨by assumption,by simp[hnn]⟩];rfl)|(rw[pad_e HA.out (by assumption) (by assumption)];rfl)|(rw[pad_e HA.out (by assumption) (.inl (by assumption))];rfl)|(rw[pad_o HA.out (by assumption) (by assumption)];rfl),?_⟩
    refine Below.trans (below_drewN ((Below.refl _ w).alloc (Nat.le_refl _) _) m) (hb.mono ?_)
    exact(below_drewN ((Below.refl _ w).alloc (Nat.le_refl _) _) m).size
  ·obtain⟨K,hKe⟩:∃K,K=(wd-(0:Nat)-(R.size:Int)).toNat:=⟨_,rfl⟩
   have HA:Hid _:=HK.out K hKe
   have H1:Hid (∀ (x:UInt8) (W:World),Calls Tryz.prog 159 #[.string ⟨#[x]⟩,.int .i64 (max (wd-(R.size:Int)) 0)] W fun e w'=>e=.returned (.string (repB x K))∧Below W.heap.size W w'):=fun x W=>by have:=HRP.out x 0 K W hKe;simpa using this
   have hK4:(K:Int)≤400:=by omega
   have hz:=fun x=>repB_size x K
   clear hKe HRP HK
   go_enter Tryz.func145,Tryz.ntmps145
   go_wp2_with (first|(go_at_call 149;refine(HC.out _).mono ?_;rintro e w' ⟨rfl,m,rfl⟩)|(go_at_call 159;refine(H1.out _ _).mono ?_;rintro e w' ⟨rfl,hb⟩))
   all_goals
    go_ret
    refine⟨by first|(rw[pad_l HA.out (by assumption)];rfl)|(rw[pad_z HA.out (by assumption) (by assumption) (by assumption)];rfl)|(rw[pad_i HA.out (by assumption) (by assumption)];rfl)|(rw[pad_n HA.out (by assumption) (by assumption)];rfl)|(rw[pad_z HA.out (by assumption) (by assumption) ⟨by assumption,by simp[hnn]⟩];rfl)|(rw[pad_e HA.out (by assumption) (by assumption)];rfl)|(rw[pad_e HA.out (by assumption) (.inl (by assumption))];rfl)|(rw[pad_o HA.out (by assumption) (by assumption)];rfl),?_⟩
    refine Below.trans (below_drewN ((Below.refl _ w).alloc (Nat.le_refl _) _) m) (hb.mono ?_)
    exact(below_drewN ((Below.refl _ w).alloc (Nat.le_refl _) _) m).size
end Go.Proofs.YtenbfookfcmpoaaGreatDoor
