import Derived.Test.YtenbfookfcmpoaaGreatDoorF06
namespace Go.Proofs.YtenbfookfcmpoaaGreatDoor
open Go.ChangeShapes Go.WideShapes Go.RowKit
def Rr(w:World)(G:Nat)(s:ByteArray)(k:Nat):Prop:=w.heap[G]? = some (.cells #[.string s,.int .i64 (k:Int)] 92 (0,0))
theorem Rr.txt{w:World}{G k:Nat}{s:ByteArray}(h:Rr w G s k):w.cell? ⟨G,0,none⟩=some (.string s):=by rw[cell_of_heap h];rfl
theorem Rr.at_{w:World}{G k:Nat}{s:ByteArray}(h:Rr w G s k):w.cell? ⟨G,1,none⟩=some (.int .i64 (k:Int)):=by rw[cell_of_heap h];rfl
theorem Rr.froz{w:World}{G k:Nat}{s:ByteArray}(h:Rr w G s k)(o:Nat):w.frozen? ⟨G,o,none⟩=false:=frozen_of_heap h o
theorem Rr.lt{w:World}{G k:Nat}{s:ByteArray}(h:Rr w G s k):G<w.heap.size:=(Array.getElem?_eq_some_iff.1 h).1
theorem Rr.set{w:World}{G k:Nat}{s:ByteArray}(h:Rr w G s k)(k':Nat):Rr (w.setCell ⟨G,1,none⟩ (.int .i64 (k':Int))) G s k':=by
 unfold Rr
 rw[setCell_eq_setRow w G 1 _ _ (0,0) _ h]
 exact setRow_heap w G _ _ _ (0,0) h
theorem Rr.other{w w':World}{G B k:Nat}{s:ByteArray}(h:Rr w G s k)(hm:Mod B w w')(hB:G≠B):Rr w' G s k:=(hm.2.2.2.2 G h.lt hB).trans h
theorem Rr.below{w w':World}{G k:Nat}{s:ByteArray}(h:Rr w G s k)(hm:Below w.heap.size w w'):Rr w' G s k:=(hm.block G h.lt).trans h
theorem Rr.drewN{w:World}{G k:Nat}{s:ByteArray}(h:Rr w G s k)(n:Nat):Rr (w.drewN n) G s k:=h
theorem Rr.alloc{w:World}{G k:Nat}{s:ByteArray}(h:Rr w G s k)(b:Obj):Rr (w.alloc b) G s k:=(Below.heap_alloc _ _ _ h.lt).trans h
def pre(s p:ByteArray):Bool:=decide (p.size≤s.size)&&((s.extract 0 p.size).toList==p.toList)
set_option maxHeartbeats 400000 in
theorem hasPre_any(s p:ByteArray)(w:World) :
  Calls Tryz.prog 140 #[.string s,.string p] w fun e w'=>e=.returned (.bool (pre s p))∧w'=w:=by
 unfold pre
 by_cases h:p.size≤s.size
 ·have h1:(p.size:Int)≤(s.size:Int):=by omega
  have hd:decide ((p.size:Int)≤(s.size:Int))=true:=decide_eq_true h1
  rw[decide_eq_true h,Bool.true_and]
  go_enter Tryz.func140,Tryz.ntmps140
  go_wp2
  go_ret
  exact⟨rfl,rfl⟩
 ·have hd:decide ((p.size:Int)≤(s.size:Int))=false:=decide_eq_false (by omega)
  rw[decide_eq_false h,Bool.false_and]
  go_enter Tryz.func140,Tryz.ntmps140
  go_wp2
  go_ret
  exact⟨rfl,rfl⟩
theorem hasPrefix_any(s p:ByteArray)(w:World) :
  Calls Tryz.prog 118 #[.string s,.string p] w fun e w'=>e=.returned (.bool (pre s p))∧w'=w:=by
 have HC:Hid _:=fun w=>hasPre_any s p w
 go_enter Tryz.func118,Tryz.ntmps118
 go_wp2_with (go_at_call 140;refine(HC.out _).mono ?_;rintro e w' ⟨rfl,rfl⟩)
 go_ret
 exact⟨rfl,rfl⟩
theorem pre_eq(s p:ByteArray):pre s p=true↔s.data.toList.take p.size=p.data.toList:=by
 unfold pre
 rw[Bool.and_eq_true,decide_eq_true_iff,beq_iff_eq,ByteArray.toList_eq,ByteArray.toList_eq]
 have e:(s.extract 0 p.size).data.toList=s.data.toList.take p.size:=by simp
 rw[e]
 constructor
 ·exact fun h=>h.2
 ·intro h
  refine⟨?_,h⟩
  have:=congrArg List.length h
  simp at this
  omega
theorem drop_list(s:ByteArray)(j:Nat):(s.extract j s.size).data.toList=s.data.toList.drop j:=by
 have:(s.extract j s.size).data.toList=(s.data.toList.drop j).take (s.size-j):=by simp
 rw[this]
 exact List.take_of_length_le (by simp)
theorem drop_cons(s:ByteArray)(k:Nat)(h:k<s.size):(s.extract k s.size).data.toList=s[k] :: (s.extract (k+1) s.size).data.toList:=by
 have e:=drop_list s
 rw[e,e,List.drop_eq_getElem_cons (by simpa using h)]
 rfl
theorem drop_out(s:ByteArray)(k:Nat)(h:¬k<s.size):(s.extract k s.size).data.toList = []:=by
 rw[drop_list,List.drop_eq_nil_iff]
 simp;omega
theorem pre_one(s:ByteArray)(k:Nat)(c:UInt8)(hc:c.toNat≠0):pre (s.extract k s.size) ⟨#[c]⟩=decide (bAt s k=(c.toNat:Int)):=by
 rw[Bool.eq_iff_iff,pre_eq,decide_eq_true_iff]
 by_cases h:k<s.size
 ·rw[drop_cons s k h,bAt_in s k h]
  show[s[k]] = [c]↔_
  constructor
  ·intro e;rw[(List.cons.inj e).1]
  ·intro e;rw[UInt8.toNat_inj.1 (show s[k].toNat=c.toNat by omega)]
 ·rw[drop_out s k h,bAt_out s k h]
  constructor
  ·intro e;exact absurd e (by show ¬ [] = [c];simp)
  ·intro e;omega
theorem pre_two(s:ByteArray)(k:Nat)(c d:UInt8):pre (s.extract k s.size) ⟨#[c,d]⟩=decide (bAt s k=(c.toNat:Int)∧k+1<s.size∧bAt s (k+1)=(d.toNat:Int)):=by
 rw[Bool.eq_iff_iff,pre_eq,decide_eq_true_iff]
 by_cases h:k<s.size
 ·rw[drop_cons s k h,bAt_in s k h]
  by_cases h':k+1<s.size
  ·rw[drop_cons s (k+1) h',bAt_in s (k+1) h']
   show[s[k],s[k+1]] = [c,d]↔_
   constructor
   ·intro e
    have e1:=List.cons.inj e
    rw[e1.1,(List.cons.inj e1.2).1];exact⟨rfl,h',rfl⟩
   ·rintro⟨e,_,e'⟩;rw[UInt8.toNat_inj.1 (show s[k].toNat=c.toNat by omega),UInt8.toNat_inj.1 (show s[k+1].toNat=d.toNat by omega)]
  ·rw[drop_out s (k+1) h']
   constructor
   ·intro e;exact absurd e (by show ¬ [s[k]] = [c,d];simp)
   ·rintro⟨_,e,_⟩;omega
 ·rw[drop_out s k h,bAt_out s k h]
  constructor
  ·intro e;exact absurd e (by show ¬ [] = [c,d];simp)
  ·rintro⟨_,e,_⟩;omega
set_option maxHeartbeats 400000 in
theorem sees_any(G k:Nat)(s p:ByteArray)(w:World)(h:Rr w G s k)(hk:k≤s.size) :
  Calls Tryz.prog 81 #[.pointer (some ⟨G,0,none⟩),.string p] w fun e w'=>e=.returned (.bool (pre (s.extract k s.size) p))∧∃n,w'=w.drewN n:=by
 have h1:=h.txt
 have h2:=h.at_
 have hk':(k:Int)≤(s.size:Int):=by omega
 have HC:Hid (∀w,Calls Tryz.prog 118 #[.string (s.extract k s.size),.string p] w fun e w'=>e=.returned (.bool (pre (s.extract k s.size) p))∧w'=w):=fun w=>hasPrefix_any _ p w
 clear h
 go_enter Tryz.func81,Tryz.ntmps81
 go_wp2
 go_quiet (first|(go_at_call 118;exact Calls.quiet_of_same (HC.out _)))
 go_wp2
 go_ret
 exact⟨rfl,_,rfl⟩
set_option maxHeartbeats 400000 in
theorem rsign_any(G k:Nat)(s:ByteArray)(w:World)(h:Rr w G s k)(hk:k≤s.size)(hs:s.size≤1200)(neg:Bool)(j:Nat)(hg:Sgn s k neg j) :
  Calls Tryz.prog 132 #[.pointer (some ⟨G,0,none⟩)] w fun e w'=>e=.returned (.bool neg)∧Rr w' G s j∧Mod G w w':=by
 have h1:=h.txt
 have h2:=h.at_
 have hf:=h.froz 1
 have hk':(k:Int)≤(s.size:Int):=by omega
 have hsz:(s.extract k s.size).size=s.size-k:=by rw[ByteArray.size_extract];omega
 have hj:=sgn_le s k neg j hg hk
 have hjk:k≤j:=by rcases hg with⟨_,_,_,e⟩|⟨_,_,_,e⟩|⟨_,_,_,e⟩<;>omega
 have hcut:∃r:ByteArray,Cut (s.extract k s.size) neg r∧r.size=s.size-j:=by
  have hin:∀h:k<s.size,∃h0:0<(s.extract k s.size).size,(s.extract k s.size)[0].toNat=s[k].toNat:=fun h=>by
   refine⟨by omega,?_⟩
   rw[ByteArray.getElem_extract];rfl
  rcases hg with⟨a,e,rfl,hjj⟩|⟨a,e,rfl,hjj⟩|⟨e,e',rfl,hjj⟩
  ·obtain⟨h0,hh⟩:=hin a
   rw[bAt_in s k a]at e
   exact⟨_,.inr (.inl ⟨h0,by omega,rfl,rfl⟩),by rw[ByteArray.size_extract];omega⟩
  ·obtain⟨h0,hh⟩:=hin a
   rw[bAt_in s k a]at e
   exact⟨_,.inr (.inr (.inl ⟨h0,by omega,rfl,rfl⟩)),by rw[ByteArray.size_extract];omega⟩
  ·by_cases a:k<s.size
   ·obtain⟨h0,hh⟩:=hin a
    rw[bAt_in s k a]at e e'
    exact⟨_,.inr (.inr (.inr ⟨h0,by omega,by omega,rfl,rfl⟩)),by rw[ByteArray.size_extract];omega⟩
   ·exact⟨_,.inl ⟨by omega,rfl,rfl⟩,by rw[ByteArray.size_extract];omega⟩
 obtain⟨r,hc,hr⟩:=hcut
 have HC:Hid (∀w,Calls Tryz.prog 149 #[.string (s.extract k s.size)] w fun e w'=>e=.returned (.tuple #[.bool neg,.string r])∧∃n,w'=w.drewN n):=fun w=>cutSign_any _ w (by omega) neg r hc
 have HR:Hid (Rr w G s k):=h
 have hr':(r.size:Int)=(s.size:Int)-(j:Int):=by omega
 clear h hc hg hr hsz
 go_enter Tryz.func132,Tryz.ntmps132
 go_wp2
 go_quiet (first|(go_at_call 149;exact Calls.quiet_of (HC.out _)))
 go_wp2
 go_ret
 have e:(s.size:Int)-((s.size:Int)-(j:Int))=(j:Int):=by omega
 rw[e]
 exact⟨rfl,(HR.out.drewN nq).set j,((Mod.refl G w).drewN nq).setCell _ _⟩
def errV:Option Nat→Value
 | none=>.nilIface
 | some k=>.iface 133 (.agg #[.int .i64 (k:Int)])
def Wrd(nan:Bool)(s:ByteArray)(k:Nat)(r:Option Nat)(j:Nat):Prop:=
 ∃i,i≤3∧(∀t,t<i→bAt s (k+t)=wordC nan t)∧j=k+i∧((i<3∧bAt s (k+i)≠wordC nan i∧r=some (k+i))∨(i=3∧r=none))
def wordS(nan:Bool):ByteArray:=if nan then ⟨#[110,97,110]⟩ else ⟨#[105,110,102]⟩
set_option maxHeartbeats 1000000 in
theorem expect_any(nan:Bool)(G k:Nat)(s:ByteArray)(w:World)(h:Rr w G s k)(hk:k≤s.size)(hs:s.size≤1200) :
  Calls Tryz.prog 133 #[.pointer (some ⟨G,0,none⟩),.string (wordS nan)] w fun e w'=>∃r j,Wrd nan s k r j∧e=.returned (errV r)∧Rr w' G s j∧Mod G w w':=by
 have HR:Hid (Rr w G s k):=h
 have hz:(wordS nan).size=3:=by cases nan<;>rfl
 have HE:Hid (∀i,i<3→∃c:UInt8,c.toNat≠0∧(c.toNat:Int)=wordC nan i∧(wordS nan).extract i (i+1)=⟨#[c]⟩):=by
  intro i hi
  have:i=0∨i=1∨i=2:=by omega
  rcases this with rfl|rfl|rfl<;>cases nan
  ·exact⟨105,by decide,by decide,by decide⟩
  ·exact⟨110,by decide,by decide,by decide⟩
  ·exact⟨110,by decide,by decide,by decide⟩
  ·exact⟨97,by decide,by decide,by decide⟩
  ·exact⟨102,by decide,by decide,by decide⟩
  ·exact⟨110,by decide,by decide,by decide⟩
 obtain⟨t,ht⟩:∃t,wordS nan=t:=⟨_,rfl⟩
 rw[ht]at hz HE ⊢
 clear h ht
 go_enter Tryz.func133,Tryz.ntmps133
 go_wp2
 go_loopw [8] (fun iv wl=>∃i:Nat,iv=.int .i64 (i:Int)∧i≤3∧k+i≤s.size∧Hid (∀t,t<i→bAt s (k+t)=wordC nan t)∧Hid (Rr wl G s (k+i))∧Hid (Mod G w wl)) (fun iv _=>3-(intOf iv).toNat)
 case atStart=>exact⟨0,rfl,by omega,by omega,fun t ht=>by omega,HR.out,Mod.refl G w⟩
 case round=>
  clear HR
  obtain⟨i,rfl,hi,hki,HI,HR,HM⟩:=hrel
  by_cases hlt:i<3
  ·have hlt':(i:Int)<3:=by omega
   obtain⟨c,hc0,hc1,hc2⟩:=HE.out i hlt
   have HS:Hid (Calls Tryz.prog 81 #[.pointer (some ⟨G,0,none⟩),.string (t.extract i (i+1))] wr fun e w'=>e=.returned (.bool (decide (bAt s (k+i)=wordC nan i)))∧∃n,w'=wr.drewN n):=by
    rw[hc2,←hc1,←pre_one s (k+i) c hc0]
    exact sees_any G (k+i) s ⟨#[c]⟩ wr HR.out hki
   clear hc0 hc1 hc2
   by_cases hm:bAt s (k+i)=wordC nan i
   ·rw[decide_eq_true hm]at HS
    have HM':Hid (bAt s (k+i)=wordC nan i):=hm
    have hin:k+i<s.size:=by
     rcases Nat.lt_or_ge (k+i) s.size with h|h
     ·exact h
     ·rw[bAt_out s (k+i) (by omega)]at hm
      exfalso
      unfold wordC at hm
      have:i=0∨i=1∨i=2:=by omega
      rcases this with rfl|rfl|rfl<;>cases nan<;>simp at hm
    have hat:=HR.out.at_
    have hfr:=HR.out.froz 1
    rw[show((k+i:Nat):Int)=(k:Int)+(i:Int) by omega]at hat
    clear hm
    go_wp2_with (go_at_call 81;refine HS.out.mono ?_;rintro e w' ⟨rfl,n,rfl⟩)
    refine⟨⟨i+1,rfl,by omega,by omega,?_,?_,(HM.out.drewN _).setCell _ _⟩,?_⟩
    ·intro t' ht'
     by_cases e:t'=i
     ·subst e;exact HM'.out
     ·exact HI.out t' (by omega)
    ·have h1:=(HR.out.drewN n).set (k+(i+1))
     rw[show((k+(i+1):Nat):Int)=(k:Int)+(i:Int)+1 by omega]at h1
     exact h1
    ·show 3-((i:Int)+1).toNat<3-(i:Int).toNat;omega
   ·rw[decide_eq_false hm]at HS
    have HM':Hid (bAt s (k+i)≠wordC nan i):=hm
    have hat:=HR.out.at_
    clear hm
    go_wp2_with (go_at_call 81;refine HS.out.mono ?_;rintro e w' ⟨rfl,n,rfl⟩)
    go_ret
    exact⟨some (k+i),k+i,⟨i,hi,HI.out,rfl,.inl ⟨hlt,HM'.out,rfl⟩⟩,rfl,HR.out.drewN n,HM.out.drewN n⟩
  ·obtain rfl:i=3:=by omega
   go_wp2
   go_ret
   exact⟨none,k+3,⟨3,hi,HI.out,rfl,.inr ⟨rfl,rfl⟩⟩,rfl,HR.out,HM.out⟩
def capM(V P:Nat):Prop:=(V<1000000∧P=V)∨(1000000≤V∧1000000≤P∧P<10000000)
theorem capM_zero:capM 0 0:=.inl ⟨by omega,rfl⟩
theorem capM_step{V P d:Nat}(h:capM V P)(hd:d<10)(hP:P<1000000):capM (V*10+d) (P*10+d):=by
 rcases h with⟨h1,rfl⟩|⟨h1,h2,h3⟩
 ·by_cases h:P*10+d<1000000
  ·exact .inl ⟨h,rfl⟩
  ·exact .inr ⟨by omega,by omega,by omega⟩
 ·omega
theorem capM_stay{V P d:Nat}(h:capM V P)(hP:¬P<1000000):capM (V*10+d) P:=by
 rcases h with⟨h1,rfl⟩|⟨h1,h2,h3⟩
 ·omega
 ·exact .inr ⟨by omega,h2,h3⟩
theorem capM_lt{V P:Nat}(h:capM V P):P<10000000:=by rcases h with⟨h1,rfl⟩|⟨h1,h2,h3⟩<;>omega
def Pow(m:Int)(s:ByteArray)(j:Nat)(P:Int)(r:Option Nat)(i:Nat):Prop:=
 (bAt s j≠m∧P=0∧r=none∧i=j) ∨
 (bAt s j=m∧∃neg k,Sgn s (j+1) neg k∧Run 10 s k i∧((i=k∧P=0∧r=some i)∨(k<i∧r=none∧∃N,capM (runV 10 s k i) N∧P=if neg then -(N:Int) else (N:Int))))
theorem runV_zero(b:Nat)(s:ByteArray)(k:Nat):runV b s k k=0:=by
 unfold runV
 have:(s.extract k k).data.toList = []:=by
  apply List.eq_nil_of_length_eq_zero
  have:(s.extract k k).data.toList.length=(s.extract k k).size:=by simp
  rw[this,ByteArray.size_extract];omega
 rw[this];exact valN_nil b
theorem valN_snoc(b:Nat)(l:List UInt8)(c:UInt8)(d:Nat)(hd:(d:Int)=digN 99 (c.toNat:Int)):valN b (l++[c])=valN b l*b+d:=by
 have h1:=valN_cast b (l++[c])
 rw[val_snoc,←valN_cast b l,←hd,←Int.natCast_mul,←Int.natCast_add]at h1
 exact Int.ofNat_inj.1 h1
theorem runV_step(b:Nat)(s:ByteArray)(k j:Nat)(hk:k≤j)(hj:j<s.size)(d:Nat)(hd:(d:Int)=digN 99 (bAt s j)):runV b s k (j+1)=runV b s k j*b+d:=by
 have e:(s.extract k (j+1)).data.toList=(s.extract k j).data.toList++[s[j]]:=by
  have g:∀i,i≤s.size→(s.extract k i).data.toList=(s.data.toList.drop k).take (i-k):=by intro i _;simp
  rw[g (j+1) hj,g j (by omega),show j+1-k=(j-k)+1 by omega,List.take_succ_eq_append_getElem (by simp;omega)]
  congr 2
  rw[List.getElem_drop]
  have:k+(j-k)=j:=by omega
  simp only[this]
  rfl
 unfold runV
 rw[e]
 exact valN_snoc b _ s[j] d (by rw[hd,bAt_in s j hj])
def rrAt(G:Nat)(w:World):Nat:=match w.cell? ⟨G,1,none⟩ with|some (.int _ j)=>j.toNat|_=>0
theorem rrAt_is{G k:Nat}{w:World}{s:ByteArray}(h:Rr w G s k):rrAt G w=k:=by
 unfold rrAt
 rw[h.at_]
 exact Int.toNat_natCast k
set_option maxHeartbeats 2000000 in
set_option maxRecDepth 100000 in
theorem power_any(m:UInt8)(hm:m.toNat≠0)(G j:Nat)(s:ByteArray)(w:World)(h:Rr w G s j)(hj:j≤s.size)(hs:s.size≤1200) :
  Calls Tryz.prog 151 #[.pointer (some ⟨G,0,none⟩),.string ⟨#[m]⟩] w fun e w'=>∃P r i,Pow (m.toNat:Int) s j P r i∧i≤s.size∧e=.returned (.tuple #[.int .i64 P,errV r])∧Rr w' G s i∧Mod G w w':=by
 have HR:Hid (Rr w G s j):=h
 have HS:Hid (Calls Tryz.prog 81 #[.pointer (some ⟨G,0,none⟩),.string ⟨#[m]⟩] w fun e w'=>e=.returned (.bool (decide (bAt s j=(m.toNat:Int))))∧∃n,w'=w.drewN n):=by
  rw[←pre_one s j m hm]
  exact sees_any G j s ⟨#[m]⟩ w h hj
 have hz:(⟨#[m]⟩:ByteArray).size=1:=rfl
 clear h
 by_cases hq:bAt s j=(m.toNat:Int)
 ·rw[decide_eq_true hq]at HS
  have hin:j<s.size:=by
   rcases Nat.lt_or_ge j s.size with h|h
   ·exact h
   ·rw[bAt_out s j (by omega)]at hq;omega
  have HQ:Hid (bAt s j=(m.toNat:Int)):=hq
  have hat:=HR.out.at_
  have hfr:=HR.out.froz 1
  obtain⟨M,hM⟩:∃M:ByteArray,(⟨#[m]⟩:ByteArray)=M:=⟨_,rfl⟩
  rw[hM]at HS hz ⊢
  obtain⟨neg,k,hsg⟩:=sgn_any s (j+1)
  have HSG:Hid (Sgn s (j+1) neg k):=hsg
  have hk1:=sgn_le s (j+1) neg k hsg (by omega)
  have hjj:(j:Int)≤1200:=by omega
  clear hq hM hm hsg
  go_enter Tryz.func151,Tryz.ntmps151
  go_wp2_with fail
  go_step3
  go_wp2_with fail
  refine HS.out.mono ?_
  rintro e w' ⟨rfl,n,rfl⟩
  have HR1:Hid (Rr ((w.drewN n).setCell ⟨G,1,none⟩ (.int .i64 ((j:Int)+1))) G s (j+1)):=by
   have h:=(HR.out.drewN n).set (j+1)
   rw[show((j+1:Nat):Int)=(j:Int)+1 by omega]at h
   exact h
  have HM1:Hid (Mod G w ((w.drewN n).setCell ⟨G,1,none⟩ (.int .i64 ((j:Int)+1)))):=((Mod.refl G w).drewN n).setCell _ _
  have HSN:Hid _:=fun(_:Unit)=>rsign_any G (j+1) s _ HR1.out (by omega) hs neg k HSG.out
  go_wp2_with fail
  refine(HSN.out ()).mono ?_
  rintro e w1 ⟨rfl,hr2,hm2⟩
  have HR2:Hid (Rr w1 G s k):=hr2
  have HM2:Hid (Mod G w w1):=HM1.out.trans hm2
  have hat2:=hr2.at_
  clear hr2 hm2 HR HR1 HM1 HSN hat hfr HS
  go_wp2_with fail
  go_quiet (fail)
  go_wp2_with fail
  have HR3:Hid (Rr (w1.drewN nq) G s k):=HR2.out.drewN nq
  have HM3:Hid (Mod G w (w1.drewN nq)):=HM2.out.drewN nq
  try go_step3
  try go_wp2_with fail
  go_loopw [7] (fun pv wl=>∃ (i N:Nat),pv=.int .i64 (N:Int)∧k≤i∧i≤s.size∧N<10000000∧Hid (capM (runV 10 s k i) N)∧Hid (∀i',k≤i'→i'<i→Dig 10 s i')∧Hid (Rr wl G s i)∧Hid (Mod G w wl)) (fun _ wl=>s.size-rrAt G wl)
  case atStart=>exact⟨k,0,rfl,Nat.le_refl _,hk1,by omega,by show capM (runV 10 s k k) 0;rw[runV_zero];exact capM_zero,fun i' h1 h2=>by omega,HR3.out,HM3.out⟩
  case round=>
   clear HR3 HM3 HR2 HM2 hat2
   obtain⟨i,N,rfl,hki,his,hN,HC,HI,HR,HM⟩:=hrel
   have htx:=HR.out.txt
   have hat:=HR.out.at_
   have hfr:=HR.out.froz 1
   by_cases hlt:i<s.size
   ·have hlt':(i:Int)<(s.size:Int):=by omega
    have HD:Hid _:=fun w=>implDigit_byte s[i] w
    have hd0:=digN_lo 36 (s[i].toNat:Int) (by omega)
    have hd1:=digN_hi 36 (s[i].toNat:Int) (by omega)
    have HDS:Hid _:=fun(_:Unit)=>digN_same 36 99 (s[i].toNat:Int) 10 (by omega) (by omega)
    have HBA:Hid _:=fun(_:Unit)=>bAt_in s i hlt
    obtain⟨d,hd⟩:∃d:Int,digN 36 (s[i].toNat:Int)=d:=⟨_,rfl⟩
    rw[hd]at HD hd0 hd1 HDS
    clear hd
    by_cases hten:10≤d
    ·have HEND:Hid (¬Dig 10 s i):=fun h=>by have h1:=h.2;rw[HBA.out ()]at h1;have h2:=(HDS.out ()).1.2 h1;omega
     by_cases hik:i=k
     ·subst hik
      go_wp2_with fail
      go_quiet (fail)
      go_wp2_with fail
      go_region_held3 (fun w'=>w'.cell? ⟨G,0,none⟩=some (.string s)∧w'.cell? ⟨G,1,none⟩=some (.int .i64 (i:Int))) (go_keep) (first|(go_at_call 142;refine(HD.out _).mono ?_;rintro e w' ⟨rfl,rfl⟩))
      all_goals go_wp2_with fail
      go_quiet (fail)
      go_wp2_with fail
      try rw[Exit.noGoto_ret]
      go_ret2
      exact⟨0,some i,i,.inr ⟨HQ.out,neg,i,HSG.out,⟨Nat.le_refl _,his,HI.out,HEND.out⟩,.inl ⟨rfl,rfl,rfl⟩⟩,his,rfl,HR.out,HM.out⟩
     ·have hb:((i:Int)==(k:Int))=false:=beq_eq_false_iff_ne.2 (by omega)
      cases neg
      all_goals
       go_wp2_with fail
       go_quiet (fail)
       go_wp2_with fail
       go_region_held3 (fun w'=>w'.cell? ⟨G,0,none⟩=some (.string s)∧w'.cell? ⟨G,1,none⟩=some (.int .i64 (i:Int))) (go_keep) (first|(go_at_call 142;refine(HD.out _).mono ?_;rintro e w' ⟨rfl,rfl⟩))
       all_goals go_wp2_with fail
       try rw[Exit.noGoto_ret]
       go_ret2
       exact⟨_,none,i,.inr ⟨HQ.out,_,k,HSG.out,⟨hki,his,HI.out,HEND.out⟩,.inr ⟨by omega,rfl,N,HC.out,rfl⟩⟩,his,rfl,HR.out,HM.out⟩
    ·have hten':decide (10≤d)=false:=decide_eq_false hten
     have hten2:d<10:=by omega
     have HDG:Hid (Dig 10 s i):=⟨hlt,by rw[HBA.out ()];exact(HDS.out ()).1.1 (by omega)⟩
     by_cases hsm:(N:Int)<1000000
     ·clear hten
      go_wp2_with fail
      go_quiet (fail)
      go_wp2_with fail
      go_region_held3 (fun w'=>w'.cell? ⟨G,0,none⟩=some (.string s)∧w'.cell? ⟨G,1,none⟩=some (.int .i64 (i:Int))) (go_keep) (first|(go_at_call 142;refine(HD.out _).mono ?_;rintro e w' ⟨rfl,rfl⟩))
      all_goals go_wp2_with fail
      refine⟨⟨i+1,N*10+d.toNat,by first|rfl|(congr 1;omega),by omega,by omega,by omega,?_,?_,?_,(HM.out.drewN _).setCell _ _⟩,?_⟩
      ·show capM (runV 10 s k (i+1)) _
       rw[runV_step 10 s k i hki hlt d.toNat (by rw[HBA.out (),←(HDS.out ()).2 (by omega)];omega)]
       exact capM_step HC.out (by omega) (by omega)
      ·intro i' h1 h2
       by_cases e:i'=i
       ·subst e;exact HDG.out
       ·exact HI.out i' h1 (by omega)
      ·have h:=Rr.set (w:=_) (show Rr _ G s i from HR.out) (i+1)
       rw[show((i+1:Nat):Int)=(i:Int)+1 by omega]at h
       exact h
      ·rw[rrAt_is HR.out]
       refine Nat.lt_of_le_of_lt (Nat.le_of_eq (congrArg (s.size - ·) (rrAt_is (s:=s) (k:=i+1) ?_))) (show s.size-(i+1)<s.size-i by omega)
       have h:=Rr.set (w:=_) (show Rr _ G s i from HR.out) (i+1)
       rw[show((i+1:Nat):Int)=(i:Int)+1 by omega]at h
       exact h
     ·have hsm':decide ((N:Int)<1000000)=false:=decide_eq_false hsm
      clear hten
      go_wp2_with fail
      go_quiet (fail)
      go_wp2_with fail
      go_region_held3 (fun w'=>w'.cell? ⟨G,0,none⟩=some (.string s)∧w'.cell? ⟨G,1,none⟩=some (.int .i64 (i:Int))) (go_keep) (first|(go_at_call 142;refine(HD.out _).mono ?_;rintro e w' ⟨rfl,rfl⟩))
      all_goals go_wp2_with fail
      refine⟨⟨i+1,N,by first|rfl|(congr 1;omega),by omega,by omega,by omega,?_,?_,?_,(HM.out.drewN _).setCell _ _⟩,?_⟩
      ·show capM (runV 10 s k (i+1)) _
       rw[runV_step 10 s k i hki hlt d.toNat (by rw[HBA.out (),←(HDS.out ()).2 (by omega)];omega)]
       exact capM_stay HC.out (by omega)
      ·intro i' h1 h2
       by_cases e:i'=i
       ·subst e;exact HDG.out
       ·exact HI.out i' h1 (by omega)
      ·have h:=Rr.set (w:=_) (show Rr _ G s i from HR.out) (i+1)
       rw[show((i+1:Nat):Int)=(i:Int)+1 by omega]at h
       exact h
      ·rw[rrAt_is HR.out]
       refine Nat.lt_of_le_of_lt (Nat.le_of_eq (congrArg (s.size - ·) (rrAt_is (s:=s) (k:=i+1) ?_))) (show s.size-(i+1)<s.size-i by omega)
       have h:=Rr.set (w:=_) (show Rr _ G s i from HR.out) (i+1)
       rw[show((i+1:Nat):Int)=(i:Int)+1 by omega]at h
       exact h
   ·have hlt':decide ((i:Int)<(s.size:Int))=false:=decide_eq_false (by omega)
    have HEND:Hid (¬Dig 10 s i):=fun h=>hlt h.1
    by_cases hik:i=k
    ·subst hik
     go_wp2_with fail
     go_quiet (fail)
     go_wp2_with fail
     go_quiet (fail)
     go_wp2_with fail
     try rw[Exit.noGoto_ret]
     go_ret2
     exact⟨0,some i,i,.inr ⟨HQ.out,neg,i,HSG.out,⟨Nat.le_refl _,his,HI.out,HEND.out⟩,.inl ⟨rfl,rfl,rfl⟩⟩,his,rfl,HR.out,HM.out⟩
    ·have hb:((i:Int)==(k:Int))=false:=beq_eq_false_iff_ne.2 (by omega)
     cases neg
     all_goals
      go_wp2_with fail
      go_quiet (fail)
      go_wp2_with fail
      try rw[Exit.noGoto_ret]
      go_ret2
      exact⟨_,none,i,.inr ⟨HQ.out,_,k,HSG.out,⟨hki,his,HI.out,HEND.out⟩,.inr ⟨by omega,rfl,N,HC.out,rfl⟩⟩,his,rfl,HR.out,HM.out⟩
 ·rw[decide_eq_false hq]at HS
  have HQ:Hid (bAt s j≠(m.toNat:Int)):=hq
  clear hq
  go_enter Tryz.func151,Tryz.ntmps151
  go_wp2_with fail
  go_step3
  go_wp2_with fail
  refine HS.out.mono ?_
  rintro e w' ⟨rfl,n,rfl⟩
  go_wp2_with fail
  try rw[Exit.noGoto_ret]
  go_ret2
  exact⟨0,none,j,.inl ⟨HQ.out,rfl,rfl,rfl⟩,hj,rfl,HR.out.drewN n,(Mod.refl G w).drewN n⟩
end Go.Proofs.YtenbfookfcmpoaaGreatDoor
