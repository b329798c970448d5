import Derived.WalkKit
namespace Go.Proofs.YtenbfookfcmpoaaGreatDoor
open Go.RowKit
def digN(none c:Int):Int:=if 48≤c∧c≤57 then c-48 else if 97≤c∧c≤122 then c-97+10 else none
theorem digN_lo(none c:Int)(h:0≤none):0≤digN none c:=by unfold digN;split<;>(try split)<;>omega
theorem digN_hi(none c:Int)(h:36≤none):digN none c≤none:=by unfold digN;split<;>(try split)<;>omega
theorem digN_same(a b c base:Int)(ha:base≤a)(hb:base≤b):(digN a c<base↔digN b c<base)∧(digN a c<base→digN a c=digN b c):=by
 unfold digN;split<;>(try split)<;>omega
def val(b:Int)(l:List UInt8):Int:=l.foldl (fun n c=>n*b+digN 99 c.toNat) 0
def good(b:Int)(l:List UInt8):Prop:=∀c∈l,digN 99 (c.toNat:Int)<b
theorem val_snoc(b:Int)(l:List UInt8)(c:UInt8):val b (l++[c])=val b l*b+digN 99 c.toNat:=by simp[val,List.foldl_append]
theorem fold_nonneg(b:Int)(hb:0≤b)(l:List UInt8):∀n:Int,0≤n→0≤l.foldl (fun n c=>n*b+digN 99 c.toNat) n:=by
 induction l with
 | nil=>intro n h;exact h
 | cons c l ih=>
  intro n h
  have hd:=digN_lo 99 c.toNat (by omega)
  have hm:0≤n*b:=Int.mul_nonneg h hb
  exact ih _ (show 0≤n*b+digN 99 c.toNat by omega)
theorem val_nonneg(b:Int)(hb:0≤b)(l:List UInt8):0≤val b l:=fold_nonneg b hb l 0 (by omega)
theorem take_snoc(s:ByteArray)(k:Nat)(h:k<s.size):s.data.toList.take (k+1)=s.data.toList.take k++[s[k]]:=by
 rw[List.take_succ_eq_append_getElem (by simpa using h)];rfl
theorem val_step(b:Int)(s:ByteArray)(k:Nat)(h:k<s.size):val b (s.data.toList.take (k+1))=val b (s.data.toList.take k)*b+digN 99 (s[k].toNat:Int):=by
 rw[take_snoc s k h,val_snoc]
theorem good_at(b:Int)(s:ByteArray)(hg:good b s.data.toList)(k:Nat)(h:k<s.size):digN 99 (s[k].toNat:Int)<b:=
 hg _ (List.getElem_mem (l:=s.data.toList) (n:=k) (by simpa using h))
theorem good_of(b:Int)(s:ByteArray)(h:∀k (hk:k<s.size),digN 99 (s[k].toNat:Int)<b):good b s.data.toList:=by
 intro c hc
 obtain⟨i,hi,rfl⟩:=List.getElem_of_mem hc
 exact h i (by simpa using hi)
end Go.Proofs.YtenbfookfcmpoaaGreatDoor
