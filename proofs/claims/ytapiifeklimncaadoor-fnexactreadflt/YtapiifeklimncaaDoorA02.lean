import Derived.Test.YtapiifeklimncaaDoorA01
import Derived.WalkKit
import Derived.Test.YtapiifeklimncaaDoorRows
import Derived.WalkSpells
import Derived.WalkLawsBesides
import Derived.Outline
import Derived.BigQuiet
import Derived.Deep.QuietTactic
import Derived.Laws.BitsAllLaws
/- Reading, as plain relations: no program is spoken of here. -/
namespace Go.Proofs.YtapiifeklimncaaDoor
open Go.ChangeShapes Go.WideShapes Go.RowKit

theorem take_all (s : ByteArray) (k : Nat) (h : s.size ≤ k) : s.data.toList.take k = s.data.toList := List.take_of_length_le (by simpa using h)
theorem empty_iff (s : ByteArray) : s.data.toList = [] ↔ s.size = 0 := by
  rw [← List.length_eq_zero_iff]; simp
theorem isEmpty_yes (s : ByteArray) (h : s.size = 0) : s.toList.isEmpty = true := by
  rw [ByteArray.toList_eq, List.isEmpty_iff]; exact (empty_iff s).2 h
theorem isEmpty_no (s : ByteArray) (h : ¬ s.size = 0) : s.toList.isEmpty = false := by
  rw [ByteArray.toList_eq]
  cases hc : s.data.toList.isEmpty
  · rfl
  · exact absurd ((empty_iff s).1 (List.isEmpty_iff.1 hc)) h

/-- A text's sign and what stands behind it. -/
def Cut (s : ByteArray) (neg : Bool) (r : ByteArray) : Prop :=
  (s.size = 0 ∧ neg = false ∧ r = s) ∨ (∃ _ : 0 < s.size, s[0].toNat = 45 ∧ neg = true ∧ r = s.extract 1 s.size)
  ∨ (∃ _ : 0 < s.size, s[0].toNat = 43 ∧ neg = false ∧ r = s.extract 1 s.size) ∨ (∃ _ : 0 < s.size, s[0].toNat ≠ 45 ∧ s[0].toNat ≠ 43 ∧ neg = false ∧ r = s)
def lim (neg : Bool) : Int := if neg then 9223372036854775808 else 9223372036854775807
/-- What reading answers. -/
def ReadV (b : Int) (neg : Bool) (l : List UInt8) (c n : Int) : Prop :=
  ((l = [] ∨ ¬ good b l) ∧ c = 2 ∧ n = 0) ∨ (l ≠ [] ∧ good b l ∧ lim neg < val b l ∧ c = 3 ∧ n = 0)
  ∨ (l ≠ [] ∧ good b l ∧ val b l ≤ lim neg ∧ c = 0 ∧ n = if neg then - val b l else val b l)
theorem readV_one (b : Int) (neg : Bool) (l : List UInt8) (c n c' n' : Int) (h : ReadV b neg l c n) (h' : ReadV b neg l c' n') : c = c' ∧ n = n' := by
  rcases h with ⟨a, rfl, rfl⟩ | ⟨a, a', a'', rfl, rfl⟩ | ⟨a, a', a'', rfl, rfl⟩ <;> rcases h' with ⟨d, rfl, rfl⟩ | ⟨d, d', d'', rfl, rfl⟩ | ⟨d, d', d'', rfl, rfl⟩
  · exact ⟨rfl, rfl⟩
  · exact (a.elim d (fun h => h d')).elim
  · exact (a.elim d (fun h => h d')).elim
  · exact (d.elim a (fun h => h a')).elim
  · exact ⟨rfl, rfl⟩
  · exact absurd a'' (by omega)
  · exact (d.elim a (fun h => h a')).elim
  · exact absurd d'' (by omega)
  · exact ⟨rfl, rfl⟩

theorem lim_true : lim true = 9223372036854775808 := rfl
theorem lim_false : lim false = 9223372036854775807 := rfl
theorem readV_bad (b : Int) (neg : Bool) (l : List UInt8) (h : l = [] ∨ ¬ good b l) : ReadV b neg l 2 0 := .inl ⟨h, rfl, rfl⟩
theorem readV_over (b : Int) (neg : Bool) (l : List UInt8) (h : l ≠ []) (hg : good b l) (hv : lim neg < val b l) : ReadV b neg l 3 0 := .inr (.inl ⟨h, hg, hv, rfl, rfl⟩)
theorem readV_plus (b : Int) (l : List UInt8) (h : l ≠ []) (hg : good b l) (hv : val b l ≤ 9223372036854775807) : ReadV b false l 0 (val b l) := .inr (.inr ⟨h, hg, hv, rfl, rfl⟩)
theorem readV_minus (b n : Int) (l : List UInt8) (h : l ≠ []) (hg : good b l) (hv : val b l ≤ 9223372036854775808) (hn : n = - val b l) : ReadV b true l 0 n := .inr (.inr ⟨h, hg, hv, rfl, hn⟩)
theorem wrap_least (V : Int) (h : 9223372036854775808 ≤ V) (h' : V ≤ 9223372036854775808) : wrap64 (-(wrap64 V)) = -V := by
  unfold wrap64; omega
theorem extract_size (s : ByteArray) (h : s.size ≤ 1200) : (s.extract 1 s.size).size ≤ 1200 := by
  rw [ByteArray.size_extract]; omega

theorem cut_exists (s : ByteArray) : ∃ neg r, Cut s neg r := by
  by_cases hz : s.size = 0
  · exact ⟨false, s, .inl ⟨hz, rfl, rfl⟩⟩
  · have hp : 0 < s.size := by omega
    by_cases h45 : s[0].toNat = 45
    · exact ⟨true, _, .inr (.inl ⟨hp, h45, rfl, rfl⟩)⟩
    · by_cases h43 : s[0].toNat = 43
      · exact ⟨false, _, .inr (.inr (.inl ⟨hp, h43, rfl, rfl⟩))⟩
      · exact ⟨false, s, .inr (.inr (.inr ⟨hp, h45, h43, rfl, rfl⟩))⟩
theorem cut_size (s : ByteArray) (neg : Bool) (r : ByteArray) (hs : s.size ≤ 1200) (hc : Cut s neg r) : r.size ≤ 1200 := by
  rcases hc with ⟨_, _, rfl⟩ | ⟨_, _, _, rfl⟩ | ⟨_, _, _, rfl⟩ | ⟨_, _, _, _, rfl⟩
  · exact hs
  · exact extract_size s hs
  · exact extract_size s hs
  · exact hs

end Go.Proofs.YtapiifeklimncaaDoor

/- A callee that writes into one block alone. -/
namespace Go.Proofs.YtapiifeklimncaaDoor
open Go.ChangeShapes Go.WideShapes Go.RowKit

/-- Of what was there nothing has turned but block B. -/
def Only (B : Nat) (w w' : World) : Prop := w'.os = w.os ∧ w'.tape = w.tape ∧ w'.output = w.output ∧ w'.heap.size = w.heap.size ∧ ∀ k, k ≠ B → w'.heap[k]? = w.heap[k]?
theorem Only.refl (B : Nat) (w : World) : Only B w w := ⟨rfl, rfl, rfl, rfl, fun _ _ => rfl⟩
theorem Only.trans {B : Nat} {a b c : World} (h : Only B a b) (k : Only B b c) : Only B a c :=
  ⟨k.1.trans h.1, k.2.1.trans h.2.1, k.2.2.1.trans h.2.2.1, k.2.2.2.1.trans h.2.2.2.1, fun i hi => (k.2.2.2.2 i hi).trans (h.2.2.2.2 i hi)⟩
theorem Only.drewN {B : Nat} {a w : World} (h : Only B a w) (n : Nat) : Only B a (w.drewN n) := h.trans ⟨rfl, rfl, rfl, rfl, fun _ _ => rfl⟩
theorem Only.setCell {B : Nat} {a w : World} (h : Only B a w) (o : Nat) (u : Value) : Only B a (w.setCell ⟨B, o, none⟩ u) :=
  h.trans ⟨rfl, rfl, rfl, by simp [World.setCell], fun k hk => Below.heap_setCell _ _ _ _ hk⟩
theorem Only.cell {B : Nat} {w w' : World} (h : Only B w w') {p : Addr} (hp : p.block ≠ B) : w'.cell? p = w.cell? p := World.cell?_of_block (w := w) (h.2.2.2.2 p.block hp)
theorem Only.frozen {B : Nat} {w w' : World} (h : Only B w w') {p : Addr} (hp : p.block ≠ B) : w'.frozen? p = w.frozen? p := World.frozen?_of_block (w := w) (h.2.2.2.2 p.block hp)
theorem Only.below {B C : Nat} {w w' : World} (h : Only B w w') (hC : C ≤ B) : Below C w w' :=
  ⟨h.1, h.2.1, h.2.2.1, by rw [h.2.2.2.1]; exact Nat.le_refl _, fun k hk => h.2.2.2.2 k (by omega)⟩

theorem cell_lt {w : World} {p : Addr} {v : Value} (h : w.cell? p = some v) : p.block < w.heap.size := by
  by_cases hp : p.block < w.heap.size
  · exact hp
  · have e : w.heap[p.block]? = Option.none := Array.getElem?_eq_none (by omega)
    simp [World.cell?, e] at h
end Go.Proofs.YtapiifeklimncaaDoor

/- cutSign of the program. -/
namespace Go.Proofs.YtapiifeklimncaaDoor
open Go.ChangeShapes Go.WideShapes Go.RowKit

set_option maxHeartbeats 400000 in
theorem cutSign_any (s : ByteArray) (w : World) (hs : s.size ≤ 10000) (neg : Bool) (r : ByteArray) (hc : Cut s neg r) :
    Calls Tryd.prog 48 #[.string s] w fun e w' => e = .returned (.tuple #[.bool neg, .string r]) ∧ ∃ n, w' = w.drewN n := by
  rcases hc with ⟨hz, rfl, rfl⟩ | ⟨hz, h45, rfl, rfl⟩ | ⟨hz, h43, rfl, rfl⟩ | ⟨hz, h45, h43, rfl, rfl⟩
  · have he := isEmpty_yes r hz
    clear hz
    go_enter Tryd.func48, Tryd.ntmps48
    go_wp2
    go_ret2
    exact ⟨rfl, 0, rfl⟩
  · have he := isEmpty_no s (by omega)
    have e1 : ((s[0].toNat : Int) != 45) = false := by simp [h45]
    have e3 : ((s[0].toNat : Int) == 45) = true := by simp [h45]
    clear h45
    go_enter Tryd.func48, Tryd.ntmps48
    go_wp2
    go_quiet (fail)
    go_wp2
    go_ret2
    exact ⟨rfl, _, rfl⟩
  · have he := isEmpty_no s (by omega)
    have e1 : ((s[0].toNat : Int) != 45) = true := by simp [h43]
    have e2 : ((s[0].toNat : Int) != 43) = false := by simp [h43]
    have e3 : ((s[0].toNat : Int) == 45) = false := by simp [h43]
    clear h43
    go_enter Tryd.func48, Tryd.ntmps48
    go_wp2
    go_quiet (fail)
    go_wp2
    go_ret2
    exact ⟨rfl, _, rfl⟩
  · have he := isEmpty_no r (by omega)
    have e1 : ((r[0].toNat : Int) != 45) = true := bne_iff_ne.2 (by omega)
    have e2 : ((r[0].toNat : Int) != 43) = true := bne_iff_ne.2 (by omega)
    clear h45 h43
    go_enter Tryd.func48, Tryd.ntmps48
    go_wp2
    go_ret2
    exact ⟨rfl, 0, rfl⟩
end Go.Proofs.YtapiifeklimncaaDoor

