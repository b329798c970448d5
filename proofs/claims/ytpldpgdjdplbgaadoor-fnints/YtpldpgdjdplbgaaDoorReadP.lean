/- Reading, as plain relations: no program is spoken of here. -/
import Derived.Test.YtpldpgdjdplbgaaDoorDigits
import Derived.WalkKit
namespace Go.Proofs.YtpldpgdjdplbgaaDoor
open Go.ChangeShapes Go.WideShapes Go.RowKit

theorem take_all (s : ByteArray) (k : Nat) (h : s.size ≤ k) : s.data.toList.take k = s.data.toList := List.take_of_length_le (by simpa using h)
theorem empty_iff (s : ByteArray) : s.data.toList = [] ↔ s.size = 0 := by
  rw [← List.length_eq_zero_iff]; simp
theorem isEmpty_yes (s : ByteArray) (h : s.size = 0) : s.toList.isEmpty = true := by
  rw [ByteArray.toList_eq, List.isEmpty_iff]; exact (empty_iff s).2 h
theorem isEmpty_no (s : ByteArray) (h : ¬ s.size = 0) : s.toList.isEmpty = false := by
  rw [ByteArray.toList_eq]
  cases hc : s.data.toList.isEmpty
  · rfl
  · exact absurd ((empty_iff s).1 (List.isEmpty_iff.1 hc)) h

/-- A text's sign and what stands behind it. -/
def Cut (s : ByteArray) (neg : Bool) (r : ByteArray) : Prop :=
  (s.size = 0 ∧ neg = false ∧ r = s) ∨ (∃ _ : 0 < s.size, s[0].toNat = 45 ∧ neg = true ∧ r = s.extract 1 s.size)
  ∨ (∃ _ : 0 < s.size, s[0].toNat = 43 ∧ neg = false ∧ r = s.extract 1 s.size) ∨ (∃ _ : 0 < s.size, s[0].toNat ≠ 45 ∧ s[0].toNat ≠ 43 ∧ neg = false ∧ r = s)
def lim (neg : Bool) : Int := if neg then 9223372036854775808 else 9223372036854775807
/-- What reading answers. -/
def ReadV (b : Int) (neg : Bool) (l : List UInt8) (c n : Int) : Prop :=
  ((l = [] ∨ ¬ good b l) ∧ c = 2 ∧ n = 0) ∨ (l ≠ [] ∧ good b l ∧ lim neg < val b l ∧ c = 3 ∧ n = 0)
  ∨ (l ≠ [] ∧ good b l ∧ val b l ≤ lim neg ∧ c = 0 ∧ n = if neg then - val b l else val b l)
theorem readV_one (b : Int) (neg : Bool) (l : List UInt8) (c n c' n' : Int) (h : ReadV b neg l c n) (h' : ReadV b neg l c' n') : c = c' ∧ n = n' := by
  rcases h with ⟨a, rfl, rfl⟩ | ⟨a, a', a'', rfl, rfl⟩ | ⟨a, a', a'', rfl, rfl⟩ <;> rcases h' with ⟨d, rfl, rfl⟩ | ⟨d, d', d'', rfl, rfl⟩ | ⟨d, d', d'', rfl, rfl⟩
  · exact ⟨rfl, rfl⟩
  · exact (a.elim d (fun h => h d')).elim
  · exact (a.elim d (fun h => h d')).elim
  · exact (d.elim a (fun h => h a')).elim
  · exact ⟨rfl, rfl⟩
  · exact absurd a'' (by omega)
  · exact (d.elim a (fun h => h a')).elim
  · exact absurd d'' (by omega)
  · exact ⟨rfl, rfl⟩

theorem lim_true : lim true = 9223372036854775808 := rfl
theorem lim_false : lim false = 9223372036854775807 := rfl
theorem readV_bad (b : Int) (neg : Bool) (l : List UInt8) (h : l = [] ∨ ¬ good b l) : ReadV b neg l 2 0 := .inl ⟨h, rfl, rfl⟩
theorem readV_over (b : Int) (neg : Bool) (l : List UInt8) (h : l ≠ []) (hg : good b l) (hv : lim neg < val b l) : ReadV b neg l 3 0 := .inr (.inl ⟨h, hg, hv, rfl, rfl⟩)
theorem readV_plus (b : Int) (l : List UInt8) (h : l ≠ []) (hg : good b l) (hv : val b l ≤ 9223372036854775807) : ReadV b false l 0 (val b l) := .inr (.inr ⟨h, hg, hv, rfl, rfl⟩)
theorem readV_minus (b n : Int) (l : List UInt8) (h : l ≠ []) (hg : good b l) (hv : val b l ≤ 9223372036854775808) (hn : n = - val b l) : ReadV b true l 0 n := .inr (.inr ⟨h, hg, hv, rfl, hn⟩)
theorem wrap_least (V : Int) (h : 9223372036854775808 ≤ V) (h' : V ≤ 9223372036854775808) : wrap64 (-(wrap64 V)) = -V := by
  unfold wrap64; omega
theorem extract_size (s : ByteArray) (h : s.size ≤ 1200) : (s.extract 1 s.size).size ≤ 1200 := by
  rw [ByteArray.size_extract]; omega

theorem cut_exists (s : ByteArray) : ∃ neg r, Cut s neg r := by
  by_cases hz : s.size = 0
  · exact ⟨false, s, .inl ⟨hz, rfl, rfl⟩⟩
  · have hp : 0 < s.size := by omega
    by_cases h45 : s[0].toNat = 45
    · exact ⟨true, _, .inr (.inl ⟨hp, h45, rfl, rfl⟩)⟩
    · by_cases h43 : s[0].toNat = 43
      · exact ⟨false, _, .inr (.inr (.inl ⟨hp, h43, rfl, rfl⟩))⟩
      · exact ⟨false, s, .inr (.inr (.inr ⟨hp, h45, h43, rfl, rfl⟩))⟩
theorem cut_size (s : ByteArray) (neg : Bool) (r : ByteArray) (hs : s.size ≤ 1200) (hc : Cut s neg r) : r.size ≤ 1200 := by
  rcases hc with ⟨_, _, rfl⟩ | ⟨_, _, _, rfl⟩ | ⟨_, _, _, rfl⟩ | ⟨_, _, _, _, rfl⟩
  · exact hs
  · exact extract_size s hs
  · exact extract_size s hs
  · exact hs

end Go.Proofs.YtpldpgdjdplbgaaDoor
