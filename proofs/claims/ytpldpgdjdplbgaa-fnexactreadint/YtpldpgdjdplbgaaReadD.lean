/- ReadInt of the specification. -/
import Derived.Test.YtpldpgdjdplbgaaReadC
namespace Go.Proofs.Ytpldpgdjdplbgaa
open Go.ChangeShapes Go.WideShapes Go.RowKit

/-- A text's sign and what stands behind it. -/
def Cut (s : ByteArray) (neg : Bool) (r : ByteArray) : Prop :=
  (s.size = 0 ∧ neg = false ∧ r = s) ∨ (∃ _ : 0 < s.size, s[0].toNat = 45 ∧ neg = true ∧ r = s.extract 1 s.size)
  ∨ (∃ _ : 0 < s.size, s[0].toNat = 43 ∧ neg = false ∧ r = s.extract 1 s.size) ∨ (∃ _ : 0 < s.size, s[0].toNat ≠ 45 ∧ s[0].toNat ≠ 43 ∧ neg = false ∧ r = s)
def lim (neg : Bool) : Int := if neg then 9223372036854775808 else 9223372036854775807
/-- What reading answers. -/
def ReadV (b : Int) (neg : Bool) (l : List UInt8) (c n : Int) : Prop :=
  ((l = [] ∨ ¬ good b l) ∧ c = 2 ∧ n = 0) ∨ (l ≠ [] ∧ good b l ∧ lim neg < val b l ∧ c = 3 ∧ n = 0)
  ∨ (l ≠ [] ∧ good b l ∧ val b l ≤ lim neg ∧ c = 0 ∧ n = if neg then - val b l else val b l)
theorem readV_one (b : Int) (neg : Bool) (l : List UInt8) (c n c' n' : Int) (h : ReadV b neg l c n) (h' : ReadV b neg l c' n') : c = c' ∧ n = n' := by
  rcases h with ⟨a, rfl, rfl⟩ | ⟨a, a', a'', rfl, rfl⟩ | ⟨a, a', a'', rfl, rfl⟩ <;> rcases h' with ⟨d, rfl, rfl⟩ | ⟨d, d', d'', rfl, rfl⟩ | ⟨d, d', d'', rfl, rfl⟩
  · exact ⟨rfl, rfl⟩
  · exact (a.elim d (fun h => h d')).elim
  · exact (a.elim d (fun h => h d')).elim
  · exact (d.elim a (fun h => h a')).elim
  · exact ⟨rfl, rfl⟩
  · exact absurd a'' (by omega)
  · exact (d.elim a (fun h => h a')).elim
  · exact absurd d'' (by omega)
  · exact ⟨rfl, rfl⟩

set_option maxHeartbeats 400000 in
theorem specRead_bad (s : ByteArray) (b : Int) (w : World) (hs : s.size ≤ 1048576) (h : b < 2 ∨ 36 < b ∨ 1200 < s.size) :
    Calls Try.prog 4 #[.string s, .int .i64 b] w fun e w' => e = .returned (.agg #[.int .i64 1, .int .i64 0]) ∧ Below w.heap.size w w' := by
  go_enter Try.func4, Try.ntmps4
  by_cases h1 : b < 2
  · go_wp2
    exact bodyPost_ret (v := .agg #[.int .i64 1, .int .i64 0]) (by simp [results, Try.results4, go_sem]) rfl ⟨rfl, (Below.refl _ _).alloc (Nat.le_refl _) _⟩
  · by_cases h2 : 36 < b
    · go_wp2
      exact bodyPost_ret (v := .agg #[.int .i64 1, .int .i64 0]) (by simp [results, Try.results4, go_sem]) rfl ⟨rfl, (Below.refl _ _).alloc (Nat.le_refl _) _⟩
    · have h3 : 1200 < s.size := by omega
      go_wp2
      exact bodyPost_ret (v := .agg #[.int .i64 1, .int .i64 0]) (by simp [results, Try.results4, go_sem]) rfl ⟨rfl, (Below.refl _ _).alloc (Nat.le_refl _) _⟩

theorem lim_true : lim true = 9223372036854775808 := rfl
theorem lim_false : lim false = 9223372036854775807 := rfl
theorem readV_bad (b : Int) (neg : Bool) (l : List UInt8) (h : l = [] ∨ ¬ good b l) : ReadV b neg l 2 0 := .inl ⟨h, rfl, rfl⟩
theorem readV_over (b : Int) (neg : Bool) (l : List UInt8) (h : l ≠ []) (hg : good b l) (hv : lim neg < val b l) : ReadV b neg l 3 0 := .inr (.inl ⟨h, hg, hv, rfl, rfl⟩)
theorem readV_plus (b : Int) (l : List UInt8) (h : l ≠ []) (hg : good b l) (hv : val b l ≤ 9223372036854775807) : ReadV b false l 0 (val b l) := .inr (.inr ⟨h, hg, hv, rfl, rfl⟩)
theorem readV_minus (b n : Int) (l : List UInt8) (h : l ≠ []) (hg : good b l) (hv : val b l ≤ 9223372036854775808) (hn : n = - val b l) : ReadV b true l 0 n := .inr (.inr ⟨h, hg, hv, rfl, hn⟩)
theorem wrap_least (V : Int) (h : 9223372036854775808 ≤ V) (h' : V ≤ 9223372036854775808) : wrap64 (-(wrap64 V)) = -V := by
  unfold wrap64; omega
theorem extract_size (s : ByteArray) (h : s.size ≤ 1200) : (s.extract 1 s.size).size ≤ 1200 := by
  rw [ByteArray.size_extract]; omega

end Go.Proofs.Ytpldpgdjdplbgaa
