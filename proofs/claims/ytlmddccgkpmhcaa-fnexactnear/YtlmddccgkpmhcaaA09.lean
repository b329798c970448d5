import Derived.Test.YtlmddccgkpmhcaaRows
import Derived.Test.YtlmddccgkpmhcaaA08
import Derived.WalkKit
import Derived.WalkSpells
import Derived.WalkLawsBesides
import Derived.Outline
import Derived.BigQuiet
import Derived.Deep.QuietTactic
import Derived.Laws.BitsAllLaws
import Derived.Laws.BitsLemmas
/- What every walk over floats wants. -/
namespace Go.Proofs.Ytlmddccgkpmhcaa
open Go.ChangeShapes Go.WideShapes Go.RowKit
open Ieee (double)

theorem run_neg (x : Nat) (w : World) : (Op.unary .neg (.float .f64 x)).run Try.prog w = .ok (.float .f64 (Op.negFloat .f64 x)) w := rfl
theorem or_low (a M : Nat) (h : M < 4503599627370496) (ha : a < 4096) : bits .or .u64 ((a : Int) * 4503599627370496) (M : Int) = ((a * 4503599627370496 + M : Nat) : Int) := by
  have e1 : ((a : Int) * 4503599627370496) = ((a * 4503599627370496 : Nat) : Int) := by omega
  rw [e1, u64_or_nat _ _ (by omega) (by omega)]
  have := Nat.two_pow_add_eq_or_of_lt (show M < 2 ^ 52 from h) a
  rw [show 2 ^ 52 * a = a * 4503599627370496 by omega] at this
  rw [this]
theorem to_u64 (n : Nat) (h : n < 9007199254740992) : floatToIntVal .f64 (fw false n 0) .u64 = some (n : Int) := by
  unfold floatToIntVal
  have e : (FloatKind.decode .f64 (fw false n 0)).toInt .zero = some (n : Int) := by
    have := whole_fw false n h
    rw [signed_eq, Nat.pow_zero, Nat.mul_one, if_neg (by decide), Int.one_mul] at this
    exact this
  rw [e]
  have h1 : IntKind.u64.min = 0 := by decide
  have h2 : IntKind.u64.max = 18446744073709551615 := by decide
  simp only [h1, h2]
  rw [if_pos (by omega)]
theorem rep_at (m : Nat) (p : Int) (h : m < 9007199254740992) (h1 : -1074 ≤ p) (h2 : p ≤ 971) : Rep m p := by
  refine ⟨h, h1, ?_⟩
  by_cases h0 : m = 0
  · exact .inl h0
  · have hh : m.log2 < 53 ↔ m < 2 ^ 53 := Nat.log2_lt h0
    have := hh.2 h
    exact .inr (by omega)
theorem or_top (r : Nat) (h : r < 9223372036854775808) : bits .or .u64 (r : Int) 9223372036854775808 = ((9223372036854775808 + r : Nat) : Int) := by
  have e := u64_or_nat r 9223372036854775808 (by omega) (by omega)
  have e2 := Nat.two_pow_add_eq_or_of_lt (show r < 2 ^ 63 from h) 1
  rw [Nat.mul_one, Nat.or_comm] at e2
  rw [show ((9223372036854775808 : Nat) : Int) = 9223372036854775808 from rfl] at e
  rw [e]
  rw [show (9223372036854775808 : Nat) = 2 ^ 63 from rfl, ← e2]
theorem float_of (m : Nat) : floatOfInt .f64 (m : Int) = fw false m 0 := by
  show double.nearest (decide ((m : Int) < 0)) (m : Int).natAbs 0 = _
  rw [decide_eq_false (by omega), Int.natAbs_natCast]
  rfl
/-- The 64 bits of a whole number. -/
def u64n (n : Int) : Nat := (IntKind.u64.wrap n).toNat
theorem u64n_cast (n : Int) : IntKind.u64.wrap n = (u64n n : Int) := by unfold u64n; rw [IntKind.wrap_u64]; omega
theorem u64n_lt (n : Int) : u64n n < 18446744073709551616 := by unfold u64n; rw [IntKind.wrap_u64]; omega
theorem mask11 (x : Int) (h0 : 0 ≤ x) (h1 : x < 18446744073709551616) : bits .and .u64 x 2047 = x % 2048 := by
  have h := bits_mask .u64 64 (by decide) (fun n a b => by rw [IntKind.wrap_u64]; omega) 11 (by decide) x h0 (by omega)
  exact h
theorem mask52 (x : Int) (h0 : 0 ≤ x) (h1 : x < 18446744073709551616) : bits .and .u64 x 4503599627370495 = x % 4503599627370496 := by
  have h := bits_mask .u64 64 (by decide) (fun n a b => by rw [IntKind.wrap_u64]; omega) 52 (by decide) x h0 (by omega)
  exact h
theorem or_one (M : Nat) (h : M < 4503599627370496) : bits .or .u64 (M : Int) 4503599627370496 = ((4503599627370496 + M : Nat) : Int) := by
  have e := or_low 1 M h (by omega)
  have c1 := u64_or_nat M 4503599627370496 (by omega) (by omega)
  have c2 := u64_or_nat 4503599627370496 M (by omega) (by omega)
  rw [show ((4503599627370496 : Nat) : Int) = 4503599627370496 from rfl] at c1 c2
  rw [c1, Nat.or_comm, ← c2]
  rw [show ((1 : Nat) : Int) * 4503599627370496 = 4503599627370496 by omega, show 1 * 4503599627370496 + M = 4503599627370496 + M by omega] at e
  exact e
/-- A word's sign, exponent and fraction. -/
theorem word_parts (U : Nat) (h : U < 18446744073709551616) : ∃ s E M, E < 2048 ∧ M < 4503599627370496 ∧ U = signBit s + (E * 4503599627370496 + M) := by
  by_cases hs : U < 9223372036854775808
  · exact ⟨false, U / 4503599627370496, U % 4503599627370496, by omega, by omega, by show U = 0 + _; omega⟩
  · exact ⟨true, (U - 9223372036854775808) / 4503599627370496, (U - 9223372036854775808) % 4503599627370496, by omega, by omega, by show U = 9223372036854775808 + _; omega⟩
theorem not_nan (s : Bool) (r : Nat) (h : r ≤ 9218868437227405312) : ¬ IsNan (signBit s + r) := by
  rintro ⟨t, n, hn⟩
  obtain ⟨s1, s2⟩ := sign_read s r (by omega)
  unfold Ieee.Format.read at hn
  simp only [weight_eq, binade_eq, infRung_eq, s1, s2] at hn
  by_cases h1 : r < 4503599627370496
  · rw [if_pos h1] at hn; cases hn
  · by_cases h2 : r < 9218868437227405312
    · rw [if_neg h1, if_pos h2] at hn; cases hn
    · rw [if_neg h1, if_neg h2, if_pos (by omega)] at hn; cases hn
theorem fw_lt (s : Bool) (m : Nat) (p : Int) (h : Canon m p) : fw s m p < 18446744073709551616 := by
  have := rung_lt m p h
  rw [fw_canon s m p h]
  cases s
  · show 0 + _ < _; omega
  · show 9223372036854775808 + _ < _; omega
end Go.Proofs.Ytlmddccgkpmhcaa

