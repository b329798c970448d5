import Derived.Test.YtcbhcdaedchmlaaDoorA03
import Derived.Test.YtcbhcdaedchmlaaDoorRows
import Derived.WalkKit
import Derived.WalkSpells
import Derived.WalkLawsBesides
import Derived.Outline
import Derived.BigQuiet
import Derived.Deep.QuietTactic
import Derived.Laws.BitsAllLaws
import Derived.Laws.BitsLemmas
/- Floats of 64 bits: how numbers stand to 0, 1, 2 and the greatest. -/
namespace Go.Proofs.YtcbhcdaedchmlaaDoor
open Ieee

theorem cmp_lt (a b : Int) (h : a < b) : compare a b = .lt := by simp only [compare, compareOfLessAndEq]; rw [if_pos h]
theorem cmp_gt (a b : Int) (h : b < a) : compare a b = .gt := by simp only [compare, compareOfLessAndEq]; rw [if_neg (by omega), if_neg (by omega)]
theorem cmp_eq (a b : Int) (h : a = b) : compare a b = .eq := by simp only [compare, compareOfLessAndEq]; rw [if_neg (by omega), if_pos h]
theorem sval_pos (m : Nat) (p : Int) (h : 0 < m) : 0 < sval false m p := by
  unfold sval; rw [signed_eq]
  have : 0 < m * 2 ^ (p + 2200).toNat := Nat.mul_pos h (Nat.two_pow_pos _)
  simp only [Bool.false_eq_true, if_false, Int.one_mul]
  exact Int.ofNat_lt.2 this
theorem sval_neg (m : Nat) (p : Int) : sval true m p = - sval false m p := by
  unfold sval; rw [signed_eq, signed_eq]
  simp only [Bool.false_eq_true, if_false, if_true, Int.one_mul]
  omega
theorem rep_zero : Rep 0 (-1074) := canon_rep _ _ canon_zero
theorem rep_one : Rep 4503599627370496 (-52) := canon_rep _ _ (.inl ⟨by omega, by omega, by omega, by omega⟩)
theorem rep_two : Rep 4503599627370496 (-51) := canon_rep _ _ (.inl ⟨by omega, by omega, by omega, by omega⟩)
theorem rep_most : Rep 9007199254740991 971 := canon_rep _ _ (.inl ⟨by omega, by omega, by omega, by omega⟩)
theorem ord_zero (s : Bool) (m : Nat) (p : Int) (h : Rep m p) (hm : 0 < m) : double.order (fw s m p) 0 = some (if s then .lt else .gt) := by
  rw [bits_zero, order_rep s false m 0 p (-1074) h rep_zero, sval_zero]
  have := sval_pos m p hm
  cases s
  · rw [cmp_gt _ _ this]; rfl
  · rw [sval_neg, cmp_lt _ _ (by omega)]; rfl
theorem ord_zeros (s : Bool) : double.order (signBit s) 0 = some .eq := by
  rw [bits_zero, ← fw_zero s (-1074), order_rep s false 0 0 (-1074) (-1074) rep_zero rep_zero, sval_zero, sval_zero, cmp_eq _ _ rfl]
theorem ord_inf_zero (s : Bool) : double.order (iw s) 0 = some (if s then .lt else .gt) := by
  rw [bits_zero, order_iw_fw s false 0 (-1074) canon_zero]
theorem ord_inf_most : double.order (iw false) 9218868437227405311 = some .gt := by
  rw [bits_most, order_iw_fw false false _ _ (.inl ⟨by omega, by omega, by omega, by omega⟩)]; rfl
theorem ord_most (m : Nat) (p : Int) (h : Canon m p) : (double.order (fw false m p) 9218868437227405311 == some .gt) = false := by
  rw [bits_most, order_rep false false m _ p 971 (canon_rep m p h) rep_most]
  have hle : sval false m p ≤ sval false 9007199254740991 971 := by
    rcases h with ⟨h1, h2, h3, h4⟩ | ⟨h1, rfl⟩
    · exact sval_le _ _ _ _ (by omega) h4
    · exact sval_le _ _ _ _ (by omega) (by omega)
  by_cases he : sval false m p = sval false 9007199254740991 971
  · rw [cmp_eq _ _ he]; rfl
  · rw [cmp_lt _ _ (by omega)]; rfl
/-- From 2 on. -/
theorem ord_two_ge (m : Nat) (p : Int) (h : Rep m p) (hm : 4503599627370496 ≤ m) (hp : -51 ≤ p) : double.order (fw false m p) 4611686018427387904 = some .gt ∨ double.order (fw false m p) 4611686018427387904 = some .eq := by
  rw [bits_two, order_rep false false m _ p (-51) h rep_two]
  have hle : sval false 4503599627370496 (-51) ≤ sval false m p := sval_le _ _ _ _ hm hp
  by_cases he : sval false m p = sval false 4503599627370496 (-51)
  · rw [cmp_eq _ _ he]; exact .inr rfl
  · rw [cmp_gt _ _ (by omega)]; exact .inl rfl
theorem two_form : sval false 4503599627370496 (-51) = sval false 9007199254740992 (-52) := by
  have := sval_scale false 4503599627370496 1 (-51) (by omega)
  rw [← this]; rfl
theorem one_form : sval false 4503599627370496 (-52) = sval false 9007199254740992 (-53) := by
  have := sval_scale false 4503599627370496 1 (-52) (by omega)
  rw [← this]; rfl
theorem ord_two_lt (m : Nat) (p : Int) (h : Rep m p) (hp : p ≤ -52) : (double.order (fw false m p) 4611686018427387904 == some .gt || double.order (fw false m p) 4611686018427387904 == some .eq) = false := by
  rw [bits_two, order_rep false false m _ p (-51) h rep_two, two_form]
  have hlt : sval false m p < sval false 9007199254740992 (-52) := sval_lt _ _ _ _ h.1 hp
  rw [cmp_lt _ _ hlt]; rfl
theorem ord_one_ge (m : Nat) (p : Int) (h : Rep m p) (hm : 4503599627370496 ≤ m) (hp : -52 ≤ p) : (double.order (fw false m p) 4607182418800017408 == some .lt) = false := by
  rw [bits_one, order_rep false false m _ p (-52) h rep_one]
  have hle : sval false 4503599627370496 (-52) ≤ sval false m p := sval_le _ _ _ _ hm hp
  by_cases he : sval false m p = sval false 4503599627370496 (-52)
  · rw [cmp_eq _ _ he]; rfl
  · rw [cmp_gt _ _ (by omega)]; rfl
theorem ord_one_lt (m : Nat) (p : Int) (h : Rep m p) (hp : p ≤ -53 ∨ (m < 4503599627370496 ∧ p ≤ -52)) : double.order (fw false m p) 4607182418800017408 = some .lt := by
  rw [bits_one, order_rep false false m _ p (-52) h rep_one]
  rcases hp with hp | ⟨hm, hp⟩
  · rw [one_form, cmp_lt _ _ (sval_lt _ _ _ _ h.1 hp)]
  · rw [cmp_lt _ _ (sval_lt _ _ _ _ hm hp)]
end Go.Proofs.YtcbhcdaedchmlaaDoor

/- What every walk over floats wants. -/
namespace Go.Proofs.YtcbhcdaedchmlaaDoor
open Go.ChangeShapes Go.WideShapes Go.RowKit
open Ieee (double)

theorem run_neg (x : Nat) (w : World) : (Op.unary .neg (.float .f64 x)).run Tryd.prog w = .ok (.float .f64 (Op.negFloat .f64 x)) w := rfl
theorem or_low (a M : Nat) (h : M < 4503599627370496) (ha : a < 4096) : bits .or .u64 ((a : Int) * 4503599627370496) (M : Int) = ((a * 4503599627370496 + M : Nat) : Int) := by
  have e1 : ((a : Int) * 4503599627370496) = ((a * 4503599627370496 : Nat) : Int) := by omega
  rw [e1, u64_or_nat _ _ (by omega) (by omega)]
  have := Nat.two_pow_add_eq_or_of_lt (show M < 2 ^ 52 from h) a
  rw [show 2 ^ 52 * a = a * 4503599627370496 by omega] at this
  rw [this]
theorem to_u64 (n : Nat) (h : n < 9007199254740992) : floatToIntVal .f64 (fw false n 0) .u64 = some (n : Int) := by
  unfold floatToIntVal
  have e : (FloatKind.decode .f64 (fw false n 0)).toInt .zero = some (n : Int) := by
    have := whole_fw false n h
    rw [signed_eq, Nat.pow_zero, Nat.mul_one, if_neg (by decide), Int.one_mul] at this
    exact this
  rw [e]
  have h1 : IntKind.u64.min = 0 := by decide
  have h2 : IntKind.u64.max = 18446744073709551615 := by decide
  simp only [h1, h2]
  rw [if_pos (by omega)]
theorem rep_at (m : Nat) (p : Int) (h : m < 9007199254740992) (h1 : -1074 ≤ p) (h2 : p ≤ 971) : Rep m p := by
  refine ⟨h, h1, ?_⟩
  by_cases h0 : m = 0
  · exact .inl h0
  · have hh : m.log2 < 53 ↔ m < 2 ^ 53 := Nat.log2_lt h0
    have := hh.2 h
    exact .inr (by omega)
theorem or_top (r : Nat) (h : r < 9223372036854775808) : bits .or .u64 (r : Int) 9223372036854775808 = ((9223372036854775808 + r : Nat) : Int) := by
  have e := u64_or_nat r 9223372036854775808 (by omega) (by omega)
  have e2 := Nat.two_pow_add_eq_or_of_lt (show r < 2 ^ 63 from h) 1
  rw [Nat.mul_one, Nat.or_comm] at e2
  rw [show ((9223372036854775808 : Nat) : Int) = 9223372036854775808 from rfl] at e
  rw [e]
  rw [show (9223372036854775808 : Nat) = 2 ^ 63 from rfl, ← e2]
theorem float_of (m : Nat) : floatOfInt .f64 (m : Int) = fw false m 0 := by
  show double.nearest (decide ((m : Int) < 0)) (m : Int).natAbs 0 = _
  rw [decide_eq_false (by omega), Int.natAbs_natCast]
  rfl
/-- The 64 bits of a whole number. -/
def u64n (n : Int) : Nat := (IntKind.u64.wrap n).toNat
theorem u64n_cast (n : Int) : IntKind.u64.wrap n = (u64n n : Int) := by unfold u64n; rw [IntKind.wrap_u64]; omega
theorem u64n_lt (n : Int) : u64n n < 18446744073709551616 := by unfold u64n; rw [IntKind.wrap_u64]; omega
theorem mask11 (x : Int) (h0 : 0 ≤ x) (h1 : x < 18446744073709551616) : bits .and .u64 x 2047 = x % 2048 := by
  have h := bits_mask .u64 64 (by decide) (fun n a b => by rw [IntKind.wrap_u64]; omega) 11 (by decide) x h0 (by omega)
  exact h
theorem mask52 (x : Int) (h0 : 0 ≤ x) (h1 : x < 18446744073709551616) : bits .and .u64 x 4503599627370495 = x % 4503599627370496 := by
  have h := bits_mask .u64 64 (by decide) (fun n a b => by rw [IntKind.wrap_u64]; omega) 52 (by decide) x h0 (by omega)
  exact h
theorem or_one (M : Nat) (h : M < 4503599627370496) : bits .or .u64 (M : Int) 4503599627370496 = ((4503599627370496 + M : Nat) : Int) := by
  have e := or_low 1 M h (by omega)
  have c1 := u64_or_nat M 4503599627370496 (by omega) (by omega)
  have c2 := u64_or_nat 4503599627370496 M (by omega) (by omega)
  rw [show ((4503599627370496 : Nat) : Int) = 4503599627370496 from rfl] at c1 c2
  rw [c1, Nat.or_comm, ← c2]
  rw [show ((1 : Nat) : Int) * 4503599627370496 = 4503599627370496 by omega, show 1 * 4503599627370496 + M = 4503599627370496 + M by omega] at e
  exact e
/-- A word's sign, exponent and fraction. -/
theorem word_parts (U : Nat) (h : U < 18446744073709551616) : ∃ s E M, E < 2048 ∧ M < 4503599627370496 ∧ U = signBit s + (E * 4503599627370496 + M) := by
  by_cases hs : U < 9223372036854775808
  · exact ⟨false, U / 4503599627370496, U % 4503599627370496, by omega, by omega, by show U = 0 + _; omega⟩
  · exact ⟨true, (U - 9223372036854775808) / 4503599627370496, (U - 9223372036854775808) % 4503599627370496, by omega, by omega, by show U = 9223372036854775808 + _; omega⟩
theorem not_nan (s : Bool) (r : Nat) (h : r ≤ 9218868437227405312) : ¬ IsNan (signBit s + r) := by
  rintro ⟨t, n, hn⟩
  obtain ⟨s1, s2⟩ := sign_read s r (by omega)
  unfold Ieee.Format.read at hn
  simp only [weight_eq, binade_eq, infRung_eq, s1, s2] at hn
  by_cases h1 : r < 4503599627370496
  · rw [if_pos h1] at hn; cases hn
  · by_cases h2 : r < 9218868437227405312
    · rw [if_neg h1, if_pos h2] at hn; cases hn
    · rw [if_neg h1, if_neg h2, if_pos (by omega)] at hn; cases hn
theorem fw_lt (s : Bool) (m : Nat) (p : Int) (h : Canon m p) : fw s m p < 18446744073709551616 := by
  have := rung_lt m p h
  rw [fw_canon s m p h]
  cases s
  · show 0 + _ < _; omega
  · show 9223372036854775808 + _ < _; omega
end Go.Proofs.YtcbhcdaedchmlaaDoor

/- l2inf of the specification. -/
namespace Go.Proofs.YtcbhcdaedchmlaaDoor
open Go.ChangeShapes Go.WideShapes Go.RowKit
open Ieee (double)

set_option maxHeartbeats 400000 in
theorem l2inf_any (w : World) : Calls Tryd.prog 26 #[] w fun e w' => e = .returned (.float .f64 (iw false)) ∧ w' = w := by
  have hd := run_valid (P := Tryd.prog) .quo 25 4607182418800017408 0 (iw false) (one_by_zero false)
  go_enter Tryd.func26, Tryd.ntmps26
  go_wp2
  go_ret
  exact ⟨rfl, rfl⟩
end Go.Proofs.YtcbhcdaedchmlaaDoor

