import Derived.Test.YtoedefjngipeiaaGreatDoorA02
import Derived.Test.YtoedefjngipeiaaGreatDoorRows
import Derived.WalkKit
import Derived.WalkSpells
import Derived.WalkLawsBesides
import Derived.Outline
import Derived.BigQuiet
import Derived.Deep.QuietTactic
import Derived.Laws.BitsAllLaws
import Derived.Laws.BitsLemmas
/- A number of 64 digits times a power of two, rounded once: plain. -/
namespace Go.Proofs.YtoedefjngipeiaaGreatDoor
open Ieee

theorem log2_64 (M : Nat) (h1 : 9223372036854775808 ≤ M) (h2 : M < 18446744073709551616) : M.log2 = 63 := by
  rw [Nat.log2_eq_iff (by omega)]
  exact ⟨h1, h2⟩
/-- The last place that is kept. -/
def lastOf (e : Int) : Int := max (e + 11) (-1074)
theorem fw_64 (s : Bool) (M : Nat) (e : Int) (h1 : 9223372036854775808 ≤ M) (h2 : M < 18446744073709551616) :
    fw s M e = signBit s + min ((lastOf e + 1074).toNat * 4503599627370496 + Toward.even.cut s M (lastOf e - e).toNat) 9218868437227405312 := by
  unfold fw Format.nearest
  rw [if_neg (by omega)]
  simp only [word_eq, infRung_eq, binade_eq, least_eq, frac_eq, log2_64 M h1 h2]
  have e1 : max (e + ((63 : Nat) : Int) - ((52 : Nat) : Int)) (-1074) = lastOf e := by unfold lastOf; omega
  rw [e1]
  have e2 : (e - lastOf e).toNat = 0 := by unfold lastOf; omega
  rw [e2, Nat.shiftLeft_zero, show (lastOf e - -1074).toNat = (lastOf e + 1074).toNat by omega]
/-- Rounding, as it is reckoned: what is kept, what is left, half a unit. -/
theorem cut_64 (s : Bool) (M d : Nat) (h1 : 9223372036854775808 ≤ M) (h2 : M < 18446744073709551616) (hd : 1 ≤ d) (hd' : d ≤ 64) :
    Toward.even.cut s M d = if 2 ^ (d - 1) < M % 2 ^ d ∨ (M % 2 ^ d = 2 ^ (d - 1) ∧ M / 2 ^ d % 2 = 1) then M / 2 ^ d + 1 else M / 2 ^ d := by
  unfold Toward.cut
  simp only [log2_64 M h1 h2, Nat.shiftLeft_eq, Nat.one_mul]
  rw [Nat.min_eq_left (by omega)]
  have hp : 2 ^ d = 2 * 2 ^ (d - 1) := by
    rw [← Nat.pow_succ']; congr 1; omega
  generalize hg : 2 ^ (d - 1) = g at *
  rw [hp]
  by_cases ha : g < M % (2 * g)
  · rw [if_pos (.inl ha)]
    have : (decide (2 * g < 2 * (M % (2 * g))) || (2 * g == 2 * (M % (2 * g)) && M / (2 * g) % 2 == 1)) = true := by
      rw [decide_eq_true (by omega), Bool.true_or]
    rw [this]; rfl
  · by_cases hb : M % (2 * g) = g ∧ M / (2 * g) % 2 = 1
    · rw [if_pos (.inr hb)]
      have : (decide (2 * g < 2 * (M % (2 * g))) || (2 * g == 2 * (M % (2 * g)) && M / (2 * g) % 2 == 1)) = true := by
        rw [hb.1, hb.2]; simp
      rw [this]; rfl
    · rw [if_neg (by rintro (h | h); exact ha h; exact hb h)]
      have : (decide (2 * g < 2 * (M % (2 * g))) || (2 * g == 2 * (M % (2 * g)) && M / (2 * g) % 2 == 1)) = false := by
        rw [Bool.or_eq_false_iff]
        refine ⟨decide_eq_false (by omega), ?_⟩
        rw [Bool.and_eq_false_iff]
        by_cases hc : M % (2 * g) = g
        · right
          have : ¬ M / (2 * g) % 2 = 1 := fun h => hb ⟨hc, h⟩
          simpa using this
        · left
          rw [beq_eq_false_iff_ne]; omega
      rw [this]; rfl
theorem cut_far (s : Bool) (M d : Nat) (h1 : 9223372036854775808 ≤ M) (h2 : M < 18446744073709551616) (hd : 65 ≤ d) : Toward.even.cut s M d = 0 := by
  unfold Toward.cut
  simp only [log2_64 M h1 h2, Nat.shiftLeft_eq, Nat.one_mul]
  rw [Nat.min_eq_right (by omega)]
  have e1 : M / 2 ^ (63 + 2) = 0 := Nat.div_eq_of_lt (by omega)
  have e2 : M % 2 ^ (63 + 2) = M := Nat.mod_eq_of_lt (by omega)
  rw [e1, e2]
  have e3 : (decide (2 ^ (63 + 2) < 2 * M) || (2 ^ (63 + 2) == 2 * M && 0 % 2 == 1)) = false := by
    rw [Bool.or_eq_false_iff]
    refine ⟨decide_eq_false (by omega), ?_⟩
    rw [Bool.and_eq_false_iff]
    right; rfl
  rw [e3]; rfl
theorem norm_64 (m : Nat) (hm : 0 < m) (h : m < 18446744073709551616) : 9223372036854775808 ≤ m * 2 ^ (63 - m.log2) ∧ m * 2 ^ (63 - m.log2) < 18446744073709551616 ∧ m.log2 ≤ 63 := by
  have hl : m.log2 ≤ 63 := by
    have hh : m.log2 < 64 ↔ m < 2 ^ 64 := Nat.log2_lt (by omega)
    have := hh.2 h
    omega
  have hlo := Nat.log2_self_le (Nat.ne_of_gt hm)
  have hhi := Nat.lt_log2_self (n := m)
  have a1 : 2 ^ m.log2 * 2 ^ (63 - m.log2) ≤ m * 2 ^ (63 - m.log2) := Nat.mul_le_mul_right _ hlo
  have a2 : m * 2 ^ (63 - m.log2) < 2 ^ (m.log2 + 1) * 2 ^ (63 - m.log2) := Nat.mul_lt_mul_of_pos_right hhi (Nat.two_pow_pos _)
  rw [← Nat.pow_add, show m.log2 + (63 - m.log2) = 63 by omega] at a1
  rw [← Nat.pow_add, show m.log2 + 1 + (63 - m.log2) = 64 by omega] at a2
  exact ⟨a1, a2, hl⟩
/-- Far below, and far above. -/
theorem fw_tiny (s : Bool) (m : Nat) (e : Int) (h : m < 18446744073709551616) (he : e ≤ -1139) : fw s m e = signBit s := by
  by_cases h0 : m = 0
  · subst h0; exact fw_zero s e
  · obtain ⟨a1, a2, a3⟩ := norm_64 m (by omega) h
    rw [← fw_scale s m (63 - m.log2) e, fw_64 s _ _ a1 a2, cut_far s _ _ a1 a2 (by unfold lastOf; omega)]
    have : (lastOf (e - ((63 - m.log2 : Nat) : Int)) + 1074).toNat = 0 := by unfold lastOf; omega
    rw [this]
    omega
theorem fw_huge (s : Bool) (M : Nat) (e : Int) (h1 : 9223372036854775808 ≤ M) (h2 : M < 18446744073709551616) (he : 961 ≤ e) : fw s M e = iw s := by
  rw [fw_64 s M e h1 h2]
  unfold iw
  have : 2047 ≤ (lastOf e + 1074).toNat + 1 := by unfold lastOf; omega
  have hl : (lastOf e - e).toNat = 11 := by unfold lastOf; omega
  rw [hl, cut_64 s M 11 h1 h2 (by omega) (by omega)]
  have hq : 4503599627370496 ≤ M / 2 ^ 11 := by
    rw [Nat.le_div_iff_mul_le (by omega)]; omega
  split
  · rw [Nat.min_eq_right]; omega
  · rw [Nat.min_eq_right]; omega
end Go.Proofs.YtoedefjngipeiaaGreatDoor

/- Floats of 64 bits: how numbers stand to 0, 1, 2 and the greatest. -/
namespace Go.Proofs.YtoedefjngipeiaaGreatDoor
open Ieee

theorem cmp_lt (a b : Int) (h : a < b) : compare a b = .lt := by simp only [compare, compareOfLessAndEq]; rw [if_pos h]
theorem cmp_gt (a b : Int) (h : b < a) : compare a b = .gt := by simp only [compare, compareOfLessAndEq]; rw [if_neg (by omega), if_neg (by omega)]
theorem cmp_eq (a b : Int) (h : a = b) : compare a b = .eq := by simp only [compare, compareOfLessAndEq]; rw [if_neg (by omega), if_pos h]
theorem sval_pos (m : Nat) (p : Int) (h : 0 < m) : 0 < sval false m p := by
  unfold sval; rw [signed_eq]
  have : 0 < m * 2 ^ (p + 2200).toNat := Nat.mul_pos h (Nat.two_pow_pos _)
  simp only [Bool.false_eq_true, if_false, Int.one_mul]
  exact Int.ofNat_lt.2 this
theorem sval_neg (m : Nat) (p : Int) : sval true m p = - sval false m p := by
  unfold sval; rw [signed_eq, signed_eq]
  simp only [Bool.false_eq_true, if_false, if_true, Int.one_mul]
  omega
theorem rep_zero : Rep 0 (-1074) := canon_rep _ _ canon_zero
theorem rep_one : Rep 4503599627370496 (-52) := canon_rep _ _ (.inl ⟨by omega, by omega, by omega, by omega⟩)
theorem rep_two : Rep 4503599627370496 (-51) := canon_rep _ _ (.inl ⟨by omega, by omega, by omega, by omega⟩)
theorem rep_most : Rep 9007199254740991 971 := canon_rep _ _ (.inl ⟨by omega, by omega, by omega, by omega⟩)
theorem ord_zero (s : Bool) (m : Nat) (p : Int) (h : Rep m p) (hm : 0 < m) : double.order (fw s m p) 0 = some (if s then .lt else .gt) := by
  rw [bits_zero, order_rep s false m 0 p (-1074) h rep_zero, sval_zero]
  have := sval_pos m p hm
  cases s
  · rw [cmp_gt _ _ this]; rfl
  · rw [sval_neg, cmp_lt _ _ (by omega)]; rfl
theorem ord_zeros (s : Bool) : double.order (signBit s) 0 = some .eq := by
  rw [bits_zero, ← fw_zero s (-1074), order_rep s false 0 0 (-1074) (-1074) rep_zero rep_zero, sval_zero, sval_zero, cmp_eq _ _ rfl]
theorem ord_inf_zero (s : Bool) : double.order (iw s) 0 = some (if s then .lt else .gt) := by
  rw [bits_zero, order_iw_fw s false 0 (-1074) canon_zero]
theorem ord_inf_most : double.order (iw false) 9218868437227405311 = some .gt := by
  rw [bits_most, order_iw_fw false false _ _ (.inl ⟨by omega, by omega, by omega, by omega⟩)]; rfl
theorem ord_most (m : Nat) (p : Int) (h : Canon m p) : (double.order (fw false m p) 9218868437227405311 == some .gt) = false := by
  rw [bits_most, order_rep false false m _ p 971 (canon_rep m p h) rep_most]
  have hle : sval false m p ≤ sval false 9007199254740991 971 := by
    rcases h with ⟨h1, h2, h3, h4⟩ | ⟨h1, rfl⟩
    · exact sval_le _ _ _ _ (by omega) h4
    · exact sval_le _ _ _ _ (by omega) (by omega)
  by_cases he : sval false m p = sval false 9007199254740991 971
  · rw [cmp_eq _ _ he]; rfl
  · rw [cmp_lt _ _ (by omega)]; rfl
/-- From 2 on. -/
theorem ord_two_ge (m : Nat) (p : Int) (h : Rep m p) (hm : 4503599627370496 ≤ m) (hp : -51 ≤ p) : double.order (fw false m p) 4611686018427387904 = some .gt ∨ double.order (fw false m p) 4611686018427387904 = some .eq := by
  rw [bits_two, order_rep false false m _ p (-51) h rep_two]
  have hle : sval false 4503599627370496 (-51) ≤ sval false m p := sval_le _ _ _ _ hm hp
  by_cases he : sval false m p = sval false 4503599627370496 (-51)
  · rw [cmp_eq _ _ he]; exact .inr rfl
  · rw [cmp_gt _ _ (by omega)]; exact .inl rfl
theorem two_form : sval false 4503599627370496 (-51) = sval false 9007199254740992 (-52) := by
  have := sval_scale false 4503599627370496 1 (-51) (by omega)
  rw [← this]; rfl
theorem one_form : sval false 4503599627370496 (-52) = sval false 9007199254740992 (-53) := by
  have := sval_scale false 4503599627370496 1 (-52) (by omega)
  rw [← this]; rfl
theorem ord_two_lt (m : Nat) (p : Int) (h : Rep m p) (hp : p ≤ -52) : (double.order (fw false m p) 4611686018427387904 == some .gt || double.order (fw false m p) 4611686018427387904 == some .eq) = false := by
  rw [bits_two, order_rep false false m _ p (-51) h rep_two, two_form]
  have hlt : sval false m p < sval false 9007199254740992 (-52) := sval_lt _ _ _ _ h.1 hp
  rw [cmp_lt _ _ hlt]; rfl
theorem ord_one_ge (m : Nat) (p : Int) (h : Rep m p) (hm : 4503599627370496 ≤ m) (hp : -52 ≤ p) : (double.order (fw false m p) 4607182418800017408 == some .lt) = false := by
  rw [bits_one, order_rep false false m _ p (-52) h rep_one]
  have hle : sval false 4503599627370496 (-52) ≤ sval false m p := sval_le _ _ _ _ hm hp
  by_cases he : sval false m p = sval false 4503599627370496 (-52)
  · rw [cmp_eq _ _ he]; rfl
  · rw [cmp_gt _ _ (by omega)]; rfl
theorem ord_one_lt (m : Nat) (p : Int) (h : Rep m p) (hp : p ≤ -53 ∨ (m < 4503599627370496 ∧ p ≤ -52)) : double.order (fw false m p) 4607182418800017408 = some .lt := by
  rw [bits_one, order_rep false false m _ p (-52) h rep_one]
  rcases hp with hp | ⟨hm, hp⟩
  · rw [one_form, cmp_lt _ _ (sval_lt _ _ _ _ h.1 hp)]
  · rw [cmp_lt _ _ (sval_lt _ _ _ _ hm hp)]
end Go.Proofs.YtoedefjngipeiaaGreatDoor

/- What every walk over floats wants. -/
namespace Go.Proofs.YtoedefjngipeiaaGreatDoor
open Go.ChangeShapes Go.WideShapes Go.RowKit
open Ieee (double)

theorem run_neg (x : Nat) (w : World) : (Op.unary .neg (.float .f64 x)).run Tryz.prog w = .ok (.float .f64 (Op.negFloat .f64 x)) w := rfl
theorem or_low (a M : Nat) (h : M < 4503599627370496) (ha : a < 4096) : bits .or .u64 ((a : Int) * 4503599627370496) (M : Int) = ((a * 4503599627370496 + M : Nat) : Int) := by
  have e1 : ((a : Int) * 4503599627370496) = ((a * 4503599627370496 : Nat) : Int) := by omega
  rw [e1, u64_or_nat _ _ (by omega) (by omega)]
  have := Nat.two_pow_add_eq_or_of_lt (show M < 2 ^ 52 from h) a
  rw [show 2 ^ 52 * a = a * 4503599627370496 by omega] at this
  rw [this]
theorem to_u64 (n : Nat) (h : n < 9007199254740992) : floatToIntVal .f64 (fw false n 0) .u64 = some (n : Int) := by
  unfold floatToIntVal
  have e : (FloatKind.decode .f64 (fw false n 0)).toInt .zero = some (n : Int) := by
    have := whole_fw false n h
    rw [signed_eq, Nat.pow_zero, Nat.mul_one, if_neg (by decide), Int.one_mul] at this
    exact this
  rw [e]
  have h1 : IntKind.u64.min = 0 := by decide
  have h2 : IntKind.u64.max = 18446744073709551615 := by decide
  simp only [h1, h2]
  rw [if_pos (by omega)]
theorem rep_at (m : Nat) (p : Int) (h : m < 9007199254740992) (h1 : -1074 ≤ p) (h2 : p ≤ 971) : Rep m p := by
  refine ⟨h, h1, ?_⟩
  by_cases h0 : m = 0
  · exact .inl h0
  · have hh : m.log2 < 53 ↔ m < 2 ^ 53 := Nat.log2_lt h0
    have := hh.2 h
    exact .inr (by omega)
theorem or_top (r : Nat) (h : r < 9223372036854775808) : bits .or .u64 (r : Int) 9223372036854775808 = ((9223372036854775808 + r : Nat) : Int) := by
  have e := u64_or_nat r 9223372036854775808 (by omega) (by omega)
  have e2 := Nat.two_pow_add_eq_or_of_lt (show r < 2 ^ 63 from h) 1
  rw [Nat.mul_one, Nat.or_comm] at e2
  rw [show ((9223372036854775808 : Nat) : Int) = 9223372036854775808 from rfl] at e
  rw [e]
  rw [show (9223372036854775808 : Nat) = 2 ^ 63 from rfl, ← e2]
theorem float_of (m : Nat) : floatOfInt .f64 (m : Int) = fw false m 0 := by
  show double.nearest (decide ((m : Int) < 0)) (m : Int).natAbs 0 = _
  rw [decide_eq_false (by omega), Int.natAbs_natCast]
  rfl
/-- The 64 bits of a whole number. -/
def u64n (n : Int) : Nat := (IntKind.u64.wrap n).toNat
theorem u64n_cast (n : Int) : IntKind.u64.wrap n = (u64n n : Int) := by unfold u64n; rw [IntKind.wrap_u64]; omega
theorem u64n_lt (n : Int) : u64n n < 18446744073709551616 := by unfold u64n; rw [IntKind.wrap_u64]; omega
theorem mask11 (x : Int) (h0 : 0 ≤ x) (h1 : x < 18446744073709551616) : bits .and .u64 x 2047 = x % 2048 := by
  have h := bits_mask .u64 64 (by decide) (fun n a b => by rw [IntKind.wrap_u64]; omega) 11 (by decide) x h0 (by omega)
  exact h
theorem mask52 (x : Int) (h0 : 0 ≤ x) (h1 : x < 18446744073709551616) : bits .and .u64 x 4503599627370495 = x % 4503599627370496 := by
  have h := bits_mask .u64 64 (by decide) (fun n a b => by rw [IntKind.wrap_u64]; omega) 52 (by decide) x h0 (by omega)
  exact h
theorem or_one (M : Nat) (h : M < 4503599627370496) : bits .or .u64 (M : Int) 4503599627370496 = ((4503599627370496 + M : Nat) : Int) := by
  have e := or_low 1 M h (by omega)
  have c1 := u64_or_nat M 4503599627370496 (by omega) (by omega)
  have c2 := u64_or_nat 4503599627370496 M (by omega) (by omega)
  rw [show ((4503599627370496 : Nat) : Int) = 4503599627370496 from rfl] at c1 c2
  rw [c1, Nat.or_comm, ← c2]
  rw [show ((1 : Nat) : Int) * 4503599627370496 = 4503599627370496 by omega, show 1 * 4503599627370496 + M = 4503599627370496 + M by omega] at e
  exact e
/-- A word's sign, exponent and fraction. -/
theorem word_parts (U : Nat) (h : U < 18446744073709551616) : ∃ s E M, E < 2048 ∧ M < 4503599627370496 ∧ U = signBit s + (E * 4503599627370496 + M) := by
  by_cases hs : U < 9223372036854775808
  · exact ⟨false, U / 4503599627370496, U % 4503599627370496, by omega, by omega, by show U = 0 + _; omega⟩
  · exact ⟨true, (U - 9223372036854775808) / 4503599627370496, (U - 9223372036854775808) % 4503599627370496, by omega, by omega, by show U = 9223372036854775808 + _; omega⟩
theorem not_nan (s : Bool) (r : Nat) (h : r ≤ 9218868437227405312) : ¬ IsNan (signBit s + r) := by
  rintro ⟨t, n, hn⟩
  obtain ⟨s1, s2⟩ := sign_read s r (by omega)
  unfold Ieee.Format.read at hn
  simp only [weight_eq, binade_eq, infRung_eq, s1, s2] at hn
  by_cases h1 : r < 4503599627370496
  · rw [if_pos h1] at hn; cases hn
  · by_cases h2 : r < 9218868437227405312
    · rw [if_neg h1, if_pos h2] at hn; cases hn
    · rw [if_neg h1, if_neg h2, if_pos (by omega)] at hn; cases hn
theorem fw_lt (s : Bool) (m : Nat) (p : Int) (h : Canon m p) : fw s m p < 18446744073709551616 := by
  have := rung_lt m p h
  rw [fw_canon s m p h]
  cases s
  · show 0 + _ < _; omega
  · show 9223372036854775808 + _ < _; omega
end Go.Proofs.YtoedefjngipeiaaGreatDoor

