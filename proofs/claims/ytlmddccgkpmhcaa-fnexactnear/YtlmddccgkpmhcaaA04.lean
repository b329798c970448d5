import Derived.Test.YtlmddccgkpmhcaaA03
/- Floats of 64 bits: signs, infinities, differences, whole numbers. -/
namespace Go.Proofs.Ytlmddccgkpmhcaa
open Ieee

theorem xor_top (r : Nat) (h : r < 2 ^ 63) : (2 ^ 63 + r) ^^^ 2 ^ 63 = r ∧ r ^^^ 2 ^ 63 = 2 ^ 63 + r := by
  have e : 2 ^ 63 + r = 2 ^ 63 ||| r := by have := Nat.two_pow_add_eq_or_of_lt h 1; simpa using this
  have hb : r.testBit 63 = false := Nat.testBit_lt_two_pow h
  constructor
  · rw [e]
    apply Nat.eq_of_testBit_eq
    intro i
    simp only [Nat.testBit_xor, Nat.testBit_or, Nat.testBit_two_pow]
    by_cases hi : 63 = i
    · subst hi; simp [hb]
    · simp [hi]
  · rw [e]
    apply Nat.eq_of_testBit_eq
    intro i
    simp only [Nat.testBit_xor, Nat.testBit_or, Nat.testBit_two_pow]
    by_cases hi : 63 = i
    · subst hi; simp [hb]
    · simp [hi]
theorem neg_word (s : Bool) (r : Nat) (h : r < 9223372036854775808) : Op.negFloat .f64 (signBit s + r) = signBit (!s) + r := by
  have hx := xor_top r h
  cases s
  · show (0 + r) ^^^ 2 ^ 63 = 9223372036854775808 + r
    rw [Nat.zero_add, hx.2]
  · show (9223372036854775808 + r) ^^^ 2 ^ 63 = 0 + r
    rw [Nat.zero_add]; exact hx.1
theorem neg_fw (s : Bool) (m : Nat) (p : Int) (h : Canon m p) : Op.negFloat .f64 (fw s m p) = fw (!s) m p := by
  have := rung_lt m p h
  rw [fw_canon s m p h, fw_canon (!s) m p h, neg_word s _ (by omega)]
/-- An infinity's word. -/
def iw (s : Bool) : Nat := signBit s + 9218868437227405312
theorem read_iw (s : Bool) : double.read (iw s) = .infinity s := by cases s <;> decide
theorem neg_iw (s : Bool) : Op.negFloat .f64 (iw s) = iw (!s) := neg_word s _ (by omega)
theorem order_nan (x y : Nat) (s : Bool) (n : Nat) (h : double.read x = .nan s n) : double.order x y = none ∧ double.order y x = none := by
  unfold Format.order
  rw [h]
  refine ⟨by simp [Datum.order], ?_⟩
  cases double.read y <;> simp [Datum.order]
theorem order_self_fw (s : Bool) (m : Nat) (p : Int) (h : Canon m p) : double.order (fw s m p) (fw s m p) = some .eq := by
  rw [order_fw s s m m p p h h]
  simp [compare, compareOfLessAndEq]
theorem order_self_iw (s : Bool) : double.order (iw s) (iw s) = some .eq := by cases s <;> decide
theorem order_iw_fw (s t : Bool) (m : Nat) (p : Int) (h : Canon m p) : double.order (iw s) (fw t m p) = some (if s then .lt else .gt) := by
  unfold Format.order; rw [read_iw, read_canon t m p h]; rfl
theorem order_fw_iw (s t : Bool) (m : Nat) (p : Int) (h : Canon m p) : double.order (fw t m p) (iw s) = some (if s then .gt else .lt) := by
  unfold Format.order; rw [read_iw, read_canon t m p h]; rfl
/-- Zeros. -/
theorem fw_zero (s : Bool) (p : Int) : fw s 0 p = signBit s := by
  unfold fw Format.nearest; rw [if_pos rfl, word_eq]; omega
theorem canon_zero : Canon 0 (-1074) := .inr ⟨by omega, rfl⟩
/-- A number from 1 to below 2, less 1. -/
theorem sub_one (M : Nat) (h : M < 4503599627370496) : double.sub (fw false (4503599627370496 + M) (-52)) (fw false 4503599627370496 (-52)) = some (fw false M (-52)) := by
  unfold Format.sub
  rw [read_canon false _ _ (.inl ⟨by omega, by omega, by omega, by omega⟩), read_canon false _ _ (.inl ⟨by omega, by omega, by omega, by omega⟩)]
  show (Datum.sum (.number false (4503599627370496 + M) (-52)) (.number true 4503599627370496 (-52))).map double.write = _
  have e : signed false (4503599627370496 + M) 0 + signed true 4503599627370496 0 = (M : Int) := by
    rw [signed_eq, signed_eq, Nat.pow_zero, Nat.mul_one, Nat.mul_one]
    simp; omega
  unfold Datum.sum
  simp only [Int.min_self, Int.sub_self, Int.toNat_zero, e]
  have e2 : (if (M : Int) = 0 then (false && true) else decide ((M : Int) < 0)) = false := by
    split
    · rfl
    · simp
  rw [e2]
  rfl
/-- Cut towards zero. -/
theorem cut_toward (neg : Bool) (n d : Nat) : Toward.zero.cut neg n d = n / 2 ^ d := by
  unfold Toward.cut
  simp only [Nat.shiftLeft_eq, Nat.one_mul, Bool.toNat_false, Nat.add_zero]
  by_cases h : d ≤ n.log2 + 2
  · rw [Nat.min_eq_left h]
  · rw [Nat.min_eq_right (by omega)]
    have h1 : n < 2 ^ (n.log2 + 1) := Nat.lt_log2_self
    have h2 : 2 ^ (n.log2 + 1) ≤ 2 ^ (n.log2 + 2) := Nat.pow_le_pow_right (by omega) (by omega)
    have h3 : 2 ^ (n.log2 + 1) ≤ 2 ^ d := Nat.pow_le_pow_right (by omega) (by omega)
    rw [Nat.div_eq_of_lt (by omega), Nat.div_eq_of_lt (by omega)]
theorem toInt_number (s : Bool) (m : Nat) (p : Int) : Datum.toInt .zero (.number s m p) = some (signed s (m * 2 ^ p.toNat / 2 ^ (-p).toNat) 0) := by
  unfold Datum.toInt Datum.integral
  simp only [cut_toward, Nat.shiftLeft_eq]
/-- A whole number of at most 53 digits, as a float, is that whole number. -/
theorem whole_fw (s : Bool) (n : Nat) (h : n < 9007199254740992) : Datum.toInt .zero (double.read (fw s n 0)) = some (signed s n 0) := by
  by_cases h0 : n = 0
  · subst h0
    rw [fw_zero, ← fw_zero s (-1074), read_canon s 0 (-1074) canon_zero, toInt_number, Nat.zero_mul, Nat.zero_div]
  · have hl : n.log2 ≤ 52 := by
      have hh : n.log2 < 53 ↔ n < 2 ^ 53 := Nat.log2_lt h0
      have := hh.2 h
      omega
    obtain ⟨k, _, hc, he⟩ := canon_of n 0 (by omega) h (by omega) (by omega)
    rw [he s, read_canon s _ _ hc, toInt_number]
    have e1 : (0 - (k : Int)).toNat = 0 := by omega
    have e2 : (-(0 - (k : Int))).toNat = k := by omega
    rw [e1, e2, Nat.pow_zero, Nat.mul_one, Nat.mul_div_cancel _ (Nat.two_pow_pos k)]
end Go.Proofs.Ytlmddccgkpmhcaa

