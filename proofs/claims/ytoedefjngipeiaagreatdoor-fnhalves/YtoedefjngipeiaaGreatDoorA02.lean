import Derived.Test.YtoedefjngipeiaaGreatDoorA01
/- Floats of 64 bits: signs, infinities, differences, whole numbers. -/
namespace Go.Proofs.YtoedefjngipeiaaGreatDoor
open Ieee

theorem xor_top (r : Nat) (h : r < 2 ^ 63) : (2 ^ 63 + r) ^^^ 2 ^ 63 = r ∧ r ^^^ 2 ^ 63 = 2 ^ 63 + r := by
  have e : 2 ^ 63 + r = 2 ^ 63 ||| r := by have := Nat.two_pow_add_eq_or_of_lt h 1; simpa using this
  have hb : r.testBit 63 = false := Nat.testBit_lt_two_pow h
  constructor
  · rw [e]
    apply Nat.eq_of_testBit_eq
    intro i
    simp only [Nat.testBit_xor, Nat.testBit_or, Nat.testBit_two_pow]
    by_cases hi : 63 = i
    · subst hi; simp [hb]
    · simp [hi]
  · rw [e]
    apply Nat.eq_of_testBit_eq
    intro i
    simp only [Nat.testBit_xor, Nat.testBit_or, Nat.testBit_two_pow]
    by_cases hi : 63 = i
    · subst hi; simp [hb]
    · simp [hi]
theorem neg_word (s : Bool) (r : Nat) (h : r < 9223372036854775808) : Op.negFloat .f64 (signBit s + r) = signBit (!s) + r := by
  have hx := xor_top r h
  cases s
  · show (0 + r) ^^^ 2 ^ 63 = 9223372036854775808 + r
    rw [Nat.zero_add, hx.2]
  · show (9223372036854775808 + r) ^^^ 2 ^ 63 = 0 + r
    rw [Nat.zero_add]; exact hx.1
theorem neg_fw (s : Bool) (m : Nat) (p : Int) (h : Canon m p) : Op.negFloat .f64 (fw s m p) = fw (!s) m p := by
  have := rung_lt m p h
  rw [fw_canon s m p h, fw_canon (!s) m p h, neg_word s _ (by omega)]
/-- An infinity's word. -/
def iw (s : Bool) : Nat := signBit s + 9218868437227405312
theorem read_iw (s : Bool) : double.read (iw s) = .infinity s := by cases s <;> decide
theorem neg_iw (s : Bool) : Op.negFloat .f64 (iw s) = iw (!s) := neg_word s _ (by omega)
theorem order_nan (x y : Nat) (s : Bool) (n : Nat) (h : double.read x = .nan s n) : double.order x y = none ∧ double.order y x = none := by
  unfold Format.order
  rw [h]
  refine ⟨by simp [Datum.order], ?_⟩
  cases double.read y <;> simp [Datum.order]
theorem order_self_fw (s : Bool) (m : Nat) (p : Int) (h : Canon m p) : double.order (fw s m p) (fw s m p) = some .eq := by
  rw [order_fw s s m m p p h h]
  simp [compare, compareOfLessAndEq]
theorem order_self_iw (s : Bool) : double.order (iw s) (iw s) = some .eq := by cases s <;> decide
theorem order_iw_fw (s t : Bool) (m : Nat) (p : Int) (h : Canon m p) : double.order (iw s) (fw t m p) = some (if s then .lt else .gt) := by
  unfold Format.order; rw [read_iw, read_canon t m p h]; rfl
theorem order_fw_iw (s t : Bool) (m : Nat) (p : Int) (h : Canon m p) : double.order (fw t m p) (iw s) = some (if s then .gt else .lt) := by
  unfold Format.order; rw [read_iw, read_canon t m p h]; rfl
/-- Zeros. -/
theorem fw_zero (s : Bool) (p : Int) : fw s 0 p = signBit s := by
  unfold fw Format.nearest; rw [if_pos rfl, word_eq]; omega
theorem canon_zero : Canon 0 (-1074) := .inr ⟨by omega, rfl⟩
/-- A number from 1 to below 2, less 1. -/
theorem sub_one (M : Nat) (h : M < 4503599627370496) : double.sub (fw false (4503599627370496 + M) (-52)) (fw false 4503599627370496 (-52)) = some (fw false M (-52)) := by
  unfold Format.sub
  rw [read_canon false _ _ (.inl ⟨by omega, by omega, by omega, by omega⟩), read_canon false _ _ (.inl ⟨by omega, by omega, by omega, by omega⟩)]
  show (Datum.sum (.number false (4503599627370496 + M) (-52)) (.number true 4503599627370496 (-52))).map double.write = _
  have e : signed false (4503599627370496 + M) 0 + signed true 4503599627370496 0 = (M : Int) := by
    rw [signed_eq, signed_eq, Nat.pow_zero, Nat.mul_one, Nat.mul_one]
    simp; omega
  unfold Datum.sum
  simp only [Int.min_self, Int.sub_self, Int.toNat_zero, e]
  have e2 : (if (M : Int) = 0 then (false && true) else decide ((M : Int) < 0)) = false := by
    split
    · rfl
    · simp
  rw [e2]
  rfl
/-- Cut towards zero. -/
theorem cut_toward (neg : Bool) (n d : Nat) : Toward.zero.cut neg n d = n / 2 ^ d := by
  unfold Toward.cut
  simp only [Nat.shiftLeft_eq, Nat.one_mul, Bool.toNat_false, Nat.add_zero]
  by_cases h : d ≤ n.log2 + 2
  · rw [Nat.min_eq_left h]
  · rw [Nat.min_eq_right (by omega)]
    have h1 : n < 2 ^ (n.log2 + 1) := Nat.lt_log2_self
    have h2 : 2 ^ (n.log2 + 1) ≤ 2 ^ (n.log2 + 2) := Nat.pow_le_pow_right (by omega) (by omega)
    have h3 : 2 ^ (n.log2 + 1) ≤ 2 ^ d := Nat.pow_le_pow_right (by omega) (by omega)
    rw [Nat.div_eq_of_lt (by omega), Nat.div_eq_of_lt (by omega)]
theorem toInt_number (s : Bool) (m : Nat) (p : Int) : Datum.toInt .zero (.number s m p) = some (signed s (m * 2 ^ p.toNat / 2 ^ (-p).toNat) 0) := by
  unfold Datum.toInt Datum.integral
  simp only [cut_toward, Nat.shiftLeft_eq]
/-- A whole number of at most 53 digits, as a float, is that whole number. -/
theorem whole_fw (s : Bool) (n : Nat) (h : n < 9007199254740992) : Datum.toInt .zero (double.read (fw s n 0)) = some (signed s n 0) := by
  by_cases h0 : n = 0
  · subst h0
    rw [fw_zero, ← fw_zero s (-1074), read_canon s 0 (-1074) canon_zero, toInt_number, Nat.zero_mul, Nat.zero_div]
  · have hl : n.log2 ≤ 52 := by
      have hh : n.log2 < 53 ↔ n < 2 ^ 53 := Nat.log2_lt h0
      have := hh.2 h
      omega
    obtain ⟨k, _, hc, he⟩ := canon_of n 0 (by omega) h (by omega) (by omega)
    rw [he s, read_canon s _ _ hc, toInt_number]
    have e1 : (0 - (k : Int)).toNat = 0 := by omega
    have e2 : (-(0 - (k : Int))).toNat = k := by omega
    rw [e1, e2, Nat.pow_zero, Nat.mul_one, Nat.mul_div_cancel _ (Nat.two_pow_pos k)]
end Go.Proofs.YtoedefjngipeiaaGreatDoor

/- Floats of 64 bits: numbers of at most 53 digits, in whatever form. -/
namespace Go.Proofs.YtoedefjngipeiaaGreatDoor
open Ieee

/-- A number that a float is. -/
def Rep (m : Nat) (p : Int) : Prop := m < 9007199254740992 ∧ -1074 ≤ p ∧ (m = 0 ∨ p + m.log2 ≤ 1023)
theorem sval_zero (s : Bool) (p : Int) : sval s 0 p = 0 := by unfold sval; rw [signed_eq, Nat.zero_mul]; simp
theorem sval_scale (s : Bool) (m k : Nat) (p : Int) (h : -2200 ≤ p - k) : sval s (m * 2 ^ k) (p - k) = sval s m p := by
  unfold sval
  rw [signed_eq, signed_eq, Nat.mul_assoc, ← Nat.pow_add, show k + (p - k + 2200).toNat = (p + 2200).toNat by omega]
theorem sval_le (m n : Nat) (p q : Int) (h : n ≤ m) (hp : q ≤ p) : sval false n q ≤ sval false m p := by
  unfold sval
  rw [signed_eq, signed_eq]
  have h1 : n * 2 ^ (q + 2200).toNat ≤ m * 2 ^ (p + 2200).toNat := Nat.mul_le_mul h (Nat.pow_le_pow_right (by omega) (by omega))
  simp only [Bool.false_eq_true, if_false, Int.one_mul]
  exact Int.ofNat_le.2 h1
theorem sval_lt (m n : Nat) (p q : Int) (h : m < n) (hp : p ≤ q) : sval false m p < sval false n q := by
  unfold sval
  rw [signed_eq, signed_eq]
  have h1 : m * 2 ^ (p + 2200).toNat < n * 2 ^ (p + 2200).toNat := Nat.mul_lt_mul_of_pos_right h (Nat.two_pow_pos _)
  have h2 : n * 2 ^ (p + 2200).toNat ≤ n * 2 ^ (q + 2200).toNat := Nat.mul_le_mul_left _ (Nat.pow_le_pow_right (by omega) (by omega))
  simp only [Bool.false_eq_true, if_false, Int.one_mul]
  exact Int.ofNat_lt.2 (Nat.lt_of_lt_of_le h1 h2)
theorem rep_canon (m : Nat) (p : Int) (h : Rep m p) : ∃ n q, Canon n q ∧ (∀ s, fw s m p = fw s n q) ∧ (∀ s, sval s m p = sval s n q) ∧ (0 < m → 0 < n) := by
  obtain ⟨h53, hp, hl⟩ := h
  by_cases h0 : m = 0
  · subst h0
    exact ⟨0, -1074, canon_zero, fun s => by rw [fw_zero, fw_zero], fun s => by rw [sval_zero, sval_zero], fun h => h⟩
  · obtain ⟨k, hk, hc, he⟩ := canon_of m p (by omega) h53 hp (by rcases hl with hl | hl <;> omega)
    exact ⟨_, _, hc, he, fun s => (sval_scale s m k p (by omega)).symm, fun h => Nat.mul_pos h (Nat.two_pow_pos k)⟩
theorem canon_rep (m : Nat) (p : Int) (h : Canon m p) : Rep m p := by
  rcases h with ⟨h1, h2, h3, h4⟩ | ⟨h1, rfl⟩
  · exact ⟨h2, h3, .inr (by rw [log2_53 m h1 h2]; omega)⟩
  · refine ⟨by omega, by omega, ?_⟩
    by_cases h0 : m = 0
    · exact .inl h0
    · have := log2_lt m h0 h1
      exact .inr (by omega)
theorem order_rep (s t : Bool) (m n : Nat) (i j : Int) (h : Rep m i) (k : Rep n j) : double.order (fw s m i) (fw t n j) = some (compare (sval s m i) (sval t n j)) := by
  obtain ⟨m', i', hc, hf, hv, _⟩ := rep_canon m i h
  obtain ⟨n', j', kc, kf, kv, _⟩ := rep_canon n j k
  rw [hf, kf, hv, kv]
  exact order_fw s t m' n' i' j' hc kc
theorem mul_rep (s : Bool) (m : Nat) (i : Int) (h : Rep m i) (e : Int) (he : -1022 ≤ e) (he' : e ≤ 1023) : double.mul (fw s m i) (fw false 4503599627370496 (e - 52)) = some (fw s m (i + e)) := by
  obtain ⟨h53, hp, hl⟩ := h
  by_cases h0 : m = 0
  · subst h0
    rw [fw_zero, ← fw_zero s (-1074), mul_pow s 0 (-1074) canon_zero e he he', fw_zero, fw_zero]
  · obtain ⟨k, hk, hc, hf⟩ := canon_of m i (by omega) h53 hp (by rcases hl with hl | hl <;> omega)
    rw [hf s, mul_pow s _ _ hc e he he']
    have := fw_scale s m k (i + e)
    rw [← this, show i + e - (k : Int) = i - k + e by omega]
theorem neg_rep (s : Bool) (m : Nat) (i : Int) (h : Rep m i) : Op.negFloat .f64 (fw s m i) = fw (!s) m i := by
  obtain ⟨m', i', hc, hf, _, _⟩ := rep_canon m i h
  rw [hf, hf]
  exact neg_fw s m' i' hc
/-- Doubling and halving. -/
theorem twice (s : Bool) (m : Nat) (i : Int) (h : Rep m i) : double.mul (fw s m i) (fw false 4503599627370496 (-51)) = some (fw s m (i + 1)) := by
  have e := mul_rep s m i h 1 (by omega) (by omega)
  rw [show (1 : Int) - 52 = -51 by omega] at e
  exact e
theorem half (s : Bool) (m : Nat) (i : Int) (h : Rep m i) : double.mul (fw s m i) (fw false 4503599627370496 (-53)) = some (fw s m (i - 1)) := by
  have e := mul_rep s m i h (-1) (by omega) (by omega)
  rw [show (-1 : Int) - 52 = -53 by omega, show i + -1 = i - 1 by omega] at e
  exact e
theorem up52 (s : Bool) (m : Nat) (i : Int) (h : Rep m i) : double.mul (fw s m i) (fw false 4503599627370496 0) = some (fw s m (i + 52)) := by
  have e := mul_rep s m i h 52 (by omega) (by omega)
  rw [show (52 : Int) - 52 = 0 by omega] at e
  exact e
/-- The floats that the texts name. -/
theorem bits_one : (4607182418800017408 : Nat) = fw false 4503599627370496 (-52) := by rw [fw_canon _ _ _ (.inl ⟨by omega, by omega, by omega, by omega⟩)]; decide
theorem bits_two : (4611686018427387904 : Nat) = fw false 4503599627370496 (-51) := by rw [fw_canon _ _ _ (.inl ⟨by omega, by omega, by omega, by omega⟩)]; decide
theorem bits_half : (4602678819172646912 : Nat) = fw false 4503599627370496 (-53) := by rw [fw_canon _ _ _ (.inl ⟨by omega, by omega, by omega, by omega⟩)]; decide
theorem bits_52 : (4841369599423283200 : Nat) = fw false 4503599627370496 0 := by rw [fw_canon _ _ _ (.inl ⟨by omega, by omega, by omega, by omega⟩)]; decide
theorem bits_most : (9218868437227405311 : Nat) = fw false 9007199254740991 971 := by rw [fw_canon _ _ _ (.inl ⟨by omega, by omega, by omega, by omega⟩)]; decide
theorem bits_zero : (0 : Nat) = fw false 0 (-1074) := by rw [fw_zero]; rfl
end Go.Proofs.YtoedefjngipeiaaGreatDoor

/- Floats of 64 bits: NaNs, quotients by zero, what a walk is told of each operation. -/
namespace Go.Proofs.YtoedefjngipeiaaGreatDoor
open Ieee

/-- A NaN's word. -/
def IsNan (x : Nat) : Prop := ∃ s n, double.read x = .nan s n
theorem nan_word (s : Bool) (r : Nat) (h : 9218868437227405312 < r) (h' : r < 9223372036854775808) : IsNan (signBit s + r) := by
  obtain ⟨s1, s2⟩ := sign_read s r h'
  refine ⟨s, r - 9218868437227405312, ?_⟩
  unfold Format.read
  simp only [weight_eq, binade_eq, infRung_eq, s1, s2]
  rw [if_neg (by omega), if_neg (by omega), if_neg (by omega)]
theorem nan_drawn (x y t : Nat) : IsNan (Question.cut (.nanBits .f64 x y) t) ∧ Question.cut (.nanBits .f64 x y) t < 18446744073709551616 := by
  have e : Question.cut (.nanBits .f64 x y) t = (t % 2) * 9223372036854775808 + 9218868437227405312 + 1 + (t / 2) % 4503599627370495 := rfl
  rw [e]
  have h1 := Nat.mod_lt (t / 2) (show 0 < 4503599627370495 by omega)
  generalize (t / 2) % 4503599627370495 = k at *
  rcases Nat.mod_two_eq_zero_or_one t with h | h
  · rw [h]
    have := nan_word false (9218868437227405313 + k) (by omega) (by omega)
    rw [show signBit false = 0 from rfl] at this
    refine ⟨?_, by omega⟩
    rw [show 0 * 9223372036854775808 + 9218868437227405312 + 1 + k = 0 + (9218868437227405313 + k) by omega]
    exact this
  · rw [h]
    have := nan_word true (9218868437227405313 + k) (by omega) (by omega)
    rw [show signBit true = 9223372036854775808 from rfl] at this
    refine ⟨?_, by omega⟩
    rw [show 1 * 9223372036854775808 + 9218868437227405312 + 1 + k = 9223372036854775808 + (9218868437227405313 + k) by omega]
    exact this
/-- A float is a NaN, or has a sign and a rung. -/
theorem float_cases (x : Nat) (hx : x < 18446744073709551616) : IsNan x ∨ (∃ s, x = iw s) ∨ (∃ s m p, Canon m p ∧ x = fw s m p) := by
  rcases word_cases x hx with h | ⟨s, h, _⟩ | h
  · exact .inl h
  · exact .inr (.inl ⟨s, h⟩)
  · exact .inr (.inr h)
theorem nan_neq (x : Nat) (h : IsNan x) : (double.order x x != some .eq) = true := by
  obtain ⟨s, n, h⟩ := h
  rw [(order_nan x x s n h).1]; rfl
theorem fw_eq_self (s : Bool) (m : Nat) (p : Int) (h : Canon m p) : (double.order (fw s m p) (fw s m p) != some .eq) = false := by rw [order_self_fw s m p h]; rfl
theorem iw_eq_self (s : Bool) : (double.order (iw s) (iw s) != some .eq) = false := by rw [order_self_iw s]; rfl
theorem read_zero (s : Bool) : double.read (signBit s) = .number s 0 (-1074) := by
  have := read_canon s 0 (-1074) canon_zero
  rw [fw_zero] at this
  exact this
/-- 1 by a zero. -/
theorem one_by_zero (s : Bool) : double.div 4607182418800017408 (signBit s) = some (iw s) := by cases s <;> decide
/-- 0 by 0. -/
theorem zero_by_zero : double.div 0 0 = none := by decide

section
variable {P : Program}
/-- What a walk is told: an operation that is valid. -/
theorem run_valid (op : BinOp) (t : TypeId) (x y r : Nat) (h : floatBits op .f64 x y = some r) (w : World) : (binOp op t (.float .f64 x) (.float .f64 y)).run P w = .ok (.float .f64 r) w := run_float_arith w op t .f64 x y r h
/-- 0 by 0: a NaN off the tape. -/
theorem run_nan (t : TypeId) (w : World) : ∃ b, IsNan b ∧ b < 18446744073709551616 ∧ (binOp .quo t (.float .f64 0) (.float .f64 0)).run P w = .ok (.float .f64 b) w.drew := by
  refine ⟨Question.cut (.nanBits .f64 0 0) (w.tape w.drawn (.nanBits .f64 0 0)), (nan_drawn _ _ _).1, (nan_drawn _ _ _).2, ?_⟩
  have e : FloatKind.f64.format.div 0 0 = none := zero_by_zero
  simp [binOp, Op.floatArith, e, Question.forced]
end
end Go.Proofs.YtoedefjngipeiaaGreatDoor

