import Derived.Test.YtlmddccgkpmhcaaA02
/- Floats of 64 bits: order, products with powers of two, what is whole. -/
namespace Go.Proofs.Ytlmddccgkpmhcaa
open Ieee

/-- A number with its sign, in units of 2 to the -2200. -/
def sval (neg : Bool) (m : Nat) (p : Int) : Int := signed neg m (p + 2200).toNat
theorem signed_eq (neg : Bool) (m k : Nat) : signed neg m k = (if neg then -1 else 1) * ((m * 2 ^ k : Nat) : Int) := by
  unfold signed
  rw [Nat.shiftLeft_eq]
  cases neg
  · simp
  · simp
theorem signed_add (neg : Bool) (m a b : Nat) : signed neg m (a + b) = signed neg m a * 2 ^ b := by
  rw [signed_eq, signed_eq, Nat.pow_add, ← Nat.mul_assoc]
  push_cast
  simp only [Int.mul_assoc]
theorem compare_mul (a b c : Int) (hc : 0 < c) : compare (a * c) (b * c) = compare a b := by
  simp only [compare, compareOfLessAndEq]
  have h1 : a * c < b * c ↔ a < b := Int.mul_lt_mul_right hc
  have h2 : a * c = b * c ↔ a = b := Int.mul_eq_mul_right_iff (by omega)
  simp only [h1, h2]
/-- The order of two numbers is that of what they are. -/
theorem order_numbers (s t : Bool) (m n : Nat) (i j : Int) (hi : -2200 ≤ i) (hj : -2200 ≤ j) :
    Datum.order (.number s m i) (.number t n j) = some (compare (sval s m i) (sval t n j)) := by
  unfold Datum.order sval
  simp only
  have e1 : (i + 2200).toNat = (i - min i j).toNat + (min i j + 2200).toNat := by omega
  have e2 : (j + 2200).toNat = (j - min i j).toNat + (min i j + 2200).toNat := by omega
  rw [e1, e2, signed_add, signed_add, compare_mul _ _ _ (Int.pow_pos (by omega))]
theorem order_fw (s t : Bool) (m n : Nat) (i j : Int) (h : Canon m i) (k : Canon n j) : double.order (fw s m i) (fw t n j) = some (compare (sval s m i) (sval t n j)) := by
  unfold Format.order
  rw [read_canon s m i h, read_canon t n j k]
  exact order_numbers s t m n i j (by rcases h with h | h <;> omega) (by rcases k with k | k <;> omega)
/-- A product with a power of two. -/
theorem mul_pow (s : Bool) (m : Nat) (i : Int) (h : Canon m i) (e : Int) (he : -1022 ≤ e) (he' : e ≤ 1023) : double.mul (fw s m i) (fw false 4503599627370496 (e - 52)) = some (fw s m (i + e)) := by
  unfold Format.mul
  rw [read_canon s m i h, read_canon false _ _ (.inl ⟨by omega, by omega, by omega, by omega⟩)]
  show some (double.nearest (s ^^ false) (m * 4503599627370496) (i + (e - 52))) = _
  rw [Bool.xor_false]
  have := fw_scale s m 52 (i + e)
  unfold fw at this ⊢
  rw [← this]
  rw [show i + e - ((52 : Nat) : Int) = i + (e - 52) by omega]
/-- Any number of at most 53 digits at a place that floats reach, in its own form. -/
theorem canon_of (m : Nat) (p : Int) (hm : 0 < m) (h53 : m < 9007199254740992) (hp : -1074 ≤ p) (hu : p + m.log2 ≤ 1023) : ∃ k : Nat, (k : Int) ≤ p + 1074 ∧ Canon (m * 2 ^ k) (p - k) ∧ ∀ s, fw s m p = fw s (m * 2 ^ k) (p - k) := by
  have hl : m.log2 ≤ 52 := by
    have h : m.log2 < 53 ↔ m < 2 ^ 53 := Nat.log2_lt (by omega)
    have := h.2 h53
    omega
  have hlo := Nat.log2_self_le (Nat.ne_of_gt hm)
  have hhi := Nat.lt_log2_self (n := m)
  refine ⟨min (52 - m.log2) (p + 1074).toNat, by omega, ?_, fun s => (fw_scale s m _ p).symm⟩
  by_cases hc : 52 - m.log2 ≤ (p + 1074).toNat
  · rw [Nat.min_eq_left hc]
    have a1 : 2 ^ m.log2 * 2 ^ (52 - m.log2) ≤ m * 2 ^ (52 - m.log2) := Nat.mul_le_mul_right _ hlo
    have a2 : m * 2 ^ (52 - m.log2) < 2 ^ (m.log2 + 1) * 2 ^ (52 - m.log2) := Nat.mul_lt_mul_of_pos_right hhi (Nat.two_pow_pos _)
    rw [← Nat.pow_add, show m.log2 + (52 - m.log2) = 52 by omega] at a1
    rw [← Nat.pow_add, show m.log2 + 1 + (52 - m.log2) = 53 by omega] at a2
    exact .inl ⟨a1, a2, by omega, by omega⟩
  · rw [Nat.min_eq_right (by omega)]
    have a2 : m * 2 ^ (p + 1074).toNat < 2 ^ (m.log2 + 1) * 2 ^ (p + 1074).toNat := Nat.mul_lt_mul_of_pos_right hhi (Nat.two_pow_pos _)
    rw [← Nat.pow_add] at a2
    have a3 : 2 ^ (m.log2 + 1 + (p + 1074).toNat) ≤ 2 ^ 52 := Nat.pow_le_pow_right (by omega) (by omega)
    exact .inr ⟨Nat.lt_of_lt_of_le a2 a3, by omega⟩
end Go.Proofs.Ytlmddccgkpmhcaa

