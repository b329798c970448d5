import Derived.WalkKit
import Derived.Laws.FloatArith
/- Floats of 64 bits as exact numbers: plain facts on the words, no program is spoken of here. -/
namespace Go.Proofs.YtoedefjngipeiaaGreatDoor
open Ieee

theorem cut_zero (neg : Bool) (n : Nat) : Toward.even.cut neg n 0 = n := by
  simp [Toward.cut]
  omega
theorem log2_mul (n k : Nat) (hn : 0 < n) : (n * 2 ^ k).log2 = n.log2 + k := by
  rw [Nat.log2_eq_iff (Nat.ne_of_gt (Nat.mul_pos hn (Nat.two_pow_pos k)))]
  have h1 := Nat.log2_self_le (Nat.ne_of_gt hn)
  have h2 := Nat.lt_log2_self (n := n)
  have hk : 0 < 2 ^ k := Nat.two_pow_pos k
  constructor
  · rw [Nat.pow_add]; exact Nat.mul_le_mul_right _ h1
  · rw [show n.log2 + k + 1 = (n.log2 + 1) + k by omega, Nat.pow_add]; exact Nat.mul_lt_mul_of_pos_right h2 hk
theorem cut_mul (neg : Bool) (n d k : Nat) (hn : 0 < n) : Toward.even.cut neg (n * 2 ^ k) (d + k) = Toward.even.cut neg n d := by
  have hk : 0 < 2 ^ k := Nat.two_pow_pos k
  have e : min (d + k) ((n * 2 ^ k).log2 + 2) = min d (n.log2 + 2) + k := by rw [log2_mul n k hn]; omega
  unfold Toward.cut
  simp only [e, Nat.shiftLeft_eq, Nat.one_mul]
  generalize min d (n.log2 + 2) = g
  rw [Nat.pow_add, Nat.mul_div_mul_right _ _ hk, Nat.mul_mod_mul_right]
  have e1 : (2 ^ g * 2 ^ k < 2 * (n % 2 ^ g * 2 ^ k)) ↔ 2 ^ g < 2 * (n % 2 ^ g) := by
    rw [← Nat.mul_assoc]; exact Nat.mul_lt_mul_right hk
  have e2 : (2 ^ g * 2 ^ k = 2 * (n % 2 ^ g * 2 ^ k)) ↔ 2 ^ g = 2 * (n % 2 ^ g) := by
    rw [← Nat.mul_assoc]; exact Nat.mul_left_inj (Nat.ne_of_gt hk)
  have e3 : (2 ^ g * 2 ^ k == 2 * (n % 2 ^ g * 2 ^ k)) = (2 ^ g == 2 * (n % 2 ^ g)) := by
    rw [Bool.eq_iff_iff]; simp only [beq_iff_eq]; exact e2
  simp only [e1, e3]
theorem cut_exact (neg : Bool) (n k : Nat) (hn : 0 < n) : Toward.even.cut neg (n * 2 ^ k) k = n := by
  have h := cut_mul neg n 0 k hn
  rw [Nat.zero_add, cut_zero] at h
  exact h

/-- A number's word hangs on the number alone. -/
theorem nearest_scale (f : Format) (neg : Bool) (m k : Nat) (p : Int) : f.nearest neg (m * 2 ^ k) (p - k) = f.nearest neg m p := by
  by_cases hm : m = 0
  · subst hm; simp [Format.nearest]
  · have hm' : 0 < m := Nat.pos_of_ne_zero hm
    have hk : 0 < 2 ^ k := Nat.two_pow_pos k
    have hmk : m * 2 ^ k ≠ 0 := Nat.ne_of_gt (Nat.mul_pos hm' hk)
    unfold Format.nearest
    simp only [hm, hmk, if_false, log2_mul m k hm', Nat.shiftLeft_eq]
    have e : p - (k : Int) + ((m.log2 + k : Nat) : Int) - (f.fractionBits : Int) = p + (m.log2 : Int) - f.fractionBits := by omega
    rw [e]
    generalize max (p + (m.log2 : Int) - f.fractionBits) f.leastPlace = last
    have key : Toward.even.cut neg (m * 2 ^ k * 2 ^ (p - k - last).toNat) (last - (p - k)).toNat = Toward.even.cut neg (m * 2 ^ (p - last).toNat) (last - p).toNat := by
      by_cases h1 : last ≤ p - k
      · have a1 : (last - (p - k)).toNat = 0 := by omega
        have a2 : (last - p).toNat = 0 := by omega
        rw [a1, a2, cut_zero, cut_zero, Nat.mul_assoc, ← Nat.pow_add, show k + (p - k - last).toNat = (p - last).toNat by omega]
      · have b1 : (p - k - last).toNat = 0 := by omega
        rw [b1, Nat.pow_zero, Nat.mul_one]
        by_cases h2 : last ≤ p
        · have b2 : (last - p).toNat = 0 := by omega
          rw [b2, cut_zero]
          have b3 : k = (p - last).toNat + (last - (p - k)).toNat := by omega
          have : m * 2 ^ k = m * 2 ^ (p - last).toNat * 2 ^ (last - (p - k)).toNat := by
            rw [Nat.mul_assoc, ← Nat.pow_add, ← b3]
          rw [this]
          exact cut_exact neg _ _ (Nat.mul_pos hm' (Nat.two_pow_pos _))
        · have b2 : (p - last).toNat = 0 := by omega
          rw [b2, Nat.pow_zero, Nat.mul_one, show (last - (p - k)).toNat = (last - p).toNat + k by omega]
          exact cut_mul neg m _ k hm'
    rw [key]
end Go.Proofs.YtoedefjngipeiaaGreatDoor

/- Floats of 64 bits: words, rungs, numbers in their own form. -/
namespace Go.Proofs.YtoedefjngipeiaaGreatDoor
open Ieee

/-- The word of a number. -/
def fw (neg : Bool) (m : Nat) (p : Int) : Nat := double.nearest neg m p
theorem fw_scale (neg : Bool) (m k : Nat) (p : Int) : fw neg (m * 2 ^ k) (p - k) = fw neg m p := nearest_scale double neg m k p
def signBit (neg : Bool) : Nat := if neg then 9223372036854775808 else 0
theorem word_eq (neg : Bool) (r : Nat) : double.word neg r = signBit neg + r := by
  cases neg
  · show r = 0 + r; omega
  · rfl
theorem infRung_eq : double.infRung = 9218868437227405312 := by decide
theorem binade_eq : double.binade = 4503599627370496 := by decide
theorem least_eq : double.leastPlace = -1074 := by decide
theorem weight_eq : double.signWeight = 9223372036854775808 := by decide
theorem frac_eq : double.fractionBits = 52 := rfl

/-- A number as a float has it: 53 digits, or fewer at the last place. -/
def Canon (m : Nat) (p : Int) : Prop := (4503599627370496 ≤ m ∧ m < 9007199254740992 ∧ -1074 ≤ p ∧ p ≤ 971) ∨ (m < 4503599627370496 ∧ p = -1074)
/-- Its rung. -/
def rung (m : Nat) (p : Int) : Nat := (p + 1074).toNat * 4503599627370496 + m
theorem log2_53 (m : Nat) (h1 : 4503599627370496 ≤ m) (h2 : m < 9007199254740992) : m.log2 = 52 := by
  rw [Nat.log2_eq_iff (by omega)]
  exact ⟨h1, h2⟩
theorem log2_lt (m : Nat) (h0 : m ≠ 0) (h2 : m < 4503599627370496) : m.log2 < 52 := by
  have h : m.log2 < 52 ↔ m < 2 ^ 52 := Nat.log2_lt h0
  exact h.2 h2
theorem rung_lt (m : Nat) (p : Int) (h : Canon m p) : rung m p < 9218868437227405312 := by
  unfold rung
  rcases h with ⟨h1, h2, h3, h4⟩ | ⟨h1, rfl⟩ <;> omega
theorem fw_canon (neg : Bool) (m : Nat) (p : Int) (h : Canon m p) : fw neg m p = signBit neg + rung m p := by
  have hr := rung_lt m p h
  unfold fw Format.nearest
  by_cases h0 : m = 0
  · subst h0
    have hp : p = -1074 := by rcases h with ⟨h1, _⟩ | ⟨_, hp⟩ <;> omega
    subst hp
    rw [if_pos rfl, word_eq]
    rfl
  · rw [if_neg h0]
    simp only [word_eq, infRung_eq, binade_eq, least_eq, frac_eq]
    have e : max (p + (m.log2 : Int) - ((52 : Nat) : Int)) (-1074) = p := by
      rcases h with ⟨h1, h2, h3, h4⟩ | ⟨h1, rfl⟩
      · rw [log2_53 m h1 h2]; omega
      · have := log2_lt m h0 h1; omega
    rw [e, show (p - p).toNat = 0 by omega, Nat.shiftLeft_zero, cut_zero, show (p - -1074).toNat = (p + 1074).toNat by omega]
    show signBit neg + min (rung m p) _ = _
    rw [Nat.min_eq_left (by omega)]
theorem sign_read (neg : Bool) (r : Nat) (h : r < 9223372036854775808) : ((signBit neg + r) / 9223372036854775808 % 2 == 1) = neg ∧ (signBit neg + r) % 9223372036854775808 = r := by
  cases neg
  · have e : signBit false = 0 := rfl
    rw [e]
    constructor
    · rw [show (0 + r) / 9223372036854775808 = 0 by omega]; rfl
    · omega
  · have e : signBit true = 9223372036854775808 := rfl
    rw [e]
    constructor
    · rw [show (9223372036854775808 + r) / 9223372036854775808 = 1 by omega]; rfl
    · omega
/-- What a number's word stands for: that number. -/
theorem read_canon (neg : Bool) (m : Nat) (p : Int) (h : Canon m p) : double.read (fw neg m p) = .number neg m p := by
  have hr := rung_lt m p h
  obtain ⟨s1, s2⟩ := sign_read neg (rung m p) (by omega)
  rw [fw_canon neg m p h]
  unfold Format.read
  simp only [weight_eq, binade_eq, infRung_eq, least_eq, s1, s2]
  unfold rung at hr ⊢
  rcases h with ⟨h1, h2, h3, h4⟩ | ⟨h1, rfl⟩
  · have e0 : ¬ ((p + 1074).toNat * 4503599627370496 + m < 4503599627370496) := by omega
    have e1 : ((p + 1074).toNat * 4503599627370496 + m) % 4503599627370496 = m - 4503599627370496 := by omega
    have e2 : ((p + 1074).toNat * 4503599627370496 + m) / 4503599627370496 = (p + 1074).toNat + 1 := by omega
    have a1 : 4503599627370496 + (m - 4503599627370496) = m := by omega
    have a2 : (-1074 : Int) + (((p + 1074).toNat + 1 - 1 : Nat) : Int) = p := by omega
    rw [if_neg e0, if_pos hr, e1, e2, a1, a2]
  · have e0 : ((-1074 : Int) + 1074).toNat * 4503599627370496 + m = m := by omega
    rw [e0, if_pos h1]
/-- A word is a NaN's, an infinity's, or a number's. -/
theorem word_cases (x : Nat) (hx : x < 18446744073709551616) :
    (∃ s n, double.read x = .nan s n) ∨ (∃ s, x = signBit s + 9218868437227405312 ∧ double.read x = .infinity s) ∨ (∃ s m p, Canon m p ∧ x = fw s m p) := by
  obtain ⟨s, r, hr, rfl⟩ : ∃ s r, r < 9223372036854775808 ∧ x = signBit s + r := by
    by_cases h : x < 9223372036854775808
    · exact ⟨false, x, h, by show x = 0 + x; omega⟩
    · exact ⟨true, x - 9223372036854775808, by omega, by show x = 9223372036854775808 + _; omega⟩
  obtain ⟨s1, s2⟩ := sign_read s r hr
  have hread : double.read (signBit s + r) = if r < 4503599627370496 then .number s r (-1074) else if r < 9218868437227405312 then .number s (4503599627370496 + r % 4503599627370496) (-1074 + ((r / 4503599627370496 - 1 : Nat) : Int)) else if r = 9218868437227405312 then .infinity s else .nan s (r - 9218868437227405312) := by
    unfold Format.read
    simp only [weight_eq, binade_eq, infRung_eq, least_eq, s1, s2]
  by_cases h1 : r < 4503599627370496
  · refine .inr (.inr ⟨s, r, -1074, .inr ⟨h1, rfl⟩, ?_⟩)
    rw [fw_canon s r (-1074) (.inr ⟨h1, rfl⟩)]
    unfold rung
    omega
  · by_cases h2 : r < 9218868437227405312
    · have hc : Canon (4503599627370496 + r % 4503599627370496) (-1074 + ((r / 4503599627370496 - 1 : Nat) : Int)) := .inl ⟨by omega, by omega, by omega, by omega⟩
      refine .inr (.inr ⟨s, _, _, hc, ?_⟩)
      rw [fw_canon s _ _ hc]
      unfold rung
      omega
    · by_cases h3 : r = 9218868437227405312
      · refine .inr (.inl ⟨s, by omega, ?_⟩)
        rw [hread, if_neg h1, if_neg h2, if_pos h3]
      · refine .inl ⟨s, r - 9218868437227405312, ?_⟩
        rw [hread, if_neg h1, if_neg h2, if_neg h3]
end Go.Proofs.YtoedefjngipeiaaGreatDoor

/- Floats of 64 bits: order, products with powers of two, what is whole. -/
namespace Go.Proofs.YtoedefjngipeiaaGreatDoor
open Ieee

/-- A number with its sign, in units of 2 to the -2200. -/
def sval (neg : Bool) (m : Nat) (p : Int) : Int := signed neg m (p + 2200).toNat
theorem signed_eq (neg : Bool) (m k : Nat) : signed neg m k = (if neg then -1 else 1) * ((m * 2 ^ k : Nat) : Int) := by
  unfold signed
  rw [Nat.shiftLeft_eq]
  cases neg
  · simp
  · simp
theorem signed_add (neg : Bool) (m a b : Nat) : signed neg m (a + b) = signed neg m a * 2 ^ b := by
  rw [signed_eq, signed_eq, Nat.pow_add, ← Nat.mul_assoc]
  push_cast
  simp only [Int.mul_assoc]
theorem compare_mul (a b c : Int) (hc : 0 < c) : compare (a * c) (b * c) = compare a b := by
  simp only [compare, compareOfLessAndEq]
  have h1 : a * c < b * c ↔ a < b := Int.mul_lt_mul_right hc
  have h2 : a * c = b * c ↔ a = b := Int.mul_eq_mul_right_iff (by omega)
  simp only [h1, h2]
/-- The order of two numbers is that of what they are. -/
theorem order_numbers (s t : Bool) (m n : Nat) (i j : Int) (hi : -2200 ≤ i) (hj : -2200 ≤ j) :
    Datum.order (.number s m i) (.number t n j) = some (compare (sval s m i) (sval t n j)) := by
  unfold Datum.order sval
  simp only
  have e1 : (i + 2200).toNat = (i - min i j).toNat + (min i j + 2200).toNat := by omega
  have e2 : (j + 2200).toNat = (j - min i j).toNat + (min i j + 2200).toNat := by omega
  rw [e1, e2, signed_add, signed_add, compare_mul _ _ _ (Int.pow_pos (by omega))]
theorem order_fw (s t : Bool) (m n : Nat) (i j : Int) (h : Canon m i) (k : Canon n j) : double.order (fw s m i) (fw t n j) = some (compare (sval s m i) (sval t n j)) := by
  unfold Format.order
  rw [read_canon s m i h, read_canon t n j k]
  exact order_numbers s t m n i j (by rcases h with h | h <;> omega) (by rcases k with k | k <;> omega)
/-- A product with a power of two. -/
theorem mul_pow (s : Bool) (m : Nat) (i : Int) (h : Canon m i) (e : Int) (he : -1022 ≤ e) (he' : e ≤ 1023) : double.mul (fw s m i) (fw false 4503599627370496 (e - 52)) = some (fw s m (i + e)) := by
  unfold Format.mul
  rw [read_canon s m i h, read_canon false _ _ (.inl ⟨by omega, by omega, by omega, by omega⟩)]
  show some (double.nearest (s ^^ false) (m * 4503599627370496) (i + (e - 52))) = _
  rw [Bool.xor_false]
  have := fw_scale s m 52 (i + e)
  unfold fw at this ⊢
  rw [← this]
  rw [show i + e - ((52 : Nat) : Int) = i + (e - 52) by omega]
/-- Any number of at most 53 digits at a place that floats reach, in its own form. -/
theorem canon_of (m : Nat) (p : Int) (hm : 0 < m) (h53 : m < 9007199254740992) (hp : -1074 ≤ p) (hu : p + m.log2 ≤ 1023) : ∃ k : Nat, (k : Int) ≤ p + 1074 ∧ Canon (m * 2 ^ k) (p - k) ∧ ∀ s, fw s m p = fw s (m * 2 ^ k) (p - k) := by
  have hl : m.log2 ≤ 52 := by
    have h : m.log2 < 53 ↔ m < 2 ^ 53 := Nat.log2_lt (by omega)
    have := h.2 h53
    omega
  have hlo := Nat.log2_self_le (Nat.ne_of_gt hm)
  have hhi := Nat.lt_log2_self (n := m)
  refine ⟨min (52 - m.log2) (p + 1074).toNat, by omega, ?_, fun s => (fw_scale s m _ p).symm⟩
  by_cases hc : 52 - m.log2 ≤ (p + 1074).toNat
  · rw [Nat.min_eq_left hc]
    have a1 : 2 ^ m.log2 * 2 ^ (52 - m.log2) ≤ m * 2 ^ (52 - m.log2) := Nat.mul_le_mul_right _ hlo
    have a2 : m * 2 ^ (52 - m.log2) < 2 ^ (m.log2 + 1) * 2 ^ (52 - m.log2) := Nat.mul_lt_mul_of_pos_right hhi (Nat.two_pow_pos _)
    rw [← Nat.pow_add, show m.log2 + (52 - m.log2) = 52 by omega] at a1
    rw [← Nat.pow_add, show m.log2 + 1 + (52 - m.log2) = 53 by omega] at a2
    exact .inl ⟨a1, a2, by omega, by omega⟩
  · rw [Nat.min_eq_right (by omega)]
    have a2 : m * 2 ^ (p + 1074).toNat < 2 ^ (m.log2 + 1) * 2 ^ (p + 1074).toNat := Nat.mul_lt_mul_of_pos_right hhi (Nat.two_pow_pos _)
    rw [← Nat.pow_add] at a2
    have a3 : 2 ^ (m.log2 + 1 + (p + 1074).toNat) ≤ 2 ^ 52 := Nat.pow_le_pow_right (by omega) (by omega)
    exact .inr ⟨Nat.lt_of_lt_of_le a2 a3, by omega⟩
end Go.Proofs.YtoedefjngipeiaaGreatDoor

