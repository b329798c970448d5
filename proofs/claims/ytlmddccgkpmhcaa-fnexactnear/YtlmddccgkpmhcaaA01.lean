import Derived.WalkKit
import Derived.Laws.FloatArith
/- Floats of 64 bits as exact numbers: plain facts on the words, no program is spoken of here. -/
namespace Go.Proofs.Ytlmddccgkpmhcaa
open Ieee

theorem cut_zero (neg : Bool) (n : Nat) : Toward.even.cut neg n 0 = n := by
  simp [Toward.cut]
  omega
theorem log2_mul (n k : Nat) (hn : 0 < n) : (n * 2 ^ k).log2 = n.log2 + k := by
  rw [Nat.log2_eq_iff (Nat.ne_of_gt (Nat.mul_pos hn (Nat.two_pow_pos k)))]
  have h1 := Nat.log2_self_le (Nat.ne_of_gt hn)
  have h2 := Nat.lt_log2_self (n := n)
  have hk : 0 < 2 ^ k := Nat.two_pow_pos k
  constructor
  · rw [Nat.pow_add]; exact Nat.mul_le_mul_right _ h1
  · rw [show n.log2 + k + 1 = (n.log2 + 1) + k by omega, Nat.pow_add]; exact Nat.mul_lt_mul_of_pos_right h2 hk
theorem cut_mul (neg : Bool) (n d k : Nat) (hn : 0 < n) : Toward.even.cut neg (n * 2 ^ k) (d + k) = Toward.even.cut neg n d := by
  have hk : 0 < 2 ^ k := Nat.two_pow_pos k
  have e : min (d + k) ((n * 2 ^ k).log2 + 2) = min d (n.log2 + 2) + k := by rw [log2_mul n k hn]; omega
  unfold Toward.cut
  simp only [e, Nat.shiftLeft_eq, Nat.one_mul]
  generalize min d (n.log2 + 2) = g
  rw [Nat.pow_add, Nat.mul_div_mul_right _ _ hk, Nat.mul_mod_mul_right]
  have e1 : (2 ^ g * 2 ^ k < 2 * (n % 2 ^ g * 2 ^ k)) ↔ 2 ^ g < 2 * (n % 2 ^ g) := by
    rw [← Nat.mul_assoc]; exact Nat.mul_lt_mul_right hk
  have e2 : (2 ^ g * 2 ^ k = 2 * (n % 2 ^ g * 2 ^ k)) ↔ 2 ^ g = 2 * (n % 2 ^ g) := by
    rw [← Nat.mul_assoc]; exact Nat.mul_left_inj (Nat.ne_of_gt hk)
  have e3 : (2 ^ g * 2 ^ k == 2 * (n % 2 ^ g * 2 ^ k)) = (2 ^ g == 2 * (n % 2 ^ g)) := by
    rw [Bool.eq_iff_iff]; simp only [beq_iff_eq]; exact e2
  simp only [e1, e3]
theorem cut_exact (neg : Bool) (n k : Nat) (hn : 0 < n) : Toward.even.cut neg (n * 2 ^ k) k = n := by
  have h := cut_mul neg n 0 k hn
  rw [Nat.zero_add, cut_zero] at h
  exact h

/-- A number's word hangs on the number alone. -/
theorem nearest_scale (f : Format) (neg : Bool) (m k : Nat) (p : Int) : f.nearest neg (m * 2 ^ k) (p - k) = f.nearest neg m p := by
  by_cases hm : m = 0
  · subst hm; simp [Format.nearest]
  · have hm' : 0 < m := Nat.pos_of_ne_zero hm
    have hk : 0 < 2 ^ k := Nat.two_pow_pos k
    have hmk : m * 2 ^ k ≠ 0 := Nat.ne_of_gt (Nat.mul_pos hm' hk)
    unfold Format.nearest
    simp only [hm, hmk, if_false, log2_mul m k hm', Nat.shiftLeft_eq]
    have e : p - (k : Int) + ((m.log2 + k : Nat) : Int) - (f.fractionBits : Int) = p + (m.log2 : Int) - f.fractionBits := by omega
    rw [e]
    generalize max (p + (m.log2 : Int) - f.fractionBits) f.leastPlace = last
    have key : Toward.even.cut neg (m * 2 ^ k * 2 ^ (p - k - last).toNat) (last - (p - k)).toNat = Toward.even.cut neg (m * 2 ^ (p - last).toNat) (last - p).toNat := by
      by_cases h1 : last ≤ p - k
      · have a1 : (last - (p - k)).toNat = 0 := by omega
        have a2 : (last - p).toNat = 0 := by omega
        rw [a1, a2, cut_zero, cut_zero, Nat.mul_assoc, ← Nat.pow_add, show k + (p - k - last).toNat = (p - last).toNat by omega]
      · have b1 : (p - k - last).toNat = 0 := by omega
        rw [b1, Nat.pow_zero, Nat.mul_one]
        by_cases h2 : last ≤ p
        · have b2 : (last - p).toNat = 0 := by omega
          rw [b2, cut_zero]
          have b3 : k = (p - last).toNat + (last - (p - k)).toNat := by omega
          have : m * 2 ^ k = m * 2 ^ (p - last).toNat * 2 ^ (last - (p - k)).toNat := by
            rw [Nat.mul_assoc, ← Nat.pow_add, ← b3]
          rw [this]
          exact cut_exact neg _ _ (Nat.mul_pos hm' (Nat.two_pow_pos _))
        · have b2 : (p - last).toNat = 0 := by omega
          rw [b2, Nat.pow_zero, Nat.mul_one, show (last - (p - k)).toNat = (last - p).toNat + k by omega]
          exact cut_mul neg m _ k hm'
    rw [key]
end Go.Proofs.Ytlmddccgkpmhcaa

