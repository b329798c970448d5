import Derived.Test.YtlmddccgkpmhcaaA12
/- Rounding where something lies below a number: it hangs on that alone; plain. -/
namespace Go.Proofs.Ytlmddccgkpmhcaa
open Ieee

/-- The number with its lowest bit set: it stands for whatever lies between it and the next. -/
def oddOf (m : Nat) : Nat := m / 2 * 2 + 1
theorem odd_parts (M d : Nat) : M / 2 ^ (d + 1) = M / 2 / 2 ^ d ∧ M % 2 ^ (d + 1) = 2 * (M / 2 % 2 ^ d) + M % 2 := by
  have e1 : M / 2 ^ (d + 1) = M / 2 / 2 ^ d := by rw [Nat.pow_succ, Nat.mul_comm, ← Nat.div_div_eq_div_mul]
  refine ⟨e1, ?_⟩
  have h1 := Nat.div_add_mod M (2 ^ (d + 1))
  have h2 := Nat.div_add_mod (M / 2) (2 ^ d)
  rw [e1, Nat.pow_succ] at h1
  generalize M / 2 / 2 ^ d = q at *
  generalize M / 2 % 2 ^ d = r at *
  rw [Nat.pow_succ]
  generalize M % (2 ^ d * 2) = z at *
  have e3 : 2 ^ d * 2 * q = 2 * (2 ^ d * q) := by rw [Nat.mul_comm (2 ^ d) 2, Nat.mul_assoc]
  rw [e3] at h1
  generalize 2 ^ d * q = g at *
  omega
theorem odd_half (M : Nat) : oddOf M / 2 = M / 2 ∧ oddOf M % 2 = 1 := by unfold oddOf; omega
theorem odd_kept (M d : Nat) (hd : 2 ≤ d) : keptOf (oddOf M) d = if 2 ^ (d - 1) ≤ M % 2 ^ d then M / 2 ^ d + 1 else M / 2 ^ d := by
  obtain ⟨k, rfl⟩ : ∃ k, d = k + 2 := ⟨d - 2, by omega⟩
  unfold keptOf
  obtain ⟨a1, a2⟩ := odd_parts M (k + 1)
  obtain ⟨b1, b2⟩ := odd_parts (oddOf M) (k + 1)
  obtain ⟨c1, c2⟩ := odd_half M
  rw [show k + 2 = k + 1 + 1 from rfl, b1, b2, a1, a2, c1, c2, Nat.add_sub_cancel, Nat.pow_succ]
  generalize M / 2 / (2 ^ k * 2) = q at *
  generalize M / 2 % (2 ^ k * 2) = r at *
  generalize 2 ^ k = h at *
  by_cases hc : h * 2 ≤ 2 * r + M % 2
  · rw [if_pos (.inl (by omega)), if_pos hc]
  · rw [if_neg (by omega), if_neg hc]
/-- Rounding, as it is reckoned, for every number. -/
theorem cut_kept (s : Bool) (n d : Nat) (hn : 0 < n) (hd : 1 ≤ d) : Toward.even.cut s n d = keptOf n d := by
  obtain ⟨k, rfl⟩ : ∃ k, d = k + 1 := ⟨d - 1, by omega⟩
  have hlt : n < 2 ^ (n.log2 + 1) := Nat.lt_log2_self
  by_cases hl : k + 1 ≤ n.log2 + 2
  · unfold Toward.cut keptOf
    simp only [Nat.shiftLeft_eq, Nat.one_mul]
    rw [Nat.min_eq_left hl, Nat.add_sub_cancel]
    have hp : 2 ^ (k + 1) = 2 * 2 ^ k := by rw [Nat.pow_succ, Nat.mul_comm]
    rw [hp]
    generalize 2 ^ k = g at *
    by_cases hc : g < n % (2 * g) ∨ (n % (2 * g) = g ∧ n / (2 * g) % 2 = 1)
    · rw [if_pos hc]
      have : (decide (2 * g < 2 * (n % (2 * g))) || (2 * g == 2 * (n % (2 * g)) && n / (2 * g) % 2 == 1)) = true := by
        rcases hc with h | ⟨h1, h2⟩
        · rw [decide_eq_true (by omega), Bool.true_or]
        · rw [h1, h2]; simp
      rw [this]; rfl
    · rw [if_neg hc]
      have : (decide (2 * g < 2 * (n % (2 * g))) || (2 * g == 2 * (n % (2 * g)) && n / (2 * g) % 2 == 1)) = false := by
        rw [Bool.or_eq_false_iff]
        refine ⟨decide_eq_false (by omega), ?_⟩
        rw [Bool.and_eq_false_iff]
        by_cases h1 : n % (2 * g) = g
        · right
          have : ¬ n / (2 * g) % 2 = 1 := fun h => hc (.inr ⟨h1, h⟩)
          simpa using this
        · left
          rw [beq_eq_false_iff_ne]; omega
      rw [this]; rfl
  · have hk : 2 ^ (n.log2 + 1) ≤ 2 ^ k := Nat.pow_le_pow_right (by omega) (by omega)
    have hp : 2 ^ (k + 1) = 2 * 2 ^ k := by rw [Nat.pow_succ, Nat.mul_comm]
    have e0 : keptOf n (k + 1) = 0 := by
      unfold keptOf
      rw [Nat.add_sub_cancel, Nat.mod_eq_of_lt (by omega), Nat.div_eq_of_lt (by omega), if_neg (by omega)]
    rw [e0]
    unfold Toward.cut
    simp only [Nat.shiftLeft_eq, Nat.one_mul]
    rw [Nat.min_eq_right (by omega)]
    have hp2 : 2 ^ (n.log2 + 2) = 2 * 2 ^ (n.log2 + 1) := by rw [show n.log2 + 2 = n.log2 + 1 + 1 from rfl, Nat.pow_succ, Nat.mul_comm]
    rw [hp2]
    generalize 2 ^ (n.log2 + 1) = g at *
    have e1 : n / (2 * g) = 0 := Nat.div_eq_of_lt (by omega)
    have e2 : n % (2 * g) = n := Nat.mod_eq_of_lt (by omega)
    rw [e1, e2]
    have : (decide (2 * g < 2 * n) || (2 * g == 2 * n && 0 % 2 == 1)) = false := by
      rw [Bool.or_eq_false_iff]
      exact ⟨decide_eq_false (by omega), by simp⟩
    rw [this]; rfl
theorem odd_log2 (m : Nat) (h : 2 ≤ m) : (oddOf m).log2 = m.log2 ∧ (2 * m + 1).log2 = m.log2 + 1 := by
  have h1 : 2 ^ m.log2 ≤ m := Nat.log2_self_le (by omega)
  have h2 : m < 2 ^ (m.log2 + 1) := Nat.lt_log2_self
  obtain ⟨k, hk⟩ : ∃ k, m.log2 = k + 1 := by
    have : 1 ≤ m.log2 := (Nat.le_log2 (by omega)).2 (by simpa using h)
    exact ⟨m.log2 - 1, by omega⟩
  rw [hk] at h1 h2
  have e1 : 2 ^ (k + 1) = 2 * 2 ^ k := by rw [Nat.pow_succ, Nat.mul_comm]
  have e2 : 2 ^ (k + 1 + 1) = 2 * (2 * 2 ^ k) := by rw [Nat.pow_succ, e1, Nat.mul_comm]
  have e3 : 2 ^ (k + 1 + 1 + 1) = 2 * (2 * (2 * 2 ^ k)) := by rw [Nat.pow_succ, e2, Nat.mul_comm]
  rw [hk]
  constructor
  · rw [Nat.log2_eq_iff (by unfold oddOf; omega), e1, e2]
    rw [e1] at h1; rw [e2] at h2
    unfold oddOf
    generalize 2 ^ k = g at *
    omega
  · rw [Nat.log2_eq_iff (by omega), e2, e3]
    rw [e1] at h1; rw [e2] at h2
    generalize 2 ^ k = g at *
    omega
theorem odd_twice (m : Nat) : oddOf (2 * m) = 2 * m + 1 := by unfold oddOf; omega
/-- Something below a number of 55 digits or more: one place further down it is still that. -/
theorem fw_stick (s : Bool) (m : Nat) (p : Int) (h : 18014398509481984 ≤ m) : fw s (2 * m + 1) (p - 1) = fw s (oddOf m) p := by
  obtain ⟨l1, l2⟩ := odd_log2 m (by omega)
  have hL : 54 ≤ m.log2 := (Nat.le_log2 (by omega)).2 h
  unfold fw Format.nearest
  rw [if_neg (by omega), if_neg (by unfold oddOf; omega)]
  simp only [word_eq, infRung_eq, binade_eq, least_eq, frac_eq, l1, l2]
  generalize m.log2 = L at *
  have e1 : max (p - 1 + ((L + 1 : Nat) : Int) - ((52 : Nat) : Int)) (-1074) = max (p + (L : Int) - ((52 : Nat) : Int)) (-1074) := by omega
  rw [e1]
  generalize hl : max (p + (L : Int) - ((52 : Nat) : Int)) (-1074) = last at *
  obtain ⟨d, hd, hd2⟩ : ∃ d : Nat, last - p = d ∧ 2 ≤ d := ⟨(last - p).toNat, by omega, by omega⟩
  have f1 : (last - p).toNat = d := by omega
  have f2 : (last - (p - 1)).toNat = d + 1 := by omega
  have f3 : (p - last).toNat = 0 := by omega
  have f4 : (p - 1 - last).toNat = 0 := by omega
  rw [f1, f2, f3, f4, Nat.shiftLeft_zero, Nat.shiftLeft_zero, cut_kept s _ _ (by omega) (by omega), cut_kept s _ _ (by unfold oddOf; omega) (by omega), ← odd_twice, odd_kept _ _ (by omega), odd_kept _ _ (by omega)]
  have g1 := odd_parts (2 * m) d
  have g2 : 2 * m / 2 = m := by omega
  rw [g2] at g1
  rw [g1.1, g1.2, Nat.add_sub_cancel]
  obtain ⟨k, rfl⟩ : ∃ k, d = k + 1 := ⟨d - 1, by omega⟩
  rw [Nat.add_sub_cancel]
  have e2 : 2 ^ (k + 1) = 2 * 2 ^ k := by rw [Nat.pow_succ, Nat.mul_comm]
  generalize m / 2 ^ (k + 1) = q at *
  generalize m % 2 ^ (k + 1) = r at *
  rw [e2]
  generalize 2 ^ k = g at *
  have e3 : (2 * m) % 2 = 0 := by omega
  rw [e3]
  by_cases hc : g ≤ r
  · rw [if_pos (by omega), if_pos hc]
  · rw [if_neg (by omega), if_neg hc]
end Go.Proofs.Ytlmddccgkpmhcaa

