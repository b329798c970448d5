import Derived.Test.YtlmddccgkpmhcaaA06
/- A number of 64 digits times a power of two, rounded once: plain. -/
namespace Go.Proofs.Ytlmddccgkpmhcaa
open Ieee

theorem log2_64 (M : Nat) (h1 : 9223372036854775808 ≤ M) (h2 : M < 18446744073709551616) : M.log2 = 63 := by
  rw [Nat.log2_eq_iff (by omega)]
  exact ⟨h1, h2⟩
/-- The last place that is kept. -/
def lastOf (e : Int) : Int := max (e + 11) (-1074)
theorem fw_64 (s : Bool) (M : Nat) (e : Int) (h1 : 9223372036854775808 ≤ M) (h2 : M < 18446744073709551616) :
    fw s M e = signBit s + min ((lastOf e + 1074).toNat * 4503599627370496 + Toward.even.cut s M (lastOf e - e).toNat) 9218868437227405312 := by
  unfold fw Format.nearest
  rw [if_neg (by omega)]
  simp only [word_eq, infRung_eq, binade_eq, least_eq, frac_eq, log2_64 M h1 h2]
  have e1 : max (e + ((63 : Nat) : Int) - ((52 : Nat) : Int)) (-1074) = lastOf e := by unfold lastOf; omega
  rw [e1]
  have e2 : (e - lastOf e).toNat = 0 := by unfold lastOf; omega
  rw [e2, Nat.shiftLeft_zero, show (lastOf e - -1074).toNat = (lastOf e + 1074).toNat by omega]
/-- Rounding, as it is reckoned: what is kept, what is left, half a unit. -/
theorem cut_64 (s : Bool) (M d : Nat) (h1 : 9223372036854775808 ≤ M) (h2 : M < 18446744073709551616) (hd : 1 ≤ d) (hd' : d ≤ 64) :
    Toward.even.cut s M d = if 2 ^ (d - 1) < M % 2 ^ d ∨ (M % 2 ^ d = 2 ^ (d - 1) ∧ M / 2 ^ d % 2 = 1) then M / 2 ^ d + 1 else M / 2 ^ d := by
  unfold Toward.cut
  simp only [log2_64 M h1 h2, Nat.shiftLeft_eq, Nat.one_mul]
  rw [Nat.min_eq_left (by omega)]
  have hp : 2 ^ d = 2 * 2 ^ (d - 1) := by
    rw [← Nat.pow_succ']; congr 1; omega
  generalize hg : 2 ^ (d - 1) = g at *
  rw [hp]
  by_cases ha : g < M % (2 * g)
  · rw [if_pos (.inl ha)]
    have : (decide (2 * g < 2 * (M % (2 * g))) || (2 * g == 2 * (M % (2 * g)) && M / (2 * g) % 2 == 1)) = true := by
      rw [decide_eq_true (by omega), Bool.true_or]
    rw [this]; rfl
  · by_cases hb : M % (2 * g) = g ∧ M / (2 * g) % 2 = 1
    · rw [if_pos (.inr hb)]
      have : (decide (2 * g < 2 * (M % (2 * g))) || (2 * g == 2 * (M % (2 * g)) && M / (2 * g) % 2 == 1)) = true := by
        rw [hb.1, hb.2]; simp
      rw [this]; rfl
    · rw [if_neg (by rintro (h | h); exact ha h; exact hb h)]
      have : (decide (2 * g < 2 * (M % (2 * g))) || (2 * g == 2 * (M % (2 * g)) && M / (2 * g) % 2 == 1)) = false := by
        rw [Bool.or_eq_false_iff]
        refine ⟨decide_eq_false (by omega), ?_⟩
        rw [Bool.and_eq_false_iff]
        by_cases hc : M % (2 * g) = g
        · right
          have : ¬ M / (2 * g) % 2 = 1 := fun h => hb ⟨hc, h⟩
          simpa using this
        · left
          rw [beq_eq_false_iff_ne]; omega
      rw [this]; rfl
theorem cut_far (s : Bool) (M d : Nat) (h1 : 9223372036854775808 ≤ M) (h2 : M < 18446744073709551616) (hd : 65 ≤ d) : Toward.even.cut s M d = 0 := by
  unfold Toward.cut
  simp only [log2_64 M h1 h2, Nat.shiftLeft_eq, Nat.one_mul]
  rw [Nat.min_eq_right (by omega)]
  have e1 : M / 2 ^ (63 + 2) = 0 := Nat.div_eq_of_lt (by omega)
  have e2 : M % 2 ^ (63 + 2) = M := Nat.mod_eq_of_lt (by omega)
  rw [e1, e2]
  have e3 : (decide (2 ^ (63 + 2) < 2 * M) || (2 ^ (63 + 2) == 2 * M && 0 % 2 == 1)) = false := by
    rw [Bool.or_eq_false_iff]
    refine ⟨decide_eq_false (by omega), ?_⟩
    rw [Bool.and_eq_false_iff]
    right; rfl
  rw [e3]; rfl
theorem norm_64 (m : Nat) (hm : 0 < m) (h : m < 18446744073709551616) : 9223372036854775808 ≤ m * 2 ^ (63 - m.log2) ∧ m * 2 ^ (63 - m.log2) < 18446744073709551616 ∧ m.log2 ≤ 63 := by
  have hl : m.log2 ≤ 63 := by
    have hh : m.log2 < 64 ↔ m < 2 ^ 64 := Nat.log2_lt (by omega)
    have := hh.2 h
    omega
  have hlo := Nat.log2_self_le (Nat.ne_of_gt hm)
  have hhi := Nat.lt_log2_self (n := m)
  have a1 : 2 ^ m.log2 * 2 ^ (63 - m.log2) ≤ m * 2 ^ (63 - m.log2) := Nat.mul_le_mul_right _ hlo
  have a2 : m * 2 ^ (63 - m.log2) < 2 ^ (m.log2 + 1) * 2 ^ (63 - m.log2) := Nat.mul_lt_mul_of_pos_right hhi (Nat.two_pow_pos _)
  rw [← Nat.pow_add, show m.log2 + (63 - m.log2) = 63 by omega] at a1
  rw [← Nat.pow_add, show m.log2 + 1 + (63 - m.log2) = 64 by omega] at a2
  exact ⟨a1, a2, hl⟩
/-- Far below, and far above. -/
theorem fw_tiny (s : Bool) (m : Nat) (e : Int) (h : m < 18446744073709551616) (he : e ≤ -1139) : fw s m e = signBit s := by
  by_cases h0 : m = 0
  · subst h0; exact fw_zero s e
  · obtain ⟨a1, a2, a3⟩ := norm_64 m (by omega) h
    rw [← fw_scale s m (63 - m.log2) e, fw_64 s _ _ a1 a2, cut_far s _ _ a1 a2 (by unfold lastOf; omega)]
    have : (lastOf (e - ((63 - m.log2 : Nat) : Int)) + 1074).toNat = 0 := by unfold lastOf; omega
    rw [this]
    omega
theorem fw_huge (s : Bool) (M : Nat) (e : Int) (h1 : 9223372036854775808 ≤ M) (h2 : M < 18446744073709551616) (he : 961 ≤ e) : fw s M e = iw s := by
  rw [fw_64 s M e h1 h2]
  unfold iw
  have : 2047 ≤ (lastOf e + 1074).toNat + 1 := by unfold lastOf; omega
  have hl : (lastOf e - e).toNat = 11 := by unfold lastOf; omega
  rw [hl, cut_64 s M 11 h1 h2 (by omega) (by omega)]
  have hq : 4503599627370496 ≤ M / 2 ^ 11 := by
    rw [Nat.le_div_iff_mul_le (by omega)]; omega
  split
  · rw [Nat.min_eq_right]; omega
  · rw [Nat.min_eq_right]; omega
end Go.Proofs.Ytlmddccgkpmhcaa

