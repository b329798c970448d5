/- Floats of 64 bits: whole numbers, cut towards zero, floors. -/
import Derived.Test.YtllgkilahacagaaFltR
namespace Go.Proofs.Ytllgkilahacagaa
open Ieee

theorem bits_63 : (4890909195324358656 : Nat) = fw false 4503599627370496 11 := by rw [fw_canon _ _ _ (.inl ⟨by omega, by omega, by omega, by omega⟩)]; decide
theorem bits_m63 : (14114281232179134464 : Nat) = fw true 4503599627370496 11 := by rw [fw_canon _ _ _ (.inl ⟨by omega, by omega, by omega, by omega⟩)]; decide
theorem rep_63 : Rep 4503599627370496 11 := canon_rep _ _ (.inl ⟨by omega, by omega, by omega, by omega⟩)
theorem p_high (m : Nat) (p : Int) (h : Canon m p) (hp : 11 ≤ p) : 4503599627370496 ≤ m := by rcases h with h | h <;> omega
theorem size_high (m : Nat) (p : Int) (h : Canon m p) (hp : 11 ≤ p) : sval false 4503599627370496 11 ≤ sval false m p := sval_le _ _ _ _ (p_high m p h hp) hp
theorem form_63 : sval false 4503599627370496 11 = sval false 9007199254740992 10 := by
  have := sval_scale false 4503599627370496 1 11 (by omega)
  rw [← this]; rfl
theorem size_low (m : Nat) (p : Int) (h : Canon m p) (hp : p ≤ 10) : sval false m p < sval false 4503599627370496 11 := by
  rw [form_63]
  exact sval_lt _ _ _ _ (by rcases h with h | h <;> omega) hp
/-- At 2^63 and beyond; below it. -/
theorem ord_63_ge (m : Nat) (p : Int) (h : Canon m p) (hp : 11 ≤ p) : double.order (fw false m p) 4890909195324358656 = some .gt ∨ double.order (fw false m p) 4890909195324358656 = some .eq := by
  rw [bits_63, order_rep false false m _ p 11 (canon_rep m p h) rep_63]
  have := size_high m p h hp
  by_cases he : sval false m p = sval false 4503599627370496 11
  · rw [cmp_eq _ _ he]; exact .inr rfl
  · rw [cmp_gt _ _ (by omega)]; exact .inl rfl
theorem ord_63_lt (s : Bool) (m : Nat) (p : Int) (h : Canon m p) (hp : s = true ∨ p ≤ 10) : double.order (fw s m p) 4890909195324358656 = some .lt := by
  rw [bits_63, order_rep s false m _ p 11 (canon_rep m p h) rep_63]
  have h1 := sval_pos 4503599627370496 11 (by omega)
  have h2 : 0 ≤ sval false m p := by
    by_cases h0 : m = 0
    · subst h0; rw [sval_zero]; omega
    · have := sval_pos m p (by omega); omega
  cases s
  · rcases hp with hp | hp
    · cases hp
    · rw [cmp_lt _ _ (size_low m p h hp)]
  · rw [sval_neg, cmp_lt _ _ (by omega)]
theorem ord_m63_le (m : Nat) (p : Int) (h : Canon m p) (hp : 11 ≤ p) : double.order (fw true m p) 14114281232179134464 = some .lt ∨ double.order (fw true m p) 14114281232179134464 = some .eq := by
  rw [bits_m63, order_rep true true m _ p 11 (canon_rep m p h) rep_63, sval_neg, sval_neg]
  have := size_high m p h hp
  by_cases he : sval false m p = sval false 4503599627370496 11
  · rw [cmp_eq _ _ (by omega)]; exact .inr rfl
  · rw [cmp_lt _ _ (by omega)]; exact .inl rfl
theorem ord_m63_gt (s : Bool) (m : Nat) (p : Int) (h : Canon m p) (hp : s = false ∨ p ≤ 10) : double.order (fw s m p) 14114281232179134464 = some .gt := by
  rw [bits_m63, order_rep s true m _ p 11 (canon_rep m p h) rep_63, sval_neg]
  have h1 := sval_pos 4503599627370496 11 (by omega)
  have h2 : 0 ≤ sval false m p := by
    by_cases h0 : m = 0
    · subst h0; rw [sval_zero]; omega
    · have := sval_pos m p (by omega); omega
  cases s
  · rw [cmp_gt _ _ (by omega)]
  · rcases hp with hp | hp
    · cases hp
    · have := size_low m p h hp
      rw [sval_neg, cmp_gt _ _ (by omega)]
/-- Just -2^63. -/
theorem is_m63 (m : Nat) (p : Int) (h : Canon m p) (he : double.order (fw true m p) 14114281232179134464 = some .eq) : m = 4503599627370496 ∧ p = 11 := by
  rw [bits_m63, order_rep true true m _ p 11 (canon_rep m p h) rep_63, sval_neg, sval_neg] at he
  have hv : sval false m p = sval false 4503599627370496 11 := by
    by_cases h1 : - sval false m p < - sval false 4503599627370496 11
    · rw [cmp_lt _ _ h1] at he; cases he
    · by_cases h2 : - sval false m p = - sval false 4503599627370496 11
      · omega
      · rw [cmp_gt _ _ (by omega)] at he; cases he
  have hp : p = 11 := by
    by_cases a : p ≤ 10
    · have := size_low m p h a; omega
    · by_cases b : 12 ≤ p
      · have h1 := p_high m p h (by omega)
        have h2 : sval false 4503599627370496 11 < sval false 9007199254740992 11 := sval_lt _ _ _ _ (by omega) (by omega)
        have h3 : sval false 9007199254740992 11 = sval false 4503599627370496 12 := by
          have := sval_scale false 4503599627370496 1 12 (by omega)
          rw [← this]; rfl
        have h4 : sval false 4503599627370496 12 ≤ sval false m p := sval_le _ _ _ _ h1 b
        omega
      · omega
  subst hp
  refine ⟨?_, rfl⟩
  have h1 := p_high m 11 h (by omega)
  by_cases a : 4503599627370496 < m
  · have := sval_lt 4503599627370496 m 11 11 a (by omega); omega
  · omega
/-- Cut towards zero. -/
def truncN (m : Nat) (p : Int) : Nat := m * 2 ^ p.toNat / 2 ^ (-p).toNat
theorem toInt_fw (s : Bool) (m : Nat) (p : Int) (h : Canon m p) : Datum.toInt .zero (double.read (fw s m p)) = some (if s then -(truncN m p : Int) else (truncN m p : Int)) := by
  rw [read_canon s m p h, toInt_number, signed_eq, Nat.pow_zero, Nat.mul_one]
  unfold truncN
  cases s
  · simp
  · simp
theorem trunc_hi (m : Nat) (p : Int) (h : 0 ≤ p) : truncN m p = m * 2 ^ p.toNat := by
  unfold truncN
  rw [show (-p).toNat = 0 by omega, Nat.pow_zero, Nat.div_one]
theorem trunc_lo (m : Nat) (p : Int) (h : p ≤ 0) : truncN m p = m / 2 ^ (-p).toNat := by
  unfold truncN
  rw [show p.toNat = 0 by omega, Nat.pow_zero, Nat.mul_one]
theorem trunc_lt (m : Nat) (p : Int) (h : Canon m p) (hp : p ≤ 10) : truncN m p < 9223372036854775808 := by
  by_cases h0 : 0 ≤ p
  · rw [trunc_hi m p h0]
    have h1 : m < 9007199254740992 := by rcases h with h | h <;> omega
    have h2 : 2 ^ p.toNat ≤ 2 ^ 10 := Nat.pow_le_pow_right (by omega) (by omega)
    have h3 : m * 2 ^ p.toNat ≤ m * 1024 := Nat.mul_le_mul_left _ h2
    omega
  · rw [trunc_lo m p (by omega)]
    have h1 : m < 9007199254740992 := by rcases h with h | h <;> omega
    have := Nat.div_le_self m (2 ^ (-p).toNat)
    omega
end Go.Proofs.Ytllgkilahacagaa
