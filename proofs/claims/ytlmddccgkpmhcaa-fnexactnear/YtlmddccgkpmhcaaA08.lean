import Derived.Test.YtlmddccgkpmhcaaA07
/- Floats of 64 bits: how numbers stand to 0, 1, 2 and the greatest. -/
namespace Go.Proofs.Ytlmddccgkpmhcaa
open Ieee

theorem cmp_lt (a b : Int) (h : a < b) : compare a b = .lt := by simp only [compare, compareOfLessAndEq]; rw [if_pos h]
theorem cmp_gt (a b : Int) (h : b < a) : compare a b = .gt := by simp only [compare, compareOfLessAndEq]; rw [if_neg (by omega), if_neg (by omega)]
theorem cmp_eq (a b : Int) (h : a = b) : compare a b = .eq := by simp only [compare, compareOfLessAndEq]; rw [if_neg (by omega), if_pos h]
theorem sval_pos (m : Nat) (p : Int) (h : 0 < m) : 0 < sval false m p := by
  unfold sval; rw [signed_eq]
  have : 0 < m * 2 ^ (p + 2200).toNat := Nat.mul_pos h (Nat.two_pow_pos _)
  simp only [Bool.false_eq_true, if_false, Int.one_mul]
  exact Int.ofNat_lt.2 this
theorem sval_neg (m : Nat) (p : Int) : sval true m p = - sval false m p := by
  unfold sval; rw [signed_eq, signed_eq]
  simp only [Bool.false_eq_true, if_false, if_true, Int.one_mul]
  omega
theorem rep_zero : Rep 0 (-1074) := canon_rep _ _ canon_zero
theorem rep_one : Rep 4503599627370496 (-52) := canon_rep _ _ (.inl ⟨by omega, by omega, by omega, by omega⟩)
theorem rep_two : Rep 4503599627370496 (-51) := canon_rep _ _ (.inl ⟨by omega, by omega, by omega, by omega⟩)
theorem rep_most : Rep 9007199254740991 971 := canon_rep _ _ (.inl ⟨by omega, by omega, by omega, by omega⟩)
theorem ord_zero (s : Bool) (m : Nat) (p : Int) (h : Rep m p) (hm : 0 < m) : double.order (fw s m p) 0 = some (if s then .lt else .gt) := by
  rw [bits_zero, order_rep s false m 0 p (-1074) h rep_zero, sval_zero]
  have := sval_pos m p hm
  cases s
  · rw [cmp_gt _ _ this]; rfl
  · rw [sval_neg, cmp_lt _ _ (by omega)]; rfl
theorem ord_zeros (s : Bool) : double.order (signBit s) 0 = some .eq := by
  rw [bits_zero, ← fw_zero s (-1074), order_rep s false 0 0 (-1074) (-1074) rep_zero rep_zero, sval_zero, sval_zero, cmp_eq _ _ rfl]
theorem ord_inf_zero (s : Bool) : double.order (iw s) 0 = some (if s then .lt else .gt) := by
  rw [bits_zero, order_iw_fw s false 0 (-1074) canon_zero]
theorem ord_inf_most : double.order (iw false) 9218868437227405311 = some .gt := by
  rw [bits_most, order_iw_fw false false _ _ (.inl ⟨by omega, by omega, by omega, by omega⟩)]; rfl
theorem ord_most (m : Nat) (p : Int) (h : Canon m p) : (double.order (fw false m p) 9218868437227405311 == some .gt) = false := by
  rw [bits_most, order_rep false false m _ p 971 (canon_rep m p h) rep_most]
  have hle : sval false m p ≤ sval false 9007199254740991 971 := by
    rcases h with ⟨h1, h2, h3, h4⟩ | ⟨h1, rfl⟩
    · exact sval_le _ _ _ _ (by omega) h4
    · exact sval_le _ _ _ _ (by omega) (by omega)
  by_cases he : sval false m p = sval false 9007199254740991 971
  · rw [cmp_eq _ _ he]; rfl
  · rw [cmp_lt _ _ (by omega)]; rfl
/-- From 2 on. -/
theorem ord_two_ge (m : Nat) (p : Int) (h : Rep m p) (hm : 4503599627370496 ≤ m) (hp : -51 ≤ p) : double.order (fw false m p) 4611686018427387904 = some .gt ∨ double.order (fw false m p) 4611686018427387904 = some .eq := by
  rw [bits_two, order_rep false false m _ p (-51) h rep_two]
  have hle : sval false 4503599627370496 (-51) ≤ sval false m p := sval_le _ _ _ _ hm hp
  by_cases he : sval false m p = sval false 4503599627370496 (-51)
  · rw [cmp_eq _ _ he]; exact .inr rfl
  · rw [cmp_gt _ _ (by omega)]; exact .inl rfl
theorem two_form : sval false 4503599627370496 (-51) = sval false 9007199254740992 (-52) := by
  have := sval_scale false 4503599627370496 1 (-51) (by omega)
  rw [← this]; rfl
theorem one_form : sval false 4503599627370496 (-52) = sval false 9007199254740992 (-53) := by
  have := sval_scale false 4503599627370496 1 (-52) (by omega)
  rw [← this]; rfl
theorem ord_two_lt (m : Nat) (p : Int) (h : Rep m p) (hp : p ≤ -52) : (double.order (fw false m p) 4611686018427387904 == some .gt || double.order (fw false m p) 4611686018427387904 == some .eq) = false := by
  rw [bits_two, order_rep false false m _ p (-51) h rep_two, two_form]
  have hlt : sval false m p < sval false 9007199254740992 (-52) := sval_lt _ _ _ _ h.1 hp
  rw [cmp_lt _ _ hlt]; rfl
theorem ord_one_ge (m : Nat) (p : Int) (h : Rep m p) (hm : 4503599627370496 ≤ m) (hp : -52 ≤ p) : (double.order (fw false m p) 4607182418800017408 == some .lt) = false := by
  rw [bits_one, order_rep false false m _ p (-52) h rep_one]
  have hle : sval false 4503599627370496 (-52) ≤ sval false m p := sval_le _ _ _ _ hm hp
  by_cases he : sval false m p = sval false 4503599627370496 (-52)
  · rw [cmp_eq _ _ he]; rfl
  · rw [cmp_gt _ _ (by omega)]; rfl
theorem ord_one_lt (m : Nat) (p : Int) (h : Rep m p) (hp : p ≤ -53 ∨ (m < 4503599627370496 ∧ p ≤ -52)) : double.order (fw false m p) 4607182418800017408 = some .lt := by
  rw [bits_one, order_rep false false m _ p (-52) h rep_one]
  rcases hp with hp | ⟨hm, hp⟩
  · rw [one_form, cmp_lt _ _ (sval_lt _ _ _ _ h.1 hp)]
  · rw [cmp_lt _ _ (sval_lt _ _ _ _ hm hp)]
end Go.Proofs.Ytlmddccgkpmhcaa

