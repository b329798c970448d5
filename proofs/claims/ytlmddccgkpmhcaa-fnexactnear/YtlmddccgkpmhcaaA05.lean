import Derived.Test.YtlmddccgkpmhcaaA04
/- Floats of 64 bits: numbers of at most 53 digits, in whatever form. -/
namespace Go.Proofs.Ytlmddccgkpmhcaa
open Ieee

/-- A number that a float is. -/
def Rep (m : Nat) (p : Int) : Prop := m < 9007199254740992 ∧ -1074 ≤ p ∧ (m = 0 ∨ p + m.log2 ≤ 1023)
theorem sval_zero (s : Bool) (p : Int) : sval s 0 p = 0 := by unfold sval; rw [signed_eq, Nat.zero_mul]; simp
theorem sval_scale (s : Bool) (m k : Nat) (p : Int) (h : -2200 ≤ p - k) : sval s (m * 2 ^ k) (p - k) = sval s m p := by
  unfold sval
  rw [signed_eq, signed_eq, Nat.mul_assoc, ← Nat.pow_add, show k + (p - k + 2200).toNat = (p + 2200).toNat by omega]
theorem sval_le (m n : Nat) (p q : Int) (h : n ≤ m) (hp : q ≤ p) : sval false n q ≤ sval false m p := by
  unfold sval
  rw [signed_eq, signed_eq]
  have h1 : n * 2 ^ (q + 2200).toNat ≤ m * 2 ^ (p + 2200).toNat := Nat.mul_le_mul h (Nat.pow_le_pow_right (by omega) (by omega))
  simp only [Bool.false_eq_true, if_false, Int.one_mul]
  exact Int.ofNat_le.2 h1
theorem sval_lt (m n : Nat) (p q : Int) (h : m < n) (hp : p ≤ q) : sval false m p < sval false n q := by
  unfold sval
  rw [signed_eq, signed_eq]
  have h1 : m * 2 ^ (p + 2200).toNat < n * 2 ^ (p + 2200).toNat := Nat.mul_lt_mul_of_pos_right h (Nat.two_pow_pos _)
  have h2 : n * 2 ^ (p + 2200).toNat ≤ n * 2 ^ (q + 2200).toNat := Nat.mul_le_mul_left _ (Nat.pow_le_pow_right (by omega) (by omega))
  simp only [Bool.false_eq_true, if_false, Int.one_mul]
  exact Int.ofNat_lt.2 (Nat.lt_of_lt_of_le h1 h2)
theorem rep_canon (m : Nat) (p : Int) (h : Rep m p) : ∃ n q, Canon n q ∧ (∀ s, fw s m p = fw s n q) ∧ (∀ s, sval s m p = sval s n q) ∧ (0 < m → 0 < n) := by
  obtain ⟨h53, hp, hl⟩ := h
  by_cases h0 : m = 0
  · subst h0
    exact ⟨0, -1074, canon_zero, fun s => by rw [fw_zero, fw_zero], fun s => by rw [sval_zero, sval_zero], fun h => h⟩
  · obtain ⟨k, hk, hc, he⟩ := canon_of m p (by omega) h53 hp (by rcases hl with hl | hl <;> omega)
    exact ⟨_, _, hc, he, fun s => (sval_scale s m k p (by omega)).symm, fun h => Nat.mul_pos h (Nat.two_pow_pos k)⟩
theorem canon_rep (m : Nat) (p : Int) (h : Canon m p) : Rep m p := by
  rcases h with ⟨h1, h2, h3, h4⟩ | ⟨h1, rfl⟩
  · exact ⟨h2, h3, .inr (by rw [log2_53 m h1 h2]; omega)⟩
  · refine ⟨by omega, by omega, ?_⟩
    by_cases h0 : m = 0
    · exact .inl h0
    · have := log2_lt m h0 h1
      exact .inr (by omega)
theorem order_rep (s t : Bool) (m n : Nat) (i j : Int) (h : Rep m i) (k : Rep n j) : double.order (fw s m i) (fw t n j) = some (compare (sval s m i) (sval t n j)) := by
  obtain ⟨m', i', hc, hf, hv, _⟩ := rep_canon m i h
  obtain ⟨n', j', kc, kf, kv, _⟩ := rep_canon n j k
  rw [hf, kf, hv, kv]
  exact order_fw s t m' n' i' j' hc kc
theorem mul_rep (s : Bool) (m : Nat) (i : Int) (h : Rep m i) (e : Int) (he : -1022 ≤ e) (he' : e ≤ 1023) : double.mul (fw s m i) (fw false 4503599627370496 (e - 52)) = some (fw s m (i + e)) := by
  obtain ⟨h53, hp, hl⟩ := h
  by_cases h0 : m = 0
  · subst h0
    rw [fw_zero, ← fw_zero s (-1074), mul_pow s 0 (-1074) canon_zero e he he', fw_zero, fw_zero]
  · obtain ⟨k, hk, hc, hf⟩ := canon_of m i (by omega) h53 hp (by rcases hl with hl | hl <;> omega)
    rw [hf s, mul_pow s _ _ hc e he he']
    have := fw_scale s m k (i + e)
    rw [← this, show i + e - (k : Int) = i - k + e by omega]
theorem neg_rep (s : Bool) (m : Nat) (i : Int) (h : Rep m i) : Op.negFloat .f64 (fw s m i) = fw (!s) m i := by
  obtain ⟨m', i', hc, hf, _, _⟩ := rep_canon m i h
  rw [hf, hf]
  exact neg_fw s m' i' hc
/-- Doubling and halving. -/
theorem twice (s : Bool) (m : Nat) (i : Int) (h : Rep m i) : double.mul (fw s m i) (fw false 4503599627370496 (-51)) = some (fw s m (i + 1)) := by
  have e := mul_rep s m i h 1 (by omega) (by omega)
  rw [show (1 : Int) - 52 = -51 by omega] at e
  exact e
theorem half (s : Bool) (m : Nat) (i : Int) (h : Rep m i) : double.mul (fw s m i) (fw false 4503599627370496 (-53)) = some (fw s m (i - 1)) := by
  have e := mul_rep s m i h (-1) (by omega) (by omega)
  rw [show (-1 : Int) - 52 = -53 by omega, show i + -1 = i - 1 by omega] at e
  exact e
theorem up52 (s : Bool) (m : Nat) (i : Int) (h : Rep m i) : double.mul (fw s m i) (fw false 4503599627370496 0) = some (fw s m (i + 52)) := by
  have e := mul_rep s m i h 52 (by omega) (by omega)
  rw [show (52 : Int) - 52 = 0 by omega] at e
  exact e
/-- The floats that the texts name. -/
theorem bits_one : (4607182418800017408 : Nat) = fw false 4503599627370496 (-52) := by rw [fw_canon _ _ _ (.inl ⟨by omega, by omega, by omega, by omega⟩)]; decide
theorem bits_two : (4611686018427387904 : Nat) = fw false 4503599627370496 (-51) := by rw [fw_canon _ _ _ (.inl ⟨by omega, by omega, by omega, by omega⟩)]; decide
theorem bits_half : (4602678819172646912 : Nat) = fw false 4503599627370496 (-53) := by rw [fw_canon _ _ _ (.inl ⟨by omega, by omega, by omega, by omega⟩)]; decide
theorem bits_52 : (4841369599423283200 : Nat) = fw false 4503599627370496 0 := by rw [fw_canon _ _ _ (.inl ⟨by omega, by omega, by omega, by omega⟩)]; decide
theorem bits_most : (9218868437227405311 : Nat) = fw false 9007199254740991 971 := by rw [fw_canon _ _ _ (.inl ⟨by omega, by omega, by omega, by omega⟩)]; decide
theorem bits_zero : (0 : Nat) = fw false 0 (-1074) := by rw [fw_zero]; rfl
end Go.Proofs.Ytlmddccgkpmhcaa

