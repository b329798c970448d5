/- The order of floats as that of their bits. -/
import Derived.Test.YtllgkilahacagaaFltI
namespace Go.Proofs.Ytllgkilahacagaa
open Ieee (double)

/-- What a word without its sign bit counts, with the sign. -/
def rankI (s : Bool) (r : Nat) : Int := if s then -(r : Int) else (r : Int)
theorem rung_lt_sval (m n : Nat) (p q : Int) (h : Canon m p) (k : Canon n q) (hr : rung m p < rung n q) : sval false m p < sval false n q := by
  unfold rung at hr
  by_cases hpq : p = q
  · subst hpq
    exact sval_lt m n p p (by omega) (by omega)
  · have hlt : p < q := by
      rcases h with h | h <;> rcases k with k | k <;> omega
    have hn : 4503599627370496 ≤ n := by rcases k with k | k <;> rcases h with h | h <;> omega
    have hm : m < 9007199254740992 := by rcases h with h | h <;> omega
    have hp : -1074 ≤ p := by rcases h with h | h <;> omega
    have h1 := sval_lt m 9007199254740992 p p hm (by omega)
    have h2 : sval false 9007199254740992 p = sval false 4503599627370496 (p + 1) := by
      have := sval_scale false 4503599627370496 1 (p + 1) (by omega)
      rw [show (4503599627370496 * 2 ^ 1 : Nat) = 9007199254740992 by decide, show (p + 1 - ((1 : Nat) : Int)) = p by omega] at this
      exact this
    have h3 := sval_le n 4503599627370496 q (p + 1) hn (by omega)
    omega
theorem rung_eq_sval (m n : Nat) (p q : Int) (h : Canon m p) (k : Canon n q) (hr : rung m p = rung n q) : sval false m p = sval false n q := by
  have e : fw false m p = fw false n q := by rw [fw_canon _ _ _ h, fw_canon _ _ _ k, hr]
  have h1 := read_canon false m p h
  rw [e, read_canon false n q k] at h1
  cases h1; rfl
theorem sval_nonneg (m : Nat) (p : Int) : 0 ≤ sval false m p := by
  by_cases h : m = 0
  · subst h; rw [sval_zero]; omega
  · have := sval_pos m p (by omega); omega
theorem rung_zero (m : Nat) (p : Int) (hr : rung m p = 0) : m = 0 := by
  unfold rung at hr; omega
theorem cmp_rung (s t : Bool) (m n : Nat) (p q : Int) (h : Canon m p) (k : Canon n q) : compare (sval s m p) (sval t n q) = compare (rankI s (rung m p)) (rankI t (rung n q)) := by
  have a0 := sval_nonneg m p
  have b0 := sval_nonneg n q
  have am : 0 < rung m p → 0 < sval false m p := fun h' => sval_pos m p (by
    rcases Nat.eq_zero_or_pos m with h0 | h0
    · subst h0
      rcases h with h | h
      · omega
      · unfold rung at h'; rw [h.2] at h'; simp at h'
    · exact h0)
  have bm : 0 < rung n q → 0 < sval false n q := fun h' => sval_pos n q (by
    rcases Nat.eq_zero_or_pos n with h0 | h0
    · subst h0
      rcases k with k | k
      · omega
      · unfold rung at h'; rw [k.2] at h'; simp at h'
    · exact h0)
  have az : rung m p = 0 → sval false m p = 0 := fun h' => by rw [rung_zero m p h', sval_zero]
  have bz : rung n q = 0 → sval false n q = 0 := fun h' => by rw [rung_zero n q h', sval_zero]
  have l1 := rung_lt_sval m n p q h k
  have l2 := rung_lt_sval n m q p k h
  have l3 := rung_eq_sval m n p q h k
  have hsv : ∀ (s : Bool) (m : Nat) (p : Int), sval s m p = if s then - sval false m p else sval false m p := by
    intro s m p; cases s
    · rfl
    · rw [sval_neg]; rfl
  rw [hsv s m p, hsv t n q]
  unfold rankI
  generalize sval false m p = A at *
  generalize sval false n q = B at *
  generalize rung m p = a at *
  generalize rung n q = b at *
  have key : ∀ x y X Y : Int, (X < Y ↔ x < y) → (X = Y ↔ x = y) → compare X Y = compare x y := by
    intro x y X Y h1 h2
    simp only [compare, compareOfLessAndEq]
    by_cases c1 : x < y
    · rw [if_pos c1, if_pos (h1.2 c1)]
    · rw [if_neg c1, if_neg (fun c => c1 (h1.1 c))]
      by_cases c2 : x = y
      · rw [if_pos c2, if_pos (h2.2 c2)]
      · rw [if_neg c2, if_neg (fun c => c2 (h2.1 c))]
  apply key
  · rcases Nat.lt_trichotomy a b with c | c | c
    · have := l1 c
      cases s <;> cases t <;> simp <;> omega
    · have := l3 c
      cases s <;> cases t <;> simp <;> omega
    · have := l2 c
      cases s <;> cases t <;> simp <;> omega
  · rcases Nat.lt_trichotomy a b with c | c | c
    · have := l1 c
      cases s <;> cases t <;> simp <;> omega
    · have := l3 c
      cases s <;> cases t <;> simp <;> omega
    · have := l2 c
      cases s <;> cases t <;> simp <;> omega
/-- A number's own form, off its bits. -/
theorem canon_parts (E M : Nat) (hM : M < 4503599627370496) (hE : E ≤ 2046) : ∃ m p, Canon m p ∧ rung m p = E * 4503599627370496 + M ∧ ((E = 0 ∧ m = M ∧ p = -1074) ∨ (1 ≤ E ∧ m = 4503599627370496 + M ∧ p = (E : Int) - 1 + -1074)) := by
  by_cases h : E = 0
  · exact ⟨M, -1074, .inr ⟨hM, rfl⟩, by unfold rung; subst h; simp, .inl ⟨h, rfl, rfl⟩⟩
  · refine ⟨4503599627370496 + M, (E : Int) - 1 + -1074, .inl ⟨by omega, by omega, by omega, by omega⟩, ?_, .inr ⟨by omega, rfl, rfl⟩⟩
    unfold rung
    rw [show ((E : Int) - 1 + -1074 + 1074).toNat = E - 1 by omega]
    omega
theorem order_rank (s t : Bool) (r q : Nat) (hr : r ≤ 9218868437227405312) (hq : q ≤ 9218868437227405312) : double.order (signBit s + r) (signBit t + q) = some (compare (rankI s r) (rankI t q)) := by
  have form : ∀ r : Nat, r < 9218868437227405312 → ∃ m p, Canon m p ∧ rung m p = r := by
    intro r h
    obtain ⟨m, p, h1, h2, _⟩ := canon_parts (r / 4503599627370496) (r % 4503599627370496) (by omega) (by omega)
    exact ⟨m, p, h1, by omega⟩
  by_cases c1 : r = 9218868437227405312
  · by_cases c2 : q = 9218868437227405312
    · subst c1 c2
      cases s <;> cases t <;> decide
    · obtain ⟨n, q', k, hk⟩ := form q (by omega)
      have e : signBit t + q = fw t n q' := by rw [fw_canon _ _ _ k, hk]
      subst c1
      rw [e, show signBit s + 9218868437227405312 = iw s from rfl, order_iw_fw s t n q' k]
      unfold rankI
      cases s <;> cases t <;> simp only [if_true, Bool.false_eq_true, if_false] <;> first | rw [cmp_lt _ _ (by omega)] | rw [cmp_gt _ _ (by omega)]
  · obtain ⟨m, p, h, hh⟩ := form r (by omega)
    have e1 : signBit s + r = fw s m p := by rw [fw_canon _ _ _ h, hh]
    by_cases c2 : q = 9218868437227405312
    · subst c2
      rw [e1, show signBit t + 9218868437227405312 = iw t from rfl, order_fw_iw t s m p h]
      unfold rankI
      cases s <;> cases t <;> simp only [if_true, Bool.false_eq_true, if_false] <;> first | rw [cmp_lt _ _ (by omega)] | rw [cmp_gt _ _ (by omega)]
    · obtain ⟨n, q', k, hk⟩ := form q (by omega)
      have e2 : signBit t + q = fw t n q' := by rw [fw_canon _ _ _ k, hk]
      rw [e1, e2, order_fw s t m n p q' h k, cmp_rung s t m n p q' h k, hh, hk]
end Go.Proofs.Ytllgkilahacagaa
