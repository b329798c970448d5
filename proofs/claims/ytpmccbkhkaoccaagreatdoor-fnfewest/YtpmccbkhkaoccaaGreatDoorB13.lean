import Derived.Test.YtpmccbkhkaoccaaGreatDoorB11
import Derived.Test.YtpmccbkhkaoccaaGreatDoorB10
import Derived.Laws.MakeOwn
import Derived.WalkKit
import Derived.Lib.Strings
/- Beside the midst between two floats, and in it: plain. -/
namespace Go.Proofs.YtpmccbkhkaoccaaGreatDoor
open Ieee (double)

/-- A number between a float and the next one: its word, by what is left behind the float's own digits. -/
theorem fw_beside (m M d : Nat) (e p : Int) (hc : Canon m p) (hp : p = e + d) (hd : 1 ≤ d) (h0 : 0 < M) (h1 : m * 2 ^ d ≤ M) (h2 : M < (m + 1) * 2 ^ d) : fw false M e = rung m p + (keptOf M d - m) ∧ m ≤ keptOf M d ∧ keptOf M d ≤ m + 1 := by
  have hpd : 0 < 2 ^ d := Nat.two_pow_pos d
  have hdiv : M / 2 ^ d = m := by
    have a : m ≤ M / 2 ^ d := (Nat.le_div_iff_mul_le hpd).2 h1
    have b : M / 2 ^ d < m + 1 := (Nat.div_lt_iff_lt_mul hpd).2 h2
    omega
  have hk : m ≤ keptOf M d ∧ keptOf M d ≤ m + 1 := by
    unfold keptOf
    rw [hdiv]
    split <;> omega
  have hm2 : m < 9007199254740992 := by rcases hc with h | h <;> omega
  have hpl : -1074 ≤ p := by rcases hc with h | h <;> omega
  have hM2 : M < 2 ^ (53 + d) := by
    rw [Nat.pow_add]
    have : (m + 1) * 2 ^ d ≤ 2 ^ 53 * 2 ^ d := Nat.mul_le_mul_right _ (by omega)
    omega
  have hl : max (e + (M.log2 : Int) - 52) (-1074) = p := by
    rcases hc with ⟨a, b, c, _⟩ | ⟨a, b⟩
    · have hlo : 2 ^ (52 + d) ≤ M := by
        rw [Nat.pow_add]
        have : 2 ^ 52 * 2 ^ d ≤ m * 2 ^ d := Nat.mul_le_mul_right _ (by omega)
        omega
      have l1 := log2_ge M (52 + d) h0 hlo
      have l2 := log2_le M (52 + d) h0 (by rw [show 52 + d + 1 = 53 + d by omega]; exact hM2)
      omega
    · have hhi : M < 2 ^ (52 + d) := by
        rw [Nat.pow_add]
        have : (m + 1) * 2 ^ d ≤ 2 ^ 52 * 2 ^ d := Nat.mul_le_mul_right _ (by omega)
        omega
      have l2 := log2_le M (51 + d) h0 (by rw [show 51 + d + 1 = 52 + d by omega]; exact hhi)
      omega
  have hrl := rung_lt m p hc
  refine ⟨?_, hk⟩
  rw [fw_place false M e h0, hl]
  have hr : roundN M (p - e) = keptOf M d := by
    unfold roundN
    rw [if_neg (by omega), show (p - e).toNat = d by omega]
  rw [hr]
  unfold rung at hrl ⊢
  show 0 + min ((p + 1074).toNat * 4503599627370496 + keptOf M d) 9218868437227405312 = _
  rw [Nat.zero_add, Nat.min_eq_left (by omega)]
  omega
theorem kept_below (m M d : Nat) (hd : 1 ≤ d) (h1 : m * 2 ^ d ≤ M) (h2 : M < m * 2 ^ d + 2 ^ (d - 1)) : keptOf M d = m := by
  have hpd : 2 ^ d = 2 * 2 ^ (d - 1) := by rw [← Nat.pow_succ', show (d - 1).succ = d by omega]
  obtain ⟨r, rfl⟩ : ∃ r, M = m * 2 ^ d + r := ⟨M - m * 2 ^ d, by omega⟩
  have hr : r < 2 ^ d := by omega
  have e1 : (m * 2 ^ d + r) / 2 ^ d = m := by rw [Nat.mul_comm, Nat.mul_add_div (Nat.two_pow_pos d), Nat.div_eq_of_lt hr, Nat.add_zero]
  have e2 : (m * 2 ^ d + r) % 2 ^ d = r := by rw [Nat.mul_comm, Nat.mul_add_mod, Nat.mod_eq_of_lt hr]
  unfold keptOf
  rw [e1, e2, if_neg (by omega)]
theorem kept_mid (m d : Nat) (hd : 1 ≤ d) : keptOf (m * 2 ^ d + 2 ^ (d - 1)) d = m + m % 2 := by
  have hpd : 2 ^ d = 2 * 2 ^ (d - 1) := by rw [← Nat.pow_succ', show (d - 1).succ = d by omega]
  have hp1 : 0 < 2 ^ (d - 1) := Nat.two_pow_pos _
  have hr : 2 ^ (d - 1) < 2 ^ d := by omega
  have e1 : (m * 2 ^ d + 2 ^ (d - 1)) / 2 ^ d = m := by rw [Nat.mul_comm, Nat.mul_add_div (Nat.two_pow_pos d), Nat.div_eq_of_lt hr, Nat.add_zero]
  have e2 : (m * 2 ^ d + 2 ^ (d - 1)) % 2 ^ d = 2 ^ (d - 1) := by rw [Nat.mul_comm, Nat.mul_add_mod, Nat.mod_eq_of_lt hr]
  unfold keptOf
  rw [e1, e2]
  by_cases h : m % 2 = 1
  · rw [if_pos (.inr ⟨rfl, h⟩)]; omega
  · rw [if_neg (by omega)]; omega
theorem kept_above (m M d : Nat) (h1 : m * 2 ^ d + 2 ^ (d - 1) < M) (h2 : M < (m + 1) * 2 ^ d) : keptOf M d = m + 1 := by
  have hp1 : 0 < 2 ^ (d - 1) := Nat.two_pow_pos _
  obtain ⟨r, rfl⟩ : ∃ r, M = m * 2 ^ d + r := ⟨M - m * 2 ^ d, by omega⟩
  rw [Nat.add_mul, Nat.one_mul] at h2
  have hr : r < 2 ^ d := by omega
  have e1 : (m * 2 ^ d + r) / 2 ^ d = m := by rw [Nat.mul_comm, Nat.mul_add_div (Nat.two_pow_pos d), Nat.div_eq_of_lt hr, Nat.add_zero]
  have e2 : (m * 2 ^ d + r) % 2 ^ d = r := by rw [Nat.mul_comm, Nat.mul_add_mod, Nat.mod_eq_of_lt hr]
  unfold keptOf
  rw [e1, e2, if_pos (.inl (by omega))]
/-- The midst itself: to the even one. -/
theorem fw_midst (m : Nat) (p : Int) (hc : Canon m p) : fw false (2 * m + 1) (p - 1) = rung m p + m % 2 := by
  have hk := kept_mid m 1 (by omega)
  rw [show m * 2 ^ 1 + 2 ^ (1 - 1) = 2 * m + 1 by rw [Nat.pow_one]; show m * 2 + 1 = _; omega] at hk
  obtain ⟨h, _⟩ := fw_beside m (2 * m + 1) 1 (p - 1) p hc (by omega) (by omega) (by omega) (by rw [Nat.pow_one]; omega) (by rw [Nat.pow_one]; omega)
  rw [h, hk]
  omega
/-- A quotient, made long enough: its whole part Q at the place -K, and whether something is left. -/
theorem ratio_long_at (A C K : Nat) (hA : 0 < A) (hC : 0 < C) (h : 9007199254740992 ≤ A * 2 ^ K / C) : ratioW A C = if A * 2 ^ K % C = 0 then fw false (A * 2 ^ K / C) (-(K : Int)) else fw false (2 * (A * 2 ^ K / C) + 1) (-(K : Int) - 1) := by
  have := ratioW_at A C K 0 hA hC (by rw [Nat.pow_zero, Nat.mul_one]; exact h)
  rw [← this]
  unfold ratioAt
  rw [Nat.pow_zero, Nat.mul_one, show ((0 : Nat) : Int) - (K : Int) = -(K : Int) by omega]
/-- A quotient a little above the midst: the next float. m at the place p = g - v, the quotient A / C: (2m + 1) 2^g C < A 2^(v+1), and not beyond the next float. -/
theorem ratio_above (A C m g v : Nat) (p : Int) (hc : Canon m p) (hp : p = (g : Int) - v) (hA : 0 < A) (hC : 0 < C) (h1 : (2 * m + 1) * 2 ^ g * C < A * 2 ^ (v + 1)) (h2 : A * 2 ^ v < (m + 1) * 2 ^ g * C) : ratioW A C = rung m p + 1 := by
  -- the place: far enough down
  obtain ⟨K, hK1, hK2, hK3⟩ : ∃ K, v + 1 ≤ K ∧ 9007199254740992 ≤ A * 2 ^ K / C ∧ v + 1 + g ≤ K + g := by
    refine ⟨v + 1 + (53 + C), by omega, ?_, by omega⟩
    have a1 : C ≤ 2 ^ C := Nat.le_of_lt Nat.lt_two_pow_self
    have a2 : C * 2 ^ 53 ≤ A * 2 ^ (v + 1 + (53 + C)) := by
      have b1 : C * 2 ^ 53 ≤ 2 ^ C * 2 ^ 53 := Nat.mul_le_mul_right _ a1
      have b2 : 2 ^ C * 2 ^ 53 ≤ 2 ^ (v + 1 + (53 + C)) := by rw [← Nat.pow_add]; exact Nat.pow_le_pow_right (by omega) (by omega)
      have b3 : 1 * 2 ^ (v + 1 + (53 + C)) ≤ A * 2 ^ (v + 1 + (53 + C)) := Nat.mul_le_mul_right _ hA
      rw [Nat.one_mul] at b3
      exact Nat.le_trans (Nat.le_trans b1 b2) b3
    rw [show (9007199254740992 : Nat) = 2 ^ 53 from rfl, Nat.le_div_iff_mul_le hC, Nat.mul_comm]
    exact a2
  obtain ⟨d', hd'⟩ : ∃ d', K = v + 1 + d' := ⟨K - (v + 1), by omega⟩
  -- the digits behind the float's own: d = K - v + g
  have hQlo : (m * 2 ^ (g + d' + 1) + 2 ^ (g + d')) ≤ A * 2 ^ K / C := by
    rw [Nat.le_div_iff_mul_le hC]
    have e : (m * 2 ^ (g + d' + 1) + 2 ^ (g + d')) * C = ((2 * m + 1) * 2 ^ g * C) * 2 ^ d' := by
      rw [Nat.pow_succ, Nat.pow_add]
      have : m * (2 ^ g * 2 ^ d' * 2) + 2 ^ g * 2 ^ d' = (2 * m + 1) * (2 ^ g * 2 ^ d') := by
        rw [Nat.add_mul, Nat.one_mul, Nat.mul_comm (2 ^ g * 2 ^ d') 2, ← Nat.mul_assoc, Nat.mul_comm m 2]
      rw [this, ← Nat.mul_assoc, Nat.mul_right_comm]
    have e2 : A * 2 ^ K = A * 2 ^ (v + 1) * 2 ^ d' := by rw [hd', Nat.pow_add, Nat.mul_assoc]
    rw [e, e2]
    exact Nat.mul_le_mul_right _ (Nat.le_of_lt h1)
  have hQhi : A * 2 ^ K / C < (m + 1) * 2 ^ (g + d' + 1) := by
    rw [Nat.div_lt_iff_lt_mul hC]
    have e : (m + 1) * 2 ^ (g + d' + 1) * C = ((m + 1) * 2 ^ g * C) * 2 ^ (d' + 1) := by
      rw [show g + d' + 1 = g + (d' + 1) by omega, Nat.pow_add, ← Nat.mul_assoc, Nat.mul_right_comm]
    have e2 : A * 2 ^ K = A * 2 ^ v * 2 ^ (d' + 1) := by rw [hd', show v + 1 + d' = v + (d' + 1) by omega, Nat.pow_add, Nat.mul_assoc]
    rw [e, e2]
    exact Nat.mul_lt_mul_of_pos_right h2 (Nat.two_pow_pos _)
  have hp53 : 0 < 2 ^ (g + d') := Nat.two_pow_pos _
  rw [ratio_long_at A C K hA hC hK2]
  split
  · rename_i hrest
    have hne : A * 2 ^ K / C ≠ m * 2 ^ (g + d' + 1) + 2 ^ (g + d') := by
      intro he
      have hmul : A * 2 ^ K = (m * 2 ^ (g + d' + 1) + 2 ^ (g + d')) * C := by
        rw [← he]
        exact (Nat.div_mul_cancel (Nat.dvd_of_mod_eq_zero hrest)).symm
      have e : (m * 2 ^ (g + d' + 1) + 2 ^ (g + d')) * C = ((2 * m + 1) * 2 ^ g * C) * 2 ^ d' := by
        rw [Nat.pow_succ, Nat.pow_add]
        have : m * (2 ^ g * 2 ^ d' * 2) + 2 ^ g * 2 ^ d' = (2 * m + 1) * (2 ^ g * 2 ^ d') := by
          rw [Nat.add_mul, Nat.one_mul, Nat.mul_comm (2 ^ g * 2 ^ d') 2, ← Nat.mul_assoc, Nat.mul_comm m 2]
        rw [this, ← Nat.mul_assoc, Nat.mul_right_comm]
      have e2 : A * 2 ^ K = A * 2 ^ (v + 1) * 2 ^ d' := by rw [hd', Nat.pow_add, Nat.mul_assoc]
      rw [e, e2] at hmul
      have := Nat.eq_of_mul_eq_mul_right (Nat.two_pow_pos d') hmul
      omega
    obtain ⟨hb, _, _⟩ := fw_beside m (A * 2 ^ K / C) (g + d' + 1) (-(K : Int)) p hc (by omega) (by omega) (by omega) (by omega) hQhi
    rw [hb, kept_above m _ (g + d' + 1) (by rw [Nat.add_sub_cancel]; omega) hQhi]
    omega
  · obtain ⟨Q, hQ⟩ : ∃ Q, Q = A * 2 ^ K / C := ⟨_, rfl⟩
    rw [← hQ] at hQlo hQhi hK2 ⊢
    have hpp : 2 ^ (g + d' + 2) = 2 * 2 ^ (g + d' + 1) := by rw [← Nat.pow_succ']
    have hpq : 2 ^ (g + d' + 1) = 2 * 2 ^ (g + d') := by rw [← Nat.pow_succ']
    have e1 : m * 2 ^ (g + d' + 2) = 2 * (m * 2 ^ (g + d' + 1)) := by rw [hpp, Nat.mul_left_comm]
    have e2 : (m + 1) * 2 ^ (g + d' + 2) = 2 * ((m + 1) * 2 ^ (g + d' + 1)) := by rw [hpp, Nat.mul_left_comm]
    have u1 : 2 * Q + 1 < (m + 1) * 2 ^ (g + d' + 2) := by omega
    obtain ⟨hb, _, _⟩ := fw_beside m (2 * Q + 1) (g + d' + 2) (-(K : Int) - 1) p hc (by omega) (by omega) (by omega) (by omega) u1
    rw [hb, kept_above m _ (g + d' + 2) (by rw [show g + d' + 2 - 1 = g + d' + 1 by omega]; omega) u1]
    omega
/-- A quotient a little below the midst, and not below the float: the float itself. -/
theorem ratio_below (A C m g v : Nat) (p : Int) (hc : Canon m p) (hp : p = (g : Int) - v) (hA : 0 < A) (hC : 0 < C) (h1 : m * 2 ^ g * C ≤ A * 2 ^ v) (h2 : A * 2 ^ (v + 1) < (2 * m + 1) * 2 ^ g * C) : ratioW A C = rung m p := by
  obtain ⟨K, hK1, hK2⟩ : ∃ K, v + 1 ≤ K ∧ 9007199254740992 ≤ A * 2 ^ K / C := by
    refine ⟨v + 1 + (53 + C), by omega, ?_⟩
    have a1 : C ≤ 2 ^ C := Nat.le_of_lt Nat.lt_two_pow_self
    have a2 : C * 2 ^ 53 ≤ A * 2 ^ (v + 1 + (53 + C)) := by
      have b1 : C * 2 ^ 53 ≤ 2 ^ C * 2 ^ 53 := Nat.mul_le_mul_right _ a1
      have b2 : 2 ^ C * 2 ^ 53 ≤ 2 ^ (v + 1 + (53 + C)) := by rw [← Nat.pow_add]; exact Nat.pow_le_pow_right (by omega) (by omega)
      have b3 : 1 * 2 ^ (v + 1 + (53 + C)) ≤ A * 2 ^ (v + 1 + (53 + C)) := Nat.mul_le_mul_right _ hA
      rw [Nat.one_mul] at b3
      exact Nat.le_trans (Nat.le_trans b1 b2) b3
    rw [show (9007199254740992 : Nat) = 2 ^ 53 from rfl, Nat.le_div_iff_mul_le hC, Nat.mul_comm]
    exact a2
  obtain ⟨d', hd'⟩ : ∃ d', K = v + 1 + d' := ⟨K - (v + 1), by omega⟩
  have hQlo : m * 2 ^ (g + d' + 1) ≤ A * 2 ^ K / C := by
    rw [Nat.le_div_iff_mul_le hC]
    have e : m * 2 ^ (g + d' + 1) * C = (m * 2 ^ g * C) * 2 ^ (d' + 1) := by
      rw [show g + d' + 1 = g + (d' + 1) by omega, Nat.pow_add, ← Nat.mul_assoc, Nat.mul_right_comm]
    have e2 : A * 2 ^ K = A * 2 ^ v * 2 ^ (d' + 1) := by rw [hd', show v + 1 + d' = v + (d' + 1) by omega, Nat.pow_add, Nat.mul_assoc]
    rw [e, e2]
    exact Nat.mul_le_mul_right _ h1
  have hQhi : A * 2 ^ K / C < m * 2 ^ (g + d' + 1) + 2 ^ (g + d') := by
    rw [Nat.div_lt_iff_lt_mul hC]
    have e : (m * 2 ^ (g + d' + 1) + 2 ^ (g + d')) * C = ((2 * m + 1) * 2 ^ g * C) * 2 ^ d' := by
      rw [Nat.pow_succ, Nat.pow_add]
      have : m * (2 ^ g * 2 ^ d' * 2) + 2 ^ g * 2 ^ d' = (2 * m + 1) * (2 ^ g * 2 ^ d') := by
        rw [Nat.add_mul, Nat.one_mul, Nat.mul_comm (2 ^ g * 2 ^ d') 2, ← Nat.mul_assoc, Nat.mul_comm m 2]
      rw [this, ← Nat.mul_assoc, Nat.mul_right_comm]
    have e2 : A * 2 ^ K = A * 2 ^ (v + 1) * 2 ^ d' := by rw [hd', Nat.pow_add, Nat.mul_assoc]
    rw [e, e2]
    exact Nat.mul_lt_mul_of_pos_right h2 (Nat.two_pow_pos _)
  have hpq : 2 ^ (g + d' + 1) = 2 * 2 ^ (g + d') := by rw [← Nat.pow_succ']
  have hp53 : 0 < 2 ^ (g + d') := Nat.two_pow_pos _
  have hup : ∀ x, x < m * 2 ^ (g + d' + 1) + 2 ^ (g + d') → x < (m + 1) * 2 ^ (g + d' + 1) := fun x hx => by rw [Nat.add_mul, Nat.one_mul]; omega
  rw [ratio_long_at A C K hA hC hK2]
  split
  · obtain ⟨hb, _, _⟩ := fw_beside m (A * 2 ^ K / C) (g + d' + 1) (-(K : Int)) p hc (by omega) (by omega) (by omega) hQlo (hup _ hQhi)
    rw [hb, kept_below m _ (g + d' + 1) (by omega) hQlo (by rw [Nat.add_sub_cancel]; exact hQhi)]
    omega
  · obtain ⟨Q, hQ⟩ : ∃ Q, Q = A * 2 ^ K / C := ⟨_, rfl⟩
    rw [← hQ] at hQlo hQhi hK2 ⊢
    have hpp : 2 ^ (g + d' + 2) = 2 * 2 ^ (g + d' + 1) := by rw [← Nat.pow_succ']
    have e1 : m * 2 ^ (g + d' + 2) = 2 * (m * 2 ^ (g + d' + 1)) := by rw [hpp, Nat.mul_left_comm]
    have e2 : (m + 1) * 2 ^ (g + d' + 2) = 2 * ((m + 1) * 2 ^ (g + d' + 1)) := by rw [hpp, Nat.mul_left_comm]
    have u0 := hup Q hQhi
    have u1 : 2 * Q + 1 < (m + 1) * 2 ^ (g + d' + 2) := by omega
    obtain ⟨hb, _, _⟩ := fw_beside m (2 * Q + 1) (g + d' + 2) (-(K : Int) - 1) p hc (by omega) (by omega) (by omega) (by omega) u1
    rw [hb, kept_below m _ (g + d' + 2) (by omega) (by omega) (by rw [show g + d' + 2 - 1 = g + d' + 1 by omega]; omega)]
    omega
end Go.Proofs.YtpmccbkhkaoccaaGreatDoor

/- A number's decimal digits, the lowest first, and its text: plain. -/
namespace Go.Proofs.YtpmccbkhkaoccaaGreatDoor
open Go.RowKit

/-- The value of digits, the lowest first. -/
def dval : List Nat → Nat
  | [] => 0
  | x :: r => x + 10 * dval r
def Ten (ds : List Nat) : Prop := ∀ d ∈ ds, d < 10
theorem dval_append (a b : List Nat) : dval (a ++ b) = dval a + 10 ^ a.length * dval b := by
  induction a with
  | nil => simp [dval]
  | cons x r ih =>
    simp only [List.cons_append, dval, ih, List.length_cons, Nat.pow_succ, Nat.mul_add]
    rw [← Nat.mul_assoc, Nat.mul_comm 10 (10 ^ r.length)]
    omega
theorem dval_snoc (a : List Nat) (x : Nat) : dval (a ++ [x]) = dval a + 10 ^ a.length * x := by
  rw [dval_append]; simp [dval]
theorem ten_snoc {a : List Nat} (h : Ten a) {x : Nat} (hx : x < 10) : Ten (a ++ [x]) := by
  intro y hy
  rcases List.mem_append.1 hy with h1 | h1
  · exact h y h1
  · rw [List.mem_singleton.1 h1]; exact hx
theorem dval_zeros (a : List Nat) (k : Nat) (h : ∀ i, k ≤ i → a.getD i 0 = 0) : dval a = dval (a.take k) := by
  induction a generalizing k with
  | nil => simp
  | cons x r ih =>
    cases k with
    | zero =>
      have hx : x = 0 := by simpa using h 0 (Nat.le_refl _)
      have hr := ih 0 fun i _ => by simpa using h (i + 1) (Nat.zero_le _)
      simp only [List.take_zero, dval] at hr ⊢
      omega
    | succ k =>
      have hr := ih k fun i hi => by simpa using h (i + 1) (by omega)
      simp only [List.take_succ_cons, dval]
      omega
/-- The byte of a digit. -/
def dchr (d : Nat) : UInt8 := UInt8.ofNat (48 + d)
theorem dchr_nat (d : Nat) (h : d < 10) : (dchr d).toNat = 48 + d := by
  unfold dchr
  rw [UInt8.toNat_ofNat']
  omega
theorem digN_dchr (d : Nat) (h : d < 10) : digN 99 ((dchr d).toNat : Int) = (d : Int) := by
  rw [dchr_nat d h]; unfold digN; rw [if_pos (by omega)]; omega
/-- The text of digits, the highest first. -/
def dtxt (ds : List Nat) : List UInt8 := ds.reverse.map dchr
theorem dtxt_length (ds : List Nat) : (dtxt ds).length = ds.length := by simp [dtxt]
theorem dtxt_cons (x : Nat) (r : List Nat) : dtxt (x :: r) = dtxt r ++ [dchr x] := by simp [dtxt]
theorem val_dtxt (ds : List Nat) (h : Ten ds) : val 10 (dtxt ds) = (dval ds : Int) := by
  induction ds with
  | nil => rfl
  | cons x r ih =>
    have hr := ih fun d hd => h d (by simp [hd])
    rw [dtxt_cons, val_snoc, hr, digN_dchr x (h x (by simp))]
    simp only [dval]; omega
theorem good_dtxt (ds : List Nat) (h : Ten ds) : good 10 (dtxt ds) := by
  intro c hc
  obtain ⟨d, hd, rfl⟩ := List.mem_map.1 hc
  have := h d (by simpa using hd)
  rw [digN_dchr d this]; omega
theorem valN_dtxt (ds : List Nat) (h : Ten ds) : valN 10 (dtxt ds) = dval ds := by
  unfold valN
  rw [show ((10 : Nat) : Int) = 10 from rfl, val_dtxt ds h]; omega

theorem data_len (s : ByteArray) : s.data.toList.length = s.size := by simp
/-- The text of a number in decimal, "" for 0: digits alone, the first one not 0. -/
def IsDec (s : ByteArray) (A : Nat) : Prop := good 10 s.data.toList ∧ valN 10 s.data.toList = A ∧ (∀ h : 0 < s.size, s[0].toNat ≠ 48)
theorem good_digit (c : UInt8) (h : digN 99 (c.toNat : Int) < 10) : 48 ≤ c.toNat ∧ c.toNat ≤ 57 ∧ digN 99 (c.toNat : Int) = (c.toNat : Int) - 48 := by
  unfold digN at h ⊢
  split at h
  · rename_i h1; rw [if_pos h1]; omega
  · split at h <;> omega
/-- Digits tell their number, and their number tells them where there are as many. -/
theorem digits_one (l m : List UInt8) (hl : good 10 l) (hm : good 10 m) (hlen : l.length = m.length) (hv : valN 10 l = valN 10 m) : l = m := by
  induction l generalizing m with
  | nil => cases m with
    | nil => rfl
    | cons c m => simp at hlen
  | cons c l ih =>
    cases m with
    | nil => simp at hlen
    | cons d m =>
      have e : l.length = m.length := by simpa using hlen
      have gl := good_tail (b := 10) hl
      have gm := good_tail (b := 10) hm
      have l1 := valN_good_lt 10 l gl
      have l2 := valN_good_lt 10 m gm
      rw [valN_cons, valN_cons, e] at hv
      rw [e] at l1
      obtain ⟨c1, c2, c3⟩ := good_digit c (hl c (by simp))
      obtain ⟨d1, d2, d3⟩ := good_digit d (hm d (by simp))
      rw [c3, d3] at hv
      have ec : ((c.toNat : Int) - 48).toNat = c.toNat - 48 := by omega
      have ed : ((d.toNat : Int) - 48).toNat = d.toNat - 48 := by omega
      rw [ec, ed] at hv
      have hq : c.toNat - 48 = d.toNat - 48 := by
        have h1 : (((c.toNat - 48) * 10 ^ m.length + valN 10 l) / 10 ^ m.length) = c.toNat - 48 := by
          rw [Nat.add_comm, Nat.mul_comm, Nat.add_mul_div_left _ _ (Nat.pow_pos (by omega)), Nat.div_eq_of_lt l1]; omega
        have h2 : (((d.toNat - 48) * 10 ^ m.length + valN 10 m) / 10 ^ m.length) = d.toNat - 48 := by
          rw [Nat.add_comm, Nat.mul_comm, Nat.add_mul_div_left _ _ (Nat.pow_pos (by omega)), Nat.div_eq_of_lt l2]; omega
        rw [← h1, hv, h2]
      have hcd : c = d := UInt8.toNat_inj.1 (by omega)
      subst hcd
      rw [ih m gl gm e (by omega)]
theorem dec_bounds (s : ByteArray) (A : Nat) (h : IsDec s A) (h0 : 0 < s.size) : 10 ^ (s.size - 1) ≤ A ∧ A < 10 ^ s.size := by
  obtain ⟨h1, rfl, h2⟩ := h
  constructor
  · rw [text_cons s h0]
    have e := extract_one s h0
    have := valN_good_ge 10 s[0] (s.extract 1 s.size).data.toList (by
      intro hz
      exact h2 h0 ((digN_zero _).1 hz))
    rw [data_len, show (s.extract 1 s.size).size = s.size - 1 by omega] at this
    exact this
  · have := valN_good_lt 10 s.data.toList h1
    rw [data_len] at this
    exact this
theorem dec_zero (s : ByteArray) (h : IsDec s 0) : s.size = 0 := by
  apply Classical.byContradiction
  intro hn
  have := (dec_bounds s 0 h (by omega)).1
  have h2 : 0 < 10 ^ (s.size - 1) := Nat.pow_pos (by omega)
  omega
theorem dec_size (s t : ByteArray) (A : Nat) (hs : IsDec s A) (ht : IsDec t A) : s.size ≤ t.size := by
  apply Classical.byContradiction
  intro hn
  have h1 := dec_bounds s A hs (by omega)
  by_cases h0 : t.size = 0
  · have : A = 0 := by
      obtain ⟨_, h2, _⟩ := ht
      have e : t.data.toList = [] := by apply List.length_eq_zero_iff.1; rw [data_len]; exact h0
      rw [e, valN_nil] at h2; exact h2.symm
    subst this
    have := dec_zero s hs
    omega
  · have h2 := dec_bounds t A ht (by omega)
    have : 10 ^ t.size ≤ 10 ^ (s.size - 1) := Nat.pow_le_pow_right (by omega) (by omega)
    omega
theorem dec_one (s t : ByteArray) (A : Nat) (hs : IsDec s A) (ht : IsDec t A) : s = t := by
  have e : s.size = t.size := Nat.le_antisymm (dec_size s t A hs ht) (dec_size t s A ht hs)
  have h : s.data.toList = t.data.toList := digits_one _ _ hs.1 ht.1 (by rw [data_len, data_len]; exact e) (hs.2.1.trans ht.2.1.symm)
  have h' : s.data = t.data := by rw [← Array.toArray_toList (xs := s.data), h, Array.toArray_toList]
  cases s; cases t; cases h'; rfl
/-- What is made is zeros. -/
theorem made_zeros (z : Value) (n : Nat) : madeCells #[z] n = (List.replicate n z).toArray := by
  unfold madeCells
  apply Array.ext
  · simp
  · intro i h1 h2
    simp [Nat.mod_one]
end Go.Proofs.YtpmccbkhkaoccaaGreatDoor

/- Big numbers as lists of parts of 32 bits: plain facts; no program is spoken of here. -/
namespace Go.Proofs.YtpmccbkhkaoccaaGreatDoor
open Go.RowKit

/-- The value of parts, the lowest first. -/
def bval : List Nat → Nat
  | [] => 0
  | x :: r => x + 4294967296 * bval r
def Lim (ls : List Nat) : Prop := ∀ x ∈ ls, x < 4294967296
/-- The parts without zeros at their end. -/
def btrim : List Nat → List Nat
  | [] => []
  | x :: r => if btrim r = [] ∧ x = 0 then [] else x :: btrim r
theorem bval_append (a b : List Nat) : bval (a ++ b) = bval a + 4294967296 ^ a.length * bval b := by
  induction a with
  | nil => simp [bval]
  | cons x r ih =>
    simp only [List.cons_append, bval, ih, List.length_cons, Nat.pow_succ, Nat.mul_add]
    rw [← Nat.mul_assoc, Nat.mul_comm 4294967296 (4294967296 ^ r.length)]
    omega
theorem bval_trim (a : List Nat) : bval (btrim a) = bval a := by
  induction a with
  | nil => rfl
  | cons x r ih =>
    unfold btrim
    split
    · rename_i h
      rw [h.1] at ih
      simp only [bval] at ih ⊢
      omega
    · simp only [bval, ih]
theorem btrim_length (a : List Nat) : (btrim a).length ≤ a.length := by
  induction a with
  | nil => exact Nat.le_refl _
  | cons x r ih =>
    unfold btrim
    split <;> simp <;> omega
theorem btrim_prefix (a : List Nat) : btrim a = a.take (btrim a).length := by
  induction a with
  | nil => rfl
  | cons x r ih =>
    unfold btrim
    split
    · simp
    · simp only [List.length_cons, List.take_succ_cons]; rw [← ih]
theorem btrim_lim {a : List Nat} (h : Lim a) : Lim (btrim a) := by
  intro x hx
  rw [btrim_prefix] at hx
  exact h x (List.mem_of_mem_take hx)
theorem btrim_snoc_zero (a : List Nat) : btrim (a ++ [0]) = btrim a := by
  induction a with
  | nil => simp [btrim]
  | cons x r ih => simp only [List.cons_append, btrim, ih]
theorem btrim_snoc (a : List Nat) (x : Nat) (hx : x ≠ 0) : btrim (a ++ [x]) = a ++ [x] := by
  induction a with
  | nil => simp [btrim, hx]
  | cons y r ih => simp [btrim, ih]
/-- No zero at the end. -/
def Trim (ls : List Nat) : Prop := btrim ls = ls
theorem btrim_trim (a : List Nat) : Trim (btrim a) := by
  unfold Trim
  induction a with
  | nil => rfl
  | cons x r ih =>
    by_cases h : btrim r = [] ∧ x = 0
    · simp [btrim, h]
    · have e : btrim (x :: r) = x :: btrim r := by simp only [btrim]; rw [if_neg h]
      rw [e]
      simp only [btrim, ih]
      rw [if_neg h]
theorem part_snoc (a : List Nat) (k : Nat) (h : k < a.length) : a.take (k + 1) = a.take k ++ [a.getD k 0] := by
  rw [List.take_add_one, List.getElem?_eq_getElem h]
  simp [List.getElem?_eq_getElem h]
theorem trim_take_zero (a : List Nat) (k : Nat) (h : k < a.length) (hz : a.getD k 0 = 0) : btrim (a.take (k + 1)) = btrim (a.take k) := by
  rw [part_snoc a k h, hz, btrim_snoc_zero]
theorem trim_take_some (a : List Nat) (k : Nat) (h : k < a.length) (hz : a.getD k 0 ≠ 0) : btrim (a.take (k + 1)) = a.take (k + 1) := by
  rw [part_snoc a k h, btrim_snoc _ _ hz]
theorem bval_lt {a : List Nat} (h : Lim a) : bval a < 4294967296 ^ a.length := by
  induction a with
  | nil => simp [bval]
  | cons x r ih =>
    have hx := h x (by simp)
    have hr := ih fun y hy => h y (by simp [hy])
    simp only [bval, List.length_cons, Nat.pow_succ]
    generalize 4294967296 ^ r.length = q at *
    omega
theorem trim_last {a : List Nat} (ht : Trim a) (hn : a ≠ []) : 4294967296 ^ (a.length - 1) ≤ bval a ∧ a.getD (a.length - 1) 0 ≠ 0 := by
  induction a with
  | nil => exact absurd rfl hn
  | cons x r ih =>
    by_cases hr : r = []
    · subst hr
      unfold Trim at ht
      by_cases hx : x = 0
      · subst hx; simp [btrim] at ht
      · simp [bval, hx]; omega
    · have htr : Trim r := by
        unfold Trim at ht ⊢
        by_cases h : btrim r = [] ∧ x = 0
        · simp only [btrim] at ht; rw [if_pos h] at ht; cases ht
        · simp only [btrim] at ht; rw [if_neg h] at ht; exact (List.cons.inj ht).2
      obtain ⟨i1, i2⟩ := ih htr hr
      have hl : 0 < r.length := List.length_pos_iff.2 hr
      obtain ⟨n, hn'⟩ : ∃ n, r.length = n + 1 := ⟨r.length - 1, by omega⟩
      constructor
      · simp only [bval, List.length_cons, Nat.add_sub_cancel]
        rw [hn'] at i1 ⊢
        rw [Nat.add_sub_cancel] at i1
        rw [Nat.pow_succ]
        omega
      · rw [List.length_cons, Nat.add_sub_cancel, hn'] 
        rw [hn', Nat.add_sub_cancel] at i2
        simpa using i2
theorem trim_nil_iff {a : List Nat} (ht : Trim a) : a = [] ↔ bval a = 0 := by
  constructor
  · rintro rfl; rfl
  · intro h
    apply Classical.byContradiction
    intro hn
    have := (trim_last ht hn).1
    have := Nat.pow_pos (n := a.length - 1) (show 0 < 4294967296 by omega)
    omega
theorem take_val (a : List Nat) (k : Nat) (h : k < a.length) : bval (a.take (k + 1)) = bval (a.take k) + 4294967296 ^ k * a.getD k 0 := by
  rw [part_snoc a k h, bval_append, List.length_take, Nat.min_eq_left (by omega)]
  simp [bval]
end Go.Proofs.YtpmccbkhkaoccaaGreatDoor

/- A number times a power of two, written out with a point: plain. -/
namespace Go.Proofs.YtpmccbkhkaoccaaGreatDoor
open Go.RowKit

def dotB : ByteArray := ⟨#[46]⟩
/-- Digits, a point, digits: the number A times 2 to the e, exactly. -/
def Pointed (t : ByteArray) (A : Nat) (e : Int) : Prop := ∃ a b : ByteArray, t = a ++ dotB ++ b ∧ 0 < a.size ∧ b.size = (if 0 ≤ e ∨ A = 0 then 1 else (-e).toNat) ∧ good 10 (a ++ b).data.toList
  ∧ valN 10 (a ++ b).data.toList * 2 ^ (-e).toNat = A * 2 ^ e.toNat * 10 ^ b.size ∧ (a.size = 1 ∨ 10 ^ (a.size - 1) * 10 ^ b.size ≤ valN 10 (a ++ b).data.toList)
theorem valN_append (l m : List UInt8) : valN 10 (l ++ m) = valN 10 l * 10 ^ m.length + valN 10 m := by
  have h := fold_split 10 m (val 10 l)
  have e : val 10 (l ++ m) = val 10 l * 10 ^ m.length + val 10 m := by
    unfold val at h ⊢
    rw [List.foldl_append]
    exact h
  have h1 := valN_cast 10 (l ++ m)
  have h2 := valN_cast 10 l
  have h3 := valN_cast 10 m
  rw [show ((10 : Nat) : Int) = 10 from rfl] at h1 h2 h3
  rw [e, ← h2, ← h3] at h1
  have h4 : ((valN 10 l * 10 ^ m.length + valN 10 m : Nat) : Int) = (valN 10 l : Int) * 10 ^ m.length + (valN 10 m : Int) := by
    rw [Int.natCast_add, Int.natCast_mul, Int.natCast_pow]; rfl
  omega
theorem append_list (a b : ByteArray) : (a ++ b).data.toList = a.data.toList ++ b.data.toList := by simp [ByteArray.data_append]
theorem append_size (a b : ByteArray) : (a ++ b).size = a.size + b.size := by simp
theorem extract_join (s : ByteArray) (k : Nat) : (s.extract 0 k ++ s.extract k s.size).data.toList = s.data.toList := by
  rw [append_list, Lib.extract_eq, Lib.extract_eq]
  simp
  have h1 : (s.data.toList.drop k).take (s.size - k) = s.data.toList.drop k := List.take_of_length_le (by rw [List.length_drop, data_len]; omega)
  rw [h1, List.take_append_drop]
theorem good_append (l m : List UInt8) (h : good 10 l) (h' : good 10 m) : good 10 (l ++ m) := fun c hc => by
  rcases List.mem_append.1 hc with h1 | h1
  · exact h c h1
  · exact h' c h1
theorem good_zeros (n : Nat) : good 10 (List.replicate n (48 : UInt8)) := fun c hc => by rw [List.eq_of_mem_replicate hc]; decide
theorem valN_zeros (n : Nat) : valN 10 (List.replicate n (48 : UInt8)) = 0 := by
  induction n with
  | zero => exact valN_nil 10
  | succ n ih => rw [List.replicate_succ, valN_zero 10 48 _ rfl]; exact ih
theorem dec_pos (ds : ByteArray) (A : Nat) (h : IsDec ds A) (hp : 0 < A) : 0 < ds.size := by
  apply Nat.pos_of_ne_zero
  intro h0
  have e : ds.data.toList = [] := List.length_eq_zero_iff.1 (by rw [data_len]; exact h0)
  have := h.2.1
  rw [e, valN_nil] at this
  omega
/-- Above: nothing is behind the point but a zero. -/
theorem pointed_up (ds : ByteArray) (A E : Nat) (hA : 0 < A) (h : IsDec ds (A * 2 ^ E)) : Pointed (ds ++ dotB ++ ⟨#[48]⟩) A (E : Int) := by
  have hp : 0 < A * 2 ^ E := Nat.mul_pos hA (Nat.two_pow_pos E)
  have h0 : 0 < ds.size := dec_pos ds _ h hp
  have hv : valN 10 (ds ++ (⟨#[48]⟩ : ByteArray)).data.toList = A * 2 ^ E * 10 := by
    rw [append_list, valN_append, h.2.1]; rfl
  refine ⟨ds, ⟨#[48]⟩, rfl, h0, ?_, ?_, ?_, ?_⟩
  · rw [if_pos (.inl (by omega))]; rfl
  · rw [append_list]; exact good_append _ _ h.1 (good_zeros 1)
  · rw [hv, show (-(E : Int)).toNat = 0 by omega, show ((E : Int)).toNat = E by omega]
    show A * 2 ^ E * 10 * 2 ^ 0 = A * 2 ^ E * 10 ^ 1
    omega
  · right
    rw [hv]
    have := (dec_bounds ds _ h h0).1
    show 10 ^ (ds.size - 1) * 10 ^ 1 ≤ A * 2 ^ E * 10
    omega
/-- Below: as many digits behind the point as the power asks. -/
theorem pointed_down (ds : ByteArray) (A s k : Nat) (z : Nat) (hA : 0 < A) (hs : 0 < s) (l : List UInt8) (hl : ds.data.toList = List.replicate z 48 ++ l) (hg : good 10 l) (hv : valN 10 l = A * 5 ^ s) (hk : ds.size = k + s) (hk0 : 0 < k)
    (hz : k = 1 ∨ 10 ^ (ds.size - 1) ≤ A * 5 ^ s) : Pointed (ds.extract 0 k ++ dotB ++ ds.extract k ds.size) A (-(s : Int)) := by
  have hj := extract_join ds k
  have hvd : valN 10 ds.data.toList = A * 5 ^ s := by rw [hl, valN_append, valN_zeros, Nat.zero_mul, Nat.zero_add, hv]
  have sa : (ds.extract 0 k).size = k := by simp; omega
  have sb : (ds.extract k ds.size).size = s := by simp; omega
  refine ⟨_, _, rfl, by omega, ?_, ?_, ?_, ?_⟩
  · rw [sb, if_neg (by omega)]; omega
  · rw [hj, hl]; exact good_append _ _ (good_zeros z) hg
  · rw [hj, hvd, sb, show (-(-(s : Int))).toNat = s by omega, show (-(s : Int)).toNat = 0 by omega, Nat.pow_zero, Nat.mul_one, show (10 : Nat) = 5 * 2 from rfl, Nat.mul_pow, Nat.mul_assoc]
  · rw [hj, hvd, sa, sb]
    rcases hz with h | h
    · exact .inl h
    · right
      rw [← Nat.pow_add, show k - 1 + s = ds.size - 1 by omega]
      exact h
theorem pointed_zero (e : Int) : Pointed ⟨#[48, 46, 48]⟩ 0 e := by
  refine ⟨⟨#[48]⟩, ⟨#[48]⟩, rfl, by decide, by rw [if_pos (.inr rfl)]; rfl, good_zeros 2, ?_, .inl rfl⟩
  rw [show valN 10 ((⟨#[48]⟩ : ByteArray) ++ ⟨#[48]⟩).data.toList = 0 from valN_zeros 2]
  omega
theorem dec_few (s : ByteArray) (A n : Nat) (h : IsDec s A) (hA : A < 4294967296 ^ n) : s.size ≤ 32 * n + 1 := by
  by_cases h0 : s.size = 0
  · omega
  · have h1 := (dec_bounds s A h (by omega)).1
    have h2 : 2 ^ (s.size - 1) ≤ 10 ^ (s.size - 1) := Nat.pow_le_pow_left (by omega) _
    have e : 4294967296 ^ n = 2 ^ (32 * n) := by rw [Nat.pow_mul]
    rw [e] at hA
    have := (Nat.pow_lt_pow_iff_right (a := 2) (by omega)).1 (Nat.lt_of_le_of_lt h2 (Nat.lt_of_le_of_lt h1 hA))
    omega
/-- How long such a text is. -/
theorem pointed_size (t : ByteArray) (A : Nat) (e : Int) (h : Pointed t A e) (hA : A < 18446744073709551616) : t.size ≤ 2 + (64 + e.toNat - (-e).toNat) / 3 + (if 0 ≤ e ∨ A = 0 then 1 else (-e).toNat) := by
  obtain ⟨a, b, rfl, h0, hb, _, hv, hz⟩ := h
  rw [← hb, append_size, append_size, show dotB.size = 1 from rfl]
  have key : a.size - 1 ≤ (64 + e.toNat - (-e).toNat) / 3 := by
    rcases hz with hz | hz
    · omega
    · have h1 : 10 ^ (a.size - 1) * 10 ^ b.size * 2 ^ (-e).toNat ≤ A * 2 ^ e.toNat * 10 ^ b.size := by
        rw [← hv]; exact Nat.mul_le_mul_right _ hz
      have h2 : 10 ^ (a.size - 1) * 2 ^ (-e).toNat ≤ A * 2 ^ e.toNat := by
        apply Nat.le_of_mul_le_mul_right _ (Nat.pow_pos (show 0 < 10 by omega) (n := b.size))
        rw [Nat.mul_right_comm]; exact h1
      have h3 : 2 ^ (3 * (a.size - 1)) ≤ 10 ^ (a.size - 1) := by rw [Nat.pow_mul]; exact Nat.pow_le_pow_left (by omega) _
      have h4 : 2 ^ (3 * (a.size - 1) + (-e).toNat) ≤ A * 2 ^ e.toNat := by
        rw [Nat.pow_add]; exact Nat.le_trans (Nat.mul_le_mul_right _ h3) h2
      have h5 : A * 2 ^ e.toNat < 2 ^ (64 + e.toNat) := by
        rw [Nat.pow_add]
        exact Nat.mul_lt_mul_of_pos_right (show A < 2 ^ 64 from hA) (Nat.two_pow_pos _)
      have h6 := (Nat.pow_lt_pow_iff_right (a := 2) (by omega)).1 (Nat.lt_of_le_of_lt h4 h5)
      omega
  omega
end Go.Proofs.YtpmccbkhkaoccaaGreatDoor

