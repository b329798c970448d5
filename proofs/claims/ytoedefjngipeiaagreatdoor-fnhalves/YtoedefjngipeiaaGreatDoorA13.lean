import Derived.Test.YtoedefjngipeiaaGreatDoorA12
/- Rounding where something lies below a number: it hangs on that alone; plain. -/
namespace Go.Proofs.YtoedefjngipeiaaGreatDoor
open Ieee

/-- The number with its lowest bit set: it stands for whatever lies between it and the next. -/
def oddOf (m : Nat) : Nat := m / 2 * 2 + 1
theorem odd_parts (M d : Nat) : M / 2 ^ (d + 1) = M / 2 / 2 ^ d ∧ M % 2 ^ (d + 1) = 2 * (M / 2 % 2 ^ d) + M % 2 := by
  have e1 : M / 2 ^ (d + 1) = M / 2 / 2 ^ d := by rw [Nat.pow_succ, Nat.mul_comm, ← Nat.div_div_eq_div_mul]
  refine ⟨e1, ?_⟩
  have h1 := Nat.div_add_mod M (2 ^ (d + 1))
  have h2 := Nat.div_add_mod (M / 2) (2 ^ d)
  rw [e1, Nat.pow_succ] at h1
  generalize M / 2 / 2 ^ d = q at *
  generalize M / 2 % 2 ^ d = r at *
  rw [Nat.pow_succ]
  generalize M % (2 ^ d * 2) = z at *
  have e3 : 2 ^ d * 2 * q = 2 * (2 ^ d * q) := by rw [Nat.mul_comm (2 ^ d) 2, Nat.mul_assoc]
  rw [e3] at h1
  generalize 2 ^ d * q = g at *
  omega
theorem odd_half (M : Nat) : oddOf M / 2 = M / 2 ∧ oddOf M % 2 = 1 := by unfold oddOf; omega
theorem odd_kept (M d : Nat) (hd : 2 ≤ d) : keptOf (oddOf M) d = if 2 ^ (d - 1) ≤ M % 2 ^ d then M / 2 ^ d + 1 else M / 2 ^ d := by
  obtain ⟨k, rfl⟩ : ∃ k, d = k + 2 := ⟨d - 2, by omega⟩
  unfold keptOf
  obtain ⟨a1, a2⟩ := odd_parts M (k + 1)
  obtain ⟨b1, b2⟩ := odd_parts (oddOf M) (k + 1)
  obtain ⟨c1, c2⟩ := odd_half M
  rw [show k + 2 = k + 1 + 1 from rfl, b1, b2, a1, a2, c1, c2, Nat.add_sub_cancel, Nat.pow_succ]
  generalize M / 2 / (2 ^ k * 2) = q at *
  generalize M / 2 % (2 ^ k * 2) = r at *
  generalize 2 ^ k = h at *
  by_cases hc : h * 2 ≤ 2 * r + M % 2
  · rw [if_pos (.inl (by omega)), if_pos hc]
  · rw [if_neg (by omega), if_neg hc]
/-- Rounding, as it is reckoned, for every number. -/
theorem cut_kept (s : Bool) (n d : Nat) (hn : 0 < n) (hd : 1 ≤ d) : Toward.even.cut s n d = keptOf n d := by
  obtain ⟨k, rfl⟩ : ∃ k, d = k + 1 := ⟨d - 1, by omega⟩
  have hlt : n < 2 ^ (n.log2 + 1) := Nat.lt_log2_self
  by_cases hl : k + 1 ≤ n.log2 + 2
  · unfold Toward.cut keptOf
    simp only [Nat.shiftLeft_eq, Nat.one_mul]
    rw [Nat.min_eq_left hl, Nat.add_sub_cancel]
    have hp : 2 ^ (k + 1) = 2 * 2 ^ k := by rw [Nat.pow_succ, Nat.mul_comm]
    rw [hp]
    generalize 2 ^ k = g at *
    by_cases hc : g < n % (2 * g) ∨ (n % (2 * g) = g ∧ n / (2 * g) % 2 = 1)
    · rw [if_pos hc]
      have : (decide (2 * g < 2 * (n % (2 * g))) || (2 * g == 2 * (n % (2 * g)) && n / (2 * g) % 2 == 1)) = true := by
        rcases hc with h | ⟨h1, h2⟩
        · rw [decide_eq_true (by omega), Bool.true_or]
        · rw [h1, h2]; simp
      rw [this]; rfl
    · rw [if_neg hc]
      have : (decide (2 * g < 2 * (n % (2 * g))) || (2 * g == 2 * (n % (2 * g)) && n / (2 * g) % 2 == 1)) = false := by
        rw [Bool.or_eq_false_iff]
        refine ⟨decide_eq_false (by omega), ?_⟩
        rw [Bool.and_eq_false_iff]
        by_cases h1 : n % (2 * g) = g
        · right
          have : ¬ n / (2 * g) % 2 = 1 := fun h => hc (.inr ⟨h1, h⟩)
          simpa using this
        · left
          rw [beq_eq_false_iff_ne]; omega
      rw [this]; rfl
  · have hk : 2 ^ (n.log2 + 1) ≤ 2 ^ k := Nat.pow_le_pow_right (by omega) (by omega)
    have hp : 2 ^ (k + 1) = 2 * 2 ^ k := by rw [Nat.pow_succ, Nat.mul_comm]
    have e0 : keptOf n (k + 1) = 0 := by
      unfold keptOf
      rw [Nat.add_sub_cancel, Nat.mod_eq_of_lt (by omega), Nat.div_eq_of_lt (by omega), if_neg (by omega)]
    rw [e0]
    unfold Toward.cut
    simp only [Nat.shiftLeft_eq, Nat.one_mul]
    rw [Nat.min_eq_right (by omega)]
    have hp2 : 2 ^ (n.log2 + 2) = 2 * 2 ^ (n.log2 + 1) := by rw [show n.log2 + 2 = n.log2 + 1 + 1 from rfl, Nat.pow_succ, Nat.mul_comm]
    rw [hp2]
    generalize 2 ^ (n.log2 + 1) = g at *
    have e1 : n / (2 * g) = 0 := Nat.div_eq_of_lt (by omega)
    have e2 : n % (2 * g) = n := Nat.mod_eq_of_lt (by omega)
    rw [e1, e2]
    have : (decide (2 * g < 2 * n) || (2 * g == 2 * n && 0 % 2 == 1)) = false := by
      rw [Bool.or_eq_false_iff]
      exact ⟨decide_eq_false (by omega), by simp⟩
    rw [this]; rfl
theorem odd_log2 (m : Nat) (h : 2 ≤ m) : (oddOf m).log2 = m.log2 ∧ (2 * m + 1).log2 = m.log2 + 1 := by
  have h1 : 2 ^ m.log2 ≤ m := Nat.log2_self_le (by omega)
  have h2 : m < 2 ^ (m.log2 + 1) := Nat.lt_log2_self
  obtain ⟨k, hk⟩ : ∃ k, m.log2 = k + 1 := by
    have : 1 ≤ m.log2 := (Nat.le_log2 (by omega)).2 (by simpa using h)
    exact ⟨m.log2 - 1, by omega⟩
  rw [hk] at h1 h2
  have e1 : 2 ^ (k + 1) = 2 * 2 ^ k := by rw [Nat.pow_succ, Nat.mul_comm]
  have e2 : 2 ^ (k + 1 + 1) = 2 * (2 * 2 ^ k) := by rw [Nat.pow_succ, e1, Nat.mul_comm]
  have e3 : 2 ^ (k + 1 + 1 + 1) = 2 * (2 * (2 * 2 ^ k)) := by rw [Nat.pow_succ, e2, Nat.mul_comm]
  rw [hk]
  constructor
  · rw [Nat.log2_eq_iff (by unfold oddOf; omega), e1, e2]
    rw [e1] at h1; rw [e2] at h2
    unfold oddOf
    generalize 2 ^ k = g at *
    omega
  · rw [Nat.log2_eq_iff (by omega), e2, e3]
    rw [e1] at h1; rw [e2] at h2
    generalize 2 ^ k = g at *
    omega
theorem odd_twice (m : Nat) : oddOf (2 * m) = 2 * m + 1 := by unfold oddOf; omega
/-- Something below a number of 55 digits or more: one place further down it is still that. -/
theorem fw_stick (s : Bool) (m : Nat) (p : Int) (h : 18014398509481984 ≤ m) : fw s (2 * m + 1) (p - 1) = fw s (oddOf m) p := by
  obtain ⟨l1, l2⟩ := odd_log2 m (by omega)
  have hL : 54 ≤ m.log2 := (Nat.le_log2 (by omega)).2 h
  unfold fw Format.nearest
  rw [if_neg (by omega), if_neg (by unfold oddOf; omega)]
  simp only [word_eq, infRung_eq, binade_eq, least_eq, frac_eq, l1, l2]
  generalize m.log2 = L at *
  have e1 : max (p - 1 + ((L + 1 : Nat) : Int) - ((52 : Nat) : Int)) (-1074) = max (p + (L : Int) - ((52 : Nat) : Int)) (-1074) := by omega
  rw [e1]
  generalize hl : max (p + (L : Int) - ((52 : Nat) : Int)) (-1074) = last at *
  obtain ⟨d, hd, hd2⟩ : ∃ d : Nat, last - p = d ∧ 2 ≤ d := ⟨(last - p).toNat, by omega, by omega⟩
  have f1 : (last - p).toNat = d := by omega
  have f2 : (last - (p - 1)).toNat = d + 1 := by omega
  have f3 : (p - last).toNat = 0 := by omega
  have f4 : (p - 1 - last).toNat = 0 := by omega
  rw [f1, f2, f3, f4, Nat.shiftLeft_zero, Nat.shiftLeft_zero, cut_kept s _ _ (by omega) (by omega), cut_kept s _ _ (by unfold oddOf; omega) (by omega), ← odd_twice, odd_kept _ _ (by omega), odd_kept _ _ (by omega)]
  have g1 := odd_parts (2 * m) d
  have g2 : 2 * m / 2 = m := by omega
  rw [g2] at g1
  rw [g1.1, g1.2, Nat.add_sub_cancel]
  obtain ⟨k, rfl⟩ : ∃ k, d = k + 1 := ⟨d - 1, by omega⟩
  rw [Nat.add_sub_cancel]
  have e2 : 2 ^ (k + 1) = 2 * 2 ^ k := by rw [Nat.pow_succ, Nat.mul_comm]
  generalize m / 2 ^ (k + 1) = q at *
  generalize m % 2 ^ (k + 1) = r at *
  rw [e2]
  generalize 2 ^ k = g at *
  have e3 : (2 * m) % 2 = 0 := by omega
  rw [e3]
  by_cases hc : g ≤ r
  · rw [if_pos (by omega), if_pos hc]
  · rw [if_neg (by omega), if_neg hc]
end Go.Proofs.YtoedefjngipeiaaGreatDoor

/- The float nearest to a quotient: it hangs on the quotient alone. Plain. -/
namespace Go.Proofs.YtoedefjngipeiaaGreatDoor
open Ieee (double)

/-- What is made of a quotient and of whether something is left. -/
def ratioAt (A' C' : Nat) (E : Int) : Nat := if A' % C' = 0 then fw false (A' / C') E else fw false (2 * (A' / C') + 1) (E - 1)
/-- A digit more. -/
theorem ratio_step (A C : Nat) (E : Int) (hC : 0 < C) (hq : 9007199254740992 ≤ A / C) : ratioAt (2 * A) C (E - 1) = ratioAt A C E := by
  have hd := Nat.div_add_mod A C
  have hr := Nat.mod_lt A hC
  generalize hq' : A / C = q at *
  generalize hr' : A % C = r at *
  have e2 : 2 * A = C * (2 * q) + 2 * r := by rw [← hd, Nat.mul_add, ← Nat.mul_assoc, Nat.mul_comm 2 C, Nat.mul_assoc]
  unfold ratioAt
  rw [hq', hr']
  by_cases h2 : 2 * r < C
  · have eq : 2 * A / C = 2 * q := by rw [e2, Nat.mul_add_div hC, Nat.div_eq_of_lt h2, Nat.add_zero]
    have er : 2 * A % C = 2 * r := by rw [e2, Nat.mul_add_mod, Nat.mod_eq_of_lt h2]
    rw [eq, er]
    by_cases h0 : r = 0
    · rw [if_pos (by omega), if_pos h0, Nat.mul_comm 2 q]
      exact fw_scale false q 1 E
    · rw [if_neg (by omega), if_neg h0]
      have h := fw_stick false (2 * q) (E - 1) (by omega)
      rw [odd_twice] at h
      exact h
  · have e3 : 2 * A = C * (2 * q + 1) + (2 * r - C) := by rw [e2, Nat.mul_add, Nat.mul_one]; omega
    have eq : 2 * A / C = 2 * q + 1 := by rw [e3, Nat.mul_add_div hC, Nat.div_eq_of_lt (by omega), Nat.add_zero]
    have er : 2 * A % C = 2 * r - C := by rw [e3, Nat.mul_add_mod, Nat.mod_eq_of_lt (by omega)]
    rw [eq, er, if_neg (show ¬ r = 0 by omega)]
    by_cases h0 : 2 * r - C = 0
    · rw [if_pos h0]
    · rw [if_neg h0]
      have h := fw_stick false (2 * q + 1) (E - 1) (by omega)
      rw [show oddOf (2 * q + 1) = 2 * q + 1 by unfold oddOf; omega] at h
      exact h
theorem ratio_steps (A C : Nat) (E : Int) (k : Nat) (hC : 0 < C) (hq : 9007199254740992 ≤ A / C) : ratioAt (A * 2 ^ k) C (E - k) = ratioAt A C E := by
  induction k with
  | zero => rw [Nat.pow_zero, Nat.mul_one]; congr 1; omega
  | succ k ih =>
    rw [← ih]
    have h : 9007199254740992 ≤ A * 2 ^ k / C := Nat.le_trans hq (Nat.div_le_div_right (Nat.le_mul_of_pos_right _ (Nat.two_pow_pos k)))
    have hs := ratio_step (A * 2 ^ k) C (E - k) hC h
    rw [← hs, Nat.pow_succ, show A * (2 ^ k * 2) = 2 * (A * 2 ^ k) by rw [Nat.mul_comm (2 ^ k) 2, Nat.mul_left_comm]]
    congr 1
    omega
/-- A factor of both. -/
theorem ratio_scale (A C t : Nat) (E : Int) (ht : 0 < t) : ratioAt (A * t) (C * t) E = ratioAt A C E := by
  unfold ratioAt
  rw [Nat.mul_div_mul_right A C ht, Nat.mul_mod_mul_right]
  have : A % C * t = 0 ↔ A % C = 0 := by
    constructor
    · intro h; rcases Nat.mul_eq_zero.1 h with h | h <;> omega
    · intro h; rw [h, Nat.zero_mul]
  by_cases h : A % C = 0
  · rw [if_pos h, if_pos (this.2 h)]
  · rw [if_neg h, if_neg (fun x => h (this.1 x))]
/-- Two ways to make the quotient long enough come to the same. -/
theorem ratio_same (A C a c a' c' : Nat) (hC : 0 < C) (h : 9007199254740992 ≤ A * 2 ^ a / (C * 2 ^ c)) (h' : 9007199254740992 ≤ A * 2 ^ a' / (C * 2 ^ c')) :
    ratioAt (A * 2 ^ a) (C * 2 ^ c) ((c : Int) - a) = ratioAt (A * 2 ^ a') (C * 2 ^ c') ((c' : Int) - a') := by
  have key : ∀ a c a' c' : Nat, 9007199254740992 ≤ A * 2 ^ a / (C * 2 ^ c) → a + c' ≤ a' + c → ratioAt (A * 2 ^ a') (C * 2 ^ c') ((c' : Int) - a') = ratioAt (A * 2 ^ a) (C * 2 ^ c) ((c : Int) - a) := by
    intro a c a' c' h hle
    obtain ⟨k, hk⟩ : ∃ k, a' + c = a + c' + k := ⟨a' + c - (a + c'), by omega⟩
    rw [← ratio_scale (A * 2 ^ a') (C * 2 ^ c') (2 ^ c) _ (Nat.two_pow_pos c), ← ratio_scale (A * 2 ^ a) (C * 2 ^ c) (2 ^ c') _ (Nat.two_pow_pos c')]
    have e1 : A * 2 ^ a' * 2 ^ c = A * 2 ^ a * 2 ^ c' * 2 ^ k := by
      rw [Nat.mul_assoc, ← Nat.pow_add, Nat.mul_assoc A, ← Nat.pow_add, Nat.mul_assoc A, ← Nat.pow_add, hk]
    have e2 : C * 2 ^ c' * 2 ^ c = C * 2 ^ c * 2 ^ c' := by rw [Nat.mul_assoc, Nat.mul_comm (2 ^ c'), ← Nat.mul_assoc]
    rw [e1, e2]
    have hpos : 0 < C * 2 ^ c * 2 ^ c' := Nat.mul_pos (Nat.mul_pos hC (Nat.two_pow_pos c)) (Nat.two_pow_pos c')
    have hq : 9007199254740992 ≤ A * 2 ^ a * 2 ^ c' / (C * 2 ^ c * 2 ^ c') := by rw [Nat.mul_div_mul_right _ _ (Nat.two_pow_pos c')]; exact h
    have hs := ratio_steps (A * 2 ^ a * 2 ^ c') (C * 2 ^ c * 2 ^ c') ((c : Int) - a) k hpos hq
    rw [← hs]
    congr 1
    omega
  by_cases hle : a + c' ≤ a' + c
  · exact (key a c a' c' h hle).symm
  · exact key a' c' a c h' (by omega)
/-- The float nearest to A / C. -/
def ratioW (A C : Nat) : Nat := ratioAt (A * 2 ^ (-((A.log2 : Int) - C.log2 - 63)).toNat) (C * 2 ^ ((A.log2 : Int) - C.log2 - 63).toNat) ((A.log2 : Int) - C.log2 - 63)
theorem ratio_long (A C a c : Nat) (hA : 0 < A) (hC : 0 < C) (h : (A.log2 : Int) + a - (C.log2 + c) ≥ 54) : 9007199254740992 ≤ A * 2 ^ a / (C * 2 ^ c) := by
  rw [Nat.le_div_iff_mul_le (Nat.mul_pos hC (Nat.two_pow_pos c))]
  have h1 : 2 ^ A.log2 ≤ A := Nat.log2_self_le (by omega)
  have h2 : C < 2 ^ (C.log2 + 1) := Nat.lt_log2_self
  generalize A.log2 = x at *
  generalize C.log2 = y at *
  have h3 : 2 ^ x * 2 ^ a ≤ A * 2 ^ a := Nat.mul_le_mul_right _ h1
  have h4 : C * 2 ^ c ≤ 2 ^ (y + 1) * 2 ^ c := Nat.mul_le_mul_right _ (Nat.le_of_lt h2)
  have h5 : 9007199254740992 * (C * 2 ^ c) ≤ 2 ^ 53 * (2 ^ (y + 1) * 2 ^ c) := Nat.mul_le_mul_left _ h4
  rw [← Nat.pow_add, ← Nat.pow_add] at h5
  rw [← Nat.pow_add] at h3
  have h6 : 2 ^ (53 + (y + 1 + c)) ≤ 2 ^ (x + a) := Nat.pow_le_pow_right (by omega) (by omega)
  omega
/-- Whatever way makes it long enough. -/
theorem ratioW_at (A C a c : Nat) (hA : 0 < A) (hC : 0 < C) (h : 9007199254740992 ≤ A * 2 ^ a / (C * 2 ^ c)) : ratioAt (A * 2 ^ a) (C * 2 ^ c) ((c : Int) - a) = ratioW A C := by
  unfold ratioW
  have h' := ratio_long A C (-((A.log2 : Int) - C.log2 - 63)).toNat ((A.log2 : Int) - C.log2 - 63).toNat hA hC (by omega)
  rw [ratio_same A C a c _ _ hC h h']
  congr 1
  omega
/-- A factor of both, of the whole. -/
theorem ratioW_scale (A C t : Nat) (hA : 0 < A) (hC : 0 < C) (ht : 0 < t) : ratioW (A * t) (C * t) = ratioW A C := by
  have h := ratio_long A C (-((A.log2 : Int) - C.log2 - 63)).toNat ((A.log2 : Int) - C.log2 - 63).toNat hA hC (by omega)
  generalize (-((A.log2 : Int) - C.log2 - 63)).toNat = a at *
  generalize ((A.log2 : Int) - C.log2 - 63).toNat = c at *
  rw [← ratioW_at A C a c hA hC h]
  have e1 : A * t * 2 ^ a = A * 2 ^ a * t := by rw [Nat.mul_assoc, Nat.mul_comm t, ← Nat.mul_assoc]
  have e2 : C * t * 2 ^ c = C * 2 ^ c * t := by rw [Nat.mul_assoc, Nat.mul_comm t, ← Nat.mul_assoc]
  have h' : 9007199254740992 ≤ A * t * 2 ^ a / (C * t * 2 ^ c) := by rw [e1, e2, Nat.mul_div_mul_right _ _ ht]; exact h
  rw [← ratioW_at (A * t) (C * t) a c (Nat.mul_pos hA ht) (Nat.mul_pos hC ht) h', e1, e2, ratio_scale _ _ t _ ht]
/-- One quotient, one float. -/
theorem ratioW_eq (A C A' C' : Nat) (hA : 0 < A) (hC : 0 < C) (hA' : 0 < A') (hC' : 0 < C') (h : A * C' = A' * C) : ratioW A C = ratioW A' C' := by
  rw [← ratioW_scale A C C' hA hC hC', ← ratioW_scale A' C' C hA' hC' hC, h, Nat.mul_comm C C']
/-- Whole numbers times a power of two. -/
theorem ratioW_fw (m : Nat) (a c : Nat) (hm : 0 < m) : ratioW (m * 2 ^ a) (2 ^ c) = fw false m ((a : Int) - c) := by
  have h0 : 0 < m * 2 ^ a := Nat.mul_pos hm (Nat.two_pow_pos a)
  obtain ⟨j, hj⟩ : ∃ j, 2 ^ j = 9007199254740992 := ⟨53, rfl⟩
  have hq : 9007199254740992 ≤ m * 2 ^ a * 2 ^ (c + j) / (2 ^ c * 2 ^ 0) := by
    rw [Nat.pow_zero, Nat.mul_one, Nat.pow_add, Nat.mul_comm (2 ^ c), ← Nat.mul_assoc, Nat.mul_div_cancel _ (Nat.two_pow_pos c)]
    have : 1 * 2 ^ j ≤ m * 2 ^ a * 2 ^ j := Nat.mul_le_mul_right _ h0
    omega
  rw [← ratioW_at (m * 2 ^ a) (2 ^ c) (c + j) 0 h0 (Nat.two_pow_pos c) hq]
  unfold ratioAt
  rw [Nat.pow_zero, Nat.mul_one, Nat.pow_add, Nat.mul_comm (2 ^ c), ← Nat.mul_assoc, Nat.mul_mod_left, if_pos rfl, Nat.mul_div_cancel _ (Nat.two_pow_pos c), Nat.mul_assoc, ← Nat.pow_add]
  have := fw_scale false m (a + j) ((a : Int) - c)
  rw [← this]
  congr 1
  omega
end Go.Proofs.YtoedefjngipeiaaGreatDoor

/- The nearest word of a number in whatever form, reckoned as rounding at a place: plain. -/
namespace Go.Proofs.YtoedefjngipeiaaGreatDoor
open Ieee

/-- A number with its lowest digits left out, rounded; or with zeros brought in. -/
def roundN (m : Nat) (d : Int) : Nat := if d ≤ 0 then m * 2 ^ (-d).toNat else keptOf m d.toNat
theorem fw_place (s : Bool) (m : Nat) (e : Int) (h0 : 0 < m) :
    fw s m e = signBit s + min ((max (e + (m.log2 : Int) - 52) (-1074) + 1074).toNat * 4503599627370496 + roundN m (max (e + (m.log2 : Int) - 52) (-1074) - e)) 9218868437227405312 := by
  unfold fw Format.nearest
  rw [if_neg (by omega)]
  simp only [word_eq, infRung_eq, binade_eq, least_eq, frac_eq]
  rw [show e + (m.log2 : Int) - ((52 : Nat) : Int) = e + (m.log2 : Int) - 52 from rfl]
  generalize max (e + (m.log2 : Int) - 52) (-1074) = l
  rw [show (l - -1074).toNat = (l + 1074).toNat by omega]
  unfold roundN
  by_cases hd : l - e ≤ 0
  · rw [if_pos hd, show (l - e).toNat = 0 by omega, cut_zero, Nat.shiftLeft_eq, show (e - l).toNat = (-(l - e)).toNat by omega]
  · rw [if_neg hd, show (e - l).toNat = 0 by omega, Nat.shiftLeft_zero, cut_kept s m _ h0 (by omega)]
/-- What a place far below holds: nothing. -/
theorem log_63 (m : Nat) (h0 : 0 < m) (h : m < 18446744073709551616) : m.log2 ≤ 63 := (norm_64 m h0 h).2.2
theorem kept_small (m L d : Nat) (hm : m < 2 ^ (L + 1)) (hL : L ≤ d + 52) : keptOf m d ≤ 9007199254740992 := by
  have h : m / 2 ^ d < 2 ^ 53 := by
    rw [Nat.div_lt_iff_lt_mul (Nat.two_pow_pos d), ← Nat.pow_add]
    exact Nat.lt_of_lt_of_le hm (Nat.pow_le_pow_right (by omega) (by omega))
  have e : (2 : Nat) ^ 53 = 9007199254740992 := rfl
  unfold keptOf
  split <;> omega
/-- A number of at most 64 digits rounded at the place that a float has for it: at most 53 digits, or one more with zeros. -/
theorem roundN_le (m : Nat) (e : Int) : roundN m (max (e + (m.log2 : Int) - 52) (-1074) - e) ≤ 9007199254740992 := by
  have hlt : m < 2 ^ (m.log2 + 1) := Nat.lt_log2_self
  generalize m.log2 = L at *
  unfold roundN
  by_cases hd : max (e + (L : Int) - 52) (-1074) - e ≤ 0
  · rw [if_pos hd]
    have h1 : m * 2 ^ (-(max (e + (L : Int) - 52) (-1074) - e)).toNat < 2 ^ (L + 1) * 2 ^ (-(max (e + (L : Int) - 52) (-1074) - e)).toNat := Nat.mul_lt_mul_of_pos_right hlt (Nat.two_pow_pos _)
    rw [← Nat.pow_add] at h1
    have h2 : 2 ^ (L + 1 + (-(max (e + (L : Int) - 52) (-1074) - e)).toNat) ≤ 2 ^ 53 := Nat.pow_le_pow_right (by omega) (by omega)
    have e53 : (2 : Nat) ^ 53 = 9007199254740992 := rfl
    omega
  · rw [if_neg hd]
    exact kept_small m L _ hlt (by omega)
/-- The places of a float's number. -/
theorem fw_fits (s : Bool) (m : Nat) (e l : Int) (h0 : 0 < m) (hl : l = max (e + (m.log2 : Int) - 52) (-1074)) (h : l ≤ 971) : fw s m e = signBit s + ((l + 1074).toNat * 4503599627370496 + roundN m (l - e)) := by
  have h1 := fw_place s m e h0
  have h2 := roundN_le m e
  rw [← hl] at h1 h2
  rw [h1, Nat.min_eq_left (by omega)]
theorem fw_over (s : Bool) (m : Nat) (e l : Int) (h0 : 0 < m) (hl : l = max (e + (m.log2 : Int) - 52) (-1074)) (h : 971 < l) : fw s m e = iw s := by
  have h1 := fw_place s m e h0
  rw [← hl] at h1
  have hge : 2 ^ m.log2 ≤ m := Nat.log2_self_le (by omega)
  have hk : 4503599627370496 ≤ roundN m (l - e) := by
    have el : l = e + (m.log2 : Int) - 52 := by omega
    unfold roundN
    have e52 : (2 : Nat) ^ 52 = 4503599627370496 := rfl
    generalize m.log2 = L at *
    by_cases hd : l - e ≤ 0
    · rw [if_pos hd]
      have h3 : 2 ^ L * 2 ^ (-(l - e)).toNat ≤ m * 2 ^ (-(l - e)).toNat := Nat.mul_le_mul_right _ hge
      rw [← Nat.pow_add, show L + (-(l - e)).toNat = 52 by omega] at h3
      omega
    · rw [if_neg hd]
      have h3 : 2 ^ 52 ≤ m / 2 ^ (l - e).toNat := by
        rw [Nat.le_div_iff_mul_le (Nat.two_pow_pos _), ← Nat.pow_add, show 52 + (l - e).toNat = L by omega]
        exact hge
      unfold keptOf
      split <;> omega
  rw [h1]
  unfold iw
  rw [Nat.min_eq_right (by omega)]
end Go.Proofs.YtoedefjngipeiaaGreatDoor

