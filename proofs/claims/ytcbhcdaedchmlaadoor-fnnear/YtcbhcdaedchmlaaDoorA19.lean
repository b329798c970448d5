import Derived.Test.YtcbhcdaedchmlaaDoorA06
import Derived.Test.YtcbhcdaedchmlaaDoorA15
/- The float nearest to a quotient: it hangs on the quotient alone. Plain. -/
namespace Go.Proofs.YtcbhcdaedchmlaaDoor
open Ieee (double)

/-- What is made of a quotient and of whether something is left. -/
def ratioAt (A' C' : Nat) (E : Int) : Nat := if A' % C' = 0 then fw false (A' / C') E else fw false (2 * (A' / C') + 1) (E - 1)
/-- A digit more. -/
theorem ratio_step (A C : Nat) (E : Int) (hC : 0 < C) (hq : 9007199254740992 ≤ A / C) : ratioAt (2 * A) C (E - 1) = ratioAt A C E := by
  have hd := Nat.div_add_mod A C
  have hr := Nat.mod_lt A hC
  generalize hq' : A / C = q at *
  generalize hr' : A % C = r at *
  have e2 : 2 * A = C * (2 * q) + 2 * r := by rw [← hd, Nat.mul_add, ← Nat.mul_assoc, Nat.mul_comm 2 C, Nat.mul_assoc]
  unfold ratioAt
  rw [hq', hr']
  by_cases h2 : 2 * r < C
  · have eq : 2 * A / C = 2 * q := by rw [e2, Nat.mul_add_div hC, Nat.div_eq_of_lt h2, Nat.add_zero]
    have er : 2 * A % C = 2 * r := by rw [e2, Nat.mul_add_mod, Nat.mod_eq_of_lt h2]
    rw [eq, er]
    by_cases h0 : r = 0
    · rw [if_pos (by omega), if_pos h0, Nat.mul_comm 2 q]
      exact fw_scale false q 1 E
    · rw [if_neg (by omega), if_neg h0]
      have h := fw_stick false (2 * q) (E - 1) (by omega)
      rw [odd_twice] at h
      exact h
  · have e3 : 2 * A = C * (2 * q + 1) + (2 * r - C) := by rw [e2, Nat.mul_add, Nat.mul_one]; omega
    have eq : 2 * A / C = 2 * q + 1 := by rw [e3, Nat.mul_add_div hC, Nat.div_eq_of_lt (by omega), Nat.add_zero]
    have er : 2 * A % C = 2 * r - C := by rw [e3, Nat.mul_add_mod, Nat.mod_eq_of_lt (by omega)]
    rw [eq, er, if_neg (show ¬ r = 0 by omega)]
    by_cases h0 : 2 * r - C = 0
    · rw [if_pos h0]
    · rw [if_neg h0]
      have h := fw_stick false (2 * q + 1) (E - 1) (by omega)
      rw [show oddOf (2 * q + 1) = 2 * q + 1 by unfold oddOf; omega] at h
      exact h
theorem ratio_steps (A C : Nat) (E : Int) (k : Nat) (hC : 0 < C) (hq : 9007199254740992 ≤ A / C) : ratioAt (A * 2 ^ k) C (E - k) = ratioAt A C E := by
  induction k with
  | zero => rw [Nat.pow_zero, Nat.mul_one]; congr 1; omega
  | succ k ih =>
    rw [← ih]
    have h : 9007199254740992 ≤ A * 2 ^ k / C := Nat.le_trans hq (Nat.div_le_div_right (Nat.le_mul_of_pos_right _ (Nat.two_pow_pos k)))
    have hs := ratio_step (A * 2 ^ k) C (E - k) hC h
    rw [← hs, Nat.pow_succ, show A * (2 ^ k * 2) = 2 * (A * 2 ^ k) by rw [Nat.mul_comm (2 ^ k) 2, Nat.mul_left_comm]]
    congr 1
    omega
/-- A factor of both. -/
theorem ratio_scale (A C t : Nat) (E : Int) (ht : 0 < t) : ratioAt (A * t) (C * t) E = ratioAt A C E := by
  unfold ratioAt
  rw [Nat.mul_div_mul_right A C ht, Nat.mul_mod_mul_right]
  have : A % C * t = 0 ↔ A % C = 0 := by
    constructor
    · intro h; rcases Nat.mul_eq_zero.1 h with h | h <;> omega
    · intro h; rw [h, Nat.zero_mul]
  by_cases h : A % C = 0
  · rw [if_pos h, if_pos (this.2 h)]
  · rw [if_neg h, if_neg (fun x => h (this.1 x))]
/-- Two ways to make the quotient long enough come to the same. -/
theorem ratio_same (A C a c a' c' : Nat) (hC : 0 < C) (h : 9007199254740992 ≤ A * 2 ^ a / (C * 2 ^ c)) (h' : 9007199254740992 ≤ A * 2 ^ a' / (C * 2 ^ c')) :
    ratioAt (A * 2 ^ a) (C * 2 ^ c) ((c : Int) - a) = ratioAt (A * 2 ^ a') (C * 2 ^ c') ((c' : Int) - a') := by
  have key : ∀ a c a' c' : Nat, 9007199254740992 ≤ A * 2 ^ a / (C * 2 ^ c) → a + c' ≤ a' + c → ratioAt (A * 2 ^ a') (C * 2 ^ c') ((c' : Int) - a') = ratioAt (A * 2 ^ a) (C * 2 ^ c) ((c : Int) - a) := by
    intro a c a' c' h hle
    obtain ⟨k, hk⟩ : ∃ k, a' + c = a + c' + k := ⟨a' + c - (a + c'), by omega⟩
    rw [← ratio_scale (A * 2 ^ a') (C * 2 ^ c') (2 ^ c) _ (Nat.two_pow_pos c), ← ratio_scale (A * 2 ^ a) (C * 2 ^ c) (2 ^ c') _ (Nat.two_pow_pos c')]
    have e1 : A * 2 ^ a' * 2 ^ c = A * 2 ^ a * 2 ^ c' * 2 ^ k := by
      rw [Nat.mul_assoc, ← Nat.pow_add, Nat.mul_assoc A, ← Nat.pow_add, Nat.mul_assoc A, ← Nat.pow_add, hk]
    have e2 : C * 2 ^ c' * 2 ^ c = C * 2 ^ c * 2 ^ c' := by rw [Nat.mul_assoc, Nat.mul_comm (2 ^ c'), ← Nat.mul_assoc]
    rw [e1, e2]
    have hpos : 0 < C * 2 ^ c * 2 ^ c' := Nat.mul_pos (Nat.mul_pos hC (Nat.two_pow_pos c)) (Nat.two_pow_pos c')
    have hq : 9007199254740992 ≤ A * 2 ^ a * 2 ^ c' / (C * 2 ^ c * 2 ^ c') := by rw [Nat.mul_div_mul_right _ _ (Nat.two_pow_pos c')]; exact h
    have hs := ratio_steps (A * 2 ^ a * 2 ^ c') (C * 2 ^ c * 2 ^ c') ((c : Int) - a) k hpos hq
    rw [← hs]
    congr 1
    omega
  by_cases hle : a + c' ≤ a' + c
  · exact (key a c a' c' h hle).symm
  · exact key a' c' a c h' (by omega)
/-- The float nearest to A / C. -/
def ratioW (A C : Nat) : Nat := ratioAt (A * 2 ^ (-((A.log2 : Int) - C.log2 - 63)).toNat) (C * 2 ^ ((A.log2 : Int) - C.log2 - 63).toNat) ((A.log2 : Int) - C.log2 - 63)
theorem ratio_long (A C a c : Nat) (hA : 0 < A) (hC : 0 < C) (h : (A.log2 : Int) + a - (C.log2 + c) ≥ 54) : 9007199254740992 ≤ A * 2 ^ a / (C * 2 ^ c) := by
  rw [Nat.le_div_iff_mul_le (Nat.mul_pos hC (Nat.two_pow_pos c))]
  have h1 : 2 ^ A.log2 ≤ A := Nat.log2_self_le (by omega)
  have h2 : C < 2 ^ (C.log2 + 1) := Nat.lt_log2_self
  generalize A.log2 = x at *
  generalize C.log2 = y at *
  have h3 : 2 ^ x * 2 ^ a ≤ A * 2 ^ a := Nat.mul_le_mul_right _ h1
  have h4 : C * 2 ^ c ≤ 2 ^ (y + 1) * 2 ^ c := Nat.mul_le_mul_right _ (Nat.le_of_lt h2)
  have h5 : 9007199254740992 * (C * 2 ^ c) ≤ 2 ^ 53 * (2 ^ (y + 1) * 2 ^ c) := Nat.mul_le_mul_left _ h4
  rw [← Nat.pow_add, ← Nat.pow_add] at h5
  rw [← Nat.pow_add] at h3
  have h6 : 2 ^ (53 + (y + 1 + c)) ≤ 2 ^ (x + a) := Nat.pow_le_pow_right (by omega) (by omega)
  omega
/-- Whatever way makes it long enough. -/
theorem ratioW_at (A C a c : Nat) (hA : 0 < A) (hC : 0 < C) (h : 9007199254740992 ≤ A * 2 ^ a / (C * 2 ^ c)) : ratioAt (A * 2 ^ a) (C * 2 ^ c) ((c : Int) - a) = ratioW A C := by
  unfold ratioW
  have h' := ratio_long A C (-((A.log2 : Int) - C.log2 - 63)).toNat ((A.log2 : Int) - C.log2 - 63).toNat hA hC (by omega)
  rw [ratio_same A C a c _ _ hC h h']
  congr 1
  omega
/-- A factor of both, of the whole. -/
theorem ratioW_scale (A C t : Nat) (hA : 0 < A) (hC : 0 < C) (ht : 0 < t) : ratioW (A * t) (C * t) = ratioW A C := by
  have h := ratio_long A C (-((A.log2 : Int) - C.log2 - 63)).toNat ((A.log2 : Int) - C.log2 - 63).toNat hA hC (by omega)
  generalize (-((A.log2 : Int) - C.log2 - 63)).toNat = a at *
  generalize ((A.log2 : Int) - C.log2 - 63).toNat = c at *
  rw [← ratioW_at A C a c hA hC h]
  have e1 : A * t * 2 ^ a = A * 2 ^ a * t := by rw [Nat.mul_assoc, Nat.mul_comm t, ← Nat.mul_assoc]
  have e2 : C * t * 2 ^ c = C * 2 ^ c * t := by rw [Nat.mul_assoc, Nat.mul_comm t, ← Nat.mul_assoc]
  have h' : 9007199254740992 ≤ A * t * 2 ^ a / (C * t * 2 ^ c) := by rw [e1, e2, Nat.mul_div_mul_right _ _ ht]; exact h
  rw [← ratioW_at (A * t) (C * t) a c (Nat.mul_pos hA ht) (Nat.mul_pos hC ht) h', e1, e2, ratio_scale _ _ t _ ht]
/-- One quotient, one float. -/
theorem ratioW_eq (A C A' C' : Nat) (hA : 0 < A) (hC : 0 < C) (hA' : 0 < A') (hC' : 0 < C') (h : A * C' = A' * C) : ratioW A C = ratioW A' C' := by
  rw [← ratioW_scale A C C' hA hC hC', ← ratioW_scale A' C' C hA' hC' hC, h, Nat.mul_comm C C']
/-- Whole numbers times a power of two. -/
theorem ratioW_fw (m : Nat) (a c : Nat) (hm : 0 < m) : ratioW (m * 2 ^ a) (2 ^ c) = fw false m ((a : Int) - c) := by
  have h0 : 0 < m * 2 ^ a := Nat.mul_pos hm (Nat.two_pow_pos a)
  obtain ⟨j, hj⟩ : ∃ j, 2 ^ j = 9007199254740992 := ⟨53, rfl⟩
  have hq : 9007199254740992 ≤ m * 2 ^ a * 2 ^ (c + j) / (2 ^ c * 2 ^ 0) := by
    rw [Nat.pow_zero, Nat.mul_one, Nat.pow_add, Nat.mul_comm (2 ^ c), ← Nat.mul_assoc, Nat.mul_div_cancel _ (Nat.two_pow_pos c)]
    have : 1 * 2 ^ j ≤ m * 2 ^ a * 2 ^ j := Nat.mul_le_mul_right _ h0
    omega
  rw [← ratioW_at (m * 2 ^ a) (2 ^ c) (c + j) 0 h0 (Nat.two_pow_pos c) hq]
  unfold ratioAt
  rw [Nat.pow_zero, Nat.mul_one, Nat.pow_add, Nat.mul_comm (2 ^ c), ← Nat.mul_assoc, Nat.mul_mod_left, if_pos rfl, Nat.mul_div_cancel _ (Nat.two_pow_pos c), Nat.mul_assoc, ← Nat.pow_add]
  have := fw_scale false m (a + j) ((a : Int) - c)
  rw [← this]
  congr 1
  omega
end Go.Proofs.YtcbhcdaedchmlaaDoor

/- Decimal digits and their float: plain. -/
namespace Go.Proofs.YtcbhcdaedchmlaaDoor
open Ieee (double)

/-- A number that is far too small. -/
theorem fw_low (s : Bool) (m : Nat) (e : Int) (h : e + (m.log2 : Int) ≤ -1076) : fw s m e = signBit s := by
  by_cases h0 : m = 0
  · subst h0; exact fw_zero s e
  · rw [fw_place s m e (by omega)]
    have hlt : m < 2 ^ (m.log2 + 1) := Nat.lt_log2_self
    generalize m.log2 = L at *
    have hl : max (e + (L : Int) - 52) (-1074) = -1074 := by omega
    rw [hl]
    have hk : roundN m (-1074 - e) = 0 := by
      unfold roundN
      rw [if_neg (by omega)]
      obtain ⟨d, hd⟩ : ∃ d : Nat, (-1074 - e).toNat = d + 1 := ⟨(-1074 - e).toNat - 1, by omega⟩
      rw [hd]
      have h2 : m < 2 ^ d := Nat.lt_of_lt_of_le hlt (Nat.pow_le_pow_right (by omega) (by omega))
      have h3 : 2 ^ d ≤ 2 ^ (d + 1) := Nat.pow_le_pow_right (by omega) (by omega)
      unfold keptOf
      rw [Nat.div_eq_of_lt (by omega), Nat.mod_eq_of_lt (show m < 2 ^ (d + 1) by omega), Nat.add_sub_cancel, if_neg (by omega)]
    rw [hk]
    show signBit s + min (0 * 4503599627370496 + 0) 9218868437227405312 = signBit s
    rw [Nat.zero_mul, Nat.zero_add, Nat.zero_min, Nat.add_zero]
theorem log2_ge (m k : Nat) (h0 : 0 < m) (h : 2 ^ k ≤ m) : k ≤ m.log2 := (Nat.le_log2 (by omega)).2 h
theorem log2_le (m k : Nat) (h0 : 0 < m) (h : m < 2 ^ (k + 1)) : m.log2 ≤ k := by have := (Nat.log2_lt (by omega)).2 h; omega
/-- Quotients held against powers of two. -/
theorem div_log (A C k : Nat) (hC : 0 < C) (h : C * 2 ^ k ≤ A) : (k : Int) ≤ (A.log2 : Int) - C.log2 := by
  have h1 : 2 ^ C.log2 ≤ C := Nat.log2_self_le (by omega)
  have h2 : 2 ^ C.log2 * 2 ^ k ≤ C * 2 ^ k := Nat.mul_le_mul_right _ h1
  rw [← Nat.pow_add] at h2
  have h3 : 0 < A := Nat.lt_of_lt_of_le (Nat.mul_pos hC (Nat.two_pow_pos k)) h
  have := log2_ge A (C.log2 + k) h3 (Nat.le_trans h2 h)
  omega
/-- A quotient from 2^1024 on is an infinity. -/
theorem ratio_over (A C k : Nat) (hC : 0 < C) (hk : 1025 ≤ k) (h : C * 2 ^ k ≤ A) : ratioW A C = iw false := by
  have hA : 0 < A := Nat.lt_of_lt_of_le (Nat.mul_pos hC (Nat.two_pow_pos k)) h
  have hd := div_log A C k hC h
  have hl := ratio_long A C (-((A.log2 : Int) - C.log2 - 63)).toNat ((A.log2 : Int) - C.log2 - 63).toNat hA hC (by omega)
  -- its quotient has at least 62 digits
  have hq : 2 ^ 62 ≤ A * 2 ^ (-((A.log2 : Int) - C.log2 - 63)).toNat / (C * 2 ^ ((A.log2 : Int) - C.log2 - 63).toNat) := by
    rw [Nat.le_div_iff_mul_le (Nat.mul_pos hC (Nat.two_pow_pos _))]
    have h1 : 2 ^ A.log2 ≤ A := Nat.log2_self_le (by omega)
    have h2 : C < 2 ^ (C.log2 + 1) := Nat.lt_log2_self
    generalize A.log2 = x at *
    generalize C.log2 = y at *
    rw [show (-((x : Int) - y - 63)).toNat = 0 by omega, Nat.pow_zero, Nat.mul_one]
    have h4 : C * 2 ^ ((x : Int) - y - 63).toNat ≤ 2 ^ (y + 1) * 2 ^ ((x : Int) - y - 63).toNat := Nat.mul_le_mul_right _ (Nat.le_of_lt h2)
    have h5 := Nat.mul_le_mul_left (2 ^ 62) h4
    rw [← Nat.pow_add, ← Nat.pow_add, show 62 + (y + 1 + ((x : Int) - y - 63).toNat) = x by omega] at h5
    exact Nat.le_trans h5 h1
  unfold ratioW ratioAt
  generalize A * 2 ^ (-((A.log2 : Int) - C.log2 - 63)).toNat / (C * 2 ^ ((A.log2 : Int) - C.log2 - 63).toNat) = q at *
  generalize A * 2 ^ (-((A.log2 : Int) - C.log2 - 63)).toNat % (C * 2 ^ ((A.log2 : Int) - C.log2 - 63).toNat) = r at *
  have hq62 := log2_ge q 62 (by omega) hq
  split
  · exact fw_over false q _ _ (by omega) rfl (by omega)
  · have h63 : 2 ^ 63 ≤ 2 * q + 1 := by
      have : (2 : Nat) ^ 63 = 2 * 2 ^ 62 := by decide
      omega
    have := log2_ge (2 * q + 1) 63 (by omega) h63
    exact fw_over false (2 * q + 1) _ _ (by omega) rfl (by omega)
/-- A quotient below 2^-1080 is a zero. -/
theorem ratio_under (A C k : Nat) (hA : 0 < A) (hk : 1080 ≤ k) (h : A * 2 ^ k ≤ C) : ratioW A C = 0 := by
  have hC : 0 < C := Nat.lt_of_lt_of_le (Nat.mul_pos hA (Nat.two_pow_pos k)) h
  have hd := div_log C A k hA h
  have hq : A * 2 ^ (-((A.log2 : Int) - C.log2 - 63)).toNat / (C * 2 ^ ((A.log2 : Int) - C.log2 - 63).toNat) < 2 ^ 64 := by
    rw [Nat.div_lt_iff_lt_mul (Nat.mul_pos hC (Nat.two_pow_pos _))]
    have h1 : 2 ^ C.log2 ≤ C := Nat.log2_self_le (by omega)
    have h2 : A < 2 ^ (A.log2 + 1) := Nat.lt_log2_self
    generalize A.log2 = x at *
    generalize C.log2 = y at *
    rw [show ((x : Int) - y - 63).toNat = 0 by omega, Nat.pow_zero, Nat.mul_one]
    have h4 : A * 2 ^ (-((x : Int) - y - 63)).toNat < 2 ^ (x + 1) * 2 ^ (-((x : Int) - y - 63)).toNat := Nat.mul_lt_mul_of_pos_right h2 (Nat.two_pow_pos _)
    rw [← Nat.pow_add, show x + 1 + (-((x : Int) - y - 63)).toNat = 64 + y by omega, Nat.pow_add] at h4
    exact Nat.lt_of_lt_of_le h4 (Nat.mul_le_mul_left _ h1)
  unfold ratioW ratioAt
  generalize A * 2 ^ (-((A.log2 : Int) - C.log2 - 63)).toNat / (C * 2 ^ ((A.log2 : Int) - C.log2 - 63).toNat) = q at *
  generalize A * 2 ^ (-((A.log2 : Int) - C.log2 - 63)).toNat % (C * 2 ^ ((A.log2 : Int) - C.log2 - 63).toNat) = r at *
  have e64 : (2 : Nat) ^ 64 = 18446744073709551616 := rfl
  have e65 : (2 : Nat) ^ (64 + 1) = 36893488147419103232 := rfl
  split
  · by_cases h0 : q = 0
    · subst h0; exact fw_zero false _
    · have := log2_le q 64 (by omega) (by omega)
      exact fw_low false q _ (by omega)
  · have := log2_le (2 * q + 1) 64 (by omega) (by omega)
    exact fw_low false (2 * q + 1) _ (by omega)
/-- The float nearest to V times b to the e. -/
def decW (b V : Nat) (e : Int) : Nat := if V = 0 then 0 else ratioW (V * b ^ e.toNat) (b ^ (-e).toNat)
theorem ten_lo (n : Nat) : 2 ^ (3 * n) ≤ 10 ^ n := by rw [Nat.pow_mul]; exact Nat.pow_le_pow_left (by omega) n
theorem ten_hi (n : Nat) : 10 ^ n ≤ 2 ^ (4 * n) := by rw [Nat.pow_mul]; exact Nat.pow_le_pow_left (by omega) n
/-- Far up. -/
theorem dec_over (V : Nat) (e : Int) (len : Nat) (hV : 10 ^ (len - 1) ≤ V) (hl : 1 ≤ len) (h : (len : Int) + e > 400) : decW 10 V e = iw false := by
  have h0 : 0 < V := Nat.lt_of_lt_of_le (Nat.pow_pos (by omega)) hV
  unfold decW
  rw [if_neg (by omega)]
  obtain ⟨k, hk⟩ : ∃ k : Nat, (k : Int) = (len : Int) + e - 1 := ⟨((len : Int) + e - 1).toNat, by omega⟩
  refine ratio_over _ _ (3 * k) (Nat.pow_pos (by omega)) (by omega) ?_
  have h1 : 10 ^ (-e).toNat * 2 ^ (3 * k) ≤ 10 ^ (-e).toNat * 10 ^ k := Nat.mul_le_mul_left _ (ten_lo k)
  have h2 : 10 ^ (len - 1) * 10 ^ e.toNat ≤ V * 10 ^ e.toNat := Nat.mul_le_mul_right _ hV
  rw [← Nat.pow_add] at h1 h2
  rw [show (-e).toNat + k = len - 1 + e.toNat by omega] at h1
  exact Nat.le_trans h1 h2
/-- Far down. -/
theorem dec_under (V : Nat) (e : Int) (len : Nat) (h0 : 0 < V) (hV : V < 10 ^ len) (h : (len : Int) + e < -400) : decW 10 V e = 0 := by
  unfold decW
  rw [if_neg (by omega)]
  obtain ⟨k, hk⟩ : ∃ k : Nat, (k : Int) = -e - (len : Int) := ⟨(-e - (len : Int)).toNat, by omega⟩
  have h1 : V * 10 ^ e.toNat = V := by rw [show e.toNat = 0 by omega, Nat.pow_zero, Nat.mul_one]
  rw [h1]
  refine ratio_under _ _ (3 * k) h0 (by omega) ?_
  have h2 : V * 2 ^ (3 * k) ≤ 10 ^ len * 10 ^ k := Nat.mul_le_mul (Nat.le_of_lt hV) (ten_lo k)
  rw [← Nat.pow_add, show len + k = (-e).toNat by omega] at h2
  exact h2
/-- Within. -/
theorem dec_within (V : Nat) (e : Int) (len : Nat) (hV : 10 ^ (len - 1) ≤ V) (hV' : V < 10 ^ len) (hl : 1 ≤ len) (h1 : (len : Int) + e ≤ 400) (h2 : -400 ≤ (len : Int) + e) :
    ((V * 10 ^ e.toNat).log2 : Int) - (10 ^ (-e).toNat).log2 ≤ 1900 ∧ -1900 ≤ ((V * 10 ^ e.toNat).log2 : Int) - (10 ^ (-e).toNat).log2 := by
  have h0 : 0 < V := Nat.lt_of_lt_of_le (Nat.pow_pos (by omega)) hV
  have hA : 0 < V * 10 ^ e.toNat := Nat.mul_pos h0 (Nat.pow_pos (by omega))
  have hC : 0 < 10 ^ (-e).toNat := Nat.pow_pos (by omega)
  constructor
  · obtain ⟨k, hk⟩ : ∃ k : Nat, k = 401 := ⟨_, rfl⟩
    have a1 : V * 10 ^ e.toNat ≤ 10 ^ len * 10 ^ e.toNat := Nat.mul_le_mul_right _ (Nat.le_of_lt hV')
    rw [← Nat.pow_add] at a1
    have a2 : 10 ^ (len + e.toNat) ≤ 10 ^ ((-e).toNat + k) := Nat.pow_le_pow_right (by omega) (by omega)
    rw [Nat.pow_add 10 (-e).toNat k] at a2
    have a3 : 10 ^ (-e).toNat * 10 ^ k ≤ 10 ^ (-e).toNat * 2 ^ (4 * k) := Nat.mul_le_mul_left _ (ten_hi k)
    have a4 : V * 10 ^ e.toNat ≤ 10 ^ (-e).toNat * 2 ^ (4 * k) := Nat.le_trans a1 (Nat.le_trans a2 a3)
    have b1 : 10 ^ (-e).toNat < 2 ^ ((10 ^ (-e).toNat).log2 + 1) := Nat.lt_log2_self
    generalize 10 ^ (-e).toNat = C at *
    have b2 : C * 2 ^ (4 * k) < 2 ^ (C.log2 + 1) * 2 ^ (4 * k) := Nat.mul_lt_mul_of_pos_right b1 (Nat.two_pow_pos _)
    rw [← Nat.pow_add] at b2
    have := log2_le (V * 10 ^ e.toNat) (C.log2 + 4 * k) hA (by rw [show C.log2 + 4 * k + 1 = C.log2 + 1 + 4 * k by omega]; exact Nat.lt_of_le_of_lt a4 b2)
    omega
  · obtain ⟨k, hk⟩ : ∃ k : Nat, k = 401 := ⟨_, rfl⟩
    have a1 : 10 ^ (len - 1) * 10 ^ e.toNat ≤ V * 10 ^ e.toNat := Nat.mul_le_mul_right _ hV
    have a2 : 10 ^ (-e).toNat ≤ 10 ^ (len - 1 + e.toNat + k) := Nat.pow_le_pow_right (by omega) (by omega)
    rw [Nat.pow_add, Nat.pow_add] at a2
    have a3 : 10 ^ (len - 1) * 10 ^ e.toNat * 10 ^ k ≤ V * 10 ^ e.toNat * 2 ^ (4 * k) := Nat.mul_le_mul a1 (ten_hi k)
    have a4 : 10 ^ (-e).toNat ≤ V * 10 ^ e.toNat * 2 ^ (4 * k) := Nat.le_trans a2 a3
    generalize V * 10 ^ e.toNat = A at *
    generalize 10 ^ (-e).toNat = C at *
    have b1 : A < 2 ^ (A.log2 + 1) := Nat.lt_log2_self
    have b2 : A * 2 ^ (4 * k) < 2 ^ (A.log2 + 1) * 2 ^ (4 * k) := Nat.mul_lt_mul_of_pos_right b1 (Nat.two_pow_pos _)
    rw [← Nat.pow_add] at b2
    have := log2_le C (A.log2 + 4 * k) hC (by rw [show A.log2 + 4 * k + 1 = A.log2 + 1 + 4 * k by omega]; exact Nat.lt_of_le_of_lt a4 b2)
    omega
end Go.Proofs.YtcbhcdaedchmlaaDoor

/- What reading a float answers: plain. -/
namespace Go.Proofs.YtcbhcdaedchmlaaDoor
open Go.RowKit

/-- The byte at a place, 0 behind the end. -/
def bAt (s : ByteArray) (k : Nat) : Int := if h : k < s.size then (s[k].toNat : Int) else 0
theorem bAt_in (s : ByteArray) (k : Nat) (h : k < s.size) : bAt s k = (s[k].toNat : Int) := dif_pos h
theorem bAt_out (s : ByteArray) (k : Nat) (h : ¬ k < s.size) : bAt s k = 0 := dif_neg h
/-- A digit of the base stands at a place. -/
def Dig (b : Int) (s : ByteArray) (i : Nat) : Prop := i < s.size ∧ digN 99 (bAt s i) < b
/-- The digits from a place on: they end ahead of j. -/
def Run (b : Int) (s : ByteArray) (k j : Nat) : Prop := k ≤ j ∧ j ≤ s.size ∧ (∀ i, k ≤ i → i < j → Dig b s i) ∧ ¬ Dig b s j
theorem run_one (b : Int) (s : ByteArray) (k j j' : Nat) (h : Run b s k j) (h' : Run b s k j') : j = j' := by
  obtain ⟨a1, a2, a3, a4⟩ := h
  obtain ⟨b1, b2, b3, b4⟩ := h'
  rcases Nat.lt_trichotomy j j' with hlt | rfl | hlt
  · exact absurd (b3 j a1 hlt) a4
  · rfl
  · exact absurd (a3 j' b1 hlt) b4
/-- A sign, or none. -/
def Sgn (s : ByteArray) (k : Nat) (neg : Bool) (j : Nat) : Prop :=
  (k < s.size ∧ bAt s k = 45 ∧ neg = true ∧ j = k + 1) ∨ (k < s.size ∧ bAt s k = 43 ∧ neg = false ∧ j = k + 1) ∨ (bAt s k ≠ 45 ∧ bAt s k ≠ 43 ∧ neg = false ∧ j = k)
theorem sgn_any (s : ByteArray) (k : Nat) : ∃ neg j, Sgn s k neg j := by
  by_cases h : bAt s k = 45
  · have hk : k < s.size := by
      by_cases hk : k < s.size
      · exact hk
      · rw [bAt_out s k hk] at h; omega
    exact ⟨_, _, .inl ⟨hk, h, rfl, rfl⟩⟩
  · by_cases h' : bAt s k = 43
    · have hk : k < s.size := by
        by_cases hk : k < s.size
        · exact hk
        · rw [bAt_out s k hk] at h'; omega
      exact ⟨_, _, .inr (.inl ⟨hk, h', rfl, rfl⟩)⟩
    · exact ⟨_, _, .inr (.inr ⟨h, h', rfl, rfl⟩)⟩
theorem sgn_le (s : ByteArray) (k : Nat) (neg : Bool) (j : Nat) (h : Sgn s k neg j) (hk : k ≤ s.size) : j ≤ s.size := by
  rcases h with ⟨a, _, _, e⟩ | ⟨a, _, _, e⟩ | ⟨_, _, _, e⟩ <;> omega
/-- The digits of a run. -/
theorem run_get (s : ByteArray) (k j i : Nat) (hj : j ≤ s.size) (h : i < (s.extract k j).size) : ∃ h' : k + i < s.size, (s.extract k j)[i] = s[k + i] := by
  have hz : (s.extract k j).size = j - k := by rw [ByteArray.size_extract]; omega
  exact ⟨by omega, ByteArray.getElem_extract _⟩
theorem run_good (b : Int) (s : ByteArray) (k j : Nat) (h : Run b s k j) : good b (s.extract k j).data.toList := by
  obtain ⟨h1, h2, h3, _⟩ := h
  refine good_of b _ fun i hi => ?_
  have hz : (s.extract k j).size = j - k := by rw [ByteArray.size_extract]; omega
  obtain ⟨h', e⟩ := run_get s k j i h2 hi
  rw [e, ← bAt_in s (k + i) h']
  exact (h3 (k + i) (by omega) (by omega)).2
theorem ten_digit (c : UInt8) (h : digN 99 (c.toNat : Int) < 10) : 48 ≤ (c.toNat : Int) ∧ (c.toNat : Int) ≤ 57 ∧ digN 99 (c.toNat : Int) = (c.toNat : Int) - 48 := by
  unfold digN at h ⊢
  split at h
  · rename_i h1; rw [if_pos h1]; omega
  · split at h <;> omega
/-- A number, but no more than 100000. -/
def cap (V : Nat) : Nat := min V 100000
theorem cap_step (V d : Nat) : min (cap V * 10 + d) 100000 = cap (V * 10 + d) := by unfold cap; omega
/-- The number that a run's digits tell. -/
def runV (b : Nat) (s : ByteArray) (k j : Nat) : Nat := valN b (s.extract k j).data.toList
def expV (neg : Bool) (V : Nat) : Int := if neg then -(cap V : Int) else (cap V : Int)

/-- The base that the digits are of, and where they begin. -/
def Bas (s : ByteArray) (k : Nat) (b : Nat) (j : Nat) : Prop :=
  (bAt s k = 48 ∧ k + 1 < s.size ∧ bAt s (k + 1) = 120 ∧ b = 16 ∧ j = k + 2) ∨ (¬ (bAt s k = 48 ∧ k + 1 < s.size ∧ bAt s (k + 1) = 120) ∧ b = 10 ∧ j = k)
/-- The words inf and nan. -/
def wordC (nan : Bool) (t : Nat) : Int := if nan then (if t = 0 then 110 else if t = 1 then 97 else 110) else (if t = 0 then 105 else if t = 1 then 110 else 102)
/-- The digits behind a point, if there is one: all digits, the exponent of the last one, and the end; or nothing where digits lack. -/
def Frac (b : Nat) (s : ByteArray) (k j : Nat) (r : Option (ByteArray × Int × Nat)) : Prop :=
  (bAt s j ≠ 46 ∧ r = some (s.extract k j, 0, j)) ∨
  (bAt s j = 46 ∧ ∃ i, Run b s (j + 1) i ∧ ((i = j + 1 ∧ r = none) ∨ (j + 1 < i ∧ r = some (s.extract k j ++ s.extract (j + 1) i, -((i - (j + 1) : Nat) : Int), i))))
/-- An exponent, if there is a mark: what is added and the end; or the place where digits lack. -/
def Expo (m : Int) (s : ByteArray) (j : Nat) (r : Sum (Int × Nat) Nat) : Prop :=
  (bAt s j ≠ m ∧ r = .inl (0, j)) ∨
  (bAt s j = m ∧ ∃ neg k i, Sgn s (j + 1) neg k ∧ Run 10 s k i ∧ ((i = k ∧ r = .inr i) ∨ (k < i ∧ r = .inl (expV neg (runV 10 s k i), i))))
/-- The word that digits and an exponent tell. -/
def flW (neg : Bool) (b : Nat) (ds : ByteArray) (e : Int) : Nat := signBit neg + (if b = 16 then fw false (valN 16 ds.data.toList) e else decW 10 (valN 10 ds.data.toList) e)
def markOf (b : Nat) : Int := if b = 16 then 112 else 101
def expOf (b : Nat) (e : Int) : Int := if b = 16 then 4 * e else e
/-- What is answered: read or not, the place, the float's word. -/
def ReadA (s : ByteArray) (ok : Bool) (pl : Int) (fl : Nat → Prop) : Prop :=
  (1200 < s.size ∧ ok = false ∧ pl = 1200 ∧ fl = (· = 0)) ∨
  (s.size ≤ 1200 ∧ ∃ neg k, Sgn s 0 neg k ∧ (
    (∃ nan, bAt s k = wordC nan 0 ∧ ∃ i, i ≤ 3 ∧ (∀ t, t < i → bAt s (k + t) = wordC nan t) ∧
      ((i < 3 ∧ bAt s (k + i) ≠ wordC nan i ∧ ok = false ∧ pl = ((k + i : Nat) : Int) ∧ fl = (· = 0)) ∨
       (i = 3 ∧ k + 3 < s.size ∧ ok = false ∧ pl = ((k + 3 : Nat) : Int) ∧ fl = (· = 0)) ∨
       (i = 3 ∧ ¬ k + 3 < s.size ∧ ok = true ∧ pl = 0 ∧ fl = (if nan then IsNan else (· = iw neg))))) ∨
    (bAt s k ≠ 105 ∧ bAt s k ≠ 110 ∧ ∃ b k1 j, Bas s k b k1 ∧ Run b s k1 j ∧ (
      (j = k1 ∧ ok = false ∧ pl = (k1 : Int) ∧ fl = (· = 0)) ∨
      (k1 < j ∧ ∃ r, Frac b s k1 j r ∧ (
        (r = none ∧ ok = false ∧ pl = ((j + 1 : Nat) : Int) ∧ fl = (· = 0)) ∨
        (∃ ds e i x, r = some (ds, e, i) ∧ Expo (markOf b) s i x ∧ (
          (∃ a, x = .inr a ∧ ok = false ∧ pl = (a : Int) ∧ fl = (· = 0)) ∨
          (∃ n a, x = .inl (n, a) ∧ (
            (a < s.size ∧ ok = false ∧ pl = (a : Int) ∧ fl = (· = 0)) ∨
            (¬ a < s.size ∧ ok = true ∧ pl = 0 ∧ fl = (· = flW neg b ds (expOf b e + n)))))))))))))
end Go.Proofs.YtcbhcdaedchmlaaDoor

