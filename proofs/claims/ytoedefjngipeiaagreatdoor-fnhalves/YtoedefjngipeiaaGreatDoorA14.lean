import Derived.Test.YtoedefjngipeiaaGreatDoorA13
import Derived.Test.YtoedefjngipeiaaGreatDoorA09
import Derived.Test.YtoedefjngipeiaaGreatDoorA11
/- Decimal digits and their float: plain. -/
namespace Go.Proofs.YtoedefjngipeiaaGreatDoor
open Ieee (double)

/-- A number that is far too small. -/
theorem fw_low (s : Bool) (m : Nat) (e : Int) (h : e + (m.log2 : Int) ≤ -1076) : fw s m e = signBit s := by
  by_cases h0 : m = 0
  · subst h0; exact fw_zero s e
  · rw [fw_place s m e (by omega)]
    have hlt : m < 2 ^ (m.log2 + 1) := Nat.lt_log2_self
    generalize m.log2 = L at *
    have hl : max (e + (L : Int) - 52) (-1074) = -1074 := by omega
    rw [hl]
    have hk : roundN m (-1074 - e) = 0 := by
      unfold roundN
      rw [if_neg (by omega)]
      obtain ⟨d, hd⟩ : ∃ d : Nat, (-1074 - e).toNat = d + 1 := ⟨(-1074 - e).toNat - 1, by omega⟩
      rw [hd]
      have h2 : m < 2 ^ d := Nat.lt_of_lt_of_le hlt (Nat.pow_le_pow_right (by omega) (by omega))
      have h3 : 2 ^ d ≤ 2 ^ (d + 1) := Nat.pow_le_pow_right (by omega) (by omega)
      unfold keptOf
      rw [Nat.div_eq_of_lt (by omega), Nat.mod_eq_of_lt (show m < 2 ^ (d + 1) by omega), Nat.add_sub_cancel, if_neg (by omega)]
    rw [hk]
    show signBit s + min (0 * 4503599627370496 + 0) 9218868437227405312 = signBit s
    rw [Nat.zero_mul, Nat.zero_add, Nat.zero_min, Nat.add_zero]
theorem log2_ge (m k : Nat) (h0 : 0 < m) (h : 2 ^ k ≤ m) : k ≤ m.log2 := (Nat.le_log2 (by omega)).2 h
theorem log2_le (m k : Nat) (h0 : 0 < m) (h : m < 2 ^ (k + 1)) : m.log2 ≤ k := by have := (Nat.log2_lt (by omega)).2 h; omega
/-- Quotients held against powers of two. -/
theorem div_log (A C k : Nat) (hC : 0 < C) (h : C * 2 ^ k ≤ A) : (k : Int) ≤ (A.log2 : Int) - C.log2 := by
  have h1 : 2 ^ C.log2 ≤ C := Nat.log2_self_le (by omega)
  have h2 : 2 ^ C.log2 * 2 ^ k ≤ C * 2 ^ k := Nat.mul_le_mul_right _ h1
  rw [← Nat.pow_add] at h2
  have h3 : 0 < A := Nat.lt_of_lt_of_le (Nat.mul_pos hC (Nat.two_pow_pos k)) h
  have := log2_ge A (C.log2 + k) h3 (Nat.le_trans h2 h)
  omega
/-- A quotient from 2^1024 on is an infinity. -/
theorem ratio_over (A C k : Nat) (hC : 0 < C) (hk : 1025 ≤ k) (h : C * 2 ^ k ≤ A) : ratioW A C = iw false := by
  have hA : 0 < A := Nat.lt_of_lt_of_le (Nat.mul_pos hC (Nat.two_pow_pos k)) h
  have hd := div_log A C k hC h
  have hl := ratio_long A C (-((A.log2 : Int) - C.log2 - 63)).toNat ((A.log2 : Int) - C.log2 - 63).toNat hA hC (by omega)
  -- its quotient has at least 62 digits
  have hq : 2 ^ 62 ≤ A * 2 ^ (-((A.log2 : Int) - C.log2 - 63)).toNat / (C * 2 ^ ((A.log2 : Int) - C.log2 - 63).toNat) := by
    rw [Nat.le_div_iff_mul_le (Nat.mul_pos hC (Nat.two_pow_pos _))]
    have h1 : 2 ^ A.log2 ≤ A := Nat.log2_self_le (by omega)
    have h2 : C < 2 ^ (C.log2 + 1) := Nat.lt_log2_self
    generalize A.log2 = x at *
    generalize C.log2 = y at *
    rw [show (-((x : Int) - y - 63)).toNat = 0 by omega, Nat.pow_zero, Nat.mul_one]
    have h4 : C * 2 ^ ((x : Int) - y - 63).toNat ≤ 2 ^ (y + 1) * 2 ^ ((x : Int) - y - 63).toNat := Nat.mul_le_mul_right _ (Nat.le_of_lt h2)
    have h5 := Nat.mul_le_mul_left (2 ^ 62) h4
    rw [← Nat.pow_add, ← Nat.pow_add, show 62 + (y + 1 + ((x : Int) - y - 63).toNat) = x by omega] at h5
    exact Nat.le_trans h5 h1
  unfold ratioW ratioAt
  generalize A * 2 ^ (-((A.log2 : Int) - C.log2 - 63)).toNat / (C * 2 ^ ((A.log2 : Int) - C.log2 - 63).toNat) = q at *
  generalize A * 2 ^ (-((A.log2 : Int) - C.log2 - 63)).toNat % (C * 2 ^ ((A.log2 : Int) - C.log2 - 63).toNat) = r at *
  have hq62 := log2_ge q 62 (by omega) hq
  split
  · exact fw_over false q _ _ (by omega) rfl (by omega)
  · have h63 : 2 ^ 63 ≤ 2 * q + 1 := by
      have : (2 : Nat) ^ 63 = 2 * 2 ^ 62 := by decide
      omega
    have := log2_ge (2 * q + 1) 63 (by omega) h63
    exact fw_over false (2 * q + 1) _ _ (by omega) rfl (by omega)
/-- A quotient below 2^-1080 is a zero. -/
theorem ratio_under (A C k : Nat) (hA : 0 < A) (hk : 1080 ≤ k) (h : A * 2 ^ k ≤ C) : ratioW A C = 0 := by
  have hC : 0 < C := Nat.lt_of_lt_of_le (Nat.mul_pos hA (Nat.two_pow_pos k)) h
  have hd := div_log C A k hA h
  have hq : A * 2 ^ (-((A.log2 : Int) - C.log2 - 63)).toNat / (C * 2 ^ ((A.log2 : Int) - C.log2 - 63).toNat) < 2 ^ 64 := by
    rw [Nat.div_lt_iff_lt_mul (Nat.mul_pos hC (Nat.two_pow_pos _))]
    have h1 : 2 ^ C.log2 ≤ C := Nat.log2_self_le (by omega)
    have h2 : A < 2 ^ (A.log2 + 1) := Nat.lt_log2_self
    generalize A.log2 = x at *
    generalize C.log2 = y at *
    rw [show ((x : Int) - y - 63).toNat = 0 by omega, Nat.pow_zero, Nat.mul_one]
    have h4 : A * 2 ^ (-((x : Int) - y - 63)).toNat < 2 ^ (x + 1) * 2 ^ (-((x : Int) - y - 63)).toNat := Nat.mul_lt_mul_of_pos_right h2 (Nat.two_pow_pos _)
    rw [← Nat.pow_add, show x + 1 + (-((x : Int) - y - 63)).toNat = 64 + y by omega, Nat.pow_add] at h4
    exact Nat.lt_of_lt_of_le h4 (Nat.mul_le_mul_left _ h1)
  unfold ratioW ratioAt
  generalize A * 2 ^ (-((A.log2 : Int) - C.log2 - 63)).toNat / (C * 2 ^ ((A.log2 : Int) - C.log2 - 63).toNat) = q at *
  generalize A * 2 ^ (-((A.log2 : Int) - C.log2 - 63)).toNat % (C * 2 ^ ((A.log2 : Int) - C.log2 - 63).toNat) = r at *
  have e64 : (2 : Nat) ^ 64 = 18446744073709551616 := rfl
  have e65 : (2 : Nat) ^ (64 + 1) = 36893488147419103232 := rfl
  split
  · by_cases h0 : q = 0
    · subst h0; exact fw_zero false _
    · have := log2_le q 64 (by omega) (by omega)
      exact fw_low false q _ (by omega)
  · have := log2_le (2 * q + 1) 64 (by omega) (by omega)
    exact fw_low false (2 * q + 1) _ (by omega)
/-- The float nearest to V times b to the e. -/
def decW (b V : Nat) (e : Int) : Nat := if V = 0 then 0 else ratioW (V * b ^ e.toNat) (b ^ (-e).toNat)
theorem ten_lo (n : Nat) : 2 ^ (3 * n) ≤ 10 ^ n := by rw [Nat.pow_mul]; exact Nat.pow_le_pow_left (by omega) n
theorem ten_hi (n : Nat) : 10 ^ n ≤ 2 ^ (4 * n) := by rw [Nat.pow_mul]; exact Nat.pow_le_pow_left (by omega) n
/-- Far up. -/
theorem dec_over (V : Nat) (e : Int) (len : Nat) (hV : 10 ^ (len - 1) ≤ V) (hl : 1 ≤ len) (h : (len : Int) + e > 400) : decW 10 V e = iw false := by
  have h0 : 0 < V := Nat.lt_of_lt_of_le (Nat.pow_pos (by omega)) hV
  unfold decW
  rw [if_neg (by omega)]
  obtain ⟨k, hk⟩ : ∃ k : Nat, (k : Int) = (len : Int) + e - 1 := ⟨((len : Int) + e - 1).toNat, by omega⟩
  refine ratio_over _ _ (3 * k) (Nat.pow_pos (by omega)) (by omega) ?_
  have h1 : 10 ^ (-e).toNat * 2 ^ (3 * k) ≤ 10 ^ (-e).toNat * 10 ^ k := Nat.mul_le_mul_left _ (ten_lo k)
  have h2 : 10 ^ (len - 1) * 10 ^ e.toNat ≤ V * 10 ^ e.toNat := Nat.mul_le_mul_right _ hV
  rw [← Nat.pow_add] at h1 h2
  rw [show (-e).toNat + k = len - 1 + e.toNat by omega] at h1
  exact Nat.le_trans h1 h2
/-- Far down. -/
theorem dec_under (V : Nat) (e : Int) (len : Nat) (h0 : 0 < V) (hV : V < 10 ^ len) (h : (len : Int) + e < -400) : decW 10 V e = 0 := by
  unfold decW
  rw [if_neg (by omega)]
  obtain ⟨k, hk⟩ : ∃ k : Nat, (k : Int) = -e - (len : Int) := ⟨(-e - (len : Int)).toNat, by omega⟩
  have h1 : V * 10 ^ e.toNat = V := by rw [show e.toNat = 0 by omega, Nat.pow_zero, Nat.mul_one]
  rw [h1]
  refine ratio_under _ _ (3 * k) h0 (by omega) ?_
  have h2 : V * 2 ^ (3 * k) ≤ 10 ^ len * 10 ^ k := Nat.mul_le_mul (Nat.le_of_lt hV) (ten_lo k)
  rw [← Nat.pow_add, show len + k = (-e).toNat by omega] at h2
  exact h2
/-- Within. -/
theorem dec_within (V : Nat) (e : Int) (len : Nat) (hV : 10 ^ (len - 1) ≤ V) (hV' : V < 10 ^ len) (hl : 1 ≤ len) (h1 : (len : Int) + e ≤ 400) (h2 : -400 ≤ (len : Int) + e) :
    ((V * 10 ^ e.toNat).log2 : Int) - (10 ^ (-e).toNat).log2 ≤ 1900 ∧ -1900 ≤ ((V * 10 ^ e.toNat).log2 : Int) - (10 ^ (-e).toNat).log2 := by
  have h0 : 0 < V := Nat.lt_of_lt_of_le (Nat.pow_pos (by omega)) hV
  have hA : 0 < V * 10 ^ e.toNat := Nat.mul_pos h0 (Nat.pow_pos (by omega))
  have hC : 0 < 10 ^ (-e).toNat := Nat.pow_pos (by omega)
  constructor
  · obtain ⟨k, hk⟩ : ∃ k : Nat, k = 401 := ⟨_, rfl⟩
    have a1 : V * 10 ^ e.toNat ≤ 10 ^ len * 10 ^ e.toNat := Nat.mul_le_mul_right _ (Nat.le_of_lt hV')
    rw [← Nat.pow_add] at a1
    have a2 : 10 ^ (len + e.toNat) ≤ 10 ^ ((-e).toNat + k) := Nat.pow_le_pow_right (by omega) (by omega)
    rw [Nat.pow_add 10 (-e).toNat k] at a2
    have a3 : 10 ^ (-e).toNat * 10 ^ k ≤ 10 ^ (-e).toNat * 2 ^ (4 * k) := Nat.mul_le_mul_left _ (ten_hi k)
    have a4 : V * 10 ^ e.toNat ≤ 10 ^ (-e).toNat * 2 ^ (4 * k) := Nat.le_trans a1 (Nat.le_trans a2 a3)
    have b1 : 10 ^ (-e).toNat < 2 ^ ((10 ^ (-e).toNat).log2 + 1) := Nat.lt_log2_self
    generalize 10 ^ (-e).toNat = C at *
    have b2 : C * 2 ^ (4 * k) < 2 ^ (C.log2 + 1) * 2 ^ (4 * k) := Nat.mul_lt_mul_of_pos_right b1 (Nat.two_pow_pos _)
    rw [← Nat.pow_add] at b2
    have := log2_le (V * 10 ^ e.toNat) (C.log2 + 4 * k) hA (by rw [show C.log2 + 4 * k + 1 = C.log2 + 1 + 4 * k by omega]; exact Nat.lt_of_le_of_lt a4 b2)
    omega
  · obtain ⟨k, hk⟩ : ∃ k : Nat, k = 401 := ⟨_, rfl⟩
    have a1 : 10 ^ (len - 1) * 10 ^ e.toNat ≤ V * 10 ^ e.toNat := Nat.mul_le_mul_right _ hV
    have a2 : 10 ^ (-e).toNat ≤ 10 ^ (len - 1 + e.toNat + k) := Nat.pow_le_pow_right (by omega) (by omega)
    rw [Nat.pow_add, Nat.pow_add] at a2
    have a3 : 10 ^ (len - 1) * 10 ^ e.toNat * 10 ^ k ≤ V * 10 ^ e.toNat * 2 ^ (4 * k) := Nat.mul_le_mul a1 (ten_hi k)
    have a4 : 10 ^ (-e).toNat ≤ V * 10 ^ e.toNat * 2 ^ (4 * k) := Nat.le_trans a2 a3
    generalize V * 10 ^ e.toNat = A at *
    generalize 10 ^ (-e).toNat = C at *
    have b1 : A < 2 ^ (A.log2 + 1) := Nat.lt_log2_self
    have b2 : A * 2 ^ (4 * k) < 2 ^ (A.log2 + 1) * 2 ^ (4 * k) := Nat.mul_lt_mul_of_pos_right b1 (Nat.two_pow_pos _)
    rw [← Nat.pow_add] at b2
    have := log2_le C (A.log2 + 4 * k) hC (by rw [show A.log2 + 4 * k + 1 = A.log2 + 1 + 4 * k by omega]; exact Nat.lt_of_le_of_lt a4 b2)
    omega
end Go.Proofs.YtoedefjngipeiaaGreatDoor

/- What reading a float answers: plain. -/
namespace Go.Proofs.YtoedefjngipeiaaGreatDoor
open Go.RowKit

/-- The byte at a place, 0 behind the end. -/
def bAt (s : ByteArray) (k : Nat) : Int := if h : k < s.size then (s[k].toNat : Int) else 0
theorem bAt_in (s : ByteArray) (k : Nat) (h : k < s.size) : bAt s k = (s[k].toNat : Int) := dif_pos h
theorem bAt_out (s : ByteArray) (k : Nat) (h : ¬ k < s.size) : bAt s k = 0 := dif_neg h
/-- A digit of the base stands at a place. -/
def Dig (b : Int) (s : ByteArray) (i : Nat) : Prop := i < s.size ∧ digN 99 (bAt s i) < b
/-- The digits from a place on: they end ahead of j. -/
def Run (b : Int) (s : ByteArray) (k j : Nat) : Prop := k ≤ j ∧ j ≤ s.size ∧ (∀ i, k ≤ i → i < j → Dig b s i) ∧ ¬ Dig b s j
theorem run_one (b : Int) (s : ByteArray) (k j j' : Nat) (h : Run b s k j) (h' : Run b s k j') : j = j' := by
  obtain ⟨a1, a2, a3, a4⟩ := h
  obtain ⟨b1, b2, b3, b4⟩ := h'
  rcases Nat.lt_trichotomy j j' with hlt | rfl | hlt
  · exact absurd (b3 j a1 hlt) a4
  · rfl
  · exact absurd (a3 j' b1 hlt) b4
/-- A sign, or none. -/
def Sgn (s : ByteArray) (k : Nat) (neg : Bool) (j : Nat) : Prop :=
  (k < s.size ∧ bAt s k = 45 ∧ neg = true ∧ j = k + 1) ∨ (k < s.size ∧ bAt s k = 43 ∧ neg = false ∧ j = k + 1) ∨ (bAt s k ≠ 45 ∧ bAt s k ≠ 43 ∧ neg = false ∧ j = k)
theorem sgn_any (s : ByteArray) (k : Nat) : ∃ neg j, Sgn s k neg j := by
  by_cases h : bAt s k = 45
  · have hk : k < s.size := by
      by_cases hk : k < s.size
      · exact hk
      · rw [bAt_out s k hk] at h; omega
    exact ⟨_, _, .inl ⟨hk, h, rfl, rfl⟩⟩
  · by_cases h' : bAt s k = 43
    · have hk : k < s.size := by
        by_cases hk : k < s.size
        · exact hk
        · rw [bAt_out s k hk] at h'; omega
      exact ⟨_, _, .inr (.inl ⟨hk, h', rfl, rfl⟩)⟩
    · exact ⟨_, _, .inr (.inr ⟨h, h', rfl, rfl⟩)⟩
theorem sgn_le (s : ByteArray) (k : Nat) (neg : Bool) (j : Nat) (h : Sgn s k neg j) (hk : k ≤ s.size) : j ≤ s.size := by
  rcases h with ⟨a, _, _, e⟩ | ⟨a, _, _, e⟩ | ⟨_, _, _, e⟩ <;> omega
/-- The digits of a run. -/
theorem run_get (s : ByteArray) (k j i : Nat) (hj : j ≤ s.size) (h : i < (s.extract k j).size) : ∃ h' : k + i < s.size, (s.extract k j)[i] = s[k + i] := by
  have hz : (s.extract k j).size = j - k := by rw [ByteArray.size_extract]; omega
  exact ⟨by omega, ByteArray.getElem_extract _⟩
theorem run_good (b : Int) (s : ByteArray) (k j : Nat) (h : Run b s k j) : good b (s.extract k j).data.toList := by
  obtain ⟨h1, h2, h3, _⟩ := h
  refine good_of b _ fun i hi => ?_
  have hz : (s.extract k j).size = j - k := by rw [ByteArray.size_extract]; omega
  obtain ⟨h', e⟩ := run_get s k j i h2 hi
  rw [e, ← bAt_in s (k + i) h']
  exact (h3 (k + i) (by omega) (by omega)).2
theorem ten_digit (c : UInt8) (h : digN 99 (c.toNat : Int) < 10) : 48 ≤ (c.toNat : Int) ∧ (c.toNat : Int) ≤ 57 ∧ digN 99 (c.toNat : Int) = (c.toNat : Int) - 48 := by
  unfold digN at h ⊢
  split at h
  · rename_i h1; rw [if_pos h1]; omega
  · split at h <;> omega
/-- A number, but no more than 100000. -/
def cap (V : Nat) : Nat := min V 100000
theorem cap_step (V d : Nat) : min (cap V * 10 + d) 100000 = cap (V * 10 + d) := by unfold cap; omega
/-- The number that a run's digits tell. -/
def runV (b : Nat) (s : ByteArray) (k j : Nat) : Nat := valN b (s.extract k j).data.toList
def expV (neg : Bool) (V : Nat) : Int := if neg then -(cap V : Int) else (cap V : Int)

/-- The base that the digits are of, and where they begin. -/
def Bas (s : ByteArray) (k : Nat) (b : Nat) (j : Nat) : Prop :=
  (bAt s k = 48 ∧ k + 1 < s.size ∧ bAt s (k + 1) = 120 ∧ b = 16 ∧ j = k + 2) ∨ (¬ (bAt s k = 48 ∧ k + 1 < s.size ∧ bAt s (k + 1) = 120) ∧ b = 10 ∧ j = k)
/-- The words inf and nan. -/
def wordC (nan : Bool) (t : Nat) : Int := if nan then (if t = 0 then 110 else if t = 1 then 97 else 110) else (if t = 0 then 105 else if t = 1 then 110 else 102)
/-- The digits behind a point, if there is one: all digits, the exponent of the last one, and the end; or nothing where digits lack. -/
def Frac (b : Nat) (s : ByteArray) (k j : Nat) (r : Option (ByteArray × Int × Nat)) : Prop :=
  (bAt s j ≠ 46 ∧ r = some (s.extract k j, 0, j)) ∨
  (bAt s j = 46 ∧ ∃ i, Run b s (j + 1) i ∧ ((i = j + 1 ∧ r = none) ∨ (j + 1 < i ∧ r = some (s.extract k j ++ s.extract (j + 1) i, -((i - (j + 1) : Nat) : Int), i))))
/-- An exponent, if there is a mark: what is added and the end; or the place where digits lack. -/
def Expo (m : Int) (s : ByteArray) (j : Nat) (r : Sum (Int × Nat) Nat) : Prop :=
  (bAt s j ≠ m ∧ r = .inl (0, j)) ∨
  (bAt s j = m ∧ ∃ neg k i, Sgn s (j + 1) neg k ∧ Run 10 s k i ∧ ((i = k ∧ r = .inr i) ∨ (k < i ∧ r = .inl (expV neg (runV 10 s k i), i))))
/-- The word that digits and an exponent tell. -/
def flW (neg : Bool) (b : Nat) (ds : ByteArray) (e : Int) : Nat := signBit neg + (if b = 16 then fw false (valN 16 ds.data.toList) e else decW 10 (valN 10 ds.data.toList) e)
def markOf (b : Nat) : Int := if b = 16 then 112 else 101
def expOf (b : Nat) (e : Int) : Int := if b = 16 then 4 * e else e
/-- What is answered: read or not, the place, the float's word. -/
def ReadA (s : ByteArray) (ok : Bool) (pl : Int) (fl : Nat → Prop) : Prop :=
  (1200 < s.size ∧ ok = false ∧ pl = 1200 ∧ fl = (· = 0)) ∨
  (s.size ≤ 1200 ∧ ∃ neg k, Sgn s 0 neg k ∧ (
    (∃ nan, bAt s k = wordC nan 0 ∧ ∃ i, i ≤ 3 ∧ (∀ t, t < i → bAt s (k + t) = wordC nan t) ∧
      ((i < 3 ∧ bAt s (k + i) ≠ wordC nan i ∧ ok = false ∧ pl = ((k + i : Nat) : Int) ∧ fl = (· = 0)) ∨
       (i = 3 ∧ k + 3 < s.size ∧ ok = false ∧ pl = ((k + 3 : Nat) : Int) ∧ fl = (· = 0)) ∨
       (i = 3 ∧ ¬ k + 3 < s.size ∧ ok = true ∧ pl = 0 ∧ fl = (if nan then IsNan else (· = iw neg))))) ∨
    (bAt s k ≠ 105 ∧ bAt s k ≠ 110 ∧ ∃ b k1 j, Bas s k b k1 ∧ Run b s k1 j ∧ (
      (j = k1 ∧ ok = false ∧ pl = (k1 : Int) ∧ fl = (· = 0)) ∨
      (k1 < j ∧ ∃ r, Frac b s k1 j r ∧ (
        (r = none ∧ ok = false ∧ pl = ((j + 1 : Nat) : Int) ∧ fl = (· = 0)) ∨
        (∃ ds e i x, r = some (ds, e, i) ∧ Expo (markOf b) s i x ∧ (
          (∃ a, x = .inr a ∧ ok = false ∧ pl = (a : Int) ∧ fl = (· = 0)) ∨
          (∃ n a, x = .inl (n, a) ∧ (
            (a < s.size ∧ ok = false ∧ pl = (a : Int) ∧ fl = (· = 0)) ∨
            (¬ a < s.size ∧ ok = true ∧ pl = 0 ∧ fl = (· = flW neg b ds (expOf b e + n)))))))))))))
end Go.Proofs.YtoedefjngipeiaaGreatDoor

/- A number written out with a point is read as the float that is nearest to it: plain. -/
namespace Go.Proofs.YtoedefjngipeiaaGreatDoor
open Go.RowKit
open Ieee (double)

/-- A sign ahead of a text. -/
def sgnT (neg : Bool) (t : ByteArray) : ByteArray := if neg then ⟨#[45]⟩ ++ t else t
/-- Digits, a point, digits, behind a sign: what stands where. -/
theorem bAt_append_left (a b : ByteArray) (k : Nat) (h : k < a.size) : bAt (a ++ b) k = bAt a k := by
  rw [bAt_in _ k (by rw [append_size]; omega), bAt_in _ k h, ByteArray.getElem_append_left h]
theorem bAt_append_right (a b : ByteArray) (k : Nat) : bAt (a ++ b) (a.size + k) = bAt b k := by
  by_cases h : k < b.size
  · rw [bAt_in _ _ (by rw [append_size]; omega), bAt_in _ k h, ByteArray.getElem_append_right (by omega)]
    simp
  · rw [bAt_out _ _ (by rw [append_size]; omega), bAt_out _ _ h]
theorem good_bAt (a : ByteArray) (h : good 10 a.data.toList) (k : Nat) (hk : k < a.size) : digN 99 (bAt a k) < 10 ∧ 48 ≤ bAt a k ∧ bAt a k ≤ 57 := by
  have h1 := good_at 10 a h k hk
  rw [bAt_in _ k hk]
  exact ⟨h1, (ten_digit _ h1).1, (ten_digit _ h1).2.1⟩
theorem extract_mid (p a b : ByteArray) : (p ++ a ++ b).extract p.size (p.size + a.size) = a := by
  apply ByteArray.ext
  apply Array.toList_inj.1
  rw [Lib.extract_eq, append_list, append_list]
  simp
theorem fw_sign (s : Bool) (m : Nat) (e : Int) : fw s m e = signBit s + fw false m e := by
  by_cases h : m = 0
  · subst h; rw [fw_zero, fw_zero]; rfl
  · rw [fw_place s m e (by omega), fw_place false m e (by omega)]
    show _ = _ + (0 + _)
    rw [Nat.zero_add]
theorem dec_pointed (V A n : Nat) (e : Int) (h : V * 2 ^ (-e).toNat = A * 2 ^ e.toNat * 10 ^ n) : decW 10 V (-(n : Int)) = fw false A e := by
  unfold decW
  rw [show (-(n : Int)).toNat = 0 by omega, show (-(-(n : Int))).toNat = n by omega, Nat.pow_zero, Nat.mul_one]
  have p2 : ∀ k, 0 < 2 ^ k := fun k => Nat.two_pow_pos k
  have p10 : 0 < 10 ^ n := Nat.pow_pos (by omega)
  by_cases hV : V = 0
  · rw [if_pos hV]
    have hA : A = 0 := by
      rw [hV, Nat.zero_mul] at h
      have h1 := Nat.mul_eq_zero.1 h.symm
      rcases h1 with h1 | h1
      · rcases Nat.mul_eq_zero.1 h1 with h2 | h2
        · exact h2
        · have := p2 e.toNat; omega
      · omega
    rw [hA, fw_zero]; rfl
  · rw [if_neg hV]
    have hA : 0 < A := by
      apply Nat.pos_of_ne_zero
      intro hA
      rw [hA, Nat.zero_mul, Nat.zero_mul] at h
      rcases Nat.mul_eq_zero.1 h with h2 | h2
      · exact hV h2
      · have := p2 (-e).toNat; omega
    rw [ratioW_eq V (10 ^ n) (A * 2 ^ e.toNat) (2 ^ (-e).toNat) (by omega) p10 (Nat.mul_pos hA (p2 _)) (p2 _) h, ratioW_fw A _ _ hA]
    rw [show ((e.toNat : Int) - ((-e).toNat : Int)) = e by omega]
/-- What digits, a point and digits are read as. -/
theorem read_dotted (neg : Bool) (t a b : ByteArray) (ht : t = a ++ dotB ++ b) (ha0 : 0 < a.size) (hb0 : 0 < b.size) (hg : good 10 (a ++ b).data.toList) (hs : (sgnT neg t).size ≤ 1200) (ok : Bool) (pl : Int) (fl : Nat → Prop) (hr : ReadA (sgnT neg t) ok pl fl) :
    ok = true ∧ pl = 0 ∧ fl = (· = signBit neg + decW 10 (valN 10 (a ++ b).data.toList) (-(b.size : Int))) := by
  obtain ⟨p, hp, hsg⟩ : ∃ p : ByteArray, sgnT neg t = p ++ a ++ (dotB ++ b) ∧ ((neg = true ∧ p = ⟨#[45]⟩) ∨ (neg = false ∧ p = ByteArray.empty)) := by
    cases neg
    · refine ⟨ByteArray.empty, ?_, .inr ⟨rfl, rfl⟩⟩
      show t = _
      rw [ht]; simp [ByteArray.append_assoc]
    · refine ⟨⟨#[45]⟩, ?_, .inl ⟨rfl, rfl⟩⟩
      show (⟨#[45]⟩ : ByteArray) ++ t = _
      rw [ht]; simp only [ByteArray.append_assoc]
  rw [hp] at hs hr
  have hga : good 10 a.data.toList := fun c hc => hg c (by rw [append_list]; exact List.mem_append_left _ hc)
  have hgb : good 10 b.data.toList := fun c hc => hg c (by rw [append_list]; exact List.mem_append_right _ hc)
  have hsz : (p ++ a ++ (dotB ++ b)).size = p.size + a.size + (1 + b.size) := by simp only [append_size]; rfl
  have f2 : ∀ i, i < a.size → bAt (p ++ a ++ (dotB ++ b)) (p.size + i) = bAt a i := fun i hi => by
    rw [bAt_append_left _ _ _ (by rw [append_size]; omega), bAt_append_right]
  have f3 : bAt (p ++ a ++ (dotB ++ b)) (p.size + a.size) = 46 := by
    have := bAt_append_right (p ++ a) (dotB ++ b) 0
    rw [append_size, Nat.add_zero] at this
    rw [this, bAt_append_left _ _ _ (by decide)]; rfl
  have f4 : ∀ i, bAt (p ++ a ++ (dotB ++ b)) (p.size + a.size + 1 + i) = bAt b i := fun i => by
    have h1 := bAt_append_right (p ++ a) (dotB ++ b) (1 + i)
    rw [append_size] at h1
    have h2 := bAt_append_right dotB b i
    rw [show dotB.size = 1 from rfl] at h2
    rw [Nat.add_assoc, h1, h2]
  have e1 : (p ++ a ++ (dotB ++ b)).extract p.size (p.size + a.size) = a := extract_mid p a (dotB ++ b)
  have e2 : (p ++ a ++ (dotB ++ b)).extract (p.size + a.size + 1) (p.size + a.size + 1 + b.size) = b := by
    have := extract_mid (p ++ a ++ dotB) b ByteArray.empty
    simp only [append_size, ByteArray.append_empty, show dotB.size = 1 from rfl] at this
    rw [← ByteArray.append_assoc]
    exact this
  have f1 : neg = true → bAt (p ++ a ++ (dotB ++ b)) 0 = 45 := by
    intro hn
    rcases hsg with ⟨_, rfl⟩ | ⟨h', _⟩
    · rw [bAt_append_left _ _ _ (by rw [append_size]; have : (⟨#[45]⟩ : ByteArray).size = 1 := rfl; omega), bAt_append_left _ _ _ (by decide)]; rfl
    · rw [hn] at h'; cases h'
  have hps : p.size = if neg then 1 else 0 := by
    rcases hsg with ⟨rfl, rfl⟩ | ⟨rfl, rfl⟩ <;> rfl
  generalize p ++ a ++ (dotB ++ b) = s at *
  generalize p.size = c at *
  have g2 : ∀ i, i < a.size → 48 ≤ bAt s (c + i) ∧ bAt s (c + i) ≤ 57 ∧ Dig 10 s (c + i) := fun i hi => by
    obtain ⟨d1, d2, d3⟩ := good_bAt a hga i hi
    rw [f2 i hi]
    exact ⟨d2, d3, by omega, by rw [f2 i hi]; exact d1⟩
  have r1 : Run 10 s c (c + a.size) := ⟨by omega, by omega, fun i h1 h2 => by
    obtain ⟨j, rfl⟩ : ∃ j, i = c + j := ⟨i - c, by omega⟩
    exact (g2 j (by omega)).2.2, fun hd => by have := hd.2; rw [f3] at this; revert this; decide⟩
  have r2 : Run 10 s (c + a.size + 1) (c + a.size + 1 + b.size) := ⟨by omega, by omega, fun i h1 h2 => by
    obtain ⟨j, rfl⟩ : ∃ j, i = c + a.size + 1 + j := ⟨i - (c + a.size + 1), by omega⟩
    obtain ⟨d1, _, _⟩ := good_bAt b hgb j (by omega)
    exact ⟨by omega, by rw [f4]; exact d1⟩, fun hd => by have := hd.1; omega⟩
  have fend : bAt s (c + a.size + 1 + b.size) = 0 := bAt_out _ _ (by omega)
  obtain ⟨q1, q2, _⟩ := g2 0 ha0
  rw [Nat.add_zero] at q1 q2
  rcases hr with ⟨h, _⟩ | ⟨_, neg', k, hsgn, hr⟩
  · omega
  · have hk : neg' = neg ∧ k = c := by
      cases neg
      · rw [if_neg (by decide)] at hps
        subst hps
        rcases hsgn with ⟨_, h, _⟩ | ⟨_, h, _⟩ | ⟨_, _, h1, h2⟩
        · omega
        · omega
        · exact ⟨h1, h2⟩
      · rw [if_pos rfl] at hps
        have := f1 rfl
        rcases hsgn with ⟨_, _, h1, h2⟩ | ⟨_, h, _⟩ | ⟨h, _⟩
        · exact ⟨h1, by omega⟩
        · omega
        · exact absurd this h
    obtain ⟨rfl, rfl⟩ := hk
    rcases hr with ⟨nan, h, _⟩ | ⟨_, _, b', k1, j, hbas, hrun, hr⟩
    · exfalso
      cases nan <;> simp [wordC] at h <;> omega
    · have hb' : b' = 10 ∧ k1 = k := by
        rcases hbas with ⟨_, _, h, _⟩ | ⟨_, h1, h2⟩
        · exfalso
          by_cases h1 : 1 < a.size
          · have := g2 1 h1; omega
          · rw [show k + 1 = k + a.size by omega, f3] at h
            omega
        · exact ⟨h1, h2⟩
      obtain ⟨rfl, rfl⟩ := hb'
      have hj := run_one 10 s k1 j _ hrun r1
      subst hj
      rcases hr with ⟨h, _⟩ | ⟨_, r, hf, hr⟩
      · omega
      · have hr' : r = some (a ++ b, -(b.size : Int), k1 + a.size + 1 + b.size) := by
          rcases hf with ⟨h, _⟩ | ⟨_, i, hi, h⟩
          · exact absurd f3 h
          · have := run_one 10 s _ i _ hi r2
            subst this
            rcases h with ⟨h, _⟩ | ⟨_, h⟩
            · omega
            · rw [h, e1, e2, show k1 + a.size + 1 + b.size - (k1 + a.size + 1) = b.size by omega]
        subst hr'
        rcases hr with ⟨h, _⟩ | ⟨ds, e', i, x, hsome, hx, hr⟩
        · cases h
        · cases hsome
          have hx' : x = .inl (0, k1 + a.size + 1 + b.size) := by
            rcases hx with ⟨_, h⟩ | ⟨h, _⟩
            · exact h
            · rw [fend] at h; exact absurd h (by decide)
          subst hx'
          rcases hr with ⟨_, h, _⟩ | ⟨n, a', hin, hr⟩
          · cases h
          · cases hin
            rcases hr with ⟨h, _⟩ | ⟨_, h1, h2, h3⟩
            · omega
            · refine ⟨h1, h2, ?_⟩
              rw [h3]
              have : flW neg' 10 (a ++ b) (expOf 10 (-(b.size : Int)) + 0) = signBit neg' + decW 10 (valN 10 (a ++ b).data.toList) (-(b.size : Int)) := by
                unfold flW expOf
                rw [if_neg (by decide), if_neg (by decide), Int.add_zero]
              rw [this]
/-- What a number that is written out is read as. -/
theorem read_pointed (neg : Bool) (t : ByteArray) (A : Nat) (e : Int) (h : Pointed t A e) (hs : (sgnT neg t).size ≤ 1200) (ok : Bool) (pl : Int) (fl : Nat → Prop) (hr : ReadA (sgnT neg t) ok pl fl) :
    ok = true ∧ pl = 0 ∧ fl = (· = fw neg A e) := by
  obtain ⟨a, b, ht, ha0, hb, hg, hv, _⟩ := h
  have hb0 : 0 < b.size := by rw [hb]; split <;> omega
  obtain ⟨h1, h2, h3⟩ := read_dotted neg t a b ht ha0 hb0 hg hs ok pl fl hr
  refine ⟨h1, h2, ?_⟩
  rw [h3, dec_pointed _ A b.size e hv, ← fw_sign]
end Go.Proofs.YtoedefjngipeiaaGreatDoor

