import Derived.Test.YtaoccjaaopmfdaaGreatDoorB03
import Derived.WalkKit
/- Decimal digits and their float: plain. -/
namespace Go.Proofs.YtaoccjaaopmfdaaGreatDoor
open Ieee (double)

/-- A number that is far too small. -/
theorem fw_low (s : Bool) (m : Nat) (e : Int) (h : e + (m.log2 : Int) ≤ -1076) : fw s m e = signBit s := by
  by_cases h0 : m = 0
  · subst h0; exact fw_zero s e
  · rw [fw_place s m e (by omega)]
    have hlt : m < 2 ^ (m.log2 + 1) := Nat.lt_log2_self
    generalize m.log2 = L at *
    have hl : max (e + (L : Int) - 52) (-1074) = -1074 := by omega
    rw [hl]
    have hk : roundN m (-1074 - e) = 0 := by
      unfold roundN
      rw [if_neg (by omega)]
      obtain ⟨d, hd⟩ : ∃ d : Nat, (-1074 - e).toNat = d + 1 := ⟨(-1074 - e).toNat - 1, by omega⟩
      rw [hd]
      have h2 : m < 2 ^ d := Nat.lt_of_lt_of_le hlt (Nat.pow_le_pow_right (by omega) (by omega))
      have h3 : 2 ^ d ≤ 2 ^ (d + 1) := Nat.pow_le_pow_right (by omega) (by omega)
      unfold keptOf
      rw [Nat.div_eq_of_lt (by omega), Nat.mod_eq_of_lt (show m < 2 ^ (d + 1) by omega), Nat.add_sub_cancel, if_neg (by omega)]
    rw [hk]
    show signBit s + min (0 * 4503599627370496 + 0) 9218868437227405312 = signBit s
    rw [Nat.zero_mul, Nat.zero_add, Nat.zero_min, Nat.add_zero]
theorem log2_ge (m k : Nat) (h0 : 0 < m) (h : 2 ^ k ≤ m) : k ≤ m.log2 := (Nat.le_log2 (by omega)).2 h
theorem log2_le (m k : Nat) (h0 : 0 < m) (h : m < 2 ^ (k + 1)) : m.log2 ≤ k := by have := (Nat.log2_lt (by omega)).2 h; omega
/-- Quotients held against powers of two. -/
theorem div_log (A C k : Nat) (hC : 0 < C) (h : C * 2 ^ k ≤ A) : (k : Int) ≤ (A.log2 : Int) - C.log2 := by
  have h1 : 2 ^ C.log2 ≤ C := Nat.log2_self_le (by omega)
  have h2 : 2 ^ C.log2 * 2 ^ k ≤ C * 2 ^ k := Nat.mul_le_mul_right _ h1
  rw [← Nat.pow_add] at h2
  have h3 : 0 < A := Nat.lt_of_lt_of_le (Nat.mul_pos hC (Nat.two_pow_pos k)) h
  have := log2_ge A (C.log2 + k) h3 (Nat.le_trans h2 h)
  omega
/-- A quotient from 2^1024 on is an infinity. -/
theorem ratio_over (A C k : Nat) (hC : 0 < C) (hk : 1025 ≤ k) (h : C * 2 ^ k ≤ A) : ratioW A C = iw false := by
  have hA : 0 < A := Nat.lt_of_lt_of_le (Nat.mul_pos hC (Nat.two_pow_pos k)) h
  have hd := div_log A C k hC h
  have hl := ratio_long A C (-((A.log2 : Int) - C.log2 - 63)).toNat ((A.log2 : Int) - C.log2 - 63).toNat hA hC (by omega)
  -- its quotient has at least 62 digits
  have hq : 2 ^ 62 ≤ A * 2 ^ (-((A.log2 : Int) - C.log2 - 63)).toNat / (C * 2 ^ ((A.log2 : Int) - C.log2 - 63).toNat) := by
    rw [Nat.le_div_iff_mul_le (Nat.mul_pos hC (Nat.two_pow_pos _))]
    have h1 : 2 ^ A.log2 ≤ A := Nat.log2_self_le (by omega)
    have h2 : C < 2 ^ (C.log2 + 1) := Nat.lt_log2_self
    generalize A.log2 = x at *
    generalize C.log2 = y at *
    rw [show (-((x : Int) - y - 63)).toNat = 0 by omega, Nat.pow_zero, Nat.mul_one]
    have h4 : C * 2 ^ ((x : Int) - y - 63).toNat ≤ 2 ^ (y + 1) * 2 ^ ((x : Int) - y - 63).toNat := Nat.mul_le_mul_right _ (Nat.le_of_lt h2)
    have h5 := Nat.mul_le_mul_left (2 ^ 62) h4
    rw [← Nat.pow_add, ← Nat.pow_add, show 62 + (y + 1 + ((x : Int) - y - 63).toNat) = x by omega] at h5
    exact Nat.le_trans h5 h1
  unfold ratioW ratioAt
  generalize A * 2 ^ (-((A.log2 : Int) - C.log2 - 63)).toNat / (C * 2 ^ ((A.log2 : Int) - C.log2 - 63).toNat) = q at *
  generalize A * 2 ^ (-((A.log2 : Int) - C.log2 - 63)).toNat % (C * 2 ^ ((A.log2 : Int) - C.log2 - 63).toNat) = r at *
  have hq62 := log2_ge q 62 (by omega) hq
  split
  · exact fw_over false q _ _ (by omega) rfl (by omega)
  · have h63 : 2 ^ 63 ≤ 2 * q + 1 := by
      have : (2 : Nat) ^ 63 = 2 * 2 ^ 62 := by decide
      omega
    have := log2_ge (2 * q + 1) 63 (by omega) h63
    exact fw_over false (2 * q + 1) _ _ (by omega) rfl (by omega)
/-- A quotient below 2^-1080 is a zero. -/
theorem ratio_under (A C k : Nat) (hA : 0 < A) (hk : 1080 ≤ k) (h : A * 2 ^ k ≤ C) : ratioW A C = 0 := by
  have hC : 0 < C := Nat.lt_of_lt_of_le (Nat.mul_pos hA (Nat.two_pow_pos k)) h
  have hd := div_log C A k hA h
  have hq : A * 2 ^ (-((A.log2 : Int) - C.log2 - 63)).toNat / (C * 2 ^ ((A.log2 : Int) - C.log2 - 63).toNat) < 2 ^ 64 := by
    rw [Nat.div_lt_iff_lt_mul (Nat.mul_pos hC (Nat.two_pow_pos _))]
    have h1 : 2 ^ C.log2 ≤ C := Nat.log2_self_le (by omega)
    have h2 : A < 2 ^ (A.log2 + 1) := Nat.lt_log2_self
    generalize A.log2 = x at *
    generalize C.log2 = y at *
    rw [show ((x : Int) - y - 63).toNat = 0 by omega, Nat.pow_zero, Nat.mul_one]
    have h4 : A * 2 ^ (-((x : Int) - y - 63)).toNat < 2 ^ (x + 1) * 2 ^ (-((x : Int) - y - 63)).toNat := Nat.mul_lt_mul_of_pos_right h2 (Nat.two_pow_pos _)
    rw [← Nat.pow_add, show x + 1 + (-((x : Int) - y - 63)).toNat = 64 + y by omega, Nat.pow_add] at h4
    exact Nat.lt_of_lt_of_le h4 (Nat.mul_le_mul_left _ h1)
  unfold ratioW ratioAt
  generalize A * 2 ^ (-((A.log2 : Int) - C.log2 - 63)).toNat / (C * 2 ^ ((A.log2 : Int) - C.log2 - 63).toNat) = q at *
  generalize A * 2 ^ (-((A.log2 : Int) - C.log2 - 63)).toNat % (C * 2 ^ ((A.log2 : Int) - C.log2 - 63).toNat) = r at *
  have e64 : (2 : Nat) ^ 64 = 18446744073709551616 := rfl
  have e65 : (2 : Nat) ^ (64 + 1) = 36893488147419103232 := rfl
  split
  · by_cases h0 : q = 0
    · subst h0; exact fw_zero false _
    · have := log2_le q 64 (by omega) (by omega)
      exact fw_low false q _ (by omega)
  · have := log2_le (2 * q + 1) 64 (by omega) (by omega)
    exact fw_low false (2 * q + 1) _ (by omega)
/-- The float nearest to V times b to the e. -/
def decW (b V : Nat) (e : Int) : Nat := if V = 0 then 0 else ratioW (V * b ^ e.toNat) (b ^ (-e).toNat)
theorem ten_lo (n : Nat) : 2 ^ (3 * n) ≤ 10 ^ n := by rw [Nat.pow_mul]; exact Nat.pow_le_pow_left (by omega) n
theorem ten_hi (n : Nat) : 10 ^ n ≤ 2 ^ (4 * n) := by rw [Nat.pow_mul]; exact Nat.pow_le_pow_left (by omega) n
/-- Far up. -/
theorem dec_over (V : Nat) (e : Int) (len : Nat) (hV : 10 ^ (len - 1) ≤ V) (hl : 1 ≤ len) (h : (len : Int) + e > 400) : decW 10 V e = iw false := by
  have h0 : 0 < V := Nat.lt_of_lt_of_le (Nat.pow_pos (by omega)) hV
  unfold decW
  rw [if_neg (by omega)]
  obtain ⟨k, hk⟩ : ∃ k : Nat, (k : Int) = (len : Int) + e - 1 := ⟨((len : Int) + e - 1).toNat, by omega⟩
  refine ratio_over _ _ (3 * k) (Nat.pow_pos (by omega)) (by omega) ?_
  have h1 : 10 ^ (-e).toNat * 2 ^ (3 * k) ≤ 10 ^ (-e).toNat * 10 ^ k := Nat.mul_le_mul_left _ (ten_lo k)
  have h2 : 10 ^ (len - 1) * 10 ^ e.toNat ≤ V * 10 ^ e.toNat := Nat.mul_le_mul_right _ hV
  rw [← Nat.pow_add] at h1 h2
  rw [show (-e).toNat + k = len - 1 + e.toNat by omega] at h1
  exact Nat.le_trans h1 h2
/-- Far down. -/
theorem dec_under (V : Nat) (e : Int) (len : Nat) (h0 : 0 < V) (hV : V < 10 ^ len) (h : (len : Int) + e < -400) : decW 10 V e = 0 := by
  unfold decW
  rw [if_neg (by omega)]
  obtain ⟨k, hk⟩ : ∃ k : Nat, (k : Int) = -e - (len : Int) := ⟨(-e - (len : Int)).toNat, by omega⟩
  have h1 : V * 10 ^ e.toNat = V := by rw [show e.toNat = 0 by omega, Nat.pow_zero, Nat.mul_one]
  rw [h1]
  refine ratio_under _ _ (3 * k) h0 (by omega) ?_
  have h2 : V * 2 ^ (3 * k) ≤ 10 ^ len * 10 ^ k := Nat.mul_le_mul (Nat.le_of_lt hV) (ten_lo k)
  rw [← Nat.pow_add, show len + k = (-e).toNat by omega] at h2
  exact h2
/-- Within. -/
theorem dec_within (V : Nat) (e : Int) (len : Nat) (hV : 10 ^ (len - 1) ≤ V) (hV' : V < 10 ^ len) (hl : 1 ≤ len) (h1 : (len : Int) + e ≤ 400) (h2 : -400 ≤ (len : Int) + e) :
    ((V * 10 ^ e.toNat).log2 : Int) - (10 ^ (-e).toNat).log2 ≤ 1900 ∧ -1900 ≤ ((V * 10 ^ e.toNat).log2 : Int) - (10 ^ (-e).toNat).log2 := by
  have h0 : 0 < V := Nat.lt_of_lt_of_le (Nat.pow_pos (by omega)) hV
  have hA : 0 < V * 10 ^ e.toNat := Nat.mul_pos h0 (Nat.pow_pos (by omega))
  have hC : 0 < 10 ^ (-e).toNat := Nat.pow_pos (by omega)
  constructor
  · obtain ⟨k, hk⟩ : ∃ k : Nat, k = 401 := ⟨_, rfl⟩
    have a1 : V * 10 ^ e.toNat ≤ 10 ^ len * 10 ^ e.toNat := Nat.mul_le_mul_right _ (Nat.le_of_lt hV')
    rw [← Nat.pow_add] at a1
    have a2 : 10 ^ (len + e.toNat) ≤ 10 ^ ((-e).toNat + k) := Nat.pow_le_pow_right (by omega) (by omega)
    rw [Nat.pow_add 10 (-e).toNat k] at a2
    have a3 : 10 ^ (-e).toNat * 10 ^ k ≤ 10 ^ (-e).toNat * 2 ^ (4 * k) := Nat.mul_le_mul_left _ (ten_hi k)
    have a4 : V * 10 ^ e.toNat ≤ 10 ^ (-e).toNat * 2 ^ (4 * k) := Nat.le_trans a1 (Nat.le_trans a2 a3)
    have b1 : 10 ^ (-e).toNat < 2 ^ ((10 ^ (-e).toNat).log2 + 1) := Nat.lt_log2_self
    generalize 10 ^ (-e).toNat = C at *
    have b2 : C * 2 ^ (4 * k) < 2 ^ (C.log2 + 1) * 2 ^ (4 * k) := Nat.mul_lt_mul_of_pos_right b1 (Nat.two_pow_pos _)
    rw [← Nat.pow_add] at b2
    have := log2_le (V * 10 ^ e.toNat) (C.log2 + 4 * k) hA (by rw [show C.log2 + 4 * k + 1 = C.log2 + 1 + 4 * k by omega]; exact Nat.lt_of_le_of_lt a4 b2)
    omega
  · obtain ⟨k, hk⟩ : ∃ k : Nat, k = 401 := ⟨_, rfl⟩
    have a1 : 10 ^ (len - 1) * 10 ^ e.toNat ≤ V * 10 ^ e.toNat := Nat.mul_le_mul_right _ hV
    have a2 : 10 ^ (-e).toNat ≤ 10 ^ (len - 1 + e.toNat + k) := Nat.pow_le_pow_right (by omega) (by omega)
    rw [Nat.pow_add, Nat.pow_add] at a2
    have a3 : 10 ^ (len - 1) * 10 ^ e.toNat * 10 ^ k ≤ V * 10 ^ e.toNat * 2 ^ (4 * k) := Nat.mul_le_mul a1 (ten_hi k)
    have a4 : 10 ^ (-e).toNat ≤ V * 10 ^ e.toNat * 2 ^ (4 * k) := Nat.le_trans a2 a3
    generalize V * 10 ^ e.toNat = A at *
    generalize 10 ^ (-e).toNat = C at *
    have b1 : A < 2 ^ (A.log2 + 1) := Nat.lt_log2_self
    have b2 : A * 2 ^ (4 * k) < 2 ^ (A.log2 + 1) * 2 ^ (4 * k) := Nat.mul_lt_mul_of_pos_right b1 (Nat.two_pow_pos _)
    rw [← Nat.pow_add] at b2
    have := log2_le C (A.log2 + 4 * k) hC (by rw [show A.log2 + 4 * k + 1 = A.log2 + 1 + 4 * k by omega]; exact Nat.lt_of_le_of_lt a4 b2)
    omega
end Go.Proofs.YtaoccjaaopmfdaaGreatDoor

/- Beside the midst between two floats, and in it: plain. -/
namespace Go.Proofs.YtaoccjaaopmfdaaGreatDoor
open Ieee (double)

/-- A number between a float and the next one: its word, by what is left behind the float's own digits. -/
theorem fw_beside (m M d : Nat) (e p : Int) (hc : Canon m p) (hp : p = e + d) (hd : 1 ≤ d) (h0 : 0 < M) (h1 : m * 2 ^ d ≤ M) (h2 : M < (m + 1) * 2 ^ d) : fw false M e = rung m p + (keptOf M d - m) ∧ m ≤ keptOf M d ∧ keptOf M d ≤ m + 1 := by
  have hpd : 0 < 2 ^ d := Nat.two_pow_pos d
  have hdiv : M / 2 ^ d = m := by
    have a : m ≤ M / 2 ^ d := (Nat.le_div_iff_mul_le hpd).2 h1
    have b : M / 2 ^ d < m + 1 := (Nat.div_lt_iff_lt_mul hpd).2 h2
    omega
  have hk : m ≤ keptOf M d ∧ keptOf M d ≤ m + 1 := by
    unfold keptOf
    rw [hdiv]
    split <;> omega
  have hm2 : m < 9007199254740992 := by rcases hc with h | h <;> omega
  have hpl : -1074 ≤ p := by rcases hc with h | h <;> omega
  have hM2 : M < 2 ^ (53 + d) := by
    rw [Nat.pow_add]
    have : (m + 1) * 2 ^ d ≤ 2 ^ 53 * 2 ^ d := Nat.mul_le_mul_right _ (by omega)
    omega
  have hl : max (e + (M.log2 : Int) - 52) (-1074) = p := by
    rcases hc with ⟨a, b, c, _⟩ | ⟨a, b⟩
    · have hlo : 2 ^ (52 + d) ≤ M := by
        rw [Nat.pow_add]
        have : 2 ^ 52 * 2 ^ d ≤ m * 2 ^ d := Nat.mul_le_mul_right _ (by omega)
        omega
      have l1 := log2_ge M (52 + d) h0 hlo
      have l2 := log2_le M (52 + d) h0 (by rw [show 52 + d + 1 = 53 + d by omega]; exact hM2)
      omega
    · have hhi : M < 2 ^ (52 + d) := by
        rw [Nat.pow_add]
        have : (m + 1) * 2 ^ d ≤ 2 ^ 52 * 2 ^ d := Nat.mul_le_mul_right _ (by omega)
        omega
      have l2 := log2_le M (51 + d) h0 (by rw [show 51 + d + 1 = 52 + d by omega]; exact hhi)
      omega
  have hrl := rung_lt m p hc
  refine ⟨?_, hk⟩
  rw [fw_place false M e h0, hl]
  have hr : roundN M (p - e) = keptOf M d := by
    unfold roundN
    rw [if_neg (by omega), show (p - e).toNat = d by omega]
  rw [hr]
  unfold rung at hrl ⊢
  show 0 + min ((p + 1074).toNat * 4503599627370496 + keptOf M d) 9218868437227405312 = _
  rw [Nat.zero_add, Nat.min_eq_left (by omega)]
  omega
theorem kept_below (m M d : Nat) (hd : 1 ≤ d) (h1 : m * 2 ^ d ≤ M) (h2 : M < m * 2 ^ d + 2 ^ (d - 1)) : keptOf M d = m := by
  have hpd : 2 ^ d = 2 * 2 ^ (d - 1) := by rw [← Nat.pow_succ', show (d - 1).succ = d by omega]
  obtain ⟨r, rfl⟩ : ∃ r, M = m * 2 ^ d + r := ⟨M - m * 2 ^ d, by omega⟩
  have hr : r < 2 ^ d := by omega
  have e1 : (m * 2 ^ d + r) / 2 ^ d = m := by rw [Nat.mul_comm, Nat.mul_add_div (Nat.two_pow_pos d), Nat.div_eq_of_lt hr, Nat.add_zero]
  have e2 : (m * 2 ^ d + r) % 2 ^ d = r := by rw [Nat.mul_comm, Nat.mul_add_mod, Nat.mod_eq_of_lt hr]
  unfold keptOf
  rw [e1, e2, if_neg (by omega)]
theorem kept_mid (m d : Nat) (hd : 1 ≤ d) : keptOf (m * 2 ^ d + 2 ^ (d - 1)) d = m + m % 2 := by
  have hpd : 2 ^ d = 2 * 2 ^ (d - 1) := by rw [← Nat.pow_succ', show (d - 1).succ = d by omega]
  have hp1 : 0 < 2 ^ (d - 1) := Nat.two_pow_pos _
  have hr : 2 ^ (d - 1) < 2 ^ d := by omega
  have e1 : (m * 2 ^ d + 2 ^ (d - 1)) / 2 ^ d = m := by rw [Nat.mul_comm, Nat.mul_add_div (Nat.two_pow_pos d), Nat.div_eq_of_lt hr, Nat.add_zero]
  have e2 : (m * 2 ^ d + 2 ^ (d - 1)) % 2 ^ d = 2 ^ (d - 1) := by rw [Nat.mul_comm, Nat.mul_add_mod, Nat.mod_eq_of_lt hr]
  unfold keptOf
  rw [e1, e2]
  by_cases h : m % 2 = 1
  · rw [if_pos (.inr ⟨rfl, h⟩)]; omega
  · rw [if_neg (by omega)]; omega
theorem kept_above (m M d : Nat) (h1 : m * 2 ^ d + 2 ^ (d - 1) < M) (h2 : M < (m + 1) * 2 ^ d) : keptOf M d = m + 1 := by
  have hp1 : 0 < 2 ^ (d - 1) := Nat.two_pow_pos _
  obtain ⟨r, rfl⟩ : ∃ r, M = m * 2 ^ d + r := ⟨M - m * 2 ^ d, by omega⟩
  rw [Nat.add_mul, Nat.one_mul] at h2
  have hr : r < 2 ^ d := by omega
  have e1 : (m * 2 ^ d + r) / 2 ^ d = m := by rw [Nat.mul_comm, Nat.mul_add_div (Nat.two_pow_pos d), Nat.div_eq_of_lt hr, Nat.add_zero]
  have e2 : (m * 2 ^ d + r) % 2 ^ d = r := by rw [Nat.mul_comm, Nat.mul_add_mod, Nat.mod_eq_of_lt hr]
  unfold keptOf
  rw [e1, e2, if_pos (.inl (by omega))]
/-- The midst itself: to the even one. -/
theorem fw_midst (m : Nat) (p : Int) (hc : Canon m p) : fw false (2 * m + 1) (p - 1) = rung m p + m % 2 := by
  have hk := kept_mid m 1 (by omega)
  rw [show m * 2 ^ 1 + 2 ^ (1 - 1) = 2 * m + 1 by rw [Nat.pow_one]; show m * 2 + 1 = _; omega] at hk
  obtain ⟨h, _⟩ := fw_beside m (2 * m + 1) 1 (p - 1) p hc (by omega) (by omega) (by omega) (by rw [Nat.pow_one]; omega) (by rw [Nat.pow_one]; omega)
  rw [h, hk]
  omega
/-- A quotient, made long enough: its whole part Q at the place -K, and whether something is left. -/
theorem ratio_long_at (A C K : Nat) (hA : 0 < A) (hC : 0 < C) (h : 9007199254740992 ≤ A * 2 ^ K / C) : ratioW A C = if A * 2 ^ K % C = 0 then fw false (A * 2 ^ K / C) (-(K : Int)) else fw false (2 * (A * 2 ^ K / C) + 1) (-(K : Int) - 1) := by
  have := ratioW_at A C K 0 hA hC (by rw [Nat.pow_zero, Nat.mul_one]; exact h)
  rw [← this]
  unfold ratioAt
  rw [Nat.pow_zero, Nat.mul_one, show ((0 : Nat) : Int) - (K : Int) = -(K : Int) by omega]
/-- A quotient a little above the midst: the next float. m at the place p = g - v, the quotient A / C: (2m + 1) 2^g C < A 2^(v+1), and not beyond the next float. -/
theorem ratio_above (A C m g v : Nat) (p : Int) (hc : Canon m p) (hp : p = (g : Int) - v) (hA : 0 < A) (hC : 0 < C) (h1 : (2 * m + 1) * 2 ^ g * C < A * 2 ^ (v + 1)) (h2 : A * 2 ^ v < (m + 1) * 2 ^ g * C) : ratioW A C = rung m p + 1 := by
  -- the place: far enough down
  obtain ⟨K, hK1, hK2, hK3⟩ : ∃ K, v + 1 ≤ K ∧ 9007199254740992 ≤ A * 2 ^ K / C ∧ v + 1 + g ≤ K + g := by
    refine ⟨v + 1 + (53 + C), by omega, ?_, by omega⟩
    have a1 : C ≤ 2 ^ C := Nat.le_of_lt Nat.lt_two_pow_self
    have a2 : C * 2 ^ 53 ≤ A * 2 ^ (v + 1 + (53 + C)) := by
      have b1 : C * 2 ^ 53 ≤ 2 ^ C * 2 ^ 53 := Nat.mul_le_mul_right _ a1
      have b2 : 2 ^ C * 2 ^ 53 ≤ 2 ^ (v + 1 + (53 + C)) := by rw [← Nat.pow_add]; exact Nat.pow_le_pow_right (by omega) (by omega)
      have b3 : 1 * 2 ^ (v + 1 + (53 + C)) ≤ A * 2 ^ (v + 1 + (53 + C)) := Nat.mul_le_mul_right _ hA
      rw [Nat.one_mul] at b3
      exact Nat.le_trans (Nat.le_trans b1 b2) b3
    rw [show (9007199254740992 : Nat) = 2 ^ 53 from rfl, Nat.le_div_iff_mul_le hC, Nat.mul_comm]
    exact a2
  obtain ⟨d', hd'⟩ : ∃ d', K = v + 1 + d' := ⟨K - (v + 1), by omega⟩
  -- the digits behind the float's own: d = K - v + g
  have hQlo : (m * 2 ^ (g + d' + 1) + 2 ^ (g + d')) ≤ A * 2 ^ K / C := by
    rw [Nat.le_div_iff_mul_le hC]
    have e : (m * 2 ^ (g + d' + 1) + 2 ^ (g + d')) * C = ((2 * m + 1) * 2 ^ g * C) * 2 ^ d' := by
      rw [Nat.pow_succ, Nat.pow_add]
      have : m * (2 ^ g * 2 ^ d' * 2) + 2 ^ g * 2 ^ d' = (2 * m + 1) * (2 ^ g * 2 ^ d') := by
        rw [Nat.add_mul, Nat.one_mul, Nat.mul_comm (2 ^ g * 2 ^ d') 2, ← Nat.mul_assoc, Nat.mul_comm m 2]
      rw [this, ← Nat.mul_assoc, Nat.mul_right_comm]
    have e2 : A * 2 ^ K = A * 2 ^ (v + 1) * 2 ^ d' := by rw [hd', Nat.pow_add, Nat.mul_assoc]
    rw [e, e2]
    exact Nat.mul_le_mul_right _ (Nat.le_of_lt h1)
  have hQhi : A * 2 ^ K / C < (m + 1) * 2 ^ (g + d' + 1) := by
    rw [Nat.div_lt_iff_lt_mul hC]
    have e : (m + 1) * 2 ^ (g + d' + 1) * C = ((m + 1) * 2 ^ g * C) * 2 ^ (d' + 1) := by
      rw [show g + d' + 1 = g + (d' + 1) by omega, Nat.pow_add, ← Nat.mul_assoc, Nat.mul_right_comm]
    have e2 : A * 2 ^ K = A * 2 ^ v * 2 ^ (d' + 1) := by rw [hd', show v + 1 + d' = v + (d' + 1) by omega, Nat.pow_add, Nat.mul_assoc]
    rw [e, e2]
    exact Nat.mul_lt_mul_of_pos_right h2 (Nat.two_pow_pos _)
  have hp53 : 0 < 2 ^ (g + d') := Nat.two_pow_pos _
  rw [ratio_long_at A C K hA hC hK2]
  split
  · rename_i hrest
    have hne : A * 2 ^ K / C ≠ m * 2 ^ (g + d' + 1) + 2 ^ (g + d') := by
      intro he
      have hmul : A * 2 ^ K = (m * 2 ^ (g + d' + 1) + 2 ^ (g + d')) * C := by
        rw [← he]
        exact (Nat.div_mul_cancel (Nat.dvd_of_mod_eq_zero hrest)).symm
      have e : (m * 2 ^ (g + d' + 1) + 2 ^ (g + d')) * C = ((2 * m + 1) * 2 ^ g * C) * 2 ^ d' := by
        rw [Nat.pow_succ, Nat.pow_add]
        have : m * (2 ^ g * 2 ^ d' * 2) + 2 ^ g * 2 ^ d' = (2 * m + 1) * (2 ^ g * 2 ^ d') := by
          rw [Nat.add_mul, Nat.one_mul, Nat.mul_comm (2 ^ g * 2 ^ d') 2, ← Nat.mul_assoc, Nat.mul_comm m 2]
        rw [this, ← Nat.mul_assoc, Nat.mul_right_comm]
      have e2 : A * 2 ^ K = A * 2 ^ (v + 1) * 2 ^ d' := by rw [hd', Nat.pow_add, Nat.mul_assoc]
      rw [e, e2] at hmul
      have := Nat.eq_of_mul_eq_mul_right (Nat.two_pow_pos d') hmul
      omega
    obtain ⟨hb, _, _⟩ := fw_beside m (A * 2 ^ K / C) (g + d' + 1) (-(K : Int)) p hc (by omega) (by omega) (by omega) (by omega) hQhi
    rw [hb, kept_above m _ (g + d' + 1) (by rw [Nat.add_sub_cancel]; omega) hQhi]
    omega
  · obtain ⟨Q, hQ⟩ : ∃ Q, Q = A * 2 ^ K / C := ⟨_, rfl⟩
    rw [← hQ] at hQlo hQhi hK2 ⊢
    have hpp : 2 ^ (g + d' + 2) = 2 * 2 ^ (g + d' + 1) := by rw [← Nat.pow_succ']
    have hpq : 2 ^ (g + d' + 1) = 2 * 2 ^ (g + d') := by rw [← Nat.pow_succ']
    have e1 : m * 2 ^ (g + d' + 2) = 2 * (m * 2 ^ (g + d' + 1)) := by rw [hpp, Nat.mul_left_comm]
    have e2 : (m + 1) * 2 ^ (g + d' + 2) = 2 * ((m + 1) * 2 ^ (g + d' + 1)) := by rw [hpp, Nat.mul_left_comm]
    have u1 : 2 * Q + 1 < (m + 1) * 2 ^ (g + d' + 2) := by omega
    obtain ⟨hb, _, _⟩ := fw_beside m (2 * Q + 1) (g + d' + 2) (-(K : Int) - 1) p hc (by omega) (by omega) (by omega) (by omega) u1
    rw [hb, kept_above m _ (g + d' + 2) (by rw [show g + d' + 2 - 1 = g + d' + 1 by omega]; omega) u1]
    omega
/-- A quotient a little below the midst, and not below the float: the float itself. -/
theorem ratio_below (A C m g v : Nat) (p : Int) (hc : Canon m p) (hp : p = (g : Int) - v) (hA : 0 < A) (hC : 0 < C) (h1 : m * 2 ^ g * C ≤ A * 2 ^ v) (h2 : A * 2 ^ (v + 1) < (2 * m + 1) * 2 ^ g * C) : ratioW A C = rung m p := by
  obtain ⟨K, hK1, hK2⟩ : ∃ K, v + 1 ≤ K ∧ 9007199254740992 ≤ A * 2 ^ K / C := by
    refine ⟨v + 1 + (53 + C), by omega, ?_⟩
    have a1 : C ≤ 2 ^ C := Nat.le_of_lt Nat.lt_two_pow_self
    have a2 : C * 2 ^ 53 ≤ A * 2 ^ (v + 1 + (53 + C)) := by
      have b1 : C * 2 ^ 53 ≤ 2 ^ C * 2 ^ 53 := Nat.mul_le_mul_right _ a1
      have b2 : 2 ^ C * 2 ^ 53 ≤ 2 ^ (v + 1 + (53 + C)) := by rw [← Nat.pow_add]; exact Nat.pow_le_pow_right (by omega) (by omega)
      have b3 : 1 * 2 ^ (v + 1 + (53 + C)) ≤ A * 2 ^ (v + 1 + (53 + C)) := Nat.mul_le_mul_right _ hA
      rw [Nat.one_mul] at b3
      exact Nat.le_trans (Nat.le_trans b1 b2) b3
    rw [show (9007199254740992 : Nat) = 2 ^ 53 from rfl, Nat.le_div_iff_mul_le hC, Nat.mul_comm]
    exact a2
  obtain ⟨d', hd'⟩ : ∃ d', K = v + 1 + d' := ⟨K - (v + 1), by omega⟩
  have hQlo : m * 2 ^ (g + d' + 1) ≤ A * 2 ^ K / C := by
    rw [Nat.le_div_iff_mul_le hC]
    have e : m * 2 ^ (g + d' + 1) * C = (m * 2 ^ g * C) * 2 ^ (d' + 1) := by
      rw [show g + d' + 1 = g + (d' + 1) by omega, Nat.pow_add, ← Nat.mul_assoc, Nat.mul_right_comm]
    have e2 : A * 2 ^ K = A * 2 ^ v * 2 ^ (d' + 1) := by rw [hd', show v + 1 + d' = v + (d' + 1) by omega, Nat.pow_add, Nat.mul_assoc]
    rw [e, e2]
    exact Nat.mul_le_mul_right _ h1
  have hQhi : A * 2 ^ K / C < m * 2 ^ (g + d' + 1) + 2 ^ (g + d') := by
    rw [Nat.div_lt_iff_lt_mul hC]
    have e : (m * 2 ^ (g + d' + 1) + 2 ^ (g + d')) * C = ((2 * m + 1) * 2 ^ g * C) * 2 ^ d' := by
      rw [Nat.pow_succ, Nat.pow_add]
      have : m * (2 ^ g * 2 ^ d' * 2) + 2 ^ g * 2 ^ d' = (2 * m + 1) * (2 ^ g * 2 ^ d') := by
        rw [Nat.add_mul, Nat.one_mul, Nat.mul_comm (2 ^ g * 2 ^ d') 2, ← Nat.mul_assoc, Nat.mul_comm m 2]
      rw [this, ← Nat.mul_assoc, Nat.mul_right_comm]
    have e2 : A * 2 ^ K = A * 2 ^ (v + 1) * 2 ^ d' := by rw [hd', Nat.pow_add, Nat.mul_assoc]
    rw [e, e2]
    exact Nat.mul_lt_mul_of_pos_right h2 (Nat.two_pow_pos _)
  have hpq : 2 ^ (g + d' + 1) = 2 * 2 ^ (g + d') := by rw [← Nat.pow_succ']
  have hp53 : 0 < 2 ^ (g + d') := Nat.two_pow_pos _
  have hup : ∀ x, x < m * 2 ^ (g + d' + 1) + 2 ^ (g + d') → x < (m + 1) * 2 ^ (g + d' + 1) := fun x hx => by rw [Nat.add_mul, Nat.one_mul]; omega
  rw [ratio_long_at A C K hA hC hK2]
  split
  · obtain ⟨hb, _, _⟩ := fw_beside m (A * 2 ^ K / C) (g + d' + 1) (-(K : Int)) p hc (by omega) (by omega) (by omega) hQlo (hup _ hQhi)
    rw [hb, kept_below m _ (g + d' + 1) (by omega) hQlo (by rw [Nat.add_sub_cancel]; exact hQhi)]
    omega
  · obtain ⟨Q, hQ⟩ : ∃ Q, Q = A * 2 ^ K / C := ⟨_, rfl⟩
    rw [← hQ] at hQlo hQhi hK2 ⊢
    have hpp : 2 ^ (g + d' + 2) = 2 * 2 ^ (g + d' + 1) := by rw [← Nat.pow_succ']
    have e1 : m * 2 ^ (g + d' + 2) = 2 * (m * 2 ^ (g + d' + 1)) := by rw [hpp, Nat.mul_left_comm]
    have e2 : (m + 1) * 2 ^ (g + d' + 2) = 2 * ((m + 1) * 2 ^ (g + d' + 1)) := by rw [hpp, Nat.mul_left_comm]
    have u0 := hup Q hQhi
    have u1 : 2 * Q + 1 < (m + 1) * 2 ^ (g + d' + 2) := by omega
    obtain ⟨hb, _, _⟩ := fw_beside m (2 * Q + 1) (g + d' + 2) (-(K : Int) - 1) p hc (by omega) (by omega) (by omega) (by omega) u1
    rw [hb, kept_below m _ (g + d' + 2) (by omega) (by omega) (by rw [show g + d' + 2 - 1 = g + d' + 1 by omega]; omega)]
    omega
end Go.Proofs.YtaoccjaaopmfdaaGreatDoor

/- Numbers in a base, as plain functions: no program is spoken of here. -/
namespace Go.Proofs.YtaoccjaaopmfdaaGreatDoor
open Go.RowKit

/-- A byte's digit; 'none' for a byte that is none. -/
def digN (none c : Int) : Int := if 48 ≤ c ∧ c ≤ 57 then c - 48 else if 97 ≤ c ∧ c ≤ 122 then c - 97 + 10 else none
theorem digN_lo (none c : Int) (h : 0 ≤ none) : 0 ≤ digN none c := by unfold digN; split <;> (try split) <;> omega
theorem digN_hi (none c : Int) (h : 36 ≤ none) : digN none c ≤ none := by unfold digN; split <;> (try split) <;> omega
theorem digN_same (a b c base : Int) (ha : base ≤ a) (hb : base ≤ b) : (digN a c < base ↔ digN b c < base) ∧ (digN a c < base → digN a c = digN b c) := by
  unfold digN; split <;> (try split) <;> omega

/-- The number that digits tell. -/
def val (b : Int) (l : List UInt8) : Int := l.foldl (fun n c => n * b + digN 99 c.toNat) 0
/-- Every byte is a digit of the base. -/
def good (b : Int) (l : List UInt8) : Prop := ∀ c ∈ l, digN 99 (c.toNat : Int) < b
theorem val_snoc (b : Int) (l : List UInt8) (c : UInt8) : val b (l ++ [c]) = val b l * b + digN 99 c.toNat := by simp [val, List.foldl_append]
theorem le_mul (n b : Int) (hn : 0 ≤ n) (hb : 1 ≤ b) : n ≤ n * b := by
  have h := Int.mul_nonneg hn (show (0 : Int) ≤ b - 1 by omega)
  rw [Int.mul_sub, Int.mul_one] at h
  omega
theorem fold_nonneg (b : Int) (hb : 0 ≤ b) (l : List UInt8) : ∀ n : Int, 0 ≤ n → 0 ≤ l.foldl (fun n c => n * b + digN 99 c.toNat) n := by
  induction l with
  | nil => intro n h; exact h
  | cons c l ih =>
    intro n h
    have hd := digN_lo 99 c.toNat (by omega)
    have hm : 0 ≤ n * b := Int.mul_nonneg h hb
    exact ih _ (show 0 ≤ n * b + digN 99 c.toNat by omega)
theorem val_nonneg (b : Int) (hb : 0 ≤ b) (l : List UInt8) : 0 ≤ val b l := fold_nonneg b hb l 0 (by omega)
theorem val_more (b : Int) (hb : 1 ≤ b) (m : List UInt8) : ∀ l, val b l ≤ val b (l ++ m) := by
  induction m with
  | nil => intro l; simp
  | cons c m ih =>
    intro l
    have h := ih (l ++ [c])
    rw [List.append_assoc] at h
    have hs := val_snoc b l c
    have hd := digN_lo 99 c.toNat (by omega)
    have hm := le_mul (val b l) b (val_nonneg b (by omega) l) hb
    show val b l ≤ val b (l ++ ([c] ++ m))
    omega
theorem val_take (b : Int) (hb : 1 ≤ b) (l : List UInt8) (k : Nat) : val b (l.take k) ≤ val b l := by
  have h := val_more b hb (l.drop k) (l.take k)
  rw [List.take_append_drop] at h
  exact h
theorem take_snoc (s : ByteArray) (k : Nat) (h : k < s.size) : s.data.toList.take (k + 1) = s.data.toList.take k ++ [s[k]] := by
  rw [List.take_succ_eq_append_getElem (by simpa using h)]; rfl
theorem val_step (b : Int) (s : ByteArray) (k : Nat) (h : k < s.size) : val b (s.data.toList.take (k + 1)) = val b (s.data.toList.take k) * b + digN 99 (s[k].toNat : Int) := by
  rw [take_snoc s k h, val_snoc]
theorem good_at (b : Int) (s : ByteArray) (hg : good b s.data.toList) (k : Nat) (h : k < s.size) : digN 99 (s[k].toNat : Int) < b :=
  hg _ (List.getElem_mem (l := s.data.toList) (n := k) (by simpa using h))
theorem bad_at (b : Int) (s : ByteArray) (k : Nat) (h : k < s.size) (hb : b ≤ digN 99 (s[k].toNat : Int)) : ¬ good b s.data.toList :=
  fun hg => by have := good_at b s hg k h; omega
theorem good_of (b : Int) (s : ByteArray) (h : ∀ k (hk : k < s.size), digN 99 (s[k].toNat : Int) < b) : good b s.data.toList := by
  intro c hc
  obtain ⟨i, hi, rfl⟩ := List.getElem_of_mem hc
  exact h i (by simpa using hi)

/-- What the test ahead of a product says: 'n > (limit - d) / b' just where the next number passes the limit. -/
theorem passes (n b d limit : Int) (hb : 0 < b) : (limit - d) / b < n ↔ limit < n * b + d := by
  have h := Int.ediv_lt_iff_lt_mul (a := limit - d) (b := n) hb
  omega
theorem passes0 (n b limit : Int) (hb : 0 < b) : limit / b < n ↔ limit < n * b := by
  have h := passes n b 0 limit hb
  simp only [Int.sub_zero, Int.add_zero] at h
  exact h
end Go.Proofs.YtaoccjaaopmfdaaGreatDoor

/- The number that digits tell: plain. -/
namespace Go.Proofs.YtaoccjaaopmfdaaGreatDoor
open Go.RowKit

/-- The number that digits tell. -/
def valN (b : Nat) (l : List UInt8) : Nat := (val (b : Int) l).toNat
theorem valN_cast (b : Nat) (l : List UInt8) : (valN b l : Int) = val (b : Int) l := Int.toNat_of_nonneg (val_nonneg _ (by omega) l)
theorem valN_step (b : Nat) (s : ByteArray) (k : Nat) (h : k < s.size) (d : Nat) (hd : (d : Int) = digN 99 (s[k].toNat : Int)) : valN b (s.data.toList.take (k + 1)) = valN b (s.data.toList.take k) * b + d := by
  have h1 := valN_cast b (s.data.toList.take (k + 1))
  rw [val_step (b : Int) s k h, ← valN_cast b (s.data.toList.take k), ← hd] at h1
  rw [← Int.natCast_mul, ← Int.natCast_add] at h1
  exact Int.ofNat_inj.1 h1
theorem valN_lt (b : Nat) (hb : b ≤ 4000000000) (l : List UInt8) : valN b l < 4294967296 ^ l.length := by
  have key : ∀ (l : List UInt8) (n : Int) (k : Nat), 0 ≤ n → n.toNat < 4294967296 ^ k → (l.foldl (fun n c => n * (b : Int) + digN 99 c.toNat) n).toNat < 4294967296 ^ (k + l.length) := by
    intro l
    induction l with
    | nil => intro n k _ h; simpa using h
    | cons c l ih =>
      intro n k h0 h
      have hd := digN_lo 99 c.toNat (by omega)
      have hd' := digN_hi 99 c.toNat (by omega)
      have hm : 0 ≤ n * (b : Int) := Int.mul_nonneg h0 (by omega)
      obtain ⟨m, rfl⟩ := Int.eq_ofNat_of_zero_le h0
      rw [Int.toNat_natCast] at h
      have hs : ((m : Int) * (b : Int) + digN 99 c.toNat).toNat < 4294967296 ^ (k + 1) := by
        have e : (m : Int) * (b : Int) = ((m * b : Nat) : Int) := (Int.natCast_mul m b).symm
        rw [e, Nat.pow_succ]
        have h2 : m * b ≤ (4294967296 ^ k - 1) * 4000000000 := Nat.mul_le_mul (by omega) hb
        have h3 : 0 < 4294967296 ^ k := Nat.pow_pos (by omega)
        omega
      have := ih _ (k + 1) (by omega) hs
      rw [List.length_cons, show k + (l.length + 1) = k + 1 + l.length by omega]
      exact this
  have := key l 0 0 (by omega) (by simp)
  rw [Nat.zero_add] at this
  exact this
theorem valN_take_lt (b : Nat) (hb : b ≤ 4000000000) (s : ByteArray) (k : Nat) : valN b (s.data.toList.take k) < 4294967296 ^ s.size := by
  refine Nat.lt_of_lt_of_le (valN_lt b hb _) (Nat.pow_le_pow_right (by omega) ?_)
  rw [List.length_take]
  have : s.data.toList.length = s.size := by simp
  omega
end Go.Proofs.YtaoccjaaopmfdaaGreatDoor

