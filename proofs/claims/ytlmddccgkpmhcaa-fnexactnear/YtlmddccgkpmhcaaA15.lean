import Derived.Test.YtlmddccgkpmhcaaA14
/- The nearest word of a number in whatever form, reckoned as rounding at a place: plain. -/
namespace Go.Proofs.Ytlmddccgkpmhcaa
open Ieee

/-- A number with its lowest digits left out, rounded; or with zeros brought in. -/
def roundN (m : Nat) (d : Int) : Nat := if d ≤ 0 then m * 2 ^ (-d).toNat else keptOf m d.toNat
theorem fw_place (s : Bool) (m : Nat) (e : Int) (h0 : 0 < m) :
    fw s m e = signBit s + min ((max (e + (m.log2 : Int) - 52) (-1074) + 1074).toNat * 4503599627370496 + roundN m (max (e + (m.log2 : Int) - 52) (-1074) - e)) 9218868437227405312 := by
  unfold fw Format.nearest
  rw [if_neg (by omega)]
  simp only [word_eq, infRung_eq, binade_eq, least_eq, frac_eq]
  rw [show e + (m.log2 : Int) - ((52 : Nat) : Int) = e + (m.log2 : Int) - 52 from rfl]
  generalize max (e + (m.log2 : Int) - 52) (-1074) = l
  rw [show (l - -1074).toNat = (l + 1074).toNat by omega]
  unfold roundN
  by_cases hd : l - e ≤ 0
  · rw [if_pos hd, show (l - e).toNat = 0 by omega, cut_zero, Nat.shiftLeft_eq, show (e - l).toNat = (-(l - e)).toNat by omega]
  · rw [if_neg hd, show (e - l).toNat = 0 by omega, Nat.shiftLeft_zero, cut_kept s m _ h0 (by omega)]
/-- What a place far below holds: nothing. -/
theorem log_63 (m : Nat) (h0 : 0 < m) (h : m < 18446744073709551616) : m.log2 ≤ 63 := (norm_64 m h0 h).2.2
theorem kept_small (m L d : Nat) (hm : m < 2 ^ (L + 1)) (hL : L ≤ d + 52) : keptOf m d ≤ 9007199254740992 := by
  have h : m / 2 ^ d < 2 ^ 53 := by
    rw [Nat.div_lt_iff_lt_mul (Nat.two_pow_pos d), ← Nat.pow_add]
    exact Nat.lt_of_lt_of_le hm (Nat.pow_le_pow_right (by omega) (by omega))
  have e : (2 : Nat) ^ 53 = 9007199254740992 := rfl
  unfold keptOf
  split <;> omega
/-- A number of at most 64 digits rounded at the place that a float has for it: at most 53 digits, or one more with zeros. -/
theorem roundN_le (m : Nat) (e : Int) : roundN m (max (e + (m.log2 : Int) - 52) (-1074) - e) ≤ 9007199254740992 := by
  have hlt : m < 2 ^ (m.log2 + 1) := Nat.lt_log2_self
  generalize m.log2 = L at *
  unfold roundN
  by_cases hd : max (e + (L : Int) - 52) (-1074) - e ≤ 0
  · rw [if_pos hd]
    have h1 : m * 2 ^ (-(max (e + (L : Int) - 52) (-1074) - e)).toNat < 2 ^ (L + 1) * 2 ^ (-(max (e + (L : Int) - 52) (-1074) - e)).toNat := Nat.mul_lt_mul_of_pos_right hlt (Nat.two_pow_pos _)
    rw [← Nat.pow_add] at h1
    have h2 : 2 ^ (L + 1 + (-(max (e + (L : Int) - 52) (-1074) - e)).toNat) ≤ 2 ^ 53 := Nat.pow_le_pow_right (by omega) (by omega)
    have e53 : (2 : Nat) ^ 53 = 9007199254740992 := rfl
    omega
  · rw [if_neg hd]
    exact kept_small m L _ hlt (by omega)
/-- The places of a float's number. -/
theorem fw_fits (s : Bool) (m : Nat) (e l : Int) (h0 : 0 < m) (hl : l = max (e + (m.log2 : Int) - 52) (-1074)) (h : l ≤ 971) : fw s m e = signBit s + ((l + 1074).toNat * 4503599627370496 + roundN m (l - e)) := by
  have h1 := fw_place s m e h0
  have h2 := roundN_le m e
  rw [← hl] at h1 h2
  rw [h1, Nat.min_eq_left (by omega)]
theorem fw_over (s : Bool) (m : Nat) (e l : Int) (h0 : 0 < m) (hl : l = max (e + (m.log2 : Int) - 52) (-1074)) (h : 971 < l) : fw s m e = iw s := by
  have h1 := fw_place s m e h0
  rw [← hl] at h1
  have hge : 2 ^ m.log2 ≤ m := Nat.log2_self_le (by omega)
  have hk : 4503599627370496 ≤ roundN m (l - e) := by
    have el : l = e + (m.log2 : Int) - 52 := by omega
    unfold roundN
    have e52 : (2 : Nat) ^ 52 = 4503599627370496 := rfl
    generalize m.log2 = L at *
    by_cases hd : l - e ≤ 0
    · rw [if_pos hd]
      have h3 : 2 ^ L * 2 ^ (-(l - e)).toNat ≤ m * 2 ^ (-(l - e)).toNat := Nat.mul_le_mul_right _ hge
      rw [← Nat.pow_add, show L + (-(l - e)).toNat = 52 by omega] at h3
      omega
    · rw [if_neg hd]
      have h3 : 2 ^ 52 ≤ m / 2 ^ (l - e).toNat := by
        rw [Nat.le_div_iff_mul_le (Nat.two_pow_pos _), ← Nat.pow_add, show 52 + (l - e).toNat = L by omega]
        exact hge
      unfold keptOf
      split <;> omega
  rw [h1]
  unfold iw
  rw [Nat.min_eq_right (by omega)]
end Go.Proofs.Ytlmddccgkpmhcaa

