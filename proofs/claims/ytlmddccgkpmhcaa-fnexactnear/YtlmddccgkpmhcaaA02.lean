import Derived.Test.YtlmddccgkpmhcaaA01
/- Floats of 64 bits: words, rungs, numbers in their own form. -/
namespace Go.Proofs.Ytlmddccgkpmhcaa
open Ieee

/-- The word of a number. -/
def fw (neg : Bool) (m : Nat) (p : Int) : Nat := double.nearest neg m p
theorem fw_scale (neg : Bool) (m k : Nat) (p : Int) : fw neg (m * 2 ^ k) (p - k) = fw neg m p := nearest_scale double neg m k p
def signBit (neg : Bool) : Nat := if neg then 9223372036854775808 else 0
theorem word_eq (neg : Bool) (r : Nat) : double.word neg r = signBit neg + r := by
  cases neg
  · show r = 0 + r; omega
  · rfl
theorem infRung_eq : double.infRung = 9218868437227405312 := by decide
theorem binade_eq : double.binade = 4503599627370496 := by decide
theorem least_eq : double.leastPlace = -1074 := by decide
theorem weight_eq : double.signWeight = 9223372036854775808 := by decide
theorem frac_eq : double.fractionBits = 52 := rfl

/-- A number as a float has it: 53 digits, or fewer at the last place. -/
def Canon (m : Nat) (p : Int) : Prop := (4503599627370496 ≤ m ∧ m < 9007199254740992 ∧ -1074 ≤ p ∧ p ≤ 971) ∨ (m < 4503599627370496 ∧ p = -1074)
/-- Its rung. -/
def rung (m : Nat) (p : Int) : Nat := (p + 1074).toNat * 4503599627370496 + m
theorem log2_53 (m : Nat) (h1 : 4503599627370496 ≤ m) (h2 : m < 9007199254740992) : m.log2 = 52 := by
  rw [Nat.log2_eq_iff (by omega)]
  exact ⟨h1, h2⟩
theorem log2_lt (m : Nat) (h0 : m ≠ 0) (h2 : m < 4503599627370496) : m.log2 < 52 := by
  have h : m.log2 < 52 ↔ m < 2 ^ 52 := Nat.log2_lt h0
  exact h.2 h2
theorem rung_lt (m : Nat) (p : Int) (h : Canon m p) : rung m p < 9218868437227405312 := by
  unfold rung
  rcases h with ⟨h1, h2, h3, h4⟩ | ⟨h1, rfl⟩ <;> omega
theorem fw_canon (neg : Bool) (m : Nat) (p : Int) (h : Canon m p) : fw neg m p = signBit neg + rung m p := by
  have hr := rung_lt m p h
  unfold fw Format.nearest
  by_cases h0 : m = 0
  · subst h0
    have hp : p = -1074 := by rcases h with ⟨h1, _⟩ | ⟨_, hp⟩ <;> omega
    subst hp
    rw [if_pos rfl, word_eq]
    rfl
  · rw [if_neg h0]
    simp only [word_eq, infRung_eq, binade_eq, least_eq, frac_eq]
    have e : max (p + (m.log2 : Int) - ((52 : Nat) : Int)) (-1074) = p := by
      rcases h with ⟨h1, h2, h3, h4⟩ | ⟨h1, rfl⟩
      · rw [log2_53 m h1 h2]; omega
      · have := log2_lt m h0 h1; omega
    rw [e, show (p - p).toNat = 0 by omega, Nat.shiftLeft_zero, cut_zero, show (p - -1074).toNat = (p + 1074).toNat by omega]
    show signBit neg + min (rung m p) _ = _
    rw [Nat.min_eq_left (by omega)]
theorem sign_read (neg : Bool) (r : Nat) (h : r < 9223372036854775808) : ((signBit neg + r) / 9223372036854775808 % 2 == 1) = neg ∧ (signBit neg + r) % 9223372036854775808 = r := by
  cases neg
  · have e : signBit false = 0 := rfl
    rw [e]
    constructor
    · rw [show (0 + r) / 9223372036854775808 = 0 by omega]; rfl
    · omega
  · have e : signBit true = 9223372036854775808 := rfl
    rw [e]
    constructor
    · rw [show (9223372036854775808 + r) / 9223372036854775808 = 1 by omega]; rfl
    · omega
/-- What a number's word stands for: that number. -/
theorem read_canon (neg : Bool) (m : Nat) (p : Int) (h : Canon m p) : double.read (fw neg m p) = .number neg m p := by
  have hr := rung_lt m p h
  obtain ⟨s1, s2⟩ := sign_read neg (rung m p) (by omega)
  rw [fw_canon neg m p h]
  unfold Format.read
  simp only [weight_eq, binade_eq, infRung_eq, least_eq, s1, s2]
  unfold rung at hr ⊢
  rcases h with ⟨h1, h2, h3, h4⟩ | ⟨h1, rfl⟩
  · have e0 : ¬ ((p + 1074).toNat * 4503599627370496 + m < 4503599627370496) := by omega
    have e1 : ((p + 1074).toNat * 4503599627370496 + m) % 4503599627370496 = m - 4503599627370496 := by omega
    have e2 : ((p + 1074).toNat * 4503599627370496 + m) / 4503599627370496 = (p + 1074).toNat + 1 := by omega
    have a1 : 4503599627370496 + (m - 4503599627370496) = m := by omega
    have a2 : (-1074 : Int) + (((p + 1074).toNat + 1 - 1 : Nat) : Int) = p := by omega
    rw [if_neg e0, if_pos hr, e1, e2, a1, a2]
  · have e0 : ((-1074 : Int) + 1074).toNat * 4503599627370496 + m = m := by omega
    rw [e0, if_pos h1]
/-- A word is a NaN's, an infinity's, or a number's. -/
theorem word_cases (x : Nat) (hx : x < 18446744073709551616) :
    (∃ s n, double.read x = .nan s n) ∨ (∃ s, x = signBit s + 9218868437227405312 ∧ double.read x = .infinity s) ∨ (∃ s m p, Canon m p ∧ x = fw s m p) := by
  obtain ⟨s, r, hr, rfl⟩ : ∃ s r, r < 9223372036854775808 ∧ x = signBit s + r := by
    by_cases h : x < 9223372036854775808
    · exact ⟨false, x, h, by show x = 0 + x; omega⟩
    · exact ⟨true, x - 9223372036854775808, by omega, by show x = 9223372036854775808 + _; omega⟩
  obtain ⟨s1, s2⟩ := sign_read s r hr
  have hread : double.read (signBit s + r) = if r < 4503599627370496 then .number s r (-1074) else if r < 9218868437227405312 then .number s (4503599627370496 + r % 4503599627370496) (-1074 + ((r / 4503599627370496 - 1 : Nat) : Int)) else if r = 9218868437227405312 then .infinity s else .nan s (r - 9218868437227405312) := by
    unfold Format.read
    simp only [weight_eq, binade_eq, infRung_eq, least_eq, s1, s2]
  by_cases h1 : r < 4503599627370496
  · refine .inr (.inr ⟨s, r, -1074, .inr ⟨h1, rfl⟩, ?_⟩)
    rw [fw_canon s r (-1074) (.inr ⟨h1, rfl⟩)]
    unfold rung
    omega
  · by_cases h2 : r < 9218868437227405312
    · have hc : Canon (4503599627370496 + r % 4503599627370496) (-1074 + ((r / 4503599627370496 - 1 : Nat) : Int)) := .inl ⟨by omega, by omega, by omega, by omega⟩
      refine .inr (.inr ⟨s, _, _, hc, ?_⟩)
      rw [fw_canon s _ _ hc]
      unfold rung
      omega
    · by_cases h3 : r = 9218868437227405312
      · refine .inr (.inl ⟨s, by omega, ?_⟩)
        rw [hread, if_neg h1, if_neg h2, if_pos h3]
      · refine .inl ⟨s, r - 9218868437227405312, ?_⟩
        rw [hread, if_neg h1, if_neg h2, if_neg h3]
end Go.Proofs.Ytlmddccgkpmhcaa

