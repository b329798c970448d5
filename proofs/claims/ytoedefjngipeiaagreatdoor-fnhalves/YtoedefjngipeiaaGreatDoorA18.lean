import Derived.Test.YtoedefjngipeiaaGreatDoorA17
import Derived.Laws.FloatBits
import Derived.Test.YtoedefjngipeiaaGreatDoorA03
/- Floats of 64 bits: the floats of whole numbers; one less; floors. -/
namespace Go.Proofs.YtoedefjngipeiaaGreatDoor
open Ieee

/-- The float of a whole number. -/
def wordI (n : Int) : Nat := fw (decide (n < 0)) n.natAbs 0
theorem floatOf_is (n : Int) : floatOfInt .f64 n = wordI n := rfl
theorem wordI_pos (T : Nat) : wordI (T : Int) = fw false T 0 := by
  unfold wordI; rw [decide_eq_false (by omega), Int.natAbs_natCast]
theorem wordI_neg (T : Nat) (h : 0 < T) : wordI (-(T : Int)) = fw true T 0 := by
  unfold wordI; rw [decide_eq_true (by omega), Int.natAbs_neg, Int.natAbs_natCast]
theorem sum_minus (s : Bool) (m n : Nat) (i j : Int) (h : s = true ∨ m = 0) (hn : 0 < n) :
    Datum.sum (.number s m i) (.number true n j) = some (.number true (m * 2 ^ (i - min i j).toNat + n * 2 ^ (j - min i j).toNat) (min i j)) := by
  unfold Datum.sum
  simp only
  have e : signed s m (i - min i j).toNat + signed true n (j - min i j).toNat = -((m * 2 ^ (i - min i j).toNat + n * 2 ^ (j - min i j).toNat : Nat) : Int) := by
    rw [signed_eq, signed_eq]
    rcases h with rfl | rfl
    · simp only [if_true]; push_cast; omega
    · rw [Nat.zero_mul]
      simp only [if_true]
      generalize n * 2 ^ (j - min i j).toNat = g
      simp
  have hp : 0 < m * 2 ^ (i - min i j).toNat + n * 2 ^ (j - min i j).toNat := by
    have := Nat.mul_pos hn (Nat.two_pow_pos (j - min i j).toNat)
    omega
  generalize m * 2 ^ (i - min i j).toNat + n * 2 ^ (j - min i j).toNat = g at *
  rw [e, if_neg (by omega), decide_eq_true (by omega), Int.natAbs_neg, Int.natAbs_natCast]
/-- A whole number's float, in its own form. -/
theorem canon_whole (T : Nat) (h : T < 9007199254740992) : ∃ m : Nat, ∃ i : Int, Canon m i ∧ i ≤ 0 ∧ (∀ s, fw s T 0 = fw s m i) ∧ m = T * 2 ^ (-i).toNat := by
  by_cases h0 : T = 0
  · subst h0
    exact ⟨0, -1074, canon_zero, by omega, fun s => by rw [fw_zero, fw_zero], by rw [Nat.zero_mul]⟩
  · have hl : T.log2 ≤ 52 := by
      have hh : T.log2 < 53 ↔ T < 2 ^ 53 := Nat.log2_lt h0
      have := hh.2 h
      omega
    obtain ⟨k, _, hc, he⟩ := canon_of T 0 (by omega) h (by omega) (by omega)
    refine ⟨T * 2 ^ k, 0 - k, hc, by omega, he, ?_⟩
    rw [show (-(0 - (k : Int))).toNat = k by omega]
theorem one_less (s : Bool) (T : Nat) (h : T < 4503599627370496) (hs : s = true ∨ T = 0) : double.sub (fw s T 0) 4607182418800017408 = some (fw true (T + 1) 0) := by
  obtain ⟨m, i, hc, hi, hf, hm⟩ := canon_whole T (by omega)
  unfold Format.sub
  rw [hf s, read_canon s m i hc, bits_one, read_canon false _ _ (.inl ⟨by omega, by omega, by omega, by omega⟩)]
  show (Datum.sum (.number s m i) (.number true 4503599627370496 (-52))).map double.write = _
  rw [sum_minus s m _ i (-52) (by rcases hs with hs | hs; exact .inl hs; exact .inr (by rw [hm, hs, Nat.zero_mul])) (by omega)]
  show some (fw true _ (min i (-52))) = _
  have hb : ((-(min i (-52))).toNat : Int) = - min i (-52) := by omega
  have e1 : m * 2 ^ (i - min i (-52)).toNat = T * 2 ^ (-(min i (-52))).toNat := by
    rw [hm, Nat.mul_assoc, ← Nat.pow_add]; congr 2; omega
  have e2 : 4503599627370496 * 2 ^ (-52 - min i (-52)).toNat = 1 * 2 ^ (-(min i (-52))).toNat := by
    have e52 : (4503599627370496 : Nat) = 1 * 2 ^ 52 := rfl
    rw [e52, Nat.mul_assoc, ← Nat.pow_add]; congr 2; omega
  rw [e1, e2, ← Nat.add_mul]
  have := fw_scale true (T + 1) (-(min i (-52))).toNat 0
  rw [show (0 : Int) - ((-(min i (-52))).toNat : Int) = min i (-52) by omega] at this
  rw [this]
/-- What is behind the point. -/
def fracN (m : Nat) (p : Int) : Nat := m % 2 ^ (-p).toNat
/-- The floor. -/
def floorI (s : Bool) (m : Nat) (p : Int) : Int := if s then (if fracN m p = 0 then -(truncN m p : Int) else -(truncN m p : Int) - 1) else (truncN m p : Int)
theorem trunc_small (m : Nat) (p : Int) (h : Canon m p) (hp : p < 0) : truncN m p < 4503599627370496 := by
  rw [trunc_lo m p (by omega)]
  have h1 : m < 9007199254740992 := by rcases h with h | h <;> omega
  have h2 : 2 ^ 1 ≤ 2 ^ (-p).toNat := Nat.pow_le_pow_right (by omega) (by omega)
  rw [Nat.div_lt_iff_lt_mul (Nat.two_pow_pos _)]
  have h3 : 4503599627370496 * 2 ≤ 4503599627370496 * 2 ^ (-p).toNat := Nat.mul_le_mul_left _ h2
  omega
/-- How what is cut stands to the number. -/
theorem sval_trunc (m : Nat) (p : Int) (h : Canon m p) (hp : p < 0) : (fracN m p = 0 → sval false (truncN m p) 0 = sval false m p) ∧ (fracN m p ≠ 0 → sval false (truncN m p) 0 < sval false m p) := by
  have hp2 : -1074 ≤ p := by rcases h with h | h <;> omega
  have hd := Nat.div_add_mod m (2 ^ (-p).toNat)
  have hs := sval_scale false (truncN m p) (-p).toNat 0 (by omega)
  rw [show (0 : Int) - ((-p).toNat : Int) = p by omega] at hs
  rw [trunc_lo m p (by omega)] at hs ⊢
  unfold fracN
  rw [Nat.mul_comm] at hd
  refine ⟨fun h0 => ?_, fun h0 => ?_⟩
  · rw [← hs]; congr 1; omega
  · rw [← hs]; exact sval_lt _ _ _ _ (by omega) (by omega)
theorem rep_whole (T : Nat) (h : T < 9007199254740992) : Rep T 0 := by
  refine ⟨h, by omega, ?_⟩
  by_cases h0 : T = 0
  · exact .inl h0
  · have hh : T.log2 < 53 ↔ T < 2 ^ 53 := Nat.log2_lt h0
    have := hh.2 h
    exact .inr (by omega)
theorem wordI_minus (T : Nat) : ∃ s, (s = true ∨ T = 0) ∧ wordI (-(T : Int)) = fw s T 0 ∧ sval s T 0 = - sval false T 0 := by
  by_cases h : T = 0
  · subst h
    exact ⟨false, .inr rfl, rfl, by rw [sval_zero]; rfl⟩
  · exact ⟨true, .inl rfl, wordI_neg T (by omega), sval_neg T 0⟩
theorem wordI_less (T : Nat) (h : T < 4503599627370496) : double.sub (wordI (-(T : Int))) 4607182418800017408 = some (wordI (-(T : Int) - 1)) := by
  obtain ⟨s, hs, hw, _⟩ := wordI_minus T
  rw [hw, one_less s T h hs, ← wordI_neg (T + 1) (by omega)]
  congr 2
  omega
end Go.Proofs.YtoedefjngipeiaaGreatDoor

/- Float operations that the drawing of floats makes: plain. -/
namespace Go.Proofs.YtoedefjngipeiaaGreatDoor
open Ieee (double)

theorem width_64 : (2 : Nat) ^ double.width = 18446744073709551616 := by decide
/-- A quotient of two numbers, the second not 0. -/
theorem div_rep (s t : Bool) (a b : Nat) (i j : Int) (ha : Rep a i) (hb : Rep b j) (h0 : 0 < b) : ∃ r, double.div (fw s a i) (fw t b j) = some r ∧ r < 18446744073709551616 := by
  obtain ⟨m, p, hc, hw, _, _⟩ := rep_canon a i ha
  obtain ⟨n, q, kc, kw, _, k0⟩ := rep_canon b j hb
  have hn := k0 h0
  have : ∃ r, double.div (fw s a i) (fw t b j) = some r := by
    rw [hw s, kw t]
    unfold Ieee.Format.div
    rw [read_canon s m p hc, read_canon t n q kc]
    obtain ⟨n', rfl⟩ : ∃ n', n = n' + 1 := ⟨n - 1, by omega⟩
    cases m <;> exact ⟨_, rfl⟩
  obtain ⟨r, hr⟩ := this
  exact ⟨r, hr, by rw [← width_64]; exact double.div_lt hr⟩
theorem bits_100 : (4636737291354636288 : Nat) = fw false 100 0 := by
  have e := fw_scale false 100 46 0
  rw [show (0 : Int) - ((46 : Nat) : Int) = -46 by omega, show 100 * 2 ^ 46 = 7036874417766400 by decide, fw_canon _ _ _ (.inl ⟨by omega, by omega, by omega, by omega⟩)] at e
  rw [← e]; decide
theorem bits_eighth : (4593671619917905920 : Nat) = fw false 4503599627370496 (-3 - 52) := by rw [fw_canon _ _ _ (.inl ⟨by omega, by omega, by omega, by omega⟩)]; decide
theorem minus_one_by_zero : double.div 13830554455654793216 0 = some (iw true) := by decide
theorem fw_word (s : Bool) (m : Nat) (e : Int) : fw s m e < 18446744073709551616 := by rw [← width_64]; exact double.nearest_lt s m e
/-- A minus ahead of a word. -/
theorem neg_lt (x : Nat) (h : x < 18446744073709551616) : Op.negFloat .f64 x < 18446744073709551616 := by
  rcases Nat.lt_or_ge x 9223372036854775808 with h1 | h1
  · have := neg_word false x h1
    rw [show signBit false + x = x from Nat.zero_add x] at this
    rw [this]
    show 9223372036854775808 + x < _
    omega
  · obtain ⟨r, rfl⟩ : ∃ r, x = signBit true + r := ⟨x - 9223372036854775808, by show x = 9223372036854775808 + _; omega⟩
    have hr : r < 9223372036854775808 := by have : signBit true = 9223372036854775808 := rfl; omega
    rw [neg_word true r hr]
    show 0 + r < _
    omega
end Go.Proofs.YtoedefjngipeiaaGreatDoor

/- l2nan of the specification. -/
namespace Go.Proofs.YtoedefjngipeiaaGreatDoor
open Go.ChangeShapes Go.WideShapes Go.RowKit
open Ieee (double)

set_option maxHeartbeats 400000 in
theorem l2nan_any (w : World) : Calls Tryz.prog 37 #[] w fun e w' => ∃ b, IsNan b ∧ b < 18446744073709551616 ∧ e = .returned (.float .f64 b) ∧ w' = w.drew := by
  obtain ⟨b, hb, hlt, hrun⟩ := run_nan (P := Tryz.prog) 23 w
  go_enter Tryz.func37, Tryz.ntmps37
  go_wp2
  go_ret
  exact ⟨b, hb, hlt, rfl, rfl⟩
end Go.Proofs.YtoedefjngipeiaaGreatDoor

