import Derived.Test.YtaoccjaaopmfdaaGreatDoorRows
import Derived.Test.YtaoccjaaopmfdaaGreatDoorB02
import Derived.WalkKit
import Derived.WalkSpells
import Derived.WalkLawsBesides
import Derived.Outline
import Derived.BigQuiet
import Derived.Deep.QuietTactic
import Derived.Laws.BitsAllLaws
import Derived.Laws.BitsLemmas
import Derived.Test.YtaoccjaaopmfdaaGreatDoorB03
import Derived.Laws.FloatBits
/- What every walk over floats wants. -/
namespace Go.Proofs.YtaoccjaaopmfdaaGreatDoor
open Go.ChangeShapes Go.WideShapes Go.RowKit
open Ieee (double)

theorem run_neg (x : Nat) (w : World) : (Op.unary .neg (.float .f64 x)).run Tryz.prog w = .ok (.float .f64 (Op.negFloat .f64 x)) w := rfl
theorem or_low (a M : Nat) (h : M < 4503599627370496) (ha : a < 4096) : bits .or .u64 ((a : Int) * 4503599627370496) (M : Int) = ((a * 4503599627370496 + M : Nat) : Int) := by
  have e1 : ((a : Int) * 4503599627370496) = ((a * 4503599627370496 : Nat) : Int) := by omega
  rw [e1, u64_or_nat _ _ (by omega) (by omega)]
  have := Nat.two_pow_add_eq_or_of_lt (show M < 2 ^ 52 from h) a
  rw [show 2 ^ 52 * a = a * 4503599627370496 by omega] at this
  rw [this]
theorem to_u64 (n : Nat) (h : n < 9007199254740992) : floatToIntVal .f64 (fw false n 0) .u64 = some (n : Int) := by
  unfold floatToIntVal
  have e : (FloatKind.decode .f64 (fw false n 0)).toInt .zero = some (n : Int) := by
    have := whole_fw false n h
    rw [signed_eq, Nat.pow_zero, Nat.mul_one, if_neg (by decide), Int.one_mul] at this
    exact this
  rw [e]
  have h1 : IntKind.u64.min = 0 := by decide
  have h2 : IntKind.u64.max = 18446744073709551615 := by decide
  simp only [h1, h2]
  rw [if_pos (by omega)]
theorem rep_at (m : Nat) (p : Int) (h : m < 9007199254740992) (h1 : -1074 ≤ p) (h2 : p ≤ 971) : Rep m p := by
  refine ⟨h, h1, ?_⟩
  by_cases h0 : m = 0
  · exact .inl h0
  · have hh : m.log2 < 53 ↔ m < 2 ^ 53 := Nat.log2_lt h0
    have := hh.2 h
    exact .inr (by omega)
theorem or_top (r : Nat) (h : r < 9223372036854775808) : bits .or .u64 (r : Int) 9223372036854775808 = ((9223372036854775808 + r : Nat) : Int) := by
  have e := u64_or_nat r 9223372036854775808 (by omega) (by omega)
  have e2 := Nat.two_pow_add_eq_or_of_lt (show r < 2 ^ 63 from h) 1
  rw [Nat.mul_one, Nat.or_comm] at e2
  rw [show ((9223372036854775808 : Nat) : Int) = 9223372036854775808 from rfl] at e
  rw [e]
  rw [show (9223372036854775808 : Nat) = 2 ^ 63 from rfl, ← e2]
theorem float_of (m : Nat) : floatOfInt .f64 (m : Int) = fw false m 0 := by
  show double.nearest (decide ((m : Int) < 0)) (m : Int).natAbs 0 = _
  rw [decide_eq_false (by omega), Int.natAbs_natCast]
  rfl
/-- The 64 bits of a whole number. -/
def u64n (n : Int) : Nat := (IntKind.u64.wrap n).toNat
theorem u64n_cast (n : Int) : IntKind.u64.wrap n = (u64n n : Int) := by unfold u64n; rw [IntKind.wrap_u64]; omega
theorem u64n_lt (n : Int) : u64n n < 18446744073709551616 := by unfold u64n; rw [IntKind.wrap_u64]; omega
theorem mask11 (x : Int) (h0 : 0 ≤ x) (h1 : x < 18446744073709551616) : bits .and .u64 x 2047 = x % 2048 := by
  have h := bits_mask .u64 64 (by decide) (fun n a b => by rw [IntKind.wrap_u64]; omega) 11 (by decide) x h0 (by omega)
  exact h
theorem mask52 (x : Int) (h0 : 0 ≤ x) (h1 : x < 18446744073709551616) : bits .and .u64 x 4503599627370495 = x % 4503599627370496 := by
  have h := bits_mask .u64 64 (by decide) (fun n a b => by rw [IntKind.wrap_u64]; omega) 52 (by decide) x h0 (by omega)
  exact h
theorem or_one (M : Nat) (h : M < 4503599627370496) : bits .or .u64 (M : Int) 4503599627370496 = ((4503599627370496 + M : Nat) : Int) := by
  have e := or_low 1 M h (by omega)
  have c1 := u64_or_nat M 4503599627370496 (by omega) (by omega)
  have c2 := u64_or_nat 4503599627370496 M (by omega) (by omega)
  rw [show ((4503599627370496 : Nat) : Int) = 4503599627370496 from rfl] at c1 c2
  rw [c1, Nat.or_comm, ← c2]
  rw [show ((1 : Nat) : Int) * 4503599627370496 = 4503599627370496 by omega, show 1 * 4503599627370496 + M = 4503599627370496 + M by omega] at e
  exact e
/-- A word's sign, exponent and fraction. -/
theorem word_parts (U : Nat) (h : U < 18446744073709551616) : ∃ s E M, E < 2048 ∧ M < 4503599627370496 ∧ U = signBit s + (E * 4503599627370496 + M) := by
  by_cases hs : U < 9223372036854775808
  · exact ⟨false, U / 4503599627370496, U % 4503599627370496, by omega, by omega, by show U = 0 + _; omega⟩
  · exact ⟨true, (U - 9223372036854775808) / 4503599627370496, (U - 9223372036854775808) % 4503599627370496, by omega, by omega, by show U = 9223372036854775808 + _; omega⟩
theorem not_nan (s : Bool) (r : Nat) (h : r ≤ 9218868437227405312) : ¬ IsNan (signBit s + r) := by
  rintro ⟨t, n, hn⟩
  obtain ⟨s1, s2⟩ := sign_read s r (by omega)
  unfold Ieee.Format.read at hn
  simp only [weight_eq, binade_eq, infRung_eq, s1, s2] at hn
  by_cases h1 : r < 4503599627370496
  · rw [if_pos h1] at hn; cases hn
  · by_cases h2 : r < 9218868437227405312
    · rw [if_neg h1, if_pos h2] at hn; cases hn
    · rw [if_neg h1, if_neg h2, if_pos (by omega)] at hn; cases hn
theorem fw_lt (s : Bool) (m : Nat) (p : Int) (h : Canon m p) : fw s m p < 18446744073709551616 := by
  have := rung_lt m p h
  rw [fw_canon s m p h]
  cases s
  · show 0 + _ < _; omega
  · show 9223372036854775808 + _ < _; omega
end Go.Proofs.YtaoccjaaopmfdaaGreatDoor

/- Floats of 64 bits: whole numbers, cut towards zero, floors. -/
namespace Go.Proofs.YtaoccjaaopmfdaaGreatDoor
open Ieee

theorem bits_63 : (4890909195324358656 : Nat) = fw false 4503599627370496 11 := by rw [fw_canon _ _ _ (.inl ⟨by omega, by omega, by omega, by omega⟩)]; decide
theorem bits_m63 : (14114281232179134464 : Nat) = fw true 4503599627370496 11 := by rw [fw_canon _ _ _ (.inl ⟨by omega, by omega, by omega, by omega⟩)]; decide
theorem rep_63 : Rep 4503599627370496 11 := canon_rep _ _ (.inl ⟨by omega, by omega, by omega, by omega⟩)
theorem p_high (m : Nat) (p : Int) (h : Canon m p) (hp : 11 ≤ p) : 4503599627370496 ≤ m := by rcases h with h | h <;> omega
theorem size_high (m : Nat) (p : Int) (h : Canon m p) (hp : 11 ≤ p) : sval false 4503599627370496 11 ≤ sval false m p := sval_le _ _ _ _ (p_high m p h hp) hp
theorem form_63 : sval false 4503599627370496 11 = sval false 9007199254740992 10 := by
  have := sval_scale false 4503599627370496 1 11 (by omega)
  rw [← this]; rfl
theorem size_low (m : Nat) (p : Int) (h : Canon m p) (hp : p ≤ 10) : sval false m p < sval false 4503599627370496 11 := by
  rw [form_63]
  exact sval_lt _ _ _ _ (by rcases h with h | h <;> omega) hp
/-- At 2^63 and beyond; below it. -/
theorem ord_63_ge (m : Nat) (p : Int) (h : Canon m p) (hp : 11 ≤ p) : double.order (fw false m p) 4890909195324358656 = some .gt ∨ double.order (fw false m p) 4890909195324358656 = some .eq := by
  rw [bits_63, order_rep false false m _ p 11 (canon_rep m p h) rep_63]
  have := size_high m p h hp
  by_cases he : sval false m p = sval false 4503599627370496 11
  · rw [cmp_eq _ _ he]; exact .inr rfl
  · rw [cmp_gt _ _ (by omega)]; exact .inl rfl
theorem ord_63_lt (s : Bool) (m : Nat) (p : Int) (h : Canon m p) (hp : s = true ∨ p ≤ 10) : double.order (fw s m p) 4890909195324358656 = some .lt := by
  rw [bits_63, order_rep s false m _ p 11 (canon_rep m p h) rep_63]
  have h1 := sval_pos 4503599627370496 11 (by omega)
  have h2 : 0 ≤ sval false m p := by
    by_cases h0 : m = 0
    · subst h0; rw [sval_zero]; omega
    · have := sval_pos m p (by omega); omega
  cases s
  · rcases hp with hp | hp
    · cases hp
    · rw [cmp_lt _ _ (size_low m p h hp)]
  · rw [sval_neg, cmp_lt _ _ (by omega)]
theorem ord_m63_le (m : Nat) (p : Int) (h : Canon m p) (hp : 11 ≤ p) : double.order (fw true m p) 14114281232179134464 = some .lt ∨ double.order (fw true m p) 14114281232179134464 = some .eq := by
  rw [bits_m63, order_rep true true m _ p 11 (canon_rep m p h) rep_63, sval_neg, sval_neg]
  have := size_high m p h hp
  by_cases he : sval false m p = sval false 4503599627370496 11
  · rw [cmp_eq _ _ (by omega)]; exact .inr rfl
  · rw [cmp_lt _ _ (by omega)]; exact .inl rfl
theorem ord_m63_gt (s : Bool) (m : Nat) (p : Int) (h : Canon m p) (hp : s = false ∨ p ≤ 10) : double.order (fw s m p) 14114281232179134464 = some .gt := by
  rw [bits_m63, order_rep s true m _ p 11 (canon_rep m p h) rep_63, sval_neg]
  have h1 := sval_pos 4503599627370496 11 (by omega)
  have h2 : 0 ≤ sval false m p := by
    by_cases h0 : m = 0
    · subst h0; rw [sval_zero]; omega
    · have := sval_pos m p (by omega); omega
  cases s
  · rw [cmp_gt _ _ (by omega)]
  · rcases hp with hp | hp
    · cases hp
    · have := size_low m p h hp
      rw [sval_neg, cmp_gt _ _ (by omega)]
/-- Just -2^63. -/
theorem is_m63 (m : Nat) (p : Int) (h : Canon m p) (he : double.order (fw true m p) 14114281232179134464 = some .eq) : m = 4503599627370496 ∧ p = 11 := by
  rw [bits_m63, order_rep true true m _ p 11 (canon_rep m p h) rep_63, sval_neg, sval_neg] at he
  have hv : sval false m p = sval false 4503599627370496 11 := by
    by_cases h1 : - sval false m p < - sval false 4503599627370496 11
    · rw [cmp_lt _ _ h1] at he; cases he
    · by_cases h2 : - sval false m p = - sval false 4503599627370496 11
      · omega
      · rw [cmp_gt _ _ (by omega)] at he; cases he
  have hp : p = 11 := by
    by_cases a : p ≤ 10
    · have := size_low m p h a; omega
    · by_cases b : 12 ≤ p
      · have h1 := p_high m p h (by omega)
        have h2 : sval false 4503599627370496 11 < sval false 9007199254740992 11 := sval_lt _ _ _ _ (by omega) (by omega)
        have h3 : sval false 9007199254740992 11 = sval false 4503599627370496 12 := by
          have := sval_scale false 4503599627370496 1 12 (by omega)
          rw [← this]; rfl
        have h4 : sval false 4503599627370496 12 ≤ sval false m p := sval_le _ _ _ _ h1 b
        omega
      · omega
  subst hp
  refine ⟨?_, rfl⟩
  have h1 := p_high m 11 h (by omega)
  by_cases a : 4503599627370496 < m
  · have := sval_lt 4503599627370496 m 11 11 a (by omega); omega
  · omega
/-- Cut towards zero. -/
def truncN (m : Nat) (p : Int) : Nat := m * 2 ^ p.toNat / 2 ^ (-p).toNat
theorem toInt_fw (s : Bool) (m : Nat) (p : Int) (h : Canon m p) : Datum.toInt .zero (double.read (fw s m p)) = some (if s then -(truncN m p : Int) else (truncN m p : Int)) := by
  rw [read_canon s m p h, toInt_number, signed_eq, Nat.pow_zero, Nat.mul_one]
  unfold truncN
  cases s
  · simp
  · simp
theorem trunc_hi (m : Nat) (p : Int) (h : 0 ≤ p) : truncN m p = m * 2 ^ p.toNat := by
  unfold truncN
  rw [show (-p).toNat = 0 by omega, Nat.pow_zero, Nat.div_one]
theorem trunc_lo (m : Nat) (p : Int) (h : p ≤ 0) : truncN m p = m / 2 ^ (-p).toNat := by
  unfold truncN
  rw [show p.toNat = 0 by omega, Nat.pow_zero, Nat.mul_one]
theorem trunc_lt (m : Nat) (p : Int) (h : Canon m p) (hp : p ≤ 10) : truncN m p < 9223372036854775808 := by
  by_cases h0 : 0 ≤ p
  · rw [trunc_hi m p h0]
    have h1 : m < 9007199254740992 := by rcases h with h | h <;> omega
    have h2 : 2 ^ p.toNat ≤ 2 ^ 10 := Nat.pow_le_pow_right (by omega) (by omega)
    have h3 : m * 2 ^ p.toNat ≤ m * 1024 := Nat.mul_le_mul_left _ h2
    omega
  · rw [trunc_lo m p (by omega)]
    have h1 : m < 9007199254740992 := by rcases h with h | h <;> omega
    have := Nat.div_le_self m (2 ^ (-p).toNat)
    omega
end Go.Proofs.YtaoccjaaopmfdaaGreatDoor

/- Floats of 64 bits: the floats of whole numbers; one less; floors. -/
namespace Go.Proofs.YtaoccjaaopmfdaaGreatDoor
open Ieee

/-- The float of a whole number. -/
def wordI (n : Int) : Nat := fw (decide (n < 0)) n.natAbs 0
theorem floatOf_is (n : Int) : floatOfInt .f64 n = wordI n := rfl
theorem wordI_pos (T : Nat) : wordI (T : Int) = fw false T 0 := by
  unfold wordI; rw [decide_eq_false (by omega), Int.natAbs_natCast]
theorem wordI_neg (T : Nat) (h : 0 < T) : wordI (-(T : Int)) = fw true T 0 := by
  unfold wordI; rw [decide_eq_true (by omega), Int.natAbs_neg, Int.natAbs_natCast]
theorem sum_minus (s : Bool) (m n : Nat) (i j : Int) (h : s = true ∨ m = 0) (hn : 0 < n) :
    Datum.sum (.number s m i) (.number true n j) = some (.number true (m * 2 ^ (i - min i j).toNat + n * 2 ^ (j - min i j).toNat) (min i j)) := by
  unfold Datum.sum
  simp only
  have e : signed s m (i - min i j).toNat + signed true n (j - min i j).toNat = -((m * 2 ^ (i - min i j).toNat + n * 2 ^ (j - min i j).toNat : Nat) : Int) := by
    rw [signed_eq, signed_eq]
    rcases h with rfl | rfl
    · simp only [if_true]; push_cast; omega
    · rw [Nat.zero_mul]
      simp only [if_true]
      generalize n * 2 ^ (j - min i j).toNat = g
      simp
  have hp : 0 < m * 2 ^ (i - min i j).toNat + n * 2 ^ (j - min i j).toNat := by
    have := Nat.mul_pos hn (Nat.two_pow_pos (j - min i j).toNat)
    omega
  generalize m * 2 ^ (i - min i j).toNat + n * 2 ^ (j - min i j).toNat = g at *
  rw [e, if_neg (by omega), decide_eq_true (by omega), Int.natAbs_neg, Int.natAbs_natCast]
/-- A whole number's float, in its own form. -/
theorem canon_whole (T : Nat) (h : T < 9007199254740992) : ∃ m : Nat, ∃ i : Int, Canon m i ∧ i ≤ 0 ∧ (∀ s, fw s T 0 = fw s m i) ∧ m = T * 2 ^ (-i).toNat := by
  by_cases h0 : T = 0
  · subst h0
    exact ⟨0, -1074, canon_zero, by omega, fun s => by rw [fw_zero, fw_zero], by rw [Nat.zero_mul]⟩
  · have hl : T.log2 ≤ 52 := by
      have hh : T.log2 < 53 ↔ T < 2 ^ 53 := Nat.log2_lt h0
      have := hh.2 h
      omega
    obtain ⟨k, _, hc, he⟩ := canon_of T 0 (by omega) h (by omega) (by omega)
    refine ⟨T * 2 ^ k, 0 - k, hc, by omega, he, ?_⟩
    rw [show (-(0 - (k : Int))).toNat = k by omega]
theorem one_less (s : Bool) (T : Nat) (h : T < 4503599627370496) (hs : s = true ∨ T = 0) : double.sub (fw s T 0) 4607182418800017408 = some (fw true (T + 1) 0) := by
  obtain ⟨m, i, hc, hi, hf, hm⟩ := canon_whole T (by omega)
  unfold Format.sub
  rw [hf s, read_canon s m i hc, bits_one, read_canon false _ _ (.inl ⟨by omega, by omega, by omega, by omega⟩)]
  show (Datum.sum (.number s m i) (.number true 4503599627370496 (-52))).map double.write = _
  rw [sum_minus s m _ i (-52) (by rcases hs with hs | hs; exact .inl hs; exact .inr (by rw [hm, hs, Nat.zero_mul])) (by omega)]
  show some (fw true _ (min i (-52))) = _
  have hb : ((-(min i (-52))).toNat : Int) = - min i (-52) := by omega
  have e1 : m * 2 ^ (i - min i (-52)).toNat = T * 2 ^ (-(min i (-52))).toNat := by
    rw [hm, Nat.mul_assoc, ← Nat.pow_add]; congr 2; omega
  have e2 : 4503599627370496 * 2 ^ (-52 - min i (-52)).toNat = 1 * 2 ^ (-(min i (-52))).toNat := by
    have e52 : (4503599627370496 : Nat) = 1 * 2 ^ 52 := rfl
    rw [e52, Nat.mul_assoc, ← Nat.pow_add]; congr 2; omega
  rw [e1, e2, ← Nat.add_mul]
  have := fw_scale true (T + 1) (-(min i (-52))).toNat 0
  rw [show (0 : Int) - ((-(min i (-52))).toNat : Int) = min i (-52) by omega] at this
  rw [this]
/-- What is behind the point. -/
def fracN (m : Nat) (p : Int) : Nat := m % 2 ^ (-p).toNat
/-- The floor. -/
def floorI (s : Bool) (m : Nat) (p : Int) : Int := if s then (if fracN m p = 0 then -(truncN m p : Int) else -(truncN m p : Int) - 1) else (truncN m p : Int)
theorem trunc_small (m : Nat) (p : Int) (h : Canon m p) (hp : p < 0) : truncN m p < 4503599627370496 := by
  rw [trunc_lo m p (by omega)]
  have h1 : m < 9007199254740992 := by rcases h with h | h <;> omega
  have h2 : 2 ^ 1 ≤ 2 ^ (-p).toNat := Nat.pow_le_pow_right (by omega) (by omega)
  rw [Nat.div_lt_iff_lt_mul (Nat.two_pow_pos _)]
  have h3 : 4503599627370496 * 2 ≤ 4503599627370496 * 2 ^ (-p).toNat := Nat.mul_le_mul_left _ h2
  omega
/-- How what is cut stands to the number. -/
theorem sval_trunc (m : Nat) (p : Int) (h : Canon m p) (hp : p < 0) : (fracN m p = 0 → sval false (truncN m p) 0 = sval false m p) ∧ (fracN m p ≠ 0 → sval false (truncN m p) 0 < sval false m p) := by
  have hp2 : -1074 ≤ p := by rcases h with h | h <;> omega
  have hd := Nat.div_add_mod m (2 ^ (-p).toNat)
  have hs := sval_scale false (truncN m p) (-p).toNat 0 (by omega)
  rw [show (0 : Int) - ((-p).toNat : Int) = p by omega] at hs
  rw [trunc_lo m p (by omega)] at hs ⊢
  unfold fracN
  rw [Nat.mul_comm] at hd
  refine ⟨fun h0 => ?_, fun h0 => ?_⟩
  · rw [← hs]; congr 1; omega
  · rw [← hs]; exact sval_lt _ _ _ _ (by omega) (by omega)
theorem rep_whole (T : Nat) (h : T < 9007199254740992) : Rep T 0 := by
  refine ⟨h, by omega, ?_⟩
  by_cases h0 : T = 0
  · exact .inl h0
  · have hh : T.log2 < 53 ↔ T < 2 ^ 53 := Nat.log2_lt h0
    have := hh.2 h
    exact .inr (by omega)
theorem wordI_minus (T : Nat) : ∃ s, (s = true ∨ T = 0) ∧ wordI (-(T : Int)) = fw s T 0 ∧ sval s T 0 = - sval false T 0 := by
  by_cases h : T = 0
  · subst h
    exact ⟨false, .inr rfl, rfl, by rw [sval_zero]; rfl⟩
  · exact ⟨true, .inl rfl, wordI_neg T (by omega), sval_neg T 0⟩
theorem wordI_less (T : Nat) (h : T < 4503599627370496) : double.sub (wordI (-(T : Int))) 4607182418800017408 = some (wordI (-(T : Int) - 1)) := by
  obtain ⟨s, hs, hw, _⟩ := wordI_minus T
  rw [hw, one_less s T h hs, ← wordI_neg (T + 1) (by omega)]
  congr 2
  omega
end Go.Proofs.YtaoccjaaopmfdaaGreatDoor

/- Float operations that the drawing of floats makes: plain. -/
namespace Go.Proofs.YtaoccjaaopmfdaaGreatDoor
open Ieee (double)

theorem width_64 : (2 : Nat) ^ double.width = 18446744073709551616 := by decide
/-- A quotient of two numbers, the second not 0. -/
theorem div_rep (s t : Bool) (a b : Nat) (i j : Int) (ha : Rep a i) (hb : Rep b j) (h0 : 0 < b) : ∃ r, double.div (fw s a i) (fw t b j) = some r ∧ r < 18446744073709551616 := by
  obtain ⟨m, p, hc, hw, _, _⟩ := rep_canon a i ha
  obtain ⟨n, q, kc, kw, _, k0⟩ := rep_canon b j hb
  have hn := k0 h0
  have : ∃ r, double.div (fw s a i) (fw t b j) = some r := by
    rw [hw s, kw t]
    unfold Ieee.Format.div
    rw [read_canon s m p hc, read_canon t n q kc]
    obtain ⟨n', rfl⟩ : ∃ n', n = n' + 1 := ⟨n - 1, by omega⟩
    cases m <;> exact ⟨_, rfl⟩
  obtain ⟨r, hr⟩ := this
  exact ⟨r, hr, by rw [← width_64]; exact double.div_lt hr⟩
theorem bits_100 : (4636737291354636288 : Nat) = fw false 100 0 := by
  have e := fw_scale false 100 46 0
  rw [show (0 : Int) - ((46 : Nat) : Int) = -46 by omega, show 100 * 2 ^ 46 = 7036874417766400 by decide, fw_canon _ _ _ (.inl ⟨by omega, by omega, by omega, by omega⟩)] at e
  rw [← e]; decide
theorem bits_eighth : (4593671619917905920 : Nat) = fw false 4503599627370496 (-3 - 52) := by rw [fw_canon _ _ _ (.inl ⟨by omega, by omega, by omega, by omega⟩)]; decide
theorem minus_one_by_zero : double.div 13830554455654793216 0 = some (iw true) := by decide
theorem fw_word (s : Bool) (m : Nat) (e : Int) : fw s m e < 18446744073709551616 := by rw [← width_64]; exact double.nearest_lt s m e
/-- A minus ahead of a word. -/
theorem neg_lt (x : Nat) (h : x < 18446744073709551616) : Op.negFloat .f64 x < 18446744073709551616 := by
  rcases Nat.lt_or_ge x 9223372036854775808 with h1 | h1
  · have := neg_word false x h1
    rw [show signBit false + x = x from Nat.zero_add x] at this
    rw [this]
    show 9223372036854775808 + x < _
    omega
  · obtain ⟨r, rfl⟩ : ∃ r, x = signBit true + r := ⟨x - 9223372036854775808, by show x = 9223372036854775808 + _; omega⟩
    have hr : r < 9223372036854775808 := by have : signBit true = 9223372036854775808 := rfl; omega
    rw [neg_word true r hr]
    show 0 + r < _
    omega
end Go.Proofs.YtaoccjaaopmfdaaGreatDoor

