import Derived.Test.YtpmccbkhkaoccaaGreatDoorB04
/- Floats of 64 bits: whole numbers, cut towards zero, floors. -/
namespace Go.Proofs.YtpmccbkhkaoccaaGreatDoor
open Ieee

theorem bits_63 : (4890909195324358656 : Nat) = fw false 4503599627370496 11 := by rw [fw_canon _ _ _ (.inl ⟨by omega, by omega, by omega, by omega⟩)]; decide
theorem bits_m63 : (14114281232179134464 : Nat) = fw true 4503599627370496 11 := by rw [fw_canon _ _ _ (.inl ⟨by omega, by omega, by omega, by omega⟩)]; decide
theorem rep_63 : Rep 4503599627370496 11 := canon_rep _ _ (.inl ⟨by omega, by omega, by omega, by omega⟩)
theorem p_high (m : Nat) (p : Int) (h : Canon m p) (hp : 11 ≤ p) : 4503599627370496 ≤ m := by rcases h with h | h <;> omega
theorem size_high (m : Nat) (p : Int) (h : Canon m p) (hp : 11 ≤ p) : sval false 4503599627370496 11 ≤ sval false m p := sval_le _ _ _ _ (p_high m p h hp) hp
theorem form_63 : sval false 4503599627370496 11 = sval false 9007199254740992 10 := by
  have := sval_scale false 4503599627370496 1 11 (by omega)
  rw [← this]; rfl
theorem size_low (m : Nat) (p : Int) (h : Canon m p) (hp : p ≤ 10) : sval false m p < sval false 4503599627370496 11 := by
  rw [form_63]
  exact sval_lt _ _ _ _ (by rcases h with h | h <;> omega) hp
/-- At 2^63 and beyond; below it. -/
theorem ord_63_ge (m : Nat) (p : Int) (h : Canon m p) (hp : 11 ≤ p) : double.order (fw false m p) 4890909195324358656 = some .gt ∨ double.order (fw false m p) 4890909195324358656 = some .eq := by
  rw [bits_63, order_rep false false m _ p 11 (canon_rep m p h) rep_63]
  have := size_high m p h hp
  by_cases he : sval false m p = sval false 4503599627370496 11
  · rw [cmp_eq _ _ he]; exact .inr rfl
  · rw [cmp_gt _ _ (by omega)]; exact .inl rfl
theorem ord_63_lt (s : Bool) (m : Nat) (p : Int) (h : Canon m p) (hp : s = true ∨ p ≤ 10) : double.order (fw s m p) 4890909195324358656 = some .lt := by
  rw [bits_63, order_rep s false m _ p 11 (canon_rep m p h) rep_63]
  have h1 := sval_pos 4503599627370496 11 (by omega)
  have h2 : 0 ≤ sval false m p := by
    by_cases h0 : m = 0
    · subst h0; rw [sval_zero]; omega
    · have := sval_pos m p (by omega); omega
  cases s
  · rcases hp with hp | hp
    · cases hp
    · rw [cmp_lt _ _ (size_low m p h hp)]
  · rw [sval_neg, cmp_lt _ _ (by omega)]
theorem ord_m63_le (m : Nat) (p : Int) (h : Canon m p) (hp : 11 ≤ p) : double.order (fw true m p) 14114281232179134464 = some .lt ∨ double.order (fw true m p) 14114281232179134464 = some .eq := by
  rw [bits_m63, order_rep true true m _ p 11 (canon_rep m p h) rep_63, sval_neg, sval_neg]
  have := size_high m p h hp
  by_cases he : sval false m p = sval false 4503599627370496 11
  · rw [cmp_eq _ _ (by omega)]; exact .inr rfl
  · rw [cmp_lt _ _ (by omega)]; exact .inl rfl
theorem ord_m63_gt (s : Bool) (m : Nat) (p : Int) (h : Canon m p) (hp : s = false ∨ p ≤ 10) : double.order (fw s m p) 14114281232179134464 = some .gt := by
  rw [bits_m63, order_rep s true m _ p 11 (canon_rep m p h) rep_63, sval_neg]
  have h1 := sval_pos 4503599627370496 11 (by omega)
  have h2 : 0 ≤ sval false m p := by
    by_cases h0 : m = 0
    · subst h0; rw [sval_zero]; omega
    · have := sval_pos m p (by omega); omega
  cases s
  · rw [cmp_gt _ _ (by omega)]
  · rcases hp with hp | hp
    · cases hp
    · have := size_low m p h hp
      rw [sval_neg, cmp_gt _ _ (by omega)]
/-- Just -2^63. -/
theorem is_m63 (m : Nat) (p : Int) (h : Canon m p) (he : double.order (fw true m p) 14114281232179134464 = some .eq) : m = 4503599627370496 ∧ p = 11 := by
  rw [bits_m63, order_rep true true m _ p 11 (canon_rep m p h) rep_63, sval_neg, sval_neg] at he
  have hv : sval false m p = sval false 4503599627370496 11 := by
    by_cases h1 : - sval false m p < - sval false 4503599627370496 11
    · rw [cmp_lt _ _ h1] at he; cases he
    · by_cases h2 : - sval false m p = - sval false 4503599627370496 11
      · omega
      · rw [cmp_gt _ _ (by omega)] at he; cases he
  have hp : p = 11 := by
    by_cases a : p ≤ 10
    · have := size_low m p h a; omega
    · by_cases b : 12 ≤ p
      · have h1 := p_high m p h (by omega)
        have h2 : sval false 4503599627370496 11 < sval false 9007199254740992 11 := sval_lt _ _ _ _ (by omega) (by omega)
        have h3 : sval false 9007199254740992 11 = sval false 4503599627370496 12 := by
          have := sval_scale false 4503599627370496 1 12 (by omega)
          rw [← this]; rfl
        have h4 : sval false 4503599627370496 12 ≤ sval false m p := sval_le _ _ _ _ h1 b
        omega
      · omega
  subst hp
  refine ⟨?_, rfl⟩
  have h1 := p_high m 11 h (by omega)
  by_cases a : 4503599627370496 < m
  · have := sval_lt 4503599627370496 m 11 11 a (by omega); omega
  · omega
/-- Cut towards zero. -/
def truncN (m : Nat) (p : Int) : Nat := m * 2 ^ p.toNat / 2 ^ (-p).toNat
theorem toInt_fw (s : Bool) (m : Nat) (p : Int) (h : Canon m p) : Datum.toInt .zero (double.read (fw s m p)) = some (if s then -(truncN m p : Int) else (truncN m p : Int)) := by
  rw [read_canon s m p h, toInt_number, signed_eq, Nat.pow_zero, Nat.mul_one]
  unfold truncN
  cases s
  · simp
  · simp
theorem trunc_hi (m : Nat) (p : Int) (h : 0 ≤ p) : truncN m p = m * 2 ^ p.toNat := by
  unfold truncN
  rw [show (-p).toNat = 0 by omega, Nat.pow_zero, Nat.div_one]
theorem trunc_lo (m : Nat) (p : Int) (h : p ≤ 0) : truncN m p = m / 2 ^ (-p).toNat := by
  unfold truncN
  rw [show p.toNat = 0 by omega, Nat.pow_zero, Nat.mul_one]
theorem trunc_lt (m : Nat) (p : Int) (h : Canon m p) (hp : p ≤ 10) : truncN m p < 9223372036854775808 := by
  by_cases h0 : 0 ≤ p
  · rw [trunc_hi m p h0]
    have h1 : m < 9007199254740992 := by rcases h with h | h <;> omega
    have h2 : 2 ^ p.toNat ≤ 2 ^ 10 := Nat.pow_le_pow_right (by omega) (by omega)
    have h3 : m * 2 ^ p.toNat ≤ m * 1024 := Nat.mul_le_mul_left _ h2
    omega
  · rw [trunc_lo m p (by omega)]
    have h1 : m < 9007199254740992 := by rcases h with h | h <;> omega
    have := Nat.div_le_self m (2 ^ (-p).toNat)
    omega
end Go.Proofs.YtpmccbkhkaoccaaGreatDoor

/- Floats of 64 bits: the floats of whole numbers; one less; floors. -/
namespace Go.Proofs.YtpmccbkhkaoccaaGreatDoor
open Ieee

/-- The float of a whole number. -/
def wordI (n : Int) : Nat := fw (decide (n < 0)) n.natAbs 0
theorem floatOf_is (n : Int) : floatOfInt .f64 n = wordI n := rfl
theorem wordI_pos (T : Nat) : wordI (T : Int) = fw false T 0 := by
  unfold wordI; rw [decide_eq_false (by omega), Int.natAbs_natCast]
theorem wordI_neg (T : Nat) (h : 0 < T) : wordI (-(T : Int)) = fw true T 0 := by
  unfold wordI; rw [decide_eq_true (by omega), Int.natAbs_neg, Int.natAbs_natCast]
theorem sum_minus (s : Bool) (m n : Nat) (i j : Int) (h : s = true ∨ m = 0) (hn : 0 < n) :
    Datum.sum (.number s m i) (.number true n j) = some (.number true (m * 2 ^ (i - min i j).toNat + n * 2 ^ (j - min i j).toNat) (min i j)) := by
  unfold Datum.sum
  simp only
  have e : signed s m (i - min i j).toNat + signed true n (j - min i j).toNat = -((m * 2 ^ (i - min i j).toNat + n * 2 ^ (j - min i j).toNat : Nat) : Int) := by
    rw [signed_eq, signed_eq]
    rcases h with rfl | rfl
    · simp only [if_true]; push_cast; omega
    · rw [Nat.zero_mul]
      simp only [if_true]
      generalize n * 2 ^ (j - min i j).toNat = g
      simp
  have hp : 0 < m * 2 ^ (i - min i j).toNat + n * 2 ^ (j - min i j).toNat := by
    have := Nat.mul_pos hn (Nat.two_pow_pos (j - min i j).toNat)
    omega
  generalize m * 2 ^ (i - min i j).toNat + n * 2 ^ (j - min i j).toNat = g at *
  rw [e, if_neg (by omega), decide_eq_true (by omega), Int.natAbs_neg, Int.natAbs_natCast]
/-- A whole number's float, in its own form. -/
theorem canon_whole (T : Nat) (h : T < 9007199254740992) : ∃ m : Nat, ∃ i : Int, Canon m i ∧ i ≤ 0 ∧ (∀ s, fw s T 0 = fw s m i) ∧ m = T * 2 ^ (-i).toNat := by
  by_cases h0 : T = 0
  · subst h0
    exact ⟨0, -1074, canon_zero, by omega, fun s => by rw [fw_zero, fw_zero], by rw [Nat.zero_mul]⟩
  · have hl : T.log2 ≤ 52 := by
      have hh : T.log2 < 53 ↔ T < 2 ^ 53 := Nat.log2_lt h0
      have := hh.2 h
      omega
    obtain ⟨k, _, hc, he⟩ := canon_of T 0 (by omega) h (by omega) (by omega)
    refine ⟨T * 2 ^ k, 0 - k, hc, by omega, he, ?_⟩
    rw [show (-(0 - (k : Int))).toNat = k by omega]
theorem one_less (s : Bool) (T : Nat) (h : T < 4503599627370496) (hs : s = true ∨ T = 0) : double.sub (fw s T 0) 4607182418800017408 = some (fw true (T + 1) 0) := by
  obtain ⟨m, i, hc, hi, hf, hm⟩ := canon_whole T (by omega)
  unfold Format.sub
  rw [hf s, read_canon s m i hc, bits_one, read_canon false _ _ (.inl ⟨by omega, by omega, by omega, by omega⟩)]
  show (Datum.sum (.number s m i) (.number true 4503599627370496 (-52))).map double.write = _
  rw [sum_minus s m _ i (-52) (by rcases hs with hs | hs; exact .inl hs; exact .inr (by rw [hm, hs, Nat.zero_mul])) (by omega)]
  show some (fw true _ (min i (-52))) = _
  have hb : ((-(min i (-52))).toNat : Int) = - min i (-52) := by omega
  have e1 : m * 2 ^ (i - min i (-52)).toNat = T * 2 ^ (-(min i (-52))).toNat := by
    rw [hm, Nat.mul_assoc, ← Nat.pow_add]; congr 2; omega
  have e2 : 4503599627370496 * 2 ^ (-52 - min i (-52)).toNat = 1 * 2 ^ (-(min i (-52))).toNat := by
    have e52 : (4503599627370496 : Nat) = 1 * 2 ^ 52 := rfl
    rw [e52, Nat.mul_assoc, ← Nat.pow_add]; congr 2; omega
  rw [e1, e2, ← Nat.add_mul]
  have := fw_scale true (T + 1) (-(min i (-52))).toNat 0
  rw [show (0 : Int) - ((-(min i (-52))).toNat : Int) = min i (-52) by omega] at this
  rw [this]
/-- What is behind the point. -/
def fracN (m : Nat) (p : Int) : Nat := m % 2 ^ (-p).toNat
/-- The floor. -/
def floorI (s : Bool) (m : Nat) (p : Int) : Int := if s then (if fracN m p = 0 then -(truncN m p : Int) else -(truncN m p : Int) - 1) else (truncN m p : Int)
theorem trunc_small (m : Nat) (p : Int) (h : Canon m p) (hp : p < 0) : truncN m p < 4503599627370496 := by
  rw [trunc_lo m p (by omega)]
  have h1 : m < 9007199254740992 := by rcases h with h | h <;> omega
  have h2 : 2 ^ 1 ≤ 2 ^ (-p).toNat := Nat.pow_le_pow_right (by omega) (by omega)
  rw [Nat.div_lt_iff_lt_mul (Nat.two_pow_pos _)]
  have h3 : 4503599627370496 * 2 ≤ 4503599627370496 * 2 ^ (-p).toNat := Nat.mul_le_mul_left _ h2
  omega
/-- How what is cut stands to the number. -/
theorem sval_trunc (m : Nat) (p : Int) (h : Canon m p) (hp : p < 0) : (fracN m p = 0 → sval false (truncN m p) 0 = sval false m p) ∧ (fracN m p ≠ 0 → sval false (truncN m p) 0 < sval false m p) := by
  have hp2 : -1074 ≤ p := by rcases h with h | h <;> omega
  have hd := Nat.div_add_mod m (2 ^ (-p).toNat)
  have hs := sval_scale false (truncN m p) (-p).toNat 0 (by omega)
  rw [show (0 : Int) - ((-p).toNat : Int) = p by omega] at hs
  rw [trunc_lo m p (by omega)] at hs ⊢
  unfold fracN
  rw [Nat.mul_comm] at hd
  refine ⟨fun h0 => ?_, fun h0 => ?_⟩
  · rw [← hs]; congr 1; omega
  · rw [← hs]; exact sval_lt _ _ _ _ (by omega) (by omega)
theorem rep_whole (T : Nat) (h : T < 9007199254740992) : Rep T 0 := by
  refine ⟨h, by omega, ?_⟩
  by_cases h0 : T = 0
  · exact .inl h0
  · have hh : T.log2 < 53 ↔ T < 2 ^ 53 := Nat.log2_lt h0
    have := hh.2 h
    exact .inr (by omega)
theorem wordI_minus (T : Nat) : ∃ s, (s = true ∨ T = 0) ∧ wordI (-(T : Int)) = fw s T 0 ∧ sval s T 0 = - sval false T 0 := by
  by_cases h : T = 0
  · subst h
    exact ⟨false, .inr rfl, rfl, by rw [sval_zero]; rfl⟩
  · exact ⟨true, .inl rfl, wordI_neg T (by omega), sval_neg T 0⟩
theorem wordI_less (T : Nat) (h : T < 4503599627370496) : double.sub (wordI (-(T : Int))) 4607182418800017408 = some (wordI (-(T : Int) - 1)) := by
  obtain ⟨s, hs, hw, _⟩ := wordI_minus T
  rw [hw, one_less s T h hs, ← wordI_neg (T + 1) (by omega)]
  congr 2
  omega
end Go.Proofs.YtpmccbkhkaoccaaGreatDoor

/- What PartsOf answers (plain). -/
namespace Go.Proofs.YtpmccbkhkaoccaaGreatDoor

/-- What a float is taken apart into: kind, sign, an odd number, a power of two. -/
def partsV (x : Nat) (k : Int) (s : Bool) (m e : Int) : Prop :=
  (IsNan x ∧ k = 3 ∧ s = false ∧ m = 0 ∧ e = 0) ∨ (x = iw s ∧ k = 2 ∧ m = 0 ∧ e = 0) ∨ (x = signBit s ∧ k = 0 ∧ m = 0 ∧ e = 0)
  ∨ (∃ (n : Nat) (p : Int) (q t : Nat), Canon n p ∧ 0 < n ∧ x = fw s n p ∧ n = q * 2 ^ t ∧ q % 2 = 1 ∧ k = 1 ∧ m = q ∧ e = p + t)
theorem half_even (n t : Nat) (q : Int) (h : n = q.toNat * 2 ^ t) (h0 : 0 < q) (he : q % 2 = 0) : n = (q / 2).toNat * 2 ^ (t + 1) := by
  have e : q.toNat = (q / 2).toNat * 2 := by omega
  rw [h, e, Nat.pow_succ, Nat.mul_assoc, Nat.mul_comm 2]
theorem few_halves (n t : Nat) (q : Int) (h : n = q.toNat * 2 ^ t) (h0 : 0 < q) (hn : n < 9007199254740992) : t ≤ 52 := by
  have h1 : 1 * 2 ^ t ≤ q.toNat * 2 ^ t := Nat.mul_le_mul_right _ (by omega)
  have h2 : 2 ^ t < 2 ^ 53 := by
    have : (2 : Nat) ^ 53 = 9007199254740992 := rfl
    omega
  have := (Nat.pow_lt_pow_iff_right (a := 2) (by omega)).1 h2
  omega
end Go.Proofs.YtpmccbkhkaoccaaGreatDoor

/- PartsOf of the program. -/
namespace Go.Proofs.YtpmccbkhkaoccaaGreatDoor
open Go.ChangeShapes Go.WideShapes Go.RowKit
open Ieee (double)

set_option maxHeartbeats 400000 in
theorem implParts_nan (U : Nat) (s : Bool) (M : Nat) (hL : Lays U s 2047 M) (hM : M ≠ 0) (w : World) :
    Calls Tryz.prog 18 #[.float .f64 U] w fun e w' => e = .returned (.agg #[.int .i64 3, .bool false, .int .i64 0, .int .i64 0]) ∧ Below w.heap.size w w' := by
  have HL : Hid _ := fun w => layoutOf_any U s 2047 M hL w
  have HK : Hid _ := fun w => kind_nan s M hM w
  clear hL hM
  go_enter Tryz.func18, Tryz.ntmps18
  go_wp2_with (first | (go_at_call 45; refine (HL.out _).mono ?_; rintro e w' ⟨rfl, rfl⟩) | (go_at_call 46; refine (HK.out _).mono ?_; rintro e w' ⟨rfl, rfl⟩))
  exact bodyPost_ret (v := .agg #[.int .i64 3, .bool false, .int .i64 0, .int .i64 0]) (by simp [results, Tryz.results18, go_sem]) rfl ⟨rfl, (by repeat (first | exact Below.refl _ _ | refine Below.drew ?_ | refine below_drewN ?_ _ | refine Below.setCell ?_ (by simp <;> omega) _ | refine Below.alloc ?_ (by simp <;> omega) _))⟩
set_option maxHeartbeats 400000 in
theorem implParts_inf (U : Nat) (s : Bool) (hL : Lays U s 2047 0) (w : World) :
    Calls Tryz.prog 18 #[.float .f64 U] w fun e w' => e = .returned (.agg #[.int .i64 2, .bool s, .int .i64 0, .int .i64 0]) ∧ Below w.heap.size w w' := by
  have HL : Hid _ := fun w => layoutOf_any U s 2047 0 hL w
  have HK : Hid _ := fun w => kind_inf s w
  clear hL
  go_enter Tryz.func18, Tryz.ntmps18
  go_wp2_with (first | (go_at_call 45; refine (HL.out _).mono ?_; rintro e w' ⟨rfl, rfl⟩) | (go_at_call 46; refine (HK.out _).mono ?_; rintro e w' ⟨rfl, rfl⟩))
  exact bodyPost_ret (v := .agg #[.int .i64 2, .bool s, .int .i64 0, .int .i64 0]) (by simp [results, Tryz.results18, go_sem]) rfl ⟨rfl, (by repeat (first | exact Below.refl _ _ | refine Below.drew ?_ | refine below_drewN ?_ _ | refine Below.setCell ?_ (by simp <;> omega) _ | refine Below.alloc ?_ (by simp <;> omega) _))⟩
set_option maxHeartbeats 400000 in
theorem implParts_zero (U : Nat) (s : Bool) (hL : Lays U s 0 0) (w : World) :
    Calls Tryz.prog 18 #[.float .f64 U] w fun e w' => e = .returned (.agg #[.int .i64 0, .bool s, .int .i64 0, .int .i64 0]) ∧ Below w.heap.size w w' := by
  have HL : Hid _ := fun w => layoutOf_any U s 0 0 hL w
  have HK : Hid _ := fun w => kind_zero s w
  clear hL
  go_enter Tryz.func18, Tryz.ntmps18
  go_wp2_with (first | (go_at_call 45; refine (HL.out _).mono ?_; rintro e w' ⟨rfl, rfl⟩) | (go_at_call 46; refine (HK.out _).mono ?_; rintro e w' ⟨rfl, rfl⟩))
  exact bodyPost_ret (v := .agg #[.int .i64 0, .bool s, .int .i64 0, .int .i64 0]) (by simp [results, Tryz.results18, go_sem]) rfl ⟨rfl, (by repeat (first | exact Below.refl _ _ | refine Below.drew ?_ | refine below_drewN ?_ _ | refine Below.setCell ?_ (by simp <;> omega) _ | refine Below.alloc ?_ (by simp <;> omega) _))⟩

set_option maxHeartbeats 1000000 in
theorem implParts_small (U : Nat) (s : Bool) (M : Nat) (hL : Lays U s 0 M) (n : Nat) (p : Int) (q t : Nat) (hn : n = q * 2 ^ t) (hq : q % 2 = 1) (hn' : n < 9007199254740992) (hp : -1074 ≤ p) (hp' : p ≤ 971)
    (hK : ∀ w, Calls Tryz.prog 46 #[.agg #[.bool s, .int .u64 ((0 : Nat) : Int), .int .u64 (M : Int)]] w fun e w' => e = .returned (.int .i64 1) ∧ w' = ((w.alloc (.cells #[.bool s, .int .u64 ((0 : Nat) : Int), .int .u64 (M : Int)] 77)).alloc (.cells #[.bool s, .int .u64 2047, .int .u64 0] 77)).drew)
    (hS : ∀ w, Calls Tryz.prog 48 #[.agg #[.bool s, .int .u64 ((0 : Nat) : Int), .int .u64 (M : Int)]] w fun e w' => e = .returned (.tuple #[.int .u64 (n : Int), .int .i64 p]) ∧ w' = (w.alloc (.cells #[.bool s, .int .u64 ((0 : Nat) : Int), .int .u64 (M : Int)] 77))) (w : World) (hT : DTab w) (hz : 1 < w.heap.size) :
    Calls Tryz.prog 18 #[.float .f64 U] w fun e w' => e = .returned (.agg #[.int .i64 1, .bool s, .int .i64 (q : Int), .int .i64 (p + t)]) ∧ Below w.heap.size w w' := by
  have HL : Hid _ := fun w => layoutOf_any U s 0 M hL w
  have HK : Hid _ := hK
  have HS : Hid _ := hS
  have HT : Hid _ := fun w' (hb : Below w.heap.size w w') => tz_any n q t hn hq (by omega) w' (DTab.below hT hz hb)
  have ht := few_halves n t (q : Int) (by rw [Int.toNat_natCast]; exact hn) (by omega) hn'
  have hsh : (n : Int) / 2 ^ t = (q : Int) := by
    rw [hn, Int.natCast_mul, Int.natCast_pow]
    exact Int.mul_ediv_cancel _ (by have := Nat.two_pow_pos t; have e : ((2 : Nat) : Int) ^ t = ((2 ^ t : Nat) : Int) := (Int.natCast_pow 2 t).symm; rw [e]; omega)
  have hq1 : (q : Int) < 9007199254740992 := by
    have : q * 1 ≤ q * 2 ^ t := Nat.mul_le_mul_left _ (Nat.two_pow_pos t)
    omega
  have ht1 : (t : Int) ≤ 52 := by omega
  generalize (n : Int) = x at *
  clear hL hK hS hn hq hn' ht hT hz
  go_enter Tryz.func18, Tryz.ntmps18
  go_wp2_with (first | (go_at_call 45; refine (HL.out _).mono ?_; rintro e w' ⟨rfl, rfl⟩) | (go_at_call 46; refine (HK.out _).mono ?_; rintro e w' ⟨rfl, rfl⟩) | (go_at_call 48; refine (HS.out _).mono ?_; rintro e w' ⟨rfl, rfl⟩))
  refine (HT.out _ (by repeat (first | exact Below.refl _ _ | refine Below.drew ?_ | refine below_drewN ?_ _ | refine Below.setCell ?_ (by simp <;> omega) _ | refine Below.alloc ?_ (by simp <;> omega) _))).mono ?_
  rintro e w' ⟨rfl, rfl⟩
  go_wp2
  go_region
  all_goals go_wp2
  all_goals exact bodyPost_ret (v := .agg #[.int .i64 1, .bool s, .int .i64 (q : Int), .int .i64 (p + t)]) (by simp [results, Tryz.results18, go_sem]) rfl ⟨rfl, (by repeat (first | exact Below.refl _ _ | refine Below.drew ?_ | refine below_drewN ?_ _ | refine Below.setCell ?_ (by simp <;> omega) _ | refine Below.alloc ?_ (by simp <;> omega) _))⟩
set_option maxHeartbeats 1000000 in
theorem implParts_normal (U : Nat) (s : Bool) (E M : Nat) (hL : Lays U s E M) (n : Nat) (p : Int) (q t : Nat) (hn : n = q * 2 ^ t) (hq : q % 2 = 1) (hn' : n < 9007199254740992) (hp : -1074 ≤ p) (hp' : p ≤ 971)
    (hK : ∀ w, Calls Tryz.prog 46 #[.agg #[.bool s, .int .u64 ((E : Nat) : Int), .int .u64 (M : Int)]] w fun e w' => e = .returned (.int .i64 1) ∧ w' = ((w.alloc (.cells #[.bool s, .int .u64 ((E : Nat) : Int), .int .u64 (M : Int)] 77)).alloc (.cells #[.bool s, .int .u64 2047, .int .u64 0] 77)).drew)
    (hS : ∀ w, Calls Tryz.prog 48 #[.agg #[.bool s, .int .u64 ((E : Nat) : Int), .int .u64 (M : Int)]] w fun e w' => e = .returned (.tuple #[.int .u64 (n : Int), .int .i64 p]) ∧ w' = (w.alloc (.cells #[.bool s, .int .u64 ((E : Nat) : Int), .int .u64 (M : Int)] 77)).drew) (w : World) (hT : DTab w) (hz : 1 < w.heap.size) :
    Calls Tryz.prog 18 #[.float .f64 U] w fun e w' => e = .returned (.agg #[.int .i64 1, .bool s, .int .i64 (q : Int), .int .i64 (p + t)]) ∧ Below w.heap.size w w' := by
  have HL : Hid _ := fun w => layoutOf_any U s E M hL w
  have HK : Hid _ := hK
  have HS : Hid _ := hS
  have HT : Hid _ := fun w' (hb : Below w.heap.size w w') => tz_any n q t hn hq (by omega) w' (DTab.below hT hz hb)
  have ht := few_halves n t (q : Int) (by rw [Int.toNat_natCast]; exact hn) (by omega) hn'
  have hsh : (n : Int) / 2 ^ t = (q : Int) := by
    rw [hn, Int.natCast_mul, Int.natCast_pow]
    exact Int.mul_ediv_cancel _ (by have := Nat.two_pow_pos t; have e : ((2 : Nat) : Int) ^ t = ((2 ^ t : Nat) : Int) := (Int.natCast_pow 2 t).symm; rw [e]; omega)
  have hq1 : (q : Int) < 9007199254740992 := by
    have : q * 1 ≤ q * 2 ^ t := Nat.mul_le_mul_left _ (Nat.two_pow_pos t)
    omega
  have ht1 : (t : Int) ≤ 52 := by omega
  generalize (n : Int) = x at *
  clear hL hK hS hn hq hn' ht hT hz
  go_enter Tryz.func18, Tryz.ntmps18
  go_wp2_with (first | (go_at_call 45; refine (HL.out _).mono ?_; rintro e w' ⟨rfl, rfl⟩) | (go_at_call 46; refine (HK.out _).mono ?_; rintro e w' ⟨rfl, rfl⟩) | (go_at_call 48; refine (HS.out _).mono ?_; rintro e w' ⟨rfl, rfl⟩))
  refine (HT.out _ (by repeat (first | exact Below.refl _ _ | refine Below.drew ?_ | refine below_drewN ?_ _ | refine Below.setCell ?_ (by simp <;> omega) _ | refine Below.alloc ?_ (by simp <;> omega) _))).mono ?_
  rintro e w' ⟨rfl, rfl⟩
  go_wp2
  go_region
  all_goals go_wp2
  all_goals exact bodyPost_ret (v := .agg #[.int .i64 1, .bool s, .int .i64 (q : Int), .int .i64 (p + t)]) (by simp [results, Tryz.results18, go_sem]) rfl ⟨rfl, (by repeat (first | exact Below.refl _ _ | refine Below.drew ?_ | refine below_drewN ?_ _ | refine Below.setCell ?_ (by simp <;> omega) _ | refine Below.alloc ?_ (by simp <;> omega) _))⟩
end Go.Proofs.YtpmccbkhkaoccaaGreatDoor

