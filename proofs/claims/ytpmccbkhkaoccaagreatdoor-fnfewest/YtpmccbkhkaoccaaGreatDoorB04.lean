import Derived.Test.YtpmccbkhkaoccaaGreatDoorB03
import Derived.Deep.RegionWith
import Derived.Lib.TrailingZeros
import Derived.Test.YtpmccbkhkaoccaaGreatDoorB02
/- The kind of a float, as the program tells it. -/
namespace Go.Proofs.YtpmccbkhkaoccaaGreatDoor
open Go.ChangeShapes Go.WideShapes Go.RowKit
open Ieee (double)

set_option maxHeartbeats 400000 in
theorem kind_zero (s : Bool) (w : World) :
    Calls Tryz.prog 46 #[.agg #[.bool s, .int .u64 0, .int .u64 0]] w fun e w' => e = .returned (.int .i64 0) ∧ w' = w.alloc (.cells #[.bool s, .int .u64 0, .int .u64 0] 77) := by
  go_enter Tryz.func46, Tryz.ntmps46
  go_wp2
  go_ret
  exact ⟨rfl, rfl⟩
set_option maxHeartbeats 400000 in
theorem kind_inf (s : Bool) (w : World) :
    Calls Tryz.prog 46 #[.agg #[.bool s, .int .u64 2047, .int .u64 0]] w fun e w' => e = .returned (.int .i64 2) ∧ w' = ((w.alloc (.cells #[.bool s, .int .u64 2047, .int .u64 0] 77)).alloc (.cells #[.bool s, .int .u64 2047, .int .u64 0] 77)).drew := by
  go_enter Tryz.func46, Tryz.ntmps46
  go_wp2
  go_region_with (go_at_call 63; refine (infinity_any _ _).mono ?_; rintro e w' ⟨rfl, rfl⟩)
  all_goals
    go_wp2
    go_ret
    exact ⟨rfl, rfl⟩
set_option maxHeartbeats 400000 in
theorem kind_nan (s : Bool) (M : Nat) (hM : M ≠ 0) (w : World) :
    Calls Tryz.prog 46 #[.agg #[.bool s, .int .u64 2047, .int .u64 M]] w fun e w' => e = .returned (.int .i64 3) ∧ w' = ((w.alloc (.cells #[.bool s, .int .u64 2047, .int .u64 M] 77)).alloc (.cells #[.bool s, .int .u64 2047, .int .u64 0] 77)).drew := by
  have m0 : ((M : Int) == 0) = false := beq_eq_false_iff_ne.2 (by omega)
  clear hM
  go_enter Tryz.func46, Tryz.ntmps46
  go_wp2
  go_region_with (go_at_call 63; refine (infinity_any _ _).mono ?_; rintro e w' ⟨rfl, rfl⟩)
  all_goals
    go_wp2
    go_ret
    exact ⟨rfl, rfl⟩
set_option maxHeartbeats 400000 in
theorem kind_small (s : Bool) (M : Nat) (hM : M ≠ 0) (w : World) :
    Calls Tryz.prog 46 #[.agg #[.bool s, .int .u64 0, .int .u64 M]] w fun e w' => e = .returned (.int .i64 1) ∧ w' = ((w.alloc (.cells #[.bool s, .int .u64 0, .int .u64 M] 77)).alloc (.cells #[.bool s, .int .u64 2047, .int .u64 0] 77)).drew := by
  have m0 : ((M : Int) == 0) = false := beq_eq_false_iff_ne.2 (by omega)
  clear hM
  go_enter Tryz.func46, Tryz.ntmps46
  go_wp2
  go_region_with (go_at_call 63; refine (infinity_any _ _).mono ?_; rintro e w' ⟨rfl, rfl⟩)
  all_goals
    go_wp2
    go_ret
    exact ⟨rfl, rfl⟩
set_option maxHeartbeats 400000 in
theorem kind_normal (s : Bool) (E M : Nat) (h1 : 1 ≤ E) (h2 : E ≤ 2046) (w : World) :
    Calls Tryz.prog 46 #[.agg #[.bool s, .int .u64 E, .int .u64 M]] w fun e w' => e = .returned (.int .i64 1) ∧ w' = ((w.alloc (.cells #[.bool s, .int .u64 E, .int .u64 M] 77)).alloc (.cells #[.bool s, .int .u64 2047, .int .u64 0] 77)).drew := by
  have e0 : ((E : Int) == 0) = false := beq_eq_false_iff_ne.2 (by omega)
  have e1 : ((E : Int) == 2047) = false := beq_eq_false_iff_ne.2 (by omega)
  clear h1 h2
  go_enter Tryz.func46, Tryz.ntmps46
  go_wp2
  go_region_with (go_at_call 63; refine (infinity_any _ _).mono ?_; rintro e w' ⟨rfl, rfl⟩)
  all_goals
    go_wp2
    go_ret
    exact ⟨rfl, rfl⟩
end Go.Proofs.YtpmccbkhkaoccaaGreatDoor

/- The size of a number, as the program tells it. -/
namespace Go.Proofs.YtpmccbkhkaoccaaGreatDoor
open Go.ChangeShapes Go.WideShapes Go.RowKit
open Ieee (double)

set_option maxHeartbeats 400000 in
theorem size_small (s : Bool) (M : Nat) (w : World) :
    Calls Tryz.prog 48 #[.agg #[.bool s, .int .u64 0, .int .u64 (M : Int)]] w fun e w' => e = .returned (.tuple #[.int .u64 (M : Int), .int .i64 (-1074)]) ∧ w' = w.alloc (.cells #[.bool s, .int .u64 0, .int .u64 (M : Int)] 77) := by
  go_enter Tryz.func48, Tryz.ntmps48
  go_wp2
  go_ret2
  exact ⟨rfl, rfl⟩
set_option maxHeartbeats 400000 in
theorem size_normal (s : Bool) (E M : Nat) (h1 : 1 ≤ E) (h2 : E ≤ 2046) (hM : M < 4503599627370496) (w : World) :
    Calls Tryz.prog 48 #[.agg #[.bool s, .int .u64 (E : Int), .int .u64 (M : Int)]] w fun e w' => e = .returned (.tuple #[.int .u64 ((4503599627370496 + M : Nat) : Int), .int .i64 ((E : Int) - 1 + -1074)]) ∧ w' = (w.alloc (.cells #[.bool s, .int .u64 (E : Int), .int .u64 (M : Int)] 77)).drew := by
  have e0 : ((E : Int) == 0) = false := beq_eq_false_iff_ne.2 (by omega)
  have ho := or_one M hM
  have c1 : 1 ≤ (E : Int) := by omega
  have c2 : (E : Int) ≤ 2046 := by omega
  clear hM h1 h2
  go_enter Tryz.func48, Tryz.ntmps48
  go_wp2
  go_region
  all_goals
    go_wp2
    go_ret2
    exact ⟨rfl, rfl⟩
end Go.Proofs.YtpmccbkhkaoccaaGreatDoor

/- bits.TrailingZeros64: how often 2 divides a number. -/
namespace Go.Proofs.YtpmccbkhkaoccaaGreatDoor
open Go.ChangeShapes Go.WideShapes Go.RowKit
open Ieee (double)

/-- The table of the library's, as it lies. -/
def DTab (w : World) : Prop := ∀ j, j < 64 → w.cell? ⟨1, j, none⟩ = some (.int .u8 (Lib.deBruijn64tab.getD j 0))
theorem DTab.below {w w' : World} (h : DTab w) (hz : 1 < w.heap.size) (hb : Below w.heap.size w w') : DTab w' := fun j hj => by
  rw [hb.cell (p := ⟨1, j, none⟩) hz]; exact h j hj
theorem tz_vars (m q t : Nat) (h : m = q * 2 ^ t) (hq : q % 2 = 1) (hm : m < 18446744073709551616) (w : World) (hT : DTab w) : ∃ (Y P Z : Int) (i : Nat),
    IntKind.u64.wrap (-(m : Int)) = Y ∧ bits .and .u64 (m : Int) Y = P ∧ IntKind.u64.wrap (P * 285870213051353865) = Z ∧ Z / 288230376151711744 = (i : Int) ∧ i < 64 ∧ 0 ≤ Z ∧ Z < 18446744073709551616 ∧ t < 64 ∧ w.cell? ⟨1, i, none⟩ = some (.int .u8 (t : Int)) := by
  have h0 : 0 < m := by
    rw [h]; exact Nat.mul_pos (by omega) (Nat.two_pow_pos t)
  have ht : t < 64 := by
    apply Nat.lt_of_not_le
    intro hle
    have h1 : 2 ^ 64 ≤ 2 ^ t := Nat.pow_le_pow_right (by omega) hle
    have h2 : 1 * 2 ^ t ≤ q * 2 ^ t := Nat.mul_le_mul_right _ (by omega)
    have e64 : (2 : Nat) ^ 64 = 18446744073709551616 := rfl
    omega
  have hx : m = 2 ^ t * (2 * (q / 2) + 1) := by rw [h, Nat.mul_comm]; congr 1; omega
  have hand := Lib.and_neg 64 t (q / 2) (by rw [← hx]; exact hm)
  rw [← hx] at hand
  obtain ⟨hi, htab⟩ := Lib.deBruijn64_at t ht
  have e1 : IntKind.u64.wrap (-(m : Int)) = ((2 ^ 64 - m : Nat) : Int) := by rw [IntKind.wrap_u64]; omega
  have e2 : bits .and .u64 (m : Int) ((2 ^ 64 - m : Nat) : Int) = ((2 ^ t : Nat) : Int) := by
    rw [bits_and_u64_nat m _ hm (by omega), hand]
  have e3 : IntKind.u64.wrap (((2 ^ t : Nat) : Int) * 285870213051353865) = ((2 ^ t * 285870213051353865 % 18446744073709551616 : Nat) : Int) := by
    rw [IntKind.wrap_u64]; omega
  have hc := hT _ hi
  rw [htab] at hc
  refine ⟨_, _, _, _, e1, e2, e3, ?_, hi, by omega, ?_, ht, hc⟩
  · omega
  · have : 2 ^ t * 285870213051353865 % 18446744073709551616 < 18446744073709551616 := Nat.mod_lt _ (by omega)
    omega
set_option maxHeartbeats 400000 in
theorem tz_any (m q t : Nat) (h : m = q * 2 ^ t) (hq : q % 2 = 1) (hm : m < 18446744073709551616) (w : World) (hT : DTab w) :
    Calls Tryz.prog 49 #[.int .u64 (m : Int)] w fun e w' => e = .returned (.int .i64 (t : Int)) ∧ w' = w := by
  obtain ⟨Y, P, Z, i, e1, e2, e3, e4, hi, z0, z1, ht, hc⟩ := tz_vars m q t h hq hm w hT
  have m0 : ((m : Int) == 0) = false := by
    rw [beq_eq_false_iff_ne]
    have : 0 < m := by rw [h]; exact Nat.mul_pos (by omega) (Nat.two_pow_pos t)
    omega
  generalize (m : Int) = x at *
  have ht' : (t : Int) < 64 := by omega
  clear h hq hm hT ht
  go_enter Tryz.func49, Tryz.ntmps49
  go_wp2
  go_ret
  exact ⟨rfl, rfl⟩
end Go.Proofs.YtpmccbkhkaoccaaGreatDoor

/- Rounding as the specification reckons it: plain. -/
namespace Go.Proofs.YtpmccbkhkaoccaaGreatDoor
open Ieee

/-- What is kept of M where d digits are dropped. -/
def keptOf (M d : Nat) : Nat := if 2 ^ (d - 1) < M % 2 ^ d ∨ (M % 2 ^ d = 2 ^ (d - 1) ∧ M / 2 ^ d % 2 = 1) then M / 2 ^ d + 1 else M / 2 ^ d
theorem kept_11 (M : Nat) (h1 : 9223372036854775808 ≤ M) (h2 : M < 18446744073709551616) : 4503599627370496 ≤ M / 2 ^ 11 ∧ M / 2 ^ 11 < 9007199254740992 ∧ 4503599627370496 ≤ keptOf M 11 ∧ keptOf M 11 ≤ 9007199254740992 := by
  have a : 4503599627370496 ≤ M / 2 ^ 11 := by rw [Nat.le_div_iff_mul_le (by omega)]; omega
  have b : M / 2 ^ 11 < 9007199254740992 := by rw [Nat.div_lt_iff_lt_mul (by omega)]; omega
  unfold keptOf
  split <;> omega
theorem kept_more (M d : Nat) (h2 : M < 18446744073709551616) (hd : 12 ≤ d) : M / 2 ^ d < 4503599627370496 ∧ keptOf M d ≤ 4503599627370496 := by
  have e : (2 : Nat) ^ 12 ≤ 2 ^ d := Nat.pow_le_pow_right (by omega) hd
  have b : M / 2 ^ d < 4503599627370496 := by
    rw [Nat.div_lt_iff_lt_mul (Nat.two_pow_pos d)]
    have : (2 : Nat) ^ 12 = 4096 := rfl
    have e2 : 4503599627370496 * 4096 ≤ 4503599627370496 * 2 ^ d := Nat.mul_le_mul_left _ (by omega)
    omega
  unfold keptOf
  split <;> omega
theorem near_a (M : Nat) (p : Int) (h1 : 9223372036854775808 ≤ M) (h2 : M < 18446744073709551616) (hp : -1085 ≤ p) :
    fw false M p = min ((p + 11 + 1074).toNat * 4503599627370496 + keptOf M 11) 9218868437227405312 := by
  have hl : lastOf p = p + 11 := by unfold lastOf; omega
  rw [fw_64 false M p h1 h2, hl, show (p + 11 - p).toNat = 11 by omega, cut_64 false M 11 h1 h2 (by omega) (by omega)]
  show 0 + _ = _
  rw [Nat.zero_add]
  rfl
theorem near_b (M : Nat) (p : Int) (h1 : 9223372036854775808 ≤ M) (h2 : M < 18446744073709551616) (hp : p ≤ -1086) (hq : -1138 ≤ p) :
    fw false M p = fw false (keptOf M (-1074 - p).toNat) (-1074) := by
  have hl : lastOf p = -1074 := by unfold lastOf; omega
  have hk := kept_more M (-1074 - p).toNat h2 (by omega)
  rw [fw_64 false M p h1 h2, hl, cut_64 false M _ h1 h2 (by omega) (by omega)]
  show 0 + min (_ + keptOf M _) _ = _
  have hc : Canon (keptOf M (-1074 - p).toNat) (-1074) := by
    by_cases h : keptOf M (-1074 - p).toNat < 4503599627370496
    · exact .inr ⟨h, rfl⟩
    · exact .inl ⟨by omega, by omega, by omega, by omega⟩
  rw [fw_canon false _ _ hc]
  unfold rung
  show 0 + _ = 0 + _
  rw [Nat.min_eq_left (by omega)]
/-- 53 digits kept, no carry. -/
theorem near_a_fits (M : Nat) (p : Int) (h1 : 9223372036854775808 ≤ M) (h2 : M < 18446744073709551616) (hp : -1085 ≤ p) (hq : p + 11 ≤ 971) (hk : keptOf M 11 < 9007199254740992) : fw false M p = fw false (keptOf M 11) (p + 11) := by
  obtain ⟨_, _, k1, _⟩ := kept_11 M h1 h2
  have hc : Canon (keptOf M 11) (p + 11) := .inl ⟨k1, hk, by omega, hq⟩
  have := rung_lt _ _ hc
  rw [near_a M p h1 h2 hp, fw_canon false _ _ hc]
  unfold rung at this ⊢
  show _ = 0 + _
  rw [Nat.min_eq_left (by omega), Nat.zero_add]
/-- A carry into the next place. -/
theorem near_a_carry (M : Nat) (p : Int) (h1 : 9223372036854775808 ≤ M) (h2 : M < 18446744073709551616) (hp : -1085 ≤ p) (hq : p + 11 + 1 ≤ 971) (hk : keptOf M 11 = 9007199254740992) : fw false M p = fw false 4503599627370496 (p + 11 + 1) := by
  have hc : Canon 4503599627370496 (p + 11 + 1) := .inl ⟨by omega, by omega, by omega, hq⟩
  have := rung_lt _ _ hc
  rw [near_a M p h1 h2 hp, fw_canon false _ _ hc, hk]
  unfold rung at this ⊢
  show _ = 0 + _
  rw [Nat.min_eq_left (by omega)]
  omega
/-- Beyond the greatest. -/
theorem near_a_inf (M : Nat) (p : Int) (h1 : 9223372036854775808 ≤ M) (h2 : M < 18446744073709551616) (hp : -1085 ≤ p) (hq : 971 < p + 11 ∨ (keptOf M 11 = 9007199254740992 ∧ 971 < p + 11 + 1)) : fw false M p = iw false := by
  obtain ⟨_, _, k1, _⟩ := kept_11 M h1 h2
  rw [near_a M p h1 h2 hp]
  show _ = 0 + _
  rw [Nat.min_eq_right (by rcases hq with hq | ⟨hk, hq⟩ <;> omega)]
theorem near_far (M : Nat) (p : Int) (h2 : M < 18446744073709551616) (hp : p < -1138) : fw false M p = 0 := by
  rw [fw_tiny false M p h2 (by omega)]; rfl
end Go.Proofs.YtpmccbkhkaoccaaGreatDoor

