import Derived.Test.YtpmccbkhkaoccaaDoorA04
import Derived.Deep.RegionWith
import Derived.Test.YtpmccbkhkaoccaaDoorA03
import Derived.Lib.TrailingZeros
/- The kind of a float, as the program tells it. -/
namespace Go.Proofs.YtpmccbkhkaoccaaDoor
open Go.ChangeShapes Go.WideShapes Go.RowKit
open Ieee (double)

set_option maxHeartbeats 400000 in
theorem kind_zero (s : Bool) (w : World) :
    Calls Tryd.prog 36 #[.agg #[.bool s, .int .u64 0, .int .u64 0]] w fun e w' => e = .returned (.int .i64 0) ∧ w' = w.alloc (.cells #[.bool s, .int .u64 0, .int .u64 0] 62) := by
  go_enter Tryd.func36, Tryd.ntmps36
  go_wp2
  go_ret
  exact ⟨rfl, rfl⟩
set_option maxHeartbeats 400000 in
theorem kind_inf (s : Bool) (w : World) :
    Calls Tryd.prog 36 #[.agg #[.bool s, .int .u64 2047, .int .u64 0]] w fun e w' => e = .returned (.int .i64 2) ∧ w' = ((w.alloc (.cells #[.bool s, .int .u64 2047, .int .u64 0] 62)).alloc (.cells #[.bool s, .int .u64 2047, .int .u64 0] 62)).drew := by
  go_enter Tryd.func36, Tryd.ntmps36
  go_wp2
  go_region_with (go_at_call 53; refine (infinity_any _ _).mono ?_; rintro e w' ⟨rfl, rfl⟩)
  all_goals
    go_wp2
    go_ret
    exact ⟨rfl, rfl⟩
set_option maxHeartbeats 400000 in
theorem kind_nan (s : Bool) (M : Nat) (hM : M ≠ 0) (w : World) :
    Calls Tryd.prog 36 #[.agg #[.bool s, .int .u64 2047, .int .u64 M]] w fun e w' => e = .returned (.int .i64 3) ∧ w' = ((w.alloc (.cells #[.bool s, .int .u64 2047, .int .u64 M] 62)).alloc (.cells #[.bool s, .int .u64 2047, .int .u64 0] 62)).drew := by
  have m0 : ((M : Int) == 0) = false := beq_eq_false_iff_ne.2 (by omega)
  clear hM
  go_enter Tryd.func36, Tryd.ntmps36
  go_wp2
  go_region_with (go_at_call 53; refine (infinity_any _ _).mono ?_; rintro e w' ⟨rfl, rfl⟩)
  all_goals
    go_wp2
    go_ret
    exact ⟨rfl, rfl⟩
set_option maxHeartbeats 400000 in
theorem kind_small (s : Bool) (M : Nat) (hM : M ≠ 0) (w : World) :
    Calls Tryd.prog 36 #[.agg #[.bool s, .int .u64 0, .int .u64 M]] w fun e w' => e = .returned (.int .i64 1) ∧ w' = ((w.alloc (.cells #[.bool s, .int .u64 0, .int .u64 M] 62)).alloc (.cells #[.bool s, .int .u64 2047, .int .u64 0] 62)).drew := by
  have m0 : ((M : Int) == 0) = false := beq_eq_false_iff_ne.2 (by omega)
  clear hM
  go_enter Tryd.func36, Tryd.ntmps36
  go_wp2
  go_region_with (go_at_call 53; refine (infinity_any _ _).mono ?_; rintro e w' ⟨rfl, rfl⟩)
  all_goals
    go_wp2
    go_ret
    exact ⟨rfl, rfl⟩
set_option maxHeartbeats 400000 in
theorem kind_normal (s : Bool) (E M : Nat) (h1 : 1 ≤ E) (h2 : E ≤ 2046) (w : World) :
    Calls Tryd.prog 36 #[.agg #[.bool s, .int .u64 E, .int .u64 M]] w fun e w' => e = .returned (.int .i64 1) ∧ w' = ((w.alloc (.cells #[.bool s, .int .u64 E, .int .u64 M] 62)).alloc (.cells #[.bool s, .int .u64 2047, .int .u64 0] 62)).drew := by
  have e0 : ((E : Int) == 0) = false := beq_eq_false_iff_ne.2 (by omega)
  have e1 : ((E : Int) == 2047) = false := beq_eq_false_iff_ne.2 (by omega)
  clear h1 h2
  go_enter Tryd.func36, Tryd.ntmps36
  go_wp2
  go_region_with (go_at_call 53; refine (infinity_any _ _).mono ?_; rintro e w' ⟨rfl, rfl⟩)
  all_goals
    go_wp2
    go_ret
    exact ⟨rfl, rfl⟩
end Go.Proofs.YtpmccbkhkaoccaaDoor

/- The size of a number, as the program tells it. -/
namespace Go.Proofs.YtpmccbkhkaoccaaDoor
open Go.ChangeShapes Go.WideShapes Go.RowKit
open Ieee (double)

set_option maxHeartbeats 400000 in
theorem size_small (s : Bool) (M : Nat) (w : World) :
    Calls Tryd.prog 37 #[.agg #[.bool s, .int .u64 0, .int .u64 (M : Int)]] w fun e w' => e = .returned (.tuple #[.int .u64 (M : Int), .int .i64 (-1074)]) ∧ w' = w.alloc (.cells #[.bool s, .int .u64 0, .int .u64 (M : Int)] 62) := by
  go_enter Tryd.func37, Tryd.ntmps37
  go_wp2
  go_ret2
  exact ⟨rfl, rfl⟩
set_option maxHeartbeats 400000 in
theorem size_normal (s : Bool) (E M : Nat) (h1 : 1 ≤ E) (h2 : E ≤ 2046) (hM : M < 4503599627370496) (w : World) :
    Calls Tryd.prog 37 #[.agg #[.bool s, .int .u64 (E : Int), .int .u64 (M : Int)]] w fun e w' => e = .returned (.tuple #[.int .u64 ((4503599627370496 + M : Nat) : Int), .int .i64 ((E : Int) - 1 + -1074)]) ∧ w' = (w.alloc (.cells #[.bool s, .int .u64 (E : Int), .int .u64 (M : Int)] 62)).drew := by
  have e0 : ((E : Int) == 0) = false := beq_eq_false_iff_ne.2 (by omega)
  have ho := or_one M hM
  have c1 : 1 ≤ (E : Int) := by omega
  have c2 : (E : Int) ≤ 2046 := by omega
  clear hM h1 h2
  go_enter Tryd.func37, Tryd.ntmps37
  go_wp2
  go_region
  all_goals
    go_wp2
    go_ret2
    exact ⟨rfl, rfl⟩
end Go.Proofs.YtpmccbkhkaoccaaDoor

/- bits.TrailingZeros64: how often 2 divides a number. -/
namespace Go.Proofs.YtpmccbkhkaoccaaDoor
open Go.ChangeShapes Go.WideShapes Go.RowKit
open Ieee (double)

/-- The table of the library's, as it lies. -/
def DTab (w : World) : Prop := ∀ j, j < 64 → w.cell? ⟨0, j, none⟩ = some (.int .u8 (Lib.deBruijn64tab.getD j 0))
theorem DTab.below {w w' : World} (h : DTab w) (hz : 0 < w.heap.size) (hb : Below w.heap.size w w') : DTab w' := fun j hj => by
  rw [hb.cell (p := ⟨0, j, none⟩) hz]; exact h j hj
theorem tz_vars (m q t : Nat) (h : m = q * 2 ^ t) (hq : q % 2 = 1) (hm : m < 18446744073709551616) (w : World) (hT : DTab w) : ∃ (Y P Z : Int) (i : Nat),
    IntKind.u64.wrap (-(m : Int)) = Y ∧ bits .and .u64 (m : Int) Y = P ∧ IntKind.u64.wrap (P * 285870213051353865) = Z ∧ Z / 288230376151711744 = (i : Int) ∧ i < 64 ∧ 0 ≤ Z ∧ Z < 18446744073709551616 ∧ t < 64 ∧ w.cell? ⟨0, i, none⟩ = some (.int .u8 (t : Int)) := by
  have h0 : 0 < m := by
    rw [h]; exact Nat.mul_pos (by omega) (Nat.two_pow_pos t)
  have ht : t < 64 := by
    apply Nat.lt_of_not_le
    intro hle
    have h1 : 2 ^ 64 ≤ 2 ^ t := Nat.pow_le_pow_right (by omega) hle
    have h2 : 1 * 2 ^ t ≤ q * 2 ^ t := Nat.mul_le_mul_right _ (by omega)
    have e64 : (2 : Nat) ^ 64 = 18446744073709551616 := rfl
    omega
  have hx : m = 2 ^ t * (2 * (q / 2) + 1) := by rw [h, Nat.mul_comm]; congr 1; omega
  have hand := Lib.and_neg 64 t (q / 2) (by rw [← hx]; exact hm)
  rw [← hx] at hand
  obtain ⟨hi, htab⟩ := Lib.deBruijn64_at t ht
  have e1 : IntKind.u64.wrap (-(m : Int)) = ((2 ^ 64 - m : Nat) : Int) := by rw [IntKind.wrap_u64]; omega
  have e2 : bits .and .u64 (m : Int) ((2 ^ 64 - m : Nat) : Int) = ((2 ^ t : Nat) : Int) := by
    rw [bits_and_u64_nat m _ hm (by omega), hand]
  have e3 : IntKind.u64.wrap (((2 ^ t : Nat) : Int) * 285870213051353865) = ((2 ^ t * 285870213051353865 % 18446744073709551616 : Nat) : Int) := by
    rw [IntKind.wrap_u64]; omega
  have hc := hT _ hi
  rw [htab] at hc
  refine ⟨_, _, _, _, e1, e2, e3, ?_, hi, by omega, ?_, ht, hc⟩
  · omega
  · have : 2 ^ t * 285870213051353865 % 18446744073709551616 < 18446744073709551616 := Nat.mod_lt _ (by omega)
    omega
set_option maxHeartbeats 400000 in
theorem tz_any (m q t : Nat) (h : m = q * 2 ^ t) (hq : q % 2 = 1) (hm : m < 18446744073709551616) (w : World) (hT : DTab w) :
    Calls Tryd.prog 38 #[.int .u64 (m : Int)] w fun e w' => e = .returned (.int .i64 (t : Int)) ∧ w' = w := by
  obtain ⟨Y, P, Z, i, e1, e2, e3, e4, hi, z0, z1, ht, hc⟩ := tz_vars m q t h hq hm w hT
  have m0 : ((m : Int) == 0) = false := by
    rw [beq_eq_false_iff_ne]
    have : 0 < m := by rw [h]; exact Nat.mul_pos (by omega) (Nat.two_pow_pos t)
    omega
  generalize (m : Int) = x at *
  have ht' : (t : Int) < 64 := by omega
  clear h hq hm hT ht
  go_enter Tryd.func38, Tryd.ntmps38
  go_wp2
  go_ret
  exact ⟨rfl, rfl⟩
end Go.Proofs.YtpmccbkhkaoccaaDoor

