import Derived.Test.YtoedefjngipeiaaGreatDoorA28
import Derived.Deep.RegionWith
/- A float's bits as the program lays them: infinity. -/
namespace Go.Proofs.YtoedefjngipeiaaGreatDoor
open Go.ChangeShapes Go.WideShapes Go.RowKit
open Ieee (double)

set_option maxHeartbeats 400000 in
theorem infinity_any (s : Bool) (w : World) :
    Calls Tryz.prog 19 #[.bool s] w fun e w' => e = .returned (.agg #[.bool s, .int .u64 2047, .int .u64 0]) ∧ w' = w.alloc (.cells #[.bool s, .int .u64 2047, .int .u64 0] 45) := by
  go_enter Tryz.func19, Tryz.ntmps19
  go_wp2
  exact bodyPost_ret (v := .agg #[.bool s, .int .u64 2047, .int .u64 0]) (by simp [results, Tryz.results19, go_sem]) rfl ⟨rfl, rfl⟩
end Go.Proofs.YtoedefjngipeiaaGreatDoor

/- A float's bits as the program lays them: layoutOf. -/
namespace Go.Proofs.YtoedefjngipeiaaGreatDoor
open Go.ChangeShapes Go.WideShapes Go.RowKit
open Ieee (double)

theorem call_bits (x : Nat) (w : World) : (callFunc 45 #[.float .f64 x]).run Tryz.prog w = .ok (.value (.int .u64 x)) w := by kernel_rfl
set_option maxHeartbeats 400000 in
theorem layoutOf_any (U : Nat) (s : Bool) (E M : Nat) (h : Lays U s E M) (w : World) :
    Calls Tryz.prog 18 #[.float .f64 U] w fun e w' => e = .returned (.agg #[.bool s, .int .u64 E, .int .u64 M]) ∧ w' = w.alloc (.cells #[.bool s, .int .u64 E, .int .u64 M] 45) := by
  obtain ⟨h1, h2, h3⟩ := h
  have hc := call_bits U
  go_enter Tryz.func18, Tryz.ntmps18
  go_wp2
  exact bodyPost_ret (v := .agg #[.bool s, .int .u64 E, .int .u64 M]) (by simp [results, Tryz.results18, go_sem]) rfl ⟨rfl, rfl⟩
end Go.Proofs.YtoedefjngipeiaaGreatDoor

/- The kind of a float, as the program tells it. -/
namespace Go.Proofs.YtoedefjngipeiaaGreatDoor
open Go.ChangeShapes Go.WideShapes Go.RowKit
open Ieee (double)

set_option maxHeartbeats 400000 in
theorem kind_zero (s : Bool) (w : World) :
    Calls Tryz.prog 20 #[.agg #[.bool s, .int .u64 0, .int .u64 0]] w fun e w' => e = .returned (.int .i64 0) ∧ w' = w.alloc (.cells #[.bool s, .int .u64 0, .int .u64 0] 45) := by
  go_enter Tryz.func20, Tryz.ntmps20
  go_wp2
  go_ret
  exact ⟨rfl, rfl⟩
set_option maxHeartbeats 400000 in
theorem kind_inf (s : Bool) (w : World) :
    Calls Tryz.prog 20 #[.agg #[.bool s, .int .u64 2047, .int .u64 0]] w fun e w' => e = .returned (.int .i64 2) ∧ w' = ((w.alloc (.cells #[.bool s, .int .u64 2047, .int .u64 0] 45)).alloc (.cells #[.bool s, .int .u64 2047, .int .u64 0] 45)).drew := by
  go_enter Tryz.func20, Tryz.ntmps20
  go_wp2
  go_region_with (go_at_call 19; refine (infinity_any _ _).mono ?_; rintro e w' ⟨rfl, rfl⟩)
  all_goals
    go_wp2
    go_ret
    exact ⟨rfl, rfl⟩
set_option maxHeartbeats 400000 in
theorem kind_nan (s : Bool) (M : Nat) (hM : M ≠ 0) (w : World) :
    Calls Tryz.prog 20 #[.agg #[.bool s, .int .u64 2047, .int .u64 M]] w fun e w' => e = .returned (.int .i64 3) ∧ w' = ((w.alloc (.cells #[.bool s, .int .u64 2047, .int .u64 M] 45)).alloc (.cells #[.bool s, .int .u64 2047, .int .u64 0] 45)).drew := by
  have m0 : ((M : Int) == 0) = false := beq_eq_false_iff_ne.2 (by omega)
  clear hM
  go_enter Tryz.func20, Tryz.ntmps20
  go_wp2
  go_region_with (go_at_call 19; refine (infinity_any _ _).mono ?_; rintro e w' ⟨rfl, rfl⟩)
  all_goals
    go_wp2
    go_ret
    exact ⟨rfl, rfl⟩
set_option maxHeartbeats 400000 in
theorem kind_small (s : Bool) (M : Nat) (hM : M ≠ 0) (w : World) :
    Calls Tryz.prog 20 #[.agg #[.bool s, .int .u64 0, .int .u64 M]] w fun e w' => e = .returned (.int .i64 1) ∧ w' = ((w.alloc (.cells #[.bool s, .int .u64 0, .int .u64 M] 45)).alloc (.cells #[.bool s, .int .u64 2047, .int .u64 0] 45)).drew := by
  have m0 : ((M : Int) == 0) = false := beq_eq_false_iff_ne.2 (by omega)
  clear hM
  go_enter Tryz.func20, Tryz.ntmps20
  go_wp2
  go_region_with (go_at_call 19; refine (infinity_any _ _).mono ?_; rintro e w' ⟨rfl, rfl⟩)
  all_goals
    go_wp2
    go_ret
    exact ⟨rfl, rfl⟩
set_option maxHeartbeats 400000 in
theorem kind_normal (s : Bool) (E M : Nat) (h1 : 1 ≤ E) (h2 : E ≤ 2046) (w : World) :
    Calls Tryz.prog 20 #[.agg #[.bool s, .int .u64 E, .int .u64 M]] w fun e w' => e = .returned (.int .i64 1) ∧ w' = ((w.alloc (.cells #[.bool s, .int .u64 E, .int .u64 M] 45)).alloc (.cells #[.bool s, .int .u64 2047, .int .u64 0] 45)).drew := by
  have e0 : ((E : Int) == 0) = false := beq_eq_false_iff_ne.2 (by omega)
  have e1 : ((E : Int) == 2047) = false := beq_eq_false_iff_ne.2 (by omega)
  clear h1 h2
  go_enter Tryz.func20, Tryz.ntmps20
  go_wp2
  go_region_with (go_at_call 19; refine (infinity_any _ _).mono ?_; rintro e w' ⟨rfl, rfl⟩)
  all_goals
    go_wp2
    go_ret
    exact ⟨rfl, rfl⟩
end Go.Proofs.YtoedefjngipeiaaGreatDoor

