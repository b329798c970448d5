/- The kind of a float, as the program tells it. -/
import Derived.Test.YtllgkilahacagaaLayA
import Derived.Deep.RegionWith
namespace Go.Proofs.Ytllgkilahacagaa
open Go.ChangeShapes Go.WideShapes Go.RowKit
open Ieee (double)

set_option maxHeartbeats 400000 in
theorem kind_zero (s : Bool) (w : World) :
    Calls Try.prog 7 #[.agg #[.bool s, .int .u64 0, .int .u64 0]] w fun e w' => e = .returned (.int .i64 0) ∧ w' = w.alloc (.cells #[.bool s, .int .u64 0, .int .u64 0] 27) := by
  go_enter Try.func7, Try.ntmps7
  go_wp2
  go_ret
  exact ⟨rfl, rfl⟩
set_option maxHeartbeats 400000 in
theorem kind_inf (s : Bool) (w : World) :
    Calls Try.prog 7 #[.agg #[.bool s, .int .u64 2047, .int .u64 0]] w fun e w' => e = .returned (.int .i64 2) ∧ w' = ((w.alloc (.cells #[.bool s, .int .u64 2047, .int .u64 0] 27)).alloc (.cells #[.bool s, .int .u64 2047, .int .u64 0] 27)).drew := by
  go_enter Try.func7, Try.ntmps7
  go_wp2
  go_region_with (go_at_call 11; refine (infinity_any _ _).mono ?_; rintro e w' ⟨rfl, rfl⟩)
  all_goals
    go_wp2
    go_ret
    exact ⟨rfl, rfl⟩
set_option maxHeartbeats 400000 in
theorem kind_nan (s : Bool) (M : Nat) (hM : M ≠ 0) (w : World) :
    Calls Try.prog 7 #[.agg #[.bool s, .int .u64 2047, .int .u64 M]] w fun e w' => e = .returned (.int .i64 3) ∧ w' = ((w.alloc (.cells #[.bool s, .int .u64 2047, .int .u64 M] 27)).alloc (.cells #[.bool s, .int .u64 2047, .int .u64 0] 27)).drew := by
  have m0 : ((M : Int) == 0) = false := beq_eq_false_iff_ne.2 (by omega)
  clear hM
  go_enter Try.func7, Try.ntmps7
  go_wp2
  go_region_with (go_at_call 11; refine (infinity_any _ _).mono ?_; rintro e w' ⟨rfl, rfl⟩)
  all_goals
    go_wp2
    go_ret
    exact ⟨rfl, rfl⟩
set_option maxHeartbeats 400000 in
theorem kind_small (s : Bool) (M : Nat) (hM : M ≠ 0) (w : World) :
    Calls Try.prog 7 #[.agg #[.bool s, .int .u64 0, .int .u64 M]] w fun e w' => e = .returned (.int .i64 1) ∧ w' = ((w.alloc (.cells #[.bool s, .int .u64 0, .int .u64 M] 27)).alloc (.cells #[.bool s, .int .u64 2047, .int .u64 0] 27)).drew := by
  have m0 : ((M : Int) == 0) = false := beq_eq_false_iff_ne.2 (by omega)
  clear hM
  go_enter Try.func7, Try.ntmps7
  go_wp2
  go_region_with (go_at_call 11; refine (infinity_any _ _).mono ?_; rintro e w' ⟨rfl, rfl⟩)
  all_goals
    go_wp2
    go_ret
    exact ⟨rfl, rfl⟩
set_option maxHeartbeats 400000 in
theorem kind_normal (s : Bool) (E M : Nat) (h1 : 1 ≤ E) (h2 : E ≤ 2046) (w : World) :
    Calls Try.prog 7 #[.agg #[.bool s, .int .u64 E, .int .u64 M]] w fun e w' => e = .returned (.int .i64 1) ∧ w' = ((w.alloc (.cells #[.bool s, .int .u64 E, .int .u64 M] 27)).alloc (.cells #[.bool s, .int .u64 2047, .int .u64 0] 27)).drew := by
  have e0 : ((E : Int) == 0) = false := beq_eq_false_iff_ne.2 (by omega)
  have e1 : ((E : Int) == 2047) = false := beq_eq_false_iff_ne.2 (by omega)
  clear h1 h2
  go_enter Try.func7, Try.ntmps7
  go_wp2
  go_region_with (go_at_call 11; refine (infinity_any _ _).mono ?_; rintro e w' ⟨rfl, rfl⟩)
  all_goals
    go_wp2
    go_ret
    exact ⟨rfl, rfl⟩
end Go.Proofs.Ytllgkilahacagaa
