/- A float's bits as the program lays them: layoutOf, infinity. -/
import Derived.Test.YtllgkilahacagaaLayP
namespace Go.Proofs.Ytllgkilahacagaa
open Go.ChangeShapes Go.WideShapes Go.RowKit
open Ieee (double)

theorem call_bits (x : Nat) (w : World) : (callFunc 10 #[.float .f64 x]).run Try.prog w = .ok (.value (.int .u64 x)) w := by kernel_rfl
set_option maxHeartbeats 400000 in
theorem layoutOf_any (U : Nat) (s : Bool) (E M : Nat) (h : Lays U s E M) (w : World) :
    Calls Try.prog 6 #[.float .f64 U] w fun e w' => e = .returned (.agg #[.bool s, .int .u64 E, .int .u64 M]) ∧ w' = w.alloc (.cells #[.bool s, .int .u64 E, .int .u64 M] 27) := by
  obtain ⟨h1, h2, h3⟩ := h
  have hc := call_bits U
  go_enter Try.func6, Try.ntmps6
  go_wp2
  exact bodyPost_ret (v := .agg #[.bool s, .int .u64 E, .int .u64 M]) (by simp [results, Try.results6, go_sem]) rfl ⟨rfl, rfl⟩

set_option maxHeartbeats 400000 in
theorem infinity_any (s : Bool) (w : World) :
    Calls Try.prog 11 #[.bool s] w fun e w' => e = .returned (.agg #[.bool s, .int .u64 2047, .int .u64 0]) ∧ w' = w.alloc (.cells #[.bool s, .int .u64 2047, .int .u64 0] 27) := by
  go_enter Try.func11, Try.ntmps11
  go_wp2
  exact bodyPost_ret (v := .agg #[.bool s, .int .u64 2047, .int .u64 0]) (by simp [results, Try.results11, go_sem]) rfl ⟨rfl, rfl⟩

end Go.Proofs.Ytllgkilahacagaa
