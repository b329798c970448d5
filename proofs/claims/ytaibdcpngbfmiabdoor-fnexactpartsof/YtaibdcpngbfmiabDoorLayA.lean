/- A float's bits as the program lays them: layoutOf, infinity. -/
import Derived.Test.YtaibdcpngbfmiabDoorLayP
namespace Go.Proofs.YtaibdcpngbfmiabDoor
open Go.ChangeShapes Go.WideShapes Go.RowKit
open Ieee (double)

theorem call_bits (x : Nat) (w : World) : (callFunc 12 #[.float .f64 x]).run Tryd.prog w = .ok (.value (.int .u64 x)) w := by kernel_rfl
set_option maxHeartbeats 400000 in
theorem layoutOf_any (U : Nat) (s : Bool) (E M : Nat) (h : Lays U s E M) (w : World) :
    Calls Tryd.prog 8 #[.float .f64 U] w fun e w' => e = .returned (.agg #[.bool s, .int .u64 E, .int .u64 M]) ∧ w' = w.alloc (.cells #[.bool s, .int .u64 E, .int .u64 M] 33) := by
  obtain ⟨h1, h2, h3⟩ := h
  have hc := call_bits U
  go_enter Tryd.func8, Tryd.ntmps8
  go_wp2
  exact bodyPost_ret (v := .agg #[.bool s, .int .u64 E, .int .u64 M]) (by simp [results, Tryd.results8, go_sem]) rfl ⟨rfl, rfl⟩

set_option maxHeartbeats 400000 in
theorem infinity_any (s : Bool) (w : World) :
    Calls Tryd.prog 13 #[.bool s] w fun e w' => e = .returned (.agg #[.bool s, .int .u64 2047, .int .u64 0]) ∧ w' = w.alloc (.cells #[.bool s, .int .u64 2047, .int .u64 0] 33) := by
  go_enter Tryd.func13, Tryd.ntmps13
  go_wp2
  exact bodyPost_ret (v := .agg #[.bool s, .int .u64 2047, .int .u64 0]) (by simp [results, Tryd.results13, go_sem]) rfl ⟨rfl, rfl⟩

end Go.Proofs.YtaibdcpngbfmiabDoor
