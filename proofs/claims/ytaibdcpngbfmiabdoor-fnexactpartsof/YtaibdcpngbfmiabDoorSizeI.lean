/- The size of a number, as the program tells it. -/
import Derived.Test.YtaibdcpngbfmiabDoorLayP
import Derived.Deep.RegionWith
namespace Go.Proofs.YtaibdcpngbfmiabDoor
open Go.ChangeShapes Go.WideShapes Go.RowKit
open Ieee (double)

set_option maxHeartbeats 400000 in
theorem size_small (s : Bool) (M : Nat) (w : World) :
    Calls Tryd.prog 10 #[.agg #[.bool s, .int .u64 0, .int .u64 (M : Int)]] w fun e w' => e = .returned (.tuple #[.int .u64 (M : Int), .int .i64 (-1074)]) ∧ w' = w.alloc (.cells #[.bool s, .int .u64 0, .int .u64 (M : Int)] 33) := by
  go_enter Tryd.func10, Tryd.ntmps10
  go_wp2
  go_ret2
  exact ⟨rfl, rfl⟩
set_option maxHeartbeats 400000 in
theorem size_normal (s : Bool) (E M : Nat) (h1 : 1 ≤ E) (h2 : E ≤ 2046) (hM : M < 4503599627370496) (w : World) :
    Calls Tryd.prog 10 #[.agg #[.bool s, .int .u64 (E : Int), .int .u64 (M : Int)]] w fun e w' => e = .returned (.tuple #[.int .u64 ((4503599627370496 + M : Nat) : Int), .int .i64 ((E : Int) - 1 + -1074)]) ∧ w' = (w.alloc (.cells #[.bool s, .int .u64 (E : Int), .int .u64 (M : Int)] 33)).drew := by
  have e0 : ((E : Int) == 0) = false := beq_eq_false_iff_ne.2 (by omega)
  have ho := or_one M hM
  have c1 : 1 ≤ (E : Int) := by omega
  have c2 : (E : Int) ≤ 2046 := by omega
  clear hM h1 h2
  go_enter Tryd.func10, Tryd.ntmps10
  go_wp2
  go_region
  all_goals
    go_wp2
    go_ret2
    exact ⟨rfl, rfl⟩
end Go.Proofs.YtaibdcpngbfmiabDoor
