/- l2nan of the specification. -/
import Derived.Test.YtaibdcpngbfmiabFltP
namespace Go.Proofs.Ytaibdcpngbfmiab
open Go.ChangeShapes Go.WideShapes Go.RowKit
open Ieee (double)

set_option maxHeartbeats 400000 in
theorem l2nan_any (w : World) : Calls Try.prog 34 #[] w fun e w' => ∃ b, IsNan b ∧ b < 18446744073709551616 ∧ e = .returned (.float .f64 b) ∧ w' = w.drew := by
  obtain ⟨b, hb, hlt, hrun⟩ := run_nan (P := Try.prog) 29 w
  go_enter Try.func34, Try.ntmps34
  go_wp2
  go_ret
  exact ⟨b, hb, hlt, rfl, rfl⟩
end Go.Proofs.Ytaibdcpngbfmiab
