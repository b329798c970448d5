import Derived.Test.YtlmddccgkpmhcaaA09
/- l2inf of the specification. -/
namespace Go.Proofs.Ytlmddccgkpmhcaa
open Go.ChangeShapes Go.WideShapes Go.RowKit
open Ieee (double)

set_option maxHeartbeats 400000 in
theorem l2inf_any (w : World) : Calls Try.prog 14 #[] w fun e w' => e = .returned (.float .f64 (iw false)) ∧ w' = w := by
  have hd := run_valid (P := Try.prog) .quo 22 4607182418800017408 0 (iw false) (one_by_zero false)
  go_enter Try.func14, Try.ntmps14
  go_wp2
  go_ret
  exact ⟨rfl, rfl⟩
end Go.Proofs.Ytlmddccgkpmhcaa

