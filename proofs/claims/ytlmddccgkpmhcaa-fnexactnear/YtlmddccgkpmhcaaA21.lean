import Derived.Test.YtlmddccgkpmhcaaA17
/- A float's bits as the program lays them: infinity. -/
namespace Go.Proofs.Ytlmddccgkpmhcaa
open Go.ChangeShapes Go.WideShapes Go.RowKit
open Ieee (double)

set_option maxHeartbeats 400000 in
theorem infinity_any (s : Bool) (w : World) :
    Calls Try.prog 10 #[.bool s] w fun e w' => e = .returned (.agg #[.bool s, .int .u64 2047, .int .u64 0]) ∧ w' = w.alloc (.cells #[.bool s, .int .u64 2047, .int .u64 0] 30) := by
  go_enter Try.func10, Try.ntmps10
  go_wp2
  exact bodyPost_ret (v := .agg #[.bool s, .int .u64 2047, .int .u64 0]) (by simp [results, Try.results10, go_sem]) rfl ⟨rfl, rfl⟩
end Go.Proofs.Ytlmddccgkpmhcaa

