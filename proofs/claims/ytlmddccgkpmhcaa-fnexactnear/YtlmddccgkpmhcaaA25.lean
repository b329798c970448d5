import Derived.Test.YtlmddccgkpmhcaaA09
/- l2signed of the specification. -/
namespace Go.Proofs.Ytlmddccgkpmhcaa
open Go.ChangeShapes Go.WideShapes Go.RowKit
open Ieee (double)

set_option maxHeartbeats 400000 in
theorem l2signed_plus (x : Nat) (w : World) : Calls Try.prog 7 #[.bool false, .float .f64 x] w fun e w' => e = .returned (.float .f64 x) ∧ w' = w := by
  go_enter Try.func7, Try.ntmps7
  go_wp2
  go_ret
  exact ⟨rfl, rfl⟩
set_option maxHeartbeats 400000 in
theorem l2signed_minus (x y : Nat) (hy : Op.negFloat .f64 x = y) (w : World) : Calls Try.prog 7 #[.bool true, .float .f64 x] w fun e w' => e = .returned (.float .f64 y) ∧ w' = w := by
  have hng := run_neg x
  rw [hy] at hng
  clear hy
  go_enter Try.func7, Try.ntmps7
  go_wp2
  go_ret
  exact ⟨rfl, rfl⟩
/-- A sign given to a number. -/
theorem l2signed_fw (s : Bool) (m : Nat) (p : Int) (h : Rep m p) (w : World) : Calls Try.prog 7 #[.bool s, .float .f64 (fw false m p)] w fun e w' => e = .returned (.float .f64 (fw s m p)) ∧ w' = w := by
  cases s
  · exact l2signed_plus _ w
  · exact l2signed_minus _ _ (neg_rep false m p h) w
theorem l2signed_iw (s : Bool) (w : World) : Calls Try.prog 7 #[.bool s, .float .f64 (iw false)] w fun e w' => e = .returned (.float .f64 (iw s)) ∧ w' = w := by
  cases s
  · exact l2signed_plus _ w
  · exact l2signed_minus _ _ (neg_iw false) w
end Go.Proofs.Ytlmddccgkpmhcaa

