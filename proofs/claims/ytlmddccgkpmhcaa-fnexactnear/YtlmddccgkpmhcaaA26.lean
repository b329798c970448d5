import Derived.Test.YtlmddccgkpmhcaaA23
import Derived.Test.YtlmddccgkpmhcaaA25
/- Near of the specification: the nearest float. -/
namespace Go.Proofs.Ytlmddccgkpmhcaa
open Go.ChangeShapes Go.WideShapes Go.RowKit
open Ieee (double)

set_option maxRecDepth 100000 in
set_option maxHeartbeats 400000 in
theorem specNear_any (s : Bool) (n e : Int) (w : World) :
    Calls Try.prog 4 #[.bool s, .int .i64 n, .int .i64 e] w fun r w' => r = .returned (.float .f64 (fw s (u64n n) e)) ∧ w' = w := by
  have hu := u64n_cast n
  have hlt := u64n_lt n
  have HL : Hid _ := fun w => l2near_any (u64n n : Int) e (by omega) (by omega) w
  rw [Int.toNat_natCast] at HL
  have HN : Hid _ := neg_near (u64n n) e hlt
  generalize u64n n = U at *
  cases s
  · go_enter Try.func4, Try.ntmps4
    go_wp2_with (first | (go_at_call 8; refine (HL.out _).mono ?_; rintro e w' ⟨rfl, rfl⟩) | (go_at_call 7; refine (l2signed_plus _ _).mono ?_; rintro e w' ⟨rfl, rfl⟩))
    go_ret
    exact ⟨rfl, rfl⟩
  · go_enter Try.func4, Try.ntmps4
    go_wp2_with (first | (go_at_call 8; refine (HL.out _).mono ?_; rintro e w' ⟨rfl, rfl⟩) | (go_at_call 7; refine (l2signed_minus _ _ HN.out _).mono ?_; rintro e w' ⟨rfl, rfl⟩))
    go_ret
    exact ⟨rfl, rfl⟩
end Go.Proofs.Ytlmddccgkpmhcaa

