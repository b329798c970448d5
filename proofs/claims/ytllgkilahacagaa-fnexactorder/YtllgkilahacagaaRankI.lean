/- The rank of a float, as the program tells it. -/
import Derived.Test.YtllgkilahacagaaLayW
import Derived.Test.YtllgkilahacagaaRankP
namespace Go.Proofs.Ytllgkilahacagaa
open Go.ChangeShapes Go.WideShapes Go.RowKit
open Ieee (double)

set_option maxHeartbeats 400000 in
theorem rank_any (s : Bool) (E M : Nat) (hE : E < 2048) (hM : M < 4503599627370496) (w : World) :
    Calls Try.prog 9 #[.agg #[.bool s, .int .u64 E, .int .u64 M]] w fun e w' => e = .returned (.int .i64 (rankI s (E * 4503599627370496 + M))) ∧ w' = ((w.alloc (.cells #[.bool s, .int .u64 (E : Int), .int .u64 (M : Int)] 27)).alloc (.cells #[.bool false, .int .u64 (E : Int), .int .u64 (M : Int)] 27)).alloc (.cells #[.bool false, .int .u64 (E : Int), .int .u64 (M : Int)] 27) := by
  have HW : Hid (∀ w, Calls Try.prog 13 #[.agg #[.bool false, .int .u64 ((E : Nat) : Int), .int .u64 ((M : Nat) : Int)]] w fun e w' => e = .returned (.int .u64 ((E * 4503599627370496 + M : Nat) : Int)) ∧ w' = w.alloc (.cells #[.bool false, .int .u64 ((E : Nat) : Int), .int .u64 ((M : Nat) : Int)] 27)) := fun w => by
    have h := word_any false E M hE hM w
    rw [show signBit false + (E * 4503599627370496 + M) = E * 4503599627370496 + M from Nat.zero_add _] at h
    exact h
  have hb : ((E * 4503599627370496 + M : Nat) : Int) < 9223372036854775808 := by omega
  have h0 : 0 ≤ ((E * 4503599627370496 + M : Nat) : Int) := by omega
  unfold rankI
  generalize hR : ((E * 4503599627370496 + M : Nat) : Int) = R at *
  clear hR hE hM
  cases s
  · rw [if_neg (by decide)]
    go_enter Try.func9, Try.ntmps9
    go_wp2_with (go_at_call 13; refine (HW.out _).mono ?_; rintro e w' ⟨rfl, rfl⟩)
    go_ret
    exact ⟨rfl, rfl⟩
  · rw [if_pos rfl]
    go_enter Try.func9, Try.ntmps9
    go_wp2_with (go_at_call 13; refine (HW.out _).mono ?_; rintro e w' ⟨rfl, rfl⟩)
    go_ret
    exact ⟨rfl, rfl⟩
end Go.Proofs.Ytllgkilahacagaa
