/- FromBits of the program, and the law. -/
import Derived.Test.YtaibdcpngbfmiabLayA
import Derived.Test.YtaibdcpngbfmiabFromS
import Derived.Test.YtaibdcpngbfmiabSameS
namespace Go.Proofs.Ytaibdcpngbfmiab
open Go.ChangeShapes Go.WideShapes Go.RowKit
open Ieee (double)

set_option maxHeartbeats 400000 in
theorem implFrom_any (n : Int) (w : World) :
    Calls Try.prog 20 #[.int .i64 n] w fun e w' => e = .returned (.float .f64 (u64n n)) ∧ w' = w := by
  have hu := u64n_cast n
  have hc := call_frombits (u64n n : Int)
  rw [Int.toNat_natCast] at hc
  go_enter Try.func20, Try.ntmps20
  go_wp2
  go_ret
  exact ⟨rfl, rfl⟩
theorem same_from (U b : Nat) (hU : U < 18446744073709551616) (h : fromV U b) (w : World) :
    Calls Try.prog 16 #[.float .f64 U, .float .f64 b] w fun e w' => e = .returned (.bool true) ∧ w' = w := by
  rcases h.2 with ⟨h1, h2⟩ | ⟨_, rfl⟩
  · exact same_nan U b h1 h2 w
  · exact same_self b hU w
set_option maxHeartbeats 400000 in
theorem lawFrom_any (n : Int) (w : World) :
    Calls Try.prog 7 #[.int .i64 n] w fun e w' => e = .returned (.bool true) ∧ Below w.heap.size w w' := by
  have H1 : Hid _ := fun w => specFrom_any n w
  have H2 : Hid _ := fun w => implFrom_any n w
  have H3 : Hid _ := fun b h w => same_from (u64n n) b (u64n_lt n) h w
  go_enter Try.func7, Try.ntmps7
  go_wp2_with fail
  refine (H1.out _).mono ?_
  rintro e w1 ⟨b, hb, rfl, k, rfl⟩
  have HS : Hid _ := fun w => H3.out b hb w
  clear hb H1 H3
  go_wp2_with (first | (go_at_call 20; refine (H2.out _).mono ?_; rintro e w' ⟨rfl, rfl⟩) | (go_at_call 16; refine (HS.out _).mono ?_; rintro e w' ⟨rfl, rfl⟩))
  go_ret
  exact ⟨rfl, below_drewN (Below.refl _ _) _⟩
end Go.Proofs.Ytaibdcpngbfmiab
