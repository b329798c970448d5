/- The law on Order, walked. -/
import Derived.Test.YtllgkilahacagaaOrdeJ
namespace Go.Proofs.Ytllgkilahacagaa
open Go.ChangeShapes Go.WideShapes Go.RowKit
open Ieee (double)
set_option maxHeartbeats 400000 in
theorem lawOrder_any (x y : Nat) (hx : x < 18446744073709551616) (hy : y < 18446744073709551616) (w : World) :
    Calls Try.prog 3 #[.float .f64 x, .float .f64 y] w fun e w' => e = .returned (.bool true) ∧ Below w.heap.size w w' := by
  have H1 : Hid _ := fun w => specOrder_any x y hx hy w
  have H2 : Hid _ := fun w => implOrder_any x y hx hy w
  generalize ordI (double.order x y) = v at *
  go_enter Try.func3, Try.ntmps3
  go_wp2_with fail
  refine (H1.out _).mono ?_
  rintro e w1 ⟨rfl, hw⟩
  subst hw
  go_wp2_with fail
  refine (H2.out _).mono ?_
  rintro e w2 ⟨rfl, hb⟩
  have HB : Hid _ := fun (_ : Unit) => hb
  clear H1 H2 hb
  go_wp2
  go_ret
  exact ⟨rfl, HB.out ()⟩
theorem f64_lt (x : Nat) (h : (Lit.float .f64 x).wf = true) : x < 18446744073709551616 := by
  simp only [Lit.wf, decide_eq_true_eq] at h
  exact h
end Go.Proofs.Ytllgkilahacagaa
