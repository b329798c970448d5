/- The law on BitsOf, walked. -/
import Derived.Test.YtaibdcpngbfmiabBitsI
namespace Go.Proofs.Ytaibdcpngbfmiab
open Go.ChangeShapes Go.WideShapes Go.RowKit
open Ieee (double)
set_option maxHeartbeats 400000 in
theorem lawBitsOf_any (x : Nat) (hx : x < 18446744073709551616) (w : World) :
    Calls Try.prog 6 #[.float .f64 x] w fun e w' => e = .returned (.bool true) ∧ Below w.heap.size w w' := by
  have H1 : Hid _ := fun w => specBitsOf_any x hx w
  have H2 : Hid _ := fun w => implBitsOf_any x hx w
  go_enter Try.func6, Try.ntmps6
  go_wp2_with fail
  refine (H1.out _).mono ?_
  rintro e w1 ⟨v, hv, rfl, hw⟩
  subst hw
  have HV : Hid _ := fun (_ : Unit) => hv
  clear hv
  go_wp2_with fail
  refine (H2.out _).mono ?_
  rintro e w2 ⟨v', hv', rfl, hb⟩
  have HB : Hid _ := fun (_ : Unit) => hb
  have ev := bitsV_one x v' v hv' (HV.out ())
  subst ev
  clear hv' HV H1 H2 hb
  go_wp2
  go_ret
  exact ⟨rfl, HB.out ()⟩
theorem f64_lt (x : Nat) (h : (Lit.float .f64 x).wf = true) : x < 18446744073709551616 := by
  simp only [Lit.wf, decide_eq_true_eq] at h
  exact h
end Go.Proofs.Ytaibdcpngbfmiab
