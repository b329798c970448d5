import Derived.Test.YtpmccbkhkaoccaaDoorC01
import Derived.Test.YtpmccbkhkaoccaaDoorC02
import Derived.Test.YtpmccbkhkaoccaaDoorC03
/- The exact law of Digits. -/
namespace Go.Proofs.YtpmccbkhkaoccaaDoor
open Go.ChangeShapes Go.WideShapes Go.RowKit

set_option maxHeartbeats 400000 in
theorem lawDigits_any (x : Nat) (hx : x < 18446744073709551616) (n : Int) (w : World) (hG : WrG w) :
    Calls Tryd.prog 4 #[.float .f64 x, .int .i64 n] w fun e w' => e = .returned (.bool true) ∧ Below w.heap.size w w' := by
  have H1 : Hid _ := fun (_ : Unit) => specDigits5_any x hx n w
  have H2 : Hid (∀ w', Below w.heap.size w w' → Calls Tryd.prog 10 #[.float .f64 x, .int .i64 n] w' fun e w'' => ∃ t, digitsV x n t ∧ e = .returned (.string t) ∧ Below w'.heap.size w' w'') := fun w' hb => implDigits5_any x hx n w' (hG.below hb)
  clear hG
  go_enter Tryd.func4, Tryd.ntmps4
  go_wp2_with fail
  refine (H1.out ()).mono ?_
  rintro e w1 ⟨t, ht, rfl, hb1⟩
  have HT : Hid (digitsV x n t) := ht
  have HB1 : Hid (Below w.heap.size w w1) := hb1
  clear H1 ht hb1
  go_wp2_with fail
  refine (H2.out _ HB1.out).mono ?_
  rintro e w2 ⟨t', ht', rfl, hb2⟩
  obtain rfl := digitsV_one x n t t' HT.out ht'
  have HB2 : Hid (Below w.heap.size w w2) := HB1.out.trans (hb2.mono HB1.out.size)
  clear H2 HT HB1 hb2 ht'
  go_wp2
  go_ret
  exact ⟨rfl, HB2.out⟩
end Go.Proofs.YtpmccbkhkaoccaaDoor

