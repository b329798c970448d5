import Derived.WalkKit
import Derived.Test.YtoedefjngipeiaaGreatDoorA34
import Derived.Test.YtoedefjngipeiaaGreatDoorA14
import Derived.Below
/- A float stored into a cell. -/
namespace Go.Proofs.YtoedefjngipeiaaGreatDoor
open Go.ChangeShapes Go.WideShapes Go.RowKit

theorem run_store_float {P : Program} {w : World} {a : Addr} {m : Mode} (k : FloatKind) (x : Nat) : (store a (.float k x) m).run P w = stored P w a (.float k x) m := run_store P w a _ m rfl
end Go.Proofs.YtoedefjngipeiaaGreatDoor

/- A text that is read as a float, as the laws over drawn inputs ask it. -/
namespace Go.Proofs.YtoedefjngipeiaaGreatDoor
open Go.ChangeShapes Go.WideShapes Go.RowKit
open Ieee (double)

attribute [local go_sem] run_store_float

set_option maxHeartbeats 400000 in
theorem wRead_is (s : ByteArray) (f : Nat) (hf : f < 18446744073709551616) (HR0 : ∀ w, Calls Tryz.prog 15 #[.string s] w fun e w' => ∃ pl : Int, e = .returned (.agg #[.bool true, .int .i64 pl, .float .f64 f]) ∧ Below w.heap.size w w') (w : World) :
    Calls Tryz.prog 12 #[.string s, .float .f64 f] w fun e w' => e = .returned (.bool true) ∧ Below w.heap.size w w' := by
  have HR : Hid _ := HR0
  have HW : Hid _ := fun w => wflt_self f hf w
  clear HR0 hf
  go_enter Tryz.func12, Tryz.ntmps12
  go_wp2_with fail
  refine (HR.out _).mono ?_
  rintro e w1 ⟨pl, rfl, hb⟩
  have HB : Hid (Below w.heap.size w w1) := hb
  clear hb HR
  go_wp2_with fail
  refine (HW.out _).mono ?_
  rintro e w2 ⟨rfl, rfl⟩
  go_wp2
  go_ret
  exact ⟨rfl, HB.out.alloc HB.out.size _⟩
end Go.Proofs.YtoedefjngipeiaaGreatDoor

/- What is said of a call that reads a float. -/
namespace Go.Proofs.YtoedefjngipeiaaGreatDoor
open Go.ChangeShapes Go.WideShapes Go.RowKit

/-- What is said of the answer. -/
def ReadQ (s : ByteArray) (w : World) (e : Ending) (w' : World) : Prop := ∃ ok pl fl x, ReadA s ok pl fl ∧ fl x ∧ x < 18446744073709551616 ∧ e = .returned (.agg #[.bool ok, .int .i64 pl, .float .f64 x]) ∧ Below w.heap.size w w'
end Go.Proofs.YtoedefjngipeiaaGreatDoor

