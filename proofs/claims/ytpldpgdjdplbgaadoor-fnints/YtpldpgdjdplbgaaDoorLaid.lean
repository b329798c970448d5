/- What the listed table of digits gives. -/
import Derived.Test.YtpldpgdjdplbgaaDoorRows
import Derived.Test.YtpldpgdjdplbgaaDoorWriteC
import Derived.ProofKit
import Derived.LaidMore
import Derived.OpenShut
import Derived.OpenVars
import Derived.Lib.LaidTab
import Derived.Stop.Joined
import Derived.SevenTiedAt
namespace Go.Proofs.YtpldpgdjdplbgaaDoor
open Go.ChangeShapes Go.WideShapes Go.ChangeAt Go.WideMaps Go.WideElems Go.RowKit

theorem own : ownKnob Tryd.prog.godebug = none := by kernel_rfl
theorem laidOut : laidOutB Tryd.prog = true := by kernel_rfl
theorem gDigits : Tryd.prog.globalNamed "loop.example/grain/impl.digitBytes" = some 0 := by kernel_rfl
theorem tDigits : (Tryd.prog.globals[0]?).map (·.type) = some 51 := by kernel_rfl
def laidList : List (String × DataW Unit) := [("loop.example/grain/impl.digitBytes", Rows.laid_loop_example_grain_impl_digitBytes)]
def digitNums : List Int := [48, 49, 50, 51, 52, 53, 54, 55, 56, 57, 97, 98, 99, 100, 101, 102, 103, 104, 105, 106, 107, 108, 109, 110, 111, 112, 113, 114, 115, 116, 117, 118, 119, 120, 121, 122]
theorem digitNums_at : ∀ i : Fin 36, digitNums.getD i.val 0 = ((dch i.val).toNat : Int) := by decide
theorem tab_of_laid {W : World} (h : laidMetH Tryd.prog laidList W) : Tab W ∧ 0 < W.heap.size := by
  rw [MakeChecks.laidMetH_plain _ _ _ (by kernel_rfl)] at h
  have ht : Lib.TabIs Tryd.prog W "loop.example/grain/impl.digitBytes" .u8 digitNums :=
    Lib.tabIs_of_head (rest := []) gDigits tDigits Tryd.underlying51 Tryd.underlying5 (by kernel_rfl) (by kernel_rfl) h
  have hc : Tab W := fun i hi => by
    have := ht.cell gDigits i hi
    rw [this, digitNums_at ⟨i, hi⟩]
  refine ⟨hc, ?_⟩
  have h0 := hc 0 (by decide)
  by_cases hz : 0 < W.heap.size
  · exact hz
  · have e : W.heap[0]? = Option.none := Array.getElem?_eq_none (by omega)
    simp [World.cell?, e] at h0
theorem door_met (os : Os) (args : Array Value) : laidMetH Tryd.prog laidList ((World.doorLaid Tryd.prog 14 os).forCall (fun _ _ => 0) ⟨#[], args, []⟩).memory :=
  laidMetH_of_parts3 (fuel := 8) (laidMet_of_run' 8 (by kernel_rfl) (by kernel_rfl)) (by kernel_rfl) (by kernel_rfl)

end Go.Proofs.YtpldpgdjdplbgaaDoor
