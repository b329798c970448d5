/- What the listed table of the library's gives. -/
import Derived.Test.YtaibdcpngbfmiabDoorRows
import Derived.Test.YtaibdcpngbfmiabDoorTzI
import Derived.ProofKit
import Derived.LaidMore
import Derived.OpenShut
import Derived.OpenVars
import Derived.Lib.LaidTab
import Derived.Stop.Joined
import Derived.SevenTiedAt
namespace Go.Proofs.YtaibdcpngbfmiabDoor
open Go.ChangeShapes Go.WideShapes Go.ChangeAt Go.WideMaps Go.WideElems Go.RowKit

theorem own : ownKnob Tryd.prog.godebug = none := by kernel_rfl
theorem laidOut : laidOutB Tryd.prog = true := by kernel_rfl
theorem gTab : Tryd.prog.globalNamed "math/bits.deBruijn64tab" = some 0 := by kernel_rfl
theorem tTab : (Tryd.prog.globals[0]?).map (·.type) = some 41 := by kernel_rfl
def laidList : List (String × DataW Unit) := [("math/bits.deBruijn64tab", Rows.laid_math_bits_deBruijn64tab)]
def tabNums : List Int := Lib.deBruijn64tab.map fun (n : Nat) => (n : Int)
theorem tabNums_at : ∀ i : Fin 64, tabNums.getD i.val 0 = ((Lib.deBruijn64tab.getD i.val 0 : Nat) : Int) := by decide
theorem tab_of_laid {W : World} (h : laidMetH Tryd.prog laidList W) : DTab W ∧ 0 < W.heap.size := by
  rw [MakeChecks.laidMetH_plain _ _ _ (by kernel_rfl)] at h
  have ht : Lib.TabIs Tryd.prog W "math/bits.deBruijn64tab" .u8 tabNums :=
    Lib.tabIs_of_head (rest := []) gTab tTab Tryd.underlying41 Tryd.underlying5 (by kernel_rfl) (by kernel_rfl) h
  have hc : DTab W := fun i hi => by
    have := ht.cell gTab i hi
    rw [this, tabNums_at ⟨i, hi⟩]
  refine ⟨hc, ?_⟩
  have h0 := hc 0 (by decide)
  by_cases hz : 0 < W.heap.size
  · exact hz
  · have e : W.heap[0]? = Option.none := Array.getElem?_eq_none (by omega)
    simp [World.cell?, e] at h0
theorem door_met (os : Os) (args : Array Value) : laidMetH Tryd.prog laidList ((World.doorLaid Tryd.prog 14 os).forCall (fun _ _ => 0) ⟨#[], args, []⟩).memory :=
  laidMetH_of_parts3 (fuel := 8) (laidMet_of_run' 8 (by kernel_rfl) (by kernel_rfl)) (by kernel_rfl) (by kernel_rfl)

end Go.Proofs.YtaibdcpngbfmiabDoor
