import Derived.Test.YtaoccjaaopmfdaaDoorRows
import Derived.Test.YtaoccjaaopmfdaaDoorA23
import Derived.ProofKit
import Derived.LaidMore
import Derived.OpenShut
import Derived.OpenVars
import Derived.Lib.LaidTab
import Derived.Stop.LaidErr
import Derived.Stop.Joined
import Derived.SevenTiedAt
import Derived.Lay
/- What the listed tables give. -/
namespace Go.Proofs.YtaoccjaaopmfdaaDoor
open Go.ChangeShapes Go.WideShapes Go.ChangeAt Go.WideMaps Go.WideElems Go.RowKit

theorem own : ownKnob Tryd.prog.godebug = none := by kernel_rfl
theorem laidOut : laidOutB Tryd.prog = true := by kernel_rfl
theorem gTab : Tryd.prog.globalNamed "math/bits.deBruijn64tab" = some 0 := by kernel_rfl
theorem tTab : (Tryd.prog.globals[0]?).map (·.type) = some 95 := by kernel_rfl
theorem gDigits : Tryd.prog.globalNamed "loop.example/grain/impl.digitBytes" = some 1 := by kernel_rfl
theorem tDigits : (Tryd.prog.globals[1]?).map (·.type) = some 101 := by kernel_rfl
def laidList : List (String × DataW Unit) := [("math/bits.deBruijn64tab", Rows.laid_math_bits_deBruijn64tab), ("unicode/utf8.acceptRanges", Rows.laid_unicode_utf8_acceptRanges), ("loop.example/grain/impl.digitBytes", Rows.laid_loop_example_grain_impl_digitBytes), ("unicode/utf8.first", Rows.laid_unicode_utf8_first)]
def tabNums : List Int := Lib.deBruijn64tab.map fun (n : Nat) => (n : Int)
theorem tabNums_at : ∀ i : Fin 64, tabNums.getD i.val 0 = ((Lib.deBruijn64tab.getD i.val 0 : Nat) : Int) := by decide
def digitNums : List Int := [48, 49, 50, 51, 52, 53, 54, 55, 56, 57, 97, 98, 99, 100, 101, 102, 103, 104, 105, 106, 107, 108, 109, 110, 111, 112, 113, 114, 115, 116, 117, 118, 119, 120, 121, 122]
theorem digitNums_at : ∀ i : Fin 36, digitNums.getD i.val 0 = ((dch i.val).toNat : Int) := by decide
theorem wrg_of_met {W : World} (h : laidMet Tryd.prog laidList W) : WrG W := by
  have ht : Lib.TabIs Tryd.prog W "math/bits.deBruijn64tab" .u8 tabNums :=
    Lib.tabIs_of_head gTab tTab Tryd.underlying95 Tryd.underlying5 (by kernel_rfl) (by kernel_rfl) h
  have hd : Lib.TabIs Tryd.prog W "loop.example/grain/impl.digitBytes" .u8 digitNums :=
    Lib.tabIs_of_head gDigits tDigits Tryd.underlying101 Tryd.underlying5 (by kernel_rfl) (by kernel_rfl) h.tail.tail
  have hc : DTab W := fun i hi => by
    have := ht.cell gTab i hi
    rw [this, tabNums_at ⟨i, hi⟩]
  have hc2 : Tab W := fun i hi => by
    have := hd.cell gDigits i hi
    rw [this, digitNums_at ⟨i, hi⟩]
  exact ⟨hc, hc2, (World.block_lt_of_cell? W _ (hc 0 (by decide))), (World.block_lt_of_cell? W _ (hc2 0 (by decide)))⟩
theorem wrg_of_laid {W : World} (h : laidMetH Tryd.prog laidList W) : WrG W := by
  rw [MakeChecks.laidMetH_plain _ _ _ (by kernel_rfl)] at h
  exact wrg_of_met h
theorem all_met (os : Os) (args : Array Value) : laidMetH Tryd.prog laidList ((World.laidAll Tryd.prog os laidList).forCall (fun _ _ => 0) ⟨#[], args, []⟩).memory := by
  rw [MakeChecks.laidMetH_plain _ _ _ (by kernel_rfl)]
  exact laidMet_laidAll _ (by kernel_rfl) (by kernel_rfl)
end Go.Proofs.YtaoccjaaopmfdaaDoor

