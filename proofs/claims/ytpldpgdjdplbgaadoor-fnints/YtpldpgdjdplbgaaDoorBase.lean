/- isBase. -/
import Derived.Test.YtpldpgdjdplbgaaDoorRows
import Derived.WalkKit
import Derived.WalkSpells
import Derived.WalkLawsBesides
namespace Go.Proofs.YtpldpgdjdplbgaaDoor
open Go.ChangeShapes Go.WideShapes Go.RowKit

/-- Is it a base? (no abbreviation: the walk shall not open it) -/
def isB (b : Int) : Bool := decide (2 ≤ b ∧ b ≤ 36)
theorem isB_yes (b : Int) (h2 : 2 ≤ b) (h36 : b ≤ 36) : isB b = true := decide_eq_true ⟨h2, h36⟩
theorem isB_no (b : Int) (h : b < 2 ∨ 36 < b) : isB b = false := decide_eq_false (by omega)

set_option maxHeartbeats 400000 in
theorem isBase_any (b : Int) (w : World) :
    Calls Tryd.prog 17 #[.int .i64 b] w fun e w' => e = .returned (.bool (isB b)) ∧ w' = w := by
  by_cases h1 : 2 ≤ b
  · by_cases h2 : b ≤ 36
    · rw [isB_yes b h1 h2]
      go_enter Tryd.func17, Tryd.ntmps17
      go_wp2
      go_ret
      exact ⟨by simp, rfl⟩
    · rw [isB_no b (by omega)]
      go_enter Tryd.func17, Tryd.ntmps17
      go_wp2
      go_ret
      exact ⟨by simp, rfl⟩
  · rw [isB_no b (by omega)]
    go_enter Tryd.func17, Tryd.ntmps17
    go_wp2
    go_ret
    exact ⟨by simp, rfl⟩
end Go.Proofs.YtpldpgdjdplbgaaDoor
