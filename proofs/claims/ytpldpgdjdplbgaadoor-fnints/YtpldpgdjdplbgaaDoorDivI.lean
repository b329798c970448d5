/- Divide of the program. -/
import Derived.Test.YtpldpgdjdplbgaaDoorRows
import Derived.Test.YtpldpgdjdplbgaaDoorDivP
import Derived.WalkKit
import Derived.WalkSpells
import Derived.WalkLawsBesides
import Derived.Outline
import Derived.BigQuiet
import Derived.Deep.QuietTactic
namespace Go.Proofs.YtpldpgdjdplbgaaDoor
open Go.ChangeShapes Go.WideShapes Go.RowKit

set_option maxHeartbeats 400000 in
theorem implDiv_any (a b : Int) (w : World) :
    Calls Tryd.prog 15 #[.int .i64 a, .int .i64 b] w fun e w' => e = .returned (.agg (divCells a b)) ∧ Below w.heap.size w w' := by
  by_cases h : b = 0
  · rw [divCells_zero a b h]
    subst h
    go_enter Tryd.func15, Tryd.ntmps15
    go_wp2
    exact bodyPost_ret (v := .agg #[.int .i64 1, .int .i64 0, .int .i64 0]) (by simp [results, Tryd.results15, go_sem]) rfl ⟨rfl, (Below.refl _ _).alloc (Nat.le_refl _) _⟩
  · have h0 : (b == 0) = false := beq_eq_false_iff_ne.2 h
    by_cases hr : a.tmod b = 0
    · rw [divCells_even a b h hr]
      go_enter Tryd.func15, Tryd.ntmps15
      go_wp2
      go_quiet (fail)
      go_wp2
      exact bodyPost_ret (v := .agg #[.int .i64 0, .int .i64 (wrap64 (a.tdiv b)), .int .i64 0]) (by simp [results, Tryd.results15, go_sem]) rfl ⟨rfl, (by repeat (first | exact Below.refl _ _ | refine below_drewN ?_ _ | refine Below.setCell ?_ (by simp) _ | refine Below.alloc ?_ (by simp) _))⟩
    · have hr' : (a.tmod b != 0) = true := by simpa using hr
      cases hs : (!(decide (a.tmod b < 0) == decide (b < 0)))
      · rw [divCells_same a b h hr hs]
        go_enter Tryd.func15, Tryd.ntmps15
        go_wp2
        go_quiet (fail)
        go_wp2
        exact bodyPost_ret (v := .agg #[.int .i64 0, .int .i64 (wrap64 (a.tdiv b)), .int .i64 (a.tmod b)]) (by simp [results, Tryd.results15, go_sem]) rfl ⟨rfl, (by repeat (first | exact Below.refl _ _ | refine below_drewN ?_ _ | refine Below.setCell ?_ (by simp) _ | refine Below.alloc ?_ (by simp) _))⟩
      · rw [divCells_turn a b h hr hs]
        go_enter Tryd.func15, Tryd.ntmps15
        go_wp2
        go_quiet (fail)
        go_wp2
        exact bodyPost_ret (v := .agg #[.int .i64 0, .int .i64 (wrap64 (wrap64 (a.tdiv b) - 1)), .int .i64 (wrap64 (a.tmod b + b))]) (by simp [results, Tryd.results15, go_sem]) rfl ⟨rfl, (by repeat (first | exact Below.refl _ _ | refine below_drewN ?_ _ | refine Below.setCell ?_ (by simp) _ | refine Below.alloc ?_ (by simp) _))⟩

end Go.Proofs.YtpldpgdjdplbgaaDoor
