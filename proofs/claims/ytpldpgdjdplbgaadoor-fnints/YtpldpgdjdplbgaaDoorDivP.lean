/- Division, as plain numbers. -/
import Derived.WalkKit
namespace Go.Proofs.YtpldpgdjdplbgaaDoor
open Go.ChangeShapes Go.WideShapes Go.RowKit

/-- What a division answers: code, quotient, rest. -/
def divided (a b : Int) : Int × Int × Int :=
  if b = 0 then (1, 0, 0)
  else if a.tmod b = 0 then (0, wrap64 (a.tdiv b), 0)
  else if (!(decide (a.tmod b < 0) == decide (b < 0))) = true then (0, wrap64 (wrap64 (a.tdiv b) - 1), wrap64 (a.tmod b + b))
  else (0, wrap64 (a.tdiv b), a.tmod b)
def divCells (a b : Int) : Array Value := #[.int .i64 (divided a b).1, .int .i64 (divided a b).2.1, .int .i64 (divided a b).2.2]

theorem divCells_zero (a b : Int) (h : b = 0) : divCells a b = #[.int .i64 1, .int .i64 0, .int .i64 0] := by
  unfold divCells divided; rw [if_pos h]
theorem divCells_even (a b : Int) (h : ¬ b = 0) (hr : a.tmod b = 0) : divCells a b = #[.int .i64 0, .int .i64 (wrap64 (a.tdiv b)), .int .i64 0] := by
  unfold divCells divided; rw [if_neg h, if_pos hr]
theorem divCells_minus (a b : Int) (h : b = -1) : divCells a b = #[.int .i64 0, .int .i64 (wrap64 (-a)), .int .i64 0] := by
  subst h
  have e : a.tmod (-1) = 0 := by rw [Int.tmod_neg, Int.tmod_one]
  have q : a.tdiv (-1) = -a := by rw [Int.tdiv_neg, Int.tdiv_one]
  rw [divCells_even a (-1) (by decide) e, q]
theorem divCells_turn (a b : Int) (h : ¬ b = 0) (hr : ¬ a.tmod b = 0) (hs : (!(decide (a.tmod b < 0) == decide (b < 0))) = true) :
    divCells a b = #[.int .i64 0, .int .i64 (wrap64 (wrap64 (a.tdiv b) - 1)), .int .i64 (wrap64 (a.tmod b + b))] := by
  unfold divCells divided; rw [if_neg h, if_neg hr, if_pos hs]
theorem divCells_same (a b : Int) (h : ¬ b = 0) (hr : ¬ a.tmod b = 0) (hs : (!(decide (a.tmod b < 0) == decide (b < 0))) = false) :
    divCells a b = #[.int .i64 0, .int .i64 (wrap64 (a.tdiv b)), .int .i64 (a.tmod b)] := by
  unfold divCells divided; rw [if_neg h, if_neg hr, if_neg (by rw [hs]; decide)]

end Go.Proofs.YtpldpgdjdplbgaaDoor
