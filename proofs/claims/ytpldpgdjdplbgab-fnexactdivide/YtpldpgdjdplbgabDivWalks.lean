/- Divide of the specification and of the program: the same three numbers at every argument. -/
import Derived.Test.YtpldpgdjdplbgabRows
import Derived.WalkKit
import Derived.WalkSpells
import Derived.WalkLawsBesides
import Derived.Outline
import Derived.BigQuiet
import Derived.Deep.QuietTactic
namespace Go.Proofs.Ytpldpgdjdplbgab
open Go.ChangeShapes Go.WideShapes Go.RowKit

/-- What a division answers: code, quotient, rest. -/
def divided (a b : Int) : Int × Int × Int :=
  if b = 0 then (1, 0, 0)
  else if a.tmod b = 0 then (0, wrap64 (a.tdiv b), 0)
  else if (!(decide (a.tmod b < 0) == decide (b < 0))) = true then (0, wrap64 (wrap64 (a.tdiv b) - 1), wrap64 (a.tmod b + b))
  else (0, wrap64 (a.tdiv b), a.tmod b)
def divCells (a b : Int) : Array Value := #[.int .i64 (divided a b).1, .int .i64 (divided a b).2.1, .int .i64 (divided a b).2.2]

theorem divCells_zero (a b : Int) (h : b = 0) : divCells a b = #[.int .i64 1, .int .i64 0, .int .i64 0] := by
  unfold divCells divided; rw [if_pos h]
theorem divCells_even (a b : Int) (h : ¬ b = 0) (hr : a.tmod b = 0) : divCells a b = #[.int .i64 0, .int .i64 (wrap64 (a.tdiv b)), .int .i64 0] := by
  unfold divCells divided; rw [if_neg h, if_pos hr]
theorem divCells_minus (a b : Int) (h : b = -1) : divCells a b = #[.int .i64 0, .int .i64 (wrap64 (-a)), .int .i64 0] := by
  subst h
  have e : a.tmod (-1) = 0 := by rw [Int.tmod_neg, Int.tmod_one]
  have q : a.tdiv (-1) = -a := by rw [Int.tdiv_neg, Int.tdiv_one]
  rw [divCells_even a (-1) (by decide) e, q]
theorem divCells_turn (a b : Int) (h : ¬ b = 0) (hr : ¬ a.tmod b = 0) (hs : (!(decide (a.tmod b < 0) == decide (b < 0))) = true) :
    divCells a b = #[.int .i64 0, .int .i64 (wrap64 (wrap64 (a.tdiv b) - 1)), .int .i64 (wrap64 (a.tmod b + b))] := by
  unfold divCells divided; rw [if_neg h, if_neg hr, if_pos hs]
theorem divCells_same (a b : Int) (h : ¬ b = 0) (hr : ¬ a.tmod b = 0) (hs : (!(decide (a.tmod b < 0) == decide (b < 0))) = false) :
    divCells a b = #[.int .i64 0, .int .i64 (wrap64 (a.tdiv b)), .int .i64 (a.tmod b)] := by
  unfold divCells divided; rw [if_neg h, if_neg hr, if_neg (by rw [hs]; decide)]

set_option maxHeartbeats 400000 in
theorem specDiv_any (a b : Int) (w : World) :
    Calls Try.prog 5 #[.int .i64 a, .int .i64 b] w fun e w' => e = .returned (.agg (divCells a b)) ∧ Below w.heap.size w w' := by
  by_cases h : b = 0
  · rw [divCells_zero a b h]
    subst h
    go_enter Try.func5, Try.ntmps5
    go_wp2
    exact bodyPost_ret (v := .agg #[.int .i64 1, .int .i64 0, .int .i64 0]) (by simp [results, Try.results5, go_sem]) rfl ⟨rfl, (Below.refl _ _).alloc (Nat.le_refl _) _⟩
  · have h0 : (b == 0) = false := beq_eq_false_iff_ne.2 h
    by_cases hm : b = -1
    · rw [divCells_minus a b hm]
      subst hm; clear h h0
      go_enter Try.func5, Try.ntmps5
      go_wp2
      exact bodyPost_ret (v := .agg #[.int .i64 0, .int .i64 (wrap64 (-a)), .int .i64 0]) (by simp [results, Try.results5, go_sem]) rfl ⟨rfl, (Below.refl _ _).alloc (Nat.le_refl _) _⟩
    · have h1 : (b == -1) = false := beq_eq_false_iff_ne.2 hm
      by_cases hr : a.tmod b = 0
      · rw [divCells_even a b h hr]
        go_enter Try.func5, Try.ntmps5
        go_wp2
        exact bodyPost_ret (v := .agg #[.int .i64 0, .int .i64 (wrap64 (a.tdiv b)), .int .i64 0]) (by simp [results, Try.results5, go_sem]) rfl ⟨rfl, (Below.refl _ _).alloc (Nat.le_refl _) _⟩
      · have hr' : (a.tmod b != 0) = true := by simpa using hr
        cases hs : (!(decide (a.tmod b < 0) == decide (b < 0)))
        · rw [divCells_same a b h hr hs]
          go_enter Try.func5, Try.ntmps5
          go_wp2
          exact bodyPost_ret (v := .agg #[.int .i64 0, .int .i64 (wrap64 (a.tdiv b)), .int .i64 (a.tmod b)]) (by simp [results, Try.results5, go_sem]) rfl ⟨rfl, (Below.refl _ _).alloc (Nat.le_refl _) _⟩
        · rw [divCells_turn a b h hr hs]
          go_enter Try.func5, Try.ntmps5
          go_wp2
          exact bodyPost_ret (v := .agg #[.int .i64 0, .int .i64 (wrap64 (wrap64 (a.tdiv b) - 1)), .int .i64 (wrap64 (a.tmod b + b))]) (by simp [results, Try.results5, go_sem]) rfl ⟨rfl, (Below.refl _ _).alloc (Nat.le_refl _) _⟩
set_option maxHeartbeats 400000 in
theorem implDiv_any (a b : Int) (w : World) :
    Calls Try.prog 6 #[.int .i64 a, .int .i64 b] w fun e w' => e = .returned (.agg (divCells a b)) ∧ Below w.heap.size w w' := by
  by_cases h : b = 0
  · rw [divCells_zero a b h]
    subst h
    go_enter Try.func6, Try.ntmps6
    go_wp2
    exact bodyPost_ret (v := .agg #[.int .i64 1, .int .i64 0, .int .i64 0]) (by simp [results, Try.results6, go_sem]) rfl ⟨rfl, (Below.refl _ _).alloc (Nat.le_refl _) _⟩
  · have h0 : (b == 0) = false := beq_eq_false_iff_ne.2 h
    by_cases hr : a.tmod b = 0
    · rw [divCells_even a b h hr]
      go_enter Try.func6, Try.ntmps6
      go_wp2
      go_quiet (fail)
      go_wp2
      exact bodyPost_ret (v := .agg #[.int .i64 0, .int .i64 (wrap64 (a.tdiv b)), .int .i64 0]) (by simp [results, Try.results6, go_sem]) rfl ⟨rfl, (by repeat (first | exact Below.refl _ _ | refine below_drewN ?_ _ | refine Below.setCell ?_ (by simp) _ | refine Below.alloc ?_ (by simp) _))⟩
    · have hr' : (a.tmod b != 0) = true := by simpa using hr
      cases hs : (!(decide (a.tmod b < 0) == decide (b < 0)))
      · rw [divCells_same a b h hr hs]
        go_enter Try.func6, Try.ntmps6
        go_wp2
        go_quiet (fail)
        go_wp2
        exact bodyPost_ret (v := .agg #[.int .i64 0, .int .i64 (wrap64 (a.tdiv b)), .int .i64 (a.tmod b)]) (by simp [results, Try.results6, go_sem]) rfl ⟨rfl, (by repeat (first | exact Below.refl _ _ | refine below_drewN ?_ _ | refine Below.setCell ?_ (by simp) _ | refine Below.alloc ?_ (by simp) _))⟩
      · rw [divCells_turn a b h hr hs]
        go_enter Try.func6, Try.ntmps6
        go_wp2
        go_quiet (fail)
        go_wp2
        exact bodyPost_ret (v := .agg #[.int .i64 0, .int .i64 (wrap64 (wrap64 (a.tdiv b) - 1)), .int .i64 (wrap64 (a.tmod b + b))]) (by simp [results, Try.results6, go_sem]) rfl ⟨rfl, (by repeat (first | exact Below.refl _ _ | refine below_drewN ?_ _ | refine Below.setCell ?_ (by simp) _ | refine Below.alloc ?_ (by simp) _))⟩

set_option maxHeartbeats 400000 in
theorem eqDiv_same (c q r : Int) (w : World) :
    Calls Try.prog 7 #[.agg #[.int .i64 c, .int .i64 q, .int .i64 r], .agg #[.int .i64 c, .int .i64 q, .int .i64 r]] w fun e w' => e = .returned (.bool true) ∧ Below w.heap.size w w' := by
  go_enter Try.func7, Try.ntmps7
  go_wp2
  go_ret
  exact ⟨rfl, (by repeat (first | exact Below.refl _ _ | refine below_drewN ?_ _ | refine Below.setCell ?_ (by simp) _ | refine Below.alloc ?_ (by simp) _))⟩

theorem bcell {W w1 : World} (hb : Below W.heap.size W w1) : (∀ b o, b < W.heap.size → w1.cell? ⟨b, o, none⟩ = W.cell? ⟨b, o, none⟩) ∧ (∀ b o, b < W.heap.size → w1.frozen? ⟨b, o, none⟩ = W.frozen? ⟨b, o, none⟩) :=
  ⟨fun b o h => hb.cell (p := ⟨b, o, none⟩) h, fun b o h => hb.frozen (p := ⟨b, o, none⟩) h⟩

end Go.Proofs.Ytpldpgdjdplbgab
