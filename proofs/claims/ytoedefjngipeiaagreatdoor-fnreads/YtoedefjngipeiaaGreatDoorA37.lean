import Derived.Test.YtoedefjngipeiaaGreatDoorA11
import Derived.Below
import Derived.WalkKit
import Derived.Test.YtoedefjngipeiaaGreatDoorA36
import Derived.Test.YtoedefjngipeiaaGreatDoorA01
import Derived.Test.YtoedefjngipeiaaGreatDoorA29
/- What is said of a call that reads a float. -/
namespace Go.Proofs.YtoedefjngipeiaaGreatDoor
open Go.ChangeShapes Go.WideShapes Go.RowKit

/-- What is said of the answer. -/
def ReadQ (s : ByteArray) (w : World) (e : Ending) (w' : World) : Prop := ∃ ok pl fl x, ReadA s ok pl fl ∧ fl x ∧ x < 18446744073709551616 ∧ e = .returned (.agg #[.bool ok, .int .i64 pl, .float .f64 x]) ∧ Below w.heap.size w w'
end Go.Proofs.YtoedefjngipeiaaGreatDoor

/- The program's reader: a whole text. -/
namespace Go.Proofs.YtoedefjngipeiaaGreatDoor
open Go.ChangeShapes Go.WideShapes Go.RowKit

/-- What is said of a text that is read whole: a place where it breaks off, or a float. -/
def AllQ (s : ByteArray) (r : Option Nat) (x : Nat) : Prop :=
  (∃ a : Nat, r = some a ∧ ReadA s false (a : Int) (· = 0)) ∨ (r = none ∧ ∃ fl, ReadA s true 0 fl ∧ fl x ∧ x < 18446744073709551616)
theorem nil_eq (w : World) : (binOp .eql 63 .nilIface .nilIface).run Tryz.prog w = .ok (.bool true) w := by kernel_rfl
theorem bo_eq (v : Value) (w : World) : (binOp .eql 63 (.iface 67 v) .nilIface).run Tryz.prog w = .ok (.bool false) w := by kernel_rfl
set_option maxHeartbeats 2000000 in
set_option maxRecDepth 100000 in
theorem readAll_any (s : ByteArray) (w : World) :
    Calls Tryz.prog 33 #[.string s] w fun e w' => ∃ r x, AllQ s r x ∧ e = .returned (.tuple #[.float .f64 x, errV r]) ∧ Below w.heap.size w w' := by
  by_cases hs : 1200 < s.size
  · have hs' : (1200 : Int) < (s.size : Int) := by omega
    go_enter Tryz.func33, Tryz.ntmps33
    go_wp2
    go_ret2
    exact ⟨some 1200, 0, .inl ⟨1200, rfl, .inl ⟨hs, rfl, rfl, rfl⟩⟩, rfl, Below.refl _ _⟩
  · have hs' : (s.size : Int) ≤ 1200 := by omega
    have HS : Hid (s.size ≤ 1200) := Nat.le_of_not_lt hs
    clear hs
    have HB : Hid (Below w.heap.size w (w.alloc (.cells #[.string s, .int .i64 0] 95))) := (Below.refl _ w).alloc (by simp) _
    have HF : Hid _ := fun (_ : Unit) => rfloat_any w.heap.size s (w.alloc (.cells #[.string s, .int .i64 0] 95)) (by show (w.heap.push _)[w.heap.size]? = some _; simp) HS.out
    go_enter Tryz.func33, Tryz.ntmps33
    go_wp2_with fail
    refine (HF.out ()).mono ?_
    rintro e w1 ⟨fl, r, j, x, hflo, hx, hnn, hj, rfl, hr, hm⟩
    have HM : Hid (Below w.heap.size w w1) := HB.out.trans (hm.below (Nat.le_refl _) (by simp))
    have hc := hr.at_
    have hl := hr.lt
    clear hr hm HF HB
    cases r with
    | some a =>
      have HA : Hid (ReadA s false (a : Int) (· = 0)) := flo_some HS.out hflo
      have he := bo_eq (.agg #[.int .i64 (a : Int)])
      clear hflo hx hnn hj
      rw [err_some]
      go_wp2
      go_ret2
      exact ⟨some a, x, .inl ⟨a, rfl, HA.out⟩, rfl, HM.out⟩
    | none =>
      have he := nil_eq
      have hx := hx rfl
      have HL : Hid (x < 18446744073709551616) := flo_lt HS.out hflo hx hnn
      obtain ⟨h1, h2⟩ := flo_none HS.out hflo
      have HX : Hid (fl x) := hx
      clear hx hnn hflo
      rw [err_none]
      by_cases hl : j < s.size
      · have hl' : (j : Int) < (s.size : Int) := by omega
        have HA : Hid (ReadA s false (j : Int) (· = 0)) := h1 hl
        clear h1 h2 hl
        go_wp2
        go_quiet (fail)
        go_wp2
        go_ret2
        exact ⟨some j, 0, .inl ⟨j, rfl, HA.out⟩, rfl, below_drewN HM.out _⟩
      · have hl' : decide (j < s.size) = false := decide_eq_false hl
        have HA : Hid (ReadA s true 0 fl) := h2 hl
        clear h1 h2 hl
        go_wp2
        go_ret2
        exact ⟨none, x, .inr ⟨rfl, fl, HA.out, HX.out, HL.out⟩, rfl, HM.out⟩
end Go.Proofs.YtoedefjngipeiaaGreatDoor

/- errors.As at the program's own error: what a caller is told. -/
namespace Go.Proofs.YtoedefjngipeiaaGreatDoor
open Go.ChangeShapes Go.WideShapes Go.RowKit

theorem Handle.below {w w' : World} (h : Handle w) (hl : 2 < w.heap.size) (hb : Below w.heap.size w w') : Handle w' := by
  unfold Handle at h ⊢
  rw [← h]
  exact World.cell?_of_block (w := w) (hb.block _ hl)
theorem Handle.alloc {w : World} (h : Handle w) (hl : 2 < w.heap.size) (b : Obj) : Handle (w.alloc b) :=
  h.below hl ((Below.refl _ w).alloc (Nat.le_refl _) b)
theorem as_place (k : Int) (B : Nat) (old : Value) (w : World) (hg : Handle w) (hlt : 2 < w.heap.size) (h0 : w.cell? ⟨B, 0, none⟩ = some old) (hf : w.frozen? ⟨B, 0, none⟩ = false) :
    Calls Tryz.prog 34 #[.iface 67 (.agg #[.int .i64 k]), .iface 69 (.pointer (some ⟨B, 0, none⟩))] w fun e w' => e = .returned (.bool true) ∧ w'.cell? ⟨B, 0, none⟩ = some (.int .i64 k) ∧ Mod B w w' := by
  have hl : B < w.heap.size := by
    rcases Nat.lt_or_ge B w.heap.size with h | h
    · exact h
    · simp [World.cell?, Array.getElem?_eq_none h] at h0
  refine (as_hit k ⟨B, 0, none⟩ old w hg hlt h0 hf).mono ?_
  rintro e w' ⟨rfl, rfl⟩
  refine ⟨rfl, ?_, ((((Mod.refl B w).alloc _).alloc _).alloc _).alloc _ |>.setCell 0 _⟩
  refine World.cell?_setCell_same _ _ _ (u := old) ?_
  rw [World.cell?_alloc_lt _ _ _ (by simp; omega), World.cell?_alloc_lt _ _ _ (by simp; omega), World.cell?_alloc_lt _ _ _ (by simp; omega), World.cell?_alloc_lt _ _ _ hl]
  exact h0
end Go.Proofs.YtoedefjngipeiaaGreatDoor

/- A float stored into a cell. -/
namespace Go.Proofs.YtoedefjngipeiaaGreatDoor
open Go.ChangeShapes Go.WideShapes Go.RowKit

theorem run_store_float {P : Program} {w : World} {a : Addr} {m : Mode} (k : FloatKind) (x : Nat) : (store a (.float k x) m).run P w = stored P w a (.float k x) m := run_store P w a _ m rfl
end Go.Proofs.YtoedefjngipeiaaGreatDoor

