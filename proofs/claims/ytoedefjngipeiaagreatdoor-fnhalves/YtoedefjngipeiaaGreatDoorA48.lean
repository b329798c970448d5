import Derived.Test.YtoedefjngipeiaaGreatDoorA47
import Derived.Test.YtoedefjngipeiaaGreatDoorA38
import Derived.Test.YtoedefjngipeiaaGreatDoorA35
/- errors.As at the program's own error: what a caller is told. -/
namespace Go.Proofs.YtoedefjngipeiaaGreatDoor
open Go.ChangeShapes Go.WideShapes Go.RowKit

theorem Handle.below {w w' : World} (h : Handle w) (hl : 2 < w.heap.size) (hb : Below w.heap.size w w') : Handle w' := by
  unfold Handle at h ⊢
  rw [← h]
  exact World.cell?_of_block (w := w) (hb.block _ hl)
theorem Handle.alloc {w : World} (h : Handle w) (hl : 2 < w.heap.size) (b : Obj) : Handle (w.alloc b) :=
  h.below hl ((Below.refl _ w).alloc (Nat.le_refl _) b)
theorem as_place (k : Int) (B : Nat) (old : Value) (w : World) (hg : Handle w) (hlt : 2 < w.heap.size) (h0 : w.cell? ⟨B, 0, none⟩ = some old) (hf : w.frozen? ⟨B, 0, none⟩ = false) :
    Calls Tryz.prog 34 #[.iface 67 (.agg #[.int .i64 k]), .iface 69 (.pointer (some ⟨B, 0, none⟩))] w fun e w' => e = .returned (.bool true) ∧ w'.cell? ⟨B, 0, none⟩ = some (.int .i64 k) ∧ Mod B w w' := by
  have hl : B < w.heap.size := by
    rcases Nat.lt_or_ge B w.heap.size with h | h
    · exact h
    · simp [World.cell?, Array.getElem?_eq_none h] at h0
  refine (as_hit k ⟨B, 0, none⟩ old w hg hlt h0 hf).mono ?_
  rintro e w' ⟨rfl, rfl⟩
  refine ⟨rfl, ?_, ((((Mod.refl B w).alloc _).alloc _).alloc _).alloc _ |>.setCell 0 _⟩
  refine World.cell?_setCell_same _ _ _ (u := old) ?_
  rw [World.cell?_alloc_lt _ _ _ (by simp; omega), World.cell?_alloc_lt _ _ _ (by simp; omega), World.cell?_alloc_lt _ _ _ (by simp; omega), World.cell?_alloc_lt _ _ _ hl]
  exact h0
end Go.Proofs.YtoedefjngipeiaaGreatDoor

/- The program's ReadFlt answers what reading answers. -/
namespace Go.Proofs.YtoedefjngipeiaaGreatDoor
open Go.ChangeShapes Go.WideShapes Go.RowKit

attribute [local go_sem] run_store_float

set_option maxHeartbeats 2000000 in
set_option maxRecDepth 100000 in
theorem implRead_of (s : ByteArray) (w : World) (h : (Handle w ∧ 2 < w.heap.size) ∨ ∀ ok pl fl, ReadA s ok pl fl → ok = true) :
    Calls Tryz.prog 15 #[.string s] w (ReadQ s w) := by
  have HH : Hid ((Handle w ∧ 2 < w.heap.size) ∨ ∀ ok pl fl, ReadA s ok pl fl → ok = true) := h
  have HA : Hid _ := fun (w : World) => readAll_any s w
  have HB0 : Hid (Below w.heap.size w (w.alloc (.cells #[.bool false, .int .i64 0, .float .f64 0] 37))) := (Below.refl _ w).alloc (Nat.le_refl _) _
  clear h
  go_enter Tryz.func15, Tryz.ntmps15
  go_wp2_with fail
  refine (HA.out _).mono ?_
  rintro e w1 ⟨r, x, hq, rfl, hb⟩
  have hz : w.heap.size < w1.heap.size := by have := hb.size; simp at this; omega
  have HB1 : Hid (Below w.heap.size w w1) := HB0.out.trans (hb.mono (by simp))
  have r0 : w1.cell? ⟨w.heap.size, 0, none⟩ = some (.bool false) := by rw [hb.cell (by simp)]; simp
  have r1 : w1.cell? ⟨w.heap.size, 1, none⟩ = some (.int .i64 0) := by rw [hb.cell (by simp)]; simp
  have r2 : w1.cell? ⟨w.heap.size, 2, none⟩ = some (.float .f64 0) := by rw [hb.cell (by simp)]; simp
  have f0 : w1.frozen? ⟨w.heap.size, 0, none⟩ = false := by rw [hb.frozen (by simp)]; simp
  have f1 : w1.frozen? ⟨w.heap.size, 1, none⟩ = false := by rw [hb.frozen (by simp)]; simp
  have f2 : w1.frozen? ⟨w.heap.size, 2, none⟩ = false := by rw [hb.frozen (by simp)]; simp
  clear hb HA HB0
  rcases hq with ⟨a, rfl, hra⟩ | ⟨rfl, fl, hra, hx, hlt⟩
  · have hg : Handle w1 ∧ 2 < w1.heap.size := by
      rcases HH.out with ⟨h1, h2⟩ | h
      · exact ⟨h1.below h2 HB1.out, by omega⟩
      · cases h _ _ _ hra
    have HS : Hid _ := fun (_ : Unit) => as_place (a : Int) w1.heap.size (.int .i64 0) (w1.alloc (.cells #[.int .i64 0] 67)) (hg.1.alloc hg.2 _) (by simp <;> omega) (by simp) (by simp)
    have HRA : Hid (ReadA s false (a : Int) (· = 0)) := hra
    clear hg hra HH
    rw [err_some]
    go_wp2_with fail
    refine (HS.out ()).mono ?_
    rintro e w2 ⟨rfl, hc, hm⟩
    have q0 : w2.cell? ⟨w.heap.size, 0, none⟩ = some (.bool false) := by rw [hm.cell (by simp; omega) (by simp; omega), World.cell?_alloc_lt _ _ _ (by simpa using hz)]; exact r0
    have q1 : w2.cell? ⟨w.heap.size, 1, none⟩ = some (.int .i64 0) := by rw [hm.cell (by simp; omega) (by simp; omega), World.cell?_alloc_lt _ _ _ (by simpa using hz)]; exact r1
    have q2 : w2.cell? ⟨w.heap.size, 2, none⟩ = some (.float .f64 0) := by rw [hm.cell (by simp; omega) (by simp; omega), World.cell?_alloc_lt _ _ _ (by simpa using hz)]; exact r2
    have g0 : w2.frozen? ⟨w.heap.size, 0, none⟩ = false := by rw [hm.frozen (by simp; omega) (by simp; omega), World.frozen?_alloc_old _ _ _ (by simp; omega)]; exact f0
    have g1 : w2.frozen? ⟨w.heap.size, 1, none⟩ = false := by rw [hm.frozen (by simp; omega) (by simp; omega), World.frozen?_alloc_old _ _ _ (by simp; omega)]; exact f1
    have g2 : w2.frozen? ⟨w.heap.size, 2, none⟩ = false := by rw [hm.frozen (by simp; omega) (by simp; omega), World.frozen?_alloc_old _ _ _ (by simp; omega)]; exact f2
    have HB2 : Hid (Below w.heap.size w w2) := (HB1.out.alloc (by omega) _).trans (hm.below (by omega) (by simp; omega))
    clear hm HS r0 r1 r2 f0 f1 f2 HB1 hz
    go_wp2
    exact bodyPost_ret (v := .agg #[.bool false, .int .i64 (a : Int), .float .f64 0]) (by simp [results, Tryz.results15, go_sem, q0, q1, q2]) rfl ⟨false, _, _, 0, HRA.out, rfl, by omega, rfl, (by repeat (first | exact HB2.out | refine Below.drew ?_ | refine Below.setCell ?_ (by simp) _))⟩
  · have HRA : Hid (ReadA s true 0 fl ∧ fl x ∧ x < 18446744073709551616) := ⟨hra, hx, hlt⟩
    clear hra hx hlt HH
    rw [err_none]
    go_wp2_with fail
    refine (as_none _ _).mono ?_
    rintro e w2 ⟨rfl, rfl⟩
    have q0 : (w1.alloc (.cells #[.int .i64 0] 67)).cell? ⟨w.heap.size, 0, none⟩ = some (.bool false) := by rw [World.cell?_alloc_lt _ _ _ (by simpa using hz)]; exact r0
    have q1 : (w1.alloc (.cells #[.int .i64 0] 67)).cell? ⟨w.heap.size, 1, none⟩ = some (.int .i64 0) := by rw [World.cell?_alloc_lt _ _ _ (by simpa using hz)]; exact r1
    have q2 : (w1.alloc (.cells #[.int .i64 0] 67)).cell? ⟨w.heap.size, 2, none⟩ = some (.float .f64 0) := by rw [World.cell?_alloc_lt _ _ _ (by simpa using hz)]; exact r2
    have g0 : (w1.alloc (.cells #[.int .i64 0] 67)).frozen? ⟨w.heap.size, 0, none⟩ = false := by rw [World.frozen?_alloc_old _ _ _ (by simp; omega)]; exact f0
    have g1 : (w1.alloc (.cells #[.int .i64 0] 67)).frozen? ⟨w.heap.size, 1, none⟩ = false := by rw [World.frozen?_alloc_old _ _ _ (by simp; omega)]; exact f1
    have g2 : (w1.alloc (.cells #[.int .i64 0] 67)).frozen? ⟨w.heap.size, 2, none⟩ = false := by rw [World.frozen?_alloc_old _ _ _ (by simp; omega)]; exact f2
    have HB2 : Hid (Below w.heap.size w (w1.alloc (.cells #[.int .i64 0] 67))) := HB1.out.alloc (by omega) _
    clear r0 r1 r2 f0 f1 f2 HB1
    generalize w1.alloc (.cells #[.int .i64 0] 67) = w2 at *
    go_wp2
    exact bodyPost_ret (v := .agg #[.bool true, .int .i64 0, .float .f64 x]) (by simp [results, Tryz.results15, go_sem, q0, q1, q2]) rfl ⟨true, _, _, x, HRA.out.1, HRA.out.2.1, HRA.out.2.2, rfl, (by repeat (first | exact HB2.out | refine Below.drew ?_ | refine Below.setCell ?_ (by simp) _ | refine Below.alloc ?_ (by simp <;> omega) _))⟩
end Go.Proofs.YtoedefjngipeiaaGreatDoor

