import Derived.WalkKit
import Derived.Test.YtapiifeklimncaaDoorA21
import Derived.Test.YtapiifeklimncaaDoorRows
import Derived.Test.YtapiifeklimncaaDoorA01
import Derived.WalkSpells
import Derived.WalkLawsBesides
import Derived.Outline
import Derived.BigQuiet
import Derived.Deep.QuietTactic
/- A float stored into a cell. -/
namespace Go.Proofs.YtapiifeklimncaaDoor
open Go.ChangeShapes Go.WideShapes Go.RowKit

theorem run_store_float {P : Program} {w : World} {a : Addr} {m : Mode} (k : FloatKind) (x : Nat) : (store a (.float k x) m).run P w = stored P w a (.float k x) m := run_store P w a _ m rfl
end Go.Proofs.YtapiifeklimncaaDoor

/- The program's ReadFlt answers what reading answers. -/
namespace Go.Proofs.YtapiifeklimncaaDoor
open Go.ChangeShapes Go.WideShapes Go.RowKit

attribute [local go_sem] run_store_float

set_option maxHeartbeats 2000000 in
set_option maxRecDepth 100000 in
theorem implRead_of (s : ByteArray) (w : World) (h : (Handle w ∧ 0 < w.heap.size) ∨ ∀ ok pl fl, ReadA s ok pl fl → ok = true) :
    Calls Tryd.prog 5 #[.string s] w (ReadQ s w) := by
  have HH : Hid ((Handle w ∧ 0 < w.heap.size) ∨ ∀ ok pl fl, ReadA s ok pl fl → ok = true) := h
  have HA : Hid _ := fun (w : World) => readAll_any s w
  have HB0 : Hid (Below w.heap.size w (w.alloc (.cells #[.bool false, .int .i64 0, .float .f64 0] 24))) := (Below.refl _ w).alloc (Nat.le_refl _) _
  clear h
  go_enter Tryd.func5, Tryd.ntmps5
  go_wp2_with fail
  refine (HA.out _).mono ?_
  rintro e w1 ⟨r, x, hq, rfl, hb⟩
  have hz : w.heap.size < w1.heap.size := by have := hb.size; simp at this; omega
  have HB1 : Hid (Below w.heap.size w w1) := HB0.out.trans (hb.mono (by simp))
  have r0 : w1.cell? ⟨w.heap.size, 0, none⟩ = some (.bool false) := by rw [hb.cell (by simp)]; simp
  have r1 : w1.cell? ⟨w.heap.size, 1, none⟩ = some (.int .i64 0) := by rw [hb.cell (by simp)]; simp
  have r2 : w1.cell? ⟨w.heap.size, 2, none⟩ = some (.float .f64 0) := by rw [hb.cell (by simp)]; simp
  have f0 : w1.frozen? ⟨w.heap.size, 0, none⟩ = false := by rw [hb.frozen (by simp)]; simp
  have f1 : w1.frozen? ⟨w.heap.size, 1, none⟩ = false := by rw [hb.frozen (by simp)]; simp
  have f2 : w1.frozen? ⟨w.heap.size, 2, none⟩ = false := by rw [hb.frozen (by simp)]; simp
  clear hb HA HB0
  rcases hq with ⟨a, rfl, hra⟩ | ⟨rfl, fl, hra, hx, hlt⟩
  · have hg : Handle w1 ∧ 0 < w1.heap.size := by
      rcases HH.out with ⟨h1, h2⟩ | h
      · exact ⟨h1.below h2 HB1.out, by omega⟩
      · cases h _ _ _ hra
    have HS : Hid _ := fun (_ : Unit) => as_place (a : Int) w1.heap.size (.int .i64 0) (w1.alloc (.cells #[.int .i64 0] 45)) (hg.1.alloc hg.2 _) (by simp <;> omega) (by simp) (by simp)
    have HRA : Hid (ReadA s false (a : Int) (· = 0)) := hra
    clear hg hra HH
    rw [err_some]
    go_wp2_with fail
    refine (HS.out ()).mono ?_
    rintro e w2 ⟨rfl, hc, hm⟩
    have q0 : w2.cell? ⟨w.heap.size, 0, none⟩ = some (.bool false) := by rw [hm.cell (by simp; omega) (by simp; omega), World.cell?_alloc_lt _ _ _ (by simpa using hz)]; exact r0
    have q1 : w2.cell? ⟨w.heap.size, 1, none⟩ = some (.int .i64 0) := by rw [hm.cell (by simp; omega) (by simp; omega), World.cell?_alloc_lt _ _ _ (by simpa using hz)]; exact r1
    have q2 : w2.cell? ⟨w.heap.size, 2, none⟩ = some (.float .f64 0) := by rw [hm.cell (by simp; omega) (by simp; omega), World.cell?_alloc_lt _ _ _ (by simpa using hz)]; exact r2
    have g0 : w2.frozen? ⟨w.heap.size, 0, none⟩ = false := by rw [hm.frozen (by simp; omega) (by simp; omega), World.frozen?_alloc_old _ _ _ (by simp; omega)]; exact f0
    have g1 : w2.frozen? ⟨w.heap.size, 1, none⟩ = false := by rw [hm.frozen (by simp; omega) (by simp; omega), World.frozen?_alloc_old _ _ _ (by simp; omega)]; exact f1
    have g2 : w2.frozen? ⟨w.heap.size, 2, none⟩ = false := by rw [hm.frozen (by simp; omega) (by simp; omega), World.frozen?_alloc_old _ _ _ (by simp; omega)]; exact f2
    have HB2 : Hid (Below w.heap.size w w2) := (HB1.out.alloc (by omega) _).trans (hm.below (by omega) (by simp; omega))
    clear hm HS r0 r1 r2 f0 f1 f2 HB1 hz
    go_wp2
    exact bodyPost_ret (v := .agg #[.bool false, .int .i64 (a : Int), .float .f64 0]) (by simp [results, Tryd.results5, go_sem, q0, q1, q2]) rfl ⟨false, _, _, 0, HRA.out, rfl, by omega, rfl, (by repeat (first | exact HB2.out | refine Below.drew ?_ | refine Below.setCell ?_ (by simp) _))⟩
  · have HRA : Hid (ReadA s true 0 fl ∧ fl x ∧ x < 18446744073709551616) := ⟨hra, hx, hlt⟩
    clear hra hx hlt HH
    rw [err_none]
    go_wp2_with fail
    refine (as_none _ _).mono ?_
    rintro e w2 ⟨rfl, rfl⟩
    have q0 : (w1.alloc (.cells #[.int .i64 0] 45)).cell? ⟨w.heap.size, 0, none⟩ = some (.bool false) := by rw [World.cell?_alloc_lt _ _ _ (by simpa using hz)]; exact r0
    have q1 : (w1.alloc (.cells #[.int .i64 0] 45)).cell? ⟨w.heap.size, 1, none⟩ = some (.int .i64 0) := by rw [World.cell?_alloc_lt _ _ _ (by simpa using hz)]; exact r1
    have q2 : (w1.alloc (.cells #[.int .i64 0] 45)).cell? ⟨w.heap.size, 2, none⟩ = some (.float .f64 0) := by rw [World.cell?_alloc_lt _ _ _ (by simpa using hz)]; exact r2
    have g0 : (w1.alloc (.cells #[.int .i64 0] 45)).frozen? ⟨w.heap.size, 0, none⟩ = false := by rw [World.frozen?_alloc_old _ _ _ (by simp; omega)]; exact f0
    have g1 : (w1.alloc (.cells #[.int .i64 0] 45)).frozen? ⟨w.heap.size, 1, none⟩ = false := by rw [World.frozen?_alloc_old _ _ _ (by simp; omega)]; exact f1
    have g2 : (w1.alloc (.cells #[.int .i64 0] 45)).frozen? ⟨w.heap.size, 2, none⟩ = false := by rw [World.frozen?_alloc_old _ _ _ (by simp; omega)]; exact f2
    have HB2 : Hid (Below w.heap.size w (w1.alloc (.cells #[.int .i64 0] 45))) := HB1.out.alloc (by omega) _
    clear r0 r1 r2 f0 f1 f2 HB1
    generalize w1.alloc (.cells #[.int .i64 0] 45) = w2 at *
    go_wp2
    exact bodyPost_ret (v := .agg #[.bool true, .int .i64 0, .float .f64 x]) (by simp [results, Tryd.results5, go_sem, q0, q1, q2]) rfl ⟨true, _, _, x, HRA.out.1, HRA.out.2.1, HRA.out.2.2, rfl, (by repeat (first | exact HB2.out | refine Below.drew ?_ | refine Below.setCell ?_ (by simp) _ | refine Below.alloc ?_ (by simp <;> omega) _))⟩
end Go.Proofs.YtapiifeklimncaaDoor

/- The digit of a byte, of the specification. -/
namespace Go.Proofs.YtapiifeklimncaaDoor
open Go.ChangeShapes Go.WideShapes Go.RowKit

set_option maxHeartbeats 400000 in
theorem specDigit_any (c : Int) (w : World) (h0 : 0 ≤ c) (h1 : c ≤ 255) :
    Calls Tryd.prog 19 #[.int .u8 c] w fun e w' => e = .returned (.int .i64 (digN 99 c)) ∧ w' = w := by
  by_cases ha : 48 ≤ c ∧ c ≤ 57
  · have hv : digN 99 c = c - 48 := by unfold digN; rw [if_pos ha]
    rw [hv]; clear hv
    obtain ⟨ha, hb⟩ := ha
    go_enter Tryd.func19, Tryd.ntmps19
    go_wp2
    go_ret
    exact ⟨rfl, rfl⟩
  · by_cases hb : 97 ≤ c ∧ c ≤ 122
    · have hv : digN 99 c = c - 97 + 10 := by unfold digN; rw [if_neg ha, if_pos hb]
      rw [hv]; clear hv
      obtain ⟨hb, hc⟩ := hb
      have hd : 57 < c := by omega
      clear ha
      go_enter Tryd.func19, Tryd.ntmps19
      go_wp2
      go_ret
      exact ⟨rfl, rfl⟩
    · have hv : digN 99 c = 99 := by unfold digN; rw [if_neg ha, if_neg hb]
      rw [hv]; clear hv
      go_enter Tryd.func19, Tryd.ntmps19
      go_wp2
      all_goals (try (exfalso; omega))
      all_goals
        go_ret
        exact ⟨rfl, rfl⟩

theorem specDigit_byte (c : UInt8) (w : World) :
    Calls Tryd.prog 19 #[.int .u8 c.toNat] w fun e w' => e = .returned (.int .i64 (digN 99 c.toNat)) ∧ w' = w :=
  specDigit_any _ w (by omega) (by have := c.toNat_lt; omega)
end Go.Proofs.YtapiifeklimncaaDoor

