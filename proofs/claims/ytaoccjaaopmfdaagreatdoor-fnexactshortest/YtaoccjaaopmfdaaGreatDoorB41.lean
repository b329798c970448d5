import Derived.Test.YtaoccjaaopmfdaaGreatDoorB40
import Derived.Test.YtaoccjaaopmfdaaGreatDoorB31
import Derived.Test.YtaoccjaaopmfdaaGreatDoorB30
import Derived.Test.YtaoccjaaopmfdaaGreatDoorB37
import Derived.Deep.RegionWith
/- The program's ReadFlt answers what reading answers. -/
namespace Go.Proofs.YtaoccjaaopmfdaaGreatDoor
open Go.ChangeShapes Go.WideShapes Go.RowKit

attribute [local go_sem] run_store_float

set_option maxHeartbeats 2000000 in
set_option maxRecDepth 100000 in
theorem implRead_of (s : ByteArray) (w : World) (h : (Handle w ∧ 2 < w.heap.size) ∨ ∀ ok pl fl, ReadA s ok pl fl → ok = true) :
    Calls Tryz.prog 27 #[.string s] w (ReadQ s w) := by
  have HH : Hid ((Handle w ∧ 2 < w.heap.size) ∨ ∀ ok pl fl, ReadA s ok pl fl → ok = true) := h
  have HA : Hid _ := fun (w : World) => readAll_any s w
  have HB0 : Hid (Below w.heap.size w (w.alloc (.cells #[.bool false, .int .i64 0, .float .f64 0] 40))) := (Below.refl _ w).alloc (Nat.le_refl _) _
  clear h
  go_enter Tryz.func27, Tryz.ntmps27
  go_wp2_with fail
  refine (HA.out _).mono ?_
  rintro e w1 ⟨r, x, hq, rfl, hb⟩
  have hz : w.heap.size < w1.heap.size := by have := hb.size; simp at this; omega
  have HB1 : Hid (Below w.heap.size w w1) := HB0.out.trans (hb.mono (by simp))
  have r0 : w1.cell? ⟨w.heap.size, 0, none⟩ = some (.bool false) := by rw [hb.cell (by simp)]; simp
  have r1 : w1.cell? ⟨w.heap.size, 1, none⟩ = some (.int .i64 0) := by rw [hb.cell (by simp)]; simp
  have r2 : w1.cell? ⟨w.heap.size, 2, none⟩ = some (.float .f64 0) := by rw [hb.cell (by simp)]; simp
  have f0 : w1.frozen? ⟨w.heap.size, 0, none⟩ = false := by rw [hb.frozen (by simp)]; simp
  have f1 : w1.frozen? ⟨w.heap.size, 1, none⟩ = false := by rw [hb.frozen (by simp)]; simp
  have f2 : w1.frozen? ⟨w.heap.size, 2, none⟩ = false := by rw [hb.frozen (by simp)]; simp
  clear hb HA HB0
  rcases hq with ⟨a, rfl, hra⟩ | ⟨rfl, fl, hra, hx, hlt⟩
  · have hg : Handle w1 ∧ 2 < w1.heap.size := by
      rcases HH.out with ⟨h1, h2⟩ | h
      · exact ⟨h1.below h2 HB1.out, by omega⟩
      · cases h _ _ _ hra
    have HS : Hid _ := fun (_ : Unit) => as_place (a : Int) w1.heap.size (.int .i64 0) (w1.alloc (.cells #[.int .i64 0] 98)) (hg.1.alloc hg.2 _) (by simp <;> omega) (by simp) (by simp)
    have HRA : Hid (ReadA s false (a : Int) (· = 0)) := hra
    clear hg hra HH
    rw [err_some]
    go_wp2_with fail
    refine (HS.out ()).mono ?_
    rintro e w2 ⟨rfl, hc, hm⟩
    have q0 : w2.cell? ⟨w.heap.size, 0, none⟩ = some (.bool false) := by rw [hm.cell (by simp; omega) (by simp; omega), World.cell?_alloc_lt _ _ _ (by simpa using hz)]; exact r0
    have q1 : w2.cell? ⟨w.heap.size, 1, none⟩ = some (.int .i64 0) := by rw [hm.cell (by simp; omega) (by simp; omega), World.cell?_alloc_lt _ _ _ (by simpa using hz)]; exact r1
    have q2 : w2.cell? ⟨w.heap.size, 2, none⟩ = some (.float .f64 0) := by rw [hm.cell (by simp; omega) (by simp; omega), World.cell?_alloc_lt _ _ _ (by simpa using hz)]; exact r2
    have g0 : w2.frozen? ⟨w.heap.size, 0, none⟩ = false := by rw [hm.frozen (by simp; omega) (by simp; omega), World.frozen?_alloc_old _ _ _ (by simp; omega)]; exact f0
    have g1 : w2.frozen? ⟨w.heap.size, 1, none⟩ = false := by rw [hm.frozen (by simp; omega) (by simp; omega), World.frozen?_alloc_old _ _ _ (by simp; omega)]; exact f1
    have g2 : w2.frozen? ⟨w.heap.size, 2, none⟩ = false := by rw [hm.frozen (by simp; omega) (by simp; omega), World.frozen?_alloc_old _ _ _ (by simp; omega)]; exact f2
    have HB2 : Hid (Below w.heap.size w w2) := (HB1.out.alloc (by omega) _).trans (hm.below (by omega) (by simp; omega))
    clear hm HS r0 r1 r2 f0 f1 f2 HB1 hz
    go_wp2
    exact bodyPost_ret (v := .agg #[.bool false, .int .i64 (a : Int), .float .f64 0]) (by simp [results, Tryz.results27, go_sem, q0, q1, q2]) rfl ⟨false, _, _, 0, HRA.out, rfl, by omega, rfl, (by repeat (first | exact HB2.out | refine Below.drew ?_ | refine Below.setCell ?_ (by simp) _))⟩
  · have HRA : Hid (ReadA s true 0 fl ∧ fl x ∧ x < 18446744073709551616) := ⟨hra, hx, hlt⟩
    clear hra hx hlt HH
    rw [err_none]
    go_wp2_with fail
    refine (as_none _ _).mono ?_
    rintro e w2 ⟨rfl, rfl⟩
    have q0 : (w1.alloc (.cells #[.int .i64 0] 98)).cell? ⟨w.heap.size, 0, none⟩ = some (.bool false) := by rw [World.cell?_alloc_lt _ _ _ (by simpa using hz)]; exact r0
    have q1 : (w1.alloc (.cells #[.int .i64 0] 98)).cell? ⟨w.heap.size, 1, none⟩ = some (.int .i64 0) := by rw [World.cell?_alloc_lt _ _ _ (by simpa using hz)]; exact r1
    have q2 : (w1.alloc (.cells #[.int .i64 0] 98)).cell? ⟨w.heap.size, 2, none⟩ = some (.float .f64 0) := by rw [World.cell?_alloc_lt _ _ _ (by simpa using hz)]; exact r2
    have g0 : (w1.alloc (.cells #[.int .i64 0] 98)).frozen? ⟨w.heap.size, 0, none⟩ = false := by rw [World.frozen?_alloc_old _ _ _ (by simp; omega)]; exact f0
    have g1 : (w1.alloc (.cells #[.int .i64 0] 98)).frozen? ⟨w.heap.size, 1, none⟩ = false := by rw [World.frozen?_alloc_old _ _ _ (by simp; omega)]; exact f1
    have g2 : (w1.alloc (.cells #[.int .i64 0] 98)).frozen? ⟨w.heap.size, 2, none⟩ = false := by rw [World.frozen?_alloc_old _ _ _ (by simp; omega)]; exact f2
    have HB2 : Hid (Below w.heap.size w (w1.alloc (.cells #[.int .i64 0] 98))) := HB1.out.alloc (by omega) _
    clear r0 r1 r2 f0 f1 f2 HB1
    generalize w1.alloc (.cells #[.int .i64 0] 98) = w2 at *
    go_wp2
    exact bodyPost_ret (v := .agg #[.bool true, .int .i64 0, .float .f64 x]) (by simp [results, Tryz.results27, go_sem, q0, q1, q2]) rfl ⟨true, _, _, x, HRA.out.1, HRA.out.2.1, HRA.out.2.2, rfl, (by repeat (first | exact HB2.out | refine Below.drew ?_ | refine Below.setCell ?_ (by simp) _ | refine Below.alloc ?_ (by simp <;> omega) _))⟩
end Go.Proofs.YtaoccjaaopmfdaaGreatDoor

/- A text that is read as a float, or as another one, as the laws ask it. -/
namespace Go.Proofs.YtaoccjaaopmfdaaGreatDoor
open Go.ChangeShapes Go.WideShapes Go.RowKit
open Ieee (double)

attribute [local go_sem] run_store_float

theorem wflt_one {fl : Nat → Prop} {x y : Nat} (h : fl = IsNan ∨ fl = (· = x)) (hx : fl x) (hy : fl y) (hlx : x < 18446744073709551616) (w : World) :
    Calls Tryz.prog 14 #[.float .f64 y, .float .f64 x] w fun e w' => e = .returned (.bool true) ∧ w' = w := by
  rcases h with rfl | rfl
  · exact wflt_nan y x hy hx w
  · have h2 : y = x := hy
    rw [h2]
    exact wflt_self x hlx w
set_option maxHeartbeats 400000 in
/-- What is read as a float is found to be so. -/
theorem wRead_yes (s : ByteArray) (x : Nat) (hx : x < 18446744073709551616) (fl : Nat → Prop) (hA : ReadA s true 0 fl) (hfx : fl x) (hfl : fl = IsNan ∨ fl = (· = x)) (w : World) :
    Calls Tryz.prog 17 #[.string s, .float .f64 x] w fun e w' => e = .returned (.bool true) ∧ Below w.heap.size w w' := by
  have HR : Hid _ := fun (_ : Unit) => implRead_of s w (.inr fun ok pl fl h => (readA_one h hA).1)
  have HQ : Hid _ := fun (_ : Unit) => And.intro hA (And.intro hfx (And.intro hfl hx))
  clear hA hfx hfl hx
  go_enter Tryz.func17, Tryz.ntmps17
  go_wp2_with fail
  refine (HR.out ()).mono ?_
  rintro e w1 ⟨ok, pl, fl', y, hr, hy, _, rfl, hb⟩
  obtain ⟨h1, h2, h3, h4⟩ := HQ.out ()
  obtain ⟨rfl, rfl, rfl⟩ := readA_one hr h1
  have HB : Hid (Below w.heap.size w w1) := hb
  have HW : Hid _ := fun w => wflt_one h3 h2 hy h4 w
  clear hb HR HQ h1 h2 h3 h4 hr hy
  go_wp2_with fail
  refine (HW.out _).mono ?_
  rintro e w2 ⟨rfl, rfl⟩
  go_wp2
  go_ret
  exact ⟨rfl, HB.out.alloc HB.out.size _⟩
set_option maxHeartbeats 400000 in
/-- What is read as another number is found not to be so. -/
theorem wRead_no (s : ByteArray) (x v : Nat) (hA : ReadA s true 0 (· = v)) (h1 : FloatKind.f64.format.order x x = some .eq) (h2 : FloatKind.f64.format.order v v = some .eq) (h3 : (FloatKind.f64.format.order v x == some .eq) = false) (w : World) :
    Calls Tryz.prog 17 #[.string s, .float .f64 x] w fun e w' => e = .returned (.bool false) ∧ Below w.heap.size w w' := by
  have HR : Hid _ := fun (_ : Unit) => implRead_of s w (.inr fun ok pl fl h => (readA_one h hA).1)
  have HQ : Hid _ := fun (_ : Unit) => hA
  have HW : Hid (∀ w, Calls Tryz.prog 14 #[.float .f64 v, .float .f64 x] w fun e w' => e = .returned (.bool false) ∧ w' = w) := fun w => by
    go_enter Tryz.func14, Tryz.ntmps14
    go_wp2
    go_ret
    exact ⟨rfl, rfl⟩
  clear hA h1 h2 h3
  go_enter Tryz.func17, Tryz.ntmps17
  go_wp2_with fail
  refine (HR.out ()).mono ?_
  rintro e w1 ⟨ok, pl, fl', y, hr, hy, _, rfl, hb⟩
  obtain ⟨rfl, rfl, rfl⟩ := readA_one hr (HQ.out ())
  cases hy
  have HB : Hid (Below w.heap.size w w1) := hb
  clear hb HR HQ hr
  go_wp2_with fail
  refine (HW.out _).mono ?_
  rintro e w2 ⟨rfl, rfl⟩
  go_wp2
  go_ret
  exact ⟨rfl, HB.out.alloc HB.out.size _⟩
end Go.Proofs.YtaoccjaaopmfdaaGreatDoor

/- A float's bits as the program lays them: layoutOf. -/
namespace Go.Proofs.YtaoccjaaopmfdaaGreatDoor
open Go.ChangeShapes Go.WideShapes Go.RowKit
open Ieee (double)

theorem call_bits (x : Nat) (w : World) : (callFunc 81 #[.float .f64 x]).run Tryz.prog w = .ok (.value (.int .u64 x)) w := by kernel_rfl
set_option maxHeartbeats 400000 in
theorem layoutOf_any (U : Nat) (s : Bool) (E M : Nat) (h : Lays U s E M) (w : World) :
    Calls Tryz.prog 45 #[.float .f64 U] w fun e w' => e = .returned (.agg #[.bool s, .int .u64 E, .int .u64 M]) ∧ w' = w.alloc (.cells #[.bool s, .int .u64 E, .int .u64 M] 77) := by
  obtain ⟨h1, h2, h3⟩ := h
  have hc := call_bits U
  go_enter Tryz.func45, Tryz.ntmps45
  go_wp2
  exact bodyPost_ret (v := .agg #[.bool s, .int .u64 E, .int .u64 M]) (by simp [results, Tryz.results45, go_sem]) rfl ⟨rfl, rfl⟩
end Go.Proofs.YtaoccjaaopmfdaaGreatDoor

/- The kind of a float, as the program tells it. -/
namespace Go.Proofs.YtaoccjaaopmfdaaGreatDoor
open Go.ChangeShapes Go.WideShapes Go.RowKit
open Ieee (double)

set_option maxHeartbeats 400000 in
theorem kind_zero (s : Bool) (w : World) :
    Calls Tryz.prog 46 #[.agg #[.bool s, .int .u64 0, .int .u64 0]] w fun e w' => e = .returned (.int .i64 0) ∧ w' = w.alloc (.cells #[.bool s, .int .u64 0, .int .u64 0] 77) := by
  go_enter Tryz.func46, Tryz.ntmps46
  go_wp2
  go_ret
  exact ⟨rfl, rfl⟩
set_option maxHeartbeats 400000 in
theorem kind_inf (s : Bool) (w : World) :
    Calls Tryz.prog 46 #[.agg #[.bool s, .int .u64 2047, .int .u64 0]] w fun e w' => e = .returned (.int .i64 2) ∧ w' = ((w.alloc (.cells #[.bool s, .int .u64 2047, .int .u64 0] 77)).alloc (.cells #[.bool s, .int .u64 2047, .int .u64 0] 77)).drew := by
  go_enter Tryz.func46, Tryz.ntmps46
  go_wp2
  go_region_with (go_at_call 63; refine (infinity_any _ _).mono ?_; rintro e w' ⟨rfl, rfl⟩)
  all_goals
    go_wp2
    go_ret
    exact ⟨rfl, rfl⟩
set_option maxHeartbeats 400000 in
theorem kind_nan (s : Bool) (M : Nat) (hM : M ≠ 0) (w : World) :
    Calls Tryz.prog 46 #[.agg #[.bool s, .int .u64 2047, .int .u64 M]] w fun e w' => e = .returned (.int .i64 3) ∧ w' = ((w.alloc (.cells #[.bool s, .int .u64 2047, .int .u64 M] 77)).alloc (.cells #[.bool s, .int .u64 2047, .int .u64 0] 77)).drew := by
  have m0 : ((M : Int) == 0) = false := beq_eq_false_iff_ne.2 (by omega)
  clear hM
  go_enter Tryz.func46, Tryz.ntmps46
  go_wp2
  go_region_with (go_at_call 63; refine (infinity_any _ _).mono ?_; rintro e w' ⟨rfl, rfl⟩)
  all_goals
    go_wp2
    go_ret
    exact ⟨rfl, rfl⟩
set_option maxHeartbeats 400000 in
theorem kind_small (s : Bool) (M : Nat) (hM : M ≠ 0) (w : World) :
    Calls Tryz.prog 46 #[.agg #[.bool s, .int .u64 0, .int .u64 M]] w fun e w' => e = .returned (.int .i64 1) ∧ w' = ((w.alloc (.cells #[.bool s, .int .u64 0, .int .u64 M] 77)).alloc (.cells #[.bool s, .int .u64 2047, .int .u64 0] 77)).drew := by
  have m0 : ((M : Int) == 0) = false := beq_eq_false_iff_ne.2 (by omega)
  clear hM
  go_enter Tryz.func46, Tryz.ntmps46
  go_wp2
  go_region_with (go_at_call 63; refine (infinity_any _ _).mono ?_; rintro e w' ⟨rfl, rfl⟩)
  all_goals
    go_wp2
    go_ret
    exact ⟨rfl, rfl⟩
set_option maxHeartbeats 400000 in
theorem kind_normal (s : Bool) (E M : Nat) (h1 : 1 ≤ E) (h2 : E ≤ 2046) (w : World) :
    Calls Tryz.prog 46 #[.agg #[.bool s, .int .u64 E, .int .u64 M]] w fun e w' => e = .returned (.int .i64 1) ∧ w' = ((w.alloc (.cells #[.bool s, .int .u64 E, .int .u64 M] 77)).alloc (.cells #[.bool s, .int .u64 2047, .int .u64 0] 77)).drew := by
  have e0 : ((E : Int) == 0) = false := beq_eq_false_iff_ne.2 (by omega)
  have e1 : ((E : Int) == 2047) = false := beq_eq_false_iff_ne.2 (by omega)
  clear h1 h2
  go_enter Tryz.func46, Tryz.ntmps46
  go_wp2
  go_region_with (go_at_call 63; refine (infinity_any _ _).mono ?_; rintro e w' ⟨rfl, rfl⟩)
  all_goals
    go_wp2
    go_ret
    exact ⟨rfl, rfl⟩
end Go.Proofs.YtaoccjaaopmfdaaGreatDoor

