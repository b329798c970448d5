import Derived.Test.YtoedefjngipeiaaGreatDoorA37
import Derived.Test.YtoedefjngipeiaaGreatDoorA12
import Derived.Test.YtoedefjngipeiaaGreatDoorA15
import Derived.Test.YtoedefjngipeiaaGreatDoorA11
import Derived.Deep.RegionWith
/- The program's ReadFlt answers what reading answers. -/
namespace Go.Proofs.YtoedefjngipeiaaGreatDoor
open Go.ChangeShapes Go.WideShapes Go.RowKit

attribute [local go_sem] run_store_float

set_option maxHeartbeats 2000000 in
set_option maxRecDepth 100000 in
theorem implRead_of (s : ByteArray) (w : World) (h : (Handle w ∧ 2 < w.heap.size) ∨ ∀ ok pl fl, ReadA s ok pl fl → ok = true) :
    Calls Tryz.prog 15 #[.string s] w (ReadQ s w) := by
  have HH : Hid ((Handle w ∧ 2 < w.heap.size) ∨ ∀ ok pl fl, ReadA s ok pl fl → ok = true) := h
  have HA : Hid _ := fun (w : World) => readAll_any s w
  have HB0 : Hid (Below w.heap.size w (w.alloc (.cells #[.bool false, .int .i64 0, .float .f64 0] 37))) := (Below.refl _ w).alloc (Nat.le_refl _) _
  clear h
  go_enter Tryz.func15, Tryz.ntmps15
  go_wp2_with fail
  refine (HA.out _).mono ?_
  rintro e w1 ⟨r, x, hq, rfl, hb⟩
  have hz : w.heap.size < w1.heap.size := by have := hb.size; simp at this; omega
  have HB1 : Hid (Below w.heap.size w w1) := HB0.out.trans (hb.mono (by simp))
  have r0 : w1.cell? ⟨w.heap.size, 0, none⟩ = some (.bool false) := by rw [hb.cell (by simp)]; simp
  have r1 : w1.cell? ⟨w.heap.size, 1, none⟩ = some (.int .i64 0) := by rw [hb.cell (by simp)]; simp
  have r2 : w1.cell? ⟨w.heap.size, 2, none⟩ = some (.float .f64 0) := by rw [hb.cell (by simp)]; simp
  have f0 : w1.frozen? ⟨w.heap.size, 0, none⟩ = false := by rw [hb.frozen (by simp)]; simp
  have f1 : w1.frozen? ⟨w.heap.size, 1, none⟩ = false := by rw [hb.frozen (by simp)]; simp
  have f2 : w1.frozen? ⟨w.heap.size, 2, none⟩ = false := by rw [hb.frozen (by simp)]; simp
  clear hb HA HB0
  rcases hq with ⟨a, rfl, hra⟩ | ⟨rfl, fl, hra, hx, hlt⟩
  · have hg : Handle w1 ∧ 2 < w1.heap.size := by
      rcases HH.out with ⟨h1, h2⟩ | h
      · exact ⟨h1.below h2 HB1.out, by omega⟩
      · cases h _ _ _ hra
    have HS : Hid _ := fun (_ : Unit) => as_place (a : Int) w1.heap.size (.int .i64 0) (w1.alloc (.cells #[.int .i64 0] 67)) (hg.1.alloc hg.2 _) (by simp <;> omega) (by simp) (by simp)
    have HRA : Hid (ReadA s false (a : Int) (· = 0)) := hra
    clear hg hra HH
    rw [err_some]
    go_wp2_with fail
    refine (HS.out ()).mono ?_
    rintro e w2 ⟨rfl, hc, hm⟩
    have q0 : w2.cell? ⟨w.heap.size, 0, none⟩ = some (.bool false) := by rw [hm.cell (by simp; omega) (by simp; omega), World.cell?_alloc_lt _ _ _ (by simpa using hz)]; exact r0
    have q1 : w2.cell? ⟨w.heap.size, 1, none⟩ = some (.int .i64 0) := by rw [hm.cell (by simp; omega) (by simp; omega), World.cell?_alloc_lt _ _ _ (by simpa using hz)]; exact r1
    have q2 : w2.cell? ⟨w.heap.size, 2, none⟩ = some (.float .f64 0) := by rw [hm.cell (by simp; omega) (by simp; omega), World.cell?_alloc_lt _ _ _ (by simpa using hz)]; exact r2
    have g0 : w2.frozen? ⟨w.heap.size, 0, none⟩ = false := by rw [hm.frozen (by simp; omega) (by simp; omega), World.frozen?_alloc_old _ _ _ (by simp; omega)]; exact f0
    have g1 : w2.frozen? ⟨w.heap.size, 1, none⟩ = false := by rw [hm.frozen (by simp; omega) (by simp; omega), World.frozen?_alloc_old _ _ _ (by simp; omega)]; exact f1
    have g2 : w2.frozen? ⟨w.heap.size, 2, none⟩ = false := by rw [hm.frozen (by simp; omega) (by simp; omega), World.frozen?_alloc_old _ _ _ (by simp; omega)]; exact f2
    have HB2 : Hid (Below w.heap.size w w2) := (HB1.out.alloc (by omega) _).trans (hm.below (by omega) (by simp; omega))
    clear hm HS r0 r1 r2 f0 f1 f2 HB1 hz
    go_wp2
    exact bodyPost_ret (v := .agg #[.bool false, .int .i64 (a : Int), .float .f64 0]) (by simp [results, Tryz.results15, go_sem, q0, q1, q2]) rfl ⟨false, _, _, 0, HRA.out, rfl, by omega, rfl, (by repeat (first | exact HB2.out | refine Below.drew ?_ | refine Below.setCell ?_ (by simp) _))⟩
  · have HRA : Hid (ReadA s true 0 fl ∧ fl x ∧ x < 18446744073709551616) := ⟨hra, hx, hlt⟩
    clear hra hx hlt HH
    rw [err_none]
    go_wp2_with fail
    refine (as_none _ _).mono ?_
    rintro e w2 ⟨rfl, rfl⟩
    have q0 : (w1.alloc (.cells #[.int .i64 0] 67)).cell? ⟨w.heap.size, 0, none⟩ = some (.bool false) := by rw [World.cell?_alloc_lt _ _ _ (by simpa using hz)]; exact r0
    have q1 : (w1.alloc (.cells #[.int .i64 0] 67)).cell? ⟨w.heap.size, 1, none⟩ = some (.int .i64 0) := by rw [World.cell?_alloc_lt _ _ _ (by simpa using hz)]; exact r1
    have q2 : (w1.alloc (.cells #[.int .i64 0] 67)).cell? ⟨w.heap.size, 2, none⟩ = some (.float .f64 0) := by rw [World.cell?_alloc_lt _ _ _ (by simpa using hz)]; exact r2
    have g0 : (w1.alloc (.cells #[.int .i64 0] 67)).frozen? ⟨w.heap.size, 0, none⟩ = false := by rw [World.frozen?_alloc_old _ _ _ (by simp; omega)]; exact f0
    have g1 : (w1.alloc (.cells #[.int .i64 0] 67)).frozen? ⟨w.heap.size, 1, none⟩ = false := by rw [World.frozen?_alloc_old _ _ _ (by simp; omega)]; exact f1
    have g2 : (w1.alloc (.cells #[.int .i64 0] 67)).frozen? ⟨w.heap.size, 2, none⟩ = false := by rw [World.frozen?_alloc_old _ _ _ (by simp; omega)]; exact f2
    have HB2 : Hid (Below w.heap.size w (w1.alloc (.cells #[.int .i64 0] 67))) := HB1.out.alloc (by omega) _
    clear r0 r1 r2 f0 f1 f2 HB1
    generalize w1.alloc (.cells #[.int .i64 0] 67) = w2 at *
    go_wp2
    exact bodyPost_ret (v := .agg #[.bool true, .int .i64 0, .float .f64 x]) (by simp [results, Tryz.results15, go_sem, q0, q1, q2]) rfl ⟨true, _, _, x, HRA.out.1, HRA.out.2.1, HRA.out.2.2, rfl, (by repeat (first | exact HB2.out | refine Below.drew ?_ | refine Below.setCell ?_ (by simp) _ | refine Below.alloc ?_ (by simp <;> omega) _))⟩
end Go.Proofs.YtoedefjngipeiaaGreatDoor

/- The reader of the specification: look, is. -/
namespace Go.Proofs.YtoedefjngipeiaaGreatDoor
open Go.ChangeShapes Go.WideShapes Go.RowKit

/-- The reader in block B, at a place. -/
def Rd (B : Nat) (w : World) (s : ByteArray) (k : Nat) : Prop := w.cell? ⟨B, 0, none⟩ = some (.string s) ∧ w.cell? ⟨B, 1, none⟩ = some (.int .i64 (k : Int)) ∧ w.frozen? ⟨B, 1, none⟩ = false
theorem Rd.drewN {B : Nat} {w : World} {s : ByteArray} {k : Nat} (h : Rd B w s k) (n : Nat) : Rd B (w.drewN n) s k := h
theorem Rd.below {B C : Nat} {w w' : World} {s : ByteArray} {k : Nat} (h : Rd B w s k) (hb : Below C w w') (hB : B < C) : Rd B w' s k := by
  obtain ⟨c0, c1, f1⟩ := h
  exact ⟨by rw [hb.cell (p := ⟨B, 0, none⟩) hB]; exact c0, by rw [hb.cell (p := ⟨B, 1, none⟩) hB]; exact c1, by rw [hb.frozen (p := ⟨B, 1, none⟩) hB]; exact f1⟩

set_option maxHeartbeats 400000 in
theorem look_any (B : Nat) (w : World) (s : ByteArray) (k : Nat) (h : Rd B w s k) :
    Calls Tryz.prog 36 #[.pointer (some ⟨B, 0, none⟩)] w fun e w' => e = .returned (.int .u8 (bAt s k)) ∧ ∃ n, w' = w.drewN n := by
  obtain ⟨c0, c1, _⟩ := h
  by_cases hk : k < s.size
  · rw [bAt_in s k hk]
    go_enter Tryz.func36, Tryz.ntmps36
    go_wp2
    go_quiet (fail)
    go_wp2
    go_quiet (fail)
    go_wp2
    go_ret
    exact ⟨rfl, _, World.drewN_drewN _ _ _⟩
  · rw [bAt_out s k hk]
    go_enter Tryz.func36, Tryz.ntmps36
    go_wp2
    go_quiet (fail)
    go_wp2
    go_ret
    exact ⟨rfl, _, rfl⟩
theorem bAt_byte (s : ByteArray) (k : Nat) : 0 ≤ bAt s k ∧ bAt s k ≤ 255 := by
  unfold bAt
  split
  · have := s[k].toNat_lt; omega
  · omega
set_option maxHeartbeats 400000 in
theorem is_no (B : Nat) (w : World) (s : ByteArray) (k : Nat) (c : Int) (h : Rd B w s k) (hn : bAt s k ≠ c) :
    Calls Tryz.prog 35 #[.pointer (some ⟨B, 0, none⟩), .int .u8 c] w fun e w' => e = .returned (.bool false) ∧ ∃ n, w' = w.drewN n := by
  have HK : Hid _ := fun n => look_any B (w.drewN n) s k (h.drewN n)
  have b : (bAt s k == c) = false := beq_eq_false_iff_ne.2 hn
  obtain ⟨c0, c1, _⟩ := h
  clear hn
  generalize bAt s k = x at *
  go_enter Tryz.func35, Tryz.ntmps35
  go_wp2
  go_quiet (first | (go_at_call 36; exact Calls.quiet_of (HK.out _)))
  go_wp2
  go_ret
  exact ⟨rfl, _, rfl⟩
set_option maxHeartbeats 400000 in
theorem is_yes (B : Nat) (w : World) (s : ByteArray) (k : Nat) (c : Int) (h : Rd B w s k) (hs : s.size ≤ 1300) (hk : k < s.size) (hn : bAt s k = c) :
    Calls Tryz.prog 35 #[.pointer (some ⟨B, 0, none⟩), .int .u8 c] w fun e w' => e = .returned (.bool true) ∧ ∃ n, w' = (w.drewN n).setCell ⟨B, 1, none⟩ (.int .i64 ((k : Int) + 1)) := by
  have HK : Hid _ := fun n => look_any B (w.drewN n) s k (h.drewN n)
  have b : (bAt s k == c) = true := beq_iff_eq.2 hn
  obtain ⟨c0, c1, f1⟩ := h
  clear hn
  generalize bAt s k = x at *
  have hk' : (k : Int) < (s.size : Int) := by omega
  have hs' : (s.size : Int) ≤ 1300 := by omega
  go_enter Tryz.func35, Tryz.ntmps35
  go_wp2
  go_quiet (first | (go_at_call 36; exact Calls.quiet_of (HK.out _)))
  go_wp2
  go_ret
  exact ⟨rfl, _, rfl⟩
end Go.Proofs.YtoedefjngipeiaaGreatDoor

/- The reader of the specification: digits. -/
namespace Go.Proofs.YtoedefjngipeiaaGreatDoor
open Go.ChangeShapes Go.WideShapes Go.RowKit

/-- Where the reader stands. -/
def rdAt (B : Nat) (w : World) : Nat := match w.cell? ⟨B, 1, none⟩ with | some (.int _ j) => j.toNat | _ => 0
theorem rdAt_is {B : Nat} {w : World} {s : ByteArray} {k : Nat} (h : Rd B w s k) : rdAt B w = k := by
  unfold rdAt
  rw [h.2.1]
  exact Int.toNat_natCast k

set_option maxHeartbeats 1600000 in
theorem digits_any (B : Nat) (w : World) (s : ByteArray) (k : Nat) (b : Int) (h : Rd B w s k) (hs : s.size ≤ 1300) (hk : k ≤ s.size) :
    Calls Tryz.prog 40 #[.pointer (some ⟨B, 0, none⟩), .int .i64 b] w fun e w' => ∃ j, Run b s k j ∧ e = .returned (.string (s.extract k j)) ∧ Rd B w' s j ∧ Only B w w' := by
  have hs' : (s.size : Int) ≤ 1300 := by omega
  have H0 : Hid (Rd B w s k) := h
  obtain ⟨c0, c1, f1⟩ := h
  go_enter Tryz.func40, Tryz.ntmps40
  go_wp2
  go_loopw [13] (fun _ wl => ∃ j : Nat, Hid (Rd B wl s j) ∧ Hid (Only B w wl) ∧ k ≤ j ∧ j ≤ s.size ∧ Hid (∀ i, k ≤ i → i < j → Dig b s i)) (fun _ wl => s.size - rdAt B wl)
  case atStart => exact ⟨k, H0, Only.refl B w, Nat.le_refl _, hk, fun i h1 h2 => by omega⟩
  case round =>
    obtain ⟨j, HR, HO, hkj, hj, HI⟩ := hrel
    obtain ⟨d0, d1, g1⟩ := HR.out
    by_cases hlt : j < s.size
    · have hlt' : (j : Int) < (s.size : Int) := by omega
      have HD : Hid _ := fun w => specDigit_byte s[j] w
      have hb := bAt_in s j hlt
      by_cases hd : digN 99 (s[j].toNat : Int) < b
      · have HN : Hid _ := fun (_ : Unit) => And.intro hlt (show digN 99 (bAt s j) < b by rw [hb]; exact hd)
        clear hb c0 c1 f1
        generalize digN 99 (s[j].toNat : Int) = x at *
        go_wp2
        go_quiet (first | (go_at_call 67; exact Calls.quiet_of_same (HD.out _)))
        go_wp2
        go_roundw
        case rel => exact ⟨j + 1, ⟨by simp [go_sem, d0], by simp [go_sem, d1], by simp [go_sem, g1]⟩, HO.out.trans (((Only.refl _ _).drewN _).setCell _ _), by omega, by omega, fun i h1 h2 => by
          by_cases h3 : i = j
          · subst h3; exact HN.out ()
          · exact HI.out i h1 (by omega)⟩
        case measure =>
          have e1 : rdAt B _ = j := rdAt_is HR.out
          simp [rdAt, go_sem, d1]
          omega
      · have hd' : decide (digN 99 (s[j].toNat : Int) < b) = false := decide_eq_false hd
        have HN : Hid (¬ Dig b s j) := fun h => hd (by have := h.2; rw [hb] at this; exact this)
        have HE : Hid (Rd B _ s j) := HR.out
        clear hb c0 c1 f1 hd
        generalize digN 99 (s[j].toNat : Int) = x at *
        go_wp2
        go_quiet (first | (go_at_call 67; exact Calls.quiet_of_same (HD.out _)))
        go_wp2
        go_quiet (fail)
        go_wp2
        go_ret
        exact ⟨j, ⟨hkj, hj, HI.out, HN.out⟩, rfl, HR.out, (HO.out.drewN _).drewN _⟩
    · have hd' : decide ((j : Int) < (s.size : Int)) = false := decide_eq_false (by omega)
      have HN : Hid (¬ Dig b s j) := fun h => hlt h.1
      clear c0 c1 f1
      go_wp2
      go_quiet (fail)
      go_wp2
      go_quiet (fail)
      go_wp2
      go_ret
      exact ⟨j, ⟨hkj, hj, HI.out, HN.out⟩, rfl, HR.out, (HO.out.drewN _).drewN _⟩
end Go.Proofs.YtoedefjngipeiaaGreatDoor

/- The cursor's is, with what it writes. -/
namespace Go.Proofs.YtoedefjngipeiaaGreatDoor
open Go.ChangeShapes Go.WideShapes Go.RowKit

theorem is_no' (B : Nat) (w : World) (s : ByteArray) (k : Nat) (c : Int) (h : Rd B w s k) (hn : bAt s k ≠ c) :
    Calls Tryz.prog 35 #[.pointer (some ⟨B, 0, none⟩), .int .u8 c] w fun e w' => e = .returned (.bool false) ∧ Rd B w' s k ∧ Only B w w' := by
  refine (is_no B w s k c h hn).mono ?_
  rintro e w' ⟨rfl, n, rfl⟩
  exact ⟨rfl, h, (Only.refl _ _).drewN n⟩
theorem is_yes' (B : Nat) (w : World) (s : ByteArray) (k : Nat) (c : Int) (h : Rd B w s k) (hs : s.size ≤ 1300) (hk : k < s.size) (hn : bAt s k = c) :
    Calls Tryz.prog 35 #[.pointer (some ⟨B, 0, none⟩), .int .u8 c] w fun e w' => e = .returned (.bool true) ∧ Rd B w' s (k + 1) ∧ Only B w w' := by
  refine (is_yes B w s k c h hs hk hn).mono ?_
  rintro e w' ⟨rfl, n, rfl⟩
  obtain ⟨c0, c1, f1⟩ := h
  exact ⟨rfl, ⟨by simp [go_sem, c0], by simp [go_sem, c1], by simp [go_sem, f1]⟩, ((Only.refl _ _).drewN n).setCell _ _⟩
end Go.Proofs.YtoedefjngipeiaaGreatDoor

