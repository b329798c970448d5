import Derived.Test.YtapiifeklimncaaDoorA02
import Derived.Test.YtapiifeklimncaaDoorA22
import Derived.Test.YtapiifeklimncaaDoorA08
import Derived.Deep.RegionWith
/- The reader of the specification: look, is. -/
namespace Go.Proofs.YtapiifeklimncaaDoor
open Go.ChangeShapes Go.WideShapes Go.RowKit

/-- The reader in block B, at a place. -/
def Rd (B : Nat) (w : World) (s : ByteArray) (k : Nat) : Prop := w.cell? ⟨B, 0, none⟩ = some (.string s) ∧ w.cell? ⟨B, 1, none⟩ = some (.int .i64 (k : Int)) ∧ w.frozen? ⟨B, 1, none⟩ = false
theorem Rd.drewN {B : Nat} {w : World} {s : ByteArray} {k : Nat} (h : Rd B w s k) (n : Nat) : Rd B (w.drewN n) s k := h
theorem Rd.below {B C : Nat} {w w' : World} {s : ByteArray} {k : Nat} (h : Rd B w s k) (hb : Below C w w') (hB : B < C) : Rd B w' s k := by
  obtain ⟨c0, c1, f1⟩ := h
  exact ⟨by rw [hb.cell (p := ⟨B, 0, none⟩) hB]; exact c0, by rw [hb.cell (p := ⟨B, 1, none⟩) hB]; exact c1, by rw [hb.frozen (p := ⟨B, 1, none⟩) hB]; exact f1⟩

set_option maxHeartbeats 400000 in
theorem look_any (B : Nat) (w : World) (s : ByteArray) (k : Nat) (h : Rd B w s k) :
    Calls Tryd.prog 8 #[.pointer (some ⟨B, 0, none⟩)] w fun e w' => e = .returned (.int .u8 (bAt s k)) ∧ ∃ n, w' = w.drewN n := by
  obtain ⟨c0, c1, _⟩ := h
  by_cases hk : k < s.size
  · rw [bAt_in s k hk]
    go_enter Tryd.func8, Tryd.ntmps8
    go_wp2
    go_quiet (fail)
    go_wp2
    go_quiet (fail)
    go_wp2
    go_ret
    exact ⟨rfl, _, World.drewN_drewN _ _ _⟩
  · rw [bAt_out s k hk]
    go_enter Tryd.func8, Tryd.ntmps8
    go_wp2
    go_quiet (fail)
    go_wp2
    go_ret
    exact ⟨rfl, _, rfl⟩
theorem bAt_byte (s : ByteArray) (k : Nat) : 0 ≤ bAt s k ∧ bAt s k ≤ 255 := by
  unfold bAt
  split
  · have := s[k].toNat_lt; omega
  · omega
set_option maxHeartbeats 400000 in
theorem is_no (B : Nat) (w : World) (s : ByteArray) (k : Nat) (c : Int) (h : Rd B w s k) (hn : bAt s k ≠ c) :
    Calls Tryd.prog 7 #[.pointer (some ⟨B, 0, none⟩), .int .u8 c] w fun e w' => e = .returned (.bool false) ∧ ∃ n, w' = w.drewN n := by
  have HK : Hid _ := fun n => look_any B (w.drewN n) s k (h.drewN n)
  have b : (bAt s k == c) = false := beq_eq_false_iff_ne.2 hn
  obtain ⟨c0, c1, _⟩ := h
  clear hn
  generalize bAt s k = x at *
  go_enter Tryd.func7, Tryd.ntmps7
  go_wp2
  go_quiet (first | (go_at_call 8; exact Calls.quiet_of (HK.out _)))
  go_wp2
  go_ret
  exact ⟨rfl, _, rfl⟩
set_option maxHeartbeats 400000 in
theorem is_yes (B : Nat) (w : World) (s : ByteArray) (k : Nat) (c : Int) (h : Rd B w s k) (hs : s.size ≤ 1300) (hk : k < s.size) (hn : bAt s k = c) :
    Calls Tryd.prog 7 #[.pointer (some ⟨B, 0, none⟩), .int .u8 c] w fun e w' => e = .returned (.bool true) ∧ ∃ n, w' = (w.drewN n).setCell ⟨B, 1, none⟩ (.int .i64 ((k : Int) + 1)) := by
  have HK : Hid _ := fun n => look_any B (w.drewN n) s k (h.drewN n)
  have b : (bAt s k == c) = true := beq_iff_eq.2 hn
  obtain ⟨c0, c1, f1⟩ := h
  clear hn
  generalize bAt s k = x at *
  have hk' : (k : Int) < (s.size : Int) := by omega
  have hs' : (s.size : Int) ≤ 1300 := by omega
  go_enter Tryd.func7, Tryd.ntmps7
  go_wp2
  go_quiet (first | (go_at_call 8; exact Calls.quiet_of (HK.out _)))
  go_wp2
  go_ret
  exact ⟨rfl, _, rfl⟩
end Go.Proofs.YtapiifeklimncaaDoor

/- The reader of the specification: digits. -/
namespace Go.Proofs.YtapiifeklimncaaDoor
open Go.ChangeShapes Go.WideShapes Go.RowKit

/-- Where the reader stands. -/
def rdAt (B : Nat) (w : World) : Nat := match w.cell? ⟨B, 1, none⟩ with | some (.int _ j) => j.toNat | _ => 0
theorem rdAt_is {B : Nat} {w : World} {s : ByteArray} {k : Nat} (h : Rd B w s k) : rdAt B w = k := by
  unfold rdAt
  rw [h.2.1]
  exact Int.toNat_natCast k

set_option maxHeartbeats 1600000 in
theorem digits_any (B : Nat) (w : World) (s : ByteArray) (k : Nat) (b : Int) (h : Rd B w s k) (hs : s.size ≤ 1300) (hk : k ≤ s.size) :
    Calls Tryd.prog 12 #[.pointer (some ⟨B, 0, none⟩), .int .i64 b] w fun e w' => ∃ j, Run b s k j ∧ e = .returned (.string (s.extract k j)) ∧ Rd B w' s j ∧ Only B w w' := by
  have hs' : (s.size : Int) ≤ 1300 := by omega
  have H0 : Hid (Rd B w s k) := h
  obtain ⟨c0, c1, f1⟩ := h
  go_enter Tryd.func12, Tryd.ntmps12
  go_wp2
  go_loopw [13] (fun _ wl => ∃ j : Nat, Hid (Rd B wl s j) ∧ Hid (Only B w wl) ∧ k ≤ j ∧ j ≤ s.size ∧ Hid (∀ i, k ≤ i → i < j → Dig b s i)) (fun _ wl => s.size - rdAt B wl)
  case atStart => exact ⟨k, H0, Only.refl B w, Nat.le_refl _, hk, fun i h1 h2 => by omega⟩
  case round =>
    obtain ⟨j, HR, HO, hkj, hj, HI⟩ := hrel
    obtain ⟨d0, d1, g1⟩ := HR.out
    by_cases hlt : j < s.size
    · have hlt' : (j : Int) < (s.size : Int) := by omega
      have HD : Hid _ := fun w => specDigit_byte s[j] w
      have hb := bAt_in s j hlt
      by_cases hd : digN 99 (s[j].toNat : Int) < b
      · have HN : Hid _ := fun (_ : Unit) => And.intro hlt (show digN 99 (bAt s j) < b by rw [hb]; exact hd)
        clear hb c0 c1 f1
        generalize digN 99 (s[j].toNat : Int) = x at *
        go_wp2
        go_quiet (first | (go_at_call 19; exact Calls.quiet_of_same (HD.out _)))
        go_wp2
        go_roundw
        case rel => exact ⟨j + 1, ⟨by simp [go_sem, d0], by simp [go_sem, d1], by simp [go_sem, g1]⟩, HO.out.trans (((Only.refl _ _).drewN _).setCell _ _), by omega, by omega, fun i h1 h2 => by
          by_cases h3 : i = j
          · subst h3; exact HN.out ()
          · exact HI.out i h1 (by omega)⟩
        case measure =>
          have e1 : rdAt B _ = j := rdAt_is HR.out
          simp [rdAt, go_sem, d1]
          omega
      · have hd' : decide (digN 99 (s[j].toNat : Int) < b) = false := decide_eq_false hd
        have HN : Hid (¬ Dig b s j) := fun h => hd (by have := h.2; rw [hb] at this; exact this)
        have HE : Hid (Rd B _ s j) := HR.out
        clear hb c0 c1 f1 hd
        generalize digN 99 (s[j].toNat : Int) = x at *
        go_wp2
        go_quiet (first | (go_at_call 19; exact Calls.quiet_of_same (HD.out _)))
        go_wp2
        go_quiet (fail)
        go_wp2
        go_ret
        exact ⟨j, ⟨hkj, hj, HI.out, HN.out⟩, rfl, HR.out, (HO.out.drewN _).drewN _⟩
    · have hd' : decide ((j : Int) < (s.size : Int)) = false := decide_eq_false (by omega)
      have HN : Hid (¬ Dig b s j) := fun h => hlt h.1
      clear c0 c1 f1
      go_wp2
      go_quiet (fail)
      go_wp2
      go_quiet (fail)
      go_wp2
      go_ret
      exact ⟨j, ⟨hkj, hj, HI.out, HN.out⟩, rfl, HR.out, (HO.out.drewN _).drewN _⟩
end Go.Proofs.YtapiifeklimncaaDoor

/- The cursor's is, with what it writes. -/
namespace Go.Proofs.YtapiifeklimncaaDoor
open Go.ChangeShapes Go.WideShapes Go.RowKit

theorem is_no' (B : Nat) (w : World) (s : ByteArray) (k : Nat) (c : Int) (h : Rd B w s k) (hn : bAt s k ≠ c) :
    Calls Tryd.prog 7 #[.pointer (some ⟨B, 0, none⟩), .int .u8 c] w fun e w' => e = .returned (.bool false) ∧ Rd B w' s k ∧ Only B w w' := by
  refine (is_no B w s k c h hn).mono ?_
  rintro e w' ⟨rfl, n, rfl⟩
  exact ⟨rfl, h, (Only.refl _ _).drewN n⟩
theorem is_yes' (B : Nat) (w : World) (s : ByteArray) (k : Nat) (c : Int) (h : Rd B w s k) (hs : s.size ≤ 1300) (hk : k < s.size) (hn : bAt s k = c) :
    Calls Tryd.prog 7 #[.pointer (some ⟨B, 0, none⟩), .int .u8 c] w fun e w' => e = .returned (.bool true) ∧ Rd B w' s (k + 1) ∧ Only B w w' := by
  refine (is_yes B w s k c h hs hk hn).mono ?_
  rintro e w' ⟨rfl, n, rfl⟩
  obtain ⟨c0, c1, f1⟩ := h
  exact ⟨rfl, ⟨by simp [go_sem, c0], by simp [go_sem, c1], by simp [go_sem, f1]⟩, ((Only.refl _ _).drewN n).setCell _ _⟩
end Go.Proofs.YtapiifeklimncaaDoor

