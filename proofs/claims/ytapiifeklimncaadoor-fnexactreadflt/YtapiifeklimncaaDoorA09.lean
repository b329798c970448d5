import Derived.Test.YtapiifeklimncaaDoorA02
import Derived.Test.YtapiifeklimncaaDoorA03
import Derived.Test.YtapiifeklimncaaDoorA08
import Derived.Test.YtapiifeklimncaaDoorRows
import Derived.Test.YtapiifeklimncaaDoorA01
import Derived.WalkKit
import Derived.WalkSpells
import Derived.WalkLawsBesides
import Derived.Outline
import Derived.BigQuiet
import Derived.Deep.QuietTactic
/- The program's reader: where it stands, what it sees, its sign. -/
namespace Go.Proofs.YtapiifeklimncaaDoor
open Go.ChangeShapes Go.WideShapes Go.RowKit

/-- The reader lies in block G and stands at k. -/
def Rr (w : World) (G : Nat) (s : ByteArray) (k : Nat) : Prop := w.heap[G]? = some (.cells #[.string s, .int .i64 (k : Int)] 59 (0, 0))
theorem Rr.txt {w : World} {G k : Nat} {s : ByteArray} (h : Rr w G s k) : w.cell? ⟨G, 0, none⟩ = some (.string s) := by rw [cell_of_heap h]; rfl
theorem Rr.at_ {w : World} {G k : Nat} {s : ByteArray} (h : Rr w G s k) : w.cell? ⟨G, 1, none⟩ = some (.int .i64 (k : Int)) := by rw [cell_of_heap h]; rfl
theorem Rr.froz {w : World} {G k : Nat} {s : ByteArray} (h : Rr w G s k) (o : Nat) : w.frozen? ⟨G, o, none⟩ = false := frozen_of_heap h o
theorem Rr.lt {w : World} {G k : Nat} {s : ByteArray} (h : Rr w G s k) : G < w.heap.size := (Array.getElem?_eq_some_iff.1 h).1
theorem Rr.set {w : World} {G k : Nat} {s : ByteArray} (h : Rr w G s k) (k' : Nat) : Rr (w.setCell ⟨G, 1, none⟩ (.int .i64 (k' : Int))) G s k' := by
  unfold Rr
  rw [setCell_eq_setRow w G 1 _ _ (0, 0) _ h]
  exact setRow_heap w G _ _ _ (0, 0) h
theorem Rr.other {w w' : World} {G B k : Nat} {s : ByteArray} (h : Rr w G s k) (hm : Mod B w w') (hB : G ≠ B) : Rr w' G s k := (hm.2.2.2.2 G h.lt hB).trans h
theorem Rr.below {w w' : World} {G k : Nat} {s : ByteArray} (h : Rr w G s k) (hm : Below w.heap.size w w') : Rr w' G s k := (hm.block G h.lt).trans h
theorem Rr.drewN {w : World} {G k : Nat} {s : ByteArray} (h : Rr w G s k) (n : Nat) : Rr (w.drewN n) G s k := h
theorem Rr.alloc {w : World} {G k : Nat} {s : ByteArray} (h : Rr w G s k) (b : Obj) : Rr (w.alloc b) G s k := (Below.heap_alloc _ _ _ h.lt).trans h

/-- Does a text begin so? -/
def pre (s p : ByteArray) : Bool := decide (p.size ≤ s.size) && ((s.extract 0 p.size).toList == p.toList)
set_option maxHeartbeats 400000 in
theorem hasPre_any (s p : ByteArray) (w : World) :
    Calls Tryd.prog 57 #[.string s, .string p] w fun e w' => e = .returned (.bool (pre s p)) ∧ w' = w := by
  unfold pre
  by_cases h : p.size ≤ s.size
  · have h1 : (p.size : Int) ≤ (s.size : Int) := by omega
    have hd : decide ((p.size : Int) ≤ (s.size : Int)) = true := decide_eq_true h1
    rw [decide_eq_true h, Bool.true_and]
    go_enter Tryd.func57, Tryd.ntmps57
    go_wp2
    go_ret
    exact ⟨rfl, rfl⟩
  · have hd : decide ((p.size : Int) ≤ (s.size : Int)) = false := decide_eq_false (by omega)
    rw [decide_eq_false h, Bool.false_and]
    go_enter Tryd.func57, Tryd.ntmps57
    go_wp2
    go_ret
    exact ⟨rfl, rfl⟩
theorem hasPrefix_any (s p : ByteArray) (w : World) :
    Calls Tryd.prog 49 #[.string s, .string p] w fun e w' => e = .returned (.bool (pre s p)) ∧ w' = w := by
  have HC : Hid _ := fun w => hasPre_any s p w
  go_enter Tryd.func49, Tryd.ntmps49
  go_wp2_with (go_at_call 57; refine (HC.out _).mono ?_; rintro e w' ⟨rfl, rfl⟩)
  go_ret
  exact ⟨rfl, rfl⟩
theorem pre_eq (s p : ByteArray) : pre s p = true ↔ s.data.toList.take p.size = p.data.toList := by
  unfold pre
  rw [Bool.and_eq_true, decide_eq_true_iff, beq_iff_eq, ByteArray.toList_eq, ByteArray.toList_eq]
  have e : (s.extract 0 p.size).data.toList = s.data.toList.take p.size := by simp
  rw [e]
  constructor
  · exact fun h => h.2
  · intro h
    refine ⟨?_, h⟩
    have := congrArg List.length h
    simp at this
    omega
theorem drop_list (s : ByteArray) (j : Nat) : (s.extract j s.size).data.toList = s.data.toList.drop j := by
  have : (s.extract j s.size).data.toList = (s.data.toList.drop j).take (s.size - j) := by simp
  rw [this]
  exact List.take_of_length_le (by simp)
theorem drop_cons (s : ByteArray) (k : Nat) (h : k < s.size) : (s.extract k s.size).data.toList = s[k] :: (s.extract (k + 1) s.size).data.toList := by
  have e := drop_list s
  rw [e, e, List.drop_eq_getElem_cons (by simpa using h)]
  rfl
theorem drop_out (s : ByteArray) (k : Nat) (h : ¬ k < s.size) : (s.extract k s.size).data.toList = [] := by
  rw [drop_list, List.drop_eq_nil_iff]
  simp; omega
theorem pre_one (s : ByteArray) (k : Nat) (c : UInt8) (hc : c.toNat ≠ 0) : pre (s.extract k s.size) ⟨#[c]⟩ = decide (bAt s k = (c.toNat : Int)) := by
  rw [Bool.eq_iff_iff, pre_eq, decide_eq_true_iff]
  by_cases h : k < s.size
  · rw [drop_cons s k h, bAt_in s k h]
    show [s[k]] = [c] ↔ _
    constructor
    · intro e; rw [(List.cons.inj e).1]
    · intro e; rw [UInt8.toNat_inj.1 (show s[k].toNat = c.toNat by omega)]
  · rw [drop_out s k h, bAt_out s k h]
    constructor
    · intro e; exact absurd e (by show ¬ [] = [c]; simp)
    · intro e; omega
theorem pre_two (s : ByteArray) (k : Nat) (c d : UInt8) : pre (s.extract k s.size) ⟨#[c, d]⟩ = decide (bAt s k = (c.toNat : Int) ∧ k + 1 < s.size ∧ bAt s (k + 1) = (d.toNat : Int)) := by
  rw [Bool.eq_iff_iff, pre_eq, decide_eq_true_iff]
  by_cases h : k < s.size
  · rw [drop_cons s k h, bAt_in s k h]
    by_cases h' : k + 1 < s.size
    · rw [drop_cons s (k + 1) h', bAt_in s (k + 1) h']
      show [s[k], s[k + 1]] = [c, d] ↔ _
      constructor
      · intro e
        have e1 := List.cons.inj e
        rw [e1.1, (List.cons.inj e1.2).1]; exact ⟨rfl, h', rfl⟩
      · rintro ⟨e, _, e'⟩; rw [UInt8.toNat_inj.1 (show s[k].toNat = c.toNat by omega), UInt8.toNat_inj.1 (show s[k + 1].toNat = d.toNat by omega)]
    · rw [drop_out s (k + 1) h']
      constructor
      · intro e; exact absurd e (by show ¬ [s[k]] = [c, d]; simp)
      · rintro ⟨_, e, _⟩; omega
  · rw [drop_out s k h, bAt_out s k h]
    constructor
    · intro e; exact absurd e (by show ¬ [] = [c, d]; simp)
    · rintro ⟨_, e, _⟩; omega
set_option maxHeartbeats 400000 in
theorem sees_any (G k : Nat) (s p : ByteArray) (w : World) (h : Rr w G s k) (hk : k ≤ s.size) :
    Calls Tryd.prog 37 #[.pointer (some ⟨G, 0, none⟩), .string p] w fun e w' => e = .returned (.bool (pre (s.extract k s.size) p)) ∧ ∃ n, w' = w.drewN n := by
  have h1 := h.txt
  have h2 := h.at_
  have hk' : (k : Int) ≤ (s.size : Int) := by omega
  have HC : Hid (∀ w, Calls Tryd.prog 49 #[.string (s.extract k s.size), .string p] w fun e w' => e = .returned (.bool (pre (s.extract k s.size) p)) ∧ w' = w) := fun w => hasPrefix_any _ p w
  clear h
  go_enter Tryd.func37, Tryd.ntmps37
  go_wp2
  go_quiet (first | (go_at_call 49; exact Calls.quiet_of_same (HC.out _)))
  go_wp2
  go_ret
  exact ⟨rfl, _, rfl⟩
set_option maxHeartbeats 400000 in
theorem rsign_any (G k : Nat) (s : ByteArray) (w : World) (h : Rr w G s k) (hk : k ≤ s.size) (hs : s.size ≤ 1200) (neg : Bool) (j : Nat) (hg : Sgn s k neg j) :
    Calls Tryd.prog 36 #[.pointer (some ⟨G, 0, none⟩)] w fun e w' => e = .returned (.bool neg) ∧ Rr w' G s j ∧ Mod G w w' := by
  have h1 := h.txt
  have h2 := h.at_
  have hf := h.froz 1
  have hk' : (k : Int) ≤ (s.size : Int) := by omega
  have hsz : (s.extract k s.size).size = s.size - k := by rw [ByteArray.size_extract]; omega
  have hj := sgn_le s k neg j hg hk
  have hjk : k ≤ j := by rcases hg with ⟨_, _, _, e⟩ | ⟨_, _, _, e⟩ | ⟨_, _, _, e⟩ <;> omega
  have hcut : ∃ r : ByteArray, Cut (s.extract k s.size) neg r ∧ r.size = s.size - j := by
    have hin : ∀ h : k < s.size, ∃ h0 : 0 < (s.extract k s.size).size, (s.extract k s.size)[0].toNat = s[k].toNat := fun h => by
      refine ⟨by omega, ?_⟩
      rw [ByteArray.getElem_extract]; rfl
    rcases hg with ⟨a, e, rfl, hjj⟩ | ⟨a, e, rfl, hjj⟩ | ⟨e, e', rfl, hjj⟩
    · obtain ⟨h0, hh⟩ := hin a
      rw [bAt_in s k a] at e
      exact ⟨_, .inr (.inl ⟨h0, by omega, rfl, rfl⟩), by rw [ByteArray.size_extract]; omega⟩
    · obtain ⟨h0, hh⟩ := hin a
      rw [bAt_in s k a] at e
      exact ⟨_, .inr (.inr (.inl ⟨h0, by omega, rfl, rfl⟩)), by rw [ByteArray.size_extract]; omega⟩
    · by_cases a : k < s.size
      · obtain ⟨h0, hh⟩ := hin a
        rw [bAt_in s k a] at e e'
        exact ⟨_, .inr (.inr (.inr ⟨h0, by omega, by omega, rfl, rfl⟩)), by rw [ByteArray.size_extract]; omega⟩
      · exact ⟨_, .inl ⟨by omega, rfl, rfl⟩, by rw [ByteArray.size_extract]; omega⟩
  obtain ⟨r, hc, hr⟩ := hcut
  have HC : Hid (∀ w, Calls Tryd.prog 48 #[.string (s.extract k s.size)] w fun e w' => e = .returned (.tuple #[.bool neg, .string r]) ∧ ∃ n, w' = w.drewN n) := fun w => cutSign_any _ w (by omega) neg r hc
  have HR : Hid (Rr w G s k) := h
  have hr' : (r.size : Int) = (s.size : Int) - (j : Int) := by omega
  clear h hc hg hr hsz
  go_enter Tryd.func36, Tryd.ntmps36
  go_wp2
  go_quiet (first | (go_at_call 48; exact Calls.quiet_of (HC.out _)))
  go_wp2
  go_ret
  have e : (s.size : Int) - ((s.size : Int) - (j : Int)) = (j : Int) := by omega
  rw [e]
  exact ⟨rfl, (HR.out.drewN nq).set j, ((Mod.refl G w).drewN nq).setCell _ _⟩
end Go.Proofs.YtapiifeklimncaaDoor

/- The program's reader: words that are expected. -/
namespace Go.Proofs.YtapiifeklimncaaDoor
open Go.ChangeShapes Go.WideShapes Go.RowKit

/-- An error that tells a place, or none. -/
def errV : Option Nat → Value
  | none => .nilIface
  | some k => .iface 45 (.agg #[.int .i64 (k : Int)])
/-- How far a word of three bytes is met: nothing where it is met whole. -/
def Wrd (nan : Bool) (s : ByteArray) (k : Nat) (r : Option Nat) (j : Nat) : Prop :=
  ∃ i, i ≤ 3 ∧ (∀ t, t < i → bAt s (k + t) = wordC nan t) ∧ j = k + i ∧ ((i < 3 ∧ bAt s (k + i) ≠ wordC nan i ∧ r = some (k + i)) ∨ (i = 3 ∧ r = none))
def wordS (nan : Bool) : ByteArray := if nan then ⟨#[110, 97, 110]⟩ else ⟨#[105, 110, 102]⟩
set_option maxHeartbeats 1000000 in
theorem expect_any (nan : Bool) (G k : Nat) (s : ByteArray) (w : World) (h : Rr w G s k) (hk : k ≤ s.size) (hs : s.size ≤ 1200) :
    Calls Tryd.prog 40 #[.pointer (some ⟨G, 0, none⟩), .string (wordS nan)] w fun e w' => ∃ r j, Wrd nan s k r j ∧ e = .returned (errV r) ∧ Rr w' G s j ∧ Mod G w w' := by
  have HR : Hid (Rr w G s k) := h
  have hz : (wordS nan).size = 3 := by cases nan <;> rfl
  have HE : Hid (∀ i, i < 3 → ∃ c : UInt8, c.toNat ≠ 0 ∧ (c.toNat : Int) = wordC nan i ∧ (wordS nan).extract i (i + 1) = ⟨#[c]⟩) := by
    intro i hi
    have : i = 0 ∨ i = 1 ∨ i = 2 := by omega
    rcases this with rfl | rfl | rfl <;> cases nan
    · exact ⟨105, by decide, by decide, by decide⟩
    · exact ⟨110, by decide, by decide, by decide⟩
    · exact ⟨110, by decide, by decide, by decide⟩
    · exact ⟨97, by decide, by decide, by decide⟩
    · exact ⟨102, by decide, by decide, by decide⟩
    · exact ⟨110, by decide, by decide, by decide⟩
  obtain ⟨t, ht⟩ : ∃ t, wordS nan = t := ⟨_, rfl⟩
  rw [ht] at hz HE ⊢
  clear h ht
  go_enter Tryd.func40, Tryd.ntmps40
  go_wp2
  go_loopw [8] (fun iv wl => ∃ i : Nat, iv = .int .i64 (i : Int) ∧ i ≤ 3 ∧ k + i ≤ s.size ∧ Hid (∀ t, t < i → bAt s (k + t) = wordC nan t) ∧ Hid (Rr wl G s (k + i)) ∧ Hid (Mod G w wl)) (fun iv _ => 3 - (intOf iv).toNat)
  case atStart => exact ⟨0, rfl, by omega, by omega, fun t ht => by omega, HR.out, Mod.refl G w⟩
  case round =>
    clear HR
    obtain ⟨i, rfl, hi, hki, HI, HR, HM⟩ := hrel
    by_cases hlt : i < 3
    · have hlt' : (i : Int) < 3 := by omega
      obtain ⟨c, hc0, hc1, hc2⟩ := HE.out i hlt
      have HS : Hid (Calls Tryd.prog 37 #[.pointer (some ⟨G, 0, none⟩), .string (t.extract i (i + 1))] wr fun e w' => e = .returned (.bool (decide (bAt s (k + i) = wordC nan i))) ∧ ∃ n, w' = wr.drewN n) := by
        rw [hc2, ← hc1, ← pre_one s (k + i) c hc0]
        exact sees_any G (k + i) s ⟨#[c]⟩ wr HR.out hki
      clear hc0 hc1 hc2
      by_cases hm : bAt s (k + i) = wordC nan i
      · rw [decide_eq_true hm] at HS
        have HM' : Hid (bAt s (k + i) = wordC nan i) := hm
        have hin : k + i < s.size := by
          rcases Nat.lt_or_ge (k + i) s.size with h | h
          · exact h
          · rw [bAt_out s (k + i) (by omega)] at hm
            exfalso
            unfold wordC at hm
            have : i = 0 ∨ i = 1 ∨ i = 2 := by omega
            rcases this with rfl | rfl | rfl <;> cases nan <;> simp at hm
        have hat := HR.out.at_
        have hfr := HR.out.froz 1
        rw [show ((k + i : Nat) : Int) = (k : Int) + (i : Int) by omega] at hat
        clear hm
        go_wp2_with (go_at_call 37; refine HS.out.mono ?_; rintro e w' ⟨rfl, n, rfl⟩)
        refine ⟨⟨i + 1, rfl, by omega, by omega, ?_, ?_, (HM.out.drewN _).setCell _ _⟩, ?_⟩
        · intro t' ht'
          by_cases e : t' = i
          · subst e; exact HM'.out
          · exact HI.out t' (by omega)
        · have h1 := (HR.out.drewN n).set (k + (i + 1))
          rw [show ((k + (i + 1) : Nat) : Int) = (k : Int) + (i : Int) + 1 by omega] at h1
          exact h1
        · show 3 - ((i : Int) + 1).toNat < 3 - (i : Int).toNat; omega
      · rw [decide_eq_false hm] at HS
        have HM' : Hid (bAt s (k + i) ≠ wordC nan i) := hm
        have hat := HR.out.at_
        clear hm
        go_wp2_with (go_at_call 37; refine HS.out.mono ?_; rintro e w' ⟨rfl, n, rfl⟩)
        go_ret
        exact ⟨some (k + i), k + i, ⟨i, hi, HI.out, rfl, .inl ⟨hlt, HM'.out, rfl⟩⟩, rfl, HR.out.drewN n, HM.out.drewN n⟩
    · obtain rfl : i = 3 := by omega
      go_wp2
      go_ret
      exact ⟨none, k + 3, ⟨3, hi, HI.out, rfl, .inr ⟨rfl, rfl⟩⟩, rfl, HR.out, HM.out⟩
end Go.Proofs.YtapiifeklimncaaDoor

/- The digit of a byte, of the program. -/
namespace Go.Proofs.YtapiifeklimncaaDoor
open Go.ChangeShapes Go.WideShapes Go.RowKit

set_option maxHeartbeats 400000 in
theorem implDigit_any (c : Int) (w : World) (h0 : 0 ≤ c) (h1 : c ≤ 255) :
    Calls Tryd.prog 58 #[.int .u8 c] w fun e w' => e = .returned (.int .u64 (digN 36 c)) ∧ w' = w := by
  by_cases ha : 48 ≤ c ∧ c ≤ 57
  · have hv : digN 36 c = c - 48 := by unfold digN; rw [if_pos ha]
    rw [hv]; clear hv
    obtain ⟨ha, hb⟩ := ha
    go_enter Tryd.func58, Tryd.ntmps58
    go_wp2
    go_ret
    exact ⟨rfl, rfl⟩
  · by_cases hb : 97 ≤ c ∧ c ≤ 122
    · have hv : digN 36 c = c - 97 + 10 := by unfold digN; rw [if_neg ha, if_pos hb]
      rw [hv]; clear hv
      obtain ⟨hb, hc⟩ := hb
      have hd : 57 < c := by omega
      clear ha
      go_enter Tryd.func58, Tryd.ntmps58
      go_wp2
      go_ret
      exact ⟨rfl, rfl⟩
    · have hv : digN 36 c = 36 := by unfold digN; rw [if_neg ha, if_neg hb]
      rw [hv]; clear hv
      go_enter Tryd.func58, Tryd.ntmps58
      go_wp2
      all_goals (try (exfalso; omega))
      all_goals
        go_ret
        exact ⟨rfl, rfl⟩
theorem implDigit_byte (c : UInt8) (w : World) :
    Calls Tryd.prog 58 #[.int .u8 c.toNat] w fun e w' => e = .returned (.int .u64 (digN 36 c.toNat)) ∧ w' = w :=
  implDigit_any _ w (by omega) (by have := c.toNat_lt; omega)
end Go.Proofs.YtapiifeklimncaaDoor

