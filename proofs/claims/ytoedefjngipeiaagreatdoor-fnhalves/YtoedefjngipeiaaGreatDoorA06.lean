import Derived.Test.YtoedefjngipeiaaGreatDoorA05
import Derived.WalkKit
import Derived.Test.YtoedefjngipeiaaGreatDoorProg
import Derived.WalkSpells
import Derived.WalkLawsBesides
import Derived.Outline
import Derived.BigQuiet
import Derived.Deep.QuietTactic
/- BitsOf of the specification. -/
namespace Go.Proofs.YtoedefjngipeiaaGreatDoor
open Go.ChangeShapes Go.WideShapes Go.RowKit
open Ieee (double)

set_option maxHeartbeats 400000 in
theorem specBitsOf_any (x : Nat) (hx : x < 18446744073709551616) (w : World) :
    Calls Tryz.prog 25 #[.float .f64 x] w fun e w' => ∃ v, bitsV x v ∧ e = .returned (.int .i64 v) ∧ w' = w := by
  by_cases hn : IsNan x
  · have HR : Hid _ := raw_nan x hn
    have HV : Hid (bitsV x 9221120237041090560) := .inl ⟨hn, rfl⟩
    clear hn
    go_enter Tryz.func25, Tryz.ntmps25
    go_wp2_with (go_at_call 47; refine (HR.out _).mono ?_; rintro e w' ⟨rfl, rfl⟩)
    go_ret
    exact ⟨_, HV.out, rfl, rfl⟩
  · obtain ⟨s, r, hr, e, hc⟩ := raw_any x hx hn
    have HR : Hid _ := hc
    cases s
    · have HV : Hid (bitsV x r) := .inr ⟨hn, by rw [e]; show (r : Int) = wrap64 ((0 + r : Nat) : Int); unfold wrap64; omega⟩
      clear hn hc e
      go_enter Tryz.func25, Tryz.ntmps25
      go_wp2_with (go_at_call 47; refine (HR.out _).mono ?_; rintro e w' ⟨rfl, rfl⟩)
      go_ret
      exact ⟨_, HV.out, rfl, rfl⟩
    · have HV : Hid (bitsV x (wrap64 (bits .or .u64 (r : Int) 9223372036854775808))) := .inr ⟨hn, by rw [e, or_top r (by omega)]; rfl⟩
      clear hn hc e
      go_enter Tryz.func25, Tryz.ntmps25
      go_wp2_with (go_at_call 47; refine (HR.out _).mono ?_; rintro e w' ⟨rfl, rfl⟩)
      go_ret
      exact ⟨_, HV.out, rfl, rfl⟩
end Go.Proofs.YtoedefjngipeiaaGreatDoor

/- Big numbers as lists of parts of 32 bits: plain facts; no program is spoken of here. -/
namespace Go.Proofs.YtoedefjngipeiaaGreatDoor
open Go.RowKit

/-- The value of parts, the lowest first. -/
def bval : List Nat → Nat
  | [] => 0
  | x :: r => x + 4294967296 * bval r
def Lim (ls : List Nat) : Prop := ∀ x ∈ ls, x < 4294967296
/-- The parts without zeros at their end. -/
def btrim : List Nat → List Nat
  | [] => []
  | x :: r => if btrim r = [] ∧ x = 0 then [] else x :: btrim r
theorem bval_append (a b : List Nat) : bval (a ++ b) = bval a + 4294967296 ^ a.length * bval b := by
  induction a with
  | nil => simp [bval]
  | cons x r ih =>
    simp only [List.cons_append, bval, ih, List.length_cons, Nat.pow_succ, Nat.mul_add]
    rw [← Nat.mul_assoc, Nat.mul_comm 4294967296 (4294967296 ^ r.length)]
    omega
theorem bval_trim (a : List Nat) : bval (btrim a) = bval a := by
  induction a with
  | nil => rfl
  | cons x r ih =>
    unfold btrim
    split
    · rename_i h
      rw [h.1] at ih
      simp only [bval] at ih ⊢
      omega
    · simp only [bval, ih]
theorem btrim_length (a : List Nat) : (btrim a).length ≤ a.length := by
  induction a with
  | nil => exact Nat.le_refl _
  | cons x r ih =>
    unfold btrim
    split <;> simp <;> omega
theorem btrim_prefix (a : List Nat) : btrim a = a.take (btrim a).length := by
  induction a with
  | nil => rfl
  | cons x r ih =>
    unfold btrim
    split
    · simp
    · simp only [List.length_cons, List.take_succ_cons]; rw [← ih]
theorem btrim_lim {a : List Nat} (h : Lim a) : Lim (btrim a) := by
  intro x hx
  rw [btrim_prefix] at hx
  exact h x (List.mem_of_mem_take hx)
theorem btrim_snoc_zero (a : List Nat) : btrim (a ++ [0]) = btrim a := by
  induction a with
  | nil => simp [btrim]
  | cons x r ih => simp only [List.cons_append, btrim, ih]
theorem btrim_snoc (a : List Nat) (x : Nat) (hx : x ≠ 0) : btrim (a ++ [x]) = a ++ [x] := by
  induction a with
  | nil => simp [btrim, hx]
  | cons y r ih => simp [btrim, ih]
/-- No zero at the end. -/
def Trim (ls : List Nat) : Prop := btrim ls = ls
theorem btrim_trim (a : List Nat) : Trim (btrim a) := by
  unfold Trim
  induction a with
  | nil => rfl
  | cons x r ih =>
    by_cases h : btrim r = [] ∧ x = 0
    · simp [btrim, h]
    · have e : btrim (x :: r) = x :: btrim r := by simp only [btrim]; rw [if_neg h]
      rw [e]
      simp only [btrim, ih]
      rw [if_neg h]
theorem part_snoc (a : List Nat) (k : Nat) (h : k < a.length) : a.take (k + 1) = a.take k ++ [a.getD k 0] := by
  rw [List.take_add_one, List.getElem?_eq_getElem h]
  simp [List.getElem?_eq_getElem h]
theorem trim_take_zero (a : List Nat) (k : Nat) (h : k < a.length) (hz : a.getD k 0 = 0) : btrim (a.take (k + 1)) = btrim (a.take k) := by
  rw [part_snoc a k h, hz, btrim_snoc_zero]
theorem trim_take_some (a : List Nat) (k : Nat) (h : k < a.length) (hz : a.getD k 0 ≠ 0) : btrim (a.take (k + 1)) = a.take (k + 1) := by
  rw [part_snoc a k h, btrim_snoc _ _ hz]
theorem bval_lt {a : List Nat} (h : Lim a) : bval a < 4294967296 ^ a.length := by
  induction a with
  | nil => simp [bval]
  | cons x r ih =>
    have hx := h x (by simp)
    have hr := ih fun y hy => h y (by simp [hy])
    simp only [bval, List.length_cons, Nat.pow_succ]
    generalize 4294967296 ^ r.length = q at *
    omega
theorem trim_last {a : List Nat} (ht : Trim a) (hn : a ≠ []) : 4294967296 ^ (a.length - 1) ≤ bval a ∧ a.getD (a.length - 1) 0 ≠ 0 := by
  induction a with
  | nil => exact absurd rfl hn
  | cons x r ih =>
    by_cases hr : r = []
    · subst hr
      unfold Trim at ht
      by_cases hx : x = 0
      · subst hx; simp [btrim] at ht
      · simp [bval, hx]; omega
    · have htr : Trim r := by
        unfold Trim at ht ⊢
        by_cases h : btrim r = [] ∧ x = 0
        · simp only [btrim] at ht; rw [if_pos h] at ht; cases ht
        · simp only [btrim] at ht; rw [if_neg h] at ht; exact (List.cons.inj ht).2
      obtain ⟨i1, i2⟩ := ih htr hr
      have hl : 0 < r.length := List.length_pos_iff.2 hr
      obtain ⟨n, hn'⟩ : ∃ n, r.length = n + 1 := ⟨r.length - 1, by omega⟩
      constructor
      · simp only [bval, List.length_cons, Nat.add_sub_cancel]
        rw [hn'] at i1 ⊢
        rw [Nat.add_sub_cancel] at i1
        rw [Nat.pow_succ]
        omega
      · rw [List.length_cons, Nat.add_sub_cancel, hn'] 
        rw [hn', Nat.add_sub_cancel] at i2
        simpa using i2
theorem trim_nil_iff {a : List Nat} (ht : Trim a) : a = [] ↔ bval a = 0 := by
  constructor
  · rintro rfl; rfl
  · intro h
    apply Classical.byContradiction
    intro hn
    have := (trim_last ht hn).1
    have := Nat.pow_pos (n := a.length - 1) (show 0 < 4294967296 by omega)
    omega
theorem take_val (a : List Nat) (k : Nat) (h : k < a.length) : bval (a.take (k + 1)) = bval (a.take k) + 4294967296 ^ k * a.getD k 0 := by
  rw [part_snoc a k h, bval_append, List.length_take, Nat.min_eq_left (by omega)]
  simp [bval]
end Go.Proofs.YtoedefjngipeiaaGreatDoor

/- A slice of parts in memory; l0trim of the specification. -/
namespace Go.Proofs.YtoedefjngipeiaaGreatDoor
open Go.ChangeShapes Go.WideShapes Go.RowKit

/-- A slice that can be read as these parts. -/
def Row (w : World) (v : Value) (ls : List Nat) : Prop := ∃ (ao : Option Addr) (cap : Nat), v = .slice ao ls.length cap ∧ ls.length ≤ cap ∧ cap ≤ maxLen ∧
  ((ao = none ∧ cap = 0) ∨ ∃ g, ao = some ⟨g, 0, none⟩ ∧ g < w.heap.size ∧ ∀ t, t < ls.length → w.cell? ⟨g, t, none⟩ = some (.int .u64 (ls.getD t 0 : Nat)))
theorem Row.below {w w' : World} {v : Value} {ls : List Nat} (h : Row w v ls) {B : Nat} (hb : Below B w w') (hB : w.heap.size ≤ B) : Row w' v ls := by
  obtain ⟨ao, cap, hv, h1, h2, h3⟩ := h
  refine ⟨ao, cap, hv, h1, h2, ?_⟩
  rcases h3 with h3 | ⟨g, hg, hl, hc⟩
  · exact .inl h3
  · exact .inr ⟨g, hg, Nat.lt_of_lt_of_le hl hb.size, fun t ht => (hb.cell (by show g < B; omega)).trans (hc t ht)⟩
theorem Row.of_owns {w : World} {base e : Nat} {v : Value} {ls : List Nat} (h : w.ownsRow base e 1 v ls.length (ls.map fun x => Value.int .u64 (x : Nat))) : Row w v ls := by
  obtain ⟨_, h⟩ := h
  rcases h with ⟨rfl, hn⟩ | ⟨g, cap, cur, rfl, hb, hh, h1, h2, h3, h4⟩
  · exact ⟨none, 0, by rw [hn], by omega, by unfold maxLen; omega, .inl ⟨rfl, rfl⟩⟩
  · refine ⟨_, cap, rfl, h1, h2, .inr ⟨g, rfl, ?_, ?_⟩⟩
    · exact (Array.getElem?_eq_some_iff.1 hh).1
    · intro t ht
      have hc : cur[t]? = some (.int .u64 (ls.getD t 0 : Nat)) := by
        rw [Nat.mul_one] at h4
        rw [← Array.getElem?_toList]
        have : (cur.toList.take ls.length)[t]? = cur.toList[t]? := List.getElem?_take_of_lt ht
        rw [← this, h4]
        simp [List.getElem?_eq_getElem ht]
      simp only [World.cell?, hh]
      simpa using hc

theorem Row.cut {w : World} {g cap k : Nat} {ls : List Nat} (h1 : ls.length ≤ cap) (h2 : cap ≤ maxLen) (hg : g < w.heap.size)
    (hc : ∀ t, t < ls.length → w.cell? ⟨g, t, none⟩ = some (.int .u64 (ls.getD t 0 : Nat))) (hk : k ≤ ls.length) : Row w (.slice (some ⟨g, 0, none⟩) k cap) (ls.take k) := by
  have hl : (ls.take k).length = k := by rw [List.length_take]; omega
  refine ⟨_, cap, by rw [hl], by omega, h2, .inr ⟨g, rfl, hg, fun t ht => ?_⟩⟩
  rw [hl] at ht
  rw [hc t (by omega)]
  simp [List.getElem?_take_of_lt ht]
theorem Row.nil (w : World) : Row w (.slice none 0 0) [] := ⟨none, 0, rfl, Nat.le_refl _, by unfold maxLen; omega, .inl ⟨rfl, rfl⟩⟩

set_option maxHeartbeats 400000 in
theorem l0trim_any (ls : List Nat) (v : Value) (w : World) (h : Row w v ls) :
    Calls Tryz.prog 53 #[v] w fun e w' => w' = w ∧ ∃ v', e = .returned v' ∧ Row w v' (btrim ls) := by
  obtain ⟨ao, cap, rfl, h1, h2, h3⟩ := h
  rcases h3 with ⟨rfl, rfl⟩ | ⟨g, rfl, hg, hc⟩
  · obtain rfl : ls = [] := List.length_eq_zero_iff.1 (by omega)
    go_enter Tryz.func53, Tryz.ntmps53
    go_wp2
    go_loop [3] (fun n => n = .int .i64 0) (fun n => (intOf n).toNat)
    case atStart => rfl
    case round =>
      obtain rfl := hrel
      go_wp2
      go_ret
      exact ⟨rfl, _, rfl, Row.nil w⟩
  · go_enter Tryz.func53, Tryz.ntmps53
    go_wp2
    go_loop [3] (fun n => ∃ k : Nat, n = .int .i64 k ∧ k ≤ ls.length ∧ Hid (btrim ls = btrim (ls.take k))) (fun n => (intOf n).toNat)
    case atStart => exact ⟨ls.length, rfl, Nat.le_refl _, by show _ = _; rw [List.take_length]⟩
    case round =>
      obtain ⟨k, rfl, hk, HK⟩ := hrel
      have HC : Hid (∀ t, t < ls.length → w.cell? ⟨g, t, none⟩ = some (.int .u64 (ls.getD t 0 : Nat))) := hc
      clear hc
      have hcap : cap ≤ 9223372036854775807 := h2
      cases k with
      | zero =>
        go_wp2
        go_ret
        exact ⟨rfl, _, rfl, by rw [HK.out]; exact Row.cut h1 h2 hg HC.out (Nat.zero_le _)⟩
      | succ k =>
        have hx := HC.out k (by omega)
        by_cases hz : ls.getD k 0 = 0
        · have HK2 : Hid (btrim ls = btrim (ls.take k)) := HK.out.trans (trim_take_zero ls k (by omega) hz)
          rw [hz] at hx
          go_wp2
          exact ⟨⟨k, rfl, by omega, HK2⟩, by simp only [intOf]; omega⟩
        · have HK2 : Hid (btrim ls = ls.take (k + 1)) := HK.out.trans (trim_take_some ls k (by omega) hz)
          generalize ls.getD k 0 = x at *
          go_wp2
          go_ret
          exact ⟨rfl, _, rfl, by rw [HK2.out]; exact Row.cut h1 h2 hg HC.out hk⟩
end Go.Proofs.YtoedefjngipeiaaGreatDoor

