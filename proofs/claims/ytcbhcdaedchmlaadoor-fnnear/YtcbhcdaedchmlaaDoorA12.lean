import Derived.Test.YtcbhcdaedchmlaaDoorA11
import Derived.OwnWalk
import Derived.Test.YtcbhcdaedchmlaaDoorA10
import Derived.OpenShut
import Derived.WalkKit
/- DrawNear of the specification. -/
namespace Go.Proofs.YtcbhcdaedchmlaaDoor
open Go.ChangeShapes Go.WideShapes Go.RowKit

theorem mid_wf (v : Int) (h0 : -100000 ≤ v) (h1 : v ≤ 100000) : (Lit.int .i64 v).wf = true := by
  have e1 : IntKind.i64.min = -9223372036854775808 := by decide
  have e2 : IntKind.i64.max = 9223372036854775807 := by decide
  simp only [Lit.wf, e1, e2]; simp; omega
set_option maxHeartbeats 4000000 in
set_option maxRecDepth 100000 in
theorem drawNear_any (w : World) (a : Option Addr) (len cap : Nat) (hk : Code w.heap.size w a len) :
    Calls Tryd.prog 4 #[.slice a len cap] w fun e' w' => ∃ (neg : Bool) (n e : Int), (Lit.int .i64 n).wf = true ∧ (Lit.int .i64 e).wf = true ∧ e' = .returned (.tuple #[.bool neg, .int .i64 n, .int .i64 e]) ∧ Below w.heap.size w w' := by
  have HK : Hid _ := fun T => DS.start w a len cap T hk
  clear hk
  go_enter Tryd.func4, Tryd.ntmps4
  go_wp2_with fail
  refine (pick_ds w.heap.size w _ a len cap 0 2 (HK.out _) (by omega) (by omega) (by omega)).mono ?_
  rintro e w1 ⟨x1, _, _, rfl, hd1⟩
  have H1 : Hid _ := fun (_ : Unit) => hd1
  clear hd1
  go_wp2_with fail
  refine (num_ds w.heap.size w _ a len cap _ (H1.out ()) (by omega)).mono ?_
  rintro e w2 ⟨m, hm, rfl, hd2⟩
  have H2 : Hid _ := fun (_ : Unit) => hd2
  have HM : Hid _ := fun (_ : Unit) => hm
  clear hd2 hm H1
  go_wp2_with fail
  refine (pick_ds w.heap.size w _ a len cap _ 2400 (H2.out ()) (by omega) (by omega) (by omega)).mono ?_
  rintro e w3 ⟨x3, hx30, hx31, rfl, hd3⟩
  have H3 : Hid _ := fun (_ : Unit) => hd3
  clear hd3 H2
  go_wp2_with fail
  refine (pick_ds w.heap.size w _ a len cap _ 4 (H3.out ()) (by omega) (by omega) (by omega)).mono ?_
  rintro e w4 ⟨x4, hx40, hx41, rfl, hd4⟩
  have H4 : Hid _ := fun (_ : Unit) => hd4
  clear hd4 H3
  have hx : x4 = 0 ∨ x4 = 1 ∨ x4 = 2 ∨ x4 = 3 := by omega
  clear hx40 hx41
  rcases hx with rfl | rfl | rfl | rfl
  · go_wp2_with fail
    refine (pick_ds w.heap.size w _ a len cap _ 40 (H4.out ()) (by omega) (by omega) (by omega)).mono ?_
    rintro e w5 ⟨x5, hx50, hx51, rfl, hd5⟩
    have H5 : Hid _ := fun (_ : Unit) => hd5
    clear hd5 H4
    go_wp2_with fail
    refine (pick_ds w.heap.size w _ a len cap _ 40 (H5.out ()) (by omega) (by omega) (by omega)).mono ?_
    rintro e wt ⟨xt, hxt0, hxt1, rfl, hdt⟩
    have HT : Hid _ := fun (_ : Unit) => hdt
    clear hdt H5
    by_cases hz : xt = 0
    · subst hz
      have HB : Hid _ := fun (O : Obj) => (HT.out ()).below ((Below.refl _ _).alloc (Nat.le_refl _) O)
      have hB := (HT.out ()).fresh
      go_wp2_with fail
      refine (pick_ds w.heap.size _ _ a len cap _ 4 (HB.out _).self (by omega) (by omega) (by omega)).mono ?_
      rintro e wu ⟨y, hy0, hy1, rfl, hdu⟩
      have hcell := fun o => hdu.cell ⟨wt.heap.size, o, none⟩ (by simp) hB
      have HU : Hid _ := fun (_ : Unit) => (HB.out _).join hdu
      clear hdu HB
      have hy : y = 0 ∨ y = 1 ∨ y = 2 ∨ y = 3 := by omega
      rcases hy with rfl | rfl | rfl | rfl
      all_goals
        go_wp2
        go_ret3
        exact ⟨_, _, _, HM.out (), by decide, rfl, (HU.out ()).done⟩
    · have hz' : (xt == 0) = false := beq_eq_false_iff_ne.2 hz
      go_wp2
      go_ret3
      exact ⟨_, _, _, HM.out (), mid_wf _ (by omega) (by omega), rfl, (HT.out ()).done⟩
  · go_wp2_with fail
    refine (pick_ds w.heap.size w _ a len cap _ 40 (H4.out ()) (by omega) (by omega) (by omega)).mono ?_
    rintro e w5 ⟨x5, hx50, hx51, rfl, hd5⟩
    have H5 : Hid _ := fun (_ : Unit) => hd5
    clear hd5 H4
    go_wp2_with fail
    refine (pick_ds w.heap.size w _ a len cap _ 40 (H5.out ()) (by omega) (by omega) (by omega)).mono ?_
    rintro e wt ⟨xt, hxt0, hxt1, rfl, hdt⟩
    have HT : Hid _ := fun (_ : Unit) => hdt
    clear hdt H5
    by_cases hz : xt = 0
    · subst hz
      have HB : Hid _ := fun (O : Obj) => (HT.out ()).below ((Below.refl _ _).alloc (Nat.le_refl _) O)
      have hB := (HT.out ()).fresh
      go_wp2_with fail
      refine (pick_ds w.heap.size _ _ a len cap _ 4 (HB.out _).self (by omega) (by omega) (by omega)).mono ?_
      rintro e wu ⟨y, hy0, hy1, rfl, hdu⟩
      have hcell := fun o => hdu.cell ⟨wt.heap.size, o, none⟩ (by simp) hB
      have HU : Hid _ := fun (_ : Unit) => (HB.out _).join hdu
      clear hdu HB
      have hy : y = 0 ∨ y = 1 ∨ y = 2 ∨ y = 3 := by omega
      rcases hy with rfl | rfl | rfl | rfl
      all_goals
        go_wp2
        go_ret3
        exact ⟨_, _, _, HM.out (), by decide, rfl, (HU.out ()).done⟩
    · have hz' : (xt == 0) = false := beq_eq_false_iff_ne.2 hz
      go_wp2
      go_ret3
      exact ⟨_, _, _, HM.out (), mid_wf _ (by omega) (by omega), rfl, (HT.out ()).done⟩
  · go_wp2_with fail
    refine (pick_ds w.heap.size w _ a len cap _ 5 (H4.out ()) (by omega) (by omega) (by omega)).mono ?_
    rintro e w5 ⟨x5, hx50, hx51, rfl, hd5⟩
    have H5 : Hid _ := fun (_ : Unit) => hd5
    clear hd5 H4
    go_wp2_with fail
    refine (pick_ds w.heap.size w _ a len cap _ 10 (H5.out ()) (by omega) (by omega) (by omega)).mono ?_
    rintro e w6 ⟨x6, hx60, hx61, rfl, hd6⟩
    have H6 : Hid _ := fun (_ : Unit) => hd6
    clear hd6 H5
    go_wp2_with fail
    refine (pick_ds w.heap.size w _ a len cap _ 3 (H6.out ()) (by omega) (by omega) (by omega)).mono ?_
    rintro e w7 ⟨x7, hx70, hx71, rfl, hd7⟩
    have H7 : Hid _ := fun (_ : Unit) => hd7
    clear hd7 H6
    go_wp2_with fail
    refine (pick_ds w.heap.size w _ a len cap _ 40 (H7.out ()) (by omega) (by omega) (by omega)).mono ?_
    rintro e wt ⟨xt, hxt0, hxt1, rfl, hdt⟩
    have HT : Hid _ := fun (_ : Unit) => hdt
    clear hdt H7
    by_cases hz : xt = 0
    · subst hz
      have HB : Hid _ := fun (O : Obj) => (HT.out ()).below ((Below.refl _ _).alloc (Nat.le_refl _) O)
      have hB := (HT.out ()).fresh
      go_wp2_with fail
      refine (pick_ds w.heap.size _ _ a len cap _ 4 (HB.out _).self (by omega) (by omega) (by omega)).mono ?_
      rintro e wu ⟨y, hy0, hy1, rfl, hdu⟩
      have hcell := fun o => hdu.cell ⟨wt.heap.size, o, none⟩ (by simp) hB
      have HU : Hid _ := fun (_ : Unit) => (HB.out _).join hdu
      clear hdu HB
      have hy : y = 0 ∨ y = 1 ∨ y = 2 ∨ y = 3 := by omega
      rcases hy with rfl | rfl | rfl | rfl
      all_goals
        go_wp2
        go_ret3
        exact ⟨_, _, _, wrap64_wf _, by decide, rfl, (HU.out ()).done⟩
    · have hz' : (xt == 0) = false := beq_eq_false_iff_ne.2 hz
      go_wp2
      go_ret3
      exact ⟨_, _, _, wrap64_wf _, mid_wf _ (by omega) (by omega), rfl, (HT.out ()).done⟩
  · go_wp2_with fail
    refine (pick_ds w.heap.size w _ a len cap _ 40 (H4.out ()) (by omega) (by omega) (by omega)).mono ?_
    rintro e wt ⟨xt, hxt0, hxt1, rfl, hdt⟩
    have HT : Hid _ := fun (_ : Unit) => hdt
    clear hdt H4
    by_cases hz : xt = 0
    · subst hz
      have HB : Hid _ := fun (O : Obj) => (HT.out ()).below ((Below.refl _ _).alloc (Nat.le_refl _) O)
      have hB := (HT.out ()).fresh
      go_wp2_with fail
      refine (pick_ds w.heap.size _ _ a len cap _ 4 (HB.out _).self (by omega) (by omega) (by omega)).mono ?_
      rintro e wu ⟨y, hy0, hy1, rfl, hdu⟩
      have hcell := fun o => hdu.cell ⟨wt.heap.size, o, none⟩ (by simp) hB
      have HU : Hid _ := fun (_ : Unit) => (HB.out _).join hdu
      clear hdu HB
      have hy : y = 0 ∨ y = 1 ∨ y = 2 ∨ y = 3 := by omega
      rcases hy with rfl | rfl | rfl | rfl
      all_goals
        go_wp2
        go_ret3
        exact ⟨_, _, _, HM.out (), by decide, rfl, (HU.out ()).done⟩
    · have hz' : (xt == 0) = false := beq_eq_false_iff_ne.2 hz
      go_wp2
      go_ret3
      exact ⟨_, _, _, HM.out (), mid_wf _ (by omega) (by omega), rfl, (HT.out ()).done⟩
end Go.Proofs.YtcbhcdaedchmlaaDoor

/- The bytes of a slice that came in. -/
namespace Go.Proofs.YtcbhcdaedchmlaaDoor
open Go.ChangeShapes Go.WideShapes Go.RowKit

/-- The bytes of a slice that came in. -/
def Bts (w : World) (a : Option Addr) (len : Nat) : Prop := len ≤ 1048576 ∧ ∀ i : Nat, i < len → ∃ x : Addr, a = some x ∧ ∃ z : Int, 0 ≤ z ∧ z ≤ 255 ∧ w.cell? (x.add i) = some (.int .u8 z)
theorem Bts.below {w w' : World} {a : Option Addr} {len : Nat} (h : Bts w a len) (hb : Below w.heap.size w w') : Bts w' a len :=
  ⟨h.1, fun i hi => by
    obtain ⟨x, hx, z, h0, h1, hc⟩ := h.2 i hi
    exact ⟨x, hx, z, h0, h1, by rw [hb.cell (cell_lt hc)]; exact hc⟩⟩
theorem Bts.code {w : World} {a : Option Addr} {len : Nat} (h : Bts w a len) : Code w.heap.size w a len :=
  ⟨h.1, fun i hi => by
    obtain ⟨x, hx, z, h0, h1, hc⟩ := h.2 i hi
    have hl := cell_lt hc
    refine ⟨x, hx, fun e => ?_, z, h0, h1, hc⟩
    have : (x.add i).block = x.block := by unfold Addr.add; split <;> rfl
    omega⟩
/-- A slice of bytes that came in: nil, or it leads to a row of cells that hold bytes. -/
def IsRow (w : World) (a : Option Addr) (len cap : Nat) (zs : List Int) : Prop :=
  (a = none ∧ len = 0 ∧ cap = 0 ∧ zs = []) ∨
  ∃ x, a = some x ∧ len ≤ cap ∧ cap ≤ maxLen ∧ zs.length = cap ∧ (∀ i, i < zs.length → w.cell? (x.add i) = some (.int .u8 (zs.getD i 0))) ∧ ∀ n ∈ zs, (Lit.int .u8 n).wf = true
theorem IsRow.bts {w : World} {a : Option Addr} {len cap : Nat} {zs : List Int} (h : IsRow w a len cap zs) (hl : len ≤ 1048576) : Bts w a len := by
  refine ⟨hl, fun i hi => ?_⟩
  rcases h with ⟨_, rfl, _, _⟩ | ⟨x, rfl, hlc, _, hz, hc, hw⟩
  · omega
  · have hi' : i < zs.length := by omega
    have hm : zs.getD i 0 ∈ zs := by
      have e : zs.getD i 0 = zs[i] := by simp [List.getD, List.getElem?_eq_getElem hi']
      rw [e]; exact List.getElem_mem hi'
    have hb := bounds_u8 (hw _ hm)
    exact ⟨x, rfl, zs.getD i 0, hb.1, hb.2, hc i hi'⟩
theorem IsRow.len {w : World} {a : Option Addr} {len cap : Nat} {zs : List Int} (h : IsRow w a len cap zs) : len ≤ maxLen := by
  rcases h with ⟨_, rfl, _, _⟩ | ⟨x, _, hlc, hm, _, _, _⟩
  · exact Nat.zero_le _
  · omega
end Go.Proofs.YtcbhcdaedchmlaaDoor

/- Big numbers as lists of parts of 32 bits: plain facts; no program is spoken of here. -/
namespace Go.Proofs.YtcbhcdaedchmlaaDoor
open Go.RowKit

/-- The value of parts, the lowest first. -/
def bval : List Nat → Nat
  | [] => 0
  | x :: r => x + 4294967296 * bval r
def Lim (ls : List Nat) : Prop := ∀ x ∈ ls, x < 4294967296
/-- The parts without zeros at their end. -/
def btrim : List Nat → List Nat
  | [] => []
  | x :: r => if btrim r = [] ∧ x = 0 then [] else x :: btrim r
theorem bval_append (a b : List Nat) : bval (a ++ b) = bval a + 4294967296 ^ a.length * bval b := by
  induction a with
  | nil => simp [bval]
  | cons x r ih =>
    simp only [List.cons_append, bval, ih, List.length_cons, Nat.pow_succ, Nat.mul_add]
    rw [← Nat.mul_assoc, Nat.mul_comm 4294967296 (4294967296 ^ r.length)]
    omega
theorem bval_trim (a : List Nat) : bval (btrim a) = bval a := by
  induction a with
  | nil => rfl
  | cons x r ih =>
    unfold btrim
    split
    · rename_i h
      rw [h.1] at ih
      simp only [bval] at ih ⊢
      omega
    · simp only [bval, ih]
theorem btrim_length (a : List Nat) : (btrim a).length ≤ a.length := by
  induction a with
  | nil => exact Nat.le_refl _
  | cons x r ih =>
    unfold btrim
    split <;> simp <;> omega
theorem btrim_prefix (a : List Nat) : btrim a = a.take (btrim a).length := by
  induction a with
  | nil => rfl
  | cons x r ih =>
    unfold btrim
    split
    · simp
    · simp only [List.length_cons, List.take_succ_cons]; rw [← ih]
theorem btrim_lim {a : List Nat} (h : Lim a) : Lim (btrim a) := by
  intro x hx
  rw [btrim_prefix] at hx
  exact h x (List.mem_of_mem_take hx)
theorem btrim_snoc_zero (a : List Nat) : btrim (a ++ [0]) = btrim a := by
  induction a with
  | nil => simp [btrim]
  | cons x r ih => simp only [List.cons_append, btrim, ih]
theorem btrim_snoc (a : List Nat) (x : Nat) (hx : x ≠ 0) : btrim (a ++ [x]) = a ++ [x] := by
  induction a with
  | nil => simp [btrim, hx]
  | cons y r ih => simp [btrim, ih]
/-- No zero at the end. -/
def Trim (ls : List Nat) : Prop := btrim ls = ls
theorem btrim_trim (a : List Nat) : Trim (btrim a) := by
  unfold Trim
  induction a with
  | nil => rfl
  | cons x r ih =>
    by_cases h : btrim r = [] ∧ x = 0
    · simp [btrim, h]
    · have e : btrim (x :: r) = x :: btrim r := by simp only [btrim]; rw [if_neg h]
      rw [e]
      simp only [btrim, ih]
      rw [if_neg h]
theorem part_snoc (a : List Nat) (k : Nat) (h : k < a.length) : a.take (k + 1) = a.take k ++ [a.getD k 0] := by
  rw [List.take_add_one, List.getElem?_eq_getElem h]
  simp [List.getElem?_eq_getElem h]
theorem trim_take_zero (a : List Nat) (k : Nat) (h : k < a.length) (hz : a.getD k 0 = 0) : btrim (a.take (k + 1)) = btrim (a.take k) := by
  rw [part_snoc a k h, hz, btrim_snoc_zero]
theorem trim_take_some (a : List Nat) (k : Nat) (h : k < a.length) (hz : a.getD k 0 ≠ 0) : btrim (a.take (k + 1)) = a.take (k + 1) := by
  rw [part_snoc a k h, btrim_snoc _ _ hz]
theorem bval_lt {a : List Nat} (h : Lim a) : bval a < 4294967296 ^ a.length := by
  induction a with
  | nil => simp [bval]
  | cons x r ih =>
    have hx := h x (by simp)
    have hr := ih fun y hy => h y (by simp [hy])
    simp only [bval, List.length_cons, Nat.pow_succ]
    generalize 4294967296 ^ r.length = q at *
    omega
theorem trim_last {a : List Nat} (ht : Trim a) (hn : a ≠ []) : 4294967296 ^ (a.length - 1) ≤ bval a ∧ a.getD (a.length - 1) 0 ≠ 0 := by
  induction a with
  | nil => exact absurd rfl hn
  | cons x r ih =>
    by_cases hr : r = []
    · subst hr
      unfold Trim at ht
      by_cases hx : x = 0
      · subst hx; simp [btrim] at ht
      · simp [bval, hx]; omega
    · have htr : Trim r := by
        unfold Trim at ht ⊢
        by_cases h : btrim r = [] ∧ x = 0
        · simp only [btrim] at ht; rw [if_pos h] at ht; cases ht
        · simp only [btrim] at ht; rw [if_neg h] at ht; exact (List.cons.inj ht).2
      obtain ⟨i1, i2⟩ := ih htr hr
      have hl : 0 < r.length := List.length_pos_iff.2 hr
      obtain ⟨n, hn'⟩ : ∃ n, r.length = n + 1 := ⟨r.length - 1, by omega⟩
      constructor
      · simp only [bval, List.length_cons, Nat.add_sub_cancel]
        rw [hn'] at i1 ⊢
        rw [Nat.add_sub_cancel] at i1
        rw [Nat.pow_succ]
        omega
      · rw [List.length_cons, Nat.add_sub_cancel, hn'] 
        rw [hn', Nat.add_sub_cancel] at i2
        simpa using i2
theorem trim_nil_iff {a : List Nat} (ht : Trim a) : a = [] ↔ bval a = 0 := by
  constructor
  · rintro rfl; rfl
  · intro h
    apply Classical.byContradiction
    intro hn
    have := (trim_last ht hn).1
    have := Nat.pow_pos (n := a.length - 1) (show 0 < 4294967296 by omega)
    omega
theorem take_val (a : List Nat) (k : Nat) (h : k < a.length) : bval (a.take (k + 1)) = bval (a.take k) + 4294967296 ^ k * a.getD k 0 := by
  rw [part_snoc a k h, bval_append, List.length_take, Nat.min_eq_left (by omega)]
  simp [bval]
end Go.Proofs.YtcbhcdaedchmlaaDoor

