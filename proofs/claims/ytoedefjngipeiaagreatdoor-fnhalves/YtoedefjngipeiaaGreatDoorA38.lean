import Derived.Test.YtoedefjngipeiaaGreatDoorA37
import Derived.Test.YtoedefjngipeiaaGreatDoorA16
import Derived.Laws.Tables
import Derived.Deep.MidRow
import Derived.Deep.WholeRow
import Derived.Test.YtoedefjngipeiaaGreatDoorA14
/- A number in words, in memory. -/
namespace Go.Proofs.YtoedefjngipeiaaGreatDoor
open Go.ChangeShapes Go.WideShapes Go.RowKit

/-- Of what was there nothing has turned but block B; there may be more. -/
def Mod (B : Nat) (w w' : World) : Prop := w'.os = w.os ∧ w'.tape = w.tape ∧ w'.output = w.output ∧ w.heap.size ≤ w'.heap.size ∧ ∀ k, k < w.heap.size → k ≠ B → w'.heap[k]? = w.heap[k]?
theorem Mod.refl (B : Nat) (w : World) : Mod B w w := ⟨rfl, rfl, rfl, Nat.le_refl _, fun _ _ _ => rfl⟩
theorem Mod.trans {B : Nat} {a b c : World} (h : Mod B a b) (k : Mod B b c) : Mod B a c :=
  ⟨k.1.trans h.1, k.2.1.trans h.2.1, k.2.2.1.trans h.2.2.1, Nat.le_trans h.2.2.2.1 k.2.2.2.1, fun i hi hb => (k.2.2.2.2 i (Nat.lt_of_lt_of_le hi h.2.2.2.1) hb).trans (h.2.2.2.2 i hi hb)⟩
theorem Mod.drewN {B : Nat} {a w : World} (h : Mod B a w) (n : Nat) : Mod B a (w.drewN n) := h.trans ⟨rfl, rfl, rfl, Nat.le_refl _, fun _ _ _ => rfl⟩
theorem Mod.setCell {B : Nat} {a w : World} (h : Mod B a w) (o : Nat) (u : Value) : Mod B a (w.setCell ⟨B, o, none⟩ u) :=
  h.trans ⟨rfl, rfl, rfl, by simp [World.setCell], fun k _ hk => Below.heap_setCell _ _ _ _ hk⟩
theorem Mod.alloc {B : Nat} {a w : World} (h : Mod B a w) (b : Obj) : Mod B a (w.alloc b) :=
  h.trans ⟨rfl, rfl, rfl, by simp, fun k hk _ => Below.heap_alloc _ _ _ hk⟩
theorem Mod.cell {B : Nat} {w w' : World} (h : Mod B w w') {p : Addr} (hp : p.block ≠ B) (hl : p.block < w.heap.size) : w'.cell? p = w.cell? p := World.cell?_of_block (w := w) (h.2.2.2.2 p.block hl hp)
theorem Mod.frozen {B : Nat} {w w' : World} (h : Mod B w w') {p : Addr} (hp : p.block ≠ B) (hl : p.block < w.heap.size) : w'.frozen? p = w.frozen? p := World.frozen?_of_block (w := w) (h.2.2.2.2 p.block hl hp)
theorem Mod.below {B C : Nat} {w w' : World} (h : Mod B w w') (hC : C ≤ B) (hl : C ≤ w.heap.size) : Below C w w' :=
  ⟨h.1, h.2.1, h.2.2.1, h.2.2.2.1, fun k hk => h.2.2.2.2 k (by omega) (by omega)⟩
theorem Mod.size {B : Nat} {w w' : World} (h : Mod B w w') : w.heap.size ≤ w'.heap.size := h.2.2.2.1
theorem Mod.of_below {B : Nat} {w w' : World} (h : Below w.heap.size w w') : Mod B w w' := ⟨h.os, h.tape, h.output, h.size, fun k hk _ => h.block k hk⟩
theorem Mod.of_only {B : Nat} {w w' : World} (h : Only B w w') : Mod B w w' := ⟨h.1, h.2.1, h.2.2.1, by rw [h.2.2.2.1]; exact Nat.le_refl _, fun k _ hb => h.2.2.2.2 k hb⟩

/-- The cells of a number: the count, 151 words. -/
def lgL (c : Nat) (f : Nat → Nat) : List Value := .int .i64 (c : Int) :: (List.range 151).map fun i => .int .u32 (f i : Int)
theorem lgL_length (c : Nat) (f : Nat → Nat) : (lgL c f).length = 152 := by simp [lgL]
def blk (c : Nat) (f : Nat → Nat) (R : List Value) : Array Value := (lgL c f ++ R).toArray
def upd (f : Nat → Nat) (i v : Nat) : Nat → Nat := fun j => if j = i then v else f j
theorem blk_get0 (c : Nat) (f : Nat → Nat) (R : List Value) : (blk c f R)[0]? = some (.int .i64 (c : Int)) := by simp [blk, lgL]
theorem lgL_get (c : Nat) (f : Nat → Nat) (i : Nat) (h : i < 151) : (lgL c f)[i + 1]? = some (.int .u32 (f i : Int)) := by
  unfold lgL
  rw [List.getElem?_cons_succ, List.getElem?_map, List.getElem?_range h]; rfl
theorem blk_get (c : Nat) (f : Nat → Nat) (R : List Value) (i : Nat) (h : i < 151) : (blk c f R)[i + 1]? = some (.int .u32 (f i : Int)) := by
  unfold blk
  rw [List.getElem?_toArray, List.getElem?_append_left (by rw [lgL_length]; omega), lgL_get c f i h]
theorem blk_tail (c : Nat) (f : Nat → Nat) (R : List Value) (j : Nat) : (blk c f R)[152 + j]? = R[j]? := by
  unfold blk
  rw [List.getElem?_toArray, List.getElem?_append_right (by rw [lgL_length]; omega), lgL_length, Nat.add_sub_cancel_left]
theorem blk_set0 (c c' : Nat) (f : Nat → Nat) (R : List Value) : (blk c f R).setIfInBounds 0 (.int .i64 (c' : Int)) = blk c' f R := by
  unfold blk
  rw [List.setIfInBounds_toArray]; rfl
theorem lgL_set (c : Nat) (f : Nat → Nat) (i v : Nat) : (lgL c f).set (i + 1) (.int .u32 (v : Int)) = lgL c (upd f i v) := by
  unfold lgL
  rw [List.set_cons_succ]
  congr 1
  apply List.ext_getElem
  · simp
  · intro j h1 h2
    rw [List.getElem_set]
    by_cases hj : i = j
    · subst hj; simp [upd]
    · rw [if_neg hj]; simp [upd, show ¬ j = i by omega]
theorem blk_set (c : Nat) (f : Nat → Nat) (R : List Value) (i v : Nat) (h : i < 151) : (blk c f R).setIfInBounds (i + 1) (.int .u32 (v : Int)) = blk c (upd f i v) R := by
  unfold blk
  rw [List.setIfInBounds_toArray, List.set_append_left _ _ (by rw [lgL_length]; omega), lgL_set c f i v]
theorem blk_setT (c : Nat) (f : Nat → Nat) (x y : Value) : (blk c f [x]).setIfInBounds 152 y = blk c f [y] := by
  unfold blk
  rw [List.setIfInBounds_toArray, List.set_append_right _ _ (by rw [lgL_length]; omega), lgL_length]; rfl
theorem lgL_congr (c : Nat) (f g : Nat → Nat) (h : ∀ i, i < 151 → f i = g i) : lgL c f = lgL c g := by
  unfold lgL
  congr 1
  apply List.map_congr_left
  intro i hi
  rw [h i (List.mem_range.1 hi)]
theorem blk_congr (c : Nat) (f g : Nat → Nat) (R : List Value) (h : ∀ i, i < 151 → f i = g i) : blk c f R = blk c g R := by unfold blk; rw [lgL_congr c f g h]
theorem blk_size (c : Nat) (f : Nat → Nat) (R : List Value) : (blk c f R).size = 152 + R.length := by simp [blk, lgL_length]

/-- A number's words lie in block B. -/
def LB (w : World) (B c : Nat) (f : Nat → Nat) (R : List Value) (t : TypeId) : Prop := w.heap[B]? = some (.cells (blk c f R) t (0, 0))
theorem cell_of_heap {w : World} {B : Nat} {cs : Array Value} {t : TypeId} (h : w.heap[B]? = some (.cells cs t (0, 0))) (o : Nat) : w.cell? ⟨B, o, none⟩ = cs[o]? := by simp [World.cell?, h]
theorem frozen_of_heap {w : World} {B : Nat} {cs : Array Value} {t : TypeId} (h : w.heap[B]? = some (.cells cs t (0, 0))) (o : Nat) : w.frozen? ⟨B, o, none⟩ = false := by simp [World.frozen?, h]
theorem LB.cnt {w : World} {B c : Nat} {f : Nat → Nat} {R : List Value} {t : TypeId} (h : LB w B c f R t) : w.cell? ⟨B, 0, none⟩ = some (.int .i64 (c : Int)) := by rw [cell_of_heap h, blk_get0]
theorem LB.wrd {w : World} {B c : Nat} {f : Nat → Nat} {R : List Value} {t : TypeId} (h : LB w B c f R t) (i : Nat) (hi : i < 151) : w.cell? ⟨B, i + 1, none⟩ = some (.int .u32 (f i : Int)) := by rw [cell_of_heap h, blk_get c f R i hi]
theorem LB.wrd' {w : World} {B c : Nat} {f : Nat → Nat} {R : List Value} {t : TypeId} (h : LB w B c f R t) (i : Nat) (hi : i < 151) : w.cell? ⟨B, 1 + i, none⟩ = some (.int .u32 (f i : Int)) := by rw [Nat.add_comm]; exact h.wrd i hi
theorem LB.froz {w : World} {B c : Nat} {f : Nat → Nat} {R : List Value} {t : TypeId} (h : LB w B c f R t) (o : Nat) : w.frozen? ⟨B, o, none⟩ = false := frozen_of_heap h o
theorem LB.lt {w : World} {B c : Nat} {f : Nat → Nat} {R : List Value} {t : TypeId} (h : LB w B c f R t) : B < w.heap.size := (Array.getElem?_eq_some_iff.1 h).1
theorem LB.setw {w : World} {B c : Nat} {f : Nat → Nat} {R : List Value} {t : TypeId} (h : LB w B c f R t) (i v : Nat) (hi : i < 151) : LB (w.setCell ⟨B, i + 1, none⟩ (.int .u32 (v : Int))) B c (upd f i v) R t := by
  unfold LB
  rw [setCell_eq_setRow w B (i + 1) _ t (0, 0) _ h, blk_set c f R i v hi]
  exact setRow_heap w B _ _ t (0, 0) h
theorem LB.setw' {w : World} {B c : Nat} {f : Nat → Nat} {R : List Value} {t : TypeId} (h : LB w B c f R t) (i v : Nat) (hi : i < 151) : LB (w.setCell ⟨B, 1 + i, none⟩ (.int .u32 (v : Int))) B c (upd f i v) R t := by rw [Nat.add_comm]; exact h.setw i v hi
theorem LB.setc {w : World} {B c : Nat} {f : Nat → Nat} {R : List Value} {t : TypeId} (h : LB w B c f R t) (c' : Nat) : LB (w.setCell ⟨B, 0, none⟩ (.int .i64 (c' : Int))) B c' f R t := by
  unfold LB
  rw [setCell_eq_setRow w B 0 _ t (0, 0) _ h, blk_set0]
  exact setRow_heap w B _ _ t (0, 0) h
theorem LB.congr {w : World} {B c : Nat} {f : Nat → Nat} {R : List Value} {t : TypeId} (h : LB w B c f R t) (g : Nat → Nat) (hg : ∀ i, i < 151 → f i = g i) : LB w B c g R t := by
  unfold LB; rw [← blk_congr c f g R hg]; exact h
theorem LB.other {w w' : World} {B B' c : Nat} {f : Nat → Nat} {R : List Value} {t : TypeId} (h : LB w B c f R t) (hm : Mod B' w w') (hB : B ≠ B') : LB w' B c f R t := (hm.2.2.2.2 B h.lt hB).trans h
theorem LB.drewN {w : World} {B c : Nat} {f : Nat → Nat} {R : List Value} {t : TypeId} (h : LB w B c f R t) (n : Nat) : LB (w.drewN n) B c f R t := h
theorem LB.alloc {w : World} {B c : Nat} {f : Nat → Nat} {R : List Value} {t : TypeId} (h : LB w B c f R t) (b : Obj) : LB (w.alloc b) B c f R t := by
  have hl := h.lt
  unfold LB at *
  rw [Below.heap_alloc _ _ _ hl]; exact h
theorem LB.new (w : World) (c : Nat) (f : Nat → Nat) (R : List Value) (t : TypeId) : LB (w.alloc (.cells (blk c f R) t)) w.heap.size c f R t :=
  heap_alloc_last w _
/-- A number N: its own words and their count. -/
def Lg (w : World) (B N : Nat) (R : List Value) (t : TypeId) : Prop := ∃ c, c ≤ 151 ∧ cntOk c N ∧ LB w B c (dg N) R t
theorem Lg.lt {w : World} {B N : Nat} {R : List Value} {t : TypeId} (h : Lg w B N R t) : B < w.heap.size := by obtain ⟨_, _, _, h⟩ := h; exact h.lt
theorem Lg.other {w w' : World} {B B' N : Nat} {R : List Value} {t : TypeId} (h : Lg w B N R t) (hm : Mod B' w w') (hB : B ≠ B') : Lg w' B N R t := by
  obtain ⟨c, h1, h2, h3⟩ := h; exact ⟨c, h1, h2, h3.other hm hB⟩
/-- The value of a number. -/
def lgV (c N : Nat) : Value := .agg (lgL c (dg N)).toArray
end Go.Proofs.YtoedefjngipeiaaGreatDoor

/- The program's reader: where it stands, what it sees, its sign. -/
namespace Go.Proofs.YtoedefjngipeiaaGreatDoor
open Go.ChangeShapes Go.WideShapes Go.RowKit

/-- The reader lies in block G and stands at k. -/
def Rr (w : World) (G : Nat) (s : ByteArray) (k : Nat) : Prop := w.heap[G]? = some (.cells #[.string s, .int .i64 (k : Int)] 95 (0, 0))
theorem Rr.txt {w : World} {G k : Nat} {s : ByteArray} (h : Rr w G s k) : w.cell? ⟨G, 0, none⟩ = some (.string s) := by rw [cell_of_heap h]; rfl
theorem Rr.at_ {w : World} {G k : Nat} {s : ByteArray} (h : Rr w G s k) : w.cell? ⟨G, 1, none⟩ = some (.int .i64 (k : Int)) := by rw [cell_of_heap h]; rfl
theorem Rr.froz {w : World} {G k : Nat} {s : ByteArray} (h : Rr w G s k) (o : Nat) : w.frozen? ⟨G, o, none⟩ = false := frozen_of_heap h o
theorem Rr.lt {w : World} {G k : Nat} {s : ByteArray} (h : Rr w G s k) : G < w.heap.size := (Array.getElem?_eq_some_iff.1 h).1
theorem Rr.set {w : World} {G k : Nat} {s : ByteArray} (h : Rr w G s k) (k' : Nat) : Rr (w.setCell ⟨G, 1, none⟩ (.int .i64 (k' : Int))) G s k' := by
  unfold Rr
  rw [setCell_eq_setRow w G 1 _ _ (0, 0) _ h]
  exact setRow_heap w G _ _ _ (0, 0) h
theorem Rr.other {w w' : World} {G B k : Nat} {s : ByteArray} (h : Rr w G s k) (hm : Mod B w w') (hB : G ≠ B) : Rr w' G s k := (hm.2.2.2.2 G h.lt hB).trans h
theorem Rr.below {w w' : World} {G k : Nat} {s : ByteArray} (h : Rr w G s k) (hm : Below w.heap.size w w') : Rr w' G s k := (hm.block G h.lt).trans h
theorem Rr.drewN {w : World} {G k : Nat} {s : ByteArray} (h : Rr w G s k) (n : Nat) : Rr (w.drewN n) G s k := h
theorem Rr.alloc {w : World} {G k : Nat} {s : ByteArray} (h : Rr w G s k) (b : Obj) : Rr (w.alloc b) G s k := (Below.heap_alloc _ _ _ h.lt).trans h

/-- Does a text begin so? -/
def pre (s p : ByteArray) : Bool := decide (p.size ≤ s.size) && ((s.extract 0 p.size).toList == p.toList)
set_option maxHeartbeats 400000 in
theorem hasPre_any (s p : ByteArray) (w : World) :
    Calls Tryz.prog 105 #[.string s, .string p] w fun e w' => e = .returned (.bool (pre s p)) ∧ w' = w := by
  unfold pre
  by_cases h : p.size ≤ s.size
  · have h1 : (p.size : Int) ≤ (s.size : Int) := by omega
    have hd : decide ((p.size : Int) ≤ (s.size : Int)) = true := decide_eq_true h1
    rw [decide_eq_true h, Bool.true_and]
    go_enter Tryz.func105, Tryz.ntmps105
    go_wp2
    go_ret
    exact ⟨rfl, rfl⟩
  · have hd : decide ((p.size : Int) ≤ (s.size : Int)) = false := decide_eq_false (by omega)
    rw [decide_eq_false h, Bool.false_and]
    go_enter Tryz.func105, Tryz.ntmps105
    go_wp2
    go_ret
    exact ⟨rfl, rfl⟩
theorem hasPrefix_any (s p : ByteArray) (w : World) :
    Calls Tryz.prog 98 #[.string s, .string p] w fun e w' => e = .returned (.bool (pre s p)) ∧ w' = w := by
  have HC : Hid _ := fun w => hasPre_any s p w
  go_enter Tryz.func98, Tryz.ntmps98
  go_wp2_with (go_at_call 105; refine (HC.out _).mono ?_; rintro e w' ⟨rfl, rfl⟩)
  go_ret
  exact ⟨rfl, rfl⟩
theorem pre_eq (s p : ByteArray) : pre s p = true ↔ s.data.toList.take p.size = p.data.toList := by
  unfold pre
  rw [Bool.and_eq_true, decide_eq_true_iff, beq_iff_eq, ByteArray.toList_eq, ByteArray.toList_eq]
  have e : (s.extract 0 p.size).data.toList = s.data.toList.take p.size := by simp
  rw [e]
  constructor
  · exact fun h => h.2
  · intro h
    refine ⟨?_, h⟩
    have := congrArg List.length h
    simp at this
    omega
theorem drop_list (s : ByteArray) (j : Nat) : (s.extract j s.size).data.toList = s.data.toList.drop j := by
  have : (s.extract j s.size).data.toList = (s.data.toList.drop j).take (s.size - j) := by simp
  rw [this]
  exact List.take_of_length_le (by simp)
theorem drop_cons (s : ByteArray) (k : Nat) (h : k < s.size) : (s.extract k s.size).data.toList = s[k] :: (s.extract (k + 1) s.size).data.toList := by
  have e := drop_list s
  rw [e, e, List.drop_eq_getElem_cons (by simpa using h)]
  rfl
theorem drop_out (s : ByteArray) (k : Nat) (h : ¬ k < s.size) : (s.extract k s.size).data.toList = [] := by
  rw [drop_list, List.drop_eq_nil_iff]
  simp; omega
theorem pre_one (s : ByteArray) (k : Nat) (c : UInt8) (hc : c.toNat ≠ 0) : pre (s.extract k s.size) ⟨#[c]⟩ = decide (bAt s k = (c.toNat : Int)) := by
  rw [Bool.eq_iff_iff, pre_eq, decide_eq_true_iff]
  by_cases h : k < s.size
  · rw [drop_cons s k h, bAt_in s k h]
    show [s[k]] = [c] ↔ _
    constructor
    · intro e; rw [(List.cons.inj e).1]
    · intro e; rw [UInt8.toNat_inj.1 (show s[k].toNat = c.toNat by omega)]
  · rw [drop_out s k h, bAt_out s k h]
    constructor
    · intro e; exact absurd e (by show ¬ [] = [c]; simp)
    · intro e; omega
theorem pre_two (s : ByteArray) (k : Nat) (c d : UInt8) : pre (s.extract k s.size) ⟨#[c, d]⟩ = decide (bAt s k = (c.toNat : Int) ∧ k + 1 < s.size ∧ bAt s (k + 1) = (d.toNat : Int)) := by
  rw [Bool.eq_iff_iff, pre_eq, decide_eq_true_iff]
  by_cases h : k < s.size
  · rw [drop_cons s k h, bAt_in s k h]
    by_cases h' : k + 1 < s.size
    · rw [drop_cons s (k + 1) h', bAt_in s (k + 1) h']
      show [s[k], s[k + 1]] = [c, d] ↔ _
      constructor
      · intro e
        have e1 := List.cons.inj e
        rw [e1.1, (List.cons.inj e1.2).1]; exact ⟨rfl, h', rfl⟩
      · rintro ⟨e, _, e'⟩; rw [UInt8.toNat_inj.1 (show s[k].toNat = c.toNat by omega), UInt8.toNat_inj.1 (show s[k + 1].toNat = d.toNat by omega)]
    · rw [drop_out s (k + 1) h']
      constructor
      · intro e; exact absurd e (by show ¬ [s[k]] = [c, d]; simp)
      · rintro ⟨_, e, _⟩; omega
  · rw [drop_out s k h, bAt_out s k h]
    constructor
    · intro e; exact absurd e (by show ¬ [] = [c, d]; simp)
    · rintro ⟨_, e, _⟩; omega
set_option maxHeartbeats 400000 in
theorem sees_any (G k : Nat) (s p : ByteArray) (w : World) (h : Rr w G s k) (hk : k ≤ s.size) :
    Calls Tryz.prog 84 #[.pointer (some ⟨G, 0, none⟩), .string p] w fun e w' => e = .returned (.bool (pre (s.extract k s.size) p)) ∧ ∃ n, w' = w.drewN n := by
  have h1 := h.txt
  have h2 := h.at_
  have hk' : (k : Int) ≤ (s.size : Int) := by omega
  have HC : Hid (∀ w, Calls Tryz.prog 98 #[.string (s.extract k s.size), .string p] w fun e w' => e = .returned (.bool (pre (s.extract k s.size) p)) ∧ w' = w) := fun w => hasPrefix_any _ p w
  clear h
  go_enter Tryz.func84, Tryz.ntmps84
  go_wp2
  go_quiet (first | (go_at_call 98; exact Calls.quiet_of_same (HC.out _)))
  go_wp2
  go_ret
  exact ⟨rfl, _, rfl⟩
set_option maxHeartbeats 400000 in
theorem rsign_any (G k : Nat) (s : ByteArray) (w : World) (h : Rr w G s k) (hk : k ≤ s.size) (hs : s.size ≤ 1200) (neg : Bool) (j : Nat) (hg : Sgn s k neg j) :
    Calls Tryz.prog 83 #[.pointer (some ⟨G, 0, none⟩)] w fun e w' => e = .returned (.bool neg) ∧ Rr w' G s j ∧ Mod G w w' := by
  have h1 := h.txt
  have h2 := h.at_
  have hf := h.froz 1
  have hk' : (k : Int) ≤ (s.size : Int) := by omega
  have hsz : (s.extract k s.size).size = s.size - k := by rw [ByteArray.size_extract]; omega
  have hj := sgn_le s k neg j hg hk
  have hjk : k ≤ j := by rcases hg with ⟨_, _, _, e⟩ | ⟨_, _, _, e⟩ | ⟨_, _, _, e⟩ <;> omega
  have hcut : ∃ r : ByteArray, Cut (s.extract k s.size) neg r ∧ r.size = s.size - j := by
    have hin : ∀ h : k < s.size, ∃ h0 : 0 < (s.extract k s.size).size, (s.extract k s.size)[0].toNat = s[k].toNat := fun h => by
      refine ⟨by omega, ?_⟩
      rw [ByteArray.getElem_extract]; rfl
    rcases hg with ⟨a, e, rfl, hjj⟩ | ⟨a, e, rfl, hjj⟩ | ⟨e, e', rfl, hjj⟩
    · obtain ⟨h0, hh⟩ := hin a
      rw [bAt_in s k a] at e
      exact ⟨_, .inr (.inl ⟨h0, by omega, rfl, rfl⟩), by rw [ByteArray.size_extract]; omega⟩
    · obtain ⟨h0, hh⟩ := hin a
      rw [bAt_in s k a] at e
      exact ⟨_, .inr (.inr (.inl ⟨h0, by omega, rfl, rfl⟩)), by rw [ByteArray.size_extract]; omega⟩
    · by_cases a : k < s.size
      · obtain ⟨h0, hh⟩ := hin a
        rw [bAt_in s k a] at e e'
        exact ⟨_, .inr (.inr (.inr ⟨h0, by omega, by omega, rfl, rfl⟩)), by rw [ByteArray.size_extract]; omega⟩
      · exact ⟨_, .inl ⟨by omega, rfl, rfl⟩, by rw [ByteArray.size_extract]; omega⟩
  obtain ⟨r, hc, hr⟩ := hcut
  have HC : Hid (∀ w, Calls Tryz.prog 97 #[.string (s.extract k s.size)] w fun e w' => e = .returned (.tuple #[.bool neg, .string r]) ∧ ∃ n, w' = w.drewN n) := fun w => cutSign_any _ w (by omega) neg r hc
  have HR : Hid (Rr w G s k) := h
  have hr' : (r.size : Int) = (s.size : Int) - (j : Int) := by omega
  clear h hc hg hr hsz
  go_enter Tryz.func83, Tryz.ntmps83
  go_wp2
  go_quiet (first | (go_at_call 97; exact Calls.quiet_of (HC.out _)))
  go_wp2
  go_ret
  have e : (s.size : Int) - ((s.size : Int) - (j : Int)) = (j : Int) := by omega
  rw [e]
  exact ⟨rfl, (HR.out.drewN nq).set j, ((Mod.refl G w).drewN nq).setCell _ _⟩
end Go.Proofs.YtoedefjngipeiaaGreatDoor

/- The program's reader: words that are expected. -/
namespace Go.Proofs.YtoedefjngipeiaaGreatDoor
open Go.ChangeShapes Go.WideShapes Go.RowKit

/-- An error that tells a place, or none. -/
def errV : Option Nat → Value
  | none => .nilIface
  | some k => .iface 67 (.agg #[.int .i64 (k : Int)])
/-- How far a word of three bytes is met: nothing where it is met whole. -/
def Wrd (nan : Bool) (s : ByteArray) (k : Nat) (r : Option Nat) (j : Nat) : Prop :=
  ∃ i, i ≤ 3 ∧ (∀ t, t < i → bAt s (k + t) = wordC nan t) ∧ j = k + i ∧ ((i < 3 ∧ bAt s (k + i) ≠ wordC nan i ∧ r = some (k + i)) ∨ (i = 3 ∧ r = none))
def wordS (nan : Bool) : ByteArray := if nan then ⟨#[110, 97, 110]⟩ else ⟨#[105, 110, 102]⟩
set_option maxHeartbeats 1000000 in
theorem expect_any (nan : Bool) (G k : Nat) (s : ByteArray) (w : World) (h : Rr w G s k) (hk : k ≤ s.size) (hs : s.size ≤ 1200) :
    Calls Tryz.prog 85 #[.pointer (some ⟨G, 0, none⟩), .string (wordS nan)] w fun e w' => ∃ r j, Wrd nan s k r j ∧ e = .returned (errV r) ∧ Rr w' G s j ∧ Mod G w w' := by
  have HR : Hid (Rr w G s k) := h
  have hz : (wordS nan).size = 3 := by cases nan <;> rfl
  have HE : Hid (∀ i, i < 3 → ∃ c : UInt8, c.toNat ≠ 0 ∧ (c.toNat : Int) = wordC nan i ∧ (wordS nan).extract i (i + 1) = ⟨#[c]⟩) := by
    intro i hi
    have : i = 0 ∨ i = 1 ∨ i = 2 := by omega
    rcases this with rfl | rfl | rfl <;> cases nan
    · exact ⟨105, by decide, by decide, by decide⟩
    · exact ⟨110, by decide, by decide, by decide⟩
    · exact ⟨110, by decide, by decide, by decide⟩
    · exact ⟨97, by decide, by decide, by decide⟩
    · exact ⟨102, by decide, by decide, by decide⟩
    · exact ⟨110, by decide, by decide, by decide⟩
  obtain ⟨t, ht⟩ : ∃ t, wordS nan = t := ⟨_, rfl⟩
  rw [ht] at hz HE ⊢
  clear h ht
  go_enter Tryz.func85, Tryz.ntmps85
  go_wp2
  go_loopw [8] (fun iv wl => ∃ i : Nat, iv = .int .i64 (i : Int) ∧ i ≤ 3 ∧ k + i ≤ s.size ∧ Hid (∀ t, t < i → bAt s (k + t) = wordC nan t) ∧ Hid (Rr wl G s (k + i)) ∧ Hid (Mod G w wl)) (fun iv _ => 3 - (intOf iv).toNat)
  case atStart => exact ⟨0, rfl, by omega, by omega, fun t ht => by omega, HR.out, Mod.refl G w⟩
  case round =>
    clear HR
    obtain ⟨i, rfl, hi, hki, HI, HR, HM⟩ := hrel
    by_cases hlt : i < 3
    · have hlt' : (i : Int) < 3 := by omega
      obtain ⟨c, hc0, hc1, hc2⟩ := HE.out i hlt
      have HS : Hid (Calls Tryz.prog 84 #[.pointer (some ⟨G, 0, none⟩), .string (t.extract i (i + 1))] wr fun e w' => e = .returned (.bool (decide (bAt s (k + i) = wordC nan i))) ∧ ∃ n, w' = wr.drewN n) := by
        rw [hc2, ← hc1, ← pre_one s (k + i) c hc0]
        exact sees_any G (k + i) s ⟨#[c]⟩ wr HR.out hki
      clear hc0 hc1 hc2
      by_cases hm : bAt s (k + i) = wordC nan i
      · rw [decide_eq_true hm] at HS
        have HM' : Hid (bAt s (k + i) = wordC nan i) := hm
        have hin : k + i < s.size := by
          rcases Nat.lt_or_ge (k + i) s.size with h | h
          · exact h
          · rw [bAt_out s (k + i) (by omega)] at hm
            exfalso
            unfold wordC at hm
            have : i = 0 ∨ i = 1 ∨ i = 2 := by omega
            rcases this with rfl | rfl | rfl <;> cases nan <;> simp at hm
        have hat := HR.out.at_
        have hfr := HR.out.froz 1
        rw [show ((k + i : Nat) : Int) = (k : Int) + (i : Int) by omega] at hat
        clear hm
        go_wp2_with (go_at_call 84; refine HS.out.mono ?_; rintro e w' ⟨rfl, n, rfl⟩)
        refine ⟨⟨i + 1, rfl, by omega, by omega, ?_, ?_, (HM.out.drewN _).setCell _ _⟩, ?_⟩
        · intro t' ht'
          by_cases e : t' = i
          · subst e; exact HM'.out
          · exact HI.out t' (by omega)
        · have h1 := (HR.out.drewN n).set (k + (i + 1))
          rw [show ((k + (i + 1) : Nat) : Int) = (k : Int) + (i : Int) + 1 by omega] at h1
          exact h1
        · show 3 - ((i : Int) + 1).toNat < 3 - (i : Int).toNat; omega
      · rw [decide_eq_false hm] at HS
        have HM' : Hid (bAt s (k + i) ≠ wordC nan i) := hm
        have hat := HR.out.at_
        clear hm
        go_wp2_with (go_at_call 84; refine HS.out.mono ?_; rintro e w' ⟨rfl, n, rfl⟩)
        go_ret
        exact ⟨some (k + i), k + i, ⟨i, hi, HI.out, rfl, .inl ⟨hlt, HM'.out, rfl⟩⟩, rfl, HR.out.drewN n, HM.out.drewN n⟩
    · obtain rfl : i = 3 := by omega
      go_wp2
      go_ret
      exact ⟨none, k + 3, ⟨3, hi, HI.out, rfl, .inr ⟨rfl, rfl⟩⟩, rfl, HR.out, HM.out⟩
end Go.Proofs.YtoedefjngipeiaaGreatDoor

