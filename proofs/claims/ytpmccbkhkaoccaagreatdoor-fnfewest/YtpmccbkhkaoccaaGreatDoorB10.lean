import Derived.Test.YtpmccbkhkaoccaaGreatDoorB09
import Derived.Laws.Tables
import Derived.Deep.MidRow
import Derived.Deep.WholeRow
import Derived.Test.YtpmccbkhkaoccaaGreatDoorB08
import Derived.Test.YtpmccbkhkaoccaaGreatDoorB04
/- A number in words, in memory. -/
namespace Go.Proofs.YtpmccbkhkaoccaaGreatDoor
open Go.ChangeShapes Go.WideShapes Go.RowKit

/-- Of what was there nothing has turned but block B; there may be more. -/
def Mod (B : Nat) (w w' : World) : Prop := w'.os = w.os ∧ w'.tape = w.tape ∧ w'.output = w.output ∧ w.heap.size ≤ w'.heap.size ∧ ∀ k, k < w.heap.size → k ≠ B → w'.heap[k]? = w.heap[k]?
theorem Mod.refl (B : Nat) (w : World) : Mod B w w := ⟨rfl, rfl, rfl, Nat.le_refl _, fun _ _ _ => rfl⟩
theorem Mod.trans {B : Nat} {a b c : World} (h : Mod B a b) (k : Mod B b c) : Mod B a c :=
  ⟨k.1.trans h.1, k.2.1.trans h.2.1, k.2.2.1.trans h.2.2.1, Nat.le_trans h.2.2.2.1 k.2.2.2.1, fun i hi hb => (k.2.2.2.2 i (Nat.lt_of_lt_of_le hi h.2.2.2.1) hb).trans (h.2.2.2.2 i hi hb)⟩
theorem Mod.drewN {B : Nat} {a w : World} (h : Mod B a w) (n : Nat) : Mod B a (w.drewN n) := h.trans ⟨rfl, rfl, rfl, Nat.le_refl _, fun _ _ _ => rfl⟩
theorem Mod.setCell {B : Nat} {a w : World} (h : Mod B a w) (o : Nat) (u : Value) : Mod B a (w.setCell ⟨B, o, none⟩ u) :=
  h.trans ⟨rfl, rfl, rfl, by simp [World.setCell], fun k _ hk => Below.heap_setCell _ _ _ _ hk⟩
theorem Mod.alloc {B : Nat} {a w : World} (h : Mod B a w) (b : Obj) : Mod B a (w.alloc b) :=
  h.trans ⟨rfl, rfl, rfl, by simp, fun k hk _ => Below.heap_alloc _ _ _ hk⟩
theorem Mod.cell {B : Nat} {w w' : World} (h : Mod B w w') {p : Addr} (hp : p.block ≠ B) (hl : p.block < w.heap.size) : w'.cell? p = w.cell? p := World.cell?_of_block (w := w) (h.2.2.2.2 p.block hl hp)
theorem Mod.frozen {B : Nat} {w w' : World} (h : Mod B w w') {p : Addr} (hp : p.block ≠ B) (hl : p.block < w.heap.size) : w'.frozen? p = w.frozen? p := World.frozen?_of_block (w := w) (h.2.2.2.2 p.block hl hp)
theorem Mod.below {B C : Nat} {w w' : World} (h : Mod B w w') (hC : C ≤ B) (hl : C ≤ w.heap.size) : Below C w w' :=
  ⟨h.1, h.2.1, h.2.2.1, h.2.2.2.1, fun k hk => h.2.2.2.2 k (by omega) (by omega)⟩
theorem Mod.size {B : Nat} {w w' : World} (h : Mod B w w') : w.heap.size ≤ w'.heap.size := h.2.2.2.1
theorem Mod.of_below {B : Nat} {w w' : World} (h : Below w.heap.size w w') : Mod B w w' := ⟨h.os, h.tape, h.output, h.size, fun k hk _ => h.block k hk⟩
theorem Mod.of_only {B : Nat} {w w' : World} (h : Only B w w') : Mod B w w' := ⟨h.1, h.2.1, h.2.2.1, by rw [h.2.2.2.1]; exact Nat.le_refl _, fun k _ hb => h.2.2.2.2 k hb⟩

/-- The cells of a number: the count, 151 words. -/
def lgL (c : Nat) (f : Nat → Nat) : List Value := .int .i64 (c : Int) :: (List.range 151).map fun i => .int .u32 (f i : Int)
theorem lgL_length (c : Nat) (f : Nat → Nat) : (lgL c f).length = 152 := by simp [lgL]
def blk (c : Nat) (f : Nat → Nat) (R : List Value) : Array Value := (lgL c f ++ R).toArray
def upd (f : Nat → Nat) (i v : Nat) : Nat → Nat := fun j => if j = i then v else f j
theorem blk_get0 (c : Nat) (f : Nat → Nat) (R : List Value) : (blk c f R)[0]? = some (.int .i64 (c : Int)) := by simp [blk, lgL]
theorem lgL_get (c : Nat) (f : Nat → Nat) (i : Nat) (h : i < 151) : (lgL c f)[i + 1]? = some (.int .u32 (f i : Int)) := by
  unfold lgL
  rw [List.getElem?_cons_succ, List.getElem?_map, List.getElem?_range h]; rfl
theorem blk_get (c : Nat) (f : Nat → Nat) (R : List Value) (i : Nat) (h : i < 151) : (blk c f R)[i + 1]? = some (.int .u32 (f i : Int)) := by
  unfold blk
  rw [List.getElem?_toArray, List.getElem?_append_left (by rw [lgL_length]; omega), lgL_get c f i h]
theorem blk_tail (c : Nat) (f : Nat → Nat) (R : List Value) (j : Nat) : (blk c f R)[152 + j]? = R[j]? := by
  unfold blk
  rw [List.getElem?_toArray, List.getElem?_append_right (by rw [lgL_length]; omega), lgL_length, Nat.add_sub_cancel_left]
theorem blk_set0 (c c' : Nat) (f : Nat → Nat) (R : List Value) : (blk c f R).setIfInBounds 0 (.int .i64 (c' : Int)) = blk c' f R := by
  unfold blk
  rw [List.setIfInBounds_toArray]; rfl
theorem lgL_set (c : Nat) (f : Nat → Nat) (i v : Nat) : (lgL c f).set (i + 1) (.int .u32 (v : Int)) = lgL c (upd f i v) := by
  unfold lgL
  rw [List.set_cons_succ]
  congr 1
  apply List.ext_getElem
  · simp
  · intro j h1 h2
    rw [List.getElem_set]
    by_cases hj : i = j
    · subst hj; simp [upd]
    · rw [if_neg hj]; simp [upd, show ¬ j = i by omega]
theorem blk_set (c : Nat) (f : Nat → Nat) (R : List Value) (i v : Nat) (h : i < 151) : (blk c f R).setIfInBounds (i + 1) (.int .u32 (v : Int)) = blk c (upd f i v) R := by
  unfold blk
  rw [List.setIfInBounds_toArray, List.set_append_left _ _ (by rw [lgL_length]; omega), lgL_set c f i v]
theorem blk_setT (c : Nat) (f : Nat → Nat) (x y : Value) : (blk c f [x]).setIfInBounds 152 y = blk c f [y] := by
  unfold blk
  rw [List.setIfInBounds_toArray, List.set_append_right _ _ (by rw [lgL_length]; omega), lgL_length]; rfl
theorem lgL_congr (c : Nat) (f g : Nat → Nat) (h : ∀ i, i < 151 → f i = g i) : lgL c f = lgL c g := by
  unfold lgL
  congr 1
  apply List.map_congr_left
  intro i hi
  rw [h i (List.mem_range.1 hi)]
theorem blk_congr (c : Nat) (f g : Nat → Nat) (R : List Value) (h : ∀ i, i < 151 → f i = g i) : blk c f R = blk c g R := by unfold blk; rw [lgL_congr c f g h]
theorem blk_size (c : Nat) (f : Nat → Nat) (R : List Value) : (blk c f R).size = 152 + R.length := by simp [blk, lgL_length]

/-- A number's words lie in block B. -/
def LB (w : World) (B c : Nat) (f : Nat → Nat) (R : List Value) (t : TypeId) : Prop := w.heap[B]? = some (.cells (blk c f R) t (0, 0))
theorem cell_of_heap {w : World} {B : Nat} {cs : Array Value} {t : TypeId} (h : w.heap[B]? = some (.cells cs t (0, 0))) (o : Nat) : w.cell? ⟨B, o, none⟩ = cs[o]? := by simp [World.cell?, h]
theorem frozen_of_heap {w : World} {B : Nat} {cs : Array Value} {t : TypeId} (h : w.heap[B]? = some (.cells cs t (0, 0))) (o : Nat) : w.frozen? ⟨B, o, none⟩ = false := by simp [World.frozen?, h]
theorem LB.cnt {w : World} {B c : Nat} {f : Nat → Nat} {R : List Value} {t : TypeId} (h : LB w B c f R t) : w.cell? ⟨B, 0, none⟩ = some (.int .i64 (c : Int)) := by rw [cell_of_heap h, blk_get0]
theorem LB.wrd {w : World} {B c : Nat} {f : Nat → Nat} {R : List Value} {t : TypeId} (h : LB w B c f R t) (i : Nat) (hi : i < 151) : w.cell? ⟨B, i + 1, none⟩ = some (.int .u32 (f i : Int)) := by rw [cell_of_heap h, blk_get c f R i hi]
theorem LB.wrd' {w : World} {B c : Nat} {f : Nat → Nat} {R : List Value} {t : TypeId} (h : LB w B c f R t) (i : Nat) (hi : i < 151) : w.cell? ⟨B, 1 + i, none⟩ = some (.int .u32 (f i : Int)) := by rw [Nat.add_comm]; exact h.wrd i hi
theorem LB.froz {w : World} {B c : Nat} {f : Nat → Nat} {R : List Value} {t : TypeId} (h : LB w B c f R t) (o : Nat) : w.frozen? ⟨B, o, none⟩ = false := frozen_of_heap h o
theorem LB.lt {w : World} {B c : Nat} {f : Nat → Nat} {R : List Value} {t : TypeId} (h : LB w B c f R t) : B < w.heap.size := (Array.getElem?_eq_some_iff.1 h).1
theorem LB.setw {w : World} {B c : Nat} {f : Nat → Nat} {R : List Value} {t : TypeId} (h : LB w B c f R t) (i v : Nat) (hi : i < 151) : LB (w.setCell ⟨B, i + 1, none⟩ (.int .u32 (v : Int))) B c (upd f i v) R t := by
  unfold LB
  rw [setCell_eq_setRow w B (i + 1) _ t (0, 0) _ h, blk_set c f R i v hi]
  exact setRow_heap w B _ _ t (0, 0) h
theorem LB.setw' {w : World} {B c : Nat} {f : Nat → Nat} {R : List Value} {t : TypeId} (h : LB w B c f R t) (i v : Nat) (hi : i < 151) : LB (w.setCell ⟨B, 1 + i, none⟩ (.int .u32 (v : Int))) B c (upd f i v) R t := by rw [Nat.add_comm]; exact h.setw i v hi
theorem LB.setc {w : World} {B c : Nat} {f : Nat → Nat} {R : List Value} {t : TypeId} (h : LB w B c f R t) (c' : Nat) : LB (w.setCell ⟨B, 0, none⟩ (.int .i64 (c' : Int))) B c' f R t := by
  unfold LB
  rw [setCell_eq_setRow w B 0 _ t (0, 0) _ h, blk_set0]
  exact setRow_heap w B _ _ t (0, 0) h
theorem LB.congr {w : World} {B c : Nat} {f : Nat → Nat} {R : List Value} {t : TypeId} (h : LB w B c f R t) (g : Nat → Nat) (hg : ∀ i, i < 151 → f i = g i) : LB w B c g R t := by
  unfold LB; rw [← blk_congr c f g R hg]; exact h
theorem LB.other {w w' : World} {B B' c : Nat} {f : Nat → Nat} {R : List Value} {t : TypeId} (h : LB w B c f R t) (hm : Mod B' w w') (hB : B ≠ B') : LB w' B c f R t := (hm.2.2.2.2 B h.lt hB).trans h
theorem LB.drewN {w : World} {B c : Nat} {f : Nat → Nat} {R : List Value} {t : TypeId} (h : LB w B c f R t) (n : Nat) : LB (w.drewN n) B c f R t := h
theorem LB.alloc {w : World} {B c : Nat} {f : Nat → Nat} {R : List Value} {t : TypeId} (h : LB w B c f R t) (b : Obj) : LB (w.alloc b) B c f R t := by
  have hl := h.lt
  unfold LB at *
  rw [Below.heap_alloc _ _ _ hl]; exact h
theorem LB.new (w : World) (c : Nat) (f : Nat → Nat) (R : List Value) (t : TypeId) : LB (w.alloc (.cells (blk c f R) t)) w.heap.size c f R t :=
  heap_alloc_last w _
/-- A number N: its own words and their count. -/
def Lg (w : World) (B N : Nat) (R : List Value) (t : TypeId) : Prop := ∃ c, c ≤ 151 ∧ cntOk c N ∧ LB w B c (dg N) R t
theorem Lg.lt {w : World} {B N : Nat} {R : List Value} {t : TypeId} (h : Lg w B N R t) : B < w.heap.size := by obtain ⟨_, _, _, h⟩ := h; exact h.lt
theorem Lg.other {w w' : World} {B B' N : Nat} {R : List Value} {t : TypeId} (h : Lg w B N R t) (hm : Mod B' w w') (hB : B ≠ B') : Lg w' B N R t := by
  obtain ⟨c, h1, h2, h3⟩ := h; exact ⟨c, h1, h2, h3.other hm hB⟩
/-- The value of a number. -/
def lgV (c N : Nat) : Value := .agg (lgL c (dg N)).toArray
end Go.Proofs.YtpmccbkhkaoccaaGreatDoor

/- The number that digits tell: plain. -/
namespace Go.Proofs.YtpmccbkhkaoccaaGreatDoor
open Go.RowKit

/-- The number that digits tell. -/
def valN (b : Nat) (l : List UInt8) : Nat := (val (b : Int) l).toNat
theorem valN_cast (b : Nat) (l : List UInt8) : (valN b l : Int) = val (b : Int) l := Int.toNat_of_nonneg (val_nonneg _ (by omega) l)
theorem valN_step (b : Nat) (s : ByteArray) (k : Nat) (h : k < s.size) (d : Nat) (hd : (d : Int) = digN 99 (s[k].toNat : Int)) : valN b (s.data.toList.take (k + 1)) = valN b (s.data.toList.take k) * b + d := by
  have h1 := valN_cast b (s.data.toList.take (k + 1))
  rw [val_step (b : Int) s k h, ← valN_cast b (s.data.toList.take k), ← hd] at h1
  rw [← Int.natCast_mul, ← Int.natCast_add] at h1
  exact Int.ofNat_inj.1 h1
theorem valN_lt (b : Nat) (hb : b ≤ 4000000000) (l : List UInt8) : valN b l < 4294967296 ^ l.length := by
  have key : ∀ (l : List UInt8) (n : Int) (k : Nat), 0 ≤ n → n.toNat < 4294967296 ^ k → (l.foldl (fun n c => n * (b : Int) + digN 99 c.toNat) n).toNat < 4294967296 ^ (k + l.length) := by
    intro l
    induction l with
    | nil => intro n k _ h; simpa using h
    | cons c l ih =>
      intro n k h0 h
      have hd := digN_lo 99 c.toNat (by omega)
      have hd' := digN_hi 99 c.toNat (by omega)
      have hm : 0 ≤ n * (b : Int) := Int.mul_nonneg h0 (by omega)
      obtain ⟨m, rfl⟩ := Int.eq_ofNat_of_zero_le h0
      rw [Int.toNat_natCast] at h
      have hs : ((m : Int) * (b : Int) + digN 99 c.toNat).toNat < 4294967296 ^ (k + 1) := by
        have e : (m : Int) * (b : Int) = ((m * b : Nat) : Int) := (Int.natCast_mul m b).symm
        rw [e, Nat.pow_succ]
        have h2 : m * b ≤ (4294967296 ^ k - 1) * 4000000000 := Nat.mul_le_mul (by omega) hb
        have h3 : 0 < 4294967296 ^ k := Nat.pow_pos (by omega)
        omega
      have := ih _ (k + 1) (by omega) hs
      rw [List.length_cons, show k + (l.length + 1) = k + 1 + l.length by omega]
      exact this
  have := key l 0 0 (by omega) (by simp)
  rw [Nat.zero_add] at this
  exact this
theorem valN_take_lt (b : Nat) (hb : b ≤ 4000000000) (s : ByteArray) (k : Nat) : valN b (s.data.toList.take k) < 4294967296 ^ s.size := by
  refine Nat.lt_of_lt_of_le (valN_lt b hb _) (Nat.pow_le_pow_right (by omega) ?_)
  rw [List.length_take]
  have : s.data.toList.length = s.size := by simp
  omega
end Go.Proofs.YtpmccbkhkaoccaaGreatDoor

/- Digits and the number that they tell: plain. -/
namespace Go.Proofs.YtpmccbkhkaoccaaGreatDoor
open Go.RowKit

theorem fold_split (b : Int) (l : List UInt8) : ∀ n : Int, l.foldl (fun n c => n * b + digN 99 c.toNat) n = n * b ^ l.length + val b l := by
  induction l with
  | nil => intro n; simp [val]
  | cons c l ih =>
    intro n
    have e1 : val b (c :: l) = l.foldl (fun n c => n * b + digN 99 c.toNat) (0 * b + digN 99 c.toNat) := rfl
    rw [e1, ih, List.foldl_cons, ih, List.length_cons, Int.pow_succ, Int.zero_mul, Int.zero_add, Int.add_mul, Int.mul_assoc, Int.mul_comm b, Int.add_assoc]
theorem val_cons (b : Int) (c : UInt8) (l : List UInt8) : val b (c :: l) = digN 99 c.toNat * b ^ l.length + val b l := by
  have e1 : val b (c :: l) = l.foldl (fun n c => n * b + digN 99 c.toNat) (0 * b + digN 99 c.toNat) := rfl
  rw [e1, fold_split, Int.zero_mul, Int.zero_add]
theorem good_tail {b : Int} {c : UInt8} {l : List UInt8} (h : good b (c :: l)) : good b l := fun x hx => h x (List.mem_cons_of_mem _ hx)
theorem valN_cons (b : Nat) (c : UInt8) (l : List UInt8) : valN b (c :: l) = (digN 99 (c.toNat : Int)).toNat * b ^ l.length + valN b l := by
  have h := valN_cast b (c :: l)
  have hd := digN_lo 99 c.toNat (by omega)
  rw [val_cons, ← valN_cast b l, ← Int.toNat_of_nonneg hd, ← Int.natCast_pow, ← Int.natCast_mul, ← Int.natCast_add] at h
  exact Int.ofNat_inj.1 h
theorem valN_good_lt (b : Nat) (l : List UInt8) (hg : good (b : Int) l) : valN b l < b ^ l.length := by
  induction l with
  | nil => simp [valN, val]
  | cons c l ih =>
    have h1 := ih (good_tail hg)
    have h2 := hg c List.mem_cons_self
    have hd := digN_lo 99 c.toNat (by omega)
    rw [valN_cons, List.length_cons, Nat.pow_succ, Nat.mul_comm (b ^ l.length) b]
    have h3 : ((digN 99 (c.toNat : Int)).toNat + 1) * b ^ l.length ≤ b * b ^ l.length := Nat.mul_le_mul_right _ (by omega)
    rw [Nat.add_mul, Nat.one_mul] at h3
    omega
theorem valN_good_ge (b : Nat) (c : UInt8) (l : List UInt8) (h : digN 99 (c.toNat : Int) ≠ 0) : b ^ l.length ≤ valN b (c :: l) := by
  have hd := digN_lo 99 c.toNat (by omega)
  rw [valN_cons]
  have : 1 * b ^ l.length ≤ (digN 99 (c.toNat : Int)).toNat * b ^ l.length := Nat.mul_le_mul_right _ (by omega)
  omega
theorem digN_zero (c : UInt8) : digN 99 (c.toNat : Int) = 0 ↔ c.toNat = 48 := by
  unfold digN; split <;> (try split) <;> omega
theorem valN_zero (b : Nat) (c : UInt8) (l : List UInt8) (h : c.toNat = 48) : valN b (c :: l) = valN b l := by
  rw [valN_cons, (digN_zero c).2 h]; simp
theorem valN_nil (b : Nat) : valN b [] = 0 := by simp [valN, val]
/-- A text's first byte and the rest. -/
theorem text_cons (s : ByteArray) (h : 0 < s.size) : s.data.toList = s[0] :: (s.extract 1 s.size).data.toList := by
  have h1 : (s.extract 1 s.size).data.toList = s.data.toList.drop 1 := by
    rw [ByteArray.data_extract, Array.toList_extract, List.extract_eq_take_drop]
    apply List.take_of_length_le
    simp
  rw [h1]
  have h2 : 0 < s.data.toList.length := by simpa using h
  have h3 := List.drop_eq_getElem_cons (l := s.data.toList) (i := 0) h2
  rw [List.drop_zero] at h3
  exact h3
theorem extract_one (s : ByteArray) (h : 0 < s.size) : (s.extract 1 s.size).size + 1 = s.size := by
  have := congrArg List.length (text_cons s h)
  simp at this
  simp
  omega
end Go.Proofs.YtpmccbkhkaoccaaGreatDoor

/- Rounding where something lies below a number: it hangs on that alone; plain. -/
namespace Go.Proofs.YtpmccbkhkaoccaaGreatDoor
open Ieee

/-- The number with its lowest bit set: it stands for whatever lies between it and the next. -/
def oddOf (m : Nat) : Nat := m / 2 * 2 + 1
theorem odd_parts (M d : Nat) : M / 2 ^ (d + 1) = M / 2 / 2 ^ d ∧ M % 2 ^ (d + 1) = 2 * (M / 2 % 2 ^ d) + M % 2 := by
  have e1 : M / 2 ^ (d + 1) = M / 2 / 2 ^ d := by rw [Nat.pow_succ, Nat.mul_comm, ← Nat.div_div_eq_div_mul]
  refine ⟨e1, ?_⟩
  have h1 := Nat.div_add_mod M (2 ^ (d + 1))
  have h2 := Nat.div_add_mod (M / 2) (2 ^ d)
  rw [e1, Nat.pow_succ] at h1
  generalize M / 2 / 2 ^ d = q at *
  generalize M / 2 % 2 ^ d = r at *
  rw [Nat.pow_succ]
  generalize M % (2 ^ d * 2) = z at *
  have e3 : 2 ^ d * 2 * q = 2 * (2 ^ d * q) := by rw [Nat.mul_comm (2 ^ d) 2, Nat.mul_assoc]
  rw [e3] at h1
  generalize 2 ^ d * q = g at *
  omega
theorem odd_half (M : Nat) : oddOf M / 2 = M / 2 ∧ oddOf M % 2 = 1 := by unfold oddOf; omega
theorem odd_kept (M d : Nat) (hd : 2 ≤ d) : keptOf (oddOf M) d = if 2 ^ (d - 1) ≤ M % 2 ^ d then M / 2 ^ d + 1 else M / 2 ^ d := by
  obtain ⟨k, rfl⟩ : ∃ k, d = k + 2 := ⟨d - 2, by omega⟩
  unfold keptOf
  obtain ⟨a1, a2⟩ := odd_parts M (k + 1)
  obtain ⟨b1, b2⟩ := odd_parts (oddOf M) (k + 1)
  obtain ⟨c1, c2⟩ := odd_half M
  rw [show k + 2 = k + 1 + 1 from rfl, b1, b2, a1, a2, c1, c2, Nat.add_sub_cancel, Nat.pow_succ]
  generalize M / 2 / (2 ^ k * 2) = q at *
  generalize M / 2 % (2 ^ k * 2) = r at *
  generalize 2 ^ k = h at *
  by_cases hc : h * 2 ≤ 2 * r + M % 2
  · rw [if_pos (.inl (by omega)), if_pos hc]
  · rw [if_neg (by omega), if_neg hc]
/-- Rounding, as it is reckoned, for every number. -/
theorem cut_kept (s : Bool) (n d : Nat) (hn : 0 < n) (hd : 1 ≤ d) : Toward.even.cut s n d = keptOf n d := by
  obtain ⟨k, rfl⟩ : ∃ k, d = k + 1 := ⟨d - 1, by omega⟩
  have hlt : n < 2 ^ (n.log2 + 1) := Nat.lt_log2_self
  by_cases hl : k + 1 ≤ n.log2 + 2
  · unfold Toward.cut keptOf
    simp only [Nat.shiftLeft_eq, Nat.one_mul]
    rw [Nat.min_eq_left hl, Nat.add_sub_cancel]
    have hp : 2 ^ (k + 1) = 2 * 2 ^ k := by rw [Nat.pow_succ, Nat.mul_comm]
    rw [hp]
    generalize 2 ^ k = g at *
    by_cases hc : g < n % (2 * g) ∨ (n % (2 * g) = g ∧ n / (2 * g) % 2 = 1)
    · rw [if_pos hc]
      have : (decide (2 * g < 2 * (n % (2 * g))) || (2 * g == 2 * (n % (2 * g)) && n / (2 * g) % 2 == 1)) = true := by
        rcases hc with h | ⟨h1, h2⟩
        · rw [decide_eq_true (by omega), Bool.true_or]
        · rw [h1, h2]; simp
      rw [this]; rfl
    · rw [if_neg hc]
      have : (decide (2 * g < 2 * (n % (2 * g))) || (2 * g == 2 * (n % (2 * g)) && n / (2 * g) % 2 == 1)) = false := by
        rw [Bool.or_eq_false_iff]
        refine ⟨decide_eq_false (by omega), ?_⟩
        rw [Bool.and_eq_false_iff]
        by_cases h1 : n % (2 * g) = g
        · right
          have : ¬ n / (2 * g) % 2 = 1 := fun h => hc (.inr ⟨h1, h⟩)
          simpa using this
        · left
          rw [beq_eq_false_iff_ne]; omega
      rw [this]; rfl
  · have hk : 2 ^ (n.log2 + 1) ≤ 2 ^ k := Nat.pow_le_pow_right (by omega) (by omega)
    have hp : 2 ^ (k + 1) = 2 * 2 ^ k := by rw [Nat.pow_succ, Nat.mul_comm]
    have e0 : keptOf n (k + 1) = 0 := by
      unfold keptOf
      rw [Nat.add_sub_cancel, Nat.mod_eq_of_lt (by omega), Nat.div_eq_of_lt (by omega), if_neg (by omega)]
    rw [e0]
    unfold Toward.cut
    simp only [Nat.shiftLeft_eq, Nat.one_mul]
    rw [Nat.min_eq_right (by omega)]
    have hp2 : 2 ^ (n.log2 + 2) = 2 * 2 ^ (n.log2 + 1) := by rw [show n.log2 + 2 = n.log2 + 1 + 1 from rfl, Nat.pow_succ, Nat.mul_comm]
    rw [hp2]
    generalize 2 ^ (n.log2 + 1) = g at *
    have e1 : n / (2 * g) = 0 := Nat.div_eq_of_lt (by omega)
    have e2 : n % (2 * g) = n := Nat.mod_eq_of_lt (by omega)
    rw [e1, e2]
    have : (decide (2 * g < 2 * n) || (2 * g == 2 * n && 0 % 2 == 1)) = false := by
      rw [Bool.or_eq_false_iff]
      exact ⟨decide_eq_false (by omega), by simp⟩
    rw [this]; rfl
theorem odd_log2 (m : Nat) (h : 2 ≤ m) : (oddOf m).log2 = m.log2 ∧ (2 * m + 1).log2 = m.log2 + 1 := by
  have h1 : 2 ^ m.log2 ≤ m := Nat.log2_self_le (by omega)
  have h2 : m < 2 ^ (m.log2 + 1) := Nat.lt_log2_self
  obtain ⟨k, hk⟩ : ∃ k, m.log2 = k + 1 := by
    have : 1 ≤ m.log2 := (Nat.le_log2 (by omega)).2 (by simpa using h)
    exact ⟨m.log2 - 1, by omega⟩
  rw [hk] at h1 h2
  have e1 : 2 ^ (k + 1) = 2 * 2 ^ k := by rw [Nat.pow_succ, Nat.mul_comm]
  have e2 : 2 ^ (k + 1 + 1) = 2 * (2 * 2 ^ k) := by rw [Nat.pow_succ, e1, Nat.mul_comm]
  have e3 : 2 ^ (k + 1 + 1 + 1) = 2 * (2 * (2 * 2 ^ k)) := by rw [Nat.pow_succ, e2, Nat.mul_comm]
  rw [hk]
  constructor
  · rw [Nat.log2_eq_iff (by unfold oddOf; omega), e1, e2]
    rw [e1] at h1; rw [e2] at h2
    unfold oddOf
    generalize 2 ^ k = g at *
    omega
  · rw [Nat.log2_eq_iff (by omega), e2, e3]
    rw [e1] at h1; rw [e2] at h2
    generalize 2 ^ k = g at *
    omega
theorem odd_twice (m : Nat) : oddOf (2 * m) = 2 * m + 1 := by unfold oddOf; omega
/-- Something below a number of 55 digits or more: one place further down it is still that. -/
theorem fw_stick (s : Bool) (m : Nat) (p : Int) (h : 18014398509481984 ≤ m) : fw s (2 * m + 1) (p - 1) = fw s (oddOf m) p := by
  obtain ⟨l1, l2⟩ := odd_log2 m (by omega)
  have hL : 54 ≤ m.log2 := (Nat.le_log2 (by omega)).2 h
  unfold fw Format.nearest
  rw [if_neg (by omega), if_neg (by unfold oddOf; omega)]
  simp only [word_eq, infRung_eq, binade_eq, least_eq, frac_eq, l1, l2]
  generalize m.log2 = L at *
  have e1 : max (p - 1 + ((L + 1 : Nat) : Int) - ((52 : Nat) : Int)) (-1074) = max (p + (L : Int) - ((52 : Nat) : Int)) (-1074) := by omega
  rw [e1]
  generalize hl : max (p + (L : Int) - ((52 : Nat) : Int)) (-1074) = last at *
  obtain ⟨d, hd, hd2⟩ : ∃ d : Nat, last - p = d ∧ 2 ≤ d := ⟨(last - p).toNat, by omega, by omega⟩
  have f1 : (last - p).toNat = d := by omega
  have f2 : (last - (p - 1)).toNat = d + 1 := by omega
  have f3 : (p - last).toNat = 0 := by omega
  have f4 : (p - 1 - last).toNat = 0 := by omega
  rw [f1, f2, f3, f4, Nat.shiftLeft_zero, Nat.shiftLeft_zero, cut_kept s _ _ (by omega) (by omega), cut_kept s _ _ (by unfold oddOf; omega) (by omega), ← odd_twice, odd_kept _ _ (by omega), odd_kept _ _ (by omega)]
  have g1 := odd_parts (2 * m) d
  have g2 : 2 * m / 2 = m := by omega
  rw [g2] at g1
  rw [g1.1, g1.2, Nat.add_sub_cancel]
  obtain ⟨k, rfl⟩ : ∃ k, d = k + 1 := ⟨d - 1, by omega⟩
  rw [Nat.add_sub_cancel]
  have e2 : 2 ^ (k + 1) = 2 * 2 ^ k := by rw [Nat.pow_succ, Nat.mul_comm]
  generalize m / 2 ^ (k + 1) = q at *
  generalize m % 2 ^ (k + 1) = r at *
  rw [e2]
  generalize 2 ^ k = g at *
  have e3 : (2 * m) % 2 = 0 := by omega
  rw [e3]
  by_cases hc : g ≤ r
  · rw [if_pos (by omega), if_pos hc]
  · rw [if_neg (by omega), if_neg hc]
end Go.Proofs.YtpmccbkhkaoccaaGreatDoor

