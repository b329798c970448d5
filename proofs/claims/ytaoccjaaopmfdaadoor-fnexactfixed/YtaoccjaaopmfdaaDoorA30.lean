import Derived.Test.YtaoccjaaopmfdaaDoorA29
import Derived.Test.YtaoccjaaopmfdaaDoorA25
import Derived.Laws.Tables
import Derived.Deep.MidRow
import Derived.Deep.WholeRow
import Derived.Test.YtaoccjaaopmfdaaDoorA03
import Derived.Laws.MathBits
import Derived.Deep.RegionHeld3
/- A number in words, in memory. -/
namespace Go.Proofs.YtaoccjaaopmfdaaDoor
open Go.ChangeShapes Go.WideShapes Go.RowKit

/-- Of what was there nothing has turned but block B; there may be more. -/
def Mod (B : Nat) (w w' : World) : Prop := w'.os = w.os ∧ w'.tape = w.tape ∧ w'.output = w.output ∧ w.heap.size ≤ w'.heap.size ∧ ∀ k, k < w.heap.size → k ≠ B → w'.heap[k]? = w.heap[k]?
theorem Mod.refl (B : Nat) (w : World) : Mod B w w := ⟨rfl, rfl, rfl, Nat.le_refl _, fun _ _ _ => rfl⟩
theorem Mod.trans {B : Nat} {a b c : World} (h : Mod B a b) (k : Mod B b c) : Mod B a c :=
  ⟨k.1.trans h.1, k.2.1.trans h.2.1, k.2.2.1.trans h.2.2.1, Nat.le_trans h.2.2.2.1 k.2.2.2.1, fun i hi hb => (k.2.2.2.2 i (Nat.lt_of_lt_of_le hi h.2.2.2.1) hb).trans (h.2.2.2.2 i hi hb)⟩
theorem Mod.drewN {B : Nat} {a w : World} (h : Mod B a w) (n : Nat) : Mod B a (w.drewN n) := h.trans ⟨rfl, rfl, rfl, Nat.le_refl _, fun _ _ _ => rfl⟩
theorem Mod.setCell {B : Nat} {a w : World} (h : Mod B a w) (o : Nat) (u : Value) : Mod B a (w.setCell ⟨B, o, none⟩ u) :=
  h.trans ⟨rfl, rfl, rfl, by simp [World.setCell], fun k _ hk => Below.heap_setCell _ _ _ _ hk⟩
theorem Mod.alloc {B : Nat} {a w : World} (h : Mod B a w) (b : Obj) : Mod B a (w.alloc b) :=
  h.trans ⟨rfl, rfl, rfl, by simp, fun k hk _ => Below.heap_alloc _ _ _ hk⟩
theorem Mod.cell {B : Nat} {w w' : World} (h : Mod B w w') {p : Addr} (hp : p.block ≠ B) (hl : p.block < w.heap.size) : w'.cell? p = w.cell? p := World.cell?_of_block (w := w) (h.2.2.2.2 p.block hl hp)
theorem Mod.frozen {B : Nat} {w w' : World} (h : Mod B w w') {p : Addr} (hp : p.block ≠ B) (hl : p.block < w.heap.size) : w'.frozen? p = w.frozen? p := World.frozen?_of_block (w := w) (h.2.2.2.2 p.block hl hp)
theorem Mod.below {B C : Nat} {w w' : World} (h : Mod B w w') (hC : C ≤ B) (hl : C ≤ w.heap.size) : Below C w w' :=
  ⟨h.1, h.2.1, h.2.2.1, h.2.2.2.1, fun k hk => h.2.2.2.2 k (by omega) (by omega)⟩
theorem Mod.size {B : Nat} {w w' : World} (h : Mod B w w') : w.heap.size ≤ w'.heap.size := h.2.2.2.1
theorem Mod.of_below {B : Nat} {w w' : World} (h : Below w.heap.size w w') : Mod B w w' := ⟨h.os, h.tape, h.output, h.size, fun k hk _ => h.block k hk⟩
theorem Mod.of_only {B : Nat} {w w' : World} (h : Only B w w') : Mod B w w' := ⟨h.1, h.2.1, h.2.2.1, by rw [h.2.2.2.1]; exact Nat.le_refl _, fun k _ hb => h.2.2.2.2 k hb⟩

/-- The cells of a number: the count, 151 words. -/
def lgL (c : Nat) (f : Nat → Nat) : List Value := .int .i64 (c : Int) :: (List.range 151).map fun i => .int .u32 (f i : Int)
theorem lgL_length (c : Nat) (f : Nat → Nat) : (lgL c f).length = 152 := by simp [lgL]
def blk (c : Nat) (f : Nat → Nat) (R : List Value) : Array Value := (lgL c f ++ R).toArray
def upd (f : Nat → Nat) (i v : Nat) : Nat → Nat := fun j => if j = i then v else f j
theorem blk_get0 (c : Nat) (f : Nat → Nat) (R : List Value) : (blk c f R)[0]? = some (.int .i64 (c : Int)) := by simp [blk, lgL]
theorem lgL_get (c : Nat) (f : Nat → Nat) (i : Nat) (h : i < 151) : (lgL c f)[i + 1]? = some (.int .u32 (f i : Int)) := by
  unfold lgL
  rw [List.getElem?_cons_succ, List.getElem?_map, List.getElem?_range h]; rfl
theorem blk_get (c : Nat) (f : Nat → Nat) (R : List Value) (i : Nat) (h : i < 151) : (blk c f R)[i + 1]? = some (.int .u32 (f i : Int)) := by
  unfold blk
  rw [List.getElem?_toArray, List.getElem?_append_left (by rw [lgL_length]; omega), lgL_get c f i h]
theorem blk_tail (c : Nat) (f : Nat → Nat) (R : List Value) (j : Nat) : (blk c f R)[152 + j]? = R[j]? := by
  unfold blk
  rw [List.getElem?_toArray, List.getElem?_append_right (by rw [lgL_length]; omega), lgL_length, Nat.add_sub_cancel_left]
theorem blk_set0 (c c' : Nat) (f : Nat → Nat) (R : List Value) : (blk c f R).setIfInBounds 0 (.int .i64 (c' : Int)) = blk c' f R := by
  unfold blk
  rw [List.setIfInBounds_toArray]; rfl
theorem lgL_set (c : Nat) (f : Nat → Nat) (i v : Nat) : (lgL c f).set (i + 1) (.int .u32 (v : Int)) = lgL c (upd f i v) := by
  unfold lgL
  rw [List.set_cons_succ]
  congr 1
  apply List.ext_getElem
  · simp
  · intro j h1 h2
    rw [List.getElem_set]
    by_cases hj : i = j
    · subst hj; simp [upd]
    · rw [if_neg hj]; simp [upd, show ¬ j = i by omega]
theorem blk_set (c : Nat) (f : Nat → Nat) (R : List Value) (i v : Nat) (h : i < 151) : (blk c f R).setIfInBounds (i + 1) (.int .u32 (v : Int)) = blk c (upd f i v) R := by
  unfold blk
  rw [List.setIfInBounds_toArray, List.set_append_left _ _ (by rw [lgL_length]; omega), lgL_set c f i v]
theorem blk_setT (c : Nat) (f : Nat → Nat) (x y : Value) : (blk c f [x]).setIfInBounds 152 y = blk c f [y] := by
  unfold blk
  rw [List.setIfInBounds_toArray, List.set_append_right _ _ (by rw [lgL_length]; omega), lgL_length]; rfl
theorem lgL_congr (c : Nat) (f g : Nat → Nat) (h : ∀ i, i < 151 → f i = g i) : lgL c f = lgL c g := by
  unfold lgL
  congr 1
  apply List.map_congr_left
  intro i hi
  rw [h i (List.mem_range.1 hi)]
theorem blk_congr (c : Nat) (f g : Nat → Nat) (R : List Value) (h : ∀ i, i < 151 → f i = g i) : blk c f R = blk c g R := by unfold blk; rw [lgL_congr c f g h]
theorem blk_size (c : Nat) (f : Nat → Nat) (R : List Value) : (blk c f R).size = 152 + R.length := by simp [blk, lgL_length]

/-- A number's words lie in block B. -/
def LB (w : World) (B c : Nat) (f : Nat → Nat) (R : List Value) (t : TypeId) : Prop := w.heap[B]? = some (.cells (blk c f R) t (0, 0))
theorem cell_of_heap {w : World} {B : Nat} {cs : Array Value} {t : TypeId} (h : w.heap[B]? = some (.cells cs t (0, 0))) (o : Nat) : w.cell? ⟨B, o, none⟩ = cs[o]? := by simp [World.cell?, h]
theorem frozen_of_heap {w : World} {B : Nat} {cs : Array Value} {t : TypeId} (h : w.heap[B]? = some (.cells cs t (0, 0))) (o : Nat) : w.frozen? ⟨B, o, none⟩ = false := by simp [World.frozen?, h]
theorem LB.cnt {w : World} {B c : Nat} {f : Nat → Nat} {R : List Value} {t : TypeId} (h : LB w B c f R t) : w.cell? ⟨B, 0, none⟩ = some (.int .i64 (c : Int)) := by rw [cell_of_heap h, blk_get0]
theorem LB.wrd {w : World} {B c : Nat} {f : Nat → Nat} {R : List Value} {t : TypeId} (h : LB w B c f R t) (i : Nat) (hi : i < 151) : w.cell? ⟨B, i + 1, none⟩ = some (.int .u32 (f i : Int)) := by rw [cell_of_heap h, blk_get c f R i hi]
theorem LB.wrd' {w : World} {B c : Nat} {f : Nat → Nat} {R : List Value} {t : TypeId} (h : LB w B c f R t) (i : Nat) (hi : i < 151) : w.cell? ⟨B, 1 + i, none⟩ = some (.int .u32 (f i : Int)) := by rw [Nat.add_comm]; exact h.wrd i hi
theorem LB.froz {w : World} {B c : Nat} {f : Nat → Nat} {R : List Value} {t : TypeId} (h : LB w B c f R t) (o : Nat) : w.frozen? ⟨B, o, none⟩ = false := frozen_of_heap h o
theorem LB.lt {w : World} {B c : Nat} {f : Nat → Nat} {R : List Value} {t : TypeId} (h : LB w B c f R t) : B < w.heap.size := (Array.getElem?_eq_some_iff.1 h).1
theorem LB.setw {w : World} {B c : Nat} {f : Nat → Nat} {R : List Value} {t : TypeId} (h : LB w B c f R t) (i v : Nat) (hi : i < 151) : LB (w.setCell ⟨B, i + 1, none⟩ (.int .u32 (v : Int))) B c (upd f i v) R t := by
  unfold LB
  rw [setCell_eq_setRow w B (i + 1) _ t (0, 0) _ h, blk_set c f R i v hi]
  exact setRow_heap w B _ _ t (0, 0) h
theorem LB.setw' {w : World} {B c : Nat} {f : Nat → Nat} {R : List Value} {t : TypeId} (h : LB w B c f R t) (i v : Nat) (hi : i < 151) : LB (w.setCell ⟨B, 1 + i, none⟩ (.int .u32 (v : Int))) B c (upd f i v) R t := by rw [Nat.add_comm]; exact h.setw i v hi
theorem LB.setc {w : World} {B c : Nat} {f : Nat → Nat} {R : List Value} {t : TypeId} (h : LB w B c f R t) (c' : Nat) : LB (w.setCell ⟨B, 0, none⟩ (.int .i64 (c' : Int))) B c' f R t := by
  unfold LB
  rw [setCell_eq_setRow w B 0 _ t (0, 0) _ h, blk_set0]
  exact setRow_heap w B _ _ t (0, 0) h
theorem LB.congr {w : World} {B c : Nat} {f : Nat → Nat} {R : List Value} {t : TypeId} (h : LB w B c f R t) (g : Nat → Nat) (hg : ∀ i, i < 151 → f i = g i) : LB w B c g R t := by
  unfold LB; rw [← blk_congr c f g R hg]; exact h
theorem LB.other {w w' : World} {B B' c : Nat} {f : Nat → Nat} {R : List Value} {t : TypeId} (h : LB w B c f R t) (hm : Mod B' w w') (hB : B ≠ B') : LB w' B c f R t := (hm.2.2.2.2 B h.lt hB).trans h
theorem LB.drewN {w : World} {B c : Nat} {f : Nat → Nat} {R : List Value} {t : TypeId} (h : LB w B c f R t) (n : Nat) : LB (w.drewN n) B c f R t := h
theorem LB.alloc {w : World} {B c : Nat} {f : Nat → Nat} {R : List Value} {t : TypeId} (h : LB w B c f R t) (b : Obj) : LB (w.alloc b) B c f R t := by
  have hl := h.lt
  unfold LB at *
  rw [Below.heap_alloc _ _ _ hl]; exact h
theorem LB.new (w : World) (c : Nat) (f : Nat → Nat) (R : List Value) (t : TypeId) : LB (w.alloc (.cells (blk c f R) t)) w.heap.size c f R t :=
  heap_alloc_last w _
/-- A number N: its own words and their count. -/
def Lg (w : World) (B N : Nat) (R : List Value) (t : TypeId) : Prop := ∃ c, c ≤ 151 ∧ cntOk c N ∧ LB w B c (dg N) R t
theorem Lg.lt {w : World} {B N : Nat} {R : List Value} {t : TypeId} (h : Lg w B N R t) : B < w.heap.size := by obtain ⟨_, _, _, h⟩ := h; exact h.lt
theorem Lg.other {w w' : World} {B B' N : Nat} {R : List Value} {t : TypeId} (h : Lg w B N R t) (hm : Mod B' w w') (hB : B ≠ B') : Lg w' B N R t := by
  obtain ⟨c, h1, h2, h3⟩ := h; exact ⟨c, h1, h2, h3.other hm hB⟩
/-- The value of a number. -/
def lgV (c N : Nat) : Value := .agg (lgL c (dg N)).toArray
end Go.Proofs.YtaoccjaaopmfdaaDoor

/- bits.Len64: the number of digits. -/
namespace Go.Proofs.YtaoccjaaopmfdaaDoor
open Go.ChangeShapes Go.WideShapes Go.RowKit
open Ieee (double)

theorem len_close (x y : Int) (k b : Nat) (hk : k ≤ 56) (hy : y.toNat = x.toNat / 2 ^ k) (h256 : y.toNat < 256) (hp : k = 0 ∨ 0 < y) (hb : b = bitLen y.toNat) : wrap64 ((k : Int) + wrap64 (b : Int)) = (bitLen x.toNat : Int) := by
  have h8 := bitLen_le8 y.toNat h256
  have e : bitLen x.toNat = k + bitLen y.toNat := by
    rcases hp with rfl | hp
    · rw [hy, Nat.pow_zero, Nat.div_one, Nat.zero_add]
    · rw [hy]; exact bitLen_shift x.toNat k (by omega)
  rw [e, hb]
  generalize bitLen y.toNat = L at *
  unfold wrap64
  omega
theorem len_zero (x : Int) (b : Nat) (h256 : x.toNat < 256) (hb : b = bitLen x.toNat) : wrap64 (b : Int) = (bitLen x.toNat : Int) := by
  have h8 := bitLen_le8 x.toNat h256
  rw [hb]; unfold wrap64; omega
theorem len_zero' (x : Int) (b : Nat) (h256 : x.toNat < 256) (hb : b = bitLen x.toNat) : wrap64 (wrap64 (b : Int)) = (bitLen x.toNat : Int) := by
  have h8 := bitLen_le8 x.toNat h256
  rw [hb]; unfold wrap64; omega
set_option maxHeartbeats 1000000 in
set_option maxRecDepth 100000 in
theorem len64_any (x : Int) (h0 : 0 ≤ x) (h1 : x < 18446744073709551616) (w : World) :
    Calls Tryd.prog 62 #[.int .u64 x] w fun e w' => e = .returned (.int .i64 (bitLen x.toNat)) ∧ w' = w := by
  go_enter Tryd.func62, Tryd.ntmps62
  go_wp2
  all_goals go_ret
  all_goals refine ⟨congrArg (fun t => Ending.returned (.int .i64 t)) ?_, rfl⟩
  · exact len_close x (x / 4294967296 / 65536 / 256) 56 _ (by omega) (by omega) (by omega) (by omega) (len8tab_get _ _)
  · exact len_close x (x / 4294967296 / 65536) 48 _ (by omega) (by omega) (by omega) (by omega) (len8tab_get _ _)
  · exact len_close x (x / 4294967296 / 256) 40 _ (by omega) (by omega) (by omega) (by omega) (len8tab_get _ _)
  · exact len_close x (x / 4294967296) 32 _ (by omega) (by omega) (by omega) (by omega) (len8tab_get _ _)
  · exact len_close x (x / 65536 / 256) 24 _ (by omega) (by omega) (by omega) (by omega) (len8tab_get _ _)
  · exact len_close x (x / 65536) 16 _ (by omega) (by omega) (by omega) (by omega) (len8tab_get _ _)
  · exact len_close x (x / 256) 8 _ (by omega) (by omega) (by omega) (by omega) (len8tab_get _ _)
  · first | exact len_zero x _ (by omega) (len8tab_get _ _) | exact len_zero' x _ (by omega) (len8tab_get _ _)
end Go.Proofs.YtaoccjaaopmfdaaDoor

/- width, wordAt, multiply of the program's numbers. -/
namespace Go.Proofs.YtaoccjaaopmfdaaDoor
open Go.ChangeShapes Go.WideShapes Go.RowKit

theorem width_any (v : Value) (w : World) : Calls Tryd.prog 55 #[v] w fun e w' => e = .returned (.int .i64 32) ∧ w' = w := by
  have HL : Hid _ := fun w => len64_any 4294967295 (by omega) (by omega) w
  have hb : bitLen (Int.toNat 4294967295) = 32 := by decide
  rw [hb] at HL
  go_enter Tryd.func55, Tryd.ntmps55
  go_wp2_with (go_at_call 62; refine (HL.out _).mono ?_; rintro e w' ⟨rfl, rfl⟩)
  go_ret
  exact ⟨rfl, rfl⟩
set_option maxRecDepth 100000 in
theorem wordAt_any (B c : Nat) (f : Nat → Nat) (R : List Value) (t : TypeId) (w : World) (h : LB w B c f R t) (i : Int) (hi : i < 151) :
    Calls Tryd.prog 56 #[.pointer (some ⟨B, 0, none⟩), .int .i64 i] w fun e w' => e = .returned (.int .u32 (if i < 0 then 0 else (f i.toNat : Int))) ∧ w' = w := by
  by_cases h0 : i < 0
  · rw [if_pos h0]
    clear h
    go_enter Tryd.func56, Tryd.ntmps56
    go_wp2
    go_ret
    exact ⟨rfl, rfl⟩
  · rw [if_neg h0]
    obtain ⟨k, rfl⟩ : ∃ k : Nat, i = (k : Int) := ⟨i.toNat, by omega⟩
    have hw := h.wrd' k (by omega)
    clear h h0
    go_enter Tryd.func56, Tryd.ntmps56
    go_wp2
    go_ret
    exact ⟨rfl, rfl⟩

/-- The words while a number is multiplied: the first i are done. -/
def wmid (N M i : Nat) : Nat → Nat := fun j => if j < i then dg M j else dg N j
theorem wmid_zero (N M : Nat) : wmid N M 0 = dg N := rfl
theorem wmid_at (N M i : Nat) : wmid N M i i = dg N i := by unfold wmid; rw [if_neg (by omega)]
theorem wmid_step (N M i : Nat) : upd (wmid N M i) i (dg M i) = wmid N M (i + 1) := by
  funext j
  unfold upd wmid
  by_cases h : j = i
  · subst h; rw [if_pos rfl, if_pos (by omega)]
  · rw [if_neg h]
    by_cases h' : j < i
    · rw [if_pos h', if_pos (by omega)]
    · rw [if_neg h', if_neg (by omega)]
theorem wmid_end (N M c : Nat) (hN : N < be ^ c) (hM : M < be ^ c) (j : Nat) : wmid N M c j = dg M j := by
  unfold wmid
  by_cases h : j < c
  · rw [if_pos h]
  · rw [if_neg h, dg_above N j c hN (by omega), dg_above M j c hM (by omega)]
set_option maxHeartbeats 1000000 in
set_option maxRecDepth 100000 in
theorem mul_any (B N F a : Nat) (R : List Value) (t : TypeId) (w : World) (h : Lg w B N R t) (hF1 : 1 ≤ F) (hF : F ≤ 16) (ha : a ≤ 9007199254740992) (hN : N * F + a < be ^ 151) :
    Calls Tryd.prog 54 #[.pointer (some ⟨B, 0, none⟩), .int .u64 (F : Int), .int .u64 (a : Int)] w fun e w' => e = .returned (.tuple #[]) ∧ Mod B w w' ∧ Lg w' B (N * F + a) R t := by
  obtain ⟨c, hc, hk, hl⟩ := h
  obtain ⟨M, hM⟩ : ∃ M, N * F + a = M := ⟨_, rfl⟩
  have HM : Hid (N * F + a = M) := hM
  have HMB : Hid (M < be ^ 151) := by rw [← hM]; exact hN
  rw [hM]
  clear hM hN
  have HW : Hid _ := fun v w => width_any v w
  have HK : Hid (cntOk c N) := hk
  have HL : Hid (LB w B c (dg N) R t) := hl
  have hcnt := hl.cnt
  clear hk hl
  go_enter Tryd.func54, Tryd.ntmps54
  go_wp2
  go_loopw [6, 13] (fun cv iv wl => ∃ (i u : Nat), iv = .int .i64 (i : Int) ∧ cv = .int .u64 (u : Int) ∧ i ≤ c ∧ u ≤ 9007199254741100 ∧ Hid (car N F a i = u) ∧ Hid (LB wl B c (wmid N M i) R t) ∧ Hid (Mod B w wl)) (fun _ iv _ => c - (intOf iv).toNat)
  case atStart => exact ⟨0, a, rfl, rfl, Nat.zero_le _, by omega, car_zero N F a, HL.out, Mod.refl B w⟩
  case round =>
    clear hcnt
    obtain ⟨i, u, rfl, rfl, hi, hu, HU, HB, HMd⟩ := hrel
    by_cases hlt : i < c
    · have hlt' : (i : Int) < (c : Int) := by omega
      obtain ⟨d, hd⟩ : ∃ d, dg N i = d := ⟨_, rfl⟩
      have hd1 : d < 4294967296 := by rw [← hd]; exact dg_lt _ _
      have hw := HB.out.wrd' i (by omega)
      rw [wmid_at, hd] at hw
      have hfr := HB.out.froz (1 + i)
      have HD : Hid (dg N i = d) := hd
      obtain ⟨p, hp⟩ : ∃ p : Int, (d : Int) * (F : Int) = p := ⟨_, rfl⟩
      have hp0 : 0 ≤ p := by rw [← hp]; exact Int.mul_nonneg (by omega) (by omega)
      have hp1 : p ≤ 68719476720 := by
        rw [← hp]
        have : (d : Int) * F ≤ 4294967295 * 16 := Int.mul_le_mul (by omega) (by omega) (by omega) (by omega)
        omega
      clear hd
      go_wp2_with (go_at_call 55; refine (HW.out _ _).mono ?_; rintro e w' ⟨rfl, rfl⟩)
      have ev : ((u : Int) + p) % 4294967296 = ((dg M i : Nat) : Int) := by
        rw [← HM.out, ← car_word, HU.out, HD.out, ← hp, be_eq]; omega
      have ec : ((u : Int) + p) / 4294967296 = ((car N F a (i + 1) : Nat) : Int) := by
        rw [← car_next, HU.out, HD.out, ← hp, be_eq]; omega
      rw [ev, ec]
      refine ⟨⟨i + 1, car N F a (i + 1), rfl, rfl, by omega, by have := car_le N F a (i + 1); omega, rfl, ?_, HMd.out.setCell _ _⟩, ?_⟩
      · have := HB.out.setw' i (dg M i) (by omega)
        rw [wmid_step] at this; exact this
      · show c - ((i : Int) + 1).toNat < c - (i : Int).toNat; omega
    · have hlt' : decide ((i : Int) < (c : Int)) = false := decide_eq_false (by omega)
      obtain rfl : i = c := by omega
      go_wp2
      go_loopw [6] (fun cv wl => ∃ (k v : Nat), cv = .int .u64 (v : Int) ∧ v ≤ 9007199254741100 ∧ Hid (M / be ^ k = v) ∧ k ≤ 151 ∧ Hid (0 < k → be ^ (k - 1) ≤ M) ∧ Hid (N < be ^ k) ∧ Hid (LB wl B k (wmid N M k) R t) ∧ Hid (Mod B w wl)) (fun cv _ => (intOf cv).toNat)
      case atStart => 
        refine ⟨i, u, rfl, hu, ?_, hc, ?_, HK.out.1, HB.out, HMd.out⟩
        · rw [← HM.out, ← car_end N F a i HK.out.1]; exact HU.out
        · intro h0
          have h1 := HK.out.2 h0
          have h2 : N * 1 ≤ N * F := Nat.mul_le_mul_left _ hF1
          rw [← HM.out]; omega
      case round =>
        clear HU HB HMd hi hu hlt hlt'
        obtain ⟨k, v, rfl, hv, HV, hk, HG, HN, HB, HMd⟩ := hrel
        by_cases h0 : 0 < v
        · have h0' : (0 : Int) < (v : Int) := by omega
          have hk1 : k < 151 := by
            rcases Nat.lt_or_ge k 151 with h | h
            · exact h
            · have : M < be ^ k := Nat.lt_of_lt_of_le HMB.out (bpow_le h)
              have := HV.out; rw [Nat.div_eq_of_lt (by assumption)] at this; omega
          have hk2 : (k : Int) < 151 := by omega
          have hcnt := HB.out.cnt
          have hw := HB.out.wrd' k hk1
          have hfr := HB.out.froz (1 + k)
          have hfr0 := HB.out.froz 0
          go_wp2_with (go_at_call 55; refine (HW.out _ _).mono ?_; rintro e w' ⟨rfl, rfl⟩)
          go_region
          all_goals go_wp2_with (go_at_call 55; refine (HW.out _ _).mono ?_; rintro e w' ⟨rfl, rfl⟩)
          all_goals
            have hdv : (v : Int) % 4294967296 = ((dg M k : Nat) : Int) := by unfold dg; rw [HV.out, be_eq]; omega
            have hcar : (v : Int) / 4294967296 = ((v / 4294967296 : Nat) : Int) := by omega
            rw [hdv, hcar]
            refine ⟨⟨k + 1, v / 4294967296, rfl, by omega, ?_, by omega, fun _ => ?_, Nat.lt_of_lt_of_le HN.out (bpow_le (by omega)), ?_, (HMd.out.setCell _ _).setCell _ _⟩, ?_⟩
            · show M / be ^ (k + 1) = v / 4294967296
              rw [Nat.pow_succ, ← Nat.div_div_eq_div_mul, HV.out]
              rfl
            · show be ^ (k + 1 - 1) ≤ M
              rw [Nat.add_sub_cancel]
              rcases Nat.lt_or_ge M (be ^ k) with h | h
              · have := HV.out; rw [Nat.div_eq_of_lt h] at this; omega
              · exact h
            · have h1 := (HB.out.setw' k (dg M k) hk1)
              rw [wmid_step] at h1
              exact h1.setc (k + 1)
            · show ((v / 4294967296 : Nat) : Int).toNat < (v : Int).toNat; omega
        · have h0' : decide ((0 : Int) < (v : Int)) = false := decide_eq_false (by omega)
          go_wp2
          go_end0
          refine ⟨rfl, HMd.out, k, hk, ⟨?_, HG.out⟩, HB.out.congr _ fun j _ => wmid_end N M k HN.out ?_ j⟩
          all_goals
            have hv0 : v = 0 := by omega
            have := HV.out
            rcases Nat.lt_or_ge M (be ^ k) with h | h
            · exact h
            · have := Nat.div_pos h (bpow_pos k); omega
end Go.Proofs.YtaoccjaaopmfdaaDoor

