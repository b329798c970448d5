import Derived.WalkKit
import Derived.Lib.Strings
import Derived.Test.YtaoccjaaopmfdaaDoorRows
import Derived.WalkSpells
import Derived.WalkLawsBesides
import Derived.Outline
import Derived.BigQuiet
import Derived.Deep.QuietTactic
import Derived.Laws.IdiomStrings
/- Digits written, as plain functions; no program is spoken of here. -/
namespace Go.Proofs.YtaoccjaaopmfdaaDoor
open Go.RowKit

/-- The byte of a digit. -/
def dch (d : Nat) : UInt8 := if d < 10 then UInt8.ofNat (48 + d) else UInt8.ofNat (87 + d)
/-- The digits of n in a base ahead of what is written already; the first number bounds how many. -/
def wr : Nat → Nat → Nat → List UInt8 → List UInt8
  | 0, _, _, acc => acc
  | f + 1, b, n, acc => if n = 0 then acc else wr f b (n / b) (dch (n % b) :: acc)
/-- A number's text. -/
def textOf (b n : Nat) : List UInt8 := wr 63 b (n / b) [dch (n % b)]
theorem wr_zero (f b : Nat) (acc : List UInt8) : wr f b 0 acc = acc := by cases f <;> simp [wr]
theorem wr_step (f b n : Nat) (acc : List UInt8) (hn : 0 < n) (hf : n < 2 ^ f) : ∃ g, f = g + 1 ∧ wr f b n acc = wr g b (n / b) (dch (n % b) :: acc) := by
  cases f with
  | zero => simp at hf; omega
  | succ g => exact ⟨g, rfl, by simp [wr]; omega⟩
theorem wr_bound (g b n : Nat) (hb : 2 ≤ b) (hf : n < 2 ^ (g + 1)) : n / b < 2 ^ g := by
  rw [Nat.div_lt_iff_lt_mul (by omega)]
  have h1 : 2 ^ g * 2 ≤ 2 ^ g * b := Nat.mul_le_mul_left _ hb
  rw [Nat.pow_succ] at hf
  omega
theorem wr_length (b : Nat) : ∀ (f n : Nat) (acc : List UInt8), (wr f b n acc).length ≤ acc.length + f := by
  intro f
  induction f with
  | zero => intro n acc; exact Nat.le_refl _
  | succ f ih =>
    intro n acc
    unfold wr
    split
    · omega
    · have := ih (n / b) (dch (n % b) :: acc)
      simp at this
      omega
theorem textOf_length (b n : Nat) : (textOf b n).length ≤ 64 := wr_length b 63 _ _
theorem textOf_pos (b n : Nat) (hn : 0 < n) : wr 64 b n [] = textOf b n := by
  have e : (64 : Nat) = 63 + 1 := rfl
  rw [e]; unfold wr; rw [if_neg (by omega)]; rfl
theorem textOf_zero (b : Nat) : textOf b 0 = [48] := by
  unfold textOf; rw [Nat.zero_div, wr_zero, Nat.zero_mod]; rfl
def digitText : ByteArray := ⟨#[48, 49, 50, 51, 52, 53, 54, 55, 56, 57, 97, 98, 99, 100, 101, 102, 103, 104, 105, 106, 107, 108, 109, 110, 111, 112, 113, 114, 115, 116, 117, 118, 119, 120, 121, 122]⟩
theorem digitText_all : ∀ d : Fin 36, ((digitText.data.toList.drop d.val).take 1) = [dch d.val] := by decide
theorem digitText_at (d : Nat) (h : d < 36) : digitText.extract d (d + 1) = ⟨#[dch d]⟩ := by
  rw [Lib.extract_eq, show d + 1 - d = 1 by omega, digitText_all ⟨d, h⟩]
theorem mod_lo (m b : Nat) : 0 ≤ (m : Int) % (b : Int) := by rw [← Int.natCast_emod]; omega
theorem mod_hi (m b : Nat) (h2 : 2 ≤ b) (h36 : b ≤ 36) : (m : Int) % (b : Int) < 36 := by
  have := Int.emod_lt_of_pos (m : Int) (b := (b : Int)) (by omega); omega
theorem div_lo (m b : Nat) : 0 ≤ (m : Int) / (b : Int) := by rw [← Int.natCast_ediv]; exact Int.natCast_nonneg _
theorem div_hi (m b : Nat) : (m : Int) / (b : Int) ≤ m := by rw [← Int.natCast_ediv]; exact Int.ofNat_le.2 (Nat.div_le_self m b)
theorem div_less (m b : Nat) (h : 0 < m) (h2 : 2 ≤ b) : m / b < m := Nat.div_lt_self h (by omega)
theorem push_front (c : UInt8) (l : List UInt8) : (⟨#[c]⟩ : ByteArray) ++ ⟨l.toArray⟩ = ⟨(c :: l).toArray⟩ := by
  apply ByteArray.ext
  rw [ByteArray.data_append]
  simp
end Go.Proofs.YtaoccjaaopmfdaaDoor

namespace Go.Proofs.YtaoccjaaopmfdaaDoor
open Go.ChangeShapes Go.WideShapes Go.RowKit

set_option maxHeartbeats 400000 in
theorem specDigits_any (n b : Nat) (w : World) (hn : n < 18446744073709551616) (h2 : 2 ≤ b) (h36 : b ≤ 36) :
    Calls Tryd.prog 48 #[.int .u64 n, .int .i64 b] w fun e w' => e = .returned (.string ⟨(textOf b n).toArray⟩) ∧ w' = w := by
  by_cases hz : n = 0
  · subst hz
    rw [textOf_zero b]
    go_enter Tryd.func48, Tryd.ntmps48
    go_wp2
    go_ret
    exact ⟨rfl, rfl⟩
  · have hb : ((n : Int) == 0) = false := beq_eq_false_iff_ne.2 (by omega)
    go_enter Tryd.func48, Tryd.ntmps48
    go_wp2
    go_loop [0, 6] (fun t o => ∃ (m f : Nat) (acc : List UInt8), t = .int .u64 m ∧ o = .string ⟨acc.toArray⟩ ∧ m < 18446744073709551616 ∧ Hid (m < 2 ^ f) ∧ Hid (wr f b m acc = wr 64 b n []) ∧ acc.length + f = 64) (fun t _ => (intOf t).toNat)
    case atStart => exact ⟨n, 64, [], rfl, rfl, hn, by show n < 2 ^ 64; omega, rfl, rfl⟩
    case round =>
      obtain ⟨m, f, acc, rfl, rfl, hm, HF, HW, hl⟩ := hrel
      by_cases hlt : 0 < m
      · obtain ⟨g, rfl, hg⟩ := wr_step f b m acc hlt HF.out
        have HG : Hid (m / b < 2 ^ g) := wr_bound g b m h2 HF.out
        have HW2 : Hid (wr g b (m / b) (dch (m % b) :: acc) = wr 64 b n []) := hg.symm.trans HW.out
        have HX : Hid _ := digitText_at (m % b) (Nat.lt_of_lt_of_le (Nat.mod_lt m (by omega)) h36)
        have hr0 := mod_lo m b
        have hr1 := mod_hi m b h2 h36
        have hq0 := div_lo m b
        have hq1 := div_hi m b
        clear hg
        go_wp2
        have e := HX.out
        unfold digitText at e
        rw [e, push_front, ← Int.natCast_ediv]
        have hless := div_less m b hlt h2
        exact ⟨⟨m / b, g, _, rfl, rfl, by omega, HG, HW2, by simp; omega⟩, by show Int.toNat ((m / b : Nat) : Int) < Int.toNat (m : Int); rw [Int.toNat_natCast, Int.toNat_natCast]; exact hless⟩
      · have HE : Hid (textOf b n = acc) := by
          have h0 : m = 0 := by omega
          have := HW.out
          rw [h0, wr_zero] at this
          exact (textOf_pos b n (by omega)).symm.trans this.symm
        go_wp2
        go_ret
        exact ⟨by rw [HE.out]; rfl, rfl⟩
end Go.Proofs.YtaoccjaaopmfdaaDoor

/- The program's writer of digits: an array filled from its end. -/
namespace Go.Proofs.YtaoccjaaopmfdaaDoor
open Go.ChangeShapes Go.WideShapes Go.RowKit

/-- The table of digits lies in its variable. -/
def Tab (w : World) : Prop := ∀ i : Nat, i < 36 → w.cell? ⟨1, i, none⟩ = some (.int .u8 (dch i).toNat)
/-- The array, its end written. -/
def arr (acc : List UInt8) : List Value := List.replicate (64 - acc.length) (.int .u8 0) ++ acc.map fun c => .int .u8 (c.toNat : Int)
theorem arr_length (acc : List UInt8) (h : acc.length ≤ 64) : (arr acc).length = 64 := by simp [arr]; omega
theorem arr_nil : arr [] = List.replicate 64 (.int .u8 0) := by simp [arr]
theorem arr_set (acc : List UInt8) (c : UInt8) (h : acc.length < 64) : (arr acc).set (64 - acc.length - 1) (.int .u8 (c.toNat : Int)) = arr (c :: acc) := by
  rw [show 64 - acc.length - 1 = 63 - acc.length by omega]
  unfold arr
  rw [List.set_append_left _ _ (by simp; omega)]
  have e : 64 - acc.length = (63 - acc.length) + 1 := by omega
  rw [e, List.replicate_succ', List.set_append_right _ _ (by simp)]
  simp [show 64 - (acc.length + 1) = 63 - acc.length by omega]
theorem arr_free (acc : List UInt8) (h : acc.length < 64) : (arr acc)[64 - acc.length - 1]? = some (.int .u8 0) := by
  unfold arr
  rw [List.getElem?_append_left (by simp; omega), List.getElem?_replicate, if_pos (by omega)]
theorem arr_get (acc : List UInt8) (j : Nat) (hj : j < acc.length) : (arr acc)[64 - acc.length + j]? = some (.int .u8 (acc[j].toNat : Int)) := by
  unfold arr
  rw [List.getElem?_append_right (by simp)]
  simp [List.getElem?_eq_getElem hj]

theorem slice_end (w : World) (B k : Nat) (h1 : 1 ≤ k) (h2 : k ≤ 64) :
    (Instr.sliceAt 95 (.pointer (some ⟨B, 0, none⟩)) (some (.int .i64 (64 - (k : Int)))) none none).run Tryd.prog w = .ok (.slice (some ⟨B, 64 - k, none⟩) k k) w := by
  have ht : Tryd.prog.underlying 95 = some (.array (Tryd.prog.arrayLen 95) (Tryd.prog.elem 95)) := by simp [Program.arrayLen, Program.elem, Tryd.underlying95]
  have hal : Tryd.prog.arrayLen 95 = 64 := by simp [Program.arrayLen, Tryd.underlying95]
  have hel : Tryd.prog.elem 95 = 5 := by simp [Program.elem, Tryd.underlying95]
  have hsz : ∀ w, (sizeOf 5).run Tryd.prog w = .ok 1 w := fun _ => by kernel_rfl
  rw [run_sliceAt_array_l (P := Tryd.prog) w 95 ⟨B, 0, none⟩ ht .i64 _ (by omega) (by rw [hal]; omega), hel, hsz, hal]
  show Result.ok (slicedAt ⟨B, 0, none⟩ (64 - (k : Int)).toNat 64 64 1) w = _
  unfold slicedAt
  rw [show (64 - (k : Int)).toNat = 64 - k by omega, if_neg (by omega), Nat.mul_one, show 64 - (64 - k) = k by omega, show (⟨B, 0, none⟩ : Addr).add (64 - k) = ⟨B, 64 - k, none⟩ by simp [Addr.add]; omega]
theorem convert_end (w : World) (acc : List UInt8) :
    (convert 78 9 (.slice (some ⟨w.heap.size, 64 - acc.length, none⟩) acc.length acc.length)).run Tryd.prog (w.alloc (.cells (arr acc).toArray 95)) = .ok (.string ⟨acc.toArray⟩) (w.alloc (.cells (arr acc).toArray 95)) :=
  run_convert_bytes_back _ 78 9 5 ⟨w.heap.size, 64 - acc.length, none⟩ acc.length acc Tryd.underlying78 Tryd.underlying5 Tryd.underlying9 (fun j hj => by
    rw [show (⟨w.heap.size, 64 - acc.length, none⟩ : Addr).add j = ⟨w.heap.size, 64 - acc.length + j, none⟩ by simp [Addr.add], World.cell?_alloc_mark]
    simpa using arr_get acc j hj)

set_option maxHeartbeats 400000 in
theorem implDigits_any (n b : Nat) (w : World) (hn : n < 18446744073709551616) (h2 : 2 ≤ b) (h36 : b ≤ 36) (ht : Tab w) (hw : 1 < w.heap.size) :
    Calls Tryd.prog 106 #[.int .u64 n, .int .u64 b] w fun e w' => e = .returned (.string ⟨(textOf b n).toArray⟩) ∧ Below w.heap.size w w' := by
  have HT : Hid (Tab w) := ht
  have hr0 := mod_lo n b
  have hr1 := mod_hi n b h2 h36
  have hq0 := div_lo n b
  have hq1 := div_hi n b
  have hc := ht (n % b) (Nat.lt_of_lt_of_le (Nat.mod_lt n (by omega)) h36)
  clear ht
  go_enter Tryd.func106, Tryd.ntmps106
  go_wp2
  go_loopw [0, 6] (fun t i wl => ∃ (m f : Nat) (acc : List UInt8), t = .int .u64 m ∧ i = .int .i64 (64 - (acc.length : Int)) ∧ wl = w.alloc (.cells (arr acc).toArray 95) ∧ m < 18446744073709551616 ∧ Hid (m < 2 ^ f) ∧ Hid (wr f b m acc = textOf b n) ∧ acc.length + f = 64 ∧ 1 ≤ acc.length) (fun t _ _ => (intOf t).toNat)
  case atStart =>
    exact ⟨n / b, 63, [dch (n % b)], by rw [Int.natCast_ediv], rfl, rfl, by have := Nat.div_le_self n b; omega, wr_bound 63 b n h2 (by show n < 2 ^ 64; omega), rfl, rfl, Nat.le_refl _⟩
  case round =>
    obtain ⟨m, f, acc, rfl, rfl, rfl, hm, HF, HW, hl, hl1⟩ := hrel
    clear hr0 hr1 hq0 hq1 hc
    by_cases hlt : 0 < m
    · obtain ⟨g, rfl, hg⟩ := wr_step f b m acc hlt HF.out
      have HG : Hid (m / b < 2 ^ g) := wr_bound g b m h2 HF.out
      have HW2 : Hid (wr g b (m / b) (dch (m % b) :: acc) = textOf b n) := hg.symm.trans HW.out
      have hr0 := mod_lo m b
      have hr1 := mod_hi m b h2 h36
      have hq0 := div_lo m b
      have hq1 := div_hi m b
      have hc := HT.out (m % b) (Nat.lt_of_lt_of_le (Nat.mod_lt m (by omega)) h36)
      have ha := arr_free acc (by omega)
      clear hg
      go_wp2
      rw [arr_set acc (dch (m % b)) (by omega), ← Int.natCast_ediv]
      have hless := div_less m b hlt h2
      exact ⟨⟨m / b, g, dch (m % b) :: acc, rfl, by simp; omega, rfl, by omega, HG, HW2, by simp; omega, by simp⟩, by show Int.toNat ((m / b : Nat) : Int) < Int.toNat (m : Int); rw [Int.toNat_natCast, Int.toNat_natCast]; exact hless⟩
    · have HE : Hid (textOf b n = acc) := by
        have h0 : m = 0 := by omega
        have := HW.out
        rw [h0, wr_zero] at this
        exact this.symm
      have hs1 := fun W => slice_end W w.heap.size acc.length hl1 (by omega)
      have hcv := convert_end w acc
      go_wp2
      go_ret
      exact ⟨by rw [HE.out]; rfl, (Below.refl _ _).alloc (Nat.le_refl _) _⟩
end Go.Proofs.YtaoccjaaopmfdaaDoor

