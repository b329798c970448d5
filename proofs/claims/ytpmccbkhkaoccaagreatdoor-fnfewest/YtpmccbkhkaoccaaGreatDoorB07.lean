import Derived.Test.YtpmccbkhkaoccaaGreatDoorB06
import Derived.Laws.IdiomStrings
import Derived.Test.YtpmccbkhkaoccaaGreatDoorRows
import Derived.WalkKit
import Derived.WalkSpells
import Derived.WalkLawsBesides
/- The program's writer of digits: an array filled from its end. -/
namespace Go.Proofs.YtpmccbkhkaoccaaGreatDoor
open Go.ChangeShapes Go.WideShapes Go.RowKit

/-- The table of digits lies in its variable. -/
def Tab (w : World) : Prop := ∀ i : Nat, i < 36 → w.cell? ⟨3, i, none⟩ = some (.int .u8 (dch i).toNat)
/-- The array, its end written. -/
def arr (acc : List UInt8) : List Value := List.replicate (64 - acc.length) (.int .u8 0) ++ acc.map fun c => .int .u8 (c.toNat : Int)
theorem arr_length (acc : List UInt8) (h : acc.length ≤ 64) : (arr acc).length = 64 := by simp [arr]; omega
theorem arr_nil : arr [] = List.replicate 64 (.int .u8 0) := by simp [arr]
theorem arr_set (acc : List UInt8) (c : UInt8) (h : acc.length < 64) : (arr acc).set (64 - acc.length - 1) (.int .u8 (c.toNat : Int)) = arr (c :: acc) := by
  rw [show 64 - acc.length - 1 = 63 - acc.length by omega]
  unfold arr
  rw [List.set_append_left _ _ (by simp; omega)]
  have e : 64 - acc.length = (63 - acc.length) + 1 := by omega
  rw [e, List.replicate_succ', List.set_append_right _ _ (by simp)]
  simp [show 64 - (acc.length + 1) = 63 - acc.length by omega]
theorem arr_free (acc : List UInt8) (h : acc.length < 64) : (arr acc)[64 - acc.length - 1]? = some (.int .u8 0) := by
  unfold arr
  rw [List.getElem?_append_left (by simp; omega), List.getElem?_replicate, if_pos (by omega)]
theorem arr_get (acc : List UInt8) (j : Nat) (hj : j < acc.length) : (arr acc)[64 - acc.length + j]? = some (.int .u8 (acc[j].toNat : Int)) := by
  unfold arr
  rw [List.getElem?_append_right (by simp)]
  simp [List.getElem?_eq_getElem hj]

theorem slice_end (w : World) (B k : Nat) (h1 : 1 ≤ k) (h2 : k ≤ 64) :
    (Instr.sliceAt 132 (.pointer (some ⟨B, 0, none⟩)) (some (.int .i64 (64 - (k : Int)))) none none).run Tryz.prog w = .ok (.slice (some ⟨B, 64 - k, none⟩) k k) w := by
  have ht : Tryz.prog.underlying 132 = some (.array (Tryz.prog.arrayLen 132) (Tryz.prog.elem 132)) := by simp [Program.arrayLen, Program.elem, Tryz.underlying132]
  have hal : Tryz.prog.arrayLen 132 = 64 := by simp [Program.arrayLen, Tryz.underlying132]
  have hel : Tryz.prog.elem 132 = 5 := by simp [Program.elem, Tryz.underlying132]
  have hsz : ∀ w, (sizeOf 5).run Tryz.prog w = .ok 1 w := fun _ => by kernel_rfl
  rw [run_sliceAt_array_l (P := Tryz.prog) w 132 ⟨B, 0, none⟩ ht .i64 _ (by omega) (by rw [hal]; omega), hel, hsz, hal]
  show Result.ok (slicedAt ⟨B, 0, none⟩ (64 - (k : Int)).toNat 64 64 1) w = _
  unfold slicedAt
  rw [show (64 - (k : Int)).toNat = 64 - k by omega, if_neg (by omega), Nat.mul_one, show 64 - (64 - k) = k by omega, show (⟨B, 0, none⟩ : Addr).add (64 - k) = ⟨B, 64 - k, none⟩ by simp [Addr.add]; omega]
theorem convert_end (w : World) (acc : List UInt8) :
    (convert 22 9 (.slice (some ⟨w.heap.size, 64 - acc.length, none⟩) acc.length acc.length)).run Tryz.prog (w.alloc (.cells (arr acc).toArray 132)) = .ok (.string ⟨acc.toArray⟩) (w.alloc (.cells (arr acc).toArray 132)) :=
  run_convert_bytes_back _ 22 9 5 ⟨w.heap.size, 64 - acc.length, none⟩ acc.length acc Tryz.underlying22 Tryz.underlying5 Tryz.underlying9 (fun j hj => by
    rw [show (⟨w.heap.size, 64 - acc.length, none⟩ : Addr).add j = ⟨w.heap.size, 64 - acc.length + j, none⟩ by simp [Addr.add], World.cell?_alloc_mark]
    simpa using arr_get acc j hj)

set_option maxHeartbeats 400000 in
theorem implDigits_any (n b : Nat) (w : World) (hn : n < 18446744073709551616) (h2 : 2 ≤ b) (h36 : b ≤ 36) (ht : Tab w) (hw : 3 < w.heap.size) :
    Calls Tryz.prog 177 #[.int .u64 n, .int .u64 b] w fun e w' => e = .returned (.string ⟨(textOf b n).toArray⟩) ∧ Below w.heap.size w w' := by
  have HT : Hid (Tab w) := ht
  have hr0 := mod_lo n b
  have hr1 := mod_hi n b h2 h36
  have hq0 := div_lo n b
  have hq1 := div_hi n b
  have hc := ht (n % b) (Nat.lt_of_lt_of_le (Nat.mod_lt n (by omega)) h36)
  clear ht
  go_enter Tryz.func177, Tryz.ntmps177
  go_wp2
  go_loopw [0, 6] (fun t i wl => ∃ (m f : Nat) (acc : List UInt8), t = .int .u64 m ∧ i = .int .i64 (64 - (acc.length : Int)) ∧ wl = w.alloc (.cells (arr acc).toArray 132) ∧ m < 18446744073709551616 ∧ Hid (m < 2 ^ f) ∧ Hid (wr f b m acc = textOf b n) ∧ acc.length + f = 64 ∧ 1 ≤ acc.length) (fun t _ _ => (intOf t).toNat)
  case atStart =>
    exact ⟨n / b, 63, [dch (n % b)], by rw [Int.natCast_ediv], rfl, rfl, by have := Nat.div_le_self n b; omega, wr_bound 63 b n h2 (by show n < 2 ^ 64; omega), rfl, rfl, Nat.le_refl _⟩
  case round =>
    obtain ⟨m, f, acc, rfl, rfl, rfl, hm, HF, HW, hl, hl1⟩ := hrel
    clear hr0 hr1 hq0 hq1 hc
    by_cases hlt : 0 < m
    · obtain ⟨g, rfl, hg⟩ := wr_step f b m acc hlt HF.out
      have HG : Hid (m / b < 2 ^ g) := wr_bound g b m h2 HF.out
      have HW2 : Hid (wr g b (m / b) (dch (m % b) :: acc) = textOf b n) := hg.symm.trans HW.out
      have hr0 := mod_lo m b
      have hr1 := mod_hi m b h2 h36
      have hq0 := div_lo m b
      have hq1 := div_hi m b
      have hc := HT.out (m % b) (Nat.lt_of_lt_of_le (Nat.mod_lt m (by omega)) h36)
      have ha := arr_free acc (by omega)
      clear hg
      go_wp2
      rw [arr_set acc (dch (m % b)) (by omega), ← Int.natCast_ediv]
      have hless := div_less m b hlt h2
      exact ⟨⟨m / b, g, dch (m % b) :: acc, rfl, by simp; omega, rfl, by omega, HG, HW2, by simp; omega, by simp⟩, by show Int.toNat ((m / b : Nat) : Int) < Int.toNat (m : Int); rw [Int.toNat_natCast, Int.toNat_natCast]; exact hless⟩
    · have HE : Hid (textOf b n = acc) := by
        have h0 : m = 0 := by omega
        have := HW.out
        rw [h0, wr_zero] at this
        exact this.symm
      have hs1 := fun W => slice_end W w.heap.size acc.length hl1 (by omega)
      have hcv := convert_end w acc
      go_wp2
      go_ret
      exact ⟨by rw [HE.out]; rfl, (Below.refl _ _).alloc (Nat.le_refl _) _⟩
end Go.Proofs.YtpmccbkhkaoccaaGreatDoor

/- isBase. -/
namespace Go.Proofs.YtpmccbkhkaoccaaGreatDoor
open Go.ChangeShapes Go.WideShapes Go.RowKit

/-- Is it a base? (no abbreviation: the walk shall not open it) -/
def isB (b : Int) : Bool := decide (2 ≤ b ∧ b ≤ 36)
theorem isB_yes (b : Int) (h2 : 2 ≤ b) (h36 : b ≤ 36) : isB b = true := decide_eq_true ⟨h2, h36⟩
theorem isB_no (b : Int) (h : b < 2 ∨ 36 < b) : isB b = false := decide_eq_false (by omega)

set_option maxHeartbeats 400000 in
theorem isBase_any (b : Int) (w : World) :
    Calls Tryz.prog 176 #[.int .i64 b] w fun e w' => e = .returned (.bool (isB b)) ∧ w' = w := by
  by_cases h1 : 2 ≤ b
  · by_cases h2 : b ≤ 36
    · rw [isB_yes b h1 h2]
      go_enter Tryz.func176, Tryz.ntmps176
      go_wp2
      go_ret
      exact ⟨by simp, rfl⟩
    · rw [isB_no b (by omega)]
      go_enter Tryz.func176, Tryz.ntmps176
      go_wp2
      go_ret
      exact ⟨by simp, rfl⟩
  · rw [isB_no b (by omega)]
    go_enter Tryz.func176, Tryz.ntmps176
    go_wp2
    go_ret
    exact ⟨by simp, rfl⟩
end Go.Proofs.YtpmccbkhkaoccaaGreatDoor

/- Texts of ints: plain. -/
namespace Go.Proofs.YtpmccbkhkaoccaaGreatDoor
open Go.ChangeShapes Go.WideShapes Go.RowKit

/-- A number without a sign. -/
def unsig (n : Int) : Nat := (IntKind.u64.wrap n).toNat
theorem unsig_cast (n : Int) : IntKind.u64.wrap n = (unsig n : Int) := by
  unfold unsig; rw [IntKind.wrap_u64]; omega
theorem unsig_lt (n : Int) : unsig n < 18446744073709551616 := by
  unfold unsig; rw [IntKind.wrap_u64]; omega
theorem neg_unsig (n : Int) : IntKind.u64.wrap (-(IntKind.u64.wrap n)) = (unsig (-n) : Int) := by
  unfold unsig; simp only [IntKind.wrap_u64]; omega
/-- What WriteBits answers. -/
def bitsText (n b : Int) : ByteArray := if 2 ≤ b ∧ b ≤ 36 then ⟨(textOf b.toNat (unsig n)).toArray⟩ else ⟨#[]⟩
/-- What WriteInt answers. -/
def intText (n b : Int) : ByteArray := if 2 ≤ b ∧ b ≤ 36 then (if n < 0 then ⟨#[45]⟩ ++ ⟨(textOf b.toNat (unsig (-n))).toArray⟩ else ⟨(textOf b.toNat (unsig n)).toArray⟩) else ⟨#[]⟩
theorem intText_neg (n b : Int) (h : 2 ≤ b ∧ b ≤ 36) (hn : n < 0) : intText n b = ⟨#[45]⟩ ++ ⟨(textOf b.toNat (unsig (-n))).toArray⟩ := by unfold intText; rw [if_pos h, if_pos hn]
theorem intText_pos (n b : Int) (h : 2 ≤ b ∧ b ≤ 36) (hn : ¬ n < 0) : intText n b = ⟨(textOf b.toNat (unsig n)).toArray⟩ := by unfold intText; rw [if_pos h, if_neg hn]
end Go.Proofs.YtpmccbkhkaoccaaGreatDoor

/- WriteInt of the program. -/
namespace Go.Proofs.YtpmccbkhkaoccaaGreatDoor
open Go.ChangeShapes Go.WideShapes Go.RowKit

theorem implDigits_at (m b : Int) (k : Nat) (hm : m = (k : Int)) (w : World) (hn : k < 18446744073709551616) (h2 : 2 ≤ b) (h36 : b ≤ 36) (ht : Tab w) (hw : 3 < w.heap.size) :
    Calls Tryz.prog 177 #[.int .u64 m, .int .u64 b] w fun e w' => e = .returned (.string ⟨(textOf b.toNat k).toArray⟩) ∧ Below w.heap.size w w' := by
  obtain ⟨c, rfl⟩ := Int.eq_ofNat_of_zero_le (show 0 ≤ b by omega)
  subst hm
  exact implDigits_any k c w hn (by omega) (by omega) ht hw

set_option maxHeartbeats 400000 in
theorem implInt_any (n b : Int) (w : World) (ht : Tab w) (hw : 3 < w.heap.size) :
    Calls Tryz.prog 175 #[.int .i64 n, .int .i64 b] w fun e w' => e = .returned (.string (intText n b)) ∧ Below w.heap.size w w' := by
  have HB : Hid _ := isBase_any b
  by_cases h : 2 ≤ b ∧ b ≤ 36
  · rw [isB_yes b h.1 h.2] at HB
    by_cases hn : n < 0
    · have HV : Hid (intText n b = ⟨#[45]⟩ ++ ⟨(textOf b.toNat (unsig (-n))).toArray⟩) := intText_neg n b h hn
      have HC : Hid _ := fun (_ : Unit) => implDigits_at _ b (unsig (-n)) (neg_unsig n) w (unsig_lt (-n)) h.1 h.2 ht hw
      obtain ⟨h2, h36⟩ := h
      have hl := textOf_length b.toNat (unsig (-n))
      generalize textOf b.toNat (unsig (-n)) = t at *
      clear ht
      go_enter Tryz.func175, Tryz.ntmps175
      go_wp2_with (go_at_call 176; refine (HB.out _).mono ?_; rintro e w' ⟨rfl, rfl⟩)
      refine (HC.out ()).mono ?_
      rintro e w1 ⟨rfl, hb⟩
      have HX : Hid _ := hb
      clear hb
      go_wp2
      go_ret
      exact ⟨by rw [HV.out]; rfl, HX.out⟩
    · have HV : Hid (intText n b = ⟨(textOf b.toNat (unsig n)).toArray⟩) := intText_pos n b h hn
      have HC : Hid _ := fun (_ : Unit) => implDigits_at _ b (unsig n) (unsig_cast n) w (unsig_lt n) h.1 h.2 ht hw
      obtain ⟨h2, h36⟩ := h
      clear ht
      go_enter Tryz.func175, Tryz.ntmps175
      go_wp2_with (go_at_call 176; refine (HB.out _).mono ?_; rintro e w' ⟨rfl, rfl⟩)
      refine (HC.out ()).mono ?_
      rintro e w1 ⟨rfl, hb⟩
      have HX : Hid _ := hb
      clear hb
      go_wp2
      go_ret
      exact ⟨by rw [HV.out]; rfl, HX.out⟩
  · rw [isB_no b (by omega)] at HB
    have HV : Hid (intText n b = ⟨#[]⟩) := by unfold intText; exact if_neg h
    clear h ht
    go_enter Tryz.func175, Tryz.ntmps175
    go_wp2_with (go_at_call 176; refine (HB.out _).mono ?_; rintro e w' ⟨rfl, rfl⟩)
    go_ret
    exact ⟨by rw [HV.out]; rfl, Below.refl _ _⟩

end Go.Proofs.YtpmccbkhkaoccaaGreatDoor

