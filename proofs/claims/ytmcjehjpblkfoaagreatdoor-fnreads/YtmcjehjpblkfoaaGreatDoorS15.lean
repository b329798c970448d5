import Derived.Test.YtmcjehjpblkfoaaGreatDoorS06
import Derived.Test.YtmcjehjpblkfoaaGreatDoorS02
import Derived.WalkKit
import Derived.Lib.Strings
import Derived.Test.YtmcjehjpblkfoaaGreatDoorRows
import Derived.WalkSpells
import Derived.WalkLawsBesides
import Derived.Outline
import Derived.BigQuiet
import Derived.Deep.QuietTactic
/- l5trim of the specification. -/
namespace Go.Proofs.YtmcjehjpblkfoaaGreatDoor
open Go.ChangeShapes Go.WideShapes Go.RowKit

/-- Zeros at the end are left out, but for one digit. -/
def TrimD (d t : ByteArray) : Prop := 0 < t.size ∧ good 10 t.data.toList ∧ ∃ j, t = d.extract 0 t.size ∧ t.size + j = d.size ∧ valN 10 d.data.toList = valN 10 t.data.toList * 10 ^ j ∧ (t.size = 1 ∨ ∀ h : t.size - 1 < t.size, t[t.size - 1].toNat ≠ 48)
/-- On the way. -/
def TrimO (d t : ByteArray) (j : Nat) : Prop := 0 < t.size ∧ good 10 t.data.toList ∧ t = d.extract 0 t.size ∧ t.size + j = d.size ∧ valN 10 d.data.toList = valN 10 t.data.toList * 10 ^ j
theorem trimO_start (d : ByteArray) (h : 0 < d.size) (hg : good 10 d.data.toList) : TrimO d d 0 := ⟨h, hg, by simp, rfl, by rw [Nat.pow_zero, Nat.mul_one]⟩
theorem trimO_next (d t : ByteArray) (j : Nat) (h : TrimO d t j) (h1 : 1 < t.size) (hz : ∀ h : t.size - 1 < t.size, t[t.size - 1].toNat = 48) : TrimO d (t.extract 0 (t.size - 1)) (j + 1) := by
  obtain ⟨a1, a2, a3, a4, a5⟩ := h
  have hs : (t.extract 0 (t.size - 1)).size = t.size - 1 := by simp
  refine ⟨by omega, ?_, ?_, by omega, ?_⟩
  · intro c hc
    exact a2 c (by rw [last_cut t a1]; exact List.mem_append_left _ hc)
  · rw [hs]
    apply ByteArray.ext
    apply Array.toList_inj.1
    have e : t.data.toList = d.data.toList.take t.size := by
      have h := congrArg (fun b : ByteArray => b.data.toList) a3
      simp only [Lib.extract_eq] at h
      simpa using h
    rw [Lib.extract_eq, Lib.extract_eq]
    simp only [List.drop_zero, Nat.sub_zero]
    rw [e, List.take_take, Nat.min_eq_left (by omega)]
  · rw [a5, valN_last t a1 (hz (by omega)), Nat.pow_succ, Nat.mul_assoc, Nat.mul_comm 10]

set_option maxHeartbeats 2000000 in
set_option maxRecDepth 100000 in
theorem l5trim_any (d : ByteArray) (p : Int) (hd : d.size ≤ 3000) (h0 : 0 < d.size) (hg : good 10 d.data.toList) (w : World) :
    Calls Tryz.prog 76 #[.agg #[.string d, .int .i64 p]] w fun e w' => ∃ t, TrimD d t ∧ e = .returned (.agg #[.string t, .int .i64 p]) ∧ Below w.heap.size w w' := by
  have HO : Hid (TrimO d d 0) := trimO_start d h0 hg
  clear hg
  go_enter Tryz.func76, Tryz.ntmps76
  go_wp2
  go_loopw [3] (fun _ wr => ∃ (t : ByteArray) (j : Nat), wr = (w.alloc (.cells #[.string t, .int .i64 p] 121)).alloc (.cells #[.string ⟨#[]⟩, .int .i64 0] 121) ∧ Hid (TrimO d t j) ∧ t.size ≤ 3000 ∧ 0 < t.size) (fun _ wr => match wr.cell? ⟨w.heap.size, 0, none⟩ with | some (.string t) => t.size | _ => 0)
  case atStart => exact ⟨d, 0, rfl, HO.out, hd, h0⟩
  case round =>
    obtain ⟨t, j, rfl, HT, hts, ht0⟩ := hrel
    have hts' : (t.size : Int) ≤ 3000 := by omega
    obtain ⟨k, hk⟩ : ∃ k, t.size = k + 1 := ⟨t.size - 1, by omega⟩
    have hk1 : t.size - 1 = k := by omega
    have hkl : k < t.size := by omega
    have hki : (t.size : Int) - 1 = (k : Int) := by omega
    by_cases h1 : 1 < t.size
    · by_cases hz : t[k].toNat = 48
      · have HN : Hid (TrimO d (t.extract 0 k) (j + 1)) := by
          have := trimO_next d t j HT.out h1 (fun _ => by simp only [hk1]; exact hz)
          rw [hk1] at this
          exact this
        have hz2 : (t[k].toNat : Int) = 48 := by omega
        have hes : (t.extract 0 k).size = k := by simp; omega
        clear hk hk1
        go_wp2
        have hm : ∀ u : ByteArray, ((w.alloc (.cells #[.string u, .int .i64 p] 121)).alloc (.cells #[.string ⟨#[]⟩, .int .i64 0] 121)).cell? ⟨w.heap.size, 0, none⟩ = some (.string u) := fun u => by simp [go_sem]
        exact ⟨⟨_, j + 1, rfl, HN.out, by omega, HN.out.1⟩, by simp only [hm]; omega⟩
      · have HX : Hid (TrimD d t) := by
          obtain ⟨a1, a2, a3, a4, a5⟩ := HT.out
          exact ⟨a1, a2, j, a3, a4, a5, .inr (fun _ => by simp only [hk1]; exact hz)⟩
        have hz2 : ((t[k].toNat : Int) == 48) = false := beq_eq_false_iff_ne.2 (by omega)
        have hz3 : ¬ (t[k].toNat : Int) = 48 := by omega
        clear hk hk1
        go_wp2
        refine bodyPost_ret (v := .agg #[.string t, .int .i64 p]) (by simp [results, Tryz.results76, go_sem]) rfl ⟨t, HX.out, rfl, (by repeat (first | with_reducible exact Below.refl _ _ | with_reducible refine Below.alloc ?_ (by simp <;> omega) _ | with_reducible refine Below.setCell ?_ (by simp <;> omega) _))⟩
    · have HX : Hid (TrimD d t) := by
        obtain ⟨a1, a2, a3, a4, a5⟩ := HT.out
        exact ⟨a1, a2, j, a3, a4, a5, .inl (by omega)⟩
      clear hk hk1
      go_wp2
      refine bodyPost_ret (v := .agg #[.string t, .int .i64 p]) (by simp [results, Tryz.results76, go_sem]) rfl ⟨t, HX.out, rfl, (by repeat (first | with_reducible exact Below.refl _ _ | with_reducible refine Below.alloc ?_ (by simp <;> omega) _ | with_reducible refine Below.setCell ?_ (by simp <;> omega) _))⟩
end Go.Proofs.YtmcjehjpblkfoaaGreatDoor

/- Digits written, as plain functions; no program is spoken of here. -/
namespace Go.Proofs.YtmcjehjpblkfoaaGreatDoor
open Go.RowKit

/-- The byte of a digit. -/
def dch (d : Nat) : UInt8 := if d < 10 then UInt8.ofNat (48 + d) else UInt8.ofNat (87 + d)
/-- The digits of n in a base ahead of what is written already; the first number bounds how many. -/
def wr : Nat → Nat → Nat → List UInt8 → List UInt8
  | 0, _, _, acc => acc
  | f + 1, b, n, acc => if n = 0 then acc else wr f b (n / b) (dch (n % b) :: acc)
/-- A number's text. -/
def textOf (b n : Nat) : List UInt8 := wr 63 b (n / b) [dch (n % b)]
theorem wr_zero (f b : Nat) (acc : List UInt8) : wr f b 0 acc = acc := by cases f <;> simp [wr]
theorem wr_step (f b n : Nat) (acc : List UInt8) (hn : 0 < n) (hf : n < 2 ^ f) : ∃ g, f = g + 1 ∧ wr f b n acc = wr g b (n / b) (dch (n % b) :: acc) := by
  cases f with
  | zero => simp at hf; omega
  | succ g => exact ⟨g, rfl, by simp [wr]; omega⟩
theorem wr_bound (g b n : Nat) (hb : 2 ≤ b) (hf : n < 2 ^ (g + 1)) : n / b < 2 ^ g := by
  rw [Nat.div_lt_iff_lt_mul (by omega)]
  have h1 : 2 ^ g * 2 ≤ 2 ^ g * b := Nat.mul_le_mul_left _ hb
  rw [Nat.pow_succ] at hf
  omega
theorem wr_length (b : Nat) : ∀ (f n : Nat) (acc : List UInt8), (wr f b n acc).length ≤ acc.length + f := by
  intro f
  induction f with
  | zero => intro n acc; exact Nat.le_refl _
  | succ f ih =>
    intro n acc
    unfold wr
    split
    · omega
    · have := ih (n / b) (dch (n % b) :: acc)
      simp at this
      omega
theorem textOf_length (b n : Nat) : (textOf b n).length ≤ 64 := wr_length b 63 _ _
theorem textOf_pos (b n : Nat) (hn : 0 < n) : wr 64 b n [] = textOf b n := by
  have e : (64 : Nat) = 63 + 1 := rfl
  rw [e]; unfold wr; rw [if_neg (by omega)]; rfl
theorem textOf_zero (b : Nat) : textOf b 0 = [48] := by
  unfold textOf; rw [Nat.zero_div, wr_zero, Nat.zero_mod]; rfl
def digitText : ByteArray := ⟨#[48, 49, 50, 51, 52, 53, 54, 55, 56, 57, 97, 98, 99, 100, 101, 102, 103, 104, 105, 106, 107, 108, 109, 110, 111, 112, 113, 114, 115, 116, 117, 118, 119, 120, 121, 122]⟩
theorem digitText_all : ∀ d : Fin 36, ((digitText.data.toList.drop d.val).take 1) = [dch d.val] := by decide
theorem digitText_at (d : Nat) (h : d < 36) : digitText.extract d (d + 1) = ⟨#[dch d]⟩ := by
  rw [Lib.extract_eq, show d + 1 - d = 1 by omega, digitText_all ⟨d, h⟩]
theorem mod_lo (m b : Nat) : 0 ≤ (m : Int) % (b : Int) := by rw [← Int.natCast_emod]; omega
theorem mod_hi (m b : Nat) (h2 : 2 ≤ b) (h36 : b ≤ 36) : (m : Int) % (b : Int) < 36 := by
  have := Int.emod_lt_of_pos (m : Int) (b := (b : Int)) (by omega); omega
theorem div_lo (m b : Nat) : 0 ≤ (m : Int) / (b : Int) := by rw [← Int.natCast_ediv]; exact Int.natCast_nonneg _
theorem div_hi (m b : Nat) : (m : Int) / (b : Int) ≤ m := by rw [← Int.natCast_ediv]; exact Int.ofNat_le.2 (Nat.div_le_self m b)
theorem div_less (m b : Nat) (h : 0 < m) (h2 : 2 ≤ b) : m / b < m := Nat.div_lt_self h (by omega)
theorem push_front (c : UInt8) (l : List UInt8) : (⟨#[c]⟩ : ByteArray) ++ ⟨l.toArray⟩ = ⟨(c :: l).toArray⟩ := by
  apply ByteArray.ext
  rw [ByteArray.data_append]
  simp
end Go.Proofs.YtmcjehjpblkfoaaGreatDoor

namespace Go.Proofs.YtmcjehjpblkfoaaGreatDoor
open Go.ChangeShapes Go.WideShapes Go.RowKit

set_option maxHeartbeats 400000 in
theorem specDigits_any (n b : Nat) (w : World) (hn : n < 18446744073709551616) (h2 : 2 ≤ b) (h36 : b ≤ 36) :
    Calls Tryz.prog 82 #[.int .u64 n, .int .i64 b] w fun e w' => e = .returned (.string ⟨(textOf b n).toArray⟩) ∧ w' = w := by
  by_cases hz : n = 0
  · subst hz
    rw [textOf_zero b]
    go_enter Tryz.func82, Tryz.ntmps82
    go_wp2
    go_ret
    exact ⟨rfl, rfl⟩
  · have hb : ((n : Int) == 0) = false := beq_eq_false_iff_ne.2 (by omega)
    go_enter Tryz.func82, Tryz.ntmps82
    go_wp2
    go_loop [0, 6] (fun t o => ∃ (m f : Nat) (acc : List UInt8), t = .int .u64 m ∧ o = .string ⟨acc.toArray⟩ ∧ m < 18446744073709551616 ∧ Hid (m < 2 ^ f) ∧ Hid (wr f b m acc = wr 64 b n []) ∧ acc.length + f = 64) (fun t _ => (intOf t).toNat)
    case atStart => exact ⟨n, 64, [], rfl, rfl, hn, by show n < 2 ^ 64; omega, rfl, rfl⟩
    case round =>
      obtain ⟨m, f, acc, rfl, rfl, hm, HF, HW, hl⟩ := hrel
      by_cases hlt : 0 < m
      · obtain ⟨g, rfl, hg⟩ := wr_step f b m acc hlt HF.out
        have HG : Hid (m / b < 2 ^ g) := wr_bound g b m h2 HF.out
        have HW2 : Hid (wr g b (m / b) (dch (m % b) :: acc) = wr 64 b n []) := hg.symm.trans HW.out
        have HX : Hid _ := digitText_at (m % b) (Nat.lt_of_lt_of_le (Nat.mod_lt m (by omega)) h36)
        have hr0 := mod_lo m b
        have hr1 := mod_hi m b h2 h36
        have hq0 := div_lo m b
        have hq1 := div_hi m b
        clear hg
        go_wp2
        have e := HX.out
        unfold digitText at e
        rw [e, push_front, ← Int.natCast_ediv]
        have hless := div_less m b hlt h2
        exact ⟨⟨m / b, g, _, rfl, rfl, by omega, HG, HW2, by simp; omega⟩, by show Int.toNat ((m / b : Nat) : Int) < Int.toNat (m : Int); rw [Int.toNat_natCast, Int.toNat_natCast]; exact hless⟩
      · have HE : Hid (textOf b n = acc) := by
          have h0 : m = 0 := by omega
          have := HW.out
          rw [h0, wr_zero] at this
          exact (textOf_pos b n (by omega)).symm.trans this.symm
        go_wp2
        go_ret
        exact ⟨by rw [HE.out]; rfl, rfl⟩
end Go.Proofs.YtmcjehjpblkfoaaGreatDoor

/- Texts of ints: plain. -/
namespace Go.Proofs.YtmcjehjpblkfoaaGreatDoor
open Go.ChangeShapes Go.WideShapes Go.RowKit

/-- A number without a sign. -/
def unsig (n : Int) : Nat := (IntKind.u64.wrap n).toNat
theorem unsig_cast (n : Int) : IntKind.u64.wrap n = (unsig n : Int) := by
  unfold unsig; rw [IntKind.wrap_u64]; omega
theorem unsig_lt (n : Int) : unsig n < 18446744073709551616 := by
  unfold unsig; rw [IntKind.wrap_u64]; omega
theorem neg_unsig (n : Int) : IntKind.u64.wrap (-(IntKind.u64.wrap n)) = (unsig (-n) : Int) := by
  unfold unsig; simp only [IntKind.wrap_u64]; omega
/-- What WriteBits answers. -/
def bitsText (n b : Int) : ByteArray := if 2 ≤ b ∧ b ≤ 36 then ⟨(textOf b.toNat (unsig n)).toArray⟩ else ⟨#[]⟩
/-- What WriteInt answers. -/
def intText (n b : Int) : ByteArray := if 2 ≤ b ∧ b ≤ 36 then (if n < 0 then ⟨#[45]⟩ ++ ⟨(textOf b.toNat (unsig (-n))).toArray⟩ else ⟨(textOf b.toNat (unsig n)).toArray⟩) else ⟨#[]⟩
theorem intText_neg (n b : Int) (h : 2 ≤ b ∧ b ≤ 36) (hn : n < 0) : intText n b = ⟨#[45]⟩ ++ ⟨(textOf b.toNat (unsig (-n))).toArray⟩ := by unfold intText; rw [if_pos h, if_pos hn]
theorem intText_pos (n b : Int) (h : 2 ≤ b ∧ b ≤ 36) (hn : ¬ n < 0) : intText n b = ⟨(textOf b.toNat (unsig n)).toArray⟩ := by unfold intText; rw [if_pos h, if_neg hn]
end Go.Proofs.YtmcjehjpblkfoaaGreatDoor

/- l1write of the specification, at a number. -/
namespace Go.Proofs.YtmcjehjpblkfoaaGreatDoor
open Go.ChangeShapes Go.WideShapes Go.RowKit

theorem specDigits_at (m b : Int) (k : Nat) (hm : m = (k : Int)) (w : World) (hn : k < 18446744073709551616) (h2 : 2 ≤ b) (h36 : b ≤ 36) :
    Calls Tryz.prog 82 #[.int .u64 m, .int .i64 b] w fun e w' => e = .returned (.string ⟨(textOf b.toNat k).toArray⟩) ∧ w' = w := by
  obtain ⟨c, rfl⟩ := Int.eq_ofNat_of_zero_le (show 0 ≤ b by omega)
  subst hm
  exact specDigits_any k c w hn (by omega) (by omega)
end Go.Proofs.YtmcjehjpblkfoaaGreatDoor

/- WriteInt of the specification. -/
namespace Go.Proofs.YtmcjehjpblkfoaaGreatDoor
open Go.ChangeShapes Go.WideShapes Go.RowKit

set_option maxHeartbeats 400000 in
theorem specInt_any (n b : Int) (w : World) :
    Calls Tryz.prog 59 #[.int .i64 n, .int .i64 b] w fun e w' => e = .returned (.string (intText n b)) ∧ w' = w := by
  by_cases h : 2 ≤ b ∧ b ≤ 36
  · by_cases hn : n < 0
    · have HV : Hid (intText n b = ⟨#[45]⟩ ++ ⟨(textOf b.toNat (unsig (-n))).toArray⟩) := intText_neg n b h hn
      have HC : Hid _ := fun w => specDigits_at _ b (unsig (-n)) (neg_unsig n) w (unsig_lt (-n)) h.1 h.2
      obtain ⟨h2, h36⟩ := h
      have hl := textOf_length b.toNat (unsig (-n))
      generalize textOf b.toNat (unsig (-n)) = t at *
      go_enter Tryz.func59, Tryz.ntmps59
      go_wp2_with (go_at_call 82; refine (HC.out _).mono ?_; rintro e w' ⟨rfl, rfl⟩)
      go_ret
      exact ⟨by rw [HV.out]; rfl, rfl⟩
    · have HV : Hid (intText n b = ⟨(textOf b.toNat (unsig n)).toArray⟩) := intText_pos n b h hn
      have HC : Hid _ := fun w => specDigits_at _ b (unsig n) (unsig_cast n) w (unsig_lt n) h.1 h.2
      obtain ⟨h2, h36⟩ := h
      go_enter Tryz.func59, Tryz.ntmps59
      go_wp2_with (go_at_call 82; refine (HC.out _).mono ?_; rintro e w' ⟨rfl, rfl⟩)
      go_ret
      exact ⟨by rw [HV.out]; rfl, rfl⟩
  · have HV : Hid (intText n b = ⟨#[]⟩) := by unfold intText; exact if_neg h
    go_enter Tryz.func59, Tryz.ntmps59
    by_cases h2 : b < 2
    · clear h
      go_wp2
      go_ret
      exact ⟨by rw [HV.out]; rfl, rfl⟩
    · have h36 : 36 < b := by omega
      clear h
      go_wp2
      go_ret
      exact ⟨by rw [HV.out]; rfl, rfl⟩
end Go.Proofs.YtmcjehjpblkfoaaGreatDoor

