import Derived.WalkKit
import Derived.Test.YtpmccbkhkaoccaaGreatDoorB05
import Derived.Lib.Strings
import Derived.Test.YtpmccbkhkaoccaaGreatDoorRows
import Derived.WalkSpells
import Derived.WalkLawsBesides
import Derived.Outline
import Derived.BigQuiet
import Derived.Deep.QuietTactic
/- Small facts on worlds. -/
namespace Go.Proofs.YtpmccbkhkaoccaaGreatDoor
open Go.ChangeShapes Go.WideShapes Go.RowKit

theorem bcell {W w1 : World} (hb : Below W.heap.size W w1) : (∀ b o, b < W.heap.size → w1.cell? ⟨b, o, none⟩ = W.cell? ⟨b, o, none⟩) ∧ (∀ b o, b < W.heap.size → w1.frozen? ⟨b, o, none⟩ = W.frozen? ⟨b, o, none⟩) :=
  ⟨fun b o h => hb.cell (p := ⟨b, o, none⟩) h, fun b o h => hb.frozen (p := ⟨b, o, none⟩) h⟩
end Go.Proofs.YtpmccbkhkaoccaaGreatDoor

/- The law on PartsOf, walked. -/
namespace Go.Proofs.YtpmccbkhkaoccaaGreatDoor
open Go.ChangeShapes Go.WideShapes Go.RowKit
open Ieee (double)

theorem implParts_of (x : Nat) (hx : x < 18446744073709551616) (k : Int) (s : Bool) (m e : Int) (h : partsV x k s m e) (w : World) (hT : DTab w) (hz : 1 < w.heap.size) :
    Calls Tryz.prog 18 #[.float .f64 x] w fun r w' => r = .returned (.agg #[.int .i64 k, .bool s, .int .i64 m, .int .i64 e]) ∧ Below w.heap.size w w' := by
  rcases h with ⟨hn, rfl, rfl, rfl, rfl⟩ | ⟨rfl, rfl, rfl, rfl⟩ | ⟨rfl, rfl, rfl, rfl⟩ | ⟨n, p, q, t, hc, h0, rfl, hn, hq, rfl, rfl, rfl⟩
  · obtain ⟨s, E, M, hE, hM, hU⟩ := word_parts x hx
    have hL := lays_any x s E M hE hM hU
    have c : ¬ E * 4503599627370496 + M ≤ 9218868437227405312 := fun h' => not_nan s _ h' (by rw [← hU]; exact hn)
    obtain rfl : E = 2047 := by omega
    exact implParts_nan x s M hL (by omega) w
  · exact implParts_inf _ s (lays_any _ s 2047 0 (by omega) (by omega) (by unfold iw; omega)) w
  · exact implParts_zero _ s (lays_any _ s 0 0 (by omega) (by omega) (by omega)) w
  · have hw := fw_canon s n p hc
    rcases hc with ⟨h1, h2, h3, h4⟩ | ⟨h1, rfl⟩
    · obtain ⟨M, rfl⟩ : ∃ M, n = 4503599627370496 + M := ⟨n - 4503599627370496, by omega⟩
      obtain ⟨E, hE⟩ : ∃ E : Nat, p = (E : Int) - 1 + -1074 := ⟨(p + 1075).toNat, by omega⟩
      have hU : fw s (4503599627370496 + M) p = signBit s + (E * 4503599627370496 + M) := by
        refine hw.trans ?_
        unfold rung
        obtain ⟨F, rfl⟩ : ∃ F, E = F + 1 := ⟨E - 1, by omega⟩
        rw [show (p + 1074).toNat = F by omega, Nat.succ_mul]
        omega
      refine implParts_normal _ s E M (lays_any _ s E M (by omega) (by omega) hU) (4503599627370496 + M) p q t hn hq h2 h3 h4 (fun w => kind_normal s E M (by omega) (by omega) w) (fun w => ?_) w hT hz
      rw [hE]
      exact size_normal s E M (by omega) (by omega) (by omega) w
    · have hU : fw s n (-1074) = signBit s + (0 * 4503599627370496 + n) := by
        refine hw.trans ?_
        unfold rung
        rw [show ((-1074 : Int) + 1074).toNat = 0 from rfl]
      exact implParts_small _ s n (lays_any _ s 0 n (by omega) h1 hU) n (-1074) q t hn hq (by omega) (by omega) (by omega) (fun w => kind_small s n (by omega) w) (fun w => size_small s n w) w hT hz
end Go.Proofs.YtpmccbkhkaoccaaGreatDoor

/- Digits written, as plain functions; no program is spoken of here. -/
namespace Go.Proofs.YtpmccbkhkaoccaaGreatDoor
open Go.RowKit

/-- The byte of a digit. -/
def dch (d : Nat) : UInt8 := if d < 10 then UInt8.ofNat (48 + d) else UInt8.ofNat (87 + d)
/-- The digits of n in a base ahead of what is written already; the first number bounds how many. -/
def wr : Nat → Nat → Nat → List UInt8 → List UInt8
  | 0, _, _, acc => acc
  | f + 1, b, n, acc => if n = 0 then acc else wr f b (n / b) (dch (n % b) :: acc)
/-- A number's text. -/
def textOf (b n : Nat) : List UInt8 := wr 63 b (n / b) [dch (n % b)]
theorem wr_zero (f b : Nat) (acc : List UInt8) : wr f b 0 acc = acc := by cases f <;> simp [wr]
theorem wr_step (f b n : Nat) (acc : List UInt8) (hn : 0 < n) (hf : n < 2 ^ f) : ∃ g, f = g + 1 ∧ wr f b n acc = wr g b (n / b) (dch (n % b) :: acc) := by
  cases f with
  | zero => simp at hf; omega
  | succ g => exact ⟨g, rfl, by simp [wr]; omega⟩
theorem wr_bound (g b n : Nat) (hb : 2 ≤ b) (hf : n < 2 ^ (g + 1)) : n / b < 2 ^ g := by
  rw [Nat.div_lt_iff_lt_mul (by omega)]
  have h1 : 2 ^ g * 2 ≤ 2 ^ g * b := Nat.mul_le_mul_left _ hb
  rw [Nat.pow_succ] at hf
  omega
theorem wr_length (b : Nat) : ∀ (f n : Nat) (acc : List UInt8), (wr f b n acc).length ≤ acc.length + f := by
  intro f
  induction f with
  | zero => intro n acc; exact Nat.le_refl _
  | succ f ih =>
    intro n acc
    unfold wr
    split
    · omega
    · have := ih (n / b) (dch (n % b) :: acc)
      simp at this
      omega
theorem textOf_length (b n : Nat) : (textOf b n).length ≤ 64 := wr_length b 63 _ _
theorem textOf_pos (b n : Nat) (hn : 0 < n) : wr 64 b n [] = textOf b n := by
  have e : (64 : Nat) = 63 + 1 := rfl
  rw [e]; unfold wr; rw [if_neg (by omega)]; rfl
theorem textOf_zero (b : Nat) : textOf b 0 = [48] := by
  unfold textOf; rw [Nat.zero_div, wr_zero, Nat.zero_mod]; rfl
def digitText : ByteArray := ⟨#[48, 49, 50, 51, 52, 53, 54, 55, 56, 57, 97, 98, 99, 100, 101, 102, 103, 104, 105, 106, 107, 108, 109, 110, 111, 112, 113, 114, 115, 116, 117, 118, 119, 120, 121, 122]⟩
theorem digitText_all : ∀ d : Fin 36, ((digitText.data.toList.drop d.val).take 1) = [dch d.val] := by decide
theorem digitText_at (d : Nat) (h : d < 36) : digitText.extract d (d + 1) = ⟨#[dch d]⟩ := by
  rw [Lib.extract_eq, show d + 1 - d = 1 by omega, digitText_all ⟨d, h⟩]
theorem mod_lo (m b : Nat) : 0 ≤ (m : Int) % (b : Int) := by rw [← Int.natCast_emod]; omega
theorem mod_hi (m b : Nat) (h2 : 2 ≤ b) (h36 : b ≤ 36) : (m : Int) % (b : Int) < 36 := by
  have := Int.emod_lt_of_pos (m : Int) (b := (b : Int)) (by omega); omega
theorem div_lo (m b : Nat) : 0 ≤ (m : Int) / (b : Int) := by rw [← Int.natCast_ediv]; exact Int.natCast_nonneg _
theorem div_hi (m b : Nat) : (m : Int) / (b : Int) ≤ m := by rw [← Int.natCast_ediv]; exact Int.ofNat_le.2 (Nat.div_le_self m b)
theorem div_less (m b : Nat) (h : 0 < m) (h2 : 2 ≤ b) : m / b < m := Nat.div_lt_self h (by omega)
theorem push_front (c : UInt8) (l : List UInt8) : (⟨#[c]⟩ : ByteArray) ++ ⟨l.toArray⟩ = ⟨(c :: l).toArray⟩ := by
  apply ByteArray.ext
  rw [ByteArray.data_append]
  simp
end Go.Proofs.YtpmccbkhkaoccaaGreatDoor

namespace Go.Proofs.YtpmccbkhkaoccaaGreatDoor
open Go.ChangeShapes Go.WideShapes Go.RowKit

set_option maxHeartbeats 400000 in
theorem specDigits_any (n b : Nat) (w : World) (hn : n < 18446744073709551616) (h2 : 2 ≤ b) (h36 : b ≤ 36) :
    Calls Tryz.prog 80 #[.int .u64 n, .int .i64 b] w fun e w' => e = .returned (.string ⟨(textOf b n).toArray⟩) ∧ w' = w := by
  by_cases hz : n = 0
  · subst hz
    rw [textOf_zero b]
    go_enter Tryz.func80, Tryz.ntmps80
    go_wp2
    go_ret
    exact ⟨rfl, rfl⟩
  · have hb : ((n : Int) == 0) = false := beq_eq_false_iff_ne.2 (by omega)
    go_enter Tryz.func80, Tryz.ntmps80
    go_wp2
    go_loop [0, 6] (fun t o => ∃ (m f : Nat) (acc : List UInt8), t = .int .u64 m ∧ o = .string ⟨acc.toArray⟩ ∧ m < 18446744073709551616 ∧ Hid (m < 2 ^ f) ∧ Hid (wr f b m acc = wr 64 b n []) ∧ acc.length + f = 64) (fun t _ => (intOf t).toNat)
    case atStart => exact ⟨n, 64, [], rfl, rfl, hn, by show n < 2 ^ 64; omega, rfl, rfl⟩
    case round =>
      obtain ⟨m, f, acc, rfl, rfl, hm, HF, HW, hl⟩ := hrel
      by_cases hlt : 0 < m
      · obtain ⟨g, rfl, hg⟩ := wr_step f b m acc hlt HF.out
        have HG : Hid (m / b < 2 ^ g) := wr_bound g b m h2 HF.out
        have HW2 : Hid (wr g b (m / b) (dch (m % b) :: acc) = wr 64 b n []) := hg.symm.trans HW.out
        have HX : Hid _ := digitText_at (m % b) (Nat.lt_of_lt_of_le (Nat.mod_lt m (by omega)) h36)
        have hr0 := mod_lo m b
        have hr1 := mod_hi m b h2 h36
        have hq0 := div_lo m b
        have hq1 := div_hi m b
        clear hg
        go_wp2
        have e := HX.out
        unfold digitText at e
        rw [e, push_front, ← Int.natCast_ediv]
        have hless := div_less m b hlt h2
        exact ⟨⟨m / b, g, _, rfl, rfl, by omega, HG, HW2, by simp; omega⟩, by show Int.toNat ((m / b : Nat) : Int) < Int.toNat (m : Int); rw [Int.toNat_natCast, Int.toNat_natCast]; exact hless⟩
      · have HE : Hid (textOf b n = acc) := by
          have h0 : m = 0 := by omega
          have := HW.out
          rw [h0, wr_zero] at this
          exact (textOf_pos b n (by omega)).symm.trans this.symm
        go_wp2
        go_ret
        exact ⟨by rw [HE.out]; rfl, rfl⟩
end Go.Proofs.YtpmccbkhkaoccaaGreatDoor

