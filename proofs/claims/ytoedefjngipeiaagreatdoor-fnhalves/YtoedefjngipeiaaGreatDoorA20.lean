import Derived.Test.YtoedefjngipeiaaGreatDoorA18
import Derived.Test.YtoedefjngipeiaaGreatDoorA19
import Derived.Test.YtoedefjngipeiaaGreatDoorRows
import Derived.Test.YtoedefjngipeiaaGreatDoorA08
import Derived.WalkKit
import Derived.WalkSpells
import Derived.WalkLawsBesides
import Derived.Outline
import Derived.BigQuiet
import Derived.Deep.QuietTactic
import Derived.Test.YtoedefjngipeiaaGreatDoorA07
import Derived.Test.YtoedefjngipeiaaGreatDoorA09
/- FromBits of the specification. -/
namespace Go.Proofs.YtoedefjngipeiaaGreatDoor
open Go.ChangeShapes Go.WideShapes Go.RowKit
open Ieee (double)

/-- What FromBits answers: the float of those bits, or a NaN where they are a NaN's. -/
def fromV (U b : Nat) : Prop := b < 18446744073709551616 ∧ ((IsNan U ∧ IsNan b) ∨ (¬ IsNan U ∧ b = U))
/-- What the walk is told of the bits U of n. -/
def Told (n : Int) (U : Nat) (s : Bool) (E M : Nat) : Prop :=
  IntKind.u64.wrap n = (U : Int) ∧ bits .and .u64 ((U : Int) / 4503599627370496) 2047 = (E : Int) ∧ bits .and .u64 (U : Int) 4503599627370495 = (M : Int) ∧ ((U : Int) / 9223372036854775808 == 1) = s
theorem told_any (n : Int) : ∃ s E M, E < 2048 ∧ M < 4503599627370496 ∧ u64n n = signBit s + (E * 4503599627370496 + M) ∧ Told n (u64n n) s E M := by
  have hu := u64n_cast n
  have hlt := u64n_lt n
  generalize u64n n = U at *
  obtain ⟨s, E, M, hE, hM, hU⟩ := word_parts U hlt
  have ha := mask11 ((U : Int) / 4503599627370496) (by omega) (by omega)
  have hb := mask52 (U : Int) (by omega) (by omega)
  have eE : (U : Int) / 4503599627370496 % 2048 = (E : Int) := by cases s <;> simp only [signBit] at hU <;> simp at hU <;> omega
  have eM : (U : Int) % 4503599627370496 = (M : Int) := by cases s <;> simp only [signBit] at hU <;> simp at hU <;> omega
  rw [eE] at ha
  rw [eM] at hb
  have es : ((U : Int) / 9223372036854775808 == 1) = s := by
    cases s
    · simp only [signBit] at hU; simp at hU; rw [beq_eq_false_iff_ne]; omega
    · simp only [signBit] at hU; simp at hU; rw [beq_iff_eq]; omega
  exact ⟨s, E, M, hE, hM, hU, hu, ha, hb, es⟩

set_option maxRecDepth 100000 in
set_option maxHeartbeats 400000 in
theorem from_inf (n : Int) (U : Nat) (s : Bool) (ht : Told n U s 2047 0) (w : World) :
    Calls Tryz.prog 24 #[.int .i64 n] w fun e w' => e = .returned (.float .f64 (iw s)) ∧ w' = w := by
  obtain ⟨hu, ha, hb, es⟩ := ht
  cases s
  all_goals
    go_enter Tryz.func24, Tryz.ntmps24
    go_wp2_with (first | (go_at_call 39; refine (l2inf_any _).mono ?_; rintro e w' ⟨rfl, rfl⟩) | (go_at_call 38; refine (l2signed_iw _ _).mono ?_; rintro e w' ⟨rfl, rfl⟩))
    go_ret
    exact ⟨rfl, rfl⟩
set_option maxRecDepth 100000 in
set_option maxHeartbeats 400000 in
theorem from_nan (n : Int) (U : Nat) (s : Bool) (M : Nat) (ht : Told n U s 2047 M) (hM : M ≠ 0) (w : World) :
    Calls Tryz.prog 24 #[.int .i64 n] w fun e w' => ∃ b, IsNan b ∧ b < 18446744073709551616 ∧ e = .returned (.float .f64 b) ∧ w' = w.drew := by
  obtain ⟨hu, ha, hb, es⟩ := ht
  have e2 : ((M : Int) != 0) = true := by rw [bne_iff_ne]; omega
  clear hM es
  go_enter Tryz.func24, Tryz.ntmps24
  go_wp2_with (go_at_call 37; refine (l2nan_any _).mono ?_; rintro e w' ⟨b, hnb, hbl, rfl, rfl⟩)
  go_ret
  exact ⟨b, hnb, hbl, rfl, rfl⟩
set_option maxRecDepth 100000 in
set_option maxHeartbeats 400000 in
theorem from_small (n : Int) (U : Nat) (s : Bool) (M : Nat) (ht : Told n U s 0 M) (hM : M < 4503599627370496) (w : World) :
    Calls Tryz.prog 24 #[.int .i64 n] w fun e w' => e = .returned (.float .f64 (fw s M (-1074))) ∧ w' = w := by
  obtain ⟨hu, ha, hb, es⟩ := ht
  have HR : Hid _ := fun (_ : Unit) => rep_at M (-1074) (by omega) (by omega) (by omega)
  cases s
  all_goals
    go_enter Tryz.func24, Tryz.ntmps24
    go_wp2_with (first | (go_at_call 46; refine (l2scaled_any M (-1074) (by omega) (by omega) (by omega) _).mono ?_; rintro e w' ⟨rfl, rfl⟩) | (go_at_call 38; refine (l2signed_fw _ _ _ (HR.out ()) _).mono ?_; rintro e w' ⟨rfl, rfl⟩))
    go_ret
    exact ⟨rfl, rfl⟩
set_option maxRecDepth 100000 in
set_option maxHeartbeats 400000 in
theorem from_normal (n : Int) (U : Nat) (s : Bool) (E M : Nat) (ht : Told n U s E M) (hE0 : 1 ≤ E) (hE1 : E ≤ 2046) (hM : M < 4503599627370496) (w : World) :
    Calls Tryz.prog 24 #[.int .i64 n] w fun e w' => e = .returned (.float .f64 (fw s (4503599627370496 + M) ((E : Int) - 1075))) ∧ w' = w := by
  obtain ⟨hu, ha, hb, es⟩ := ht
  have e1 : ((E : Int) == 2047) = false := by rw [beq_eq_false_iff_ne]; omega
  have e2 : ((E : Int) == 0) = false := by rw [beq_eq_false_iff_ne]; omega
  have ho := or_one M hM
  have HR : Hid _ := fun (_ : Unit) => rep_at (4503599627370496 + M) ((E : Int) - 1075) (by omega) (by omega) (by omega)
  cases s
  all_goals
    go_enter Tryz.func24, Tryz.ntmps24
    go_wp2_with (first | (go_at_call 46; refine (l2scaled_any (4503599627370496 + M) ((E : Int) - 1075) (by omega) (by omega) (by omega) _).mono ?_; rintro e w' ⟨rfl, rfl⟩) | (go_at_call 38; refine (l2signed_fw _ _ _ (HR.out ()) _).mono ?_; rintro e w' ⟨rfl, rfl⟩))
    go_ret
    exact ⟨rfl, rfl⟩

theorem specFrom_any (n : Int) (w : World) :
    Calls Tryz.prog 24 #[.int .i64 n] w fun e w' => ∃ b, fromV (u64n n) b ∧ e = .returned (.float .f64 b) ∧ ∃ k, w' = w.drewN k := by
  have hlt := u64n_lt n
  obtain ⟨s, E, M, hE, hM, hU, ht⟩ := told_any n
  by_cases hinf : E = 2047
  · subst hinf
    by_cases hz : M = 0
    · subst hz
      refine (from_inf n _ s ht w).mono ?_
      rintro e w' ⟨rfl, rfl⟩
      have hi : u64n n = iw s := by rw [hU]; unfold iw; omega
      exact ⟨iw s, ⟨by rw [← hi]; exact hlt, .inr ⟨by rw [hU]; exact not_nan s _ (by omega), hi.symm⟩⟩, rfl, 0, rfl⟩
    · refine (from_nan n _ s M ht hz w).mono ?_
      rintro e w' ⟨b, hb, hbl, rfl, rfl⟩
      exact ⟨b, ⟨hbl, .inl ⟨by rw [hU]; exact nan_word s _ (by omega) (by omega), hb⟩⟩, rfl, 1, rfl⟩
  · have hnn : ¬ IsNan (u64n n) := by rw [hU]; exact not_nan s _ (by omega)
    by_cases hz : E = 0
    · subst hz
      refine (from_small n _ s M ht hM w).mono ?_
      rintro e w' ⟨rfl, rfl⟩
      have hc : Canon M (-1074) := .inr ⟨hM, rfl⟩
      have hi : u64n n = fw s M (-1074) := by rw [hU, fw_canon s M _ hc]; unfold rung; omega
      exact ⟨_, ⟨fw_lt s M _ hc, .inr ⟨hnn, hi.symm⟩⟩, rfl, 0, rfl⟩
    · refine (from_normal n _ s E M ht (by omega) (by omega) hM w).mono ?_
      rintro e w' ⟨rfl, rfl⟩
      have hc : Canon (4503599627370496 + M) ((E : Int) - 1075) := .inl ⟨by omega, by omega, by omega, by omega⟩
      have hi : u64n n = fw s (4503599627370496 + M) ((E : Int) - 1075) := by rw [hU, fw_canon s _ _ hc]; unfold rung; omega
      exact ⟨_, ⟨fw_lt s _ _ hc, .inr ⟨hnn, hi.symm⟩⟩, rfl, 0, rfl⟩
end Go.Proofs.YtoedefjngipeiaaGreatDoor

/- The digit of a byte, of the specification. -/
namespace Go.Proofs.YtoedefjngipeiaaGreatDoor
open Go.ChangeShapes Go.WideShapes Go.RowKit

set_option maxHeartbeats 400000 in
theorem specDigit_any (c : Int) (w : World) (h0 : 0 ≤ c) (h1 : c ≤ 255) :
    Calls Tryz.prog 67 #[.int .u8 c] w fun e w' => e = .returned (.int .i64 (digN 99 c)) ∧ w' = w := by
  by_cases ha : 48 ≤ c ∧ c ≤ 57
  · have hv : digN 99 c = c - 48 := by unfold digN; rw [if_pos ha]
    rw [hv]; clear hv
    obtain ⟨ha, hb⟩ := ha
    go_enter Tryz.func67, Tryz.ntmps67
    go_wp2
    go_ret
    exact ⟨rfl, rfl⟩
  · by_cases hb : 97 ≤ c ∧ c ≤ 122
    · have hv : digN 99 c = c - 97 + 10 := by unfold digN; rw [if_neg ha, if_pos hb]
      rw [hv]; clear hv
      obtain ⟨hb, hc⟩ := hb
      have hd : 57 < c := by omega
      clear ha
      go_enter Tryz.func67, Tryz.ntmps67
      go_wp2
      go_ret
      exact ⟨rfl, rfl⟩
    · have hv : digN 99 c = 99 := by unfold digN; rw [if_neg ha, if_neg hb]
      rw [hv]; clear hv
      go_enter Tryz.func67, Tryz.ntmps67
      go_wp2
      all_goals (try (exfalso; omega))
      all_goals
        go_ret
        exact ⟨rfl, rfl⟩

theorem specDigit_byte (c : UInt8) (w : World) :
    Calls Tryz.prog 67 #[.int .u8 c.toNat] w fun e w' => e = .returned (.int .i64 (digN 99 c.toNat)) ∧ w' = w :=
  specDigit_any _ w (by omega) (by have := c.toNat_lt; omega)
end Go.Proofs.YtoedefjngipeiaaGreatDoor

/- l4big of the specification: digits as a big number. -/
namespace Go.Proofs.YtoedefjngipeiaaGreatDoor
open Go.ChangeShapes Go.WideShapes Go.RowKit

set_option maxHeartbeats 1600000 in
set_option maxRecDepth 100000 in
theorem l4big_any (s : ByteArray) (b : Nat) (w : World) (hs : s.size < 900000) (hb : b ≤ 4000000000) :
    Calls Tryz.prog 68 #[.string s, .int .u64 (b : Int)] w fun e w' => ∃ v', e = .returned v' ∧ Below w.heap.size w w' ∧ Big w' v' (valN b s.data.toList) := by
  have HL : Hid _ := fun k => valN_take_lt b hb s k
  go_enter Tryz.func68, Tryz.ntmps68
  go_wp2
  go_loopw [5, 6] (fun v i wr => ∃ k : Nat, i = .int .i64 (k : Int) ∧ k ≤ s.size ∧ Hid (Big wr v (valN b (s.data.toList.take k))) ∧ Below w.heap.size w wr) (fun _ i _ => (s.size - (intOf i).toNat))
  case atStart => exact ⟨0, rfl, Nat.zero_le _, by show Big _ _ _; rw [List.take_zero]; exact ⟨[], Row.nil w, fun _ h => absurd h (by simp), rfl, by simp [bval, valN, val]⟩, Below.refl _ _⟩
  case round =>
    obtain ⟨k, rfl, hk, HV, hbe⟩ := hrel
    have hsz := hbe.size
    by_cases hlt : k < s.size
    · obtain ⟨d, hd⟩ : ∃ d : Nat, (d : Int) = digN 99 (s[k].toNat : Int) := ⟨(digN 99 (s[k].toNat : Int)).toNat, Int.toNat_of_nonneg (digN_lo 99 _ (by omega))⟩
      have hd99 : (d : Int) ≤ 99 := by rw [hd]; exact digN_hi 99 _ (by omega)
      have HD : Hid (∀ w, Calls Tryz.prog 67 #[.int .u8 (s[k].toNat : Int)] w fun e w' => e = .returned (.int .i64 (d : Int)) ∧ w' = w) := fun w => by
        have h := specDigit_byte s[k] w
        rw [← hd] at h
        exact h
      have HS : Hid _ := valN_step b s k hlt d hd
      have HM : Hid _ := fun v wr (hb' : Big wr v (valN b (s.data.toList.take k))) => l0mul_big v (valN b (s.data.toList.take k)) b d s.size wr hb' (HL.out k) (by omega) (by omega) (by omega)
      clear hd
      go_wp2_with (first
        | (go_at_call 67; refine (HD.out _).mono ?_; rintro e w' ⟨rfl, rfl⟩)
        | (go_at_call 72; refine (HM.out _ _ HV.out).mono ?_; rintro e w3 ⟨v3, rfl, hb3, hv3⟩))
      go_roundw
      case rel => exact ⟨k + 1, by simp, by omega, by show Big _ _ _; rw [HS.out]; exact hv3, hbe.trans (hb3.mono hsz)⟩
      case measure => simp only [intOf]; omega
    · obtain rfl : k = s.size := by omega
      have e : s.data.toList.take s.size = s.data.toList := List.take_of_length_le (by simp)
      have HV' : Hid _ := fun (_ : Unit) => HV.out
      rw [e] at HV'
      go_wp2
      go_ret
      exact ⟨_, rfl, hbe, HV'.out ()⟩
end Go.Proofs.YtoedefjngipeiaaGreatDoor

