/- The digit of a byte; the number that digits tell, as the specification reads it. -/
import Derived.Test.YtpldpgdjdplbgaaRows
import Derived.Test.YtpldpgdjdplbgaaDigits
import Derived.WalkKit
import Derived.WalkSpells
import Derived.WalkLawsBesides
import Derived.Outline
import Derived.BigQuiet
import Derived.Deep.QuietTactic
namespace Go.Proofs.Ytpldpgdjdplbgaa
open Go.ChangeShapes Go.WideShapes Go.RowKit

theorem ret_i64 {a b : Int} (h : a = b) : Ending.returned (.int .i64 a) = .returned (.int .i64 b) := by rw [h]
theorem ret_u64 {a b : Int} (h : a = b) : Ending.returned (.int .u64 a) = .returned (.int .u64 b) := by rw [h]

set_option maxHeartbeats 400000 in
theorem specDigit_any (c : Int) (w : World) (h0 : 0 ≤ c) (h1 : c ≤ 255) :
    Calls Try.prog 7 #[.int .u8 c] w fun e w' => e = .returned (.int .i64 (digN 99 c)) ∧ w' = w := by
  by_cases ha : 48 ≤ c ∧ c ≤ 57
  · have hv : digN 99 c = c - 48 := by unfold digN; rw [if_pos ha]
    rw [hv]; clear hv
    obtain ⟨ha, hb⟩ := ha
    go_enter Try.func7, Try.ntmps7
    go_wp2
    go_ret
    exact ⟨rfl, rfl⟩
  · by_cases hb : 97 ≤ c ∧ c ≤ 122
    · have hv : digN 99 c = c - 97 + 10 := by unfold digN; rw [if_neg ha, if_pos hb]
      rw [hv]; clear hv
      obtain ⟨hb, hc⟩ := hb
      have hd : 57 < c := by omega
      clear ha
      go_enter Try.func7, Try.ntmps7
      go_wp2
      go_ret
      exact ⟨rfl, rfl⟩
    · have hv : digN 99 c = 99 := by unfold digN; rw [if_neg ha, if_neg hb]
      rw [hv]; clear hv
      go_enter Try.func7, Try.ntmps7
      go_wp2
      all_goals (try (exfalso; omega))
      all_goals
        go_ret
        exact ⟨rfl, rfl⟩

set_option maxHeartbeats 400000 in
theorem implDigit_any (c : Int) (w : World) (h0 : 0 ≤ c) (h1 : c ≤ 255) :
    Calls Try.prog 12 #[.int .u8 c] w fun e w' => e = .returned (.int .u64 (digN 36 c)) ∧ w' = w := by
  by_cases ha : 48 ≤ c ∧ c ≤ 57
  · have hv : digN 36 c = c - 48 := by unfold digN; rw [if_pos ha]
    rw [hv]; clear hv
    obtain ⟨ha, hb⟩ := ha
    go_enter Try.func12, Try.ntmps12
    go_wp2
    go_ret
    exact ⟨rfl, rfl⟩
  · by_cases hb : 97 ≤ c ∧ c ≤ 122
    · have hv : digN 36 c = c - 97 + 10 := by unfold digN; rw [if_neg ha, if_pos hb]
      rw [hv]; clear hv
      obtain ⟨hb, hc⟩ := hb
      have hd : 57 < c := by omega
      clear ha
      go_enter Try.func12, Try.ntmps12
      go_wp2
      go_ret
      exact ⟨rfl, rfl⟩
    · have hv : digN 36 c = 36 := by unfold digN; rw [if_neg ha, if_neg hb]
      rw [hv]; clear hv
      go_enter Try.func12, Try.ntmps12
      go_wp2
      all_goals (try (exfalso; omega))
      all_goals
        go_ret
        exact ⟨rfl, rfl⟩

theorem specDigit_byte (c : UInt8) (w : World) :
    Calls Try.prog 7 #[.int .u8 c.toNat] w fun e w' => e = .returned (.int .i64 (digN 99 c.toNat)) ∧ w' = w :=
  specDigit_any _ w (by omega) (by have := c.toNat_lt; omega)
theorem implDigit_byte (c : UInt8) (w : World) :
    Calls Try.prog 12 #[.int .u8 c.toNat] w fun e w' => e = .returned (.int .u64 (digN 36 c.toNat)) ∧ w' = w :=
  implDigit_any _ w (by omega) (by have := c.toNat_lt; omega)
end Go.Proofs.Ytpldpgdjdplbgaa
