/- The digit of a byte, of the program. -/
import Derived.Test.YtpldpgdjdplbgaaDoorRows
import Derived.Test.YtpldpgdjdplbgaaDoorDigits
import Derived.WalkKit
import Derived.WalkSpells
import Derived.WalkLawsBesides
import Derived.Outline
import Derived.BigQuiet
import Derived.Deep.QuietTactic
namespace Go.Proofs.YtpldpgdjdplbgaaDoor
open Go.ChangeShapes Go.WideShapes Go.RowKit

set_option maxHeartbeats 400000 in
theorem implDigit_any (c : Int) (w : World) (h0 : 0 ≤ c) (h1 : c ≤ 255) :
    Calls Tryd.prog 24 #[.int .u8 c] w fun e w' => e = .returned (.int .u64 (digN 36 c)) ∧ w' = w := by
  by_cases ha : 48 ≤ c ∧ c ≤ 57
  · have hv : digN 36 c = c - 48 := by unfold digN; rw [if_pos ha]
    rw [hv]; clear hv
    obtain ⟨ha, hb⟩ := ha
    go_enter Tryd.func24, Tryd.ntmps24
    go_wp2
    go_ret
    exact ⟨rfl, rfl⟩
  · by_cases hb : 97 ≤ c ∧ c ≤ 122
    · have hv : digN 36 c = c - 97 + 10 := by unfold digN; rw [if_neg ha, if_pos hb]
      rw [hv]; clear hv
      obtain ⟨hb, hc⟩ := hb
      have hd : 57 < c := by omega
      clear ha
      go_enter Tryd.func24, Tryd.ntmps24
      go_wp2
      go_ret
      exact ⟨rfl, rfl⟩
    · have hv : digN 36 c = 36 := by unfold digN; rw [if_neg ha, if_neg hb]
      rw [hv]; clear hv
      go_enter Tryd.func24, Tryd.ntmps24
      go_wp2
      all_goals (try (exfalso; omega))
      all_goals
        go_ret
        exact ⟨rfl, rfl⟩
theorem implDigit_byte (c : UInt8) (w : World) :
    Calls Tryd.prog 24 #[.int .u8 c.toNat] w fun e w' => e = .returned (.int .u64 (digN 36 c.toNat)) ∧ w' = w :=
  implDigit_any _ w (by omega) (by have := c.toNat_lt; omega)
end Go.Proofs.YtpldpgdjdplbgaaDoor
