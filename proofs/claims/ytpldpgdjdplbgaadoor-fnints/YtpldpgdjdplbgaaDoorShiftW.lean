/- Shift of the specification and of the program: one plain value at every argument. -/
import Derived.Test.YtpldpgdjdplbgaaDoorRows
import Derived.WalkKit
import Derived.WalkSpells
import Derived.WalkLawsBesides
import Derived.Outline
namespace Go.Proofs.YtpldpgdjdplbgaaDoor
open Go.ChangeShapes Go.WideShapes Go.RowKit

/-- The number that a shift comes to. -/
def shiftV (n b : Int) : Int :=
  if 63 < b ∨ b < -63 then 0 else if 0 ≤ b then wrap64 (n * 2 ^ b.toNat) else wrap64 (IntKind.u64.wrap n / 2 ^ (-b).toNat)

theorem wrap64_u64 (x : Int) : wrap64 (IntKind.u64.wrap x) = wrap64 x := by
  rw [IntKind.wrap_u64]; unfold wrap64; omega

theorem u64_mul_left (n m : Int) : IntKind.u64.wrap (IntKind.u64.wrap n * m) = IntKind.u64.wrap (n * m) := by
  rw [IntKind.wrap_u64, IntKind.wrap_u64, IntKind.wrap_u64, Int.mul_emod, Int.emod_emod, ← Int.mul_emod]

set_option maxHeartbeats 400000 in
theorem specShift_any (n b : Int) (w : World) :
    Calls Tryd.prog 14 #[.int .i64 n, .int .i64 b] w fun e w' => e = .returned (.int .i64 (shiftV n b)) ∧ w' = w := by
  by_cases h : 63 < b ∨ b < -63
  · have hv : shiftV n b = 0 := by unfold shiftV; rw [if_pos h]
    rw [hv]; clear hv
    go_enter Tryd.func14, Tryd.ntmps14
    go_wp2
    all_goals
      go_ret
      exact ⟨rfl, rfl⟩
  · have h1 : b ≤ 63 := by omega
    have h2 : -63 ≤ b := by omega
    by_cases h0 : 0 ≤ b
    · have hv : shiftV n b = wrap64 (n * 2 ^ b.toNat) := by unfold shiftV; rw [if_neg h, if_pos h0]
      rw [hv]; clear hv h
      go_enter Tryd.func14, Tryd.ntmps14
      go_wp2
      go_ret
      exact ⟨rfl, rfl⟩
    · have hv : shiftV n b = wrap64 (IntKind.u64.wrap n / 2 ^ (-b).toNat) := by unfold shiftV; rw [if_neg h, if_neg h0]
      rw [hv]; clear hv h
      go_enter Tryd.func14, Tryd.ntmps14
      go_wp2
      go_ret
      exact ⟨rfl, rfl⟩

set_option maxHeartbeats 400000 in
theorem implShift_any (n b : Int) (w : World) :
    Calls Tryd.prog 13 #[.int .i64 n, .int .i64 b] w fun e w' => e = .returned (.int .i64 (shiftV n b)) ∧ w' = w := by
  by_cases h : 63 < b ∨ b < -63
  · have hv : shiftV n b = 0 := by unfold shiftV; rw [if_pos h]
    rw [hv]; clear hv
    go_enter Tryd.func13, Tryd.ntmps13
    go_wp2
    all_goals
      go_ret
      exact ⟨rfl, rfl⟩
  · have h1 : b ≤ 63 := by omega
    have h2 : -63 ≤ b := by omega
    by_cases h0 : 0 ≤ b
    · have hv : shiftV n b = wrap64 (IntKind.u64.wrap (IntKind.u64.wrap n * 2 ^ b.toNat)) := by
        unfold shiftV; rw [if_neg h, if_pos h0, u64_mul_left, wrap64_u64]
      rw [hv]; clear hv h
      go_enter Tryd.func13, Tryd.ntmps13
      go_wp2
      go_ret
      exact ⟨rfl, rfl⟩
    · have hv : shiftV n b = wrap64 (IntKind.u64.wrap n / 2 ^ (-b).toNat) := by unfold shiftV; rw [if_neg h, if_neg h0]
      rw [hv]; clear hv h
      go_enter Tryd.func13, Tryd.ntmps13
      go_wp2
      go_ret
      exact ⟨rfl, rfl⟩
end Go.Proofs.YtpldpgdjdplbgaaDoor
