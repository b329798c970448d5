import Derived.Test.YtlmddccgkpmhcaaA24
import Derived.Test.YtlmddccgkpmhcaaA26
import Derived.Test.YtlmddccgkpmhcaaA27
/- The law on Near, walked. -/
namespace Go.Proofs.Ytlmddccgkpmhcaa
open Go.ChangeShapes Go.WideShapes Go.RowKit
open Ieee (double)

theorem near_lt (s : Bool) (m : Nat) (e : Int) (h : m < 18446744073709551616) : fw s m e < 18446744073709551616 := by
  by_cases h0 : m = 0
  · subst h0; rw [fw_zero]; cases s <;> decide
  · rw [fw_place s m e (by omega)]
    have : min ((max (e + (m.log2 : Int) - 52) (-1074) + 1074).toNat * 4503599627370496 + roundN m (max (e + (m.log2 : Int) - 52) (-1074) - e)) 9218868437227405312 ≤ 9218868437227405312 := Nat.min_le_right _ _
    generalize min ((max (e + (m.log2 : Int) - 52) (-1074) + 1074).toNat * 4503599627370496 + roundN m (max (e + (m.log2 : Int) - 52) (-1074) - e)) 9218868437227405312 = r at *
    cases s
    · show 0 + r < _; omega
    · show 9223372036854775808 + r < _; omega
set_option maxHeartbeats 400000 in
theorem lawNear_any (s : Bool) (n e : Int) (w : World) :
    Calls Try.prog 3 #[.bool s, .int .i64 n, .int .i64 e] w fun r w' => r = .returned (.bool true) ∧ Below w.heap.size w w' := by
  have H1 : Hid _ := fun w => specNear_any s n e w
  have H2 : Hid _ := fun w => implNear_any s n e w
  have HS : Hid _ := fun w => same_self (fw s (u64n n) e) (near_lt s _ e (u64n_lt n)) w
  generalize fw s (u64n n) e = b at *
  go_enter Try.func3, Try.ntmps3
  go_wp2_with (go_at_call 4; refine (H1.out _).mono ?_; rintro e w' ⟨rfl, rfl⟩)
  refine (H2.out _).mono ?_
  rintro e w2 ⟨rfl, hb⟩
  have HB : Hid _ := fun (_ : Unit) => hb
  clear hb H1 H2
  go_wp2_with (go_at_call 6; refine (HS.out _).mono ?_; rintro e w' ⟨rfl, rfl⟩)
  go_ret
  exact ⟨rfl, HB.out ()⟩
end Go.Proofs.Ytlmddccgkpmhcaa

