import Derived.Test.YtlmddccgkpmhcaaA09
/- Floats held against each other, as the laws do it. -/
namespace Go.Proofs.Ytlmddccgkpmhcaa
open Go.ChangeShapes Go.WideShapes Go.RowKit
open Ieee (double)

set_option maxHeartbeats 400000 in
theorem same_nan (x y : Nat) (hx : IsNan x) (hy : IsNan y) (w : World) :
    Calls Try.prog 6 #[.float .f64 x, .float .f64 y] w fun e w' => e = .returned (.bool true) ∧ w' = w := by
  have h1 : (FloatKind.f64.format.order x x != some .eq) = true := nan_neq x hx
  have h2 : (FloatKind.f64.format.order y y != some .eq) = true := nan_neq y hy
  go_enter Try.func6, Try.ntmps6
  go_wp2
  go_ret
  exact ⟨rfl, rfl⟩
set_option maxHeartbeats 400000 in
theorem same_inf (s : Bool) (w : World) :
    Calls Try.prog 6 #[.float .f64 (iw s), .float .f64 (iw s)] w fun e w' => e = .returned (.bool true) ∧ w' = w := by
  have hn : FloatKind.f64.format.order (iw s) (iw s) = some .eq := order_self_iw s
  have hz : FloatKind.f64.format.order (iw s) 0 = some (if s then .lt else .gt) := ord_inf_zero s
  cases s
  all_goals
    go_enter Try.func6, Try.ntmps6
    go_wp2
    go_ret
    exact ⟨rfl, rfl⟩
set_option maxHeartbeats 400000 in
theorem same_zero (s : Bool) (w : World) :
    Calls Try.prog 6 #[.float .f64 (signBit s), .float .f64 (signBit s)] w fun e w' => e = .returned (.bool true) ∧ w' = w := by
  have hn : FloatKind.f64.format.order (signBit s) (signBit s) = some .eq := by
    have := order_self_fw s 0 (-1074) canon_zero
    rw [fw_zero] at this
    exact this
  have hz : FloatKind.f64.format.order (signBit s) 0 = some .eq := ord_zeros s
  have hd := run_valid (P := Try.prog) .quo 22 _ _ _ (one_by_zero s)
  have hi : FloatKind.f64.format.order (iw s) 0 = some (if s then .lt else .gt) := ord_inf_zero s
  cases s
  all_goals
    go_enter Try.func6, Try.ntmps6
    go_wp2
    go_ret
    exact ⟨rfl, rfl⟩
set_option maxHeartbeats 400000 in
theorem same_number (s : Bool) (m : Nat) (p : Int) (hc : Canon m p) (h0 : 0 < m) (w : World) :
    Calls Try.prog 6 #[.float .f64 (fw s m p), .float .f64 (fw s m p)] w fun e w' => e = .returned (.bool true) ∧ w' = w := by
  have hn : FloatKind.f64.format.order (fw s m p) (fw s m p) = some .eq := order_self_fw s m p hc
  have hz : FloatKind.f64.format.order (fw s m p) 0 = some (if s then .lt else .gt) := ord_zero s m p (canon_rep m p hc) h0
  clear hc
  cases s
  all_goals
    go_enter Try.func6, Try.ntmps6
    go_wp2
    go_ret
    exact ⟨rfl, rfl⟩
/-- One float is the same as itself. -/
theorem same_self (x : Nat) (hx : x < 18446744073709551616) (w : World) :
    Calls Try.prog 6 #[.float .f64 x, .float .f64 x] w fun e w' => e = .returned (.bool true) ∧ w' = w := by
  rcases float_cases x hx with h | ⟨s, rfl⟩ | ⟨s, n, p, hc, rfl⟩
  · exact same_nan x x h h w
  · exact same_inf s w
  · by_cases h0 : n = 0
    · subst h0; rw [fw_zero]; exact same_zero s w
    · exact same_number s n p hc (by omega) w
end Go.Proofs.Ytlmddccgkpmhcaa

