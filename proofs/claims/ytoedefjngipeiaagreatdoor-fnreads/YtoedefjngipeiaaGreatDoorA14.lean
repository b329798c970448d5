import Derived.Test.YtoedefjngipeiaaGreatDoorA13
import Derived.Laws.FloatBits
import Derived.Test.YtoedefjngipeiaaGreatDoorA03
/- Float operations that the drawing of floats makes: plain. -/
namespace Go.Proofs.YtoedefjngipeiaaGreatDoor
open Ieee (double)

theorem width_64 : (2 : Nat) ^ double.width = 18446744073709551616 := by decide
/-- A quotient of two numbers, the second not 0. -/
theorem div_rep (s t : Bool) (a b : Nat) (i j : Int) (ha : Rep a i) (hb : Rep b j) (h0 : 0 < b) : ∃ r, double.div (fw s a i) (fw t b j) = some r ∧ r < 18446744073709551616 := by
  obtain ⟨m, p, hc, hw, _, _⟩ := rep_canon a i ha
  obtain ⟨n, q, kc, kw, _, k0⟩ := rep_canon b j hb
  have hn := k0 h0
  have : ∃ r, double.div (fw s a i) (fw t b j) = some r := by
    rw [hw s, kw t]
    unfold Ieee.Format.div
    rw [read_canon s m p hc, read_canon t n q kc]
    obtain ⟨n', rfl⟩ : ∃ n', n = n' + 1 := ⟨n - 1, by omega⟩
    cases m <;> exact ⟨_, rfl⟩
  obtain ⟨r, hr⟩ := this
  exact ⟨r, hr, by rw [← width_64]; exact double.div_lt hr⟩
theorem bits_100 : (4636737291354636288 : Nat) = fw false 100 0 := by
  have e := fw_scale false 100 46 0
  rw [show (0 : Int) - ((46 : Nat) : Int) = -46 by omega, show 100 * 2 ^ 46 = 7036874417766400 by decide, fw_canon _ _ _ (.inl ⟨by omega, by omega, by omega, by omega⟩)] at e
  rw [← e]; decide
theorem bits_eighth : (4593671619917905920 : Nat) = fw false 4503599627370496 (-3 - 52) := by rw [fw_canon _ _ _ (.inl ⟨by omega, by omega, by omega, by omega⟩)]; decide
theorem minus_one_by_zero : double.div 13830554455654793216 0 = some (iw true) := by decide
theorem fw_word (s : Bool) (m : Nat) (e : Int) : fw s m e < 18446744073709551616 := by rw [← width_64]; exact double.nearest_lt s m e
/-- A minus ahead of a word. -/
theorem neg_lt (x : Nat) (h : x < 18446744073709551616) : Op.negFloat .f64 x < 18446744073709551616 := by
  rcases Nat.lt_or_ge x 9223372036854775808 with h1 | h1
  · have := neg_word false x h1
    rw [show signBit false + x = x from Nat.zero_add x] at this
    rw [this]
    show 9223372036854775808 + x < _
    omega
  · obtain ⟨r, rfl⟩ : ∃ r, x = signBit true + r := ⟨x - 9223372036854775808, by show x = 9223372036854775808 + _; omega⟩
    have hr : r < 9223372036854775808 := by have : signBit true = 9223372036854775808 := rfl; omega
    rw [neg_word true r hr]
    show 0 + r < _
    omega
end Go.Proofs.YtoedefjngipeiaaGreatDoor

/- l2nan of the specification. -/
namespace Go.Proofs.YtoedefjngipeiaaGreatDoor
open Go.ChangeShapes Go.WideShapes Go.RowKit
open Ieee (double)

set_option maxHeartbeats 400000 in
theorem l2nan_any (w : World) : Calls Tryz.prog 37 #[] w fun e w' => ∃ b, IsNan b ∧ b < 18446744073709551616 ∧ e = .returned (.float .f64 b) ∧ w' = w.drew := by
  obtain ⟨b, hb, hlt, hrun⟩ := run_nan (P := Tryz.prog) 23 w
  go_enter Tryz.func37, Tryz.ntmps37
  go_wp2
  go_ret
  exact ⟨b, hb, hlt, rfl, rfl⟩
end Go.Proofs.YtoedefjngipeiaaGreatDoor

/- l2inf of the specification. -/
namespace Go.Proofs.YtoedefjngipeiaaGreatDoor
open Go.ChangeShapes Go.WideShapes Go.RowKit
open Ieee (double)

set_option maxHeartbeats 400000 in
theorem l2inf_any (w : World) : Calls Tryz.prog 39 #[] w fun e w' => e = .returned (.float .f64 (iw false)) ∧ w' = w := by
  have hd := run_valid (P := Tryz.prog) .quo 23 4607182418800017408 0 (iw false) (one_by_zero false)
  go_enter Tryz.func39, Tryz.ntmps39
  go_wp2
  go_ret
  exact ⟨rfl, rfl⟩
end Go.Proofs.YtoedefjngipeiaaGreatDoor

/- l2signed of the specification. -/
namespace Go.Proofs.YtoedefjngipeiaaGreatDoor
open Go.ChangeShapes Go.WideShapes Go.RowKit
open Ieee (double)

set_option maxHeartbeats 400000 in
theorem l2signed_plus (x : Nat) (w : World) : Calls Tryz.prog 38 #[.bool false, .float .f64 x] w fun e w' => e = .returned (.float .f64 x) ∧ w' = w := by
  go_enter Tryz.func38, Tryz.ntmps38
  go_wp2
  go_ret
  exact ⟨rfl, rfl⟩
set_option maxHeartbeats 400000 in
theorem l2signed_minus (x y : Nat) (hy : Op.negFloat .f64 x = y) (w : World) : Calls Tryz.prog 38 #[.bool true, .float .f64 x] w fun e w' => e = .returned (.float .f64 y) ∧ w' = w := by
  have hng := run_neg x
  rw [hy] at hng
  clear hy
  go_enter Tryz.func38, Tryz.ntmps38
  go_wp2
  go_ret
  exact ⟨rfl, rfl⟩
/-- A sign given to a number. -/
theorem l2signed_fw (s : Bool) (m : Nat) (p : Int) (h : Rep m p) (w : World) : Calls Tryz.prog 38 #[.bool s, .float .f64 (fw false m p)] w fun e w' => e = .returned (.float .f64 (fw s m p)) ∧ w' = w := by
  cases s
  · exact l2signed_plus _ w
  · exact l2signed_minus _ _ (neg_rep false m p h) w
theorem l2signed_iw (s : Bool) (w : World) : Calls Tryz.prog 38 #[.bool s, .float .f64 (iw false)] w fun e w' => e = .returned (.float .f64 (iw s)) ∧ w' = w := by
  cases s
  · exact l2signed_plus _ w
  · exact l2signed_minus _ _ (neg_iw false) w
end Go.Proofs.YtoedefjngipeiaaGreatDoor

