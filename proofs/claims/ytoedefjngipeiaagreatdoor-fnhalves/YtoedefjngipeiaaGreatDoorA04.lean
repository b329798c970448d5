import Derived.Test.YtoedefjngipeiaaGreatDoorA03
import Derived.Lib.TrailingZeros
import Derived.Test.YtoedefjngipeiaaGreatDoorRows
import Derived.ProofKit
import Derived.LaidMore
import Derived.LaidHandle
import Derived.OpenShut
import Derived.OpenVars
import Derived.Lib.LaidTab
import Derived.Stop.Joined
import Derived.SevenTiedAt
/- bits.TrailingZeros64: how often 2 divides a number. -/
namespace Go.Proofs.YtoedefjngipeiaaGreatDoor
open Go.ChangeShapes Go.WideShapes Go.RowKit
open Ieee (double)

/-- The table of the library's, as it lies. -/
def DTab (w : World) : Prop := ∀ j, j < 64 → w.cell? ⟨1, j, none⟩ = some (.int .u8 (Lib.deBruijn64tab.getD j 0))
theorem DTab.below {w w' : World} (h : DTab w) (hz : 1 < w.heap.size) (hb : Below w.heap.size w w') : DTab w' := fun j hj => by
  rw [hb.cell (p := ⟨1, j, none⟩) hz]; exact h j hj
theorem tz_vars (m q t : Nat) (h : m = q * 2 ^ t) (hq : q % 2 = 1) (hm : m < 18446744073709551616) (w : World) (hT : DTab w) : ∃ (Y P Z : Int) (i : Nat),
    IntKind.u64.wrap (-(m : Int)) = Y ∧ bits .and .u64 (m : Int) Y = P ∧ IntKind.u64.wrap (P * 285870213051353865) = Z ∧ Z / 288230376151711744 = (i : Int) ∧ i < 64 ∧ 0 ≤ Z ∧ Z < 18446744073709551616 ∧ t < 64 ∧ w.cell? ⟨1, i, none⟩ = some (.int .u8 (t : Int)) := by
  have h0 : 0 < m := by
    rw [h]; exact Nat.mul_pos (by omega) (Nat.two_pow_pos t)
  have ht : t < 64 := by
    apply Nat.lt_of_not_le
    intro hle
    have h1 : 2 ^ 64 ≤ 2 ^ t := Nat.pow_le_pow_right (by omega) hle
    have h2 : 1 * 2 ^ t ≤ q * 2 ^ t := Nat.mul_le_mul_right _ (by omega)
    have e64 : (2 : Nat) ^ 64 = 18446744073709551616 := rfl
    omega
  have hx : m = 2 ^ t * (2 * (q / 2) + 1) := by rw [h, Nat.mul_comm]; congr 1; omega
  have hand := Lib.and_neg 64 t (q / 2) (by rw [← hx]; exact hm)
  rw [← hx] at hand
  obtain ⟨hi, htab⟩ := Lib.deBruijn64_at t ht
  have e1 : IntKind.u64.wrap (-(m : Int)) = ((2 ^ 64 - m : Nat) : Int) := by rw [IntKind.wrap_u64]; omega
  have e2 : bits .and .u64 (m : Int) ((2 ^ 64 - m : Nat) : Int) = ((2 ^ t : Nat) : Int) := by
    rw [bits_and_u64_nat m _ hm (by omega), hand]
  have e3 : IntKind.u64.wrap (((2 ^ t : Nat) : Int) * 285870213051353865) = ((2 ^ t * 285870213051353865 % 18446744073709551616 : Nat) : Int) := by
    rw [IntKind.wrap_u64]; omega
  have hc := hT _ hi
  rw [htab] at hc
  refine ⟨_, _, _, _, e1, e2, e3, ?_, hi, by omega, ?_, ht, hc⟩
  · omega
  · have : 2 ^ t * 285870213051353865 % 18446744073709551616 < 18446744073709551616 := Nat.mod_lt _ (by omega)
    omega
set_option maxHeartbeats 400000 in
theorem tz_any (m q t : Nat) (h : m = q * 2 ^ t) (hq : q % 2 = 1) (hm : m < 18446744073709551616) (w : World) (hT : DTab w) :
    Calls Tryz.prog 27 #[.int .u64 (m : Int)] w fun e w' => e = .returned (.int .i64 (t : Int)) ∧ w' = w := by
  obtain ⟨Y, P, Z, i, e1, e2, e3, e4, hi, z0, z1, ht, hc⟩ := tz_vars m q t h hq hm w hT
  have m0 : ((m : Int) == 0) = false := by
    rw [beq_eq_false_iff_ne]
    have : 0 < m := by rw [h]; exact Nat.mul_pos (by omega) (Nat.two_pow_pos t)
    omega
  generalize (m : Int) = x at *
  have ht' : (t : Int) < 64 := by omega
  clear h hq hm hT ht
  go_enter Tryz.func27, Tryz.ntmps27
  go_wp2
  go_ret
  exact ⟨rfl, rfl⟩
end Go.Proofs.YtoedefjngipeiaaGreatDoor

/- What the listed table of the library's gives, beside a listed handle. -/
namespace Go.Proofs.YtoedefjngipeiaaGreatDoor
open Go.ChangeShapes Go.WideShapes Go.ChangeAt Go.WideMaps Go.WideElems Go.RowKit

theorem own : ownKnob Tryz.prog.godebug = none := by kernel_rfl
theorem laidOut : laidOutB Tryz.prog = true := by kernel_rfl
theorem gTab : Tryz.prog.globalNamed "math/bits.deBruijn64tab" = some 1 := by kernel_rfl
theorem tTab : (Tryz.prog.globals[1]?).map (·.type) = some 85 := by kernel_rfl
def laidList : List (String × DataW Unit) := [("math/bits.deBruijn64tab", Rows.laid_math_bits_deBruijn64tab), ("errors.errorType", Rows.laid_errors_errorType)]
def tabNums : List Int := Lib.deBruijn64tab.map fun (n : Nat) => (n : Int)
theorem tabNums_at : ∀ i : Fin 64, tabNums.getD i.val 0 = ((Lib.deBruijn64tab.getD i.val 0 : Nat) : Int) := by decide
theorem tab_of_laid {W : World} (h : laidMetH Tryz.prog laidList W) : DTab W ∧ 1 < W.heap.size := by
  have h' : laidMet Tryz.prog [("math/bits.deBruijn64tab", Rows.laid_math_bits_deBruijn64tab)] W ∧ handlesMet Tryz.prog [("errors.errorType", Rows.laid_errors_errorType)] W := h
  have ht : Lib.TabIs Tryz.prog W "math/bits.deBruijn64tab" .u8 tabNums :=
    Lib.tabIs_of_head (rest := []) gTab tTab Tryz.underlying85 Tryz.underlying5 (by kernel_rfl) (by kernel_rfl) h'.1
  have hc : DTab W := fun i hi => by
    have := ht.cell gTab i hi
    rw [this, tabNums_at ⟨i, hi⟩]
  refine ⟨hc, ?_⟩
  have h0 := hc 0 (by decide)
  by_cases hz : 1 < W.heap.size
  · exact hz
  · have e : W.heap[1]? = Option.none := Array.getElem?_eq_none (by omega)
    simp [World.cell?, e] at h0
theorem door_met (os : Os) (args : Array Value) : laidMetH Tryz.prog laidList ((World.doorLaid Tryz.prog 21 os).forCall (fun _ _ => 0) ⟨#[], args, []⟩).memory :=
  laidMetH_of_parts3 (fuel := 8) (laidMet_of_run' 8 (by kernel_rfl) (by kernel_rfl)) (by kernel_rfl) (by kernel_rfl)
end Go.Proofs.YtoedefjngipeiaaGreatDoor

/- l2raw of the specification: the bits of a float's size. -/
namespace Go.Proofs.YtoedefjngipeiaaGreatDoor
open Go.ChangeShapes Go.WideShapes Go.RowKit
open Ieee (double)

set_option maxHeartbeats 400000 in
theorem raw_nan (x : Nat) (h : IsNan x) (w : World) :
    Calls Tryz.prog 47 #[.float .f64 x] w fun e w' => e = .returned (.tuple #[.bool false, .int .u64 9221120237041090560]) ∧ w' = w := by
  have hn : (FloatKind.f64.format.order x x != some .eq) = true := nan_neq x h
  go_enter Tryz.func47, Tryz.ntmps47
  go_wp2
  go_ret2
  exact ⟨rfl, rfl⟩

set_option maxHeartbeats 400000 in
theorem raw_inf (s : Bool) (w : World) :
    Calls Tryz.prog 47 #[.float .f64 (iw s)] w fun e w' => e = .returned (.tuple #[.bool s, .int .u64 9218868437227405312]) ∧ w' = w := by
  have hn : FloatKind.f64.format.order (iw s) (iw s) = some .eq := order_self_iw s
  have hm : FloatKind.f64.format.order (iw false) 9218868437227405311 = some .gt := ord_inf_most
  have hf : FloatKind.f64.format.order (iw false) 0 = some .gt := ord_inf_zero false
  have hng := run_neg (iw true)
  rw [neg_iw true] at hng
  cases s
  · go_enter Tryz.func47, Tryz.ntmps47
    go_wp2
    go_ret2
    exact ⟨rfl, rfl⟩
  · have ht : FloatKind.f64.format.order (iw true) 0 = some .lt := ord_inf_zero true
    go_enter Tryz.func47, Tryz.ntmps47
    go_wp2
    go_ret2
    exact ⟨rfl, rfl⟩

set_option maxHeartbeats 400000 in
theorem raw_zero (s : Bool) (w : World) :
    Calls Tryz.prog 47 #[.float .f64 (signBit s)] w fun e w' => e = .returned (.tuple #[.bool s, .int .u64 0]) ∧ w' = w := by
  have hn : FloatKind.f64.format.order (signBit s) (signBit s) = some .eq := by
    have := order_self_fw s 0 (-1074) canon_zero
    rw [fw_zero] at this
    exact this
  have hz : FloatKind.f64.format.order (signBit s) 0 = some .eq := ord_zeros s
  have hz0 : FloatKind.f64.format.order (signBit false) 0 = some .eq := ord_zeros false
  have hd := run_valid (P := Tryz.prog) .quo 23 _ _ _ (one_by_zero s)
  have hi : FloatKind.f64.format.order (iw s) 0 = some (if s then .lt else .gt) := ord_inf_zero s
  have hng := run_neg (signBit true)
  rw [show Op.negFloat .f64 (signBit true) = signBit false from neg_word true 0 (by omega)] at hng
  cases s
  · go_enter Tryz.func47, Tryz.ntmps47
    go_wp2
    go_ret2
    exact ⟨rfl, rfl⟩
  · go_enter Tryz.func47, Tryz.ntmps47
    go_wp2
    go_ret2
    exact ⟨rfl, rfl⟩
end Go.Proofs.YtoedefjngipeiaaGreatDoor

