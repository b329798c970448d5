/- l2raw of the specification: the bits of a float's size. -/
import Derived.Test.YtaibdcpngbfmiabDoorFltP
namespace Go.Proofs.YtaibdcpngbfmiabDoor
open Go.ChangeShapes Go.WideShapes Go.RowKit
open Ieee (double)

set_option maxHeartbeats 400000 in
theorem raw_nan (x : Nat) (h : IsNan x) (w : World) :
    Calls Tryd.prog 7 #[.float .f64 x] w fun e w' => e = .returned (.tuple #[.bool false, .int .u64 9221120237041090560]) ∧ w' = w := by
  have hn : (FloatKind.f64.format.order x x != some .eq) = true := nan_neq x h
  go_enter Tryd.func7, Tryd.ntmps7
  go_wp2
  go_ret2
  exact ⟨rfl, rfl⟩

set_option maxHeartbeats 400000 in
theorem raw_inf (s : Bool) (w : World) :
    Calls Tryd.prog 7 #[.float .f64 (iw s)] w fun e w' => e = .returned (.tuple #[.bool s, .int .u64 9218868437227405312]) ∧ w' = w := by
  have hn : FloatKind.f64.format.order (iw s) (iw s) = some .eq := order_self_iw s
  have hm : FloatKind.f64.format.order (iw false) 9218868437227405311 = some .gt := ord_inf_most
  have hf : FloatKind.f64.format.order (iw false) 0 = some .gt := ord_inf_zero false
  have hng := run_neg (iw true)
  rw [neg_iw true] at hng
  cases s
  · go_enter Tryd.func7, Tryd.ntmps7
    go_wp2
    go_ret2
    exact ⟨rfl, rfl⟩
  · have ht : FloatKind.f64.format.order (iw true) 0 = some .lt := ord_inf_zero true
    go_enter Tryd.func7, Tryd.ntmps7
    go_wp2
    go_ret2
    exact ⟨rfl, rfl⟩

set_option maxHeartbeats 400000 in
theorem raw_zero (s : Bool) (w : World) :
    Calls Tryd.prog 7 #[.float .f64 (signBit s)] w fun e w' => e = .returned (.tuple #[.bool s, .int .u64 0]) ∧ w' = w := by
  have hn : FloatKind.f64.format.order (signBit s) (signBit s) = some .eq := by
    have := order_self_fw s 0 (-1074) canon_zero
    rw [fw_zero] at this
    exact this
  have hz : FloatKind.f64.format.order (signBit s) 0 = some .eq := ord_zeros s
  have hz0 : FloatKind.f64.format.order (signBit false) 0 = some .eq := ord_zeros false
  have hd := run_valid (P := Tryd.prog) .quo 22 _ _ _ (one_by_zero s)
  have hi : FloatKind.f64.format.order (iw s) 0 = some (if s then .lt else .gt) := ord_inf_zero s
  have hng := run_neg (signBit true)
  rw [show Op.negFloat .f64 (signBit true) = signBit false from neg_word true 0 (by omega)] at hng
  cases s
  · go_enter Tryd.func7, Tryd.ntmps7
    go_wp2
    go_ret2
    exact ⟨rfl, rfl⟩
  · go_enter Tryd.func7, Tryd.ntmps7
    go_wp2
    go_ret2
    exact ⟨rfl, rfl⟩
end Go.Proofs.YtaibdcpngbfmiabDoor
