import Derived.Test.YtoedefjngipeiaaGreatDoorA29
import Derived.Test.YtoedefjngipeiaaGreatDoorA30
/- Up of the program. -/
namespace Go.Proofs.YtoedefjngipeiaaGreatDoor
open Go.ChangeShapes Go.WideShapes Go.RowKit
open Ieee (double)

set_option maxHeartbeats 1000000 in
theorem implUp_nan (U : Nat) (s : Bool) (M : Nat) (hM : M ≠ 0) (hL : Lays U s 2047 M) (w : World) :
    Calls Tryz.prog 6 #[.float .f64 U] w fun e w' => e = .returned (.float .f64 (U)) ∧ Below w.heap.size w w' := by
  have HL : Hid _ := fun w => layoutOf_any U s 2047 M hL w
  have HK : Hid _ := fun w => kind_nan s M hM w
  have HW : Hid _ := fun w => word_any false 0 1 (by omega) (by omega) w
  have HF : Hid _ := fun w => float_any false 0 1 (by omega) (by omega) w
  have m0 : ((M : Int) == 0) = false := beq_eq_false_iff_ne.2 (by omega)
  clear hL hM
  go_enter Tryz.func6, Tryz.ntmps6
  go_wp2_with (first | (go_at_call 18; refine (HL.out _).mono ?_; rintro e w' ⟨rfl, rfl⟩) | (go_at_call 20; refine (HK.out _).mono ?_; rintro e w' ⟨rfl, rfl⟩) | (go_at_call 23; refine (HW.out _).mono ?_; rintro e w' ⟨rfl, rfl⟩) | (go_at_call 21; refine (HF.out _).mono ?_; rintro e w' ⟨rfl, rfl⟩))
  go_region_with (go_at_call 19; refine (infinity_any _ _).mono ?_; rintro e w' ⟨rfl, rfl⟩)
  all_goals
    go_wp2_with (first | (go_at_call 18; refine (HL.out _).mono ?_; rintro e w' ⟨rfl, rfl⟩) | (go_at_call 20; refine (HK.out _).mono ?_; rintro e w' ⟨rfl, rfl⟩) | (go_at_call 23; refine (HW.out _).mono ?_; rintro e w' ⟨rfl, rfl⟩) | (go_at_call 21; refine (HF.out _).mono ?_; rintro e w' ⟨rfl, rfl⟩))
    go_ret
    exact ⟨rfl, (by repeat (first | exact Below.refl _ _ | refine Below.drew ?_ | refine below_drewN ?_ _ | refine Below.setCell ?_ (by simp <;> omega) _ | refine Below.alloc ?_ (by simp <;> omega) _))⟩
set_option maxHeartbeats 1000000 in
theorem implUp_inf (U : Nat) (hL : Lays U false 2047 0) (w : World) :
    Calls Tryz.prog 6 #[.float .f64 U] w fun e w' => e = .returned (.float .f64 (U)) ∧ Below w.heap.size w w' := by
  have HL : Hid _ := fun w => layoutOf_any U false 2047 0 hL w
  have HK : Hid _ := fun w => kind_inf false w
  have HW : Hid _ := fun w => word_any false 0 1 (by omega) (by omega) w
  have HF : Hid _ := fun w => float_any false 0 1 (by omega) (by omega) w
  clear hL
  go_enter Tryz.func6, Tryz.ntmps6
  go_wp2_with (first | (go_at_call 18; refine (HL.out _).mono ?_; rintro e w' ⟨rfl, rfl⟩) | (go_at_call 20; refine (HK.out _).mono ?_; rintro e w' ⟨rfl, rfl⟩) | (go_at_call 23; refine (HW.out _).mono ?_; rintro e w' ⟨rfl, rfl⟩) | (go_at_call 21; refine (HF.out _).mono ?_; rintro e w' ⟨rfl, rfl⟩))
  go_region_with (go_at_call 19; refine (infinity_any _ _).mono ?_; rintro e w' ⟨rfl, rfl⟩)
  all_goals
    go_wp2_with (first | (go_at_call 18; refine (HL.out _).mono ?_; rintro e w' ⟨rfl, rfl⟩) | (go_at_call 20; refine (HK.out _).mono ?_; rintro e w' ⟨rfl, rfl⟩) | (go_at_call 23; refine (HW.out _).mono ?_; rintro e w' ⟨rfl, rfl⟩) | (go_at_call 21; refine (HF.out _).mono ?_; rintro e w' ⟨rfl, rfl⟩))
    go_ret
    exact ⟨rfl, (by repeat (first | exact Below.refl _ _ | refine Below.drew ?_ | refine below_drewN ?_ _ | refine Below.setCell ?_ (by simp <;> omega) _ | refine Below.alloc ?_ (by simp <;> omega) _))⟩
set_option maxHeartbeats 1000000 in
theorem implUp_zero (U : Nat) (s : Bool) (hL : Lays U s 0 0) (w : World) :
    Calls Tryz.prog 6 #[.float .f64 U] w fun e w' => e = .returned (.float .f64 (1)) ∧ Below w.heap.size w w' := by
  have HL : Hid _ := fun w => layoutOf_any U s 0 0 hL w
  have HK : Hid _ := fun w => kind_zero s w
  have HW : Hid _ := fun w => word_any false 0 1 (by omega) (by omega) w
  have HF : Hid (∀ w, Calls Tryz.prog 21 #[.agg #[.bool false, .int .u64 ((0 : Nat) : Int), .int .u64 ((1 : Nat) : Int)]] w fun e w' => e = .returned (.float .f64 1) ∧ w' = (w.alloc (.cells #[.bool false, .int .u64 ((0 : Nat) : Int), .int .u64 ((1 : Nat) : Int)] 45)).alloc (.cells #[.bool false, .int .u64 ((0 : Nat) : Int), .int .u64 ((1 : Nat) : Int)] 45)) := fun w => by
    have h := float_any false 0 1 (by omega) (by omega) w
    rw [show signBit false + (0 * 4503599627370496 + 1) = 1 by decide] at h
    exact h
  clear hL
  go_enter Tryz.func6, Tryz.ntmps6
  go_wp2_with (first | (go_at_call 18; refine (HL.out _).mono ?_; rintro e w' ⟨rfl, rfl⟩) | (go_at_call 20; refine (HK.out _).mono ?_; rintro e w' ⟨rfl, rfl⟩) | (go_at_call 23; refine (HW.out _).mono ?_; rintro e w' ⟨rfl, rfl⟩) | (go_at_call 21; refine (HF.out _).mono ?_; rintro e w' ⟨rfl, rfl⟩))
  go_region_with (go_at_call 19; refine (infinity_any _ _).mono ?_; rintro e w' ⟨rfl, rfl⟩)
  all_goals
    go_wp2_with (first | (go_at_call 18; refine (HL.out _).mono ?_; rintro e w' ⟨rfl, rfl⟩) | (go_at_call 20; refine (HK.out _).mono ?_; rintro e w' ⟨rfl, rfl⟩) | (go_at_call 23; refine (HW.out _).mono ?_; rintro e w' ⟨rfl, rfl⟩) | (go_at_call 21; refine (HF.out _).mono ?_; rintro e w' ⟨rfl, rfl⟩))
    go_ret
    exact ⟨rfl, (by repeat (first | exact Below.refl _ _ | refine Below.drew ?_ | refine below_drewN ?_ _ | refine Below.setCell ?_ (by simp <;> omega) _ | refine Below.alloc ?_ (by simp <;> omega) _))⟩
set_option maxHeartbeats 1000000 in
theorem implUp_small_minus (U : Nat) (M : Nat) (hM : M ≠ 0) (hM' : M < 4503599627370496) (hU : U = signBit true + (0 * 4503599627370496 + M)) (hL : Lays U true 0 M) (w : World) :
    Calls Tryz.prog 6 #[.float .f64 U] w fun e w' => e = .returned (.float .f64 (U - 1)) ∧ Below w.heap.size w w' := by
  have HL : Hid _ := fun w => layoutOf_any U true 0 M hL w
  have HK : Hid _ := fun w => kind_small true M hM w
  have HW : Hid (∀ w, Calls Tryz.prog 23 #[.agg #[.bool true, .int .u64 ((0 : Nat) : Int), .int .u64 ((M : Nat) : Int)]] w fun e w' => e = .returned (.int .u64 (U : Int)) ∧ w' = w.alloc (.cells #[.bool true, .int .u64 ((0 : Nat) : Int), .int .u64 ((M : Nat) : Int)] 45)) := fun w => by
    have h := word_any true 0 M (by omega) (by omega) w
    rw [← hU] at h
    exact h
  have HF : Hid _ := fun w => float_any false 0 1 (by omega) (by omega) w
  have m0 : ((M : Int) == 0) = false := beq_eq_false_iff_ne.2 (by omega)
  have hc := call_frombits ((U : Int) - 1)
  rw [show ((U : Int) - 1).toNat = U - 1 by omega] at hc
  have hU0 : (0 : Int) ≤ (U : Int) - 1 := by have : signBit true = 9223372036854775808 := rfl; omega
  have hU1 : (U : Int) - 1 < 18446744073709551616 := by have : signBit true = 9223372036854775808 := rfl; omega
  clear hL hM hM' hU
  go_enter Tryz.func6, Tryz.ntmps6
  go_wp2_with (first | (go_at_call 18; refine (HL.out _).mono ?_; rintro e w' ⟨rfl, rfl⟩) | (go_at_call 20; refine (HK.out _).mono ?_; rintro e w' ⟨rfl, rfl⟩) | (go_at_call 23; refine (HW.out _).mono ?_; rintro e w' ⟨rfl, rfl⟩) | (go_at_call 21; refine (HF.out _).mono ?_; rintro e w' ⟨rfl, rfl⟩))
  go_region_with (go_at_call 19; refine (infinity_any _ _).mono ?_; rintro e w' ⟨rfl, rfl⟩)
  all_goals
    go_wp2_with (first | (go_at_call 18; refine (HL.out _).mono ?_; rintro e w' ⟨rfl, rfl⟩) | (go_at_call 20; refine (HK.out _).mono ?_; rintro e w' ⟨rfl, rfl⟩) | (go_at_call 23; refine (HW.out _).mono ?_; rintro e w' ⟨rfl, rfl⟩) | (go_at_call 21; refine (HF.out _).mono ?_; rintro e w' ⟨rfl, rfl⟩))
    go_ret
    exact ⟨rfl, (by repeat (first | exact Below.refl _ _ | refine Below.drew ?_ | refine below_drewN ?_ _ | refine Below.setCell ?_ (by simp <;> omega) _ | refine Below.alloc ?_ (by simp <;> omega) _))⟩
set_option maxHeartbeats 1000000 in
theorem implUp_normal_minus (U : Nat) (E M : Nat) (h1 : 1 ≤ E) (h2 : E ≤ 2046) (hM' : M < 4503599627370496) (hU : U = signBit true + (E * 4503599627370496 + M)) (hL : Lays U true E M) (w : World) :
    Calls Tryz.prog 6 #[.float .f64 U] w fun e w' => e = .returned (.float .f64 (U - 1)) ∧ Below w.heap.size w w' := by
  have HL : Hid _ := fun w => layoutOf_any U true E M hL w
  have HK : Hid _ := fun w => kind_normal true E M h1 h2 w
  have HW : Hid (∀ w, Calls Tryz.prog 23 #[.agg #[.bool true, .int .u64 ((E : Nat) : Int), .int .u64 ((M : Nat) : Int)]] w fun e w' => e = .returned (.int .u64 (U : Int)) ∧ w' = w.alloc (.cells #[.bool true, .int .u64 ((E : Nat) : Int), .int .u64 ((M : Nat) : Int)] 45)) := fun w => by
    have h := word_any true E M (by omega) (by omega) w
    rw [← hU] at h
    exact h
  have HF : Hid _ := fun w => float_any false 0 1 (by omega) (by omega) w
  have e0 : ((E : Int) == 0) = false := beq_eq_false_iff_ne.2 (by omega)
  have e1 : ((E : Int) == 2047) = false := beq_eq_false_iff_ne.2 (by omega)
  have hc := call_frombits ((U : Int) - 1)
  rw [show ((U : Int) - 1).toNat = U - 1 by omega] at hc
  have hU0 : (0 : Int) ≤ (U : Int) - 1 := by have : signBit true = 9223372036854775808 := rfl; omega
  have hU1 : (U : Int) - 1 < 18446744073709551616 := by have : signBit true = 9223372036854775808 := rfl; omega
  clear hL h1 h2 hM' hU
  go_enter Tryz.func6, Tryz.ntmps6
  go_wp2_with (first | (go_at_call 18; refine (HL.out _).mono ?_; rintro e w' ⟨rfl, rfl⟩) | (go_at_call 20; refine (HK.out _).mono ?_; rintro e w' ⟨rfl, rfl⟩) | (go_at_call 23; refine (HW.out _).mono ?_; rintro e w' ⟨rfl, rfl⟩) | (go_at_call 21; refine (HF.out _).mono ?_; rintro e w' ⟨rfl, rfl⟩))
  go_region_with (go_at_call 19; refine (infinity_any _ _).mono ?_; rintro e w' ⟨rfl, rfl⟩)
  all_goals
    go_wp2_with (first | (go_at_call 18; refine (HL.out _).mono ?_; rintro e w' ⟨rfl, rfl⟩) | (go_at_call 20; refine (HK.out _).mono ?_; rintro e w' ⟨rfl, rfl⟩) | (go_at_call 23; refine (HW.out _).mono ?_; rintro e w' ⟨rfl, rfl⟩) | (go_at_call 21; refine (HF.out _).mono ?_; rintro e w' ⟨rfl, rfl⟩))
    go_ret
    exact ⟨rfl, (by repeat (first | exact Below.refl _ _ | refine Below.drew ?_ | refine below_drewN ?_ _ | refine Below.setCell ?_ (by simp <;> omega) _ | refine Below.alloc ?_ (by simp <;> omega) _))⟩
set_option maxHeartbeats 1000000 in
theorem implUp_inf_minus (U : Nat) (hU : U = signBit true + (2047 * 4503599627370496 + 0)) (hL : Lays U true 2047 0) (w : World) :
    Calls Tryz.prog 6 #[.float .f64 U] w fun e w' => e = .returned (.float .f64 (U - 1)) ∧ Below w.heap.size w w' := by
  have HL : Hid _ := fun w => layoutOf_any U true 2047 0 hL w
  have HK : Hid _ := fun w => kind_inf true w
  have HW : Hid (∀ w, Calls Tryz.prog 23 #[.agg #[.bool true, .int .u64 ((2047 : Nat) : Int), .int .u64 ((0 : Nat) : Int)]] w fun e w' => e = .returned (.int .u64 (U : Int)) ∧ w' = w.alloc (.cells #[.bool true, .int .u64 ((2047 : Nat) : Int), .int .u64 ((0 : Nat) : Int)] 45)) := fun w => by
    have h := word_any true 2047 0 (by omega) (by omega) w
    rw [← hU] at h
    exact h
  have HF : Hid _ := fun w => float_any false 0 1 (by omega) (by omega) w
  have hc := call_frombits ((U : Int) - 1)
  rw [show ((U : Int) - 1).toNat = U - 1 by omega] at hc
  have hU0 : (0 : Int) ≤ (U : Int) - 1 := by have : signBit true = 9223372036854775808 := rfl; omega
  have hU1 : (U : Int) - 1 < 18446744073709551616 := by have : signBit true = 9223372036854775808 := rfl; omega
  clear hL hU
  go_enter Tryz.func6, Tryz.ntmps6
  go_wp2_with (first | (go_at_call 18; refine (HL.out _).mono ?_; rintro e w' ⟨rfl, rfl⟩) | (go_at_call 20; refine (HK.out _).mono ?_; rintro e w' ⟨rfl, rfl⟩) | (go_at_call 23; refine (HW.out _).mono ?_; rintro e w' ⟨rfl, rfl⟩) | (go_at_call 21; refine (HF.out _).mono ?_; rintro e w' ⟨rfl, rfl⟩))
  go_region_with (go_at_call 19; refine (infinity_any _ _).mono ?_; rintro e w' ⟨rfl, rfl⟩)
  all_goals
    go_wp2_with (first | (go_at_call 18; refine (HL.out _).mono ?_; rintro e w' ⟨rfl, rfl⟩) | (go_at_call 20; refine (HK.out _).mono ?_; rintro e w' ⟨rfl, rfl⟩) | (go_at_call 23; refine (HW.out _).mono ?_; rintro e w' ⟨rfl, rfl⟩) | (go_at_call 21; refine (HF.out _).mono ?_; rintro e w' ⟨rfl, rfl⟩))
    go_ret
    exact ⟨rfl, (by repeat (first | exact Below.refl _ _ | refine Below.drew ?_ | refine below_drewN ?_ _ | refine Below.setCell ?_ (by simp <;> omega) _ | refine Below.alloc ?_ (by simp <;> omega) _))⟩
end Go.Proofs.YtoedefjngipeiaaGreatDoor

/- Up of the program: above zero. -/
namespace Go.Proofs.YtoedefjngipeiaaGreatDoor
open Go.ChangeShapes Go.WideShapes Go.RowKit
open Ieee (double)

set_option maxRecDepth 100000 in
set_option maxHeartbeats 1000000 in
theorem implUp_small_plus (U : Nat) (M : Nat) (hM : M ≠ 0) (hM' : M < 4503599627370496) (hU : U = signBit false + (0 * 4503599627370496 + M)) (hL : Lays U false 0 M) (w : World) :
    Calls Tryz.prog 6 #[.float .f64 U] w fun e w' => e = .returned (.float .f64 (U + 1)) ∧ Below w.heap.size w w' := by
  obtain ⟨V, hV⟩ : ∃ V : Int, V = (U : Int) := ⟨_, rfl⟩
  have HL : Hid _ := fun w => layoutOf_any U false 0 M hL w
  have HK : Hid _ := fun w => kind_small false M hM w
  have HW : Hid (∀ w, Calls Tryz.prog 23 #[.agg #[.bool false, .int .u64 ((0 : Nat) : Int), .int .u64 ((M : Nat) : Int)]] w fun e w' => e = .returned (.int .u64 V) ∧ w' = w.alloc (.cells #[.bool false, .int .u64 ((0 : Nat) : Int), .int .u64 ((M : Nat) : Int)] 45)) := fun w => by
    have h := word_any false 0 M (by omega) (by omega) w
    rw [← hU, ← hV] at h
    exact h
  have HF : Hid _ := fun w => float_any false 0 1 (by omega) (by omega) w
  have m0 : ((M : Int) == 0) = false := beq_eq_false_iff_ne.2 (by omega)
  have hc := call_frombits (V + 1)
  rw [show (V + 1).toNat = U + 1 by omega] at hc
  have hV1 : V + 1 < 18446744073709551616 := by have : signBit false = 0 := rfl; omega
  have hV0 : 0 ≤ V + 1 := by omega
  clear hL hM hM' hU hV
  go_enter Tryz.func6, Tryz.ntmps6
  go_wp2_with (first | (go_at_call 18; refine (HL.out _).mono ?_; rintro e w' ⟨rfl, rfl⟩) | (go_at_call 20; refine (HK.out _).mono ?_; rintro e w' ⟨rfl, rfl⟩) | (go_at_call 23; refine (HW.out _).mono ?_; rintro e w' ⟨rfl, rfl⟩) | (go_at_call 21; refine (HF.out _).mono ?_; rintro e w' ⟨rfl, rfl⟩))
  go_region_with (go_at_call 19; refine (infinity_any _ _).mono ?_; rintro e w' ⟨rfl, rfl⟩)
  all_goals
    go_wp2_with (first | (go_at_call 18; refine (HL.out _).mono ?_; rintro e w' ⟨rfl, rfl⟩) | (go_at_call 20; refine (HK.out _).mono ?_; rintro e w' ⟨rfl, rfl⟩) | (go_at_call 23; refine (HW.out _).mono ?_; rintro e w' ⟨rfl, rfl⟩) | (go_at_call 21; refine (HF.out _).mono ?_; rintro e w' ⟨rfl, rfl⟩))
    go_ret
    exact ⟨rfl, (by repeat (first | exact Below.refl _ _ | refine Below.drew ?_ | refine below_drewN ?_ _ | refine Below.setCell ?_ (by simp <;> omega) _ | refine Below.alloc ?_ (by simp <;> omega) _))⟩
set_option maxRecDepth 100000 in
set_option maxHeartbeats 1000000 in
theorem implUp_normal_plus (U : Nat) (E M : Nat) (h1 : 1 ≤ E) (h2 : E ≤ 2046) (hM' : M < 4503599627370496) (hU : U = signBit false + (E * 4503599627370496 + M)) (hL : Lays U false E M) (w : World) :
    Calls Tryz.prog 6 #[.float .f64 U] w fun e w' => e = .returned (.float .f64 (U + 1)) ∧ Below w.heap.size w w' := by
  obtain ⟨V, hV⟩ : ∃ V : Int, V = (U : Int) := ⟨_, rfl⟩
  have HL : Hid _ := fun w => layoutOf_any U false E M hL w
  have HK : Hid _ := fun w => kind_normal false E M h1 h2 w
  have HW : Hid (∀ w, Calls Tryz.prog 23 #[.agg #[.bool false, .int .u64 ((E : Nat) : Int), .int .u64 ((M : Nat) : Int)]] w fun e w' => e = .returned (.int .u64 V) ∧ w' = w.alloc (.cells #[.bool false, .int .u64 ((E : Nat) : Int), .int .u64 ((M : Nat) : Int)] 45)) := fun w => by
    have h := word_any false E M (by omega) (by omega) w
    rw [← hU, ← hV] at h
    exact h
  have HF : Hid _ := fun w => float_any false 0 1 (by omega) (by omega) w
  have e0 : ((E : Int) == 0) = false := beq_eq_false_iff_ne.2 (by omega)
  have e1 : ((E : Int) == 2047) = false := beq_eq_false_iff_ne.2 (by omega)
  have hc := call_frombits (V + 1)
  rw [show (V + 1).toNat = U + 1 by omega] at hc
  have hV1 : V + 1 < 18446744073709551616 := by have : signBit false = 0 := rfl; omega
  have hV0 : 0 ≤ V + 1 := by omega
  clear hL h1 h2 hM' hU hV
  go_enter Tryz.func6, Tryz.ntmps6
  go_wp2_with (first | (go_at_call 18; refine (HL.out _).mono ?_; rintro e w' ⟨rfl, rfl⟩) | (go_at_call 20; refine (HK.out _).mono ?_; rintro e w' ⟨rfl, rfl⟩) | (go_at_call 23; refine (HW.out _).mono ?_; rintro e w' ⟨rfl, rfl⟩) | (go_at_call 21; refine (HF.out _).mono ?_; rintro e w' ⟨rfl, rfl⟩))
  go_region_with (go_at_call 19; refine (infinity_any _ _).mono ?_; rintro e w' ⟨rfl, rfl⟩)
  all_goals
    go_wp2_with (first | (go_at_call 18; refine (HL.out _).mono ?_; rintro e w' ⟨rfl, rfl⟩) | (go_at_call 20; refine (HK.out _).mono ?_; rintro e w' ⟨rfl, rfl⟩) | (go_at_call 23; refine (HW.out _).mono ?_; rintro e w' ⟨rfl, rfl⟩) | (go_at_call 21; refine (HF.out _).mono ?_; rintro e w' ⟨rfl, rfl⟩))
    go_ret
    exact ⟨rfl, (by repeat (first | exact Below.refl _ _ | refine Below.drew ?_ | refine below_drewN ?_ _ | refine Below.setCell ?_ (by simp <;> omega) _ | refine Below.alloc ?_ (by simp <;> omega) _))⟩
end Go.Proofs.YtoedefjngipeiaaGreatDoor

/- The law on Up, walked. -/
namespace Go.Proofs.YtoedefjngipeiaaGreatDoor
open Go.ChangeShapes Go.WideShapes Go.RowKit
open Ieee (double)

/-- A number's place in the word. -/
theorem up_parts (s : Bool) (m : Nat) (p : Int) (hc : Canon m p) (h0 : 0 < m) :
    (∃ M, M ≠ 0 ∧ M < 4503599627370496 ∧ fw s m p = signBit s + (0 * 4503599627370496 + M)) ∨ (∃ E M, 1 ≤ E ∧ E ≤ 2046 ∧ M < 4503599627370496 ∧ fw s m p = signBit s + (E * 4503599627370496 + M)) := by
  have hw := fw_canon s m p hc
  rcases hc with ⟨h1, h2, h3, h4⟩ | ⟨h1, rfl⟩
  · refine .inr ⟨(p + 1075).toNat, m - 4503599627370496, by omega, by omega, by omega, ?_⟩
    refine hw.trans ?_
    unfold rung
    obtain ⟨a, ha⟩ : ∃ a : Nat, (p + 1074).toNat = a := ⟨_, rfl⟩
    obtain ⟨b, hb⟩ : ∃ b : Nat, m = 4503599627370496 + b := ⟨m - 4503599627370496, by omega⟩
    rw [ha, show (p + 1075).toNat = a + 1 by omega, hb, Nat.add_sub_cancel_left, Nat.succ_mul]
    omega
  · refine .inl ⟨m, by omega, h1, ?_⟩
    refine hw.trans ?_
    unfold rung
    rw [show ((-1074 : Int) + 1074).toNat = 0 from rfl]
theorem implUp_of (x b : Nat) (hx : x < 18446744073709551616) (h : upV x b) (w : World) :
    Calls Tryz.prog 6 #[.float .f64 x] w fun e w' => e = .returned (.float .f64 b) ∧ Below w.heap.size w w' := by
  rcases h.2 with ⟨hn, rfl⟩ | ⟨rfl, rfl⟩ | ⟨s, rfl, rfl⟩ | ⟨m, p, hc, h0, rfl, rfl⟩ | ⟨m, p, hc, h0, rfl, rfl⟩ | ⟨rfl, rfl⟩
  · obtain ⟨s, E, M, hE, hM, hU⟩ := word_parts b hx
    have hL := lays_any b s E M hE hM hU
    have c : ¬ E * 4503599627370496 + M ≤ 9218868437227405312 := fun h' => not_nan s _ h' (by rw [← hU]; exact hn)
    obtain rfl : E = 2047 := by omega
    exact implUp_nan b s M (by omega) hL w
  · exact implUp_inf _ (lays_any _ false 2047 0 (by omega) (by omega) (by decide)) w
  · exact implUp_zero _ s (lays_any _ s 0 0 (by omega) (by omega) (by omega)) w
  · rcases up_parts false m p hc h0 with ⟨M, h1, h2, e⟩ | ⟨E, M, h1, h2, h3, e⟩
    · exact implUp_small_plus _ M h1 h2 e (lays_any _ false 0 M (by omega) h2 e) w
    · exact implUp_normal_plus _ E M h1 h2 h3 e (lays_any _ false E M (by omega) h3 e) w
  · rcases up_parts true m p hc h0 with ⟨M, h1, h2, e⟩ | ⟨E, M, h1, h2, h3, e⟩
    · exact implUp_small_minus _ M h1 h2 e (lays_any _ true 0 M (by omega) h2 e) w
    · exact implUp_normal_minus _ E M h1 h2 h3 e (lays_any _ true E M (by omega) h3 e) w
  · exact implUp_inf_minus _ (by decide) (lays_any _ true 2047 0 (by omega) (by omega) (by decide)) w
end Go.Proofs.YtoedefjngipeiaaGreatDoor

