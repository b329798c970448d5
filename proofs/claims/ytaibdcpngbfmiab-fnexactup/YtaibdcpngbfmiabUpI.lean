/- Up of the program. -/
import Derived.Test.YtaibdcpngbfmiabKindI
import Derived.Test.YtaibdcpngbfmiabUpS
namespace Go.Proofs.Ytaibdcpngbfmiab
open Go.ChangeShapes Go.WideShapes Go.RowKit
open Ieee (double)

set_option maxHeartbeats 1000000 in
theorem implUp_nan (U : Nat) (s : Bool) (M : Nat) (hM : M ≠ 0) (hL : Lays U s 2047 M) (w : World) :
    Calls Try.prog 22 #[.float .f64 U] w fun e w' => e = .returned (.float .f64 (U)) ∧ Below w.heap.size w w' := by
  have HL : Hid _ := fun w => layoutOf_any U s 2047 M hL w
  have HK : Hid _ := fun w => kind_nan s M hM w
  have HW : Hid _ := fun w => word_any false 0 1 (by omega) (by omega) w
  have HF : Hid _ := fun w => float_any false 0 1 (by omega) (by omega) w
  have m0 : ((M : Int) == 0) = false := beq_eq_false_iff_ne.2 (by omega)
  clear hL hM
  go_enter Try.func22, Try.ntmps22
  go_wp2_with (first | (go_at_call 31; refine (HL.out _).mono ?_; rintro e w' ⟨rfl, rfl⟩) | (go_at_call 32; refine (HK.out _).mono ?_; rintro e w' ⟨rfl, rfl⟩) | (go_at_call 33; refine (HW.out _).mono ?_; rintro e w' ⟨rfl, rfl⟩) | (go_at_call 25; refine (HF.out _).mono ?_; rintro e w' ⟨rfl, rfl⟩))
  go_region_with (go_at_call 26; refine (infinity_any _ _).mono ?_; rintro e w' ⟨rfl, rfl⟩)
  all_goals
    go_wp2_with (first | (go_at_call 31; refine (HL.out _).mono ?_; rintro e w' ⟨rfl, rfl⟩) | (go_at_call 32; refine (HK.out _).mono ?_; rintro e w' ⟨rfl, rfl⟩) | (go_at_call 33; refine (HW.out _).mono ?_; rintro e w' ⟨rfl, rfl⟩) | (go_at_call 25; refine (HF.out _).mono ?_; rintro e w' ⟨rfl, rfl⟩))
    go_ret
    exact ⟨rfl, (by repeat (first | exact Below.refl _ _ | refine Below.drew ?_ | refine below_drewN ?_ _ | refine Below.setCell ?_ (by simp <;> omega) _ | refine Below.alloc ?_ (by simp <;> omega) _))⟩
set_option maxHeartbeats 1000000 in
theorem implUp_inf (U : Nat) (hL : Lays U false 2047 0) (w : World) :
    Calls Try.prog 22 #[.float .f64 U] w fun e w' => e = .returned (.float .f64 (U)) ∧ Below w.heap.size w w' := by
  have HL : Hid _ := fun w => layoutOf_any U false 2047 0 hL w
  have HK : Hid _ := fun w => kind_inf false w
  have HW : Hid _ := fun w => word_any false 0 1 (by omega) (by omega) w
  have HF : Hid _ := fun w => float_any false 0 1 (by omega) (by omega) w
  clear hL
  go_enter Try.func22, Try.ntmps22
  go_wp2_with (first | (go_at_call 31; refine (HL.out _).mono ?_; rintro e w' ⟨rfl, rfl⟩) | (go_at_call 32; refine (HK.out _).mono ?_; rintro e w' ⟨rfl, rfl⟩) | (go_at_call 33; refine (HW.out _).mono ?_; rintro e w' ⟨rfl, rfl⟩) | (go_at_call 25; refine (HF.out _).mono ?_; rintro e w' ⟨rfl, rfl⟩))
  go_region_with (go_at_call 26; refine (infinity_any _ _).mono ?_; rintro e w' ⟨rfl, rfl⟩)
  all_goals
    go_wp2_with (first | (go_at_call 31; refine (HL.out _).mono ?_; rintro e w' ⟨rfl, rfl⟩) | (go_at_call 32; refine (HK.out _).mono ?_; rintro e w' ⟨rfl, rfl⟩) | (go_at_call 33; refine (HW.out _).mono ?_; rintro e w' ⟨rfl, rfl⟩) | (go_at_call 25; refine (HF.out _).mono ?_; rintro e w' ⟨rfl, rfl⟩))
    go_ret
    exact ⟨rfl, (by repeat (first | exact Below.refl _ _ | refine Below.drew ?_ | refine below_drewN ?_ _ | refine Below.setCell ?_ (by simp <;> omega) _ | refine Below.alloc ?_ (by simp <;> omega) _))⟩
set_option maxHeartbeats 1000000 in
theorem implUp_zero (U : Nat) (s : Bool) (hL : Lays U s 0 0) (w : World) :
    Calls Try.prog 22 #[.float .f64 U] w fun e w' => e = .returned (.float .f64 (1)) ∧ Below w.heap.size w w' := by
  have HL : Hid _ := fun w => layoutOf_any U s 0 0 hL w
  have HK : Hid _ := fun w => kind_zero s w
  have HW : Hid _ := fun w => word_any false 0 1 (by omega) (by omega) w
  have HF : Hid (∀ w, Calls Try.prog 25 #[.agg #[.bool false, .int .u64 ((0 : Nat) : Int), .int .u64 ((1 : Nat) : Int)]] w fun e w' => e = .returned (.float .f64 1) ∧ w' = (w.alloc (.cells #[.bool false, .int .u64 ((0 : Nat) : Int), .int .u64 ((1 : Nat) : Int)] 43)).alloc (.cells #[.bool false, .int .u64 ((0 : Nat) : Int), .int .u64 ((1 : Nat) : Int)] 43)) := fun w => by
    have h := float_any false 0 1 (by omega) (by omega) w
    rw [show signBit false + (0 * 4503599627370496 + 1) = 1 by decide] at h
    exact h
  clear hL
  go_enter Try.func22, Try.ntmps22
  go_wp2_with (first | (go_at_call 31; refine (HL.out _).mono ?_; rintro e w' ⟨rfl, rfl⟩) | (go_at_call 32; refine (HK.out _).mono ?_; rintro e w' ⟨rfl, rfl⟩) | (go_at_call 33; refine (HW.out _).mono ?_; rintro e w' ⟨rfl, rfl⟩) | (go_at_call 25; refine (HF.out _).mono ?_; rintro e w' ⟨rfl, rfl⟩))
  go_region_with (go_at_call 26; refine (infinity_any _ _).mono ?_; rintro e w' ⟨rfl, rfl⟩)
  all_goals
    go_wp2_with (first | (go_at_call 31; refine (HL.out _).mono ?_; rintro e w' ⟨rfl, rfl⟩) | (go_at_call 32; refine (HK.out _).mono ?_; rintro e w' ⟨rfl, rfl⟩) | (go_at_call 33; refine (HW.out _).mono ?_; rintro e w' ⟨rfl, rfl⟩) | (go_at_call 25; refine (HF.out _).mono ?_; rintro e w' ⟨rfl, rfl⟩))
    go_ret
    exact ⟨rfl, (by repeat (first | exact Below.refl _ _ | refine Below.drew ?_ | refine below_drewN ?_ _ | refine Below.setCell ?_ (by simp <;> omega) _ | refine Below.alloc ?_ (by simp <;> omega) _))⟩
set_option maxHeartbeats 1000000 in
theorem implUp_small_minus (U : Nat) (M : Nat) (hM : M ≠ 0) (hM' : M < 4503599627370496) (hU : U = signBit true + (0 * 4503599627370496 + M)) (hL : Lays U true 0 M) (w : World) :
    Calls Try.prog 22 #[.float .f64 U] w fun e w' => e = .returned (.float .f64 (U - 1)) ∧ Below w.heap.size w w' := by
  have HL : Hid _ := fun w => layoutOf_any U true 0 M hL w
  have HK : Hid _ := fun w => kind_small true M hM w
  have HW : Hid (∀ w, Calls Try.prog 33 #[.agg #[.bool true, .int .u64 ((0 : Nat) : Int), .int .u64 ((M : Nat) : Int)]] w fun e w' => e = .returned (.int .u64 (U : Int)) ∧ w' = w.alloc (.cells #[.bool true, .int .u64 ((0 : Nat) : Int), .int .u64 ((M : Nat) : Int)] 43)) := fun w => by
    have h := word_any true 0 M (by omega) (by omega) w
    rw [← hU] at h
    exact h
  have HF : Hid _ := fun w => float_any false 0 1 (by omega) (by omega) w
  have m0 : ((M : Int) == 0) = false := beq_eq_false_iff_ne.2 (by omega)
  have hc := call_frombits ((U : Int) - 1)
  rw [show ((U : Int) - 1).toNat = U - 1 by omega] at hc
  have hU0 : (0 : Int) ≤ (U : Int) - 1 := by have : signBit true = 9223372036854775808 := rfl; omega
  have hU1 : (U : Int) - 1 < 18446744073709551616 := by have : signBit true = 9223372036854775808 := rfl; omega
  clear hL hM hM' hU
  go_enter Try.func22, Try.ntmps22
  go_wp2_with (first | (go_at_call 31; refine (HL.out _).mono ?_; rintro e w' ⟨rfl, rfl⟩) | (go_at_call 32; refine (HK.out _).mono ?_; rintro e w' ⟨rfl, rfl⟩) | (go_at_call 33; refine (HW.out _).mono ?_; rintro e w' ⟨rfl, rfl⟩) | (go_at_call 25; refine (HF.out _).mono ?_; rintro e w' ⟨rfl, rfl⟩))
  go_region_with (go_at_call 26; refine (infinity_any _ _).mono ?_; rintro e w' ⟨rfl, rfl⟩)
  all_goals
    go_wp2_with (first | (go_at_call 31; refine (HL.out _).mono ?_; rintro e w' ⟨rfl, rfl⟩) | (go_at_call 32; refine (HK.out _).mono ?_; rintro e w' ⟨rfl, rfl⟩) | (go_at_call 33; refine (HW.out _).mono ?_; rintro e w' ⟨rfl, rfl⟩) | (go_at_call 25; refine (HF.out _).mono ?_; rintro e w' ⟨rfl, rfl⟩))
    go_ret
    exact ⟨rfl, (by repeat (first | exact Below.refl _ _ | refine Below.drew ?_ | refine below_drewN ?_ _ | refine Below.setCell ?_ (by simp <;> omega) _ | refine Below.alloc ?_ (by simp <;> omega) _))⟩
set_option maxHeartbeats 1000000 in
theorem implUp_normal_minus (U : Nat) (E M : Nat) (h1 : 1 ≤ E) (h2 : E ≤ 2046) (hM' : M < 4503599627370496) (hU : U = signBit true + (E * 4503599627370496 + M)) (hL : Lays U true E M) (w : World) :
    Calls Try.prog 22 #[.float .f64 U] w fun e w' => e = .returned (.float .f64 (U - 1)) ∧ Below w.heap.size w w' := by
  have HL : Hid _ := fun w => layoutOf_any U true E M hL w
  have HK : Hid _ := fun w => kind_normal true E M h1 h2 w
  have HW : Hid (∀ w, Calls Try.prog 33 #[.agg #[.bool true, .int .u64 ((E : Nat) : Int), .int .u64 ((M : Nat) : Int)]] w fun e w' => e = .returned (.int .u64 (U : Int)) ∧ w' = w.alloc (.cells #[.bool true, .int .u64 ((E : Nat) : Int), .int .u64 ((M : Nat) : Int)] 43)) := fun w => by
    have h := word_any true E M (by omega) (by omega) w
    rw [← hU] at h
    exact h
  have HF : Hid _ := fun w => float_any false 0 1 (by omega) (by omega) w
  have e0 : ((E : Int) == 0) = false := beq_eq_false_iff_ne.2 (by omega)
  have e1 : ((E : Int) == 2047) = false := beq_eq_false_iff_ne.2 (by omega)
  have hc := call_frombits ((U : Int) - 1)
  rw [show ((U : Int) - 1).toNat = U - 1 by omega] at hc
  have hU0 : (0 : Int) ≤ (U : Int) - 1 := by have : signBit true = 9223372036854775808 := rfl; omega
  have hU1 : (U : Int) - 1 < 18446744073709551616 := by have : signBit true = 9223372036854775808 := rfl; omega
  clear hL h1 h2 hM' hU
  go_enter Try.func22, Try.ntmps22
  go_wp2_with (first | (go_at_call 31; refine (HL.out _).mono ?_; rintro e w' ⟨rfl, rfl⟩) | (go_at_call 32; refine (HK.out _).mono ?_; rintro e w' ⟨rfl, rfl⟩) | (go_at_call 33; refine (HW.out _).mono ?_; rintro e w' ⟨rfl, rfl⟩) | (go_at_call 25; refine (HF.out _).mono ?_; rintro e w' ⟨rfl, rfl⟩))
  go_region_with (go_at_call 26; refine (infinity_any _ _).mono ?_; rintro e w' ⟨rfl, rfl⟩)
  all_goals
    go_wp2_with (first | (go_at_call 31; refine (HL.out _).mono ?_; rintro e w' ⟨rfl, rfl⟩) | (go_at_call 32; refine (HK.out _).mono ?_; rintro e w' ⟨rfl, rfl⟩) | (go_at_call 33; refine (HW.out _).mono ?_; rintro e w' ⟨rfl, rfl⟩) | (go_at_call 25; refine (HF.out _).mono ?_; rintro e w' ⟨rfl, rfl⟩))
    go_ret
    exact ⟨rfl, (by repeat (first | exact Below.refl _ _ | refine Below.drew ?_ | refine below_drewN ?_ _ | refine Below.setCell ?_ (by simp <;> omega) _ | refine Below.alloc ?_ (by simp <;> omega) _))⟩
set_option maxHeartbeats 1000000 in
theorem implUp_inf_minus (U : Nat) (hU : U = signBit true + (2047 * 4503599627370496 + 0)) (hL : Lays U true 2047 0) (w : World) :
    Calls Try.prog 22 #[.float .f64 U] w fun e w' => e = .returned (.float .f64 (U - 1)) ∧ Below w.heap.size w w' := by
  have HL : Hid _ := fun w => layoutOf_any U true 2047 0 hL w
  have HK : Hid _ := fun w => kind_inf true w
  have HW : Hid (∀ w, Calls Try.prog 33 #[.agg #[.bool true, .int .u64 ((2047 : Nat) : Int), .int .u64 ((0 : Nat) : Int)]] w fun e w' => e = .returned (.int .u64 (U : Int)) ∧ w' = w.alloc (.cells #[.bool true, .int .u64 ((2047 : Nat) : Int), .int .u64 ((0 : Nat) : Int)] 43)) := fun w => by
    have h := word_any true 2047 0 (by omega) (by omega) w
    rw [← hU] at h
    exact h
  have HF : Hid _ := fun w => float_any false 0 1 (by omega) (by omega) w
  have hc := call_frombits ((U : Int) - 1)
  rw [show ((U : Int) - 1).toNat = U - 1 by omega] at hc
  have hU0 : (0 : Int) ≤ (U : Int) - 1 := by have : signBit true = 9223372036854775808 := rfl; omega
  have hU1 : (U : Int) - 1 < 18446744073709551616 := by have : signBit true = 9223372036854775808 := rfl; omega
  clear hL hU
  go_enter Try.func22, Try.ntmps22
  go_wp2_with (first | (go_at_call 31; refine (HL.out _).mono ?_; rintro e w' ⟨rfl, rfl⟩) | (go_at_call 32; refine (HK.out _).mono ?_; rintro e w' ⟨rfl, rfl⟩) | (go_at_call 33; refine (HW.out _).mono ?_; rintro e w' ⟨rfl, rfl⟩) | (go_at_call 25; refine (HF.out _).mono ?_; rintro e w' ⟨rfl, rfl⟩))
  go_region_with (go_at_call 26; refine (infinity_any _ _).mono ?_; rintro e w' ⟨rfl, rfl⟩)
  all_goals
    go_wp2_with (first | (go_at_call 31; refine (HL.out _).mono ?_; rintro e w' ⟨rfl, rfl⟩) | (go_at_call 32; refine (HK.out _).mono ?_; rintro e w' ⟨rfl, rfl⟩) | (go_at_call 33; refine (HW.out _).mono ?_; rintro e w' ⟨rfl, rfl⟩) | (go_at_call 25; refine (HF.out _).mono ?_; rintro e w' ⟨rfl, rfl⟩))
    go_ret
    exact ⟨rfl, (by repeat (first | exact Below.refl _ _ | refine Below.drew ?_ | refine below_drewN ?_ _ | refine Below.setCell ?_ (by simp <;> omega) _ | refine Below.alloc ?_ (by simp <;> omega) _))⟩
end Go.Proofs.Ytaibdcpngbfmiab
