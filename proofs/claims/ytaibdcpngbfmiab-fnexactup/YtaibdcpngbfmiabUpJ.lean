/- Up of the program: above zero. -/
import Derived.Test.YtaibdcpngbfmiabKindI
import Derived.Test.YtaibdcpngbfmiabUpS
namespace Go.Proofs.Ytaibdcpngbfmiab
open Go.ChangeShapes Go.WideShapes Go.RowKit
open Ieee (double)

set_option maxRecDepth 100000 in
set_option maxHeartbeats 1000000 in
theorem implUp_small_plus (U : Nat) (M : Nat) (hM : M ≠ 0) (hM' : M < 4503599627370496) (hU : U = signBit false + (0 * 4503599627370496 + M)) (hL : Lays U false 0 M) (w : World) :
    Calls Try.prog 22 #[.float .f64 U] w fun e w' => e = .returned (.float .f64 (U + 1)) ∧ Below w.heap.size w w' := by
  obtain ⟨V, hV⟩ : ∃ V : Int, V = (U : Int) := ⟨_, rfl⟩
  have HL : Hid _ := fun w => layoutOf_any U false 0 M hL w
  have HK : Hid _ := fun w => kind_small false M hM w
  have HW : Hid (∀ w, Calls Try.prog 33 #[.agg #[.bool false, .int .u64 ((0 : Nat) : Int), .int .u64 ((M : Nat) : Int)]] w fun e w' => e = .returned (.int .u64 V) ∧ w' = w.alloc (.cells #[.bool false, .int .u64 ((0 : Nat) : Int), .int .u64 ((M : Nat) : Int)] 43)) := fun w => by
    have h := word_any false 0 M (by omega) (by omega) w
    rw [← hU, ← hV] at h
    exact h
  have HF : Hid _ := fun w => float_any false 0 1 (by omega) (by omega) w
  have m0 : ((M : Int) == 0) = false := beq_eq_false_iff_ne.2 (by omega)
  have hc := call_frombits (V + 1)
  rw [show (V + 1).toNat = U + 1 by omega] at hc
  have hV1 : V + 1 < 18446744073709551616 := by have : signBit false = 0 := rfl; omega
  have hV0 : 0 ≤ V + 1 := by omega
  clear hL hM hM' hU hV
  go_enter Try.func22, Try.ntmps22
  go_wp2_with (first | (go_at_call 31; refine (HL.out _).mono ?_; rintro e w' ⟨rfl, rfl⟩) | (go_at_call 32; refine (HK.out _).mono ?_; rintro e w' ⟨rfl, rfl⟩) | (go_at_call 33; refine (HW.out _).mono ?_; rintro e w' ⟨rfl, rfl⟩) | (go_at_call 25; refine (HF.out _).mono ?_; rintro e w' ⟨rfl, rfl⟩))
  go_region_with (go_at_call 26; refine (infinity_any _ _).mono ?_; rintro e w' ⟨rfl, rfl⟩)
  all_goals
    go_wp2_with (first | (go_at_call 31; refine (HL.out _).mono ?_; rintro e w' ⟨rfl, rfl⟩) | (go_at_call 32; refine (HK.out _).mono ?_; rintro e w' ⟨rfl, rfl⟩) | (go_at_call 33; refine (HW.out _).mono ?_; rintro e w' ⟨rfl, rfl⟩) | (go_at_call 25; refine (HF.out _).mono ?_; rintro e w' ⟨rfl, rfl⟩))
    go_ret
    exact ⟨rfl, (by repeat (first | exact Below.refl _ _ | refine Below.drew ?_ | refine below_drewN ?_ _ | refine Below.setCell ?_ (by simp <;> omega) _ | refine Below.alloc ?_ (by simp <;> omega) _))⟩
set_option maxRecDepth 100000 in
set_option maxHeartbeats 1000000 in
theorem implUp_normal_plus (U : Nat) (E M : Nat) (h1 : 1 ≤ E) (h2 : E ≤ 2046) (hM' : M < 4503599627370496) (hU : U = signBit false + (E * 4503599627370496 + M)) (hL : Lays U false E M) (w : World) :
    Calls Try.prog 22 #[.float .f64 U] w fun e w' => e = .returned (.float .f64 (U + 1)) ∧ Below w.heap.size w w' := by
  obtain ⟨V, hV⟩ : ∃ V : Int, V = (U : Int) := ⟨_, rfl⟩
  have HL : Hid _ := fun w => layoutOf_any U false E M hL w
  have HK : Hid _ := fun w => kind_normal false E M h1 h2 w
  have HW : Hid (∀ w, Calls Try.prog 33 #[.agg #[.bool false, .int .u64 ((E : Nat) : Int), .int .u64 ((M : Nat) : Int)]] w fun e w' => e = .returned (.int .u64 V) ∧ w' = w.alloc (.cells #[.bool false, .int .u64 ((E : Nat) : Int), .int .u64 ((M : Nat) : Int)] 43)) := fun w => by
    have h := word_any false E M (by omega) (by omega) w
    rw [← hU, ← hV] at h
    exact h
  have HF : Hid _ := fun w => float_any false 0 1 (by omega) (by omega) w
  have e0 : ((E : Int) == 0) = false := beq_eq_false_iff_ne.2 (by omega)
  have e1 : ((E : Int) == 2047) = false := beq_eq_false_iff_ne.2 (by omega)
  have hc := call_frombits (V + 1)
  rw [show (V + 1).toNat = U + 1 by omega] at hc
  have hV1 : V + 1 < 18446744073709551616 := by have : signBit false = 0 := rfl; omega
  have hV0 : 0 ≤ V + 1 := by omega
  clear hL h1 h2 hM' hU hV
  go_enter Try.func22, Try.ntmps22
  go_wp2_with (first | (go_at_call 31; refine (HL.out _).mono ?_; rintro e w' ⟨rfl, rfl⟩) | (go_at_call 32; refine (HK.out _).mono ?_; rintro e w' ⟨rfl, rfl⟩) | (go_at_call 33; refine (HW.out _).mono ?_; rintro e w' ⟨rfl, rfl⟩) | (go_at_call 25; refine (HF.out _).mono ?_; rintro e w' ⟨rfl, rfl⟩))
  go_region_with (go_at_call 26; refine (infinity_any _ _).mono ?_; rintro e w' ⟨rfl, rfl⟩)
  all_goals
    go_wp2_with (first | (go_at_call 31; refine (HL.out _).mono ?_; rintro e w' ⟨rfl, rfl⟩) | (go_at_call 32; refine (HK.out _).mono ?_; rintro e w' ⟨rfl, rfl⟩) | (go_at_call 33; refine (HW.out _).mono ?_; rintro e w' ⟨rfl, rfl⟩) | (go_at_call 25; refine (HF.out _).mono ?_; rintro e w' ⟨rfl, rfl⟩))
    go_ret
    exact ⟨rfl, (by repeat (first | exact Below.refl _ _ | refine Below.drew ?_ | refine below_drewN ?_ _ | refine Below.setCell ?_ (by simp <;> omega) _ | refine Below.alloc ?_ (by simp <;> omega) _))⟩
end Go.Proofs.Ytaibdcpngbfmiab
