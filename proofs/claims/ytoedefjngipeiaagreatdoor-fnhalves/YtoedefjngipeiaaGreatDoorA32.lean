import Derived.Test.YtoedefjngipeiaaGreatDoorA29
import Derived.Test.YtoedefjngipeiaaGreatDoorA30
import Derived.Test.YtoedefjngipeiaaGreatDoorA05
import Derived.Test.YtoedefjngipeiaaGreatDoorA28
import Derived.Deep.RegionWith
import Derived.Test.YtoedefjngipeiaaGreatDoorA18
/- BitsOf of the program. -/
namespace Go.Proofs.YtoedefjngipeiaaGreatDoor
open Go.ChangeShapes Go.WideShapes Go.RowKit
open Ieee (double)

set_option maxHeartbeats 400000 in
theorem implBits_nan (U : Nat) (s : Bool) (M : Nat) (hL : Lays U s 2047 M) (hM : M ≠ 0) (w : World) :
    Calls Tryz.prog 11 #[.float .f64 U] w fun e w' => e = .returned (.int .i64 9221120237041090560) ∧ Below w.heap.size w w' := by
  have HL : Hid _ := fun w => layoutOf_any U s 2047 M hL w
  have HK : Hid _ := fun w => kind_nan s M hM w
  have HW : Hid (∀ w, Calls Tryz.prog 23 #[.agg #[.bool false, .int .u64 ((2047 : Nat) : Int), .int .u64 ((2251799813685248 : Nat) : Int)]] w fun e w' => e = .returned (.int .u64 9221120237041090560) ∧ w' = w.alloc (.cells #[.bool false, .int .u64 ((2047 : Nat) : Int), .int .u64 ((2251799813685248 : Nat) : Int)] 45)) := fun w => by
    have h := word_any false 2047 2251799813685248 (by omega) (by omega) w
    rw [show ((signBit false + (2047 * 4503599627370496 + 2251799813685248) : Nat) : Int) = 9221120237041090560 by decide] at h
    exact h
  clear hL hM
  go_enter Tryz.func11, Tryz.ntmps11
  go_wp2_with (first | (go_at_call 18; refine (HL.out _).mono ?_; rintro e w' ⟨rfl, rfl⟩) | (go_at_call 20; refine (HK.out _).mono ?_; rintro e w' ⟨rfl, rfl⟩) | (go_at_call 23; refine (HW.out _).mono ?_; rintro e w' ⟨rfl, rfl⟩))
  go_ret
  exact ⟨rfl, (by repeat (first | exact Below.refl _ _ | refine Below.drew ?_ | refine below_drewN ?_ _ | refine Below.setCell ?_ (by simp <;> omega) _ | refine Below.alloc ?_ (by simp <;> omega) _))⟩
set_option maxHeartbeats 400000 in
theorem implBits_zero (U : Nat) (s : Bool) (hL : Lays U s 0 0) (hU : U = signBit s + (0 * 4503599627370496 + 0)) (w : World) :
    Calls Tryz.prog 11 #[.float .f64 U] w fun e w' => e = .returned (.int .i64 (wrap64 (U : Int))) ∧ Below w.heap.size w w' := by
  have HL : Hid _ := fun w => layoutOf_any U s 0 0 hL w
  have HK : Hid _ := fun w => kind_zero s w
  have HW : Hid (∀ w, Calls Tryz.prog 23 #[.agg #[.bool s, .int .u64 ((0 : Nat) : Int), .int .u64 ((0 : Nat) : Int)]] w fun e w' => e = .returned (.int .u64 (U : Int)) ∧ w' = w.alloc (.cells #[.bool s, .int .u64 ((0 : Nat) : Int), .int .u64 ((0 : Nat) : Int)] 45)) := fun w => by
    have h := word_any s 0 0 (by omega) (by omega) w
    rw [← hU] at h
    exact h
  clear hL hU
  go_enter Tryz.func11, Tryz.ntmps11
  go_wp2_with (first | (go_at_call 18; refine (HL.out _).mono ?_; rintro e w' ⟨rfl, rfl⟩) | (go_at_call 20; refine (HK.out _).mono ?_; rintro e w' ⟨rfl, rfl⟩) | (go_at_call 23; refine (HW.out _).mono ?_; rintro e w' ⟨rfl, rfl⟩))
  go_ret
  exact ⟨rfl, (by repeat (first | exact Below.refl _ _ | refine Below.drew ?_ | refine below_drewN ?_ _ | refine Below.setCell ?_ (by simp <;> omega) _ | refine Below.alloc ?_ (by simp <;> omega) _))⟩
set_option maxHeartbeats 400000 in
theorem implBits_inf (U : Nat) (s : Bool) (hL : Lays U s 2047 0) (hU : U = signBit s + (2047 * 4503599627370496 + 0)) (w : World) :
    Calls Tryz.prog 11 #[.float .f64 U] w fun e w' => e = .returned (.int .i64 (wrap64 (U : Int))) ∧ Below w.heap.size w w' := by
  have HL : Hid _ := fun w => layoutOf_any U s 2047 0 hL w
  have HK : Hid _ := fun w => kind_inf s w
  have HW : Hid (∀ w, Calls Tryz.prog 23 #[.agg #[.bool s, .int .u64 ((2047 : Nat) : Int), .int .u64 ((0 : Nat) : Int)]] w fun e w' => e = .returned (.int .u64 (U : Int)) ∧ w' = w.alloc (.cells #[.bool s, .int .u64 ((2047 : Nat) : Int), .int .u64 ((0 : Nat) : Int)] 45)) := fun w => by
    have h := word_any s 2047 0 (by omega) (by omega) w
    rw [← hU] at h
    exact h
  clear hL hU
  go_enter Tryz.func11, Tryz.ntmps11
  go_wp2_with (first | (go_at_call 18; refine (HL.out _).mono ?_; rintro e w' ⟨rfl, rfl⟩) | (go_at_call 20; refine (HK.out _).mono ?_; rintro e w' ⟨rfl, rfl⟩) | (go_at_call 23; refine (HW.out _).mono ?_; rintro e w' ⟨rfl, rfl⟩))
  go_ret
  exact ⟨rfl, (by repeat (first | exact Below.refl _ _ | refine Below.drew ?_ | refine below_drewN ?_ _ | refine Below.setCell ?_ (by simp <;> omega) _ | refine Below.alloc ?_ (by simp <;> omega) _))⟩
set_option maxHeartbeats 400000 in
theorem implBits_small (U : Nat) (s : Bool) (M : Nat) (hM : M ≠ 0) (hM' : M < 4503599627370496) (hL : Lays U s 0 M) (hU : U = signBit s + (0 * 4503599627370496 + M)) (w : World) :
    Calls Tryz.prog 11 #[.float .f64 U] w fun e w' => e = .returned (.int .i64 (wrap64 (U : Int))) ∧ Below w.heap.size w w' := by
  have HL : Hid _ := fun w => layoutOf_any U s 0 M hL w
  have HK : Hid _ := fun w => kind_small s M hM w
  have HW : Hid (∀ w, Calls Tryz.prog 23 #[.agg #[.bool s, .int .u64 ((0 : Nat) : Int), .int .u64 ((M : Nat) : Int)]] w fun e w' => e = .returned (.int .u64 (U : Int)) ∧ w' = w.alloc (.cells #[.bool s, .int .u64 ((0 : Nat) : Int), .int .u64 ((M : Nat) : Int)] 45)) := fun w => by
    have h := word_any s 0 M (by omega) (by omega) w
    rw [← hU] at h
    exact h
  clear hL hU
  go_enter Tryz.func11, Tryz.ntmps11
  go_wp2_with (first | (go_at_call 18; refine (HL.out _).mono ?_; rintro e w' ⟨rfl, rfl⟩) | (go_at_call 20; refine (HK.out _).mono ?_; rintro e w' ⟨rfl, rfl⟩) | (go_at_call 23; refine (HW.out _).mono ?_; rintro e w' ⟨rfl, rfl⟩))
  go_ret
  exact ⟨rfl, (by repeat (first | exact Below.refl _ _ | refine Below.drew ?_ | refine below_drewN ?_ _ | refine Below.setCell ?_ (by simp <;> omega) _ | refine Below.alloc ?_ (by simp <;> omega) _))⟩
set_option maxHeartbeats 400000 in
theorem implBits_normal (U : Nat) (s : Bool) (E M : Nat) (h1 : 1 ≤ E) (h2 : E ≤ 2046) (hM' : M < 4503599627370496) (hL : Lays U s E M) (hU : U = signBit s + (E * 4503599627370496 + M)) (w : World) :
    Calls Tryz.prog 11 #[.float .f64 U] w fun e w' => e = .returned (.int .i64 (wrap64 (U : Int))) ∧ Below w.heap.size w w' := by
  have HL : Hid _ := fun w => layoutOf_any U s E M hL w
  have HK : Hid _ := fun w => kind_normal s E M h1 h2 w
  have HW : Hid (∀ w, Calls Tryz.prog 23 #[.agg #[.bool s, .int .u64 ((E : Nat) : Int), .int .u64 ((M : Nat) : Int)]] w fun e w' => e = .returned (.int .u64 (U : Int)) ∧ w' = w.alloc (.cells #[.bool s, .int .u64 ((E : Nat) : Int), .int .u64 ((M : Nat) : Int)] 45)) := fun w => by
    have h := word_any s E M (by omega) (by omega) w
    rw [← hU] at h
    exact h
  clear hL hU
  go_enter Tryz.func11, Tryz.ntmps11
  go_wp2_with (first | (go_at_call 18; refine (HL.out _).mono ?_; rintro e w' ⟨rfl, rfl⟩) | (go_at_call 20; refine (HK.out _).mono ?_; rintro e w' ⟨rfl, rfl⟩) | (go_at_call 23; refine (HW.out _).mono ?_; rintro e w' ⟨rfl, rfl⟩))
  go_ret
  exact ⟨rfl, (by repeat (first | exact Below.refl _ _ | refine Below.drew ?_ | refine below_drewN ?_ _ | refine Below.setCell ?_ (by simp <;> omega) _ | refine Below.alloc ?_ (by simp <;> omega) _))⟩
theorem implBitsOf_any (x : Nat) (hx : x < 18446744073709551616) (w : World) :
    Calls Tryz.prog 11 #[.float .f64 x] w fun e w' => ∃ v, bitsV x v ∧ e = .returned (.int .i64 v) ∧ Below w.heap.size w w' := by
  obtain ⟨s, E, M, hE, hM, hU⟩ := word_parts x hx
  have hL := lays_any x s E M hE hM hU
  by_cases c1 : E = 2047
  · subst c1
    by_cases c2 : M = 0
    · subst c2
      refine (implBits_inf x s hL hU w).mono ?_
      rintro e w' ⟨rfl, hb⟩
      exact ⟨_, .inr ⟨by rw [hU]; exact not_nan s _ (by omega), rfl⟩, rfl, hb⟩
    · refine (implBits_nan x s M hL c2 w).mono ?_
      rintro e w' ⟨rfl, hb⟩
      exact ⟨_, .inl ⟨by rw [hU]; exact nan_word s _ (by omega) (by omega), rfl⟩, rfl, hb⟩
  · have hn : ¬ IsNan x := by rw [hU]; exact not_nan s _ (by omega)
    by_cases c3 : E = 0
    · subst c3
      by_cases c2 : M = 0
      · subst c2
        refine (implBits_zero x s hL hU w).mono ?_
        rintro e w' ⟨rfl, hb⟩
        exact ⟨_, .inr ⟨hn, rfl⟩, rfl, hb⟩
      · refine (implBits_small x s M c2 hM hL hU w).mono ?_
        rintro e w' ⟨rfl, hb⟩
        exact ⟨_, .inr ⟨hn, rfl⟩, rfl, hb⟩
    · refine (implBits_normal x s E M (by omega) (by omega) hM hL hU w).mono ?_
      rintro e w' ⟨rfl, hb⟩
      exact ⟨_, .inr ⟨hn, rfl⟩, rfl, hb⟩
end Go.Proofs.YtoedefjngipeiaaGreatDoor

/- The size of a number, as the program tells it. -/
namespace Go.Proofs.YtoedefjngipeiaaGreatDoor
open Go.ChangeShapes Go.WideShapes Go.RowKit
open Ieee (double)

set_option maxHeartbeats 400000 in
theorem size_small (s : Bool) (M : Nat) (w : World) :
    Calls Tryz.prog 26 #[.agg #[.bool s, .int .u64 0, .int .u64 (M : Int)]] w fun e w' => e = .returned (.tuple #[.int .u64 (M : Int), .int .i64 (-1074)]) ∧ w' = w.alloc (.cells #[.bool s, .int .u64 0, .int .u64 (M : Int)] 45) := by
  go_enter Tryz.func26, Tryz.ntmps26
  go_wp2
  go_ret2
  exact ⟨rfl, rfl⟩
set_option maxHeartbeats 400000 in
theorem size_normal (s : Bool) (E M : Nat) (h1 : 1 ≤ E) (h2 : E ≤ 2046) (hM : M < 4503599627370496) (w : World) :
    Calls Tryz.prog 26 #[.agg #[.bool s, .int .u64 (E : Int), .int .u64 (M : Int)]] w fun e w' => e = .returned (.tuple #[.int .u64 ((4503599627370496 + M : Nat) : Int), .int .i64 ((E : Int) - 1 + -1074)]) ∧ w' = (w.alloc (.cells #[.bool s, .int .u64 (E : Int), .int .u64 (M : Int)] 45)).drew := by
  have e0 : ((E : Int) == 0) = false := beq_eq_false_iff_ne.2 (by omega)
  have ho := or_one M hM
  have c1 : 1 ≤ (E : Int) := by omega
  have c2 : (E : Int) ≤ 2046 := by omega
  clear hM h1 h2
  go_enter Tryz.func26, Tryz.ntmps26
  go_wp2
  go_region
  all_goals
    go_wp2
    go_ret2
    exact ⟨rfl, rfl⟩
end Go.Proofs.YtoedefjngipeiaaGreatDoor

/- What PartsOf answers (plain). -/
namespace Go.Proofs.YtoedefjngipeiaaGreatDoor

/-- What a float is taken apart into: kind, sign, an odd number, a power of two. -/
def partsV (x : Nat) (k : Int) (s : Bool) (m e : Int) : Prop :=
  (IsNan x ∧ k = 3 ∧ s = false ∧ m = 0 ∧ e = 0) ∨ (x = iw s ∧ k = 2 ∧ m = 0 ∧ e = 0) ∨ (x = signBit s ∧ k = 0 ∧ m = 0 ∧ e = 0)
  ∨ (∃ (n : Nat) (p : Int) (q t : Nat), Canon n p ∧ 0 < n ∧ x = fw s n p ∧ n = q * 2 ^ t ∧ q % 2 = 1 ∧ k = 1 ∧ m = q ∧ e = p + t)
theorem half_even (n t : Nat) (q : Int) (h : n = q.toNat * 2 ^ t) (h0 : 0 < q) (he : q % 2 = 0) : n = (q / 2).toNat * 2 ^ (t + 1) := by
  have e : q.toNat = (q / 2).toNat * 2 := by omega
  rw [h, e, Nat.pow_succ, Nat.mul_assoc, Nat.mul_comm 2]
theorem few_halves (n t : Nat) (q : Int) (h : n = q.toNat * 2 ^ t) (h0 : 0 < q) (hn : n < 9007199254740992) : t ≤ 52 := by
  have h1 : 1 * 2 ^ t ≤ q.toNat * 2 ^ t := Nat.mul_le_mul_right _ (by omega)
  have h2 : 2 ^ t < 2 ^ 53 := by
    have : (2 : Nat) ^ 53 = 9007199254740992 := rfl
    omega
  have := (Nat.pow_lt_pow_iff_right (a := 2) (by omega)).1 h2
  omega
end Go.Proofs.YtoedefjngipeiaaGreatDoor

