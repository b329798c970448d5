import Derived.Test.YtmcjehjpblkfoaaGreatDoorH15
import Derived.Test.YtmcjehjpblkfoaaGreatDoorH03
import Derived.Test.YtmcjehjpblkfoaaGreatDoorH14
import Derived.Deep.RegionWith
import Derived.Test.YtmcjehjpblkfoaaGreatDoorH09
import Derived.Test.YtmcjehjpblkfoaaGreatDoorH02
/- Up of the program: above zero. -/
namespace Go.Proofs.YtmcjehjpblkfoaaGreatDoor
open Go.ChangeShapes Go.WideShapes Go.RowKit
open Ieee (double)

set_option maxRecDepth 100000 in
set_option maxHeartbeats 1000000 in
theorem implUp_small_plus (U : Nat) (M : Nat) (hM : M ≠ 0) (hM' : M < 4503599627370496) (hU : U = signBit false + (0 * 4503599627370496 + M)) (hL : Lays U false 0 M) (w : World) :
    Calls Tryz.prog 6 #[.float .f64 U] w fun e w' => e = .returned (.float .f64 (U + 1)) ∧ Below w.heap.size w w' := by
  obtain ⟨V, hV⟩ : ∃ V : Int, V = (U : Int) := ⟨_, rfl⟩
  have HL : Hid _ := fun w => layoutOf_any U false 0 M hL w
  have HK : Hid _ := fun w => kind_small false M hM w
  have HW : Hid (∀ w, Calls Tryz.prog 23 #[.agg #[.bool false, .int .u64 ((0 : Nat) : Int), .int .u64 ((M : Nat) : Int)]] w fun e w' => e = .returned (.int .u64 V) ∧ w' = w.alloc (.cells #[.bool false, .int .u64 ((0 : Nat) : Int), .int .u64 ((M : Nat) : Int)] 45)) := fun w => by
    have h := word_any false 0 M (by omega) (by omega) w
    rw [← hU, ← hV] at h
    exact h
  have HF : Hid _ := fun w => float_any false 0 1 (by omega) (by omega) w
  have m0 : ((M : Int) == 0) = false := beq_eq_false_iff_ne.2 (by omega)
  have hc := call_frombits (V + 1)
  rw [show (V + 1).toNat = U + 1 by omega] at hc
  have hV1 : V + 1 < 18446744073709551616 := by have : signBit false = 0 := rfl; omega
  have hV0 : 0 ≤ V + 1 := by omega
  clear hL hM hM' hU hV
  go_enter Tryz.func6, Tryz.ntmps6
  go_wp2_with (first | (go_at_call 18; refine (HL.out _).mono ?_; rintro e w' ⟨rfl, rfl⟩) | (go_at_call 20; refine (HK.out _).mono ?_; rintro e w' ⟨rfl, rfl⟩) | (go_at_call 23; refine (HW.out _).mono ?_; rintro e w' ⟨rfl, rfl⟩) | (go_at_call 21; refine (HF.out _).mono ?_; rintro e w' ⟨rfl, rfl⟩))
  go_region_with (go_at_call 19; refine (infinity_any _ _).mono ?_; rintro e w' ⟨rfl, rfl⟩)
  all_goals
    go_wp2_with (first | (go_at_call 18; refine (HL.out _).mono ?_; rintro e w' ⟨rfl, rfl⟩) | (go_at_call 20; refine (HK.out _).mono ?_; rintro e w' ⟨rfl, rfl⟩) | (go_at_call 23; refine (HW.out _).mono ?_; rintro e w' ⟨rfl, rfl⟩) | (go_at_call 21; refine (HF.out _).mono ?_; rintro e w' ⟨rfl, rfl⟩))
    go_ret
    exact ⟨rfl, (by repeat (first | exact Below.refl _ _ | refine Below.drew ?_ | refine below_drewN ?_ _ | refine Below.setCell ?_ (by simp <;> omega) _ | refine Below.alloc ?_ (by simp <;> omega) _))⟩
set_option maxRecDepth 100000 in
set_option maxHeartbeats 1000000 in
theorem implUp_normal_plus (U : Nat) (E M : Nat) (h1 : 1 ≤ E) (h2 : E ≤ 2046) (hM' : M < 4503599627370496) (hU : U = signBit false + (E * 4503599627370496 + M)) (hL : Lays U false E M) (w : World) :
    Calls Tryz.prog 6 #[.float .f64 U] w fun e w' => e = .returned (.float .f64 (U + 1)) ∧ Below w.heap.size w w' := by
  obtain ⟨V, hV⟩ : ∃ V : Int, V = (U : Int) := ⟨_, rfl⟩
  have HL : Hid _ := fun w => layoutOf_any U false E M hL w
  have HK : Hid _ := fun w => kind_normal false E M h1 h2 w
  have HW : Hid (∀ w, Calls Tryz.prog 23 #[.agg #[.bool false, .int .u64 ((E : Nat) : Int), .int .u64 ((M : Nat) : Int)]] w fun e w' => e = .returned (.int .u64 V) ∧ w' = w.alloc (.cells #[.bool false, .int .u64 ((E : Nat) : Int), .int .u64 ((M : Nat) : Int)] 45)) := fun w => by
    have h := word_any false E M (by omega) (by omega) w
    rw [← hU, ← hV] at h
    exact h
  have HF : Hid _ := fun w => float_any false 0 1 (by omega) (by omega) w
  have e0 : ((E : Int) == 0) = false := beq_eq_false_iff_ne.2 (by omega)
  have e1 : ((E : Int) == 2047) = false := beq_eq_false_iff_ne.2 (by omega)
  have hc := call_frombits (V + 1)
  rw [show (V + 1).toNat = U + 1 by omega] at hc
  have hV1 : V + 1 < 18446744073709551616 := by have : signBit false = 0 := rfl; omega
  have hV0 : 0 ≤ V + 1 := by omega
  clear hL h1 h2 hM' hU hV
  go_enter Tryz.func6, Tryz.ntmps6
  go_wp2_with (first | (go_at_call 18; refine (HL.out _).mono ?_; rintro e w' ⟨rfl, rfl⟩) | (go_at_call 20; refine (HK.out _).mono ?_; rintro e w' ⟨rfl, rfl⟩) | (go_at_call 23; refine (HW.out _).mono ?_; rintro e w' ⟨rfl, rfl⟩) | (go_at_call 21; refine (HF.out _).mono ?_; rintro e w' ⟨rfl, rfl⟩))
  go_region_with (go_at_call 19; refine (infinity_any _ _).mono ?_; rintro e w' ⟨rfl, rfl⟩)
  all_goals
    go_wp2_with (first | (go_at_call 18; refine (HL.out _).mono ?_; rintro e w' ⟨rfl, rfl⟩) | (go_at_call 20; refine (HK.out _).mono ?_; rintro e w' ⟨rfl, rfl⟩) | (go_at_call 23; refine (HW.out _).mono ?_; rintro e w' ⟨rfl, rfl⟩) | (go_at_call 21; refine (HF.out _).mono ?_; rintro e w' ⟨rfl, rfl⟩))
    go_ret
    exact ⟨rfl, (by repeat (first | exact Below.refl _ _ | refine Below.drew ?_ | refine below_drewN ?_ _ | refine Below.setCell ?_ (by simp <;> omega) _ | refine Below.alloc ?_ (by simp <;> omega) _))⟩
end Go.Proofs.YtmcjehjpblkfoaaGreatDoor

/- The law on Up, walked. -/
namespace Go.Proofs.YtmcjehjpblkfoaaGreatDoor
open Go.ChangeShapes Go.WideShapes Go.RowKit
open Ieee (double)

/-- A number's place in the word. -/
theorem up_parts (s : Bool) (m : Nat) (p : Int) (hc : Canon m p) (h0 : 0 < m) :
    (∃ M, M ≠ 0 ∧ M < 4503599627370496 ∧ fw s m p = signBit s + (0 * 4503599627370496 + M)) ∨ (∃ E M, 1 ≤ E ∧ E ≤ 2046 ∧ M < 4503599627370496 ∧ fw s m p = signBit s + (E * 4503599627370496 + M)) := by
  have hw := fw_canon s m p hc
  rcases hc with ⟨h1, h2, h3, h4⟩ | ⟨h1, rfl⟩
  · refine .inr ⟨(p + 1075).toNat, m - 4503599627370496, by omega, by omega, by omega, ?_⟩
    refine hw.trans ?_
    unfold rung
    obtain ⟨a, ha⟩ : ∃ a : Nat, (p + 1074).toNat = a := ⟨_, rfl⟩
    obtain ⟨b, hb⟩ : ∃ b : Nat, m = 4503599627370496 + b := ⟨m - 4503599627370496, by omega⟩
    rw [ha, show (p + 1075).toNat = a + 1 by omega, hb, Nat.add_sub_cancel_left, Nat.succ_mul]
    omega
  · refine .inl ⟨m, by omega, h1, ?_⟩
    refine hw.trans ?_
    unfold rung
    rw [show ((-1074 : Int) + 1074).toNat = 0 from rfl]
theorem implUp_of (x b : Nat) (hx : x < 18446744073709551616) (h : upV x b) (w : World) :
    Calls Tryz.prog 6 #[.float .f64 x] w fun e w' => e = .returned (.float .f64 b) ∧ Below w.heap.size w w' := by
  rcases h.2 with ⟨hn, rfl⟩ | ⟨rfl, rfl⟩ | ⟨s, rfl, rfl⟩ | ⟨m, p, hc, h0, rfl, rfl⟩ | ⟨m, p, hc, h0, rfl, rfl⟩ | ⟨rfl, rfl⟩
  · obtain ⟨s, E, M, hE, hM, hU⟩ := word_parts b hx
    have hL := lays_any b s E M hE hM hU
    have c : ¬ E * 4503599627370496 + M ≤ 9218868437227405312 := fun h' => not_nan s _ h' (by rw [← hU]; exact hn)
    obtain rfl : E = 2047 := by omega
    exact implUp_nan b s M (by omega) hL w
  · exact implUp_inf _ (lays_any _ false 2047 0 (by omega) (by omega) (by decide)) w
  · exact implUp_zero _ s (lays_any _ s 0 0 (by omega) (by omega) (by omega)) w
  · rcases up_parts false m p hc h0 with ⟨M, h1, h2, e⟩ | ⟨E, M, h1, h2, h3, e⟩
    · exact implUp_small_plus _ M h1 h2 e (lays_any _ false 0 M (by omega) h2 e) w
    · exact implUp_normal_plus _ E M h1 h2 h3 e (lays_any _ false E M (by omega) h3 e) w
  · rcases up_parts true m p hc h0 with ⟨M, h1, h2, e⟩ | ⟨E, M, h1, h2, h3, e⟩
    · exact implUp_small_minus _ M h1 h2 e (lays_any _ true 0 M (by omega) h2 e) w
    · exact implUp_normal_minus _ E M h1 h2 h3 e (lays_any _ true E M (by omega) h3 e) w
  · exact implUp_inf_minus _ (by decide) (lays_any _ true 2047 0 (by omega) (by omega) (by decide)) w
end Go.Proofs.YtmcjehjpblkfoaaGreatDoor

/- BitsOf of the program. -/
namespace Go.Proofs.YtmcjehjpblkfoaaGreatDoor
open Go.ChangeShapes Go.WideShapes Go.RowKit
open Ieee (double)

set_option maxHeartbeats 400000 in
theorem implBits_nan (U : Nat) (s : Bool) (M : Nat) (hL : Lays U s 2047 M) (hM : M ≠ 0) (w : World) :
    Calls Tryz.prog 11 #[.float .f64 U] w fun e w' => e = .returned (.int .i64 9221120237041090560) ∧ Below w.heap.size w w' := by
  have HL : Hid _ := fun w => layoutOf_any U s 2047 M hL w
  have HK : Hid _ := fun w => kind_nan s M hM w
  have HW : Hid (∀ w, Calls Tryz.prog 23 #[.agg #[.bool false, .int .u64 ((2047 : Nat) : Int), .int .u64 ((2251799813685248 : Nat) : Int)]] w fun e w' => e = .returned (.int .u64 9221120237041090560) ∧ w' = w.alloc (.cells #[.bool false, .int .u64 ((2047 : Nat) : Int), .int .u64 ((2251799813685248 : Nat) : Int)] 45)) := fun w => by
    have h := word_any false 2047 2251799813685248 (by omega) (by omega) w
    rw [show ((signBit false + (2047 * 4503599627370496 + 2251799813685248) : Nat) : Int) = 9221120237041090560 by decide] at h
    exact h
  clear hL hM
  go_enter Tryz.func11, Tryz.ntmps11
  go_wp2_with (first | (go_at_call 18; refine (HL.out _).mono ?_; rintro e w' ⟨rfl, rfl⟩) | (go_at_call 20; refine (HK.out _).mono ?_; rintro e w' ⟨rfl, rfl⟩) | (go_at_call 23; refine (HW.out _).mono ?_; rintro e w' ⟨rfl, rfl⟩))
  go_ret
  exact ⟨rfl, (by repeat (first | exact Below.refl _ _ | refine Below.drew ?_ | refine below_drewN ?_ _ | refine Below.setCell ?_ (by simp <;> omega) _ | refine Below.alloc ?_ (by simp <;> omega) _))⟩
set_option maxHeartbeats 400000 in
theorem implBits_zero (U : Nat) (s : Bool) (hL : Lays U s 0 0) (hU : U = signBit s + (0 * 4503599627370496 + 0)) (w : World) :
    Calls Tryz.prog 11 #[.float .f64 U] w fun e w' => e = .returned (.int .i64 (wrap64 (U : Int))) ∧ Below w.heap.size w w' := by
  have HL : Hid _ := fun w => layoutOf_any U s 0 0 hL w
  have HK : Hid _ := fun w => kind_zero s w
  have HW : Hid (∀ w, Calls Tryz.prog 23 #[.agg #[.bool s, .int .u64 ((0 : Nat) : Int), .int .u64 ((0 : Nat) : Int)]] w fun e w' => e = .returned (.int .u64 (U : Int)) ∧ w' = w.alloc (.cells #[.bool s, .int .u64 ((0 : Nat) : Int), .int .u64 ((0 : Nat) : Int)] 45)) := fun w => by
    have h := word_any s 0 0 (by omega) (by omega) w
    rw [← hU] at h
    exact h
  clear hL hU
  go_enter Tryz.func11, Tryz.ntmps11
  go_wp2_with (first | (go_at_call 18; refine (HL.out _).mono ?_; rintro e w' ⟨rfl, rfl⟩) | (go_at_call 20; refine (HK.out _).mono ?_; rintro e w' ⟨rfl, rfl⟩) | (go_at_call 23; refine (HW.out _).mono ?_; rintro e w' ⟨rfl, rfl⟩))
  go_ret
  exact ⟨rfl, (by repeat (first | exact Below.refl _ _ | refine Below.drew ?_ | refine below_drewN ?_ _ | refine Below.setCell ?_ (by simp <;> omega) _ | refine Below.alloc ?_ (by simp <;> omega) _))⟩
set_option maxHeartbeats 400000 in
theorem implBits_inf (U : Nat) (s : Bool) (hL : Lays U s 2047 0) (hU : U = signBit s + (2047 * 4503599627370496 + 0)) (w : World) :
    Calls Tryz.prog 11 #[.float .f64 U] w fun e w' => e = .returned (.int .i64 (wrap64 (U : Int))) ∧ Below w.heap.size w w' := by
  have HL : Hid _ := fun w => layoutOf_any U s 2047 0 hL w
  have HK : Hid _ := fun w => kind_inf s w
  have HW : Hid (∀ w, Calls Tryz.prog 23 #[.agg #[.bool s, .int .u64 ((2047 : Nat) : Int), .int .u64 ((0 : Nat) : Int)]] w fun e w' => e = .returned (.int .u64 (U : Int)) ∧ w' = w.alloc (.cells #[.bool s, .int .u64 ((2047 : Nat) : Int), .int .u64 ((0 : Nat) : Int)] 45)) := fun w => by
    have h := word_any s 2047 0 (by omega) (by omega) w
    rw [← hU] at h
    exact h
  clear hL hU
  go_enter Tryz.func11, Tryz.ntmps11
  go_wp2_with (first | (go_at_call 18; refine (HL.out _).mono ?_; rintro e w' ⟨rfl, rfl⟩) | (go_at_call 20; refine (HK.out _).mono ?_; rintro e w' ⟨rfl, rfl⟩) | (go_at_call 23; refine (HW.out _).mono ?_; rintro e w' ⟨rfl, rfl⟩))
  go_ret
  exact ⟨rfl, (by repeat (first | exact Below.refl _ _ | refine Below.drew ?_ | refine below_drewN ?_ _ | refine Below.setCell ?_ (by simp <;> omega) _ | refine Below.alloc ?_ (by simp <;> omega) _))⟩
set_option maxHeartbeats 400000 in
theorem implBits_small (U : Nat) (s : Bool) (M : Nat) (hM : M ≠ 0) (hM' : M < 4503599627370496) (hL : Lays U s 0 M) (hU : U = signBit s + (0 * 4503599627370496 + M)) (w : World) :
    Calls Tryz.prog 11 #[.float .f64 U] w fun e w' => e = .returned (.int .i64 (wrap64 (U : Int))) ∧ Below w.heap.size w w' := by
  have HL : Hid _ := fun w => layoutOf_any U s 0 M hL w
  have HK : Hid _ := fun w => kind_small s M hM w
  have HW : Hid (∀ w, Calls Tryz.prog 23 #[.agg #[.bool s, .int .u64 ((0 : Nat) : Int), .int .u64 ((M : Nat) : Int)]] w fun e w' => e = .returned (.int .u64 (U : Int)) ∧ w' = w.alloc (.cells #[.bool s, .int .u64 ((0 : Nat) : Int), .int .u64 ((M : Nat) : Int)] 45)) := fun w => by
    have h := word_any s 0 M (by omega) (by omega) w
    rw [← hU] at h
    exact h
  clear hL hU
  go_enter Tryz.func11, Tryz.ntmps11
  go_wp2_with (first | (go_at_call 18; refine (HL.out _).mono ?_; rintro e w' ⟨rfl, rfl⟩) | (go_at_call 20; refine (HK.out _).mono ?_; rintro e w' ⟨rfl, rfl⟩) | (go_at_call 23; refine (HW.out _).mono ?_; rintro e w' ⟨rfl, rfl⟩))
  go_ret
  exact ⟨rfl, (by repeat (first | exact Below.refl _ _ | refine Below.drew ?_ | refine below_drewN ?_ _ | refine Below.setCell ?_ (by simp <;> omega) _ | refine Below.alloc ?_ (by simp <;> omega) _))⟩
set_option maxHeartbeats 400000 in
theorem implBits_normal (U : Nat) (s : Bool) (E M : Nat) (h1 : 1 ≤ E) (h2 : E ≤ 2046) (hM' : M < 4503599627370496) (hL : Lays U s E M) (hU : U = signBit s + (E * 4503599627370496 + M)) (w : World) :
    Calls Tryz.prog 11 #[.float .f64 U] w fun e w' => e = .returned (.int .i64 (wrap64 (U : Int))) ∧ Below w.heap.size w w' := by
  have HL : Hid _ := fun w => layoutOf_any U s E M hL w
  have HK : Hid _ := fun w => kind_normal s E M h1 h2 w
  have HW : Hid (∀ w, Calls Tryz.prog 23 #[.agg #[.bool s, .int .u64 ((E : Nat) : Int), .int .u64 ((M : Nat) : Int)]] w fun e w' => e = .returned (.int .u64 (U : Int)) ∧ w' = w.alloc (.cells #[.bool s, .int .u64 ((E : Nat) : Int), .int .u64 ((M : Nat) : Int)] 45)) := fun w => by
    have h := word_any s E M (by omega) (by omega) w
    rw [← hU] at h
    exact h
  clear hL hU
  go_enter Tryz.func11, Tryz.ntmps11
  go_wp2_with (first | (go_at_call 18; refine (HL.out _).mono ?_; rintro e w' ⟨rfl, rfl⟩) | (go_at_call 20; refine (HK.out _).mono ?_; rintro e w' ⟨rfl, rfl⟩) | (go_at_call 23; refine (HW.out _).mono ?_; rintro e w' ⟨rfl, rfl⟩))
  go_ret
  exact ⟨rfl, (by repeat (first | exact Below.refl _ _ | refine Below.drew ?_ | refine below_drewN ?_ _ | refine Below.setCell ?_ (by simp <;> omega) _ | refine Below.alloc ?_ (by simp <;> omega) _))⟩
theorem implBitsOf_any (x : Nat) (hx : x < 18446744073709551616) (w : World) :
    Calls Tryz.prog 11 #[.float .f64 x] w fun e w' => ∃ v, bitsV x v ∧ e = .returned (.int .i64 v) ∧ Below w.heap.size w w' := by
  obtain ⟨s, E, M, hE, hM, hU⟩ := word_parts x hx
  have hL := lays_any x s E M hE hM hU
  by_cases c1 : E = 2047
  · subst c1
    by_cases c2 : M = 0
    · subst c2
      refine (implBits_inf x s hL hU w).mono ?_
      rintro e w' ⟨rfl, hb⟩
      exact ⟨_, .inr ⟨by rw [hU]; exact not_nan s _ (by omega), rfl⟩, rfl, hb⟩
    · refine (implBits_nan x s M hL c2 w).mono ?_
      rintro e w' ⟨rfl, hb⟩
      exact ⟨_, .inl ⟨by rw [hU]; exact nan_word s _ (by omega) (by omega), rfl⟩, rfl, hb⟩
  · have hn : ¬ IsNan x := by rw [hU]; exact not_nan s _ (by omega)
    by_cases c3 : E = 0
    · subst c3
      by_cases c2 : M = 0
      · subst c2
        refine (implBits_zero x s hL hU w).mono ?_
        rintro e w' ⟨rfl, hb⟩
        exact ⟨_, .inr ⟨hn, rfl⟩, rfl, hb⟩
      · refine (implBits_small x s M c2 hM hL hU w).mono ?_
        rintro e w' ⟨rfl, hb⟩
        exact ⟨_, .inr ⟨hn, rfl⟩, rfl, hb⟩
    · refine (implBits_normal x s E M (by omega) (by omega) hM hL hU w).mono ?_
      rintro e w' ⟨rfl, hb⟩
      exact ⟨_, .inr ⟨hn, rfl⟩, rfl, hb⟩
end Go.Proofs.YtmcjehjpblkfoaaGreatDoor

/- The size of a number, as the program tells it. -/
namespace Go.Proofs.YtmcjehjpblkfoaaGreatDoor
open Go.ChangeShapes Go.WideShapes Go.RowKit
open Ieee (double)

set_option maxHeartbeats 400000 in
theorem size_small (s : Bool) (M : Nat) (w : World) :
    Calls Tryz.prog 26 #[.agg #[.bool s, .int .u64 0, .int .u64 (M : Int)]] w fun e w' => e = .returned (.tuple #[.int .u64 (M : Int), .int .i64 (-1074)]) ∧ w' = w.alloc (.cells #[.bool s, .int .u64 0, .int .u64 (M : Int)] 45) := by
  go_enter Tryz.func26, Tryz.ntmps26
  go_wp2
  go_ret2
  exact ⟨rfl, rfl⟩
set_option maxHeartbeats 400000 in
theorem size_normal (s : Bool) (E M : Nat) (h1 : 1 ≤ E) (h2 : E ≤ 2046) (hM : M < 4503599627370496) (w : World) :
    Calls Tryz.prog 26 #[.agg #[.bool s, .int .u64 (E : Int), .int .u64 (M : Int)]] w fun e w' => e = .returned (.tuple #[.int .u64 ((4503599627370496 + M : Nat) : Int), .int .i64 ((E : Int) - 1 + -1074)]) ∧ w' = (w.alloc (.cells #[.bool s, .int .u64 (E : Int), .int .u64 (M : Int)] 45)).drew := by
  have e0 : ((E : Int) == 0) = false := beq_eq_false_iff_ne.2 (by omega)
  have ho := or_one M hM
  have c1 : 1 ≤ (E : Int) := by omega
  have c2 : (E : Int) ≤ 2046 := by omega
  clear hM h1 h2
  go_enter Tryz.func26, Tryz.ntmps26
  go_wp2
  go_region
  all_goals
    go_wp2
    go_ret2
    exact ⟨rfl, rfl⟩
end Go.Proofs.YtmcjehjpblkfoaaGreatDoor

/- What PartsOf answers (plain). -/
namespace Go.Proofs.YtmcjehjpblkfoaaGreatDoor

/-- What a float is taken apart into: kind, sign, an odd number, a power of two. -/
def partsV (x : Nat) (k : Int) (s : Bool) (m e : Int) : Prop :=
  (IsNan x ∧ k = 3 ∧ s = false ∧ m = 0 ∧ e = 0) ∨ (x = iw s ∧ k = 2 ∧ m = 0 ∧ e = 0) ∨ (x = signBit s ∧ k = 0 ∧ m = 0 ∧ e = 0)
  ∨ (∃ (n : Nat) (p : Int) (q t : Nat), Canon n p ∧ 0 < n ∧ x = fw s n p ∧ n = q * 2 ^ t ∧ q % 2 = 1 ∧ k = 1 ∧ m = q ∧ e = p + t)
theorem half_even (n t : Nat) (q : Int) (h : n = q.toNat * 2 ^ t) (h0 : 0 < q) (he : q % 2 = 0) : n = (q / 2).toNat * 2 ^ (t + 1) := by
  have e : q.toNat = (q / 2).toNat * 2 := by omega
  rw [h, e, Nat.pow_succ, Nat.mul_assoc, Nat.mul_comm 2]
theorem few_halves (n t : Nat) (q : Int) (h : n = q.toNat * 2 ^ t) (h0 : 0 < q) (hn : n < 9007199254740992) : t ≤ 52 := by
  have h1 : 1 * 2 ^ t ≤ q.toNat * 2 ^ t := Nat.mul_le_mul_right _ (by omega)
  have h2 : 2 ^ t < 2 ^ 53 := by
    have : (2 : Nat) ^ 53 = 9007199254740992 := rfl
    omega
  have := (Nat.pow_lt_pow_iff_right (a := 2) (by omega)).1 h2
  omega
end Go.Proofs.YtmcjehjpblkfoaaGreatDoor

/- PartsOf of the program. -/
namespace Go.Proofs.YtmcjehjpblkfoaaGreatDoor
open Go.ChangeShapes Go.WideShapes Go.RowKit
open Ieee (double)

set_option maxHeartbeats 400000 in
theorem implParts_nan (U : Nat) (s : Bool) (M : Nat) (hL : Lays U s 2047 M) (hM : M ≠ 0) (w : World) :
    Calls Tryz.prog 9 #[.float .f64 U] w fun e w' => e = .returned (.agg #[.int .i64 3, .bool false, .int .i64 0, .int .i64 0]) ∧ Below w.heap.size w w' := by
  have HL : Hid _ := fun w => layoutOf_any U s 2047 M hL w
  have HK : Hid _ := fun w => kind_nan s M hM w
  clear hL hM
  go_enter Tryz.func9, Tryz.ntmps9
  go_wp2_with (first | (go_at_call 18; refine (HL.out _).mono ?_; rintro e w' ⟨rfl, rfl⟩) | (go_at_call 20; refine (HK.out _).mono ?_; rintro e w' ⟨rfl, rfl⟩))
  exact bodyPost_ret (v := .agg #[.int .i64 3, .bool false, .int .i64 0, .int .i64 0]) (by simp [results, Tryz.results9, go_sem]) rfl ⟨rfl, (by repeat (first | exact Below.refl _ _ | refine Below.drew ?_ | refine below_drewN ?_ _ | refine Below.setCell ?_ (by simp <;> omega) _ | refine Below.alloc ?_ (by simp <;> omega) _))⟩
set_option maxHeartbeats 400000 in
theorem implParts_inf (U : Nat) (s : Bool) (hL : Lays U s 2047 0) (w : World) :
    Calls Tryz.prog 9 #[.float .f64 U] w fun e w' => e = .returned (.agg #[.int .i64 2, .bool s, .int .i64 0, .int .i64 0]) ∧ Below w.heap.size w w' := by
  have HL : Hid _ := fun w => layoutOf_any U s 2047 0 hL w
  have HK : Hid _ := fun w => kind_inf s w
  clear hL
  go_enter Tryz.func9, Tryz.ntmps9
  go_wp2_with (first | (go_at_call 18; refine (HL.out _).mono ?_; rintro e w' ⟨rfl, rfl⟩) | (go_at_call 20; refine (HK.out _).mono ?_; rintro e w' ⟨rfl, rfl⟩))
  exact bodyPost_ret (v := .agg #[.int .i64 2, .bool s, .int .i64 0, .int .i64 0]) (by simp [results, Tryz.results9, go_sem]) rfl ⟨rfl, (by repeat (first | exact Below.refl _ _ | refine Below.drew ?_ | refine below_drewN ?_ _ | refine Below.setCell ?_ (by simp <;> omega) _ | refine Below.alloc ?_ (by simp <;> omega) _))⟩
set_option maxHeartbeats 400000 in
theorem implParts_zero (U : Nat) (s : Bool) (hL : Lays U s 0 0) (w : World) :
    Calls Tryz.prog 9 #[.float .f64 U] w fun e w' => e = .returned (.agg #[.int .i64 0, .bool s, .int .i64 0, .int .i64 0]) ∧ Below w.heap.size w w' := by
  have HL : Hid _ := fun w => layoutOf_any U s 0 0 hL w
  have HK : Hid _ := fun w => kind_zero s w
  clear hL
  go_enter Tryz.func9, Tryz.ntmps9
  go_wp2_with (first | (go_at_call 18; refine (HL.out _).mono ?_; rintro e w' ⟨rfl, rfl⟩) | (go_at_call 20; refine (HK.out _).mono ?_; rintro e w' ⟨rfl, rfl⟩))
  exact bodyPost_ret (v := .agg #[.int .i64 0, .bool s, .int .i64 0, .int .i64 0]) (by simp [results, Tryz.results9, go_sem]) rfl ⟨rfl, (by repeat (first | exact Below.refl _ _ | refine Below.drew ?_ | refine below_drewN ?_ _ | refine Below.setCell ?_ (by simp <;> omega) _ | refine Below.alloc ?_ (by simp <;> omega) _))⟩

set_option maxHeartbeats 1000000 in
theorem implParts_small (U : Nat) (s : Bool) (M : Nat) (hL : Lays U s 0 M) (n : Nat) (p : Int) (q t : Nat) (hn : n = q * 2 ^ t) (hq : q % 2 = 1) (hn' : n < 9007199254740992) (hp : -1074 ≤ p) (hp' : p ≤ 971)
    (hK : ∀ w, Calls Tryz.prog 20 #[.agg #[.bool s, .int .u64 ((0 : Nat) : Int), .int .u64 (M : Int)]] w fun e w' => e = .returned (.int .i64 1) ∧ w' = ((w.alloc (.cells #[.bool s, .int .u64 ((0 : Nat) : Int), .int .u64 (M : Int)] 45)).alloc (.cells #[.bool s, .int .u64 2047, .int .u64 0] 45)).drew)
    (hS : ∀ w, Calls Tryz.prog 26 #[.agg #[.bool s, .int .u64 ((0 : Nat) : Int), .int .u64 (M : Int)]] w fun e w' => e = .returned (.tuple #[.int .u64 (n : Int), .int .i64 p]) ∧ w' = (w.alloc (.cells #[.bool s, .int .u64 ((0 : Nat) : Int), .int .u64 (M : Int)] 45))) (w : World) (hT : DTab w) (hz : 1 < w.heap.size) :
    Calls Tryz.prog 9 #[.float .f64 U] w fun e w' => e = .returned (.agg #[.int .i64 1, .bool s, .int .i64 (q : Int), .int .i64 (p + t)]) ∧ Below w.heap.size w w' := by
  have HL : Hid _ := fun w => layoutOf_any U s 0 M hL w
  have HK : Hid _ := hK
  have HS : Hid _ := hS
  have HT : Hid _ := fun w' (hb : Below w.heap.size w w') => tz_any n q t hn hq (by omega) w' (DTab.below hT hz hb)
  have ht := few_halves n t (q : Int) (by rw [Int.toNat_natCast]; exact hn) (by omega) hn'
  have hsh : (n : Int) / 2 ^ t = (q : Int) := by
    rw [hn, Int.natCast_mul, Int.natCast_pow]
    exact Int.mul_ediv_cancel _ (by have := Nat.two_pow_pos t; have e : ((2 : Nat) : Int) ^ t = ((2 ^ t : Nat) : Int) := (Int.natCast_pow 2 t).symm; rw [e]; omega)
  have hq1 : (q : Int) < 9007199254740992 := by
    have : q * 1 ≤ q * 2 ^ t := Nat.mul_le_mul_left _ (Nat.two_pow_pos t)
    omega
  have ht1 : (t : Int) ≤ 52 := by omega
  generalize (n : Int) = x at *
  clear hL hK hS hn hq hn' ht hT hz
  go_enter Tryz.func9, Tryz.ntmps9
  go_wp2_with (first | (go_at_call 18; refine (HL.out _).mono ?_; rintro e w' ⟨rfl, rfl⟩) | (go_at_call 20; refine (HK.out _).mono ?_; rintro e w' ⟨rfl, rfl⟩) | (go_at_call 26; refine (HS.out _).mono ?_; rintro e w' ⟨rfl, rfl⟩))
  refine (HT.out _ (by repeat (first | exact Below.refl _ _ | refine Below.drew ?_ | refine below_drewN ?_ _ | refine Below.setCell ?_ (by simp <;> omega) _ | refine Below.alloc ?_ (by simp <;> omega) _))).mono ?_
  rintro e w' ⟨rfl, rfl⟩
  go_wp2
  go_region
  all_goals go_wp2
  all_goals exact bodyPost_ret (v := .agg #[.int .i64 1, .bool s, .int .i64 (q : Int), .int .i64 (p + t)]) (by simp [results, Tryz.results9, go_sem]) rfl ⟨rfl, (by repeat (first | exact Below.refl _ _ | refine Below.drew ?_ | refine below_drewN ?_ _ | refine Below.setCell ?_ (by simp <;> omega) _ | refine Below.alloc ?_ (by simp <;> omega) _))⟩
set_option maxHeartbeats 1000000 in
theorem implParts_normal (U : Nat) (s : Bool) (E M : Nat) (hL : Lays U s E M) (n : Nat) (p : Int) (q t : Nat) (hn : n = q * 2 ^ t) (hq : q % 2 = 1) (hn' : n < 9007199254740992) (hp : -1074 ≤ p) (hp' : p ≤ 971)
    (hK : ∀ w, Calls Tryz.prog 20 #[.agg #[.bool s, .int .u64 ((E : Nat) : Int), .int .u64 (M : Int)]] w fun e w' => e = .returned (.int .i64 1) ∧ w' = ((w.alloc (.cells #[.bool s, .int .u64 ((E : Nat) : Int), .int .u64 (M : Int)] 45)).alloc (.cells #[.bool s, .int .u64 2047, .int .u64 0] 45)).drew)
    (hS : ∀ w, Calls Tryz.prog 26 #[.agg #[.bool s, .int .u64 ((E : Nat) : Int), .int .u64 (M : Int)]] w fun e w' => e = .returned (.tuple #[.int .u64 (n : Int), .int .i64 p]) ∧ w' = (w.alloc (.cells #[.bool s, .int .u64 ((E : Nat) : Int), .int .u64 (M : Int)] 45)).drew) (w : World) (hT : DTab w) (hz : 1 < w.heap.size) :
    Calls Tryz.prog 9 #[.float .f64 U] w fun e w' => e = .returned (.agg #[.int .i64 1, .bool s, .int .i64 (q : Int), .int .i64 (p + t)]) ∧ Below w.heap.size w w' := by
  have HL : Hid _ := fun w => layoutOf_any U s E M hL w
  have HK : Hid _ := hK
  have HS : Hid _ := hS
  have HT : Hid _ := fun w' (hb : Below w.heap.size w w') => tz_any n q t hn hq (by omega) w' (DTab.below hT hz hb)
  have ht := few_halves n t (q : Int) (by rw [Int.toNat_natCast]; exact hn) (by omega) hn'
  have hsh : (n : Int) / 2 ^ t = (q : Int) := by
    rw [hn, Int.natCast_mul, Int.natCast_pow]
    exact Int.mul_ediv_cancel _ (by have := Nat.two_pow_pos t; have e : ((2 : Nat) : Int) ^ t = ((2 ^ t : Nat) : Int) := (Int.natCast_pow 2 t).symm; rw [e]; omega)
  have hq1 : (q : Int) < 9007199254740992 := by
    have : q * 1 ≤ q * 2 ^ t := Nat.mul_le_mul_left _ (Nat.two_pow_pos t)
    omega
  have ht1 : (t : Int) ≤ 52 := by omega
  generalize (n : Int) = x at *
  clear hL hK hS hn hq hn' ht hT hz
  go_enter Tryz.func9, Tryz.ntmps9
  go_wp2_with (first | (go_at_call 18; refine (HL.out _).mono ?_; rintro e w' ⟨rfl, rfl⟩) | (go_at_call 20; refine (HK.out _).mono ?_; rintro e w' ⟨rfl, rfl⟩) | (go_at_call 26; refine (HS.out _).mono ?_; rintro e w' ⟨rfl, rfl⟩))
  refine (HT.out _ (by repeat (first | exact Below.refl _ _ | refine Below.drew ?_ | refine below_drewN ?_ _ | refine Below.setCell ?_ (by simp <;> omega) _ | refine Below.alloc ?_ (by simp <;> omega) _))).mono ?_
  rintro e w' ⟨rfl, rfl⟩
  go_wp2
  go_region
  all_goals go_wp2
  all_goals exact bodyPost_ret (v := .agg #[.int .i64 1, .bool s, .int .i64 (q : Int), .int .i64 (p + t)]) (by simp [results, Tryz.results9, go_sem]) rfl ⟨rfl, (by repeat (first | exact Below.refl _ _ | refine Below.drew ?_ | refine below_drewN ?_ _ | refine Below.setCell ?_ (by simp <;> omega) _ | refine Below.alloc ?_ (by simp <;> omega) _))⟩
end Go.Proofs.YtmcjehjpblkfoaaGreatDoor

