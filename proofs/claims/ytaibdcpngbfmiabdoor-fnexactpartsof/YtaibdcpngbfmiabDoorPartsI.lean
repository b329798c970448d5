/- PartsOf of the program. -/
import Derived.Test.YtaibdcpngbfmiabDoorKindI
import Derived.Test.YtaibdcpngbfmiabDoorSizeI
import Derived.Test.YtaibdcpngbfmiabDoorTzI
import Derived.Test.YtaibdcpngbfmiabDoorPartsS
namespace Go.Proofs.YtaibdcpngbfmiabDoor
open Go.ChangeShapes Go.WideShapes Go.RowKit
open Ieee (double)

set_option maxHeartbeats 400000 in
theorem implParts_nan (U : Nat) (s : Bool) (M : Nat) (hL : Lays U s 2047 M) (hM : M ≠ 0) (w : World) :
    Calls Tryd.prog 5 #[.float .f64 U] w fun e w' => e = .returned (.agg #[.int .i64 3, .bool false, .int .i64 0, .int .i64 0]) ∧ Below w.heap.size w w' := by
  have HL : Hid _ := fun w => layoutOf_any U s 2047 M hL w
  have HK : Hid _ := fun w => kind_nan s M hM w
  clear hL hM
  go_enter Tryd.func5, Tryd.ntmps5
  go_wp2_with (first | (go_at_call 8; refine (HL.out _).mono ?_; rintro e w' ⟨rfl, rfl⟩) | (go_at_call 9; refine (HK.out _).mono ?_; rintro e w' ⟨rfl, rfl⟩))
  exact bodyPost_ret (v := .agg #[.int .i64 3, .bool false, .int .i64 0, .int .i64 0]) (by simp [results, Tryd.results5, go_sem]) rfl ⟨rfl, (by repeat (first | exact Below.refl _ _ | refine Below.drew ?_ | refine below_drewN ?_ _ | refine Below.setCell ?_ (by simp <;> omega) _ | refine Below.alloc ?_ (by simp <;> omega) _))⟩
set_option maxHeartbeats 400000 in
theorem implParts_inf (U : Nat) (s : Bool) (hL : Lays U s 2047 0) (w : World) :
    Calls Tryd.prog 5 #[.float .f64 U] w fun e w' => e = .returned (.agg #[.int .i64 2, .bool s, .int .i64 0, .int .i64 0]) ∧ Below w.heap.size w w' := by
  have HL : Hid _ := fun w => layoutOf_any U s 2047 0 hL w
  have HK : Hid _ := fun w => kind_inf s w
  clear hL
  go_enter Tryd.func5, Tryd.ntmps5
  go_wp2_with (first | (go_at_call 8; refine (HL.out _).mono ?_; rintro e w' ⟨rfl, rfl⟩) | (go_at_call 9; refine (HK.out _).mono ?_; rintro e w' ⟨rfl, rfl⟩))
  exact bodyPost_ret (v := .agg #[.int .i64 2, .bool s, .int .i64 0, .int .i64 0]) (by simp [results, Tryd.results5, go_sem]) rfl ⟨rfl, (by repeat (first | exact Below.refl _ _ | refine Below.drew ?_ | refine below_drewN ?_ _ | refine Below.setCell ?_ (by simp <;> omega) _ | refine Below.alloc ?_ (by simp <;> omega) _))⟩
set_option maxHeartbeats 400000 in
theorem implParts_zero (U : Nat) (s : Bool) (hL : Lays U s 0 0) (w : World) :
    Calls Tryd.prog 5 #[.float .f64 U] w fun e w' => e = .returned (.agg #[.int .i64 0, .bool s, .int .i64 0, .int .i64 0]) ∧ Below w.heap.size w w' := by
  have HL : Hid _ := fun w => layoutOf_any U s 0 0 hL w
  have HK : Hid _ := fun w => kind_zero s w
  clear hL
  go_enter Tryd.func5, Tryd.ntmps5
  go_wp2_with (first | (go_at_call 8; refine (HL.out _).mono ?_; rintro e w' ⟨rfl, rfl⟩) | (go_at_call 9; refine (HK.out _).mono ?_; rintro e w' ⟨rfl, rfl⟩))
  exact bodyPost_ret (v := .agg #[.int .i64 0, .bool s, .int .i64 0, .int .i64 0]) (by simp [results, Tryd.results5, go_sem]) rfl ⟨rfl, (by repeat (first | exact Below.refl _ _ | refine Below.drew ?_ | refine below_drewN ?_ _ | refine Below.setCell ?_ (by simp <;> omega) _ | refine Below.alloc ?_ (by simp <;> omega) _))⟩

set_option maxHeartbeats 1000000 in
theorem implParts_small (U : Nat) (s : Bool) (M : Nat) (hL : Lays U s 0 M) (n : Nat) (p : Int) (q t : Nat) (hn : n = q * 2 ^ t) (hq : q % 2 = 1) (hn' : n < 9007199254740992) (hp : -1074 ≤ p) (hp' : p ≤ 971)
    (hK : ∀ w, Calls Tryd.prog 9 #[.agg #[.bool s, .int .u64 ((0 : Nat) : Int), .int .u64 (M : Int)]] w fun e w' => e = .returned (.int .i64 1) ∧ w' = ((w.alloc (.cells #[.bool s, .int .u64 ((0 : Nat) : Int), .int .u64 (M : Int)] 33)).alloc (.cells #[.bool s, .int .u64 2047, .int .u64 0] 33)).drew)
    (hS : ∀ w, Calls Tryd.prog 10 #[.agg #[.bool s, .int .u64 ((0 : Nat) : Int), .int .u64 (M : Int)]] w fun e w' => e = .returned (.tuple #[.int .u64 (n : Int), .int .i64 p]) ∧ w' = (w.alloc (.cells #[.bool s, .int .u64 ((0 : Nat) : Int), .int .u64 (M : Int)] 33))) (w : World) (hT : DTab w) (hz : 0 < w.heap.size) :
    Calls Tryd.prog 5 #[.float .f64 U] w fun e w' => e = .returned (.agg #[.int .i64 1, .bool s, .int .i64 (q : Int), .int .i64 (p + t)]) ∧ Below w.heap.size w w' := by
  have HL : Hid _ := fun w => layoutOf_any U s 0 M hL w
  have HK : Hid _ := hK
  have HS : Hid _ := hS
  have HT : Hid _ := fun w' (hb : Below w.heap.size w w') => tz_any n q t hn hq (by omega) w' (DTab.below hT hz hb)
  have ht := few_halves n t (q : Int) (by rw [Int.toNat_natCast]; exact hn) (by omega) hn'
  have hsh : (n : Int) / 2 ^ t = (q : Int) := by
    rw [hn, Int.natCast_mul, Int.natCast_pow]
    exact Int.mul_ediv_cancel _ (by have := Nat.two_pow_pos t; have e : ((2 : Nat) : Int) ^ t = ((2 ^ t : Nat) : Int) := (Int.natCast_pow 2 t).symm; rw [e]; omega)
  have hq1 : (q : Int) < 9007199254740992 := by
    have : q * 1 ≤ q * 2 ^ t := Nat.mul_le_mul_left _ (Nat.two_pow_pos t)
    omega
  have ht1 : (t : Int) ≤ 52 := by omega
  generalize (n : Int) = x at *
  clear hL hK hS hn hq hn' ht hT hz
  go_enter Tryd.func5, Tryd.ntmps5
  go_wp2_with (first | (go_at_call 8; refine (HL.out _).mono ?_; rintro e w' ⟨rfl, rfl⟩) | (go_at_call 9; refine (HK.out _).mono ?_; rintro e w' ⟨rfl, rfl⟩) | (go_at_call 10; refine (HS.out _).mono ?_; rintro e w' ⟨rfl, rfl⟩))
  refine (HT.out _ (by repeat (first | exact Below.refl _ _ | refine Below.drew ?_ | refine below_drewN ?_ _ | refine Below.setCell ?_ (by simp <;> omega) _ | refine Below.alloc ?_ (by simp <;> omega) _))).mono ?_
  rintro e w' ⟨rfl, rfl⟩
  go_wp2
  go_region
  all_goals go_wp2
  all_goals exact bodyPost_ret (v := .agg #[.int .i64 1, .bool s, .int .i64 (q : Int), .int .i64 (p + t)]) (by simp [results, Tryd.results5, go_sem]) rfl ⟨rfl, (by repeat (first | exact Below.refl _ _ | refine Below.drew ?_ | refine below_drewN ?_ _ | refine Below.setCell ?_ (by simp <;> omega) _ | refine Below.alloc ?_ (by simp <;> omega) _))⟩
set_option maxHeartbeats 1000000 in
theorem implParts_normal (U : Nat) (s : Bool) (E M : Nat) (hL : Lays U s E M) (n : Nat) (p : Int) (q t : Nat) (hn : n = q * 2 ^ t) (hq : q % 2 = 1) (hn' : n < 9007199254740992) (hp : -1074 ≤ p) (hp' : p ≤ 971)
    (hK : ∀ w, Calls Tryd.prog 9 #[.agg #[.bool s, .int .u64 ((E : Nat) : Int), .int .u64 (M : Int)]] w fun e w' => e = .returned (.int .i64 1) ∧ w' = ((w.alloc (.cells #[.bool s, .int .u64 ((E : Nat) : Int), .int .u64 (M : Int)] 33)).alloc (.cells #[.bool s, .int .u64 2047, .int .u64 0] 33)).drew)
    (hS : ∀ w, Calls Tryd.prog 10 #[.agg #[.bool s, .int .u64 ((E : Nat) : Int), .int .u64 (M : Int)]] w fun e w' => e = .returned (.tuple #[.int .u64 (n : Int), .int .i64 p]) ∧ w' = (w.alloc (.cells #[.bool s, .int .u64 ((E : Nat) : Int), .int .u64 (M : Int)] 33)).drew) (w : World) (hT : DTab w) (hz : 0 < w.heap.size) :
    Calls Tryd.prog 5 #[.float .f64 U] w fun e w' => e = .returned (.agg #[.int .i64 1, .bool s, .int .i64 (q : Int), .int .i64 (p + t)]) ∧ Below w.heap.size w w' := by
  have HL : Hid _ := fun w => layoutOf_any U s E M hL w
  have HK : Hid _ := hK
  have HS : Hid _ := hS
  have HT : Hid _ := fun w' (hb : Below w.heap.size w w') => tz_any n q t hn hq (by omega) w' (DTab.below hT hz hb)
  have ht := few_halves n t (q : Int) (by rw [Int.toNat_natCast]; exact hn) (by omega) hn'
  have hsh : (n : Int) / 2 ^ t = (q : Int) := by
    rw [hn, Int.natCast_mul, Int.natCast_pow]
    exact Int.mul_ediv_cancel _ (by have := Nat.two_pow_pos t; have e : ((2 : Nat) : Int) ^ t = ((2 ^ t : Nat) : Int) := (Int.natCast_pow 2 t).symm; rw [e]; omega)
  have hq1 : (q : Int) < 9007199254740992 := by
    have : q * 1 ≤ q * 2 ^ t := Nat.mul_le_mul_left _ (Nat.two_pow_pos t)
    omega
  have ht1 : (t : Int) ≤ 52 := by omega
  generalize (n : Int) = x at *
  clear hL hK hS hn hq hn' ht hT hz
  go_enter Tryd.func5, Tryd.ntmps5
  go_wp2_with (first | (go_at_call 8; refine (HL.out _).mono ?_; rintro e w' ⟨rfl, rfl⟩) | (go_at_call 9; refine (HK.out _).mono ?_; rintro e w' ⟨rfl, rfl⟩) | (go_at_call 10; refine (HS.out _).mono ?_; rintro e w' ⟨rfl, rfl⟩))
  refine (HT.out _ (by repeat (first | exact Below.refl _ _ | refine Below.drew ?_ | refine below_drewN ?_ _ | refine Below.setCell ?_ (by simp <;> omega) _ | refine Below.alloc ?_ (by simp <;> omega) _))).mono ?_
  rintro e w' ⟨rfl, rfl⟩
  go_wp2
  go_region
  all_goals go_wp2
  all_goals exact bodyPost_ret (v := .agg #[.int .i64 1, .bool s, .int .i64 (q : Int), .int .i64 (p + t)]) (by simp [results, Tryd.results5, go_sem]) rfl ⟨rfl, (by repeat (first | exact Below.refl _ _ | refine Below.drew ?_ | refine below_drewN ?_ _ | refine Below.setCell ?_ (by simp <;> omega) _ | refine Below.alloc ?_ (by simp <;> omega) _))⟩
end Go.Proofs.YtaibdcpngbfmiabDoor
