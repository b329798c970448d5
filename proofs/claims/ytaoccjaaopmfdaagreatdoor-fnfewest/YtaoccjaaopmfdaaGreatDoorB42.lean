import Derived.Test.YtaoccjaaopmfdaaGreatDoorB36
import Derived.Deep.RegionWith
import Derived.Test.YtaoccjaaopmfdaaGreatDoorB10
import Derived.Lib.TrailingZeros
import Derived.Test.YtaoccjaaopmfdaaGreatDoorB41
import Derived.Test.YtaoccjaaopmfdaaGreatDoorB12
import Derived.WalkKit
/- The size of a number, as the program tells it. -/
namespace Go.Proofs.YtaoccjaaopmfdaaGreatDoor
open Go.ChangeShapes Go.WideShapes Go.RowKit
open Ieee (double)

set_option maxHeartbeats 400000 in
theorem size_small (s : Bool) (M : Nat) (w : World) :
    Calls Tryz.prog 48 #[.agg #[.bool s, .int .u64 0, .int .u64 (M : Int)]] w fun e w' => e = .returned (.tuple #[.int .u64 (M : Int), .int .i64 (-1074)]) ∧ w' = w.alloc (.cells #[.bool s, .int .u64 0, .int .u64 (M : Int)] 77) := by
  go_enter Tryz.func48, Tryz.ntmps48
  go_wp2
  go_ret2
  exact ⟨rfl, rfl⟩
set_option maxHeartbeats 400000 in
theorem size_normal (s : Bool) (E M : Nat) (h1 : 1 ≤ E) (h2 : E ≤ 2046) (hM : M < 4503599627370496) (w : World) :
    Calls Tryz.prog 48 #[.agg #[.bool s, .int .u64 (E : Int), .int .u64 (M : Int)]] w fun e w' => e = .returned (.tuple #[.int .u64 ((4503599627370496 + M : Nat) : Int), .int .i64 ((E : Int) - 1 + -1074)]) ∧ w' = (w.alloc (.cells #[.bool s, .int .u64 (E : Int), .int .u64 (M : Int)] 77)).drew := by
  have e0 : ((E : Int) == 0) = false := beq_eq_false_iff_ne.2 (by omega)
  have ho := or_one M hM
  have c1 : 1 ≤ (E : Int) := by omega
  have c2 : (E : Int) ≤ 2046 := by omega
  clear hM h1 h2
  go_enter Tryz.func48, Tryz.ntmps48
  go_wp2
  go_region
  all_goals
    go_wp2
    go_ret2
    exact ⟨rfl, rfl⟩
end Go.Proofs.YtaoccjaaopmfdaaGreatDoor

/- bits.TrailingZeros64: how often 2 divides a number. -/
namespace Go.Proofs.YtaoccjaaopmfdaaGreatDoor
open Go.ChangeShapes Go.WideShapes Go.RowKit
open Ieee (double)

/-- The table of the library's, as it lies. -/
def DTab (w : World) : Prop := ∀ j, j < 64 → w.cell? ⟨1, j, none⟩ = some (.int .u8 (Lib.deBruijn64tab.getD j 0))
theorem DTab.below {w w' : World} (h : DTab w) (hz : 1 < w.heap.size) (hb : Below w.heap.size w w') : DTab w' := fun j hj => by
  rw [hb.cell (p := ⟨1, j, none⟩) hz]; exact h j hj
theorem tz_vars (m q t : Nat) (h : m = q * 2 ^ t) (hq : q % 2 = 1) (hm : m < 18446744073709551616) (w : World) (hT : DTab w) : ∃ (Y P Z : Int) (i : Nat),
    IntKind.u64.wrap (-(m : Int)) = Y ∧ bits .and .u64 (m : Int) Y = P ∧ IntKind.u64.wrap (P * 285870213051353865) = Z ∧ Z / 288230376151711744 = (i : Int) ∧ i < 64 ∧ 0 ≤ Z ∧ Z < 18446744073709551616 ∧ t < 64 ∧ w.cell? ⟨1, i, none⟩ = some (.int .u8 (t : Int)) := by
  have h0 : 0 < m := by
    rw [h]; exact Nat.mul_pos (by omega) (Nat.two_pow_pos t)
  have ht : t < 64 := by
    apply Nat.lt_of_not_le
    intro hle
    have h1 : 2 ^ 64 ≤ 2 ^ t := Nat.pow_le_pow_right (by omega) hle
    have h2 : 1 * 2 ^ t ≤ q * 2 ^ t := Nat.mul_le_mul_right _ (by omega)
    have e64 : (2 : Nat) ^ 64 = 18446744073709551616 := rfl
    omega
  have hx : m = 2 ^ t * (2 * (q / 2) + 1) := by rw [h, Nat.mul_comm]; congr 1; omega
  have hand := Lib.and_neg 64 t (q / 2) (by rw [← hx]; exact hm)
  rw [← hx] at hand
  obtain ⟨hi, htab⟩ := Lib.deBruijn64_at t ht
  have e1 : IntKind.u64.wrap (-(m : Int)) = ((2 ^ 64 - m : Nat) : Int) := by rw [IntKind.wrap_u64]; omega
  have e2 : bits .and .u64 (m : Int) ((2 ^ 64 - m : Nat) : Int) = ((2 ^ t : Nat) : Int) := by
    rw [bits_and_u64_nat m _ hm (by omega), hand]
  have e3 : IntKind.u64.wrap (((2 ^ t : Nat) : Int) * 285870213051353865) = ((2 ^ t * 285870213051353865 % 18446744073709551616 : Nat) : Int) := by
    rw [IntKind.wrap_u64]; omega
  have hc := hT _ hi
  rw [htab] at hc
  refine ⟨_, _, _, _, e1, e2, e3, ?_, hi, by omega, ?_, ht, hc⟩
  · omega
  · have : 2 ^ t * 285870213051353865 % 18446744073709551616 < 18446744073709551616 := Nat.mod_lt _ (by omega)
    omega
set_option maxHeartbeats 400000 in
theorem tz_any (m q t : Nat) (h : m = q * 2 ^ t) (hq : q % 2 = 1) (hm : m < 18446744073709551616) (w : World) (hT : DTab w) :
    Calls Tryz.prog 49 #[.int .u64 (m : Int)] w fun e w' => e = .returned (.int .i64 (t : Int)) ∧ w' = w := by
  obtain ⟨Y, P, Z, i, e1, e2, e3, e4, hi, z0, z1, ht, hc⟩ := tz_vars m q t h hq hm w hT
  have m0 : ((m : Int) == 0) = false := by
    rw [beq_eq_false_iff_ne]
    have : 0 < m := by rw [h]; exact Nat.mul_pos (by omega) (Nat.two_pow_pos t)
    omega
  generalize (m : Int) = x at *
  have ht' : (t : Int) < 64 := by omega
  clear h hq hm hT ht
  go_enter Tryz.func49, Tryz.ntmps49
  go_wp2
  go_ret
  exact ⟨rfl, rfl⟩
end Go.Proofs.YtaoccjaaopmfdaaGreatDoor

/- PartsOf of the program. -/
namespace Go.Proofs.YtaoccjaaopmfdaaGreatDoor
open Go.ChangeShapes Go.WideShapes Go.RowKit
open Ieee (double)

set_option maxHeartbeats 400000 in
theorem implParts_nan (U : Nat) (s : Bool) (M : Nat) (hL : Lays U s 2047 M) (hM : M ≠ 0) (w : World) :
    Calls Tryz.prog 18 #[.float .f64 U] w fun e w' => e = .returned (.agg #[.int .i64 3, .bool false, .int .i64 0, .int .i64 0]) ∧ Below w.heap.size w w' := by
  have HL : Hid _ := fun w => layoutOf_any U s 2047 M hL w
  have HK : Hid _ := fun w => kind_nan s M hM w
  clear hL hM
  go_enter Tryz.func18, Tryz.ntmps18
  go_wp2_with (first | (go_at_call 45; refine (HL.out _).mono ?_; rintro e w' ⟨rfl, rfl⟩) | (go_at_call 46; refine (HK.out _).mono ?_; rintro e w' ⟨rfl, rfl⟩))
  exact bodyPost_ret (v := .agg #[.int .i64 3, .bool false, .int .i64 0, .int .i64 0]) (by simp [results, Tryz.results18, go_sem]) rfl ⟨rfl, (by repeat (first | exact Below.refl _ _ | refine Below.drew ?_ | refine below_drewN ?_ _ | refine Below.setCell ?_ (by simp <;> omega) _ | refine Below.alloc ?_ (by simp <;> omega) _))⟩
set_option maxHeartbeats 400000 in
theorem implParts_inf (U : Nat) (s : Bool) (hL : Lays U s 2047 0) (w : World) :
    Calls Tryz.prog 18 #[.float .f64 U] w fun e w' => e = .returned (.agg #[.int .i64 2, .bool s, .int .i64 0, .int .i64 0]) ∧ Below w.heap.size w w' := by
  have HL : Hid _ := fun w => layoutOf_any U s 2047 0 hL w
  have HK : Hid _ := fun w => kind_inf s w
  clear hL
  go_enter Tryz.func18, Tryz.ntmps18
  go_wp2_with (first | (go_at_call 45; refine (HL.out _).mono ?_; rintro e w' ⟨rfl, rfl⟩) | (go_at_call 46; refine (HK.out _).mono ?_; rintro e w' ⟨rfl, rfl⟩))
  exact bodyPost_ret (v := .agg #[.int .i64 2, .bool s, .int .i64 0, .int .i64 0]) (by simp [results, Tryz.results18, go_sem]) rfl ⟨rfl, (by repeat (first | exact Below.refl _ _ | refine Below.drew ?_ | refine below_drewN ?_ _ | refine Below.setCell ?_ (by simp <;> omega) _ | refine Below.alloc ?_ (by simp <;> omega) _))⟩
set_option maxHeartbeats 400000 in
theorem implParts_zero (U : Nat) (s : Bool) (hL : Lays U s 0 0) (w : World) :
    Calls Tryz.prog 18 #[.float .f64 U] w fun e w' => e = .returned (.agg #[.int .i64 0, .bool s, .int .i64 0, .int .i64 0]) ∧ Below w.heap.size w w' := by
  have HL : Hid _ := fun w => layoutOf_any U s 0 0 hL w
  have HK : Hid _ := fun w => kind_zero s w
  clear hL
  go_enter Tryz.func18, Tryz.ntmps18
  go_wp2_with (first | (go_at_call 45; refine (HL.out _).mono ?_; rintro e w' ⟨rfl, rfl⟩) | (go_at_call 46; refine (HK.out _).mono ?_; rintro e w' ⟨rfl, rfl⟩))
  exact bodyPost_ret (v := .agg #[.int .i64 0, .bool s, .int .i64 0, .int .i64 0]) (by simp [results, Tryz.results18, go_sem]) rfl ⟨rfl, (by repeat (first | exact Below.refl _ _ | refine Below.drew ?_ | refine below_drewN ?_ _ | refine Below.setCell ?_ (by simp <;> omega) _ | refine Below.alloc ?_ (by simp <;> omega) _))⟩

set_option maxHeartbeats 1000000 in
theorem implParts_small (U : Nat) (s : Bool) (M : Nat) (hL : Lays U s 0 M) (n : Nat) (p : Int) (q t : Nat) (hn : n = q * 2 ^ t) (hq : q % 2 = 1) (hn' : n < 9007199254740992) (hp : -1074 ≤ p) (hp' : p ≤ 971)
    (hK : ∀ w, Calls Tryz.prog 46 #[.agg #[.bool s, .int .u64 ((0 : Nat) : Int), .int .u64 (M : Int)]] w fun e w' => e = .returned (.int .i64 1) ∧ w' = ((w.alloc (.cells #[.bool s, .int .u64 ((0 : Nat) : Int), .int .u64 (M : Int)] 77)).alloc (.cells #[.bool s, .int .u64 2047, .int .u64 0] 77)).drew)
    (hS : ∀ w, Calls Tryz.prog 48 #[.agg #[.bool s, .int .u64 ((0 : Nat) : Int), .int .u64 (M : Int)]] w fun e w' => e = .returned (.tuple #[.int .u64 (n : Int), .int .i64 p]) ∧ w' = (w.alloc (.cells #[.bool s, .int .u64 ((0 : Nat) : Int), .int .u64 (M : Int)] 77))) (w : World) (hT : DTab w) (hz : 1 < w.heap.size) :
    Calls Tryz.prog 18 #[.float .f64 U] w fun e w' => e = .returned (.agg #[.int .i64 1, .bool s, .int .i64 (q : Int), .int .i64 (p + t)]) ∧ Below w.heap.size w w' := by
  have HL : Hid _ := fun w => layoutOf_any U s 0 M hL w
  have HK : Hid _ := hK
  have HS : Hid _ := hS
  have HT : Hid _ := fun w' (hb : Below w.heap.size w w') => tz_any n q t hn hq (by omega) w' (DTab.below hT hz hb)
  have ht := few_halves n t (q : Int) (by rw [Int.toNat_natCast]; exact hn) (by omega) hn'
  have hsh : (n : Int) / 2 ^ t = (q : Int) := by
    rw [hn, Int.natCast_mul, Int.natCast_pow]
    exact Int.mul_ediv_cancel _ (by have := Nat.two_pow_pos t; have e : ((2 : Nat) : Int) ^ t = ((2 ^ t : Nat) : Int) := (Int.natCast_pow 2 t).symm; rw [e]; omega)
  have hq1 : (q : Int) < 9007199254740992 := by
    have : q * 1 ≤ q * 2 ^ t := Nat.mul_le_mul_left _ (Nat.two_pow_pos t)
    omega
  have ht1 : (t : Int) ≤ 52 := by omega
  generalize (n : Int) = x at *
  clear hL hK hS hn hq hn' ht hT hz
  go_enter Tryz.func18, Tryz.ntmps18
  go_wp2_with (first | (go_at_call 45; refine (HL.out _).mono ?_; rintro e w' ⟨rfl, rfl⟩) | (go_at_call 46; refine (HK.out _).mono ?_; rintro e w' ⟨rfl, rfl⟩) | (go_at_call 48; refine (HS.out _).mono ?_; rintro e w' ⟨rfl, rfl⟩))
  refine (HT.out _ (by repeat (first | exact Below.refl _ _ | refine Below.drew ?_ | refine below_drewN ?_ _ | refine Below.setCell ?_ (by simp <;> omega) _ | refine Below.alloc ?_ (by simp <;> omega) _))).mono ?_
  rintro e w' ⟨rfl, rfl⟩
  go_wp2
  go_region
  all_goals go_wp2
  all_goals exact bodyPost_ret (v := .agg #[.int .i64 1, .bool s, .int .i64 (q : Int), .int .i64 (p + t)]) (by simp [results, Tryz.results18, go_sem]) rfl ⟨rfl, (by repeat (first | exact Below.refl _ _ | refine Below.drew ?_ | refine below_drewN ?_ _ | refine Below.setCell ?_ (by simp <;> omega) _ | refine Below.alloc ?_ (by simp <;> omega) _))⟩
set_option maxHeartbeats 1000000 in
theorem implParts_normal (U : Nat) (s : Bool) (E M : Nat) (hL : Lays U s E M) (n : Nat) (p : Int) (q t : Nat) (hn : n = q * 2 ^ t) (hq : q % 2 = 1) (hn' : n < 9007199254740992) (hp : -1074 ≤ p) (hp' : p ≤ 971)
    (hK : ∀ w, Calls Tryz.prog 46 #[.agg #[.bool s, .int .u64 ((E : Nat) : Int), .int .u64 (M : Int)]] w fun e w' => e = .returned (.int .i64 1) ∧ w' = ((w.alloc (.cells #[.bool s, .int .u64 ((E : Nat) : Int), .int .u64 (M : Int)] 77)).alloc (.cells #[.bool s, .int .u64 2047, .int .u64 0] 77)).drew)
    (hS : ∀ w, Calls Tryz.prog 48 #[.agg #[.bool s, .int .u64 ((E : Nat) : Int), .int .u64 (M : Int)]] w fun e w' => e = .returned (.tuple #[.int .u64 (n : Int), .int .i64 p]) ∧ w' = (w.alloc (.cells #[.bool s, .int .u64 ((E : Nat) : Int), .int .u64 (M : Int)] 77)).drew) (w : World) (hT : DTab w) (hz : 1 < w.heap.size) :
    Calls Tryz.prog 18 #[.float .f64 U] w fun e w' => e = .returned (.agg #[.int .i64 1, .bool s, .int .i64 (q : Int), .int .i64 (p + t)]) ∧ Below w.heap.size w w' := by
  have HL : Hid _ := fun w => layoutOf_any U s E M hL w
  have HK : Hid _ := hK
  have HS : Hid _ := hS
  have HT : Hid _ := fun w' (hb : Below w.heap.size w w') => tz_any n q t hn hq (by omega) w' (DTab.below hT hz hb)
  have ht := few_halves n t (q : Int) (by rw [Int.toNat_natCast]; exact hn) (by omega) hn'
  have hsh : (n : Int) / 2 ^ t = (q : Int) := by
    rw [hn, Int.natCast_mul, Int.natCast_pow]
    exact Int.mul_ediv_cancel _ (by have := Nat.two_pow_pos t; have e : ((2 : Nat) : Int) ^ t = ((2 ^ t : Nat) : Int) := (Int.natCast_pow 2 t).symm; rw [e]; omega)
  have hq1 : (q : Int) < 9007199254740992 := by
    have : q * 1 ≤ q * 2 ^ t := Nat.mul_le_mul_left _ (Nat.two_pow_pos t)
    omega
  have ht1 : (t : Int) ≤ 52 := by omega
  generalize (n : Int) = x at *
  clear hL hK hS hn hq hn' ht hT hz
  go_enter Tryz.func18, Tryz.ntmps18
  go_wp2_with (first | (go_at_call 45; refine (HL.out _).mono ?_; rintro e w' ⟨rfl, rfl⟩) | (go_at_call 46; refine (HK.out _).mono ?_; rintro e w' ⟨rfl, rfl⟩) | (go_at_call 48; refine (HS.out _).mono ?_; rintro e w' ⟨rfl, rfl⟩))
  refine (HT.out _ (by repeat (first | exact Below.refl _ _ | refine Below.drew ?_ | refine below_drewN ?_ _ | refine Below.setCell ?_ (by simp <;> omega) _ | refine Below.alloc ?_ (by simp <;> omega) _))).mono ?_
  rintro e w' ⟨rfl, rfl⟩
  go_wp2
  go_region
  all_goals go_wp2
  all_goals exact bodyPost_ret (v := .agg #[.int .i64 1, .bool s, .int .i64 (q : Int), .int .i64 (p + t)]) (by simp [results, Tryz.results18, go_sem]) rfl ⟨rfl, (by repeat (first | exact Below.refl _ _ | refine Below.drew ?_ | refine below_drewN ?_ _ | refine Below.setCell ?_ (by simp <;> omega) _ | refine Below.alloc ?_ (by simp <;> omega) _))⟩
end Go.Proofs.YtaoccjaaopmfdaaGreatDoor

/- Small facts on worlds. -/
namespace Go.Proofs.YtaoccjaaopmfdaaGreatDoor
open Go.ChangeShapes Go.WideShapes Go.RowKit

theorem bcell {W w1 : World} (hb : Below W.heap.size W w1) : (∀ b o, b < W.heap.size → w1.cell? ⟨b, o, none⟩ = W.cell? ⟨b, o, none⟩) ∧ (∀ b o, b < W.heap.size → w1.frozen? ⟨b, o, none⟩ = W.frozen? ⟨b, o, none⟩) :=
  ⟨fun b o h => hb.cell (p := ⟨b, o, none⟩) h, fun b o h => hb.frozen (p := ⟨b, o, none⟩) h⟩
end Go.Proofs.YtaoccjaaopmfdaaGreatDoor

