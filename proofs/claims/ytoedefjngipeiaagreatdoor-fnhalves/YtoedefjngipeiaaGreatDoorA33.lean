import Derived.Test.YtoedefjngipeiaaGreatDoorA29
import Derived.Test.YtoedefjngipeiaaGreatDoorA32
import Derived.Test.YtoedefjngipeiaaGreatDoorA04
import Derived.WalkKit
/- PartsOf of the program. -/
namespace Go.Proofs.YtoedefjngipeiaaGreatDoor
open Go.ChangeShapes Go.WideShapes Go.RowKit
open Ieee (double)

set_option maxHeartbeats 400000 in
theorem implParts_nan (U : Nat) (s : Bool) (M : Nat) (hL : Lays U s 2047 M) (hM : M ≠ 0) (w : World) :
    Calls Tryz.prog 9 #[.float .f64 U] w fun e w' => e = .returned (.agg #[.int .i64 3, .bool false, .int .i64 0, .int .i64 0]) ∧ Below w.heap.size w w' := by
  have HL : Hid _ := fun w => layoutOf_any U s 2047 M hL w
  have HK : Hid _ := fun w => kind_nan s M hM w
  clear hL hM
  go_enter Tryz.func9, Tryz.ntmps9
  go_wp2_with (first | (go_at_call 18; refine (HL.out _).mono ?_; rintro e w' ⟨rfl, rfl⟩) | (go_at_call 20; refine (HK.out _).mono ?_; rintro e w' ⟨rfl, rfl⟩))
  exact bodyPost_ret (v := .agg #[.int .i64 3, .bool false, .int .i64 0, .int .i64 0]) (by simp [results, Tryz.results9, go_sem]) rfl ⟨rfl, (by repeat (first | exact Below.refl _ _ | refine Below.drew ?_ | refine below_drewN ?_ _ | refine Below.setCell ?_ (by simp <;> omega) _ | refine Below.alloc ?_ (by simp <;> omega) _))⟩
set_option maxHeartbeats 400000 in
theorem implParts_inf (U : Nat) (s : Bool) (hL : Lays U s 2047 0) (w : World) :
    Calls Tryz.prog 9 #[.float .f64 U] w fun e w' => e = .returned (.agg #[.int .i64 2, .bool s, .int .i64 0, .int .i64 0]) ∧ Below w.heap.size w w' := by
  have HL : Hid _ := fun w => layoutOf_any U s 2047 0 hL w
  have HK : Hid _ := fun w => kind_inf s w
  clear hL
  go_enter Tryz.func9, Tryz.ntmps9
  go_wp2_with (first | (go_at_call 18; refine (HL.out _).mono ?_; rintro e w' ⟨rfl, rfl⟩) | (go_at_call 20; refine (HK.out _).mono ?_; rintro e w' ⟨rfl, rfl⟩))
  exact bodyPost_ret (v := .agg #[.int .i64 2, .bool s, .int .i64 0, .int .i64 0]) (by simp [results, Tryz.results9, go_sem]) rfl ⟨rfl, (by repeat (first | exact Below.refl _ _ | refine Below.drew ?_ | refine below_drewN ?_ _ | refine Below.setCell ?_ (by simp <;> omega) _ | refine Below.alloc ?_ (by simp <;> omega) _))⟩
set_option maxHeartbeats 400000 in
theorem implParts_zero (U : Nat) (s : Bool) (hL : Lays U s 0 0) (w : World) :
    Calls Tryz.prog 9 #[.float .f64 U] w fun e w' => e = .returned (.agg #[.int .i64 0, .bool s, .int .i64 0, .int .i64 0]) ∧ Below w.heap.size w w' := by
  have HL : Hid _ := fun w => layoutOf_any U s 0 0 hL w
  have HK : Hid _ := fun w => kind_zero s w
  clear hL
  go_enter Tryz.func9, Tryz.ntmps9
  go_wp2_with (first | (go_at_call 18; refine (HL.out _).mono ?_; rintro e w' ⟨rfl, rfl⟩) | (go_at_call 20; refine (HK.out _).mono ?_; rintro e w' ⟨rfl, rfl⟩))
  exact bodyPost_ret (v := .agg #[.int .i64 0, .bool s, .int .i64 0, .int .i64 0]) (by simp [results, Tryz.results9, go_sem]) rfl ⟨rfl, (by repeat (first | exact Below.refl _ _ | refine Below.drew ?_ | refine below_drewN ?_ _ | refine Below.setCell ?_ (by simp <;> omega) _ | refine Below.alloc ?_ (by simp <;> omega) _))⟩

set_option maxHeartbeats 1000000 in
theorem implParts_small (U : Nat) (s : Bool) (M : Nat) (hL : Lays U s 0 M) (n : Nat) (p : Int) (q t : Nat) (hn : n = q * 2 ^ t) (hq : q % 2 = 1) (hn' : n < 9007199254740992) (hp : -1074 ≤ p) (hp' : p ≤ 971)
    (hK : ∀ w, Calls Tryz.prog 20 #[.agg #[.bool s, .int .u64 ((0 : Nat) : Int), .int .u64 (M : Int)]] w fun e w' => e = .returned (.int .i64 1) ∧ w' = ((w.alloc (.cells #[.bool s, .int .u64 ((0 : Nat) : Int), .int .u64 (M : Int)] 45)).alloc (.cells #[.bool s, .int .u64 2047, .int .u64 0] 45)).drew)
    (hS : ∀ w, Calls Tryz.prog 26 #[.agg #[.bool s, .int .u64 ((0 : Nat) : Int), .int .u64 (M : Int)]] w fun e w' => e = .returned (.tuple #[.int .u64 (n : Int), .int .i64 p]) ∧ w' = (w.alloc (.cells #[.bool s, .int .u64 ((0 : Nat) : Int), .int .u64 (M : Int)] 45))) (w : World) (hT : DTab w) (hz : 1 < w.heap.size) :
    Calls Tryz.prog 9 #[.float .f64 U] w fun e w' => e = .returned (.agg #[.int .i64 1, .bool s, .int .i64 (q : Int), .int .i64 (p + t)]) ∧ Below w.heap.size w w' := by
  have HL : Hid _ := fun w => layoutOf_any U s 0 M hL w
  have HK : Hid _ := hK
  have HS : Hid _ := hS
  have HT : Hid _ := fun w' (hb : Below w.heap.size w w') => tz_any n q t hn hq (by omega) w' (DTab.below hT hz hb)
  have ht := few_halves n t (q : Int) (by rw [Int.toNat_natCast]; exact hn) (by omega) hn'
  have hsh : (n : Int) / 2 ^ t = (q : Int) := by
    rw [hn, Int.natCast_mul, Int.natCast_pow]
    exact Int.mul_ediv_cancel _ (by have := Nat.two_pow_pos t; have e : ((2 : Nat) : Int) ^ t = ((2 ^ t : Nat) : Int) := (Int.natCast_pow 2 t).symm; rw [e]; omega)
  have hq1 : (q : Int) < 9007199254740992 := by
    have : q * 1 ≤ q * 2 ^ t := Nat.mul_le_mul_left _ (Nat.two_pow_pos t)
    omega
  have ht1 : (t : Int) ≤ 52 := by omega
  generalize (n : Int) = x at *
  clear hL hK hS hn hq hn' ht hT hz
  go_enter Tryz.func9, Tryz.ntmps9
  go_wp2_with (first | (go_at_call 18; refine (HL.out _).mono ?_; rintro e w' ⟨rfl, rfl⟩) | (go_at_call 20; refine (HK.out _).mono ?_; rintro e w' ⟨rfl, rfl⟩) | (go_at_call 26; refine (HS.out _).mono ?_; rintro e w' ⟨rfl, rfl⟩))
  refine (HT.out _ (by repeat (first | exact Below.refl _ _ | refine Below.drew ?_ | refine below_drewN ?_ _ | refine Below.setCell ?_ (by simp <;> omega) _ | refine Below.alloc ?_ (by simp <;> omega) _))).mono ?_
  rintro e w' ⟨rfl, rfl⟩
  go_wp2
  go_region
  all_goals go_wp2
  all_goals exact bodyPost_ret (v := .agg #[.int .i64 1, .bool s, .int .i64 (q : Int), .int .i64 (p + t)]) (by simp [results, Tryz.results9, go_sem]) rfl ⟨rfl, (by repeat (first | exact Below.refl _ _ | refine Below.drew ?_ | refine below_drewN ?_ _ | refine Below.setCell ?_ (by simp <;> omega) _ | refine Below.alloc ?_ (by simp <;> omega) _))⟩
set_option maxHeartbeats 1000000 in
theorem implParts_normal (U : Nat) (s : Bool) (E M : Nat) (hL : Lays U s E M) (n : Nat) (p : Int) (q t : Nat) (hn : n = q * 2 ^ t) (hq : q % 2 = 1) (hn' : n < 9007199254740992) (hp : -1074 ≤ p) (hp' : p ≤ 971)
    (hK : ∀ w, Calls Tryz.prog 20 #[.agg #[.bool s, .int .u64 ((E : Nat) : Int), .int .u64 (M : Int)]] w fun e w' => e = .returned (.int .i64 1) ∧ w' = ((w.alloc (.cells #[.bool s, .int .u64 ((E : Nat) : Int), .int .u64 (M : Int)] 45)).alloc (.cells #[.bool s, .int .u64 2047, .int .u64 0] 45)).drew)
    (hS : ∀ w, Calls Tryz.prog 26 #[.agg #[.bool s, .int .u64 ((E : Nat) : Int), .int .u64 (M : Int)]] w fun e w' => e = .returned (.tuple #[.int .u64 (n : Int), .int .i64 p]) ∧ w' = (w.alloc (.cells #[.bool s, .int .u64 ((E : Nat) : Int), .int .u64 (M : Int)] 45)).drew) (w : World) (hT : DTab w) (hz : 1 < w.heap.size) :
    Calls Tryz.prog 9 #[.float .f64 U] w fun e w' => e = .returned (.agg #[.int .i64 1, .bool s, .int .i64 (q : Int), .int .i64 (p + t)]) ∧ Below w.heap.size w w' := by
  have HL : Hid _ := fun w => layoutOf_any U s E M hL w
  have HK : Hid _ := hK
  have HS : Hid _ := hS
  have HT : Hid _ := fun w' (hb : Below w.heap.size w w') => tz_any n q t hn hq (by omega) w' (DTab.below hT hz hb)
  have ht := few_halves n t (q : Int) (by rw [Int.toNat_natCast]; exact hn) (by omega) hn'
  have hsh : (n : Int) / 2 ^ t = (q : Int) := by
    rw [hn, Int.natCast_mul, Int.natCast_pow]
    exact Int.mul_ediv_cancel _ (by have := Nat.two_pow_pos t; have e : ((2 : Nat) : Int) ^ t = ((2 ^ t : Nat) : Int) := (Int.natCast_pow 2 t).symm; rw [e]; omega)
  have hq1 : (q : Int) < 9007199254740992 := by
    have : q * 1 ≤ q * 2 ^ t := Nat.mul_le_mul_left _ (Nat.two_pow_pos t)
    omega
  have ht1 : (t : Int) ≤ 52 := by omega
  generalize (n : Int) = x at *
  clear hL hK hS hn hq hn' ht hT hz
  go_enter Tryz.func9, Tryz.ntmps9
  go_wp2_with (first | (go_at_call 18; refine (HL.out _).mono ?_; rintro e w' ⟨rfl, rfl⟩) | (go_at_call 20; refine (HK.out _).mono ?_; rintro e w' ⟨rfl, rfl⟩) | (go_at_call 26; refine (HS.out _).mono ?_; rintro e w' ⟨rfl, rfl⟩))
  refine (HT.out _ (by repeat (first | exact Below.refl _ _ | refine Below.drew ?_ | refine below_drewN ?_ _ | refine Below.setCell ?_ (by simp <;> omega) _ | refine Below.alloc ?_ (by simp <;> omega) _))).mono ?_
  rintro e w' ⟨rfl, rfl⟩
  go_wp2
  go_region
  all_goals go_wp2
  all_goals exact bodyPost_ret (v := .agg #[.int .i64 1, .bool s, .int .i64 (q : Int), .int .i64 (p + t)]) (by simp [results, Tryz.results9, go_sem]) rfl ⟨rfl, (by repeat (first | exact Below.refl _ _ | refine Below.drew ?_ | refine below_drewN ?_ _ | refine Below.setCell ?_ (by simp <;> omega) _ | refine Below.alloc ?_ (by simp <;> omega) _))⟩
end Go.Proofs.YtoedefjngipeiaaGreatDoor

/- Small facts on worlds. -/
namespace Go.Proofs.YtoedefjngipeiaaGreatDoor
open Go.ChangeShapes Go.WideShapes Go.RowKit

theorem bcell {W w1 : World} (hb : Below W.heap.size W w1) : (∀ b o, b < W.heap.size → w1.cell? ⟨b, o, none⟩ = W.cell? ⟨b, o, none⟩) ∧ (∀ b o, b < W.heap.size → w1.frozen? ⟨b, o, none⟩ = W.frozen? ⟨b, o, none⟩) :=
  ⟨fun b o h => hb.cell (p := ⟨b, o, none⟩) h, fun b o h => hb.frozen (p := ⟨b, o, none⟩) h⟩
end Go.Proofs.YtoedefjngipeiaaGreatDoor

/- The law on PartsOf, walked. -/
namespace Go.Proofs.YtoedefjngipeiaaGreatDoor
open Go.ChangeShapes Go.WideShapes Go.RowKit
open Ieee (double)

theorem implParts_of (x : Nat) (hx : x < 18446744073709551616) (k : Int) (s : Bool) (m e : Int) (h : partsV x k s m e) (w : World) (hT : DTab w) (hz : 1 < w.heap.size) :
    Calls Tryz.prog 9 #[.float .f64 x] w fun r w' => r = .returned (.agg #[.int .i64 k, .bool s, .int .i64 m, .int .i64 e]) ∧ Below w.heap.size w w' := by
  rcases h with ⟨hn, rfl, rfl, rfl, rfl⟩ | ⟨rfl, rfl, rfl, rfl⟩ | ⟨rfl, rfl, rfl, rfl⟩ | ⟨n, p, q, t, hc, h0, rfl, hn, hq, rfl, rfl, rfl⟩
  · obtain ⟨s, E, M, hE, hM, hU⟩ := word_parts x hx
    have hL := lays_any x s E M hE hM hU
    have c : ¬ E * 4503599627370496 + M ≤ 9218868437227405312 := fun h' => not_nan s _ h' (by rw [← hU]; exact hn)
    obtain rfl : E = 2047 := by omega
    exact implParts_nan x s M hL (by omega) w
  · exact implParts_inf _ s (lays_any _ s 2047 0 (by omega) (by omega) (by unfold iw; omega)) w
  · exact implParts_zero _ s (lays_any _ s 0 0 (by omega) (by omega) (by omega)) w
  · have hw := fw_canon s n p hc
    rcases hc with ⟨h1, h2, h3, h4⟩ | ⟨h1, rfl⟩
    · obtain ⟨M, rfl⟩ : ∃ M, n = 4503599627370496 + M := ⟨n - 4503599627370496, by omega⟩
      obtain ⟨E, hE⟩ : ∃ E : Nat, p = (E : Int) - 1 + -1074 := ⟨(p + 1075).toNat, by omega⟩
      have hU : fw s (4503599627370496 + M) p = signBit s + (E * 4503599627370496 + M) := by
        refine hw.trans ?_
        unfold rung
        obtain ⟨F, rfl⟩ : ∃ F, E = F + 1 := ⟨E - 1, by omega⟩
        rw [show (p + 1074).toNat = F by omega, Nat.succ_mul]
        omega
      refine implParts_normal _ s E M (lays_any _ s E M (by omega) (by omega) hU) (4503599627370496 + M) p q t hn hq h2 h3 h4 (fun w => kind_normal s E M (by omega) (by omega) w) (fun w => ?_) w hT hz
      rw [hE]
      exact size_normal s E M (by omega) (by omega) (by omega) w
    · have hU : fw s n (-1074) = signBit s + (0 * 4503599627370496 + n) := by
        refine hw.trans ?_
        unfold rung
        rw [show ((-1074 : Int) + 1074).toNat = 0 from rfl]
      exact implParts_small _ s n (lays_any _ s 0 n (by omega) h1 hU) n (-1074) q t hn hq (by omega) (by omega) (by omega) (fun w => kind_small s n (by omega) w) (fun w => size_small s n w) w hT hz
end Go.Proofs.YtoedefjngipeiaaGreatDoor

