import Derived.Test.YtoedefjngipeiaaGreatDoorA03
/- l2inf of the specification. -/
namespace Go.Proofs.YtoedefjngipeiaaGreatDoor
open Go.ChangeShapes Go.WideShapes Go.RowKit
open Ieee (double)

set_option maxHeartbeats 400000 in
theorem l2inf_any (w : World) : Calls Tryz.prog 39 #[] w fun e w' => e = .returned (.float .f64 (iw false)) ∧ w' = w := by
  have hd := run_valid (P := Tryz.prog) .quo 23 4607182418800017408 0 (iw false) (one_by_zero false)
  go_enter Tryz.func39, Tryz.ntmps39
  go_wp2
  go_ret
  exact ⟨rfl, rfl⟩
end Go.Proofs.YtoedefjngipeiaaGreatDoor

/- l2signed of the specification. -/
namespace Go.Proofs.YtoedefjngipeiaaGreatDoor
open Go.ChangeShapes Go.WideShapes Go.RowKit
open Ieee (double)

set_option maxHeartbeats 400000 in
theorem l2signed_plus (x : Nat) (w : World) : Calls Tryz.prog 38 #[.bool false, .float .f64 x] w fun e w' => e = .returned (.float .f64 x) ∧ w' = w := by
  go_enter Tryz.func38, Tryz.ntmps38
  go_wp2
  go_ret
  exact ⟨rfl, rfl⟩
set_option maxHeartbeats 400000 in
theorem l2signed_minus (x y : Nat) (hy : Op.negFloat .f64 x = y) (w : World) : Calls Tryz.prog 38 #[.bool true, .float .f64 x] w fun e w' => e = .returned (.float .f64 y) ∧ w' = w := by
  have hng := run_neg x
  rw [hy] at hng
  clear hy
  go_enter Tryz.func38, Tryz.ntmps38
  go_wp2
  go_ret
  exact ⟨rfl, rfl⟩
/-- A sign given to a number. -/
theorem l2signed_fw (s : Bool) (m : Nat) (p : Int) (h : Rep m p) (w : World) : Calls Tryz.prog 38 #[.bool s, .float .f64 (fw false m p)] w fun e w' => e = .returned (.float .f64 (fw s m p)) ∧ w' = w := by
  cases s
  · exact l2signed_plus _ w
  · exact l2signed_minus _ _ (neg_rep false m p h) w
theorem l2signed_iw (s : Bool) (w : World) : Calls Tryz.prog 38 #[.bool s, .float .f64 (iw false)] w fun e w' => e = .returned (.float .f64 (iw s)) ∧ w' = w := by
  cases s
  · exact l2signed_plus _ w
  · exact l2signed_minus _ _ (neg_iw false) w
end Go.Proofs.YtoedefjngipeiaaGreatDoor

/- l2scaled of the specification. -/
namespace Go.Proofs.YtoedefjngipeiaaGreatDoor
open Go.ChangeShapes Go.WideShapes Go.RowKit
open Ieee (double)

set_option maxRecDepth 100000 in
set_option maxHeartbeats 1000000 in
theorem l2scaled_any (m : Nat) (E : Int) (hm : m < 9007199254740992) (h1 : -1074 ≤ E) (h2 : E ≤ 971) (w : World) :
    Calls Tryz.prog 46 #[.int .u64 m, .int .i64 E] w fun e w' => e = .returned (.float .f64 (fw false m E)) ∧ w' = w := by
  have hf := float_of m
  go_enter Tryz.func46, Tryz.ntmps46
  go_wp2
  clear hf
  go_loop [1, 5] (fun e f => ∃ j : Nat, f = .float .f64 (fw false m j) ∧ e = .int .i64 (E - j) ∧ (j = 0 ∨ (j : Int) ≤ E)) (fun e _ => (intOf e).toNat)
  case atStart => exact ⟨0, by simp, by simp, .inl rfl⟩
  case round =>
    obtain ⟨j, rfl, rfl, hj⟩ := hrel
    by_cases hlt : 0 < E - j
    · have hmul := run_valid (P := Tryz.prog) .mul 23 (fw false m j) 4611686018427387904 (fw false m ((j : Int) + 1)) (by rw [bits_two]; exact twice false m _ (rep_at m _ hm (by omega) (by omega)))
      go_wp2
      refine ⟨⟨j + 1, ?_, ?_, ?_⟩, ?_⟩
      · rw [show ((j + 1 : Nat) : Int) = (j : Int) + 1 by omega]
      · rw [show E - ((j + 1 : Nat) : Int) = E - j - 1 by omega]
      · right; omega
      · simp only [intOf]; omega
    · go_wp2
      go_loop [1, 5] (fun e f => ∃ i : Nat, f = .float .f64 (fw false m ((j : Int) - i)) ∧ e = .int .i64 (E - j + i) ∧ E - j + i ≤ 0) (fun e _ => (- intOf e).toNat)
      case atStart => exact ⟨0, by simp, by simp, by omega⟩
      case round =>
        obtain ⟨i, rfl, rfl, hi⟩ := hrel
        by_cases hl2 : E - j + i < 0
        · have hmul := run_valid (P := Tryz.prog) .mul 23 (fw false m ((j : Int) - i)) 4602678819172646912 (fw false m ((j : Int) - i - 1)) (by rw [bits_half]; exact half false m _ (rep_at m _ hm (by omega) (by omega)))
          go_wp2
          refine ⟨⟨i + 1, ?_, ?_, ?_⟩, ?_⟩
          · rw [show (j : Int) - ((i + 1 : Nat) : Int) = (j : Int) - i - 1 by omega]
          · rw [show E - j + ((i + 1 : Nat) : Int) = E - j + i + 1 by omega]
          · omega
          · simp only [intOf]; omega
        · have HE : Hid ((j : Int) - i = E) := by show (j : Int) - i = E; omega
          go_wp2
          go_ret
          exact ⟨by rw [← HE.out]; rfl, rfl⟩
end Go.Proofs.YtoedefjngipeiaaGreatDoor

