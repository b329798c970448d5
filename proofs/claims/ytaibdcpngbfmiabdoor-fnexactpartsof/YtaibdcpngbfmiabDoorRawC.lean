/- l2raw at the numbers below 2^-1022, and at every float. -/
import Derived.Test.YtaibdcpngbfmiabDoorRawB
namespace Go.Proofs.YtaibdcpngbfmiabDoor
open Go.ChangeShapes Go.WideShapes Go.RowKit
open Ieee (double)

set_option maxRecDepth 100000 in
set_option maxHeartbeats 1000000 in
theorem raw_small (s : Bool) (m : Nat) (h0 : 0 < m) (h2 : m < 4503599627370496) (w : World) :
    Calls Tryd.prog 7 #[.float .f64 (fw s m (-1074))] w fun e w' => e = .returned (.tuple #[.bool s, .int .u64 m]) ∧ w' = w := by
  have hc : Canon m (-1074) := .inr ⟨h2, rfl⟩
  have hr : Rep m (-1074) := canon_rep m _ hc
  have hn : FloatKind.f64.format.order (fw s m (-1074)) (fw s m (-1074)) = some .eq := order_self_fw s m _ hc
  have hz : FloatKind.f64.format.order (fw s m (-1074)) 0 = some (if s then .lt else .gt) := ord_zero s m _ hr h0
  have hz0 : FloatKind.f64.format.order (fw false m (-1074)) 0 = some .gt := ord_zero false m _ hr h0
  have hm : (FloatKind.f64.format.order (fw false m (-1074)) 9218868437227405311 == some .gt) = false := ord_most m _ hc
  have hb : (FloatKind.f64.format.order (fw false m (-1074)) 4611686018427387904 == some .gt || FloatKind.f64.format.order (fw false m (-1074)) 4611686018427387904 == some .eq) = false := ord_two_lt m _ hr (by omega)
  have hng := run_neg (fw true m (-1074))
  rw [show Op.negFloat .f64 (fw true m (-1074)) = fw false m (-1074) from neg_fw true m _ hc] at hng
  clear hc hr
  cases s
  all_goals
    go_enter Tryd.func7, Tryd.ntmps7
    go_wp2
    clear hn hz hz0 hm hng
    refine wp_loop_rounds 1 ?_
    rw [rounds_succ]
    go_wp2
    clear hb
    go_loop [0, 5] (fun f e => ∃ j : Nat, f = .float .f64 (fw false m (-1074 + (j : Int))) ∧ e = .int .i64 (1023 - (j : Int)) ∧ j ≤ 1022) (fun _ e => (intOf e).toNat)
    case atStart => exact ⟨0, by simp, by simp, by omega⟩
    case round =>
      obtain ⟨j, rfl, rfl, hj⟩ := hrel
      have hrj : Rep m (-1074 + (j : Int)) := rep_at m _ (by omega) (by omega) (by omega)
      have hb : FloatKind.f64.format.order (fw false m (-1074 + (j : Int))) 4607182418800017408 = some .lt := ord_one_lt m _ hrj (.inr ⟨h2, by omega⟩)
      by_cases hlt : j < 1022
      · have hmul := run_valid (P := Tryd.prog) .mul 22 (fw false m (-1074 + (j : Int))) 4611686018427387904 (fw false m (-1074 + (j : Int) + 1)) (by rw [bits_two]; exact twice false m _ hrj)
        clear hrj
        go_wp2
        have e1 : -1074 + ((j + 1 : Nat) : Int) = -1074 + (j : Int) + 1 := by omega
        have e2 : 1023 - ((j + 1 : Nat) : Int) = 1023 - (j : Int) - 1 := by omega
        refine ⟨⟨j + 1, ?_, ?_, ?_⟩, ?_⟩
        · rw [e1]
        · rw [e2]
        · omega
        · simp only [intOf]; omega
      · have ej : -1074 + (j : Int) = -52 := by omega
        have ee : 1023 - (j : Int) = 1 := by omega
        rw [ej] at hb hrj ⊢
        rw [ee]
        have hmul := run_valid (P := Tryd.prog) .mul 22 (fw false m (-52)) 4841369599423283200 (fw false m 0) (by rw [bits_52]; exact up52 false m _ hrj)
        have hcv := fun w => run_convert_float_int (P := Tryd.prog) w 22 28 .f64 .u64 (fw false m 0) m (by rw [Tryd.underlying22]; rfl) Tryd.underlying28 (to_u64 m (by omega))
        clear ej ee hrj hj hlt
        go_wp2
        go_ret2
        exact ⟨rfl, rfl⟩

/-- A float's sign and rung. -/
theorem raw_any (x : Nat) (hx : x < 18446744073709551616) (hn : ¬ IsNan x) : ∃ s r, r ≤ 9218868437227405312 ∧ x = signBit s + r ∧
    ∀ w, Calls Tryd.prog 7 #[.float .f64 x] w fun e w' => e = .returned (.tuple #[.bool s, .int .u64 (r : Nat)]) ∧ w' = w := by
  rcases float_cases x hx with h | ⟨s, rfl⟩ | ⟨s, m, p, hc, rfl⟩
  · exact absurd h hn
  · exact ⟨s, 9218868437227405312, Nat.le_refl _, rfl, raw_inf s⟩
  · have hr := rung_lt m p hc
    refine ⟨s, rung m p, by omega, fw_canon s m p hc, fun w => ?_⟩
    rcases hc with ⟨h1, h2, h3, h4⟩ | ⟨h1, rfl⟩
    · exact raw_normal s m p h1 h2 h3 h4 w
    · have e : rung m (-1074) = m := by unfold rung; omega
      rw [e]
      by_cases h0 : m = 0
      · subst h0
        rw [fw_zero]
        exact raw_zero s w
      · exact raw_small s m (by omega) h1 w
end Go.Proofs.YtaibdcpngbfmiabDoor
