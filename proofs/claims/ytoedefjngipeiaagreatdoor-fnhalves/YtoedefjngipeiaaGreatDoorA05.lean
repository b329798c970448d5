import Derived.Test.YtoedefjngipeiaaGreatDoorA04
import Derived.Test.YtoedefjngipeiaaGreatDoorA03
/- l2raw of the specification at numbers. -/
namespace Go.Proofs.YtoedefjngipeiaaGreatDoor
open Go.ChangeShapes Go.WideShapes Go.RowKit
open Ieee (double)

set_option maxRecDepth 100000 in
set_option maxHeartbeats 1000000 in
theorem raw_normal (s : Bool) (m : Nat) (p : Int) (h1 : 4503599627370496 ≤ m) (h2 : m < 9007199254740992) (h3 : -1074 ≤ p) (h4 : p ≤ 971) (w : World) :
    Calls Tryz.prog 47 #[.float .f64 (fw s m p)] w fun e w' => e = .returned (.tuple #[.bool s, .int .u64 (rung m p)]) ∧ w' = w := by
  have hc : Canon m p := .inl ⟨h1, h2, h3, h4⟩
  have hr : Rep m p := canon_rep m p hc
  have hn : FloatKind.f64.format.order (fw s m p) (fw s m p) = some .eq := order_self_fw s m p hc
  have hz : FloatKind.f64.format.order (fw s m p) 0 = some (if s then .lt else .gt) := ord_zero s m p hr (by omega)
  have hz0 : FloatKind.f64.format.order (fw false m p) 0 = some .gt := ord_zero false m p hr (by omega)
  have hm : (FloatKind.f64.format.order (fw false m p) 9218868437227405311 == some .gt) = false := ord_most m p hc
  have hng := run_neg (fw true m p)
  rw [show Op.negFloat .f64 (fw true m p) = fw false m p from neg_fw true m p hc] at hng
  clear hc hr
  have hrung : ((rung m p : Nat) : Int) = (((p + 1075).toNat * 4503599627370496 + (m - 4503599627370496) : Nat) : Int) := by unfold rung; omega
  have HR : Hid _ := hrung
  clear hrung
  cases s
  all_goals
    go_enter Tryz.func47, Tryz.ntmps47
    go_wp2
    clear hn hz hz0 hm hng
    go_loop [0, 5] (fun f e => ∃ k : Nat, f = .float .f64 (fw false m (p - k)) ∧ e = .int .i64 (1023 + (k : Int)) ∧ (k = 0 ∨ -52 ≤ p - k)) (fun _ e => (1023 + p + 52 - intOf e).toNat)
    case atStart => exact ⟨0, by simp, rfl, .inl rfl⟩
    case round =>
      obtain ⟨k, rfl, rfl, hk⟩ := hrel
      have hrk : Rep m (p - k) := rep_at m _ h2 (by omega) (by omega)
      by_cases hge : -51 ≤ p - k
      · have hb : FloatKind.f64.format.order (fw false m (p - k)) 4611686018427387904 = some .gt ∨ FloatKind.f64.format.order (fw false m (p - k)) 4611686018427387904 = some .eq := ord_two_ge m _ hrk h1 hge
        have hmul := run_valid (P := Tryz.prog) .mul 23 (fw false m (p - k)) 4602678819172646912 (fw false m (p - k - 1)) (by rw [bits_half]; exact half false m _ hrk)
        clear hrk
        have hk2 : (k : Int) ≤ 1022 := by omega
        rcases hb with hb | hb
        all_goals
          go_wp2
          have e1 : p - ((k + 1 : Nat) : Int) = p - k - 1 := by omega
          have e2 : 1023 + ((k + 1 : Nat) : Int) = 1023 + (k : Int) + 1 := by omega
          refine ⟨⟨k + 1, ?_, ?_, ?_⟩, ?_⟩
          · rw [e1]
          · rw [e2]
          · right; rw [e1]; omega
          · simp only [intOf]; omega
      · have hb : (FloatKind.f64.format.order (fw false m (p - k)) 4611686018427387904 == some .gt || FloatKind.f64.format.order (fw false m (p - k)) 4611686018427387904 == some .eq) = false := ord_two_lt m _ hrk (by omega)
        clear hrk
        have hq : p - k ≤ -52 := by omega
        clear hge
        go_wp2
        clear hb
        go_loop [0, 5] (fun f e => ∃ j : Nat, f = .float .f64 (fw false m (p - k + j)) ∧ e = .int .i64 (1023 + (k : Int) - j) ∧ p - k + j ≤ -52) (fun _ e => (intOf e).toNat)
        case atStart => exact ⟨0, by simp, by simp, by omega⟩
        case round =>
          obtain ⟨j, rfl, rfl, hj⟩ := hrel
          have hrj : Rep m (p - k + j) := rep_at m _ h2 (by omega) (by omega)
          by_cases hlt : p - k + j ≤ -53
          · have hb : FloatKind.f64.format.order (fw false m (p - k + j)) 4607182418800017408 = some .lt := ord_one_lt m _ hrj (.inl hlt)
            have hmul := run_valid (P := Tryz.prog) .mul 23 (fw false m (p - k + j)) 4611686018427387904 (fw false m (p - k + j + 1)) (by rw [bits_two]; exact twice false m _ hrj)
            clear hrj
            go_wp2
            have e1 : p - k + ((j + 1 : Nat) : Int) = p - k + j + 1 := by omega
            have e2 : 1023 + (k : Int) - ((j + 1 : Nat) : Int) = 1023 + (k : Int) - j - 1 := by omega
            refine ⟨⟨j + 1, ?_, ?_, ?_⟩, ?_⟩
            · rw [e1]
            · rw [e2]
            · rw [e1]; omega
            · simp only [intOf]; omega
          · have ee : p - k + j = -52 := by omega
            have e5 : 1023 + (k : Int) - j = p + 1075 := by omega
            have hb : (FloatKind.f64.format.order (fw false m (p - k + j)) 4607182418800017408 == some .lt) = false := ord_one_ge m _ hrj h1 (by omega)
            rw [ee] at hb ⊢
            rw [e5]
            clear hrj ee e5 hj hk hq hlt
            obtain ⟨M, rfl⟩ : ∃ M, m = 4503599627370496 + M := ⟨m - 4503599627370496, by omega⟩
            have hM : M < 4503599627370496 := by omega
            have hsub := run_valid (P := Tryz.prog) .sub 23 (fw false (4503599627370496 + M) (-52)) 4607182418800017408 (fw false M (-52)) (by rw [bits_one]; exact sub_one M hM)
            have hmul := run_valid (P := Tryz.prog) .mul 23 (fw false M (-52)) 4841369599423283200 (fw false M 0) (by rw [bits_52]; exact up52 false M _ (rep_at M _ (by omega) (by omega) (by omega)))
            have hcv := fun w => run_convert_float_int (P := Tryz.prog) w 23 40 .f64 .u64 (fw false M 0) M (by rw [Tryz.underlying23]; rfl) Tryz.underlying40 (to_u64 M (by omega))
            have HO : Hid _ := or_low (p + 1075).toNat M hM (by omega)
            have hp0 : 0 ≤ p + 1075 := by omega
            have hp1 : p + 1075 ≤ 2046 := by omega
            go_wp2
            go_ret2
            refine ⟨?_, rfl⟩
            have e6 : ((p + 1075).toNat : Int) = p + 1075 := by omega
            have e7 := HO.out
            rw [e6] at e7
            have e8 := HR.out
            rw [show 4503599627370496 + M - 4503599627370496 = M by omega] at e8
            rw [e8, ← e7]
            rfl
end Go.Proofs.YtoedefjngipeiaaGreatDoor

/- l2raw at the numbers below 2^-1022, and at every float. -/
namespace Go.Proofs.YtoedefjngipeiaaGreatDoor
open Go.ChangeShapes Go.WideShapes Go.RowKit
open Ieee (double)

set_option maxRecDepth 100000 in
set_option maxHeartbeats 1000000 in
theorem raw_small (s : Bool) (m : Nat) (h0 : 0 < m) (h2 : m < 4503599627370496) (w : World) :
    Calls Tryz.prog 47 #[.float .f64 (fw s m (-1074))] w fun e w' => e = .returned (.tuple #[.bool s, .int .u64 m]) ∧ w' = w := by
  have hc : Canon m (-1074) := .inr ⟨h2, rfl⟩
  have hr : Rep m (-1074) := canon_rep m _ hc
  have hn : FloatKind.f64.format.order (fw s m (-1074)) (fw s m (-1074)) = some .eq := order_self_fw s m _ hc
  have hz : FloatKind.f64.format.order (fw s m (-1074)) 0 = some (if s then .lt else .gt) := ord_zero s m _ hr h0
  have hz0 : FloatKind.f64.format.order (fw false m (-1074)) 0 = some .gt := ord_zero false m _ hr h0
  have hm : (FloatKind.f64.format.order (fw false m (-1074)) 9218868437227405311 == some .gt) = false := ord_most m _ hc
  have hb : (FloatKind.f64.format.order (fw false m (-1074)) 4611686018427387904 == some .gt || FloatKind.f64.format.order (fw false m (-1074)) 4611686018427387904 == some .eq) = false := ord_two_lt m _ hr (by omega)
  have hng := run_neg (fw true m (-1074))
  rw [show Op.negFloat .f64 (fw true m (-1074)) = fw false m (-1074) from neg_fw true m _ hc] at hng
  clear hc hr
  cases s
  all_goals
    go_enter Tryz.func47, Tryz.ntmps47
    go_wp2
    clear hn hz hz0 hm hng
    refine wp_loop_rounds 1 ?_
    rw [rounds_succ]
    go_wp2
    clear hb
    go_loop [0, 5] (fun f e => ∃ j : Nat, f = .float .f64 (fw false m (-1074 + (j : Int))) ∧ e = .int .i64 (1023 - (j : Int)) ∧ j ≤ 1022) (fun _ e => (intOf e).toNat)
    case atStart => exact ⟨0, by simp, by simp, by omega⟩
    case round =>
      obtain ⟨j, rfl, rfl, hj⟩ := hrel
      have hrj : Rep m (-1074 + (j : Int)) := rep_at m _ (by omega) (by omega) (by omega)
      have hb : FloatKind.f64.format.order (fw false m (-1074 + (j : Int))) 4607182418800017408 = some .lt := ord_one_lt m _ hrj (.inr ⟨h2, by omega⟩)
      by_cases hlt : j < 1022
      · have hmul := run_valid (P := Tryz.prog) .mul 23 (fw false m (-1074 + (j : Int))) 4611686018427387904 (fw false m (-1074 + (j : Int) + 1)) (by rw [bits_two]; exact twice false m _ hrj)
        clear hrj
        go_wp2
        have e1 : -1074 + ((j + 1 : Nat) : Int) = -1074 + (j : Int) + 1 := by omega
        have e2 : 1023 - ((j + 1 : Nat) : Int) = 1023 - (j : Int) - 1 := by omega
        refine ⟨⟨j + 1, ?_, ?_, ?_⟩, ?_⟩
        · rw [e1]
        · rw [e2]
        · omega
        · simp only [intOf]; omega
      · have ej : -1074 + (j : Int) = -52 := by omega
        have ee : 1023 - (j : Int) = 1 := by omega
        rw [ej] at hb hrj ⊢
        rw [ee]
        have hmul := run_valid (P := Tryz.prog) .mul 23 (fw false m (-52)) 4841369599423283200 (fw false m 0) (by rw [bits_52]; exact up52 false m _ hrj)
        have hcv := fun w => run_convert_float_int (P := Tryz.prog) w 23 40 .f64 .u64 (fw false m 0) m (by rw [Tryz.underlying23]; rfl) Tryz.underlying40 (to_u64 m (by omega))
        clear ej ee hrj hj hlt
        go_wp2
        go_ret2
        exact ⟨rfl, rfl⟩

/-- A float's sign and rung. -/
theorem raw_any (x : Nat) (hx : x < 18446744073709551616) (hn : ¬ IsNan x) : ∃ s r, r ≤ 9218868437227405312 ∧ x = signBit s + r ∧
    ∀ w, Calls Tryz.prog 47 #[.float .f64 x] w fun e w' => e = .returned (.tuple #[.bool s, .int .u64 (r : Nat)]) ∧ w' = w := by
  rcases float_cases x hx with h | ⟨s, rfl⟩ | ⟨s, m, p, hc, rfl⟩
  · exact absurd h hn
  · exact ⟨s, 9218868437227405312, Nat.le_refl _, rfl, raw_inf s⟩
  · have hr := rung_lt m p hc
    refine ⟨s, rung m p, by omega, fw_canon s m p hc, fun w => ?_⟩
    rcases hc with ⟨h1, h2, h3, h4⟩ | ⟨h1, rfl⟩
    · exact raw_normal s m p h1 h2 h3 h4 w
    · have e : rung m (-1074) = m := by unfold rung; omega
      rw [e]
      by_cases h0 : m = 0
      · subst h0
        rw [fw_zero]
        exact raw_zero s w
      · exact raw_small s m (by omega) h1 w
end Go.Proofs.YtoedefjngipeiaaGreatDoor

/- What BitsOf answers: plain. -/
namespace Go.Proofs.YtoedefjngipeiaaGreatDoor
open Go.RowKit

/-- What BitsOf answers. -/
def bitsV (x : Nat) (v : Int) : Prop := (IsNan x ∧ v = 9221120237041090560) ∨ (¬ IsNan x ∧ v = wrap64 x)

theorem bitsV_one (x : Nat) (v v' : Int) (h : bitsV x v) (h' : bitsV x v') : v = v' := by
  rcases h with ⟨a, rfl⟩ | ⟨a, rfl⟩ <;> rcases h' with ⟨b, rfl⟩ | ⟨b, rfl⟩
  · rfl
  · exact absurd a b
  · exact absurd b a
  · rfl
end Go.Proofs.YtoedefjngipeiaaGreatDoor

