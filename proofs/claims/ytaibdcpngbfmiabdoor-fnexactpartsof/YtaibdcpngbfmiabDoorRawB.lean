/- l2raw of the specification at numbers. -/
import Derived.Test.YtaibdcpngbfmiabDoorRawA
namespace Go.Proofs.YtaibdcpngbfmiabDoor
open Go.ChangeShapes Go.WideShapes Go.RowKit
open Ieee (double)

set_option maxRecDepth 100000 in
set_option maxHeartbeats 1000000 in
theorem raw_normal (s : Bool) (m : Nat) (p : Int) (h1 : 4503599627370496 ≤ m) (h2 : m < 9007199254740992) (h3 : -1074 ≤ p) (h4 : p ≤ 971) (w : World) :
    Calls Tryd.prog 7 #[.float .f64 (fw s m p)] w fun e w' => e = .returned (.tuple #[.bool s, .int .u64 (rung m p)]) ∧ w' = w := by
  have hc : Canon m p := .inl ⟨h1, h2, h3, h4⟩
  have hr : Rep m p := canon_rep m p hc
  have hn : FloatKind.f64.format.order (fw s m p) (fw s m p) = some .eq := order_self_fw s m p hc
  have hz : FloatKind.f64.format.order (fw s m p) 0 = some (if s then .lt else .gt) := ord_zero s m p hr (by omega)
  have hz0 : FloatKind.f64.format.order (fw false m p) 0 = some .gt := ord_zero false m p hr (by omega)
  have hm : (FloatKind.f64.format.order (fw false m p) 9218868437227405311 == some .gt) = false := ord_most m p hc
  have hng := run_neg (fw true m p)
  rw [show Op.negFloat .f64 (fw true m p) = fw false m p from neg_fw true m p hc] at hng
  clear hc hr
  have hrung : ((rung m p : Nat) : Int) = (((p + 1075).toNat * 4503599627370496 + (m - 4503599627370496) : Nat) : Int) := by unfold rung; omega
  have HR : Hid _ := hrung
  clear hrung
  cases s
  all_goals
    go_enter Tryd.func7, Tryd.ntmps7
    go_wp2
    clear hn hz hz0 hm hng
    go_loop [0, 5] (fun f e => ∃ k : Nat, f = .float .f64 (fw false m (p - k)) ∧ e = .int .i64 (1023 + (k : Int)) ∧ (k = 0 ∨ -52 ≤ p - k)) (fun _ e => (1023 + p + 52 - intOf e).toNat)
    case atStart => exact ⟨0, by simp, rfl, .inl rfl⟩
    case round =>
      obtain ⟨k, rfl, rfl, hk⟩ := hrel
      have hrk : Rep m (p - k) := rep_at m _ h2 (by omega) (by omega)
      by_cases hge : -51 ≤ p - k
      · have hb : FloatKind.f64.format.order (fw false m (p - k)) 4611686018427387904 = some .gt ∨ FloatKind.f64.format.order (fw false m (p - k)) 4611686018427387904 = some .eq := ord_two_ge m _ hrk h1 hge
        have hmul := run_valid (P := Tryd.prog) .mul 22 (fw false m (p - k)) 4602678819172646912 (fw false m (p - k - 1)) (by rw [bits_half]; exact half false m _ hrk)
        clear hrk
        have hk2 : (k : Int) ≤ 1022 := by omega
        rcases hb with hb | hb
        all_goals
          go_wp2
          have e1 : p - ((k + 1 : Nat) : Int) = p - k - 1 := by omega
          have e2 : 1023 + ((k + 1 : Nat) : Int) = 1023 + (k : Int) + 1 := by omega
          refine ⟨⟨k + 1, ?_, ?_, ?_⟩, ?_⟩
          · rw [e1]
          · rw [e2]
          · right; rw [e1]; omega
          · simp only [intOf]; omega
      · have hb : (FloatKind.f64.format.order (fw false m (p - k)) 4611686018427387904 == some .gt || FloatKind.f64.format.order (fw false m (p - k)) 4611686018427387904 == some .eq) = false := ord_two_lt m _ hrk (by omega)
        clear hrk
        have hq : p - k ≤ -52 := by omega
        clear hge
        go_wp2
        clear hb
        go_loop [0, 5] (fun f e => ∃ j : Nat, f = .float .f64 (fw false m (p - k + j)) ∧ e = .int .i64 (1023 + (k : Int) - j) ∧ p - k + j ≤ -52) (fun _ e => (intOf e).toNat)
        case atStart => exact ⟨0, by simp, by simp, by omega⟩
        case round =>
          obtain ⟨j, rfl, rfl, hj⟩ := hrel
          have hrj : Rep m (p - k + j) := rep_at m _ h2 (by omega) (by omega)
          by_cases hlt : p - k + j ≤ -53
          · have hb : FloatKind.f64.format.order (fw false m (p - k + j)) 4607182418800017408 = some .lt := ord_one_lt m _ hrj (.inl hlt)
            have hmul := run_valid (P := Tryd.prog) .mul 22 (fw false m (p - k + j)) 4611686018427387904 (fw false m (p - k + j + 1)) (by rw [bits_two]; exact twice false m _ hrj)
            clear hrj
            go_wp2
            have e1 : p - k + ((j + 1 : Nat) : Int) = p - k + j + 1 := by omega
            have e2 : 1023 + (k : Int) - ((j + 1 : Nat) : Int) = 1023 + (k : Int) - j - 1 := by omega
            refine ⟨⟨j + 1, ?_, ?_, ?_⟩, ?_⟩
            · rw [e1]
            · rw [e2]
            · rw [e1]; omega
            · simp only [intOf]; omega
          · have ee : p - k + j = -52 := by omega
            have e5 : 1023 + (k : Int) - j = p + 1075 := by omega
            have hb : (FloatKind.f64.format.order (fw false m (p - k + j)) 4607182418800017408 == some .lt) = false := ord_one_ge m _ hrj h1 (by omega)
            rw [ee] at hb ⊢
            rw [e5]
            clear hrj ee e5 hj hk hq hlt
            obtain ⟨M, rfl⟩ : ∃ M, m = 4503599627370496 + M := ⟨m - 4503599627370496, by omega⟩
            have hM : M < 4503599627370496 := by omega
            have hsub := run_valid (P := Tryd.prog) .sub 22 (fw false (4503599627370496 + M) (-52)) 4607182418800017408 (fw false M (-52)) (by rw [bits_one]; exact sub_one M hM)
            have hmul := run_valid (P := Tryd.prog) .mul 22 (fw false M (-52)) 4841369599423283200 (fw false M 0) (by rw [bits_52]; exact up52 false M _ (rep_at M _ (by omega) (by omega) (by omega)))
            have hcv := fun w => run_convert_float_int (P := Tryd.prog) w 22 28 .f64 .u64 (fw false M 0) M (by rw [Tryd.underlying22]; rfl) Tryd.underlying28 (to_u64 M (by omega))
            have HO : Hid _ := or_low (p + 1075).toNat M hM (by omega)
            have hp0 : 0 ≤ p + 1075 := by omega
            have hp1 : p + 1075 ≤ 2046 := by omega
            go_wp2
            go_ret2
            refine ⟨?_, rfl⟩
            have e6 : ((p + 1075).toNat : Int) = p + 1075 := by omega
            have e7 := HO.out
            rw [e6] at e7
            have e8 := HR.out
            rw [show 4503599627370496 + M - 4503599627370496 = M by omega] at e8
            rw [e8, ← e7]
            rfl
end Go.Proofs.YtaibdcpngbfmiabDoor
