import Derived.Test.YtpmccbkhkaoccaaGreatDoorB17
import Derived.Test.YtpmccbkhkaoccaaGreatDoorB05
import Derived.Test.YtpmccbkhkaoccaaGreatDoorB08
/- l2raw of the specification at numbers. -/
namespace Go.Proofs.YtpmccbkhkaoccaaGreatDoor
open Go.ChangeShapes Go.WideShapes Go.RowKit
open Ieee (double)

set_option maxRecDepth 100000 in
set_option maxHeartbeats 1000000 in
theorem raw_normal (s : Bool) (m : Nat) (p : Int) (h1 : 4503599627370496 ≤ m) (h2 : m < 9007199254740992) (h3 : -1074 ≤ p) (h4 : p ≤ 971) (w : World) :
    Calls Tryz.prog 50 #[.float .f64 (fw s m p)] w fun e w' => e = .returned (.tuple #[.bool s, .int .u64 (rung m p)]) ∧ w' = w := by
  have hc : Canon m p := .inl ⟨h1, h2, h3, h4⟩
  have hr : Rep m p := canon_rep m p hc
  have hn : FloatKind.f64.format.order (fw s m p) (fw s m p) = some .eq := order_self_fw s m p hc
  have hz : FloatKind.f64.format.order (fw s m p) 0 = some (if s then .lt else .gt) := ord_zero s m p hr (by omega)
  have hz0 : FloatKind.f64.format.order (fw false m p) 0 = some .gt := ord_zero false m p hr (by omega)
  have hm : (FloatKind.f64.format.order (fw false m p) 9218868437227405311 == some .gt) = false := ord_most m p hc
  have hng := run_neg (fw true m p)
  rw [show Op.negFloat .f64 (fw true m p) = fw false m p from neg_fw true m p hc] at hng
  clear hc hr
  have hrung : ((rung m p : Nat) : Int) = (((p + 1075).toNat * 4503599627370496 + (m - 4503599627370496) : Nat) : Int) := by unfold rung; omega
  have HR : Hid _ := hrung
  clear hrung
  cases s
  all_goals
    go_enter Tryz.func50, Tryz.ntmps50
    go_wp2
    clear hn hz hz0 hm hng
    go_loop [0, 5] (fun f e => ∃ k : Nat, f = .float .f64 (fw false m (p - k)) ∧ e = .int .i64 (1023 + (k : Int)) ∧ (k = 0 ∨ -52 ≤ p - k)) (fun _ e => (1023 + p + 52 - intOf e).toNat)
    case atStart => exact ⟨0, by simp, rfl, .inl rfl⟩
    case round =>
      obtain ⟨k, rfl, rfl, hk⟩ := hrel
      have hrk : Rep m (p - k) := rep_at m _ h2 (by omega) (by omega)
      by_cases hge : -51 ≤ p - k
      · have hb : FloatKind.f64.format.order (fw false m (p - k)) 4611686018427387904 = some .gt ∨ FloatKind.f64.format.order (fw false m (p - k)) 4611686018427387904 = some .eq := ord_two_ge m _ hrk h1 hge
        have hmul := run_valid (P := Tryz.prog) .mul 23 (fw false m (p - k)) 4602678819172646912 (fw false m (p - k - 1)) (by rw [bits_half]; exact half false m _ hrk)
        clear hrk
        have hk2 : (k : Int) ≤ 1022 := by omega
        rcases hb with hb | hb
        all_goals
          go_wp2
          have e1 : p - ((k + 1 : Nat) : Int) = p - k - 1 := by omega
          have e2 : 1023 + ((k + 1 : Nat) : Int) = 1023 + (k : Int) + 1 := by omega
          refine ⟨⟨k + 1, ?_, ?_, ?_⟩, ?_⟩
          · rw [e1]
          · rw [e2]
          · right; rw [e1]; omega
          · simp only [intOf]; omega
      · have hb : (FloatKind.f64.format.order (fw false m (p - k)) 4611686018427387904 == some .gt || FloatKind.f64.format.order (fw false m (p - k)) 4611686018427387904 == some .eq) = false := ord_two_lt m _ hrk (by omega)
        clear hrk
        have hq : p - k ≤ -52 := by omega
        clear hge
        go_wp2
        clear hb
        go_loop [0, 5] (fun f e => ∃ j : Nat, f = .float .f64 (fw false m (p - k + j)) ∧ e = .int .i64 (1023 + (k : Int) - j) ∧ p - k + j ≤ -52) (fun _ e => (intOf e).toNat)
        case atStart => exact ⟨0, by simp, by simp, by omega⟩
        case round =>
          obtain ⟨j, rfl, rfl, hj⟩ := hrel
          have hrj : Rep m (p - k + j) := rep_at m _ h2 (by omega) (by omega)
          by_cases hlt : p - k + j ≤ -53
          · have hb : FloatKind.f64.format.order (fw false m (p - k + j)) 4607182418800017408 = some .lt := ord_one_lt m _ hrj (.inl hlt)
            have hmul := run_valid (P := Tryz.prog) .mul 23 (fw false m (p - k + j)) 4611686018427387904 (fw false m (p - k + j + 1)) (by rw [bits_two]; exact twice false m _ hrj)
            clear hrj
            go_wp2
            have e1 : p - k + ((j + 1 : Nat) : Int) = p - k + j + 1 := by omega
            have e2 : 1023 + (k : Int) - ((j + 1 : Nat) : Int) = 1023 + (k : Int) - j - 1 := by omega
            refine ⟨⟨j + 1, ?_, ?_, ?_⟩, ?_⟩
            · rw [e1]
            · rw [e2]
            · rw [e1]; omega
            · simp only [intOf]; omega
          · have ee : p - k + j = -52 := by omega
            have e5 : 1023 + (k : Int) - j = p + 1075 := by omega
            have hb : (FloatKind.f64.format.order (fw false m (p - k + j)) 4607182418800017408 == some .lt) = false := ord_one_ge m _ hrj h1 (by omega)
            rw [ee] at hb ⊢
            rw [e5]
            clear hrj ee e5 hj hk hq hlt
            obtain ⟨M, rfl⟩ : ∃ M, m = 4503599627370496 + M := ⟨m - 4503599627370496, by omega⟩
            have hM : M < 4503599627370496 := by omega
            have hsub := run_valid (P := Tryz.prog) .sub 23 (fw false (4503599627370496 + M) (-52)) 4607182418800017408 (fw false M (-52)) (by rw [bits_one]; exact sub_one M hM)
            have hmul := run_valid (P := Tryz.prog) .mul 23 (fw false M (-52)) 4841369599423283200 (fw false M 0) (by rw [bits_52]; exact up52 false M _ (rep_at M _ (by omega) (by omega) (by omega)))
            have hcv := fun w => run_convert_float_int (P := Tryz.prog) w 23 45 .f64 .u64 (fw false M 0) M (by rw [Tryz.underlying23]; rfl) Tryz.underlying45 (to_u64 M (by omega))
            have HO : Hid _ := or_low (p + 1075).toNat M hM (by omega)
            have hp0 : 0 ≤ p + 1075 := by omega
            have hp1 : p + 1075 ≤ 2046 := by omega
            go_wp2
            go_ret2
            refine ⟨?_, rfl⟩
            have e6 : ((p + 1075).toNat : Int) = p + 1075 := by omega
            have e7 := HO.out
            rw [e6] at e7
            have e8 := HR.out
            rw [show 4503599627370496 + M - 4503599627370496 = M by omega] at e8
            rw [e8, ← e7]
            rfl
end Go.Proofs.YtpmccbkhkaoccaaGreatDoor

/- l2raw at the numbers below 2^-1022, and at every float. -/
namespace Go.Proofs.YtpmccbkhkaoccaaGreatDoor
open Go.ChangeShapes Go.WideShapes Go.RowKit
open Ieee (double)

set_option maxRecDepth 100000 in
set_option maxHeartbeats 1000000 in
theorem raw_small (s : Bool) (m : Nat) (h0 : 0 < m) (h2 : m < 4503599627370496) (w : World) :
    Calls Tryz.prog 50 #[.float .f64 (fw s m (-1074))] w fun e w' => e = .returned (.tuple #[.bool s, .int .u64 m]) ∧ w' = w := by
  have hc : Canon m (-1074) := .inr ⟨h2, rfl⟩
  have hr : Rep m (-1074) := canon_rep m _ hc
  have hn : FloatKind.f64.format.order (fw s m (-1074)) (fw s m (-1074)) = some .eq := order_self_fw s m _ hc
  have hz : FloatKind.f64.format.order (fw s m (-1074)) 0 = some (if s then .lt else .gt) := ord_zero s m _ hr h0
  have hz0 : FloatKind.f64.format.order (fw false m (-1074)) 0 = some .gt := ord_zero false m _ hr h0
  have hm : (FloatKind.f64.format.order (fw false m (-1074)) 9218868437227405311 == some .gt) = false := ord_most m _ hc
  have hb : (FloatKind.f64.format.order (fw false m (-1074)) 4611686018427387904 == some .gt || FloatKind.f64.format.order (fw false m (-1074)) 4611686018427387904 == some .eq) = false := ord_two_lt m _ hr (by omega)
  have hng := run_neg (fw true m (-1074))
  rw [show Op.negFloat .f64 (fw true m (-1074)) = fw false m (-1074) from neg_fw true m _ hc] at hng
  clear hc hr
  cases s
  all_goals
    go_enter Tryz.func50, Tryz.ntmps50
    go_wp2
    clear hn hz hz0 hm hng
    refine wp_loop_rounds 1 ?_
    rw [rounds_succ]
    go_wp2
    clear hb
    go_loop [0, 5] (fun f e => ∃ j : Nat, f = .float .f64 (fw false m (-1074 + (j : Int))) ∧ e = .int .i64 (1023 - (j : Int)) ∧ j ≤ 1022) (fun _ e => (intOf e).toNat)
    case atStart => exact ⟨0, by simp, by simp, by omega⟩
    case round =>
      obtain ⟨j, rfl, rfl, hj⟩ := hrel
      have hrj : Rep m (-1074 + (j : Int)) := rep_at m _ (by omega) (by omega) (by omega)
      have hb : FloatKind.f64.format.order (fw false m (-1074 + (j : Int))) 4607182418800017408 = some .lt := ord_one_lt m _ hrj (.inr ⟨h2, by omega⟩)
      by_cases hlt : j < 1022
      · have hmul := run_valid (P := Tryz.prog) .mul 23 (fw false m (-1074 + (j : Int))) 4611686018427387904 (fw false m (-1074 + (j : Int) + 1)) (by rw [bits_two]; exact twice false m _ hrj)
        clear hrj
        go_wp2
        have e1 : -1074 + ((j + 1 : Nat) : Int) = -1074 + (j : Int) + 1 := by omega
        have e2 : 1023 - ((j + 1 : Nat) : Int) = 1023 - (j : Int) - 1 := by omega
        refine ⟨⟨j + 1, ?_, ?_, ?_⟩, ?_⟩
        · rw [e1]
        · rw [e2]
        · omega
        · simp only [intOf]; omega
      · have ej : -1074 + (j : Int) = -52 := by omega
        have ee : 1023 - (j : Int) = 1 := by omega
        rw [ej] at hb hrj ⊢
        rw [ee]
        have hmul := run_valid (P := Tryz.prog) .mul 23 (fw false m (-52)) 4841369599423283200 (fw false m 0) (by rw [bits_52]; exact up52 false m _ hrj)
        have hcv := fun w => run_convert_float_int (P := Tryz.prog) w 23 45 .f64 .u64 (fw false m 0) m (by rw [Tryz.underlying23]; rfl) Tryz.underlying45 (to_u64 m (by omega))
        clear ej ee hrj hj hlt
        go_wp2
        go_ret2
        exact ⟨rfl, rfl⟩

/-- A float's sign and rung. -/
theorem raw_any (x : Nat) (hx : x < 18446744073709551616) (hn : ¬ IsNan x) : ∃ s r, r ≤ 9218868437227405312 ∧ x = signBit s + r ∧
    ∀ w, Calls Tryz.prog 50 #[.float .f64 x] w fun e w' => e = .returned (.tuple #[.bool s, .int .u64 (r : Nat)]) ∧ w' = w := by
  rcases float_cases x hx with h | ⟨s, rfl⟩ | ⟨s, m, p, hc, rfl⟩
  · exact absurd h hn
  · exact ⟨s, 9218868437227405312, Nat.le_refl _, rfl, raw_inf s⟩
  · have hr := rung_lt m p hc
    refine ⟨s, rung m p, by omega, fw_canon s m p hc, fun w => ?_⟩
    rcases hc with ⟨h1, h2, h3, h4⟩ | ⟨h1, rfl⟩
    · exact raw_normal s m p h1 h2 h3 h4 w
    · have e : rung m (-1074) = m := by unfold rung; omega
      rw [e]
      by_cases h0 : m = 0
      · subst h0
        rw [fw_zero]
        exact raw_zero s w
      · exact raw_small s m (by omega) h1 w
end Go.Proofs.YtpmccbkhkaoccaaGreatDoor

/- PartsOf of the specification. -/
namespace Go.Proofs.YtpmccbkhkaoccaaGreatDoor
open Go.ChangeShapes Go.WideShapes Go.RowKit
open Ieee (double)

set_option maxHeartbeats 400000 in
theorem parts_nan (x : Nat) (h : IsNan x) (w : World) :
    Calls Tryz.prog 19 #[.float .f64 x] w fun e w' => e = .returned (.agg #[.int .i64 3, .bool false, .int .i64 0, .int .i64 0]) ∧ Below w.heap.size w w' := by
  have hn : (FloatKind.f64.format.order x x != some .eq) = true := nan_neq x h
  go_enter Tryz.func19, Tryz.ntmps19
  go_wp2
  exact bodyPost_ret (v := .agg #[.int .i64 3, .bool false, .int .i64 0, .int .i64 0]) (by simp [results, Tryz.results19, go_sem]) rfl ⟨rfl, (by repeat (first | exact Below.refl _ _ | refine below_drewN ?_ _ | refine Below.setCell ?_ (by simp) _ | refine Below.alloc ?_ (by simp) _))⟩

set_option maxHeartbeats 400000 in
theorem parts_inf (s : Bool) (w : World) :
    Calls Tryz.prog 19 #[.float .f64 (iw s)] w fun e w' => e = .returned (.agg #[.int .i64 2, .bool s, .int .i64 0, .int .i64 0]) ∧ Below w.heap.size w w' := by
  have hn : FloatKind.f64.format.order (iw s) (iw s) = some .eq := order_self_iw s
  have hm := mask52 9218868437227405312 (by omega) (by omega)
  have HR : Hid _ := raw_inf s
  go_enter Tryz.func19, Tryz.ntmps19
  go_wp2_with (go_at_call 50; refine (HR.out _).mono ?_; rintro e w' ⟨rfl, rfl⟩)
  exact bodyPost_ret (v := .agg #[.int .i64 2, .bool s, .int .i64 0, .int .i64 0]) (by simp [results, Tryz.results19, go_sem]) rfl ⟨rfl, (by repeat (first | exact Below.refl _ _ | refine below_drewN ?_ _ | refine Below.setCell ?_ (by simp) _ | refine Below.alloc ?_ (by simp) _))⟩

set_option maxHeartbeats 400000 in
theorem parts_zero (s : Bool) (w : World) :
    Calls Tryz.prog 19 #[.float .f64 (signBit s)] w fun e w' => e = .returned (.agg #[.int .i64 0, .bool s, .int .i64 0, .int .i64 0]) ∧ Below w.heap.size w w' := by
  have hn : FloatKind.f64.format.order (signBit s) (signBit s) = some .eq := by
    have := order_self_fw s 0 (-1074) canon_zero
    rw [fw_zero] at this
    exact this
  have HR : Hid _ := raw_zero s
  go_enter Tryz.func19, Tryz.ntmps19
  go_wp2_with (go_at_call 50; refine (HR.out _).mono ?_; rintro e w' ⟨rfl, rfl⟩)
  exact bodyPost_ret (v := .agg #[.int .i64 0, .bool s, .int .i64 0, .int .i64 0]) (by simp [results, Tryz.results19, go_sem]) rfl ⟨rfl, (by repeat (first | exact Below.refl _ _ | refine below_drewN ?_ _ | refine Below.setCell ?_ (by simp) _ | refine Below.alloc ?_ (by simp) _))⟩

set_option maxRecDepth 100000 in
set_option maxHeartbeats 1000000 in
theorem parts_number (s : Bool) (n : Nat) (p : Int) (hc : Canon n p) (h0 : 0 < n) (w : World) :
    Calls Tryz.prog 19 #[.float .f64 (fw s n p)] w fun e w' => ∃ q t : Nat, n = q * 2 ^ t ∧ q % 2 = 1 ∧ e = .returned (.agg #[.int .i64 1, .bool s, .int .i64 q, .int .i64 (p + t)]) ∧ Below w.heap.size w w' := by
  have hn : FloatKind.f64.format.order (fw s n p) (fw s n p) = some .eq := order_self_fw s n p hc
  have HR : Hid (∀ w, Calls Tryz.prog 50 #[.float .f64 (fw s n p)] w fun e w' => e = .returned (.tuple #[.bool s, .int .u64 (rung n p)]) ∧ w' = w) := fun w => by
    rcases hc with ⟨h1, h2, h3, h4⟩ | ⟨h1, rfl⟩
    · exact raw_normal s n p h1 h2 h3 h4 w
    · have e : rung n (-1074) = n := by unfold rung; omega
      rw [e]; exact raw_small s n h0 h1 w
  obtain ⟨R, hRd⟩ : ∃ R : Int, R = (rung n p : Int) := ⟨_, rfl⟩
  rw [← hRd] at HR
  have hlt := rung_lt n p hc
  have hR0 : (R == 0) = false := by rw [beq_eq_false_iff_ne]; unfold rung at hRd; rcases hc with h | h <;> omega
  have hmask := mask52 R (by omega) (by omega)
  rcases hc with ⟨h1, h2, h3, h4⟩ | ⟨h1, hp⟩
  · obtain ⟨M, rfl⟩ : ∃ M, n = 4503599627370496 + M := ⟨n - 4503599627370496, by omega⟩
    have hM : M < 4503599627370496 := by omega
    have hq : R / 4503599627370496 = p + 1075 := by unfold rung at hRd; omega
    have hr : R % 4503599627370496 = (M : Int) := by unfold rung at hRd; omega
    rw [hr] at hmask
    have e47 : (p + 1075 == 2047) = false := by rw [beq_eq_false_iff_ne]; omega
    have ho := or_one M hM
    have hp1 : 0 < p + 1075 := by omega
    have hp2 : p + 1075 ≤ 2046 := by omega
    clear hRd hr hlt h0
    go_enter Tryz.func19, Tryz.ntmps19
    go_wp2_with (go_at_call 50; refine (HR.out _).mono ?_; rintro e w' ⟨rfl, rfl⟩)
    go_loopw [7] (fun a wl => ∃ (q : Int) (t : Nat), a = .int .u64 q ∧ 0 < q ∧ q < 9007199254740992 ∧ Hid (4503599627370496 + M = q.toNat * 2 ^ t) ∧ t ≤ 52 ∧ wl = (w.alloc (.cells #[.int .i64 0, .bool false, .int .i64 0, .int .i64 0] 32)).alloc (.cells #[.int .i64 1, .bool s, .int .i64 0, .int .i64 (p + (t : Int))] 32)) (fun a _ => (intOf a).toNat)
    case atStart => exact ⟨(4503599627370496 + (M : Int)), 0, rfl, by omega, by omega, by show 4503599627370496 + M = ((4503599627370496 + (M : Int)) : Int).toNat * 2 ^ 0; omega, by omega, by simp⟩
    case round =>
      obtain ⟨q, t, rfl, q0, q1, HQ, ht, rfl⟩ := hrel
      by_cases hev : q % 2 = 0
      · have b : (q % 2 == 0) = true := beq_iff_eq.2 hev
        have HQ2 : Hid _ := half_even _ t q HQ.out q0 hev
        have q2 : 0 < q / 2 := by omega
        have ht2 := few_halves _ (t + 1) (q / 2) HQ2.out q2 (by omega)
        clear hev
        go_wp2
        refine ⟨⟨q / 2, t + 1, rfl, by omega, by omega, HQ2, ht2, ?_⟩, ?_⟩
        · rw [show p + ((t + 1 : Nat) : Int) = p + (t : Int) + 1 by omega]
        · simp only [intOf]; omega
      · have b : (q % 2 == 0) = false := beq_eq_false_iff_ne.2 hev
        have HE : Hid _ := fun (_ : Unit) => hev
        clear hev
        go_wp2
        refine bodyPost_ret (v := .agg #[.int .i64 1, .bool s, .int .i64 q, .int .i64 (p + (t : Int))]) (by simp [results, Tryz.results19, go_sem]) rfl ⟨q.toNat, t, HQ.out, ?_, ?_, (by repeat (first | exact Below.refl _ _ | refine below_drewN ?_ _ | refine Below.setCell ?_ (by simp) _ | refine Below.alloc ?_ (by simp) _))⟩
        · have := HE.out (); omega
        · rw [show ((q.toNat : Nat) : Int) = q by omega]
  · subst hp
    have hq : R / 4503599627370496 = 0 := by unfold rung at hRd; omega
    have hr : R % 4503599627370496 = (n : Int) := by unfold rung at hRd; omega
    rw [hr] at hmask
    clear hRd hr hlt
    go_enter Tryz.func19, Tryz.ntmps19
    go_wp2_with (go_at_call 50; refine (HR.out _).mono ?_; rintro e w' ⟨rfl, rfl⟩)
    go_loopw [7] (fun a wl => ∃ (q : Int) (t : Nat), a = .int .u64 q ∧ 0 < q ∧ q < 9007199254740992 ∧ Hid (n = q.toNat * 2 ^ t) ∧ t ≤ 52 ∧ wl = (w.alloc (.cells #[.int .i64 0, .bool false, .int .i64 0, .int .i64 0] 32)).alloc (.cells #[.int .i64 1, .bool s, .int .i64 0, .int .i64 ((-1074 : Int) + (t : Int))] 32)) (fun a _ => (intOf a).toNat)
    case atStart => exact ⟨(n : Int), 0, rfl, by omega, by omega, by show n = ((n : Int) : Int).toNat * 2 ^ 0; omega, by omega, by simp⟩
    case round =>
      obtain ⟨q, t, rfl, q0, q1, HQ, ht, rfl⟩ := hrel
      by_cases hev : q % 2 = 0
      · have b : (q % 2 == 0) = true := beq_iff_eq.2 hev
        have HQ2 : Hid _ := half_even _ t q HQ.out q0 hev
        have q2 : 0 < q / 2 := by omega
        have ht2 := few_halves _ (t + 1) (q / 2) HQ2.out q2 (by omega)
        clear hev
        go_wp2
        refine ⟨⟨q / 2, t + 1, rfl, by omega, by omega, HQ2, ht2, ?_⟩, ?_⟩
        · rw [show (-1074 : Int) + ((t + 1 : Nat) : Int) = (-1074 : Int) + (t : Int) + 1 by omega]
        · simp only [intOf]; omega
      · have b : (q % 2 == 0) = false := beq_eq_false_iff_ne.2 hev
        have HE : Hid _ := fun (_ : Unit) => hev
        clear hev
        go_wp2
        refine bodyPost_ret (v := .agg #[.int .i64 1, .bool s, .int .i64 q, .int .i64 ((-1074 : Int) + (t : Int))]) (by simp [results, Tryz.results19, go_sem]) rfl ⟨q.toNat, t, HQ.out, ?_, ?_, (by repeat (first | exact Below.refl _ _ | refine below_drewN ?_ _ | refine Below.setCell ?_ (by simp) _ | refine Below.alloc ?_ (by simp) _))⟩
        · have := HE.out (); omega
        · rw [show ((q.toNat : Nat) : Int) = q by omega]

/-- At every float. -/
theorem specParts_any (x : Nat) (hx : x < 18446744073709551616) (w : World) :
    Calls Tryz.prog 19 #[.float .f64 x] w fun e w' => ∃ k s m q, partsV x k s m q ∧ e = .returned (.agg #[.int .i64 k, .bool s, .int .i64 m, .int .i64 q]) ∧ Below w.heap.size w w' := by
  rcases float_cases x hx with h | ⟨s, rfl⟩ | ⟨s, n, p, hc, rfl⟩
  · refine (parts_nan x h w).mono ?_
    rintro e w' ⟨rfl, hb⟩
    exact ⟨3, false, 0, 0, .inl ⟨h, rfl, rfl, rfl, rfl⟩, rfl, hb⟩
  · refine (parts_inf s w).mono ?_
    rintro e w' ⟨rfl, hb⟩
    exact ⟨2, s, 0, 0, .inr (.inl ⟨rfl, rfl, rfl, rfl⟩), rfl, hb⟩
  · by_cases h0 : n = 0
    · subst h0
      rw [fw_zero]
      refine (parts_zero s w).mono ?_
      rintro e w' ⟨rfl, hb⟩
      exact ⟨0, s, 0, 0, .inr (.inr (.inl ⟨rfl, rfl, rfl, rfl⟩)), rfl, hb⟩
    · refine (parts_number s n p hc (by omega) w).mono ?_
      rintro e w' ⟨q, t, hq, ho, rfl, hb⟩
      exact ⟨1, s, q, p + t, .inr (.inr (.inr ⟨n, p, q, t, hc, by omega, rfl, hq, ho, rfl, rfl, rfl⟩)), rfl, hb⟩
end Go.Proofs.YtpmccbkhkaoccaaGreatDoor

/- PartsOf of the specification at a number whose parts are known. -/
namespace Go.Proofs.YtpmccbkhkaoccaaGreatDoor
open Go.ChangeShapes Go.WideShapes Go.RowKit
open Ieee (double)

theorem parts_fixed (s : Bool) (n : Nat) (p : Int) (q k : Nat) (hc : Canon n p) (h0 : 0 < n) (hq : n = q * 2 ^ k) (hq1 : q % 2 = 1) (w : World) :
    Calls Tryz.prog 19 #[.float .f64 (fw s n p)] w fun e w' => e = .returned (.agg #[.int .i64 1, .bool s, .int .i64 q, .int .i64 (p + k)]) ∧ Below w.heap.size w w' := by
  refine (parts_number s n p hc h0 w).mono ?_
  rintro e w' ⟨q', t', h1, h2, rfl, hb⟩
  obtain ⟨rfl, rfl⟩ := odd_one q' t' q k (h1.symm.trans hq) h2 hq1
  exact ⟨rfl, hb⟩
theorem parts_none (w : World) :
    Calls Tryz.prog 19 #[.float .f64 0] w fun e w' => e = .returned (.agg #[.int .i64 0, .bool false, .int .i64 0, .int .i64 0]) ∧ Below w.heap.size w w' := by
  refine (parts_zero false w).mono ?_
  rintro e w' ⟨rfl, hb⟩
  exact ⟨rfl, hb⟩
end Go.Proofs.YtpmccbkhkaoccaaGreatDoor

