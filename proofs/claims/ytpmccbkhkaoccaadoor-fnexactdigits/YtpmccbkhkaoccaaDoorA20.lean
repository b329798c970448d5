import Derived.Test.YtpmccbkhkaoccaaDoorA19
import Derived.Test.YtpmccbkhkaoccaaDoorA07
import Derived.Test.YtpmccbkhkaoccaaDoorA10
import Derived.Test.YtpmccbkhkaoccaaDoorA12
import Derived.Test.YtpmccbkhkaoccaaDoorA18
/- PartsOf of the specification. -/
namespace Go.Proofs.YtpmccbkhkaoccaaDoor
open Go.ChangeShapes Go.WideShapes Go.RowKit
open Ieee (double)

set_option maxHeartbeats 400000 in
theorem parts_nan (x : Nat) (h : IsNan x) (w : World) :
    Calls Tryd.prog 28 #[.float .f64 x] w fun e w' => e = .returned (.agg #[.int .i64 3, .bool false, .int .i64 0, .int .i64 0]) ∧ Below w.heap.size w w' := by
  have hn : (FloatKind.f64.format.order x x != some .eq) = true := nan_neq x h
  go_enter Tryd.func28, Tryd.ntmps28
  go_wp2
  exact bodyPost_ret (v := .agg #[.int .i64 3, .bool false, .int .i64 0, .int .i64 0]) (by simp [results, Tryd.results28, go_sem]) rfl ⟨rfl, (by repeat (first | exact Below.refl _ _ | refine below_drewN ?_ _ | refine Below.setCell ?_ (by simp) _ | refine Below.alloc ?_ (by simp) _))⟩

set_option maxHeartbeats 400000 in
theorem parts_inf (s : Bool) (w : World) :
    Calls Tryd.prog 28 #[.float .f64 (iw s)] w fun e w' => e = .returned (.agg #[.int .i64 2, .bool s, .int .i64 0, .int .i64 0]) ∧ Below w.heap.size w w' := by
  have hn : FloatKind.f64.format.order (iw s) (iw s) = some .eq := order_self_iw s
  have hm := mask52 9218868437227405312 (by omega) (by omega)
  have HR : Hid _ := raw_inf s
  go_enter Tryd.func28, Tryd.ntmps28
  go_wp2_with (go_at_call 47; refine (HR.out _).mono ?_; rintro e w' ⟨rfl, rfl⟩)
  exact bodyPost_ret (v := .agg #[.int .i64 2, .bool s, .int .i64 0, .int .i64 0]) (by simp [results, Tryd.results28, go_sem]) rfl ⟨rfl, (by repeat (first | exact Below.refl _ _ | refine below_drewN ?_ _ | refine Below.setCell ?_ (by simp) _ | refine Below.alloc ?_ (by simp) _))⟩

set_option maxHeartbeats 400000 in
theorem parts_zero (s : Bool) (w : World) :
    Calls Tryd.prog 28 #[.float .f64 (signBit s)] w fun e w' => e = .returned (.agg #[.int .i64 0, .bool s, .int .i64 0, .int .i64 0]) ∧ Below w.heap.size w w' := by
  have hn : FloatKind.f64.format.order (signBit s) (signBit s) = some .eq := by
    have := order_self_fw s 0 (-1074) canon_zero
    rw [fw_zero] at this
    exact this
  have HR : Hid _ := raw_zero s
  go_enter Tryd.func28, Tryd.ntmps28
  go_wp2_with (go_at_call 47; refine (HR.out _).mono ?_; rintro e w' ⟨rfl, rfl⟩)
  exact bodyPost_ret (v := .agg #[.int .i64 0, .bool s, .int .i64 0, .int .i64 0]) (by simp [results, Tryd.results28, go_sem]) rfl ⟨rfl, (by repeat (first | exact Below.refl _ _ | refine below_drewN ?_ _ | refine Below.setCell ?_ (by simp) _ | refine Below.alloc ?_ (by simp) _))⟩

set_option maxRecDepth 100000 in
set_option maxHeartbeats 1000000 in
theorem parts_number (s : Bool) (n : Nat) (p : Int) (hc : Canon n p) (h0 : 0 < n) (w : World) :
    Calls Tryd.prog 28 #[.float .f64 (fw s n p)] w fun e w' => ∃ q t : Nat, n = q * 2 ^ t ∧ q % 2 = 1 ∧ e = .returned (.agg #[.int .i64 1, .bool s, .int .i64 q, .int .i64 (p + t)]) ∧ Below w.heap.size w w' := by
  have hn : FloatKind.f64.format.order (fw s n p) (fw s n p) = some .eq := order_self_fw s n p hc
  have HR : Hid (∀ w, Calls Tryd.prog 47 #[.float .f64 (fw s n p)] w fun e w' => e = .returned (.tuple #[.bool s, .int .u64 (rung n p)]) ∧ w' = w) := fun w => by
    rcases hc with ⟨h1, h2, h3, h4⟩ | ⟨h1, rfl⟩
    · exact raw_normal s n p h1 h2 h3 h4 w
    · have e : rung n (-1074) = n := by unfold rung; omega
      rw [e]; exact raw_small s n h0 h1 w
  obtain ⟨R, hRd⟩ : ∃ R : Int, R = (rung n p : Int) := ⟨_, rfl⟩
  rw [← hRd] at HR
  have hlt := rung_lt n p hc
  have hR0 : (R == 0) = false := by rw [beq_eq_false_iff_ne]; unfold rung at hRd; rcases hc with h | h <;> omega
  have hmask := mask52 R (by omega) (by omega)
  rcases hc with ⟨h1, h2, h3, h4⟩ | ⟨h1, hp⟩
  · obtain ⟨M, rfl⟩ : ∃ M, n = 4503599627370496 + M := ⟨n - 4503599627370496, by omega⟩
    have hM : M < 4503599627370496 := by omega
    have hq : R / 4503599627370496 = p + 1075 := by unfold rung at hRd; omega
    have hr : R % 4503599627370496 = (M : Int) := by unfold rung at hRd; omega
    rw [hr] at hmask
    have e47 : (p + 1075 == 2047) = false := by rw [beq_eq_false_iff_ne]; omega
    have ho := or_one M hM
    have hp1 : 0 < p + 1075 := by omega
    have hp2 : p + 1075 ≤ 2046 := by omega
    clear hRd hr hlt h0
    go_enter Tryd.func28, Tryd.ntmps28
    go_wp2_with (go_at_call 47; refine (HR.out _).mono ?_; rintro e w' ⟨rfl, rfl⟩)
    go_loopw [7] (fun a wl => ∃ (q : Int) (t : Nat), a = .int .u64 q ∧ 0 < q ∧ q < 9007199254740992 ∧ Hid (4503599627370496 + M = q.toNat * 2 ^ t) ∧ t ≤ 52 ∧ wl = (w.alloc (.cells #[.int .i64 0, .bool false, .int .i64 0, .int .i64 0] 36)).alloc (.cells #[.int .i64 1, .bool s, .int .i64 0, .int .i64 (p + (t : Int))] 36)) (fun a _ => (intOf a).toNat)
    case atStart => exact ⟨(4503599627370496 + (M : Int)), 0, rfl, by omega, by omega, by show 4503599627370496 + M = ((4503599627370496 + (M : Int)) : Int).toNat * 2 ^ 0; omega, by omega, by simp⟩
    case round =>
      obtain ⟨q, t, rfl, q0, q1, HQ, ht, rfl⟩ := hrel
      by_cases hev : q % 2 = 0
      · have b : (q % 2 == 0) = true := beq_iff_eq.2 hev
        have HQ2 : Hid _ := half_even _ t q HQ.out q0 hev
        have q2 : 0 < q / 2 := by omega
        have ht2 := few_halves _ (t + 1) (q / 2) HQ2.out q2 (by omega)
        clear hev
        go_wp2
        refine ⟨⟨q / 2, t + 1, rfl, by omega, by omega, HQ2, ht2, ?_⟩, ?_⟩
        · rw [show p + ((t + 1 : Nat) : Int) = p + (t : Int) + 1 by omega]
        · simp only [intOf]; omega
      · have b : (q % 2 == 0) = false := beq_eq_false_iff_ne.2 hev
        have HE : Hid _ := fun (_ : Unit) => hev
        clear hev
        go_wp2
        refine bodyPost_ret (v := .agg #[.int .i64 1, .bool s, .int .i64 q, .int .i64 (p + (t : Int))]) (by simp [results, Tryd.results28, go_sem]) rfl ⟨q.toNat, t, HQ.out, ?_, ?_, (by repeat (first | exact Below.refl _ _ | refine below_drewN ?_ _ | refine Below.setCell ?_ (by simp) _ | refine Below.alloc ?_ (by simp) _))⟩
        · have := HE.out (); omega
        · rw [show ((q.toNat : Nat) : Int) = q by omega]
  · subst hp
    have hq : R / 4503599627370496 = 0 := by unfold rung at hRd; omega
    have hr : R % 4503599627370496 = (n : Int) := by unfold rung at hRd; omega
    rw [hr] at hmask
    clear hRd hr hlt
    go_enter Tryd.func28, Tryd.ntmps28
    go_wp2_with (go_at_call 47; refine (HR.out _).mono ?_; rintro e w' ⟨rfl, rfl⟩)
    go_loopw [7] (fun a wl => ∃ (q : Int) (t : Nat), a = .int .u64 q ∧ 0 < q ∧ q < 9007199254740992 ∧ Hid (n = q.toNat * 2 ^ t) ∧ t ≤ 52 ∧ wl = (w.alloc (.cells #[.int .i64 0, .bool false, .int .i64 0, .int .i64 0] 36)).alloc (.cells #[.int .i64 1, .bool s, .int .i64 0, .int .i64 ((-1074 : Int) + (t : Int))] 36)) (fun a _ => (intOf a).toNat)
    case atStart => exact ⟨(n : Int), 0, rfl, by omega, by omega, by show n = ((n : Int) : Int).toNat * 2 ^ 0; omega, by omega, by simp⟩
    case round =>
      obtain ⟨q, t, rfl, q0, q1, HQ, ht, rfl⟩ := hrel
      by_cases hev : q % 2 = 0
      · have b : (q % 2 == 0) = true := beq_iff_eq.2 hev
        have HQ2 : Hid _ := half_even _ t q HQ.out q0 hev
        have q2 : 0 < q / 2 := by omega
        have ht2 := few_halves _ (t + 1) (q / 2) HQ2.out q2 (by omega)
        clear hev
        go_wp2
        refine ⟨⟨q / 2, t + 1, rfl, by omega, by omega, HQ2, ht2, ?_⟩, ?_⟩
        · rw [show (-1074 : Int) + ((t + 1 : Nat) : Int) = (-1074 : Int) + (t : Int) + 1 by omega]
        · simp only [intOf]; omega
      · have b : (q % 2 == 0) = false := beq_eq_false_iff_ne.2 hev
        have HE : Hid _ := fun (_ : Unit) => hev
        clear hev
        go_wp2
        refine bodyPost_ret (v := .agg #[.int .i64 1, .bool s, .int .i64 q, .int .i64 ((-1074 : Int) + (t : Int))]) (by simp [results, Tryd.results28, go_sem]) rfl ⟨q.toNat, t, HQ.out, ?_, ?_, (by repeat (first | exact Below.refl _ _ | refine below_drewN ?_ _ | refine Below.setCell ?_ (by simp) _ | refine Below.alloc ?_ (by simp) _))⟩
        · have := HE.out (); omega
        · rw [show ((q.toNat : Nat) : Int) = q by omega]

/-- At every float. -/
theorem specParts_any (x : Nat) (hx : x < 18446744073709551616) (w : World) :
    Calls Tryd.prog 28 #[.float .f64 x] w fun e w' => ∃ k s m q, partsV x k s m q ∧ e = .returned (.agg #[.int .i64 k, .bool s, .int .i64 m, .int .i64 q]) ∧ Below w.heap.size w w' := by
  rcases float_cases x hx with h | ⟨s, rfl⟩ | ⟨s, n, p, hc, rfl⟩
  · refine (parts_nan x h w).mono ?_
    rintro e w' ⟨rfl, hb⟩
    exact ⟨3, false, 0, 0, .inl ⟨h, rfl, rfl, rfl, rfl⟩, rfl, hb⟩
  · refine (parts_inf s w).mono ?_
    rintro e w' ⟨rfl, hb⟩
    exact ⟨2, s, 0, 0, .inr (.inl ⟨rfl, rfl, rfl, rfl⟩), rfl, hb⟩
  · by_cases h0 : n = 0
    · subst h0
      rw [fw_zero]
      refine (parts_zero s w).mono ?_
      rintro e w' ⟨rfl, hb⟩
      exact ⟨0, s, 0, 0, .inr (.inr (.inl ⟨rfl, rfl, rfl, rfl⟩)), rfl, hb⟩
    · refine (parts_number s n p hc (by omega) w).mono ?_
      rintro e w' ⟨q, t, hq, ho, rfl, hb⟩
      exact ⟨1, s, q, p + t, .inr (.inr (.inr ⟨n, p, q, t, hc, by omega, rfl, hq, ho, rfl, rfl, rfl⟩)), rfl, hb⟩
end Go.Proofs.YtpmccbkhkaoccaaDoor

/- PartsOf of the specification at a number whose parts are known. -/
namespace Go.Proofs.YtpmccbkhkaoccaaDoor
open Go.ChangeShapes Go.WideShapes Go.RowKit
open Ieee (double)

theorem parts_fixed (s : Bool) (n : Nat) (p : Int) (q k : Nat) (hc : Canon n p) (h0 : 0 < n) (hq : n = q * 2 ^ k) (hq1 : q % 2 = 1) (w : World) :
    Calls Tryd.prog 28 #[.float .f64 (fw s n p)] w fun e w' => e = .returned (.agg #[.int .i64 1, .bool s, .int .i64 q, .int .i64 (p + k)]) ∧ Below w.heap.size w w' := by
  refine (parts_number s n p hc h0 w).mono ?_
  rintro e w' ⟨q', t', h1, h2, rfl, hb⟩
  obtain ⟨rfl, rfl⟩ := odd_one q' t' q k (h1.symm.trans hq) h2 hq1
  exact ⟨rfl, hb⟩
theorem parts_none (w : World) :
    Calls Tryd.prog 28 #[.float .f64 0] w fun e w' => e = .returned (.agg #[.int .i64 0, .bool false, .int .i64 0, .int .i64 0]) ∧ Below w.heap.size w w' := by
  refine (parts_zero false w).mono ?_
  rintro e w' ⟨rfl, hb⟩
  exact ⟨rfl, hb⟩
end Go.Proofs.YtpmccbkhkaoccaaDoor

/- l5exact of the specification, at whatever number. -/
namespace Go.Proofs.YtpmccbkhkaoccaaDoor
open Go.ChangeShapes Go.WideShapes Go.RowKit
open Ieee (double)

/-- All digits of a number above 0. -/
theorem l5exact_any (n : Nat) (p : Int) (hc : Canon n p) (h0 : 0 < n) : ∃ q k : Nat, n = q * 2 ^ k ∧ q % 2 = 1 ∧ ∀ w, Calls Tryd.prog 18 #[.float .f64 (fw false n p)] w fun e w' =>
    ∃ ds pow, ExD ds pow q (p + k) ∧ ds.size ≤ 1100 ∧ -1100 ≤ pow ∧ pow ≤ 1100 ∧ e = .returned (.agg #[.string ds, .int .i64 pow]) ∧ Below w.heap.size w w' := by
  obtain ⟨q, k, hq, hq1⟩ := odd_some n h0
  refine ⟨q, k, hq, hq1, fun w => ?_⟩
  have hn : n < 9007199254740992 := by rcases hc with h | h <;> omega
  have hp1 : -1074 ≤ p := by rcases hc with h | h <;> omega
  have hp2 : p ≤ 971 := by rcases hc with h | h <;> omega
  have hqn : q ≤ n := by rw [hq]; exact Nat.le_mul_of_pos_right q (Nat.two_pow_pos k)
  have hk : k ≤ 52 := by
    have h1 : 2 ^ k ≤ n := by rw [hq]; exact Nat.le_mul_of_pos_left _ (by omega)
    have h2 : 2 ^ k < 2 ^ 53 := Nat.lt_of_le_of_lt h1 hn
    have := (Nat.pow_lt_pow_iff_right (a := 2) (by omega)).1 h2
    omega
  have hP := fun w => parts_fixed false n p q k hc h0 hq hq1 w
  by_cases hE : 0 ≤ p + (k : Int)
  · obtain ⟨E, hE'⟩ := Int.eq_ofNat_of_zero_le hE
    rw [hE'] at hP ⊢
    exact l5exact_up _ q E hP (by omega) (by omega) (by omega) w
  · obtain ⟨s, hs⟩ : ∃ s : Nat, p + (k : Int) = -(s : Int) := ⟨(-(p + (k : Int))).toNat, by omega⟩
    rw [hs] at hP ⊢
    exact l5exact_down _ q s hP (by omega) (by omega) (by omega) (by omega) w
end Go.Proofs.YtpmccbkhkaoccaaDoor

