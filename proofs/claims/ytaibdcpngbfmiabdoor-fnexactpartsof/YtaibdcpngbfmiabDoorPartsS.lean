/- PartsOf of the specification. -/
import Derived.Test.YtaibdcpngbfmiabDoorRawC
namespace Go.Proofs.YtaibdcpngbfmiabDoor
open Go.ChangeShapes Go.WideShapes Go.RowKit
open Ieee (double)

/-- What a float is taken apart into: kind, sign, an odd number, a power of two. -/
def partsV (x : Nat) (k : Int) (s : Bool) (m e : Int) : Prop :=
  (IsNan x ∧ k = 3 ∧ s = false ∧ m = 0 ∧ e = 0) ∨ (x = iw s ∧ k = 2 ∧ m = 0 ∧ e = 0) ∨ (x = signBit s ∧ k = 0 ∧ m = 0 ∧ e = 0)
  ∨ (∃ (n : Nat) (p : Int) (q t : Nat), Canon n p ∧ 0 < n ∧ x = fw s n p ∧ n = q * 2 ^ t ∧ q % 2 = 1 ∧ k = 1 ∧ m = q ∧ e = p + t)

set_option maxHeartbeats 400000 in
theorem parts_nan (x : Nat) (h : IsNan x) (w : World) :
    Calls Tryd.prog 4 #[.float .f64 x] w fun e w' => e = .returned (.agg #[.int .i64 3, .bool false, .int .i64 0, .int .i64 0]) ∧ Below w.heap.size w w' := by
  have hn : (FloatKind.f64.format.order x x != some .eq) = true := nan_neq x h
  go_enter Tryd.func4, Tryd.ntmps4
  go_wp2
  exact bodyPost_ret (v := .agg #[.int .i64 3, .bool false, .int .i64 0, .int .i64 0]) (by simp [results, Tryd.results4, go_sem]) rfl ⟨rfl, (by repeat (first | exact Below.refl _ _ | refine below_drewN ?_ _ | refine Below.setCell ?_ (by simp) _ | refine Below.alloc ?_ (by simp) _))⟩

set_option maxHeartbeats 400000 in
theorem parts_inf (s : Bool) (w : World) :
    Calls Tryd.prog 4 #[.float .f64 (iw s)] w fun e w' => e = .returned (.agg #[.int .i64 2, .bool s, .int .i64 0, .int .i64 0]) ∧ Below w.heap.size w w' := by
  have hn : FloatKind.f64.format.order (iw s) (iw s) = some .eq := order_self_iw s
  have hm := mask52 9218868437227405312 (by omega) (by omega)
  have HR : Hid _ := raw_inf s
  go_enter Tryd.func4, Tryd.ntmps4
  go_wp2_with (go_at_call 7; refine (HR.out _).mono ?_; rintro e w' ⟨rfl, rfl⟩)
  exact bodyPost_ret (v := .agg #[.int .i64 2, .bool s, .int .i64 0, .int .i64 0]) (by simp [results, Tryd.results4, go_sem]) rfl ⟨rfl, (by repeat (first | exact Below.refl _ _ | refine below_drewN ?_ _ | refine Below.setCell ?_ (by simp) _ | refine Below.alloc ?_ (by simp) _))⟩

set_option maxHeartbeats 400000 in
theorem parts_zero (s : Bool) (w : World) :
    Calls Tryd.prog 4 #[.float .f64 (signBit s)] w fun e w' => e = .returned (.agg #[.int .i64 0, .bool s, .int .i64 0, .int .i64 0]) ∧ Below w.heap.size w w' := by
  have hn : FloatKind.f64.format.order (signBit s) (signBit s) = some .eq := by
    have := order_self_fw s 0 (-1074) canon_zero
    rw [fw_zero] at this
    exact this
  have HR : Hid _ := raw_zero s
  go_enter Tryd.func4, Tryd.ntmps4
  go_wp2_with (go_at_call 7; refine (HR.out _).mono ?_; rintro e w' ⟨rfl, rfl⟩)
  exact bodyPost_ret (v := .agg #[.int .i64 0, .bool s, .int .i64 0, .int .i64 0]) (by simp [results, Tryd.results4, go_sem]) rfl ⟨rfl, (by repeat (first | exact Below.refl _ _ | refine below_drewN ?_ _ | refine Below.setCell ?_ (by simp) _ | refine Below.alloc ?_ (by simp) _))⟩

theorem half_even (n t : Nat) (q : Int) (h : n = q.toNat * 2 ^ t) (h0 : 0 < q) (he : q % 2 = 0) : n = (q / 2).toNat * 2 ^ (t + 1) := by
  have e : q.toNat = (q / 2).toNat * 2 := by omega
  rw [h, e, Nat.pow_succ, Nat.mul_assoc, Nat.mul_comm 2]
theorem few_halves (n t : Nat) (q : Int) (h : n = q.toNat * 2 ^ t) (h0 : 0 < q) (hn : n < 9007199254740992) : t ≤ 52 := by
  have h1 : 1 * 2 ^ t ≤ q.toNat * 2 ^ t := Nat.mul_le_mul_right _ (by omega)
  have h2 : 2 ^ t < 2 ^ 53 := by
    have : (2 : Nat) ^ 53 = 9007199254740992 := rfl
    omega
  have := (Nat.pow_lt_pow_iff_right (a := 2) (by omega)).1 h2
  omega

set_option maxRecDepth 100000 in
set_option maxHeartbeats 1000000 in
theorem parts_number (s : Bool) (n : Nat) (p : Int) (hc : Canon n p) (h0 : 0 < n) (w : World) :
    Calls Tryd.prog 4 #[.float .f64 (fw s n p)] w fun e w' => ∃ q t : Nat, n = q * 2 ^ t ∧ q % 2 = 1 ∧ e = .returned (.agg #[.int .i64 1, .bool s, .int .i64 q, .int .i64 (p + t)]) ∧ Below w.heap.size w w' := by
  have hn : FloatKind.f64.format.order (fw s n p) (fw s n p) = some .eq := order_self_fw s n p hc
  have HR : Hid (∀ w, Calls Tryd.prog 7 #[.float .f64 (fw s n p)] w fun e w' => e = .returned (.tuple #[.bool s, .int .u64 (rung n p)]) ∧ w' = w) := fun w => by
    rcases hc with ⟨h1, h2, h3, h4⟩ | ⟨h1, rfl⟩
    · exact raw_normal s n p h1 h2 h3 h4 w
    · have e : rung n (-1074) = n := by unfold rung; omega
      rw [e]; exact raw_small s n h0 h1 w
  obtain ⟨R, hRd⟩ : ∃ R : Int, R = (rung n p : Int) := ⟨_, rfl⟩
  rw [← hRd] at HR
  have hlt := rung_lt n p hc
  have hR0 : (R == 0) = false := by rw [beq_eq_false_iff_ne]; unfold rung at hRd; rcases hc with h | h <;> omega
  have hmask := mask52 R (by omega) (by omega)
  rcases hc with ⟨h1, h2, h3, h4⟩ | ⟨h1, hp⟩
  · obtain ⟨M, rfl⟩ : ∃ M, n = 4503599627370496 + M := ⟨n - 4503599627370496, by omega⟩
    have hM : M < 4503599627370496 := by omega
    have hq : R / 4503599627370496 = p + 1075 := by unfold rung at hRd; omega
    have hr : R % 4503599627370496 = (M : Int) := by unfold rung at hRd; omega
    rw [hr] at hmask
    have e47 : (p + 1075 == 2047) = false := by rw [beq_eq_false_iff_ne]; omega
    have ho := or_one M hM
    have hp1 : 0 < p + 1075 := by omega
    have hp2 : p + 1075 ≤ 2046 := by omega
    clear hRd hr hlt h0
    go_enter Tryd.func4, Tryd.ntmps4
    go_wp2_with (go_at_call 7; refine (HR.out _).mono ?_; rintro e w' ⟨rfl, rfl⟩)
    go_loopw [7] (fun a wl => ∃ (q : Int) (t : Nat), a = .int .u64 q ∧ 0 < q ∧ q < 9007199254740992 ∧ Hid (4503599627370496 + M = q.toNat * 2 ^ t) ∧ t ≤ 52 ∧ wl = (w.alloc (.cells #[.int .i64 0, .bool false, .int .i64 0, .int .i64 0] 24)).alloc (.cells #[.int .i64 1, .bool s, .int .i64 0, .int .i64 (p + (t : Int))] 24)) (fun a _ => (intOf a).toNat)
    case atStart => exact ⟨(4503599627370496 + (M : Int)), 0, rfl, by omega, by omega, by show 4503599627370496 + M = ((4503599627370496 + (M : Int)) : Int).toNat * 2 ^ 0; omega, by omega, by simp⟩
    case round =>
      obtain ⟨q, t, rfl, q0, q1, HQ, ht, rfl⟩ := hrel
      by_cases hev : q % 2 = 0
      · have b : (q % 2 == 0) = true := beq_iff_eq.2 hev
        have HQ2 : Hid _ := half_even _ t q HQ.out q0 hev
        have q2 : 0 < q / 2 := by omega
        have ht2 := few_halves _ (t + 1) (q / 2) HQ2.out q2 (by omega)
        clear hev
        go_wp2
        refine ⟨⟨q / 2, t + 1, rfl, by omega, by omega, HQ2, ht2, ?_⟩, ?_⟩
        · rw [show p + ((t + 1 : Nat) : Int) = p + (t : Int) + 1 by omega]
        · simp only [intOf]; omega
      · have b : (q % 2 == 0) = false := beq_eq_false_iff_ne.2 hev
        have HE : Hid _ := fun (_ : Unit) => hev
        clear hev
        go_wp2
        refine bodyPost_ret (v := .agg #[.int .i64 1, .bool s, .int .i64 q, .int .i64 (p + (t : Int))]) (by simp [results, Tryd.results4, go_sem]) rfl ⟨q.toNat, t, HQ.out, ?_, ?_, (by repeat (first | exact Below.refl _ _ | refine below_drewN ?_ _ | refine Below.setCell ?_ (by simp) _ | refine Below.alloc ?_ (by simp) _))⟩
        · have := HE.out (); omega
        · rw [show ((q.toNat : Nat) : Int) = q by omega]
  · subst hp
    have hq : R / 4503599627370496 = 0 := by unfold rung at hRd; omega
    have hr : R % 4503599627370496 = (n : Int) := by unfold rung at hRd; omega
    rw [hr] at hmask
    clear hRd hr hlt
    go_enter Tryd.func4, Tryd.ntmps4
    go_wp2_with (go_at_call 7; refine (HR.out _).mono ?_; rintro e w' ⟨rfl, rfl⟩)
    go_loopw [7] (fun a wl => ∃ (q : Int) (t : Nat), a = .int .u64 q ∧ 0 < q ∧ q < 9007199254740992 ∧ Hid (n = q.toNat * 2 ^ t) ∧ t ≤ 52 ∧ wl = (w.alloc (.cells #[.int .i64 0, .bool false, .int .i64 0, .int .i64 0] 24)).alloc (.cells #[.int .i64 1, .bool s, .int .i64 0, .int .i64 ((-1074 : Int) + (t : Int))] 24)) (fun a _ => (intOf a).toNat)
    case atStart => exact ⟨(n : Int), 0, rfl, by omega, by omega, by show n = ((n : Int) : Int).toNat * 2 ^ 0; omega, by omega, by simp⟩
    case round =>
      obtain ⟨q, t, rfl, q0, q1, HQ, ht, rfl⟩ := hrel
      by_cases hev : q % 2 = 0
      · have b : (q % 2 == 0) = true := beq_iff_eq.2 hev
        have HQ2 : Hid _ := half_even _ t q HQ.out q0 hev
        have q2 : 0 < q / 2 := by omega
        have ht2 := few_halves _ (t + 1) (q / 2) HQ2.out q2 (by omega)
        clear hev
        go_wp2
        refine ⟨⟨q / 2, t + 1, rfl, by omega, by omega, HQ2, ht2, ?_⟩, ?_⟩
        · rw [show (-1074 : Int) + ((t + 1 : Nat) : Int) = (-1074 : Int) + (t : Int) + 1 by omega]
        · simp only [intOf]; omega
      · have b : (q % 2 == 0) = false := beq_eq_false_iff_ne.2 hev
        have HE : Hid _ := fun (_ : Unit) => hev
        clear hev
        go_wp2
        refine bodyPost_ret (v := .agg #[.int .i64 1, .bool s, .int .i64 q, .int .i64 ((-1074 : Int) + (t : Int))]) (by simp [results, Tryd.results4, go_sem]) rfl ⟨q.toNat, t, HQ.out, ?_, ?_, (by repeat (first | exact Below.refl _ _ | refine below_drewN ?_ _ | refine Below.setCell ?_ (by simp) _ | refine Below.alloc ?_ (by simp) _))⟩
        · have := HE.out (); omega
        · rw [show ((q.toNat : Nat) : Int) = q by omega]

/-- At every float. -/
theorem specParts_any (x : Nat) (hx : x < 18446744073709551616) (w : World) :
    Calls Tryd.prog 4 #[.float .f64 x] w fun e w' => ∃ k s m q, partsV x k s m q ∧ e = .returned (.agg #[.int .i64 k, .bool s, .int .i64 m, .int .i64 q]) ∧ Below w.heap.size w w' := by
  rcases float_cases x hx with h | ⟨s, rfl⟩ | ⟨s, n, p, hc, rfl⟩
  · refine (parts_nan x h w).mono ?_
    rintro e w' ⟨rfl, hb⟩
    exact ⟨3, false, 0, 0, .inl ⟨h, rfl, rfl, rfl, rfl⟩, rfl, hb⟩
  · refine (parts_inf s w).mono ?_
    rintro e w' ⟨rfl, hb⟩
    exact ⟨2, s, 0, 0, .inr (.inl ⟨rfl, rfl, rfl, rfl⟩), rfl, hb⟩
  · by_cases h0 : n = 0
    · subst h0
      rw [fw_zero]
      refine (parts_zero s w).mono ?_
      rintro e w' ⟨rfl, hb⟩
      exact ⟨0, s, 0, 0, .inr (.inr (.inl ⟨rfl, rfl, rfl, rfl⟩)), rfl, hb⟩
    · refine (parts_number s n p hc (by omega) w).mono ?_
      rintro e w' ⟨q, t, hq, ho, rfl, hb⟩
      exact ⟨1, s, q, p + t, .inr (.inr (.inr ⟨n, p, q, t, hc, by omega, rfl, hq, ho, rfl, rfl, rfl⟩)), rfl, hb⟩
end Go.Proofs.YtaibdcpngbfmiabDoor
