import Derived.Test.YtoedefjngipeiaaGreatDoorA28
import Derived.Test.YtoedefjngipeiaaGreatDoorA20
import Derived.Test.YtoedefjngipeiaaGreatDoorA06
/- A float's bits as the program lays them: word. -/
namespace Go.Proofs.YtoedefjngipeiaaGreatDoor
open Go.ChangeShapes Go.WideShapes Go.RowKit
open Ieee (double)

set_option maxHeartbeats 400000 in
theorem word_any (s : Bool) (E M : Nat) (hE : E < 2048) (hM : M < 4503599627370496) (w : World) :
    Calls Tryz.prog 23 #[.agg #[.bool s, .int .u64 E, .int .u64 M]] w fun e w' => e = .returned (.int .u64 ((signBit s + (E * 4503599627370496 + M) : Nat) : Int)) ∧ w' = w.alloc (.cells #[.bool s, .int .u64 E, .int .u64 M] 45) := by
  have h1 := or_low E M hM (by omega)
  have HT : Hid _ := or_top (E * 4503599627370496 + M) (by omega)
  have e0 : ((E * 4503599627370496 + M : Nat) : Int) = (E : Int) * 4503599627370496 + (M : Int) := by omega
  rw [e0] at h1 HT
  cases s
  · have HE : Hid (Ending.returned (.int .u64 ((E : Int) * 4503599627370496 + (M : Int))) = .returned (.int .u64 ((signBit false + (E * 4503599627370496 + M) : Nat) : Int))) := by
      show Ending.returned _ = Ending.returned (.int .u64 ((0 + (E * 4503599627370496 + M) : Nat) : Int))
      rw [Nat.zero_add, e0]
    clear e0 HT
    go_enter Tryz.func23, Tryz.ntmps23
    go_wp2
    go_ret
    exact ⟨HE.out, rfl⟩
  · have h2 := HT.out
    clear e0 HT
    go_enter Tryz.func23, Tryz.ntmps23
    go_wp2
    go_ret
    exact ⟨congrArg (fun t => Ending.returned (.int .u64 t)) (show 9223372036854775808 + ((E : Int) * 4503599627370496 + (M : Int)) = ((9223372036854775808 + (E * 4503599627370496 + M) : Nat) : Int) by omega), rfl⟩

end Go.Proofs.YtoedefjngipeiaaGreatDoor

/- A float's bits as the program lays them: float. -/
namespace Go.Proofs.YtoedefjngipeiaaGreatDoor
open Go.ChangeShapes Go.WideShapes Go.RowKit
open Ieee (double)

theorem call_frombits (x : Int) (w : World) : (callFunc 22 #[.int .u64 x]).run Tryz.prog w = .ok (.value (.float .f64 x.toNat)) w := by kernel_rfl
set_option maxHeartbeats 400000 in
theorem float_any (s : Bool) (E M : Nat) (hE : E < 2048) (hM : M < 4503599627370496) (w : World) :
    Calls Tryz.prog 21 #[.agg #[.bool s, .int .u64 E, .int .u64 M]] w fun e w' => e = .returned (.float .f64 (signBit s + (E * 4503599627370496 + M))) ∧ w' = (w.alloc (.cells #[.bool s, .int .u64 E, .int .u64 M] 45)).alloc (.cells #[.bool s, .int .u64 E, .int .u64 M] 45) := by
  have HW : Hid _ := fun w => word_any s E M hE hM w
  have hc := call_frombits ((signBit s + (E * 4503599627370496 + M) : Nat) : Int)
  rw [Int.toNat_natCast] at hc
  generalize signBit s + (E * 4503599627370496 + M) = R at *
  clear hE hM
  go_enter Tryz.func21, Tryz.ntmps21
  go_wp2_with (go_at_call 23; refine (HW.out _).mono ?_; rintro e w' ⟨rfl, rfl⟩)
  go_ret
  exact ⟨rfl, rfl⟩
end Go.Proofs.YtoedefjngipeiaaGreatDoor

/- Up of the specification. -/
namespace Go.Proofs.YtoedefjngipeiaaGreatDoor
open Go.ChangeShapes Go.WideShapes Go.RowKit
open Ieee (double)

/-- The next word above. -/
def upV (x b : Nat) : Prop := b < 18446744073709551616 ∧ ((IsNan x ∧ b = x) ∨ (x = iw false ∧ b = x) ∨ (∃ s, x = signBit s ∧ b = 1) ∨ (∃ m p, Canon m p ∧ 0 < m ∧ x = fw false m p ∧ b = x + 1) ∨ (∃ m p, Canon m p ∧ 0 < m ∧ x = fw true m p ∧ b = x - 1) ∨ (x = iw true ∧ b = x - 1))

theorem up_bits (x : Nat) (hx : x < 18446744073709551615) : u64n (wrap64 (wrap64 (x : Int) + 1)) = x + 1 := by
  unfold u64n wrap64; rw [IntKind.wrap_u64]; omega
theorem down_bits (x : Nat) (h0 : 0 < x) (hx : x < 18446744073709551616) : u64n (wrap64 (wrap64 (x : Int) - 1)) = x - 1 := by
  unfold u64n wrap64; rw [IntKind.wrap_u64]; omega
theorem from_is (U b : Nat) (h : fromV U b) (hn : ¬ IsNan U) : b = U := by
  rcases h.2 with ⟨a, _⟩ | ⟨_, e⟩
  · exact absurd a hn
  · exact e
theorem bits_is (x : Nat) (v : Int) (h : bitsV x v) (hn : ¬ IsNan x) : v = wrap64 x := by
  rcases h with ⟨a, _⟩ | ⟨_, e⟩
  · exact absurd a hn
  · exact e
theorem one_plain : u64n 1 = 1 ∧ ¬ IsNan 1 := ⟨by unfold u64n; rw [IntKind.wrap_u64]; rfl, by have := not_nan false 1 (by omega); exact this⟩

set_option maxHeartbeats 400000 in
theorem specUp_stay (x : Nat) (h : (IsNan x) ∨ x = iw false) (w : World) :
    Calls Tryz.prog 8 #[.float .f64 x] w fun e w' => e = .returned (.float .f64 x) ∧ w' = w := by
  rcases h with h | rfl
  · have hn : (FloatKind.f64.format.order x x != some .eq) = true := nan_neq x h
    go_enter Tryz.func8, Tryz.ntmps8
    go_wp2
    go_ret
    exact ⟨rfl, rfl⟩
  · have hn : FloatKind.f64.format.order (iw false) (iw false) = some .eq := order_self_iw false
    have hm : FloatKind.f64.format.order (iw false) 9218868437227405311 = some .gt := ord_inf_most
    go_enter Tryz.func8, Tryz.ntmps8
    go_wp2
    go_ret
    exact ⟨rfl, rfl⟩
theorem ord_zero_most (s : Bool) : (double.order (signBit s) 9218868437227405311 == some .gt) = false := by
  have e := order_rep s false 0 9007199254740991 (-1074) 971 rep_zero rep_most
  rw [fw_zero, ← bits_most, sval_zero] at e
  rw [e, cmp_lt _ _ (sval_pos _ _ (by omega))]; rfl
theorem ord_minus_most (m : Nat) (p : Int) (h : Canon m p) : (double.order (fw true m p) 9218868437227405311 == some .gt) = false := by
  rw [bits_most, order_rep true false m _ p 971 (canon_rep m p h) rep_most, sval_neg]
  have h1 := sval_pos 9007199254740991 971 (by omega)
  have h2 : 0 ≤ sval false m p := by
    by_cases h0 : m = 0
    · subst h0; rw [sval_zero]; omega
    · have := sval_pos m p (by omega); omega
  rw [cmp_lt _ _ (by omega)]; rfl
theorem ord_minf_most : (double.order (iw true) 9218868437227405311 == some .gt) = false := by
  rw [bits_most, order_iw_fw true false _ _ (.inl ⟨by omega, by omega, by omega, by omega⟩)]; rfl

set_option maxHeartbeats 400000 in
theorem specUp_zero (s : Bool) (w : World) :
    Calls Tryz.prog 8 #[.float .f64 (signBit s)] w fun e w' => e = .returned (.float .f64 1) ∧ ∃ k, w' = w.drewN k := by
  have hn : FloatKind.f64.format.order (signBit s) (signBit s) = some .eq := by
    have := order_self_fw s 0 (-1074) canon_zero
    rw [fw_zero] at this
    exact this
  have hm : (FloatKind.f64.format.order (signBit s) 9218868437227405311 == some .gt) = false := ord_zero_most s
  have hz : FloatKind.f64.format.order (signBit s) 0 = some .eq := ord_zeros s
  go_enter Tryz.func8, Tryz.ntmps8
  go_wp2_with (go_at_call 24; refine (specFrom_any 1 _).mono ?_; rintro e w' ⟨b, hb, rfl, kk, rfl⟩)
  have e1 := from_is _ b (by have := hb; rw [one_plain.1] at this; exact this) one_plain.2
  go_ret
  exact ⟨by rw [← e1]; rfl, kk, rfl⟩
set_option maxHeartbeats 400000 in
theorem specUp_plus (x : Nat) (hx : x < 18446744073709551615) (hnn : ¬ IsNan x) (hn1 : ¬ IsNan (x + 1)) (hn : FloatKind.f64.format.order x x = some .eq) (hm : (FloatKind.f64.format.order x 9218868437227405311 == some .gt) = false) (hz : FloatKind.f64.format.order x 0 = some .gt) (w : World) :
    Calls Tryz.prog 8 #[.float .f64 x] w fun e w' => e = .returned (.float .f64 (x + 1)) ∧ ∃ k, w' = w.drewN k := by
  have HB : Hid _ := fun w => specBitsOf_any x (by omega) w
  have HN : Hid _ := fun v (h : bitsV x v) => bits_is x v h hnn
  have HF : Hid _ := fun b (h : fromV (u64n (wrap64 (wrap64 (x : Int) + 1))) b) => from_is (x + 1) b (by rw [up_bits x hx] at h; exact h) hn1
  clear hnn hn1
  go_enter Tryz.func8, Tryz.ntmps8
  go_wp2_with (go_at_call 25; refine (HB.out _).mono ?_; rintro e w' ⟨v, hv, rfl, rfl⟩; have ev := HN.out v hv; subst ev; clear hv)
  refine (specFrom_any _ _).mono ?_
  rintro e w' ⟨b, hb, rfl, kk, rfl⟩
  have eb := HF.out b hb
  subst eb
  clear hb
  go_wp2
  go_ret
  exact ⟨rfl, kk, rfl⟩
set_option maxHeartbeats 400000 in
theorem specUp_minus (x : Nat) (h0 : 0 < x) (hx : x < 18446744073709551616) (hnn : ¬ IsNan x) (hn1 : ¬ IsNan (x - 1)) (hn : FloatKind.f64.format.order x x = some .eq) (hm : (FloatKind.f64.format.order x 9218868437227405311 == some .gt) = false) (hz : FloatKind.f64.format.order x 0 = some .lt) (w : World) :
    Calls Tryz.prog 8 #[.float .f64 x] w fun e w' => e = .returned (.float .f64 (x - 1)) ∧ ∃ k, w' = w.drewN k := by
  have HB : Hid _ := fun w => specBitsOf_any x hx w
  have HN : Hid _ := fun v (h : bitsV x v) => bits_is x v h hnn
  have HF : Hid _ := fun b (h : fromV (u64n (wrap64 (wrap64 (x : Int) - 1))) b) => from_is (x - 1) b (by rw [down_bits x h0 hx] at h; exact h) hn1
  clear hnn hn1
  go_enter Tryz.func8, Tryz.ntmps8
  go_wp2_with (go_at_call 25; refine (HB.out _).mono ?_; rintro e w' ⟨v, hv, rfl, rfl⟩; have ev := HN.out v hv; subst ev; clear hv)
  refine (specFrom_any _ _).mono ?_
  rintro e w' ⟨b, hb, rfl, kk, rfl⟩
  have eb := HF.out b hb
  subst eb
  clear hb
  go_wp2
  go_ret
  exact ⟨rfl, kk, rfl⟩
/-- At every float. -/
theorem specUp_any (x : Nat) (hx : x < 18446744073709551616) (w : World) :
    Calls Tryz.prog 8 #[.float .f64 x] w fun e w' => ∃ b, upV x b ∧ e = .returned (.float .f64 b) ∧ ∃ k, w' = w.drewN k := by
  rcases float_cases x hx with h | ⟨s, rfl⟩ | ⟨s, n, p, hc, rfl⟩
  · refine (specUp_stay x (.inl h) w).mono ?_
    rintro e w' ⟨rfl, rfl⟩
    exact ⟨x, ⟨hx, .inl ⟨h, rfl⟩⟩, rfl, 0, rfl⟩
  · cases s
    · refine (specUp_stay _ (.inr rfl) w).mono ?_
      rintro e w' ⟨rfl, rfl⟩
      exact ⟨_, ⟨hx, .inr (.inl ⟨rfl, rfl⟩)⟩, rfl, 0, rfl⟩
    · refine (specUp_minus (iw true) (by decide) hx (not_nan true _ (by omega)) (not_nan true 9218868437227405311 (by omega)) (order_self_iw true) ord_minf_most (ord_inf_zero true) w).mono ?_
      rintro e w' ⟨rfl, k, rfl⟩
      exact ⟨_, ⟨by omega, .inr (.inr (.inr (.inr (.inr ⟨rfl, rfl⟩))))⟩, rfl, k, rfl⟩
  · have hr := rung_lt n p hc
    by_cases h0 : n = 0
    · subst h0
      rw [fw_zero]
      refine (specUp_zero s w).mono ?_
      rintro e w' ⟨rfl, k, rfl⟩
      exact ⟨1, ⟨by omega, .inr (.inr (.inl ⟨s, rfl, rfl⟩))⟩, rfl, k, rfl⟩
    · have hpos : 0 < rung n p := by unfold rung; omega
      have hw : fw s n p = signBit s + rung n p := fw_canon s n p hc
      have hnn : ¬ IsNan (fw s n p) := by rw [hw]; exact not_nan s _ (by omega)
      have hz : double.order (fw s n p) 0 = some (if s then .lt else .gt) := ord_zero s n p (canon_rep n p hc) (by omega)
      cases s
      · have hn1 : ¬ IsNan (fw false n p + 1) := by rw [hw, Nat.add_assoc]; exact not_nan false _ (by omega)
        have hl : fw false n p < 18446744073709551615 := by rw [hw]; show 0 + _ < _; omega
        refine (specUp_plus (fw false n p) hl hnn hn1 (order_self_fw false n p hc) (ord_most n p hc) hz w).mono ?_
        rintro e w' ⟨rfl, k, rfl⟩
        exact ⟨_, ⟨by omega, .inr (.inr (.inr (.inl ⟨n, p, hc, by omega, rfl, rfl⟩)))⟩, rfl, k, rfl⟩
      · have h1 : 0 < fw true n p := by rw [hw]; omega
        have hn1 : ¬ IsNan (fw true n p - 1) := by rw [hw, Nat.add_sub_assoc (by omega)]; exact not_nan true _ (by omega)
        refine (specUp_minus (fw true n p) h1 hx hnn hn1 (order_self_fw true n p hc) (ord_minus_most n p hc) hz w).mono ?_
        rintro e w' ⟨rfl, k, rfl⟩
        exact ⟨_, ⟨by omega, .inr (.inr (.inr (.inr (.inl ⟨n, p, hc, by omega, rfl, rfl⟩))))⟩, rfl, k, rfl⟩
end Go.Proofs.YtoedefjngipeiaaGreatDoor

