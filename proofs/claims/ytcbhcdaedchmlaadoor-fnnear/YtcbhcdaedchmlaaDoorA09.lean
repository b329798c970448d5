import Derived.Test.YtcbhcdaedchmlaaDoorA05
import Derived.Test.YtcbhcdaedchmlaaDoorA06
import Derived.Test.YtcbhcdaedchmlaaDoorA08
import Derived.Test.YtcbhcdaedchmlaaDoorA04
/- l2near of the specification, nothing below. -/
namespace Go.Proofs.YtcbhcdaedchmlaaDoor
open Go.ChangeShapes Go.WideShapes Go.RowKit
open Ieee (double)

set_option maxRecDepth 100000 in
set_option maxHeartbeats 400000 in
theorem l2near_any (y e : Int) (h0 : 0 ≤ y) (hm : y < 18446744073709551616) (w : World) :
    Calls Tryd.prog 18 #[.int .u64 y, .int .i64 e, .bool false] w fun r w' => r = .returned (.float .f64 (fw false y.toNat e)) ∧ w' = w := by
  by_cases hz : y = 0
  · subst hz
    have HX : Hid (fw false (0 : Int).toNat e = 0) := by show fw false 0 e = 0; rw [fw_zero]; rfl
    go_enter Tryd.func18, Tryd.ntmps18
    go_wp2
    go_ret
    exact ⟨by rw [HX.out]; rfl, rfl⟩
  · by_cases h1 : e < -2000
    · have e0 : (y == 0) = false := beq_eq_false_iff_ne.2 hz
      have HX : Hid (fw false y.toNat e = 0) := by show fw false y.toNat e = 0; rw [fw_tiny false _ e (by omega) (by omega)]; rfl
      clear hz
      go_enter Tryd.func18, Tryd.ntmps18
      go_wp2
      go_ret
      exact ⟨by rw [HX.out]; rfl, rfl⟩
    · by_cases h2 : 2000 < e
      · have e0 : (y == 0) = false := beq_eq_false_iff_ne.2 hz
        have HX : Hid (fw false y.toNat e = iw false) := by
          show fw false y.toNat e = iw false
          obtain ⟨a1, a2, a3⟩ := norm_64 y.toNat (by omega) (by omega)
          rw [← fw_scale false y.toNat (63 - y.toNat.log2) e]
          exact fw_huge false _ _ a1 a2 (by omega)
        clear hz
        go_enter Tryd.func18, Tryd.ntmps18
        go_wp2_with (go_at_call 26; refine (l2inf_any _).mono ?_; rintro e w' ⟨rfl, rfl⟩)
        go_ret
        exact ⟨by rw [HX.out]; rfl, rfl⟩
      · exact l2near_loop y e (by omega) hm (by omega) (by omega) w

/-- Every nearest float is a number of its own form, or an infinity. -/
theorem fw_kind (m : Nat) (e : Int) (hm : m < 18446744073709551616) : (∀ s, fw s m e = iw s) ∨ ∃ n q, Canon n q ∧ ∀ s, fw s m e = fw s n q := by
  by_cases h0 : m = 0
  · subst h0
    exact .inr ⟨0, -1074, canon_zero, fun s => by rw [fw_zero, fw_zero]⟩
  · obtain ⟨a1, a2, a3⟩ := norm_64 m (by omega) hm
    have hs : ∀ s, fw s m e = fw s (m * 2 ^ (63 - m.log2)) (e - ((63 - m.log2 : Nat) : Int)) := fun s => (fw_scale s m _ e).symm
    generalize m * 2 ^ (63 - m.log2) = M at *
    generalize e - ((63 - m.log2 : Nat) : Int) = p at *
    have hw : ∀ s, fw s M p = signBit s + min ((lastOf p + 1074).toNat * 4503599627370496 + Ieee.Toward.even.cut false M (lastOf p - p).toNat) 9218868437227405312 := fun s => by
      rw [fw_64 s M p a1 a2]; rfl
    generalize (lastOf p + 1074).toNat * 4503599627370496 + Ieee.Toward.even.cut false M (lastOf p - p).toNat = r at hw
    by_cases hr : 9218868437227405312 ≤ r
    · left
      intro s
      rw [hs, hw, Nat.min_eq_right hr]; rfl
    · right
      by_cases h1 : r < 4503599627370496
      · refine ⟨r, -1074, .inr ⟨h1, rfl⟩, fun s => ?_⟩
        rw [hs, hw, Nat.min_eq_left (by omega), fw_canon s r (-1074) (.inr ⟨h1, rfl⟩)]
        unfold rung; omega
      · have hc : Canon (4503599627370496 + r % 4503599627370496) (-1074 + ((r / 4503599627370496 - 1 : Nat) : Int)) := .inl ⟨by omega, by omega, by omega, by omega⟩
        refine ⟨_, _, hc, fun s => ?_⟩
        rw [hs, hw, Nat.min_eq_left (by omega), fw_canon s _ _ hc]
        unfold rung; omega
theorem neg_near (m : Nat) (e : Int) (hm : m < 18446744073709551616) : Op.negFloat .f64 (fw false m e) = fw true m e := by
  rcases fw_kind m e hm with h | ⟨n, q, hc, h⟩
  · rw [h, h]; exact neg_iw false
  · rw [h, h]; exact neg_fw false n q hc
end Go.Proofs.YtcbhcdaedchmlaaDoor

/- Near of the program. -/
namespace Go.Proofs.YtcbhcdaedchmlaaDoor
open Go.ChangeShapes Go.WideShapes Go.RowKit
open Ieee (double)

theorem bitLen_pos (m : Nat) (h : 0 < m) : bitLen m = m.log2 + 1 := by unfold bitLen; rw [if_neg (by omega)]
theorem float_zero (s : Bool) (w : World) :
    Calls Tryd.prog 12 #[.agg #[.bool s, .int .u64 0, .int .u64 0]] w fun e w' => e = .returned (.float .f64 (signBit s)) ∧ Below w.heap.size w w' := by
  refine (float_any s 0 0 (by omega) (by omega) w).mono ?_
  rintro e w' ⟨rfl, rfl⟩
  exact ⟨rfl, ((Below.refl _ w).alloc (by simp) _).alloc (by simp) _⟩
theorem float_inf (s : Bool) (w : World) :
    Calls Tryd.prog 12 #[.agg #[.bool s, .int .u64 2047, .int .u64 0]] w fun e w' => e = .returned (.float .f64 (iw s)) ∧ Below w.heap.size w w' := by
  refine (float_any s 2047 0 (by omega) (by omega) w).mono ?_
  rintro e w' ⟨rfl, rfl⟩
  exact ⟨rfl, ((Below.refl _ w).alloc (by simp) _).alloc (by simp) _⟩

set_option maxHeartbeats 400000 in
theorem near_nil (s : Bool) (n e x : Int) (hu : IntKind.u64.wrap n = x) (h : x = 0 ∨ e < -1138) (w : World) :
    Calls Tryd.prog 5 #[.bool s, .int .i64 n, .int .i64 e] w fun r w' => r = .returned (.float .f64 (signBit s)) ∧ Below w.heap.size w w' := by
  have HF : Hid _ := fun w => float_zero s w
  by_cases h0 : x = 0
  · subst h0
    clear h
    go_enter Tryd.func5, Tryd.ntmps5
    go_wp2_with (go_at_call 12; refine (HF.out _).mono ?_; rintro e w' ⟨rfl, hb⟩)
    go_ret
    exact ⟨rfl, hb⟩
  · have b0 : (x == 0) = false := beq_eq_false_iff_ne.2 h0
    have h1 : e < -1138 := by omega
    clear h h0
    go_enter Tryd.func5, Tryd.ntmps5
    go_wp2_with (go_at_call 12; refine (HF.out _).mono ?_; rintro e w' ⟨rfl, hb⟩)
    go_ret
    exact ⟨rfl, hb⟩
set_option maxHeartbeats 400000 in
theorem near_high (s : Bool) (n e x : Int) (hu : IntKind.u64.wrap n = x) (h0 : x ≠ 0) (h : 1023 < e) (w : World) :
    Calls Tryd.prog 5 #[.bool s, .int .i64 n, .int .i64 e] w fun r w' => r = .returned (.float .f64 (iw s)) ∧ Below w.heap.size w w' := by
  have HF : Hid _ := fun w => float_inf s w
  have b0 : (x == 0) = false := beq_eq_false_iff_ne.2 h0
  clear h0
  go_enter Tryd.func5, Tryd.ntmps5
  go_wp2_with (first | (go_at_call 13; refine (infinity_any _ _).mono ?_; rintro e w' ⟨rfl, rfl⟩) | (go_at_call 12; refine (HF.out _).mono ?_; rintro e w' ⟨rfl, hb⟩))
  go_ret
  exact ⟨rfl, Below.trans ((Below.refl _ w).alloc (by simp) _) (hb.mono (by simp))⟩
set_option maxHeartbeats 400000 in
theorem near_over (s : Bool) (n e x Ln : Int) (hu : IntKind.u64.wrap n = x) (h0 : x ≠ 0) (h : e ≤ 1023) (h' : -1138 ≤ e) (hl : 1 ≤ Ln) (hl' : Ln ≤ 64) (ho : 971 < e + Ln - 53)
    (hL : ∀ w, Calls Tryd.prog 14 #[.int .u64 x] w fun e w' => e = .returned (.int .i64 Ln) ∧ w' = w) (w : World) :
    Calls Tryd.prog 5 #[.bool s, .int .i64 n, .int .i64 e] w fun r w' => r = .returned (.float .f64 (iw s)) ∧ Below w.heap.size w w' := by
  have HL : Hid _ := hL
  have HF : Hid _ := fun w => float_inf s w
  have b0 : (x == 0) = false := beq_eq_false_iff_ne.2 h0
  clear h0 hL
  go_enter Tryd.func5, Tryd.ntmps5
  go_wp2_with (first | (go_at_call 14; refine (HL.out _).mono ?_; rintro e w' ⟨rfl, rfl⟩) | (go_at_call 13; refine (infinity_any _ _).mono ?_; rintro e w' ⟨rfl, rfl⟩) | (go_at_call 12; refine (HF.out _).mono ?_; rintro e w' ⟨rfl, hb⟩))
  go_ret
  exact ⟨rfl, Below.trans ((Below.refl _ _).alloc (by simp) _) (hb.mono (by simp))⟩
set_option maxHeartbeats 400000 in
theorem near_fits (s : Bool) (n e x Ln L : Int) (R : Nat) (hu : IntKind.u64.wrap n = x) (h0 : x ≠ 0) (h : e ≤ 1023) (h' : -1138 ≤ e) (hl : 1 ≤ Ln) (hl' : Ln ≤ 64) (hm : (-1074 ≤ e + Ln - 53 ∧ L = e + Ln - 53) ∨ (e + Ln - 53 < -1074 ∧ L = -1074)) (ho : L ≤ 971)
    (hL : ∀ w, Calls Tryd.prog 14 #[.int .u64 x] w fun e w' => e = .returned (.int .i64 Ln) ∧ w' = w)
    (hR : ∀ w, Calls Tryd.prog 16 #[.int .u64 x, .int .i64 (L - e)] w fun e w' => e = .returned (.int .u64 (R : Int)) ∧ w' = w) (hR' : R ≤ 9007199254740992) (w : World) :
    Calls Tryd.prog 5 #[.bool s, .int .i64 n, .int .i64 e] w fun r w' => r = .returned (.float .f64 (signBit s + ((L + 1074).toNat * 4503599627370496 + R))) ∧ Below w.heap.size w w' := by
  have HL : Hid _ := hL
  have b0 : (x == 0) = false := beq_eq_false_iff_ne.2 h0
  have HP : Hid _ := fun w => place_any s R L hR' (by omega) ho w
  clear h0 hL hR'
  rcases hm with ⟨m1, rfl⟩ | ⟨m1, rfl⟩
  · have HR : Hid _ := hR
    clear hR
    go_enter Tryd.func5, Tryd.ntmps5
    go_wp2_with (first | (go_at_call 14; refine (HL.out _).mono ?_; rintro e w' ⟨rfl, rfl⟩) | (go_at_call 16; refine (HR.out _).mono ?_; rintro e w' ⟨rfl, rfl⟩) | (go_at_call 15; refine (HP.out _).mono ?_; rintro e w' ⟨rfl, rfl⟩))
    go_ret
    exact ⟨rfl, Below.refl _ _⟩
  · have HR : Hid _ := hR
    clear hR
    go_enter Tryd.func5, Tryd.ntmps5
    go_wp2_with (first | (go_at_call 14; refine (HL.out _).mono ?_; rintro e w' ⟨rfl, rfl⟩) | (go_at_call 16; refine (HR.out _).mono ?_; rintro e w' ⟨rfl, rfl⟩) | (go_at_call 15; refine (HP.out _).mono ?_; rintro e w' ⟨rfl, rfl⟩))
    go_ret
    exact ⟨by rw [show ((-1074 : Int) + 1074).toNat = 0 from rfl, Nat.zero_mul, Nat.zero_add]; rfl, Below.refl _ _⟩
/-- At every argument. -/
theorem implNear_any (s : Bool) (n e : Int) (w : World) :
    Calls Tryd.prog 5 #[.bool s, .int .i64 n, .int .i64 e] w fun r w' => r = .returned (.float .f64 (fw s (u64n n) e)) ∧ Below w.heap.size w w' := by
  have hu := u64n_cast n
  have hlt := u64n_lt n
  generalize u64n n = U at *
  by_cases h0 : U = 0
  · subst h0
    rw [fw_zero]
    exact near_nil s n e _ hu (.inl rfl) w
  · by_cases h1 : e < -1138
    · rw [fw_tiny s U e hlt (by omega)]
      exact near_nil s n e _ hu (.inr h1) w
    · have hl63 := log_63 U (by omega) hlt
      by_cases h2 : 1023 < e
      · rw [fw_over s U e _ (by omega) rfl (by omega)]
        exact near_high s n e _ hu (by omega) h2 w
      · have hLen : ∀ w, Calls Tryd.prog 14 #[.int .u64 (U : Int)] w fun e w' => e = .returned (.int .i64 ((U.log2 : Int) + 1)) ∧ w' = w := fun w => by
          refine (len64_any (U : Int) (by omega) (by omega) w).mono ?_
          rintro e w' ⟨rfl, rfl⟩
          rw [Int.toNat_natCast, bitLen_pos U (by omega)]
          exact ⟨rfl, rfl⟩
        by_cases h3 : 971 < max (e + (U.log2 : Int) - 52) (-1074)
        · rw [fw_over s U e _ (by omega) rfl h3]
          exact near_over s n e U ((U.log2 : Int) + 1) hu (by omega) (by omega) (by omega) (by omega) (by omega) (by omega) hLen w
        · rw [fw_fits s U e _ (by omega) rfl (by omega)]
          have hle := roundN_le U e
          have hR : ∀ w, Calls Tryd.prog 16 #[.int .u64 (U : Int), .int .i64 (max (e + (U.log2 : Int) - 52) (-1074) - e)] w fun e' w' => e' = .returned (.int .u64 (roundN U (max (e + (U.log2 : Int) - 52) (-1074) - e) : Int)) ∧ w' = w := fun w => by
            have h := roundBits_any (U : Int) (max (e + (U.log2 : Int) - 52) (-1074) - e) (by omega) (by omega) (by omega) (by omega) (by rw [Int.toNat_natCast]; exact hle) w
            rw [Int.toNat_natCast] at h
            exact h
          generalize roundN U (max (e + (U.log2 : Int) - 52) (-1074) - e) = R at *
          exact near_fits s n e U ((U.log2 : Int) + 1) (max (e + (U.log2 : Int) - 52) (-1074)) R hu (by omega) (by omega) (by omega) (by omega) (by omega) (by omega) (by omega) hLen hR hle w
end Go.Proofs.YtcbhcdaedchmlaaDoor

/- l2signed of the specification. -/
namespace Go.Proofs.YtcbhcdaedchmlaaDoor
open Go.ChangeShapes Go.WideShapes Go.RowKit
open Ieee (double)

set_option maxHeartbeats 400000 in
theorem l2signed_plus (x : Nat) (w : World) : Calls Tryd.prog 17 #[.bool false, .float .f64 x] w fun e w' => e = .returned (.float .f64 x) ∧ w' = w := by
  go_enter Tryd.func17, Tryd.ntmps17
  go_wp2
  go_ret
  exact ⟨rfl, rfl⟩
set_option maxHeartbeats 400000 in
theorem l2signed_minus (x y : Nat) (hy : Op.negFloat .f64 x = y) (w : World) : Calls Tryd.prog 17 #[.bool true, .float .f64 x] w fun e w' => e = .returned (.float .f64 y) ∧ w' = w := by
  have hng := run_neg x
  rw [hy] at hng
  clear hy
  go_enter Tryd.func17, Tryd.ntmps17
  go_wp2
  go_ret
  exact ⟨rfl, rfl⟩
/-- A sign given to a number. -/
theorem l2signed_fw (s : Bool) (m : Nat) (p : Int) (h : Rep m p) (w : World) : Calls Tryd.prog 17 #[.bool s, .float .f64 (fw false m p)] w fun e w' => e = .returned (.float .f64 (fw s m p)) ∧ w' = w := by
  cases s
  · exact l2signed_plus _ w
  · exact l2signed_minus _ _ (neg_rep false m p h) w
theorem l2signed_iw (s : Bool) (w : World) : Calls Tryd.prog 17 #[.bool s, .float .f64 (iw false)] w fun e w' => e = .returned (.float .f64 (iw s)) ∧ w' = w := by
  cases s
  · exact l2signed_plus _ w
  · exact l2signed_minus _ _ (neg_iw false) w
end Go.Proofs.YtcbhcdaedchmlaaDoor

