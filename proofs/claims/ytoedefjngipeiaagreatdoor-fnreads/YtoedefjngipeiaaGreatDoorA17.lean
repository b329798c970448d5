import Derived.Test.YtoedefjngipeiaaGreatDoorA16
import Derived.Test.YtoedefjngipeiaaGreatDoorA10
import Derived.Test.YtoedefjngipeiaaGreatDoorA05
/- l2near of the specification, nothing below. -/
namespace Go.Proofs.YtoedefjngipeiaaGreatDoor
open Go.ChangeShapes Go.WideShapes Go.RowKit
open Ieee (double)

set_option maxRecDepth 100000 in
set_option maxHeartbeats 400000 in
theorem l2near_any (y e : Int) (h0 : 0 ≤ y) (hm : y < 18446744073709551616) (w : World) :
    Calls Tryz.prog 93 #[.int .u64 y, .int .i64 e, .bool false] w fun r w' => r = .returned (.float .f64 (fw false y.toNat e)) ∧ w' = w := by
  by_cases hz : y = 0
  · subst hz
    have HX : Hid (fw false (0 : Int).toNat e = 0) := by show fw false 0 e = 0; rw [fw_zero]; rfl
    go_enter Tryz.func93, Tryz.ntmps93
    go_wp2
    go_ret
    exact ⟨by rw [HX.out]; rfl, rfl⟩
  · by_cases h1 : e < -2000
    · have e0 : (y == 0) = false := beq_eq_false_iff_ne.2 hz
      have HX : Hid (fw false y.toNat e = 0) := by show fw false y.toNat e = 0; rw [fw_tiny false _ e (by omega) (by omega)]; rfl
      clear hz
      go_enter Tryz.func93, Tryz.ntmps93
      go_wp2
      go_ret
      exact ⟨by rw [HX.out]; rfl, rfl⟩
    · by_cases h2 : 2000 < e
      · have e0 : (y == 0) = false := beq_eq_false_iff_ne.2 hz
        have HX : Hid (fw false y.toNat e = iw false) := by
          show fw false y.toNat e = iw false
          obtain ⟨a1, a2, a3⟩ := norm_64 y.toNat (by omega) (by omega)
          rw [← fw_scale false y.toNat (63 - y.toNat.log2) e]
          exact fw_huge false _ _ a1 a2 (by omega)
        clear hz
        go_enter Tryz.func93, Tryz.ntmps93
        go_wp2_with (go_at_call 39; refine (l2inf_any _).mono ?_; rintro e w' ⟨rfl, rfl⟩)
        go_ret
        exact ⟨by rw [HX.out]; rfl, rfl⟩
      · exact l2near_loop y e (by omega) hm (by omega) (by omega) w

/-- Every nearest float is a number of its own form, or an infinity. -/
theorem fw_kind (m : Nat) (e : Int) (hm : m < 18446744073709551616) : (∀ s, fw s m e = iw s) ∨ ∃ n q, Canon n q ∧ ∀ s, fw s m e = fw s n q := by
  by_cases h0 : m = 0
  · subst h0
    exact .inr ⟨0, -1074, canon_zero, fun s => by rw [fw_zero, fw_zero]⟩
  · obtain ⟨a1, a2, a3⟩ := norm_64 m (by omega) hm
    have hs : ∀ s, fw s m e = fw s (m * 2 ^ (63 - m.log2)) (e - ((63 - m.log2 : Nat) : Int)) := fun s => (fw_scale s m _ e).symm
    generalize m * 2 ^ (63 - m.log2) = M at *
    generalize e - ((63 - m.log2 : Nat) : Int) = p at *
    have hw : ∀ s, fw s M p = signBit s + min ((lastOf p + 1074).toNat * 4503599627370496 + Ieee.Toward.even.cut false M (lastOf p - p).toNat) 9218868437227405312 := fun s => by
      rw [fw_64 s M p a1 a2]; rfl
    generalize (lastOf p + 1074).toNat * 4503599627370496 + Ieee.Toward.even.cut false M (lastOf p - p).toNat = r at hw
    by_cases hr : 9218868437227405312 ≤ r
    · left
      intro s
      rw [hs, hw, Nat.min_eq_right hr]; rfl
    · right
      by_cases h1 : r < 4503599627370496
      · refine ⟨r, -1074, .inr ⟨h1, rfl⟩, fun s => ?_⟩
        rw [hs, hw, Nat.min_eq_left (by omega), fw_canon s r (-1074) (.inr ⟨h1, rfl⟩)]
        unfold rung; omega
      · have hc : Canon (4503599627370496 + r % 4503599627370496) (-1074 + ((r / 4503599627370496 - 1 : Nat) : Int)) := .inl ⟨by omega, by omega, by omega, by omega⟩
        refine ⟨_, _, hc, fun s => ?_⟩
        rw [hs, hw, Nat.min_eq_left (by omega), fw_canon s _ _ hc]
        unfold rung; omega
theorem neg_near (m : Nat) (e : Int) (hm : m < 18446744073709551616) : Op.negFloat .f64 (fw false m e) = fw true m e := by
  rcases fw_kind m e hm with h | ⟨n, q, hc, h⟩
  · rw [h, h]; exact neg_iw false
  · rw [h, h]; exact neg_fw false n q hc
end Go.Proofs.YtoedefjngipeiaaGreatDoor

/- l2near of the specification where something lies below the number: rounded as the odd number beside. -/
namespace Go.Proofs.YtoedefjngipeiaaGreatDoor
open Go.ChangeShapes Go.WideShapes Go.RowKit
open Ieee (double)

theorem odd_up (M d : Nat) (K R H : Int) (hd : 2 ≤ d) (F1 : K = ((M / 2 ^ d : Nat) : Int)) (F2 : R = ((M % 2 ^ d : Nat) : Int)) (F3 : H = ((2 ^ (d - 1) : Nat) : Int)) (h : H ≤ R) : keptOf (oddOf M) d = (K + 1).toNat := by
  rw [odd_kept M d hd]
  generalize M / 2 ^ d = q at *
  generalize M % 2 ^ d = r at *
  generalize 2 ^ (d - 1) = g at *
  rw [if_pos (by omega)]
  omega
theorem odd_down (M d : Nat) (K R H : Int) (hd : 2 ≤ d) (F1 : K = ((M / 2 ^ d : Nat) : Int)) (F2 : R = ((M % 2 ^ d : Nat) : Int)) (F3 : H = ((2 ^ (d - 1) : Nat) : Int)) (h : R < H) : keptOf (oddOf M) d = K.toNat := by
  rw [odd_kept M d hd]
  generalize M / 2 ^ d = q at *
  generalize M % 2 ^ d = r at *
  generalize 2 ^ (d - 1) = g at *
  rw [if_neg (by omega)]
  omega
theorem odd_64 (x : Int) (h1 : x < 18446744073709551616) (h : 9223372036854775808 ≤ x) : keptOf (oddOf x.toNat) 64 = (1 : Int).toNat := by
  rw [odd_kept _ _ (by omega)]
  have e : x.toNat % 2 ^ 64 = x.toNat := Nat.mod_eq_of_lt (by omega)
  have e2 : x.toNat / 2 ^ 64 = 0 := Nat.div_eq_of_lt (by omega)
  rw [e, e2, if_pos (by omega)]
  rfl

set_option maxRecDepth 100000 in
set_option maxHeartbeats 1000000 in
theorem l2near_some (W : Nat) (y e : Int) (hW : ∀ (j : Nat), 9223372036854775808 ≤ y.toNat * 2 ^ j → y.toNat * 2 ^ j < 18446744073709551616 → W = fw false (oddOf (y.toNat * 2 ^ j)) (e - j)) (h0 : 0 < y) (hm : y < 18446744073709551616) (h1 : -2000 ≤ e) (h2 : e ≤ 2000) (w : World) :
    Calls Tryz.prog 93 #[.int .u64 y, .int .i64 e, .bool true] w fun r w' => r = .returned (.float .f64 W) ∧ w' = w := by
  have HW : Hid _ := hW
  clear hW
  have e0 : (y == 0) = false := beq_eq_false_iff_ne.2 (by omega)
  go_enter Tryz.func93, Tryz.ntmps93
  go_wp2
  go_loop [0, 1] (fun a b => ∃ (j : Nat) (x : Int), a = .int .u64 x ∧ b = .int .i64 (e - j) ∧ 0 < x ∧ x < 18446744073709551616 ∧ Hid (x = ((y.toNat * 2 ^ j : Nat) : Int)) ∧ j ≤ 63) (fun a _ => (18446744073709551616 - intOf a).toNat)
  case atStart => exact ⟨0, y, rfl, by simp, h0, hm, by show y = ((y.toNat * 2 ^ 0 : Nat) : Int); rw [Nat.pow_zero, Nat.mul_one]; omega, by omega⟩
  case round =>
    obtain ⟨j, x, rfl, rfl, hM0, hM1, HM, hj⟩ := hrel
    by_cases hlt : x < 9223372036854775808
    · have hj2 := few_times y.toNat j x (by omega) HM.out hlt
      go_wp2
      refine ⟨⟨j + 1, x * 2, rfl, ?_, by omega, by omega, two_times y.toNat j x HM.out, hj2⟩, ?_⟩
      · rw [show e - ((j + 1 : Nat) : Int) = e - j - 1 by omega]
      · simp only [intOf]; omega
    · have HF : Hid (W = fw false (oddOf x.toNat) (e - j)) := by
        show W = fw false (oddOf x.toNat) (e - j)
        have hx : x.toNat = y.toNat * 2 ^ j := by rw [HM.out]; exact Int.toNat_natCast _
        rw [hx]
        exact HW.out j (by rw [← hx]; omega) (by rw [← hx]; omega)
      clear HW
      clear HM e0
      have hb : 9223372036854775808 ≤ x := by omega
      have he1 : -2063 ≤ e - j := by omega
      have he2 : e - j ≤ 2000 := by omega
      have HB : Hid _ := fun (_ : Unit) => And.intro (show 9223372036854775808 ≤ oddOf x.toNat by unfold oddOf; omega) (show oddOf x.toNat < 18446744073709551616 by unfold oddOf; omega)
      generalize e - (j : Int) = p at *
      clear hlt hM0 hj
      by_cases c1 : 1024 < p
      · have HX : Hid (W = iw false) := HF.out.trans (fw_huge false _ p (HB.out ()).1 (HB.out ()).2 (by omega))
        go_wp2_with (go_at_call 39; refine (l2inf_any _).mono ?_; rintro e w' ⟨rfl, rfl⟩)
        go_ret
        exact ⟨by rw [HX.out]; rfl, rfl⟩
      · by_cases c2 : p < -1200
        · have HX : Hid (W = 0) := HF.out.trans (near_far _ p (HB.out ()).2 (by omega))
          go_wp2
          go_ret
          exact ⟨by rw [HX.out]; rfl, rfl⟩
        · by_cases c3 : p + 11 < -1074
          · by_cases c4 : 64 < -1074 - p
            · have HX : Hid (W = 0) := HF.out.trans (near_far _ p (HB.out ()).2 (by omega))
              go_wp2
              go_ret
              exact ⟨by rw [HX.out]; rfl, rfl⟩
            · have HN : Hid (W = fw false (keptOf (oddOf x.toNat) (-1074 - p).toNat) (-1074)) := HF.out.trans (near_b _ p (HB.out ()).1 (HB.out ()).2 (by omega) (by omega))
              by_cases c5 : -1074 - p = 64
              · obtain rfl : p = -1138 := by omega
                have e64 : (-1074 - (-1138 : Int)).toNat = 64 := by omega
                have HM : Hid _ := fun (_ : Unit) => HN.out
                rw [e64] at HM
                clear HN HF he1 he2 c1 c2 c3 c4 c5 e64
                have HX : Hid (W = fw false (1 : Int).toNat (-1074)) := (HM.out ()).trans (congrArg (fun t => fw false t (-1074)) (odd_64 x hM1 hb))
                clear HM HB
                by_cases d1 : 9223372036854775808 < x
                · go_wp2_with (go_at_call 46; refine (l2scaled_int _ _ (by omega) (by omega) (by omega) (by omega) _).mono ?_; rintro e w' ⟨rfl, rfl⟩)
                  go_ret
                  exact ⟨by rw [HX.out]; rfl, rfl⟩
                · have d2 : (x == 9223372036854775808) = true := beq_iff_eq.2 (by omega)
                  go_wp2_with (go_at_call 46; refine (l2scaled_int _ _ (by omega) (by omega) (by omega) (by omega) _).mono ?_; rintro e w' ⟨rfl, rfl⟩)
                  go_ret
                  exact ⟨by rw [HX.out]; rfl, rfl⟩
              · have c6 : -1074 - p < 64 := by omega
                have e64 : (-1074 - p == 64) = false := beq_eq_false_iff_ne.2 c5
                obtain ⟨K, Q, H, hK, hQ, hH, q0, q1, g0, g1, k0, k1, FK, FR, FH⟩ := near_vars x (-1074 - p).toNat hb hM1 (by omega) (by omega)
                have F1 : Hid _ := FK
                have F2 : Hid _ := FR
                have F3 : Hid _ := FH
                have k2 : K < 4503599627370496 := by have := (kept_more x.toNat (-1074 - p).toNat (by omega) (by omega)).1; omega
                clear FK FR FH c5
                have HU : Hid _ := fun h => HN.out.trans (congrArg (fun t => fw false t (-1074)) (odd_up x.toNat _ K (x - Q) H (by omega) F1.out F2.out F3.out h))
                have HD : Hid _ := fun h => HN.out.trans (congrArg (fun t => fw false t (-1074)) (odd_down x.toNat _ K (x - Q) H (by omega) F1.out F2.out F3.out h))
                clear F1 F2 F3 HN HF
                by_cases d1 : H < x - Q
                · have HX : Hid _ := HU.out (by omega)
                  clear HU HD
                  go_wp2_with (go_at_call 46; refine (l2scaled_int _ _ (by omega) (by omega) (by omega) (by omega) _).mono ?_; rintro e w' ⟨rfl, rfl⟩)
                  go_ret
                  exact ⟨by rw [HX.out]; rfl, rfl⟩
                · by_cases d2 : x - Q = H
                  · have b2 : (x - Q == H) = true := beq_iff_eq.2 d2
                    have HX : Hid _ := HU.out (by omega)
                    clear HU HD d2
                    go_wp2_with (go_at_call 46; refine (l2scaled_int _ _ (by omega) (by omega) (by omega) (by omega) _).mono ?_; rintro e w' ⟨rfl, rfl⟩)
                    go_ret
                    exact ⟨by rw [HX.out]; rfl, rfl⟩
                  · have b2 : (x - Q == H) = false := beq_eq_false_iff_ne.2 d2
                    have HX : Hid _ := HD.out (by omega)
                    clear HU HD d2
                    go_wp2_with (go_at_call 46; refine (l2scaled_int _ _ (by omega) (by omega) (by omega) (by omega) _).mono ?_; rintro e w' ⟨rfl, rfl⟩)
                    go_ret
                    exact ⟨by rw [HX.out]; rfl, rfl⟩
          · have e11 : (p + 11 - p).toNat = 11 := by omega
            have n64 : (p + 11 - p == 64) = false := beq_eq_false_iff_ne.2 (by omega)
            obtain ⟨K, Q, H, hK, hQ, hH, q0, q1, g0, g1', k0, k1, FK, FR, FH⟩ := near_vars x (p + 11 - p).toNat hb hM1 (by omega) (by omega)
            have F1 : Hid _ := FK
            have F2 : Hid _ := FR
            have F3 : Hid _ := FH
            have HU : Hid _ := fun h => odd_up x.toNat _ K (x - Q) H (by omega) FK FR FH h
            have HD : Hid _ := fun h => odd_down x.toNat _ K (x - Q) H (by omega) FK FR FH h
            rw [e11] at HU HD
            have HA : Hid _ := fun h1 h2 => HF.out.trans (near_a_fits (oddOf x.toNat) p (HB.out ()).1 (HB.out ()).2 (by omega) h1 h2)
            have HC : Hid _ := fun h1 h2 => HF.out.trans (near_a_carry (oddOf x.toNat) p (HB.out ()).1 (HB.out ()).2 (by omega) h1 h2)
            have HI : Hid _ := fun h => HF.out.trans (near_a_inf (oddOf x.toNat) p (HB.out ()).1 (HB.out ()).2 (by omega) h)
            clear FK FR FH HF HB e11
            by_cases d1 : H < x - Q
            · skip
              have hk := HU.out (by omega)
              by_cases f1 : K + 1 = 9007199254740992
              · have g1 : (K + 1 == 9007199254740992) = true := beq_iff_eq.2 f1
                by_cases f2 : 971 < p + 11 + 1
                · have HX : Hid _ := HI.out (.inr ⟨by rw [hk]; omega, f2⟩)
                  clear f1 hk
                  clear HU HD HA HC HI F1 F2 F3
                  go_wp2_with (go_at_call 39; refine (l2inf_any _).mono ?_; rintro e w' ⟨rfl, rfl⟩)
                  go_ret
                  exact ⟨by rw [HX.out]; rfl, rfl⟩
                · have HX : Hid _ := HC.out (by omega) (by rw [hk]; omega)
                  clear f1 hk
                  clear HU HD HA HC HI F1 F2 F3
                  go_wp2_with (go_at_call 46; refine (l2scaled_int _ _ (by omega) (by omega) (by omega) (by omega) _).mono ?_; rintro e w' ⟨rfl, rfl⟩)
                  go_ret
                  exact ⟨by rw [HX.out]; rfl, rfl⟩
              · have g1 : (K + 1 == 9007199254740992) = false := beq_eq_false_iff_ne.2 f1
                have f3 : K + 1 < 9007199254740992 := by omega
                by_cases f2 : 971 < p + 11
                · have HX : Hid _ := HI.out (.inl f2)
                  clear f1 hk
                  clear HU HD HA HC HI F1 F2 F3
                  go_wp2_with (go_at_call 39; refine (l2inf_any _).mono ?_; rintro e w' ⟨rfl, rfl⟩)
                  go_ret
                  exact ⟨by rw [HX.out]; rfl, rfl⟩
                · have HX : Hid _ := (HA.out (by omega) (by rw [hk]; omega)).trans (congrArg (fun t => fw false t (p + 11)) hk)
                  clear f1 hk
                  clear HU HD HA HC HI F1 F2 F3
                  go_wp2_with (go_at_call 46; refine (l2scaled_int _ _ (by omega) (by omega) (by omega) (by omega) _).mono ?_; rintro e w' ⟨rfl, rfl⟩)
                  go_ret
                  exact ⟨by rw [HX.out]; rfl, rfl⟩
            · by_cases d2 : x - Q = H
              · have b2 : (x - Q == H) = true := beq_iff_eq.2 d2
                have hk := HU.out (by omega)
                by_cases f1 : K + 1 = 9007199254740992
                · have g1 : (K + 1 == 9007199254740992) = true := beq_iff_eq.2 f1
                  by_cases f2 : 971 < p + 11 + 1
                  · have HX : Hid _ := HI.out (.inr ⟨by rw [hk]; omega, f2⟩)
                    clear f1 hk d2
                    clear HU HD HA HC HI F1 F2 F3
                    go_wp2_with (go_at_call 39; refine (l2inf_any _).mono ?_; rintro e w' ⟨rfl, rfl⟩)
                    go_ret
                    exact ⟨by rw [HX.out]; rfl, rfl⟩
                  · have HX : Hid _ := HC.out (by omega) (by rw [hk]; omega)
                    clear f1 hk d2
                    clear HU HD HA HC HI F1 F2 F3
                    go_wp2_with (go_at_call 46; refine (l2scaled_int _ _ (by omega) (by omega) (by omega) (by omega) _).mono ?_; rintro e w' ⟨rfl, rfl⟩)
                    go_ret
                    exact ⟨by rw [HX.out]; rfl, rfl⟩
                · have g1 : (K + 1 == 9007199254740992) = false := beq_eq_false_iff_ne.2 f1
                  have f3 : K + 1 < 9007199254740992 := by omega
                  by_cases f2 : 971 < p + 11
                  · have HX : Hid _ := HI.out (.inl f2)
                    clear f1 hk d2
                    clear HU HD HA HC HI F1 F2 F3
                    go_wp2_with (go_at_call 39; refine (l2inf_any _).mono ?_; rintro e w' ⟨rfl, rfl⟩)
                    go_ret
                    exact ⟨by rw [HX.out]; rfl, rfl⟩
                  · have HX : Hid _ := (HA.out (by omega) (by rw [hk]; omega)).trans (congrArg (fun t => fw false t (p + 11)) hk)
                    clear f1 hk d2
                    clear HU HD HA HC HI F1 F2 F3
                    go_wp2_with (go_at_call 46; refine (l2scaled_int _ _ (by omega) (by omega) (by omega) (by omega) _).mono ?_; rintro e w' ⟨rfl, rfl⟩)
                    go_ret
                    exact ⟨by rw [HX.out]; rfl, rfl⟩
              · have b2 : (x - Q == H) = false := beq_eq_false_iff_ne.2 d2
                have hk := HD.out (by omega)
                have g1 : (K == 9007199254740992) = false := beq_eq_false_iff_ne.2 (by omega)
                by_cases f2 : 971 < p + 11
                · have HX : Hid _ := HI.out (.inl f2)
                  clear hk d2
                  clear HU HD HA HC HI F1 F2 F3
                  go_wp2_with (go_at_call 39; refine (l2inf_any _).mono ?_; rintro e w' ⟨rfl, rfl⟩)
                  go_ret
                  exact ⟨by rw [HX.out]; rfl, rfl⟩
                · have HX : Hid _ := (HA.out (by omega) (by rw [hk]; omega)).trans (congrArg (fun t => fw false t (p + 11)) hk)
                  clear hk d2
                  clear HU HD HA HC HI F1 F2 F3
                  go_wp2_with (go_at_call 46; refine (l2scaled_int _ _ (by omega) (by omega) (by omega) (by omega) _).mono ?_; rintro e w' ⟨rfl, rfl⟩)
                  go_ret
                  exact ⟨by rw [HX.out]; rfl, rfl⟩
end Go.Proofs.YtoedefjngipeiaaGreatDoor

/- What l4ratio of the specification answers: plain. -/
namespace Go.Proofs.YtoedefjngipeiaaGreatDoor
open Go.ChangeShapes Go.WideShapes Go.RowKit

theorem bits_log {A n : Nat} (h : Bits A n) (h0 : 0 < A) : n = A.log2 + 1 := by
  obtain ⟨h1, h2, h3⟩ := bits_pos h h0
  have := (Nat.log2_eq_iff (by omega)).2 ⟨h2, by rw [show n - 1 + 1 = n by omega]; exact h3⟩
  omega
theorem log_bits {A : Nat} (h0 : 0 < A) : Bits A (A.log2 + 1) :=
  .inr ⟨by omega, by rw [Nat.add_sub_cancel]; exact Nat.log2_self_le (by omega), Nat.lt_log2_self⟩
theorem pow_bound (k : Nat) (h : k ≤ 64) : 2 ^ k < 4294967296 ^ 3 := by
  have h1 : 2 ^ k ≤ 2 ^ 64 := Nat.pow_le_pow_right (by omega) h
  have : (2 : Nat) ^ 64 < 4294967296 ^ 3 := by decide
  omega

end Go.Proofs.YtoedefjngipeiaaGreatDoor

/- l0bits of the specification. -/
namespace Go.Proofs.YtoedefjngipeiaaGreatDoor
open Go.ChangeShapes Go.WideShapes Go.RowKit

set_option maxHeartbeats 1600000 in
set_option maxRecDepth 100000 in
theorem l0bits_any (v : Value) (A n : Nat) (w : World) (h : Big w v A) (hA : A < 4294967296 ^ n) (hn : n < 1000000) :
    Calls Tryz.prog 69 #[v] w fun e w' => w' = w ∧ ∃ n : Nat, e = .returned (.int .i64 n) ∧ Bits A n ∧ n ≤ 32000000 := by
  obtain ⟨ls, h1, h2, h3, rfl⟩ := h
  have hlen := Nat.lt_of_le_of_lt (trim_len h3 hA) hn
  obtain ⟨ao, cap, rfl, hcap, hmx, h4⟩ := h1
  by_cases hnil : ls = []
  · subst hnil
    go_enter Tryz.func69, Tryz.ntmps69
    go_wp2
    go_ret
    exact ⟨rfl, 0, rfl, .inl ⟨rfl, rfl⟩, by omega⟩
  · have hpos : 0 < ls.length := List.length_pos_iff.2 hnil
    rcases h4 with ⟨_, h4⟩ | ⟨g, rfl, hg, hcl⟩
    · omega
    have hx := hcl (ls.length - 1) (by omega)
    have htop := (trim_last h3 hnil).2
    have hlim : ls.getD (ls.length - 1) 0 < 4294967296 := by
      have hlt : ls.length - 1 < ls.length := by omega
      have : ls.getD (ls.length - 1) 0 = ls[ls.length - 1] := by simp [List.getElem?_eq_getElem hlt]
      rw [this]; exact h2 _ (List.getElem_mem hlt)
    have HT : Hid _ := bits_top ls h2 hnil
    have e0 : ((ls.length : Int) == 0) = false := beq_eq_false_iff_ne.2 (by omega)
    generalize ls.getD (ls.length - 1) 0 = t at *
    clear hcl h3 h2 hA hnil
    generalize bval ls = A at *
    generalize ls.length = L at *
    obtain ⟨l, rfl⟩ : ∃ l, L = l + 1 := ⟨L - 1, by omega⟩
    rw [Nat.add_sub_cancel] at *
    go_enter Tryz.func69, Tryz.ntmps69
    go_wp2
    go_loop [3, 4] (fun nv xv => ∃ j : Nat, nv = .int .i64 (32 * (l : Int) + j) ∧ xv = .int .u64 ((t / 2 ^ j : Nat) : Int) ∧ j ≤ 32 ∧ Hid (0 < j → 2 ^ (j - 1) ≤ t)) (fun _ xv => (intOf xv).toNat)
    case atStart => exact ⟨0, by simp, by simp, by omega, fun h => absurd h (by omega)⟩
    case round =>
      obtain ⟨j, rfl, rfl, hj, HJ⟩ := hrel
      by_cases hp : 0 < t / 2 ^ j
      · have hj2 := few_halves32 t j hlim hp
        have hh := half_cast t j
        have HJ2 : Hid (2 ^ j ≤ t) := by
          show _ ≤ _
          apply Classical.byContradiction; intro hc
          rw [Nat.div_eq_of_lt (by omega)] at hp; omega
        have HL : Hid (t / 2 ^ (j + 1) < t / 2 ^ j) := by show _ < _; rw [← half_again]; omega
        have hb : t / 2 ^ j ≤ t := Nat.div_le_self _ _
        generalize hy : t / 2 ^ (j + 1) = y at *
        generalize hz : t / 2 ^ j = z at *
        go_wp2
        exact ⟨⟨j + 1, by rw [show 32 * (l : Int) + ((j + 1 : Nat) : Int) = 32 * (l : Int) + j + 1 by omega], by rw [hy], by omega, fun _ => HJ2.out⟩, by simp only [intOf]; have := HL.out; omega⟩
      · have h0 : t / 2 ^ j = 0 := Nat.eq_zero_of_not_pos hp
        have ht2 : Hid (t < 2 ^ j) := by
          have := Nat.div_eq_zero_iff.1 h0
          have h2 := Nat.two_pow_pos j
          show _ < _
          omega
        rw [h0]
        go_wp2
        go_ret
        have hj0 : 0 < j := by
          apply Classical.byContradiction; intro hc
          obtain rfl : j = 0 := by omega
          have := ht2.out
          simp at this; omega
        exact ⟨rfl, 32 * l + j, by simp, HT.out j hj0 (HJ.out hj0) ht2.out, by omega⟩
end Go.Proofs.YtoedefjngipeiaaGreatDoor

