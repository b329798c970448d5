import Derived.Test.YtoedefjngipeiaaGreatDoorA23
import Derived.Test.YtoedefjngipeiaaGreatDoorA20
import Derived.Test.YtoedefjngipeiaaGreatDoorA14
import Derived.Test.YtoedefjngipeiaaGreatDoorA09
import Derived.Test.YtoedefjngipeiaaGreatDoorA19
import Derived.Test.YtoedefjngipeiaaGreatDoorA17
import Derived.Test.YtoedefjngipeiaaGreatDoorA18
/- l4ratio of the specification: the float nearest to a quotient. -/
namespace Go.Proofs.YtoedefjngipeiaaGreatDoor
open Go.ChangeShapes Go.WideShapes Go.RowKit

set_option maxHeartbeats 400000 in
theorem l4ratio_zero (v u : Value) (w : World) (h : Big w v 0) :
    Calls Tryz.prog 70 #[v, u] w fun e w' => e = .returned (.float .f64 0) ∧ w' = w := by
  obtain ⟨ao, n, cap, rfl, h1, h2, h3⟩ := h.slice
  obtain rfl : n = 0 := h3.2 rfl
  go_enter Tryz.func70, Tryz.ntmps70
  go_wp2
  go_ret
  exact ⟨rfl, rfl⟩
set_option maxHeartbeats 3200000 in
set_option maxRecDepth 100000 in
theorem l4ratio_up (v u : Value) (A C n a b : Nat) (w : World) (h : Big w v A) (h' : Big w u C) (hA : A < 4294967296 ^ n) (hC : C < 4294967296 ^ n) (hn : n < 20000) (hA0 : 0 < A) (hC0 : 0 < C) (ha : Bits A a) (hb : Bits C b)
    (hd1 : (a : Int) - b ≤ 1900) (hd2 : -1900 ≤ (a : Int) - b) (_ha' : a ≤ 1000000) (_hb' : b ≤ 1000000) (hc : a < b + 63) :
    Calls Tryz.prog 70 #[v, u] w fun e w' => e = .returned (.float .f64 (ratioAt (A * 2 ^ (b + 63 - a)) (C) ((a : Int) - b - 63))) ∧ Below w.heap.size w w' := by
  have HB1 : Hid _ := fun (_ : Unit) => l0bits_is v A n a w h hA (by omega) hA0 ha
  have HB2 : Hid _ := fun (_ : Unit) => l0bits_is u C n b w h' hC (by omega) hC0 hb
  have HA1 : Hid (A * 2 ^ (b + 63 - a) < 4294967296 ^ (n + 65)) := shl_more hA (by omega)
  have HC1 : Hid (C < 4294967296 ^ (n + 65)) := Nat.lt_of_lt_of_le hC (Nat.pow_le_pow_right (by omega) (by omega))
  have HC0 : Hid (0 < C) := hC0
  have HAP : Hid _ := apart (bits_shl (k := b + 63 - a) ha hA0) (bits_pos hb hC0) (by omega)
  have HSH : Hid _ := fun (_ : Unit) => l0shl_big v A n (b + 63 - a) w h hA (by omega) (by omega)
  have HX : Hid (Big w u C) := h'
  obtain ⟨ao, la, cap, rfl, l1, l2, l3⟩ := h.slice
  have l0 : (0 : Int) < (la : Int) := by have := l3.1; omega
  have l4 : ((la : Int) == 0) = false := beq_eq_false_iff_ne.2 (by omega)
  have l5 : cap ≤ 9223372036854775807 := l2
  generalize hA' : A * 2 ^ (b + 63 - a) = A' at *
  generalize hC' : C = C' at *
  have he : -((a : Int) - b - 63) = ((b + 63 - a : Nat) : Int) := by omega
  have he2 : (a : Int) - b - 63 < 0 := by omega
  obtain ⟨E, hE⟩ : ∃ E : Int, (a : Int) - b - 63 = E := ⟨_, rfl⟩
  obtain ⟨K, hK⟩ : ∃ K : Nat, b + 63 - a = K := ⟨_, rfl⟩
  rw [hK] at HSH he
  rw [hE] at he he2 ⊢
  clear h h' hA hC hA0 hC0 ha hb l2 l3
  have hE1 : -2000 ≤ E := by omega
  have hE2 : E ≤ 2000 := by omega
  clear hA' hC' hK hc hd1 hd2
  go_enter Tryz.func70, Tryz.ntmps70
  go_wp2_with fail
  refine (HB1.out ()).mono ?_
  rintro r w' ⟨rfl, hw⟩
  rw [hw]
  clear HB1 hw w'
  go_wp2_with fail
  refine (HB2.out ()).mono ?_
  rintro r w' ⟨rfl, hw⟩
  rw [hw]
  clear HB2 hw w'
  go_wp2_with fail
  refine (HSH.out ()).mono ?_
  rintro r w1 ⟨v1, rfl, hb1, hv1⟩
  have H1 : Hid (Big w1 v1 A') := hv1
  have H2 : Hid (Big w1 u C') := HX.out.below hb1 (Nat.le_refl _)
  have HW : Hid (Below w.heap.size w w1) := hb1
  have HC : Hid _ := fun wr (hb : Below w1.heap.size w1 wr) j (hj : j ≤ 63) => l0shl_big u C' (n + 65) j wr (H2.out.below hb (Nat.le_refl _)) HC1.out (by omega) (by omega)
  clear hb1 hv1 HSH HX
  go_wp2
  clear hE he he2
  clear _ha' _hb' l0 l1 l4 l5
  go_loopw [0, 6, 7] (fun va q k wr => ∃ (j Q R : Nat), k = .int .i64 ((j : Int) - 1) ∧ j ≤ 64 ∧ q = .int .u64 (Q : Int) ∧ Hid (Div A' C' R Q j) ∧ Hid (Big wr va R) ∧ Below w1.heap.size w1 wr) (fun _ _ k _ => (intOf k + 1).toNat)
  case atStart => exact ⟨64, 0, A', rfl, Nat.le_refl _, rfl, div_start HAP.out.1, H1.out, Below.refl _ _⟩
  case round =>
    obtain ⟨j, Q, R, rfl, hj, rfl, HD, HR, hbe⟩ := hrel
    have hsz := hbe.size
    cases j with
    | zero =>
      obtain ⟨ra, rn, rcap, hrv, r1, r2, r3⟩ := HR.out.slice
      subst hrv
      have r4 : rcap ≤ 9223372036854775807 := r2
      have HN : Hid _ := fun s hs w => near_ratio A' C' R Q _ HD.out HC0.out HAP.out.2 hE1 hE2 s hs w
      have HM : Hid _ := fun w => HN.out (decide (0 < rn)) (decide_eq_decide.2 ⟨fun h => Nat.pos_of_ne_zero fun h' => Nat.ne_of_gt h (r3.2 h'), fun h => Nat.pos_of_ne_zero fun h' => Nat.ne_of_gt h (r3.1 h')⟩) w
      clear HN HD HR r2 r3
      go_wp2_with fail
      refine (HM.out _).mono ?_
      rintro r w' ⟨rfl, hw⟩
      rw [hw]
      clear hw w'
      go_wp2
      go_ret
      exact ⟨rfl, HW.out.trans (hbe.mono HW.out.size)⟩
    | succ j =>
      have c1 : (j : Int) ≤ 63 := by omega
      have HB : Hid (C' * 2 ^ j < 4294967296 ^ (n + 65 + 2)) := shl_more HC1.out (by omega)
      have HRL : Hid (R < 4294967296 ^ (n + 65 + 2)) := Nat.lt_of_le_of_lt (div_rest HD.out) (Nat.lt_of_lt_of_le HA1.out (Nat.pow_le_pow_right (by omega) (by omega)))
      have HOR : Hid _ := or_cast Q j HD.out.2.2.2 (by omega)
      go_wp2_with fail
      refine (HC.out _ hbe j (by omega)).mono ?_
      rintro r w2 ⟨v2, rfl, hb2, hv2⟩
      have HR2 : Hid _ := fun (_ : Unit) => HR.out.below hb2 (Nat.le_refl _)
      have HV2 : Hid _ := fun (_ : Unit) => hv2
      have HW2 : Hid (Below w1.heap.size w1 w2) := hbe.trans (hb2.mono hsz)
      clear hb2 hv2 hbe
      obtain ⟨D, hD⟩ : ∃ D : Nat, D = C' * 2 ^ j := ⟨_, rfl⟩
      rw [← hD] at HV2 HB
      have HDD : Hid (D = C' * 2 ^ j) := hD
      have HCM : Hid _ := fun (_ : Unit) => l0cmp_any _ _ R D w2 (HR2.out ()) (HV2.out ())
      clear hD
      by_cases hlt : R < D
      · have hcm : cmpI R D = -1 := cmpI_lt hlt
        rw [hcm] at HCM
        clear hcm
        go_wp2_with fail
        refine (HCM.out ()).mono ?_
        rintro r w3 ⟨hb3, rfl⟩
        have HW3 : Hid (Below w1.heap.size w1 w3) := HW2.out.trans (hb3.mono HW2.out.size)
        have HR3 : Hid _ := fun (_ : Unit) => (HR2.out ()).below hb3 (Nat.le_refl _)
        have HDV : Hid _ := fun (_ : Unit) => div_no HD.out (by rw [← HDD.out]; exact hlt)
        clear hb3 HCM hlt
        go_wp2
        go_roundw
        case rel => exact ⟨j, Q, R, rfl, by omega, rfl, HDV.out (), HR3.out (), HW3.out⟩
        case measure => simp only [intOf]; omega
      · have hcm : (0 : Int) ≤ cmpI R D := by unfold cmpI; split <;> (try split) <;> omega
        have HDV : Hid _ := fun (_ : Unit) => div_yes HD.out (by omega) (by rw [← HDD.out]; omega)
        rw [← HDD.out] at HDV
        have hle : D ≤ R := by omega
        generalize cmpI R D = cm at *
        clear hlt
        go_wp2_with fail
        refine (HCM.out ()).mono ?_
        rintro r w3 ⟨hb3, rfl⟩
        have HW3 : Hid (Below w1.heap.size w1 w3) := HW2.out.trans (hb3.mono HW2.out.size)
        have HSB : Hid _ := fun (_ : Unit) => l0sub_any _ _ R D (n + 65 + 2) w3 ((HR2.out ()).below hb3 (Nat.le_refl _)) ((HV2.out ()).below hb3 (Nat.le_refl _)) HRL.out (by omega) hle
        clear hb3 HCM hle
        go_wp2_with fail
        refine (HSB.out ()).mono ?_
        rintro r w4 ⟨v4, rfl, hb4, hv4⟩
        have HW4 : Hid (Below w1.heap.size w1 w4) := HW3.out.trans (hb4.mono HW3.out.size)
        have HV4 : Hid _ := fun (_ : Unit) => hv4
        have ho2 := HOR.out.2
        clear hb4 hv4 HSB
        go_wp2
        go_roundw
        case rel => exact ⟨j, Q ||| 2 ^ j, R - D, rfl, by omega, by rw [show (2 : Int) ^ j = ((2 ^ j : Nat) : Int) from (Int.natCast_pow 2 j).symm, HOR.out.1], HDV.out (), HV4.out (), HW4.out⟩
        case measure => simp only [intOf]; omega
set_option maxHeartbeats 3200000 in
set_option maxRecDepth 100000 in
theorem l4ratio_down (v u : Value) (A C n a b : Nat) (w : World) (h : Big w v A) (h' : Big w u C) (hA : A < 4294967296 ^ n) (hC : C < 4294967296 ^ n) (hn : n < 20000) (hA0 : 0 < A) (hC0 : 0 < C) (ha : Bits A a) (hb : Bits C b)
    (hd1 : (a : Int) - b ≤ 1900) (hd2 : -1900 ≤ (a : Int) - b) (_ha' : a ≤ 1000000) (_hb' : b ≤ 1000000) (hc : b + 63 ≤ a) :
    Calls Tryz.prog 70 #[v, u] w fun e w' => e = .returned (.float .f64 (ratioAt (A) (C * 2 ^ (a - (b + 63))) ((a : Int) - b - 63))) ∧ Below w.heap.size w w' := by
  have HB1 : Hid _ := fun (_ : Unit) => l0bits_is v A n a w h hA (by omega) hA0 ha
  have HB2 : Hid _ := fun (_ : Unit) => l0bits_is u C n b w h' hC (by omega) hC0 hb
  have HA1 : Hid (A < 4294967296 ^ (n + 65)) := Nat.lt_of_lt_of_le hA (Nat.pow_le_pow_right (by omega) (by omega))
  have HC1 : Hid (C * 2 ^ (a - (b + 63)) < 4294967296 ^ (n + 65)) := shl_more hC (by omega)
  have HC0 : Hid (0 < C * 2 ^ (a - (b + 63))) := Nat.mul_pos hC0 (Nat.two_pow_pos _)
  have HAP : Hid _ := apart (bits_pos ha hA0) (bits_shl (k := a - (b + 63)) hb hC0) (by omega)
  have HSH : Hid _ := fun (_ : Unit) => l0shl_big u C n (a - (b + 63)) w h' hC (by omega) (by omega)
  have HX : Hid (Big w v A) := h
  obtain ⟨ao, la, cap, rfl, l1, l2, l3⟩ := h.slice
  have l0 : (0 : Int) < (la : Int) := by have := l3.1; omega
  have l4 : ((la : Int) == 0) = false := beq_eq_false_iff_ne.2 (by omega)
  have l5 : cap ≤ 9223372036854775807 := l2
  generalize hA' : A = A' at *
  generalize hC' : C * 2 ^ (a - (b + 63)) = C' at *
  have he : (a : Int) - b - 63 = ((a - (b + 63) : Nat) : Int) := by omega
  have he2 : 0 ≤ (a : Int) - b - 63 := by omega
  obtain ⟨E, hE⟩ : ∃ E : Int, (a : Int) - b - 63 = E := ⟨_, rfl⟩
  obtain ⟨K, hK⟩ : ∃ K : Nat, a - (b + 63) = K := ⟨_, rfl⟩
  rw [hK] at HSH he
  rw [hE] at he he2 ⊢
  clear h h' hA hC hA0 hC0 ha hb l2 l3
  have hE1 : -2000 ≤ E := by omega
  have hE2 : E ≤ 2000 := by omega
  rw [← he] at HSH
  have he3 : decide (E < 0) = false := decide_eq_false (by omega)
  clear he he2
  clear hA' hC' hK hc hd1 hd2
  go_enter Tryz.func70, Tryz.ntmps70
  go_wp2_with fail
  refine (HB1.out ()).mono ?_
  rintro r w' ⟨rfl, hw⟩
  rw [hw]
  clear HB1 hw w'
  go_wp2_with fail
  refine (HB2.out ()).mono ?_
  rintro r w' ⟨rfl, hw⟩
  rw [hw]
  clear HB2 hw w'
  go_wp2_with fail
  refine (HSH.out ()).mono ?_
  rintro r w1 ⟨v1, rfl, hb1, hv1⟩
  have H1 : Hid (Big w1 v1 C') := hv1
  have H2 : Hid (Big w1 (.slice ao la cap) A') := HX.out.below hb1 (Nat.le_refl _)
  have HW : Hid (Below w.heap.size w w1) := hb1
  have HC : Hid _ := fun wr (hb : Below w1.heap.size w1 wr) j (hj : j ≤ 63) => l0shl_big v1 C' (n + 65) j wr (H1.out.below hb (Nat.le_refl _)) HC1.out (by omega) (by omega)
  clear hb1 hv1 HSH HX
  go_wp2
  clear hE he3
  clear _ha' _hb' l0 l1 l4 l5
  go_loopw [0, 6, 7] (fun va q k wr => ∃ (j Q R : Nat), k = .int .i64 ((j : Int) - 1) ∧ j ≤ 64 ∧ q = .int .u64 (Q : Int) ∧ Hid (Div A' C' R Q j) ∧ Hid (Big wr va R) ∧ Below w1.heap.size w1 wr) (fun _ _ k _ => (intOf k + 1).toNat)
  case atStart => exact ⟨64, 0, A', rfl, Nat.le_refl _, rfl, div_start HAP.out.1, H2.out, Below.refl _ _⟩
  case round =>
    obtain ⟨j, Q, R, rfl, hj, rfl, HD, HR, hbe⟩ := hrel
    have hsz := hbe.size
    cases j with
    | zero =>
      obtain ⟨ra, rn, rcap, hrv, r1, r2, r3⟩ := HR.out.slice
      subst hrv
      have r4 : rcap ≤ 9223372036854775807 := r2
      have HN : Hid _ := fun s hs w => near_ratio A' C' R Q _ HD.out HC0.out HAP.out.2 hE1 hE2 s hs w
      have HM : Hid _ := fun w => HN.out (decide (0 < rn)) (decide_eq_decide.2 ⟨fun h => Nat.pos_of_ne_zero fun h' => Nat.ne_of_gt h (r3.2 h'), fun h => Nat.pos_of_ne_zero fun h' => Nat.ne_of_gt h (r3.1 h')⟩) w
      clear HN HD HR r2 r3
      go_wp2_with fail
      refine (HM.out _).mono ?_
      rintro r w' ⟨rfl, hw⟩
      rw [hw]
      clear hw w'
      go_wp2
      go_ret
      exact ⟨rfl, HW.out.trans (hbe.mono HW.out.size)⟩
    | succ j =>
      have c1 : (j : Int) ≤ 63 := by omega
      have HB : Hid (C' * 2 ^ j < 4294967296 ^ (n + 65 + 2)) := shl_more HC1.out (by omega)
      have HRL : Hid (R < 4294967296 ^ (n + 65 + 2)) := Nat.lt_of_le_of_lt (div_rest HD.out) (Nat.lt_of_lt_of_le HA1.out (Nat.pow_le_pow_right (by omega) (by omega)))
      have HOR : Hid _ := or_cast Q j HD.out.2.2.2 (by omega)
      go_wp2_with fail
      refine (HC.out _ hbe j (by omega)).mono ?_
      rintro r w2 ⟨v2, rfl, hb2, hv2⟩
      have HR2 : Hid _ := fun (_ : Unit) => HR.out.below hb2 (Nat.le_refl _)
      have HV2 : Hid _ := fun (_ : Unit) => hv2
      have HW2 : Hid (Below w1.heap.size w1 w2) := hbe.trans (hb2.mono hsz)
      clear hb2 hv2 hbe
      obtain ⟨D, hD⟩ : ∃ D : Nat, D = C' * 2 ^ j := ⟨_, rfl⟩
      rw [← hD] at HV2 HB
      have HDD : Hid (D = C' * 2 ^ j) := hD
      have HCM : Hid _ := fun (_ : Unit) => l0cmp_any _ _ R D w2 (HR2.out ()) (HV2.out ())
      clear hD
      by_cases hlt : R < D
      · have hcm : cmpI R D = -1 := cmpI_lt hlt
        rw [hcm] at HCM
        clear hcm
        go_wp2_with fail
        refine (HCM.out ()).mono ?_
        rintro r w3 ⟨hb3, rfl⟩
        have HW3 : Hid (Below w1.heap.size w1 w3) := HW2.out.trans (hb3.mono HW2.out.size)
        have HR3 : Hid _ := fun (_ : Unit) => (HR2.out ()).below hb3 (Nat.le_refl _)
        have HDV : Hid _ := fun (_ : Unit) => div_no HD.out (by rw [← HDD.out]; exact hlt)
        clear hb3 HCM hlt
        go_wp2
        go_roundw
        case rel => exact ⟨j, Q, R, rfl, by omega, rfl, HDV.out (), HR3.out (), HW3.out⟩
        case measure => simp only [intOf]; omega
      · have hcm : (0 : Int) ≤ cmpI R D := by unfold cmpI; split <;> (try split) <;> omega
        have HDV : Hid _ := fun (_ : Unit) => div_yes HD.out (by omega) (by rw [← HDD.out]; omega)
        rw [← HDD.out] at HDV
        have hle : D ≤ R := by omega
        generalize cmpI R D = cm at *
        clear hlt
        go_wp2_with fail
        refine (HCM.out ()).mono ?_
        rintro r w3 ⟨hb3, rfl⟩
        have HW3 : Hid (Below w1.heap.size w1 w3) := HW2.out.trans (hb3.mono HW2.out.size)
        have HSB : Hid _ := fun (_ : Unit) => l0sub_any _ _ R D (n + 65 + 2) w3 ((HR2.out ()).below hb3 (Nat.le_refl _)) ((HV2.out ()).below hb3 (Nat.le_refl _)) HRL.out (by omega) hle
        clear hb3 HCM hle
        go_wp2_with fail
        refine (HSB.out ()).mono ?_
        rintro r w4 ⟨v4, rfl, hb4, hv4⟩
        have HW4 : Hid (Below w1.heap.size w1 w4) := HW3.out.trans (hb4.mono HW3.out.size)
        have HV4 : Hid _ := fun (_ : Unit) => hv4
        have ho2 := HOR.out.2
        clear hb4 hv4 HSB
        go_wp2
        go_roundw
        case rel => exact ⟨j, Q ||| 2 ^ j, R - D, rfl, by omega, by rw [show (2 : Int) ^ j = ((2 ^ j : Nat) : Int) from (Int.natCast_pow 2 j).symm, HOR.out.1], HDV.out (), HV4.out (), HW4.out⟩
        case measure => simp only [intOf]; omega
theorem bits_ex (A n : Nat) (hA : A < 4294967296 ^ n) (hn : n < 20000) (h0 : 0 < A) : Bits A (A.log2 + 1) ∧ A.log2 + 1 ≤ 1000000 := by
  refine ⟨log_bits h0, ?_⟩
  rw [pow32] at hA
  have := (Nat.log2_lt (by omega)).2 hA
  omega
/-- The float nearest to A / C. -/
theorem l4ratio_any (v u : Value) (A C n : Nat) (w : World) (h : Big w v A) (h' : Big w u C) (hA : A < 4294967296 ^ n) (hC : C < 4294967296 ^ n) (hn : n < 20000) (hC0 : 0 < C)
    (hd : A = 0 ∨ ((A.log2 : Int) - C.log2 ≤ 1900 ∧ -1900 ≤ (A.log2 : Int) - C.log2)) :
    Calls Tryz.prog 70 #[v, u] w fun e w' => e = .returned (.float .f64 (if A = 0 then 0 else ratioW A C)) ∧ Below w.heap.size w w' := by
  by_cases h0 : A = 0
  · subst h0
    refine (l4ratio_zero v u w h).mono ?_
    rintro e w' ⟨rfl, rfl⟩
    rw [if_pos rfl]
    exact ⟨rfl, Below.refl _ _⟩
  · rw [if_neg h0]
    obtain ⟨d1, d2⟩ := hd.resolve_left h0
    obtain ⟨ha, ha'⟩ := bits_ex A n hA hn (by omega)
    obtain ⟨hb, hb'⟩ := bits_ex C n hC hn hC0
    unfold ratioW
    generalize hx : A.log2 = x at *
    generalize hy : C.log2 = y at *
    by_cases hc : x + 1 < y + 1 + 63
    · have hr := l4ratio_up v u A C n (x + 1) (y + 1) w h h' hA hC hn (by omega) hC0 ha hb (by omega) (by omega) ha' hb' hc
      rw [show y + 1 + 63 - (x + 1) = (-((x : Int) - y - 63)).toNat by omega, show (((x + 1 : Nat) : Int) - ((y + 1 : Nat) : Int) - 63) = (x : Int) - y - 63 by omega] at hr
      rw [show ((x : Int) - y - 63).toNat = 0 by omega, Nat.pow_zero, Nat.mul_one]
      exact hr
    · have hr := l4ratio_down v u A C n (x + 1) (y + 1) w h h' hA hC hn (by omega) hC0 ha hb (by omega) (by omega) ha' hb' (by omega)
      rw [show x + 1 - (y + 1 + 63) = ((x : Int) - y - 63).toNat by omega, show (((x + 1 : Nat) : Int) - ((y + 1 : Nat) : Int) - 63) = (x : Int) - y - 63 by omega] at hr
      rw [show (-((x : Int) - y - 63)).toNat = 0 by omega, Nat.pow_zero, Nat.mul_one]
      exact hr
end Go.Proofs.YtoedefjngipeiaaGreatDoor

/- l4decimal of the specification: the float nearest to digits times a power of ten. -/
namespace Go.Proofs.YtoedefjngipeiaaGreatDoor
open Go.ChangeShapes Go.WideShapes Go.RowKit

/-- The zeros ahead are struck. -/
def Strip (s r : ByteArray) : Prop := good 10 r.data.toList ∧ valN 10 r.data.toList = valN 10 s.data.toList ∧ r.size ≤ s.size
theorem strip_step (s r : ByteArray) (h : Strip s r) (h0 : 0 < r.size) (hz : r[0].toNat = 48) : Strip s (r.extract 1 r.size) := by
  obtain ⟨h1, h2, h3⟩ := h
  have hc := text_cons r h0
  refine ⟨by rw [hc] at h1; exact good_tail h1, ?_, by have := extract_one r h0; omega⟩
  rw [← h2]
  conv => rhs; rw [hc]
  rw [valN_zero 10 _ _ hz]
theorem strip_some (s r : ByteArray) (h : Strip s r) (h0 : 0 < r.size) (hz : r[0].toNat ≠ 48) : 10 ^ (r.size - 1) ≤ valN 10 s.data.toList ∧ valN 10 s.data.toList < 10 ^ r.size := by
  obtain ⟨h1, h2, h3⟩ := h
  have hc := text_cons r h0
  have hl : (r.extract 1 r.size).data.toList.length = r.size - 1 := by
    have := extract_one r h0
    have : (r.extract 1 r.size).data.toList.length = (r.extract 1 r.size).size := by simp
    omega
  have a := valN_good_lt 10 _ h1
  rw [show r.data.toList.length = r.size by simp] at a
  have b := valN_good_ge 10 r[0] (r.extract 1 r.size).data.toList (fun h => hz ((digN_zero _).1 h))
  rw [← hc, hl] at b
  rw [← h2]
  exact ⟨b, a⟩
theorem strip_none (s r : ByteArray) (h : Strip s r) (h0 : r.size = 0) : valN 10 s.data.toList = 0 := by
  rw [← h.2.1]
  have : r.data.toList = [] := List.length_eq_zero_iff.1 (by simpa using h0)
  rw [this]; exact valN_nil 10

set_option maxHeartbeats 3200000 in
set_option maxRecDepth 100000 in
theorem l4decimal_any (s : ByteArray) (e : Int) (w : World) (hs : s.size ≤ 1300) (hg : good 10 s.data.toList) (he1 : -200000 ≤ e) (he2 : e ≤ 200000) :
    Calls Tryz.prog 43 #[.string s, .int .i64 e] w fun r w' => r = .returned (.float .f64 (decW 10 (valN 10 s.data.toList) e)) ∧ Below w.heap.size w w' := by
  have HG : Hid (Strip s s) := ⟨hg, rfl, Nat.le_refl _⟩
  obtain ⟨N, HN⟩ : ∃ N : Nat, Hid (N ≤ 1300 ∧ 1300 ≤ N) := ⟨1300, ⟨by omega, by omega⟩⟩
  clear hg
  obtain ⟨V, hV⟩ : ∃ V, V = valN 10 s.data.toList := ⟨_, rfl⟩
  rw [← hV]
  have HE : Hid (valN 10 s.data.toList = V) := hV.symm
  clear hV
  go_enter Tryz.func43, Tryz.ntmps43
  go_wp2
  go_loopw [0] (fun a wr => ∃ r : ByteArray, a = .string r ∧ Hid (Strip s r) ∧ r.size ≤ s.size ∧ wr = w) (fun a _ => (match a with | .string r => r.size | _ => 0))
  case atStart => exact ⟨s, rfl, HG, Nat.le_refl _, rfl⟩
  case round =>
    obtain ⟨r, rfl, HS, hrs, rfl⟩ := hrel
    have hr13 : r.size ≤ 1300 := by omega
    have HL : Hid _ := fun w => l4big_any r 10 w (by omega) (by omega)
    rw [HS.out.2.1, HE.out] at HL
    by_cases h0 : 0 < r.size
    · have h0' : (0 : Int) < (r.size : Int) := by omega
      by_cases hz : r[0].toNat = 48
      · have b48 : ((r[0].toNat : Int) == 48) = true := beq_iff_eq.2 (by omega)
        have HN : Hid _ := fun (_ : Unit) => strip_step s r HS.out h0 hz
        have hsz := extract_one r h0
        clear HL hz
        go_wp2
        go_roundw
        case rel => exact ⟨r.extract 1 r.size, rfl, HN.out (), by omega, by first | rfl | trivial⟩
        case measure => show (r.extract 1 r.size).size < r.size; omega
      · have b48 : ((r[0].toNat : Int) == 48) = false := beq_eq_false_iff_ne.2 (by omega)
        obtain ⟨v1, v2⟩ := strip_some s r HS.out h0 hz
        rw [HE.out] at v1 v2
        have hVp : 0 < V := Nat.lt_of_lt_of_le (Nat.pow_pos (by omega)) v1
        have HV1 : Hid _ := fun (_ : Unit) => v1
        have HV2 : Hid _ := fun (_ : Unit) => v2
        clear hz v1 v2 HS
        go_wp2_with fail
        refine (HL.out _).mono ?_
        rintro x w1 ⟨v, rfl, hb1, hv1⟩
        have HB1 : Hid (Big w1 v V) := hv1
        have HW1 : Hid (Below wr.heap.size wr w1) := hb1
        obtain ⟨ao, la, cap, rfl, l1, l2, l3⟩ := hv1.slice
        have l0 : ((la : Int) == 0) = false := beq_eq_false_iff_ne.2 (by have := l3.1; omega)
        have l5 : cap ≤ 9223372036854775807 := l2
        clear hb1 hv1 HL l2 l3
        by_cases c1 : 400 < (r.size : Int) + e
        · have HX : Hid (decW 10 V e = iw false) := dec_over V e r.size (HV1.out ()) (by omega) (by omega)
          go_wp2_with (go_at_call 39; refine (l2inf_any _).mono ?_; rintro x w' ⟨rfl, rfl⟩)
          go_ret
          exact ⟨by rw [HX.out]; rfl, HW1.out⟩
        · by_cases c2 : (r.size : Int) + e < -400
          · have HX : Hid (decW 10 V e = 0) := dec_under V e r.size hVp (HV2.out ()) (by omega)
            go_wp2
            go_ret
            exact ⟨by rw [HX.out]; rfl, HW1.out⟩
          · have d1 : decide (400 < (r.size : Int) + e) = false := decide_eq_false c1
            have d2 : decide ((r.size : Int) + e < -400) = false := decide_eq_false c2
            have HD : Hid _ := fun (_ : Unit) => dec_within V e r.size (HV1.out ()) (HV2.out ()) (by omega) (by omega) (by omega)
            have HVB : Hid (V < 4294967296 ^ N) := by
              show V < 4294967296 ^ N
              have a1 : 10 ^ r.size ≤ 4294967296 ^ r.size := Nat.pow_le_pow_left (by omega) _
              have a2 : 4294967296 ^ r.size ≤ 4294967296 ^ N := Nat.pow_le_pow_right (by have := HN.out; omega) (by have := HN.out; omega)
              exact Nat.lt_of_lt_of_le (HV2.out ()) (Nat.le_trans a1 a2)
            by_cases c3 : 0 ≤ e
            · obtain ⟨K, rfl⟩ : ∃ K : Nat, e = (K : Int) := ⟨e.toNat, by omega⟩
              have HX : Hid (decW 10 V K = ratioW (V * 10 ^ K) 1) := by
                show decW 10 V K = ratioW (V * 10 ^ K) 1
                unfold decW
                rw [if_neg (by omega), Int.toNat_natCast, show (-(K : Int)).toNat = 0 by omega, Nat.pow_zero]
              have HD' := HD.out ()
              rw [Int.toNat_natCast, show (-(K : Int)).toNat = 0 by omega, Nat.pow_zero] at HD'
              have HDD : Hid _ := fun (_ : Unit) => HD'
              have HK : Hid (10 ^ K < 4294967296 ^ (N + 500)) := Nat.lt_of_lt_of_le (pow_small 10 K (by have := HN.out; omega)) (Nat.pow_le_pow_right (by have := HN.out; omega) (by have := HN.out; omega))
              have HT : Hid (V * 10 ^ K < 4294967296 ^ (N + (N + 500))) := mul_bound HVB.out HK.out
              have HPW : Hid _ := fun (_ : Unit) => l0pow_any 10 K w1 (by omega) (by omega)
              clear HD HD'
              go_wp2_with fail
              refine (HPW.out ()).mono ?_
              rintro x w2 ⟨v2, rfl, hb2, hv2⟩
              have HTM : Hid _ := fun (_ : Unit) => l0times_any _ _ V (10 ^ K) (N + 500) w2 (HB1.out.below hb2 (Nat.le_refl _)) hv2 (Nat.lt_of_lt_of_le HVB.out (Nat.pow_le_pow_right (by have := HN.out; omega) (by have := HN.out; omega))) HK.out (by have := HN.out; omega)
              have HW2 : Hid (Below wr.heap.size wr w2) := HW1.out.trans (hb2.mono HW1.out.size)
              clear hb2 hv2 HPW
              go_wp2_with fail
              refine (HTM.out ()).mono ?_
              rintro x w3 ⟨v3, rfl, hb3, hv3⟩
              have HB3 : Hid (Big w3 v3 (V * 10 ^ K)) := hv3
              have HW3 : Hid (Below wr.heap.size wr w3) := HW2.out.trans (hb3.mono HW2.out.size)
              clear hb3 hv3 HTM
              go_wp2_with fail
              have HRT : Hid _ := fun (_ : Unit) => l4ratio_any v3 (.slice (some ⟨w3.heap.size, 0, none⟩) 1 1) (V * 10 ^ K) 1 (N + (N + 500)) (w3.alloc (.cells #[.int .u64 1] 40)) (HB3.out.below ((Below.refl _ w3).alloc (Nat.le_refl _) _) (Nat.le_refl _)) (Big.one w3 40) HT.out (Nat.one_lt_pow (by have := HN.out; omega) (by have := HN.out; omega)) (by have := HN.out; omega) (by have := HN.out; omega) (.inr (HDD.out ()))
              rw [if_neg (Nat.ne_of_gt (Nat.mul_pos hVp (Nat.pow_pos (by have := HN.out; omega))))] at HRT
              refine (HRT.out ()).mono ?_
              rintro x w4 ⟨rfl, hb4⟩
              have HW4 : Hid (Below wr.heap.size wr w4) := (HW3.out.alloc HW3.out.size _).trans (hb4.mono (by have := HW3.out.size; simp; omega))
              clear hb4 HRT
              go_wp2
              go_ret
              exact ⟨by rw [HX.out]; rfl, HW4.out⟩
            · obtain ⟨K, hK⟩ : ∃ K : Nat, -e = (K : Int) := ⟨(-e).toNat, by omega⟩
              have HX : Hid (decW 10 V e = ratioW V (10 ^ K)) := by
                show decW 10 V e = ratioW V (10 ^ K)
                unfold decW
                rw [if_neg (by omega), hK, Int.toNat_natCast, show e.toNat = 0 by omega, Nat.pow_zero, Nat.mul_one]
              have HD' := HD.out ()
              rw [hK, Int.toNat_natCast, show e.toNat = 0 by omega, Nat.pow_zero, Nat.mul_one] at HD'
              have HDD : Hid _ := fun (_ : Unit) => HD'
              have HK : Hid (10 ^ K < 4294967296 ^ (N + 500)) := Nat.lt_of_lt_of_le (pow_small 10 K (by have := HN.out; omega)) (Nat.pow_le_pow_right (by have := HN.out; omega) (by have := HN.out; omega))
              have HPW : Hid _ := fun (_ : Unit) => l0pow_any 10 K w1 (by omega) (by omega)
              have c4 : decide (0 ≤ e) = false := decide_eq_false c3
              clear HD HD' c3
              go_wp2_with fail
              refine (HPW.out ()).mono ?_
              rintro x w2 ⟨v2, rfl, hb2, hv2⟩
              have HRT : Hid _ := fun (_ : Unit) => l4ratio_any _ _ V (10 ^ K) (N + 500) w2 (HB1.out.below hb2 (Nat.le_refl _)) hv2 (Nat.lt_of_lt_of_le HVB.out (Nat.pow_le_pow_right (by have := HN.out; omega) (by have := HN.out; omega))) HK.out (by have := HN.out; omega) (Nat.pow_pos (by have := HN.out; omega)) (.inr (HDD.out ()))
              rw [if_neg (Nat.ne_of_gt hVp)] at HRT
              have HW2 : Hid (Below wr.heap.size wr w2) := HW1.out.trans (hb2.mono HW1.out.size)
              clear hb2 hv2 HPW
              go_wp2_with fail
              refine (HRT.out ()).mono ?_
              rintro x w3 ⟨rfl, hb3⟩
              have HW3 : Hid (Below wr.heap.size wr w3) := HW2.out.trans (hb3.mono HW2.out.size)
              clear hb3 HRT
              go_wp2
              go_ret
              exact ⟨by rw [HX.out]; rfl, HW3.out⟩
    · obtain hz : r.size = 0 := by omega
      have hV0 : V = 0 := by rw [← HE.out]; exact strip_none s r HS.out hz
      subst hV0
      clear HS HE
      go_wp2_with fail
      refine (HL.out _).mono ?_
      rintro x w1 ⟨v, rfl, hb1, hv1⟩
      obtain ⟨ao, la, cap, rfl, l1, l2, l3⟩ := hv1.slice
      obtain rfl : la = 0 := l3.2 rfl
      have HW1 : Hid (Below wr.heap.size wr w1) := hb1
      clear hb1 hv1 HL l2 l3
      go_wp2
      go_ret
      exact ⟨rfl, HW1.out⟩
end Go.Proofs.YtoedefjngipeiaaGreatDoor

/- A drawn float of the specification. -/
namespace Go.Proofs.YtoedefjngipeiaaGreatDoor
open Go.ChangeShapes Go.WideShapes Go.RowKit
open Ieee (double)

theorem decW_lt (V : Nat) (e : Int) : decW 10 V e < 18446744073709551616 := by
  unfold decW
  split
  · omega
  · unfold ratioW ratioAt
    split <;> exact fw_word _ _ _
theorem DS.drewN {B : Nat} {w0 w : World} {a : Option Addr} {len cap : Nat} {n : Int} (h : DS B w0 w a len cap n) (k : Nat) : DS B w0 (w.drewN k) a len cap n := h.below (below_drewN (Below.refl _ _) k)
theorem whole_rep (v : Int) (h0 : 0 ≤ v) (h1 : v < 9007199254740992) : ∃ k : Nat, v = (k : Int) ∧ Rep k 0 ∧ floatOfInt .f64 v = fw false k 0 := by
  obtain ⟨k, rfl⟩ := Int.eq_ofNat_of_zero_le h0
  exact ⟨k, rfl, rep_whole k (by omega), float_of k⟩

theorem floats_at (cs : List Nat) (h : ∀ f ∈ cs, f < 18446744073709551616) (n : Nat) (hn : n < cs.length) : ∃ f, ((cs.map (Value.float .f64)).toArray)[n]? = some (.float .f64 f) ∧ f < 18446744073709551616 := by
  refine ⟨cs[n], ?_, h _ (List.getElem_mem hn)⟩
  simp [List.getElem?_eq_getElem hn]

set_option maxHeartbeats 4000000 in
set_option maxRecDepth 100000 in
theorem flt_ds (B : Nat) (w0 w : World) (a : Option Addr) (len cap : Nat) (m : Int) (h : DS B w0 w a len cap m) (hm : m ≤ 600000000) :
    Calls Tryz.prog 44 #[.pointer (some ⟨B, 0, none⟩)] w fun e w' => ∃ x : Nat, x < 18446744073709551616 ∧ e = .returned (.float .f64 x) ∧ DS B w0 w' a len cap (m + 50) := by
  have HP : Hid _ := fun (_ : Unit) => pick_ds B w0 w a len cap m 9 h (by omega) (by omega) (by omega)
  clear h
  go_enter Tryz.func44, Tryz.ntmps44
  go_wp2_with fail
  refine (HP.out ()).mono ?_
  rintro e w1 ⟨x, hx0, hx1, rfl, hd1⟩
  have H1 : Hid _ := fun (_ : Unit) => hd1
  clear HP hd1
  have hx : x = 0 ∨ x = 1 ∨ x = 2 ∨ x = 3 ∨ x = 4 ∨ x = 5 ∨ x = 6 ∨ x = 7 ∨ x = 8 := by omega
  clear hx0 hx1
  rcases hx with rfl | rfl | rfl | rfl | rfl | rfl | rfl | rfl | rfl
  · go_wp2_with fail
    refine (bits_ds B w0 w1 a len cap _ (H1.out ()) (by omega)).mono ?_
    rintro e w2 ⟨v, hv, rfl, hd2⟩
    have H2 : Hid _ := fun (_ : Unit) => hd2
    clear hv hd2
    go_wp2_with fail
    refine (specFrom_any v w2).mono ?_
    rintro e w3 ⟨b, hb, rfl, k, rfl⟩
    have HB : Hid _ := hb.1
    clear hb
    go_wp2
    go_ret
    exact ⟨b, HB.out, rfl, ((H2.out ()).drewN k).mono (by omega)⟩
  · go_wp2_with fail
    refine (pick_ds B w0 w1 a len cap _ 1000 (H1.out ()) (by omega) (by omega) (by omega)).mono ?_
    rintro e w2 ⟨v, hv0, hv1, rfl, hd2⟩
    have H2 : Hid _ := fun (_ : Unit) => hd2
    clear hd2
    go_wp2_with fail
    refine (pick_ds B w0 w2 a len cap _ 1000 (H2.out ()) (by omega) (by omega) (by omega)).mono ?_
    rintro e w3 ⟨u, hu0, hu1, rfl, hd3⟩
    have H3 : Hid _ := fun (_ : Unit) => hd3
    clear hd3
    obtain ⟨k, hk, hkr, hkf⟩ := whole_rep v hv0 (by omega)
    obtain ⟨l, hl, hlr, hlf⟩ := whole_rep (1 + u) (by omega) (by omega)
    obtain ⟨r, hr, hrl⟩ := div_rep false false k l 0 0 hkr hlr (by omega)
    have hrun := run_valid (P := Tryz.prog) .quo 23 _ _ _ hr
    have HRL : Hid _ := hrl
    clear hr hrl hkr hlr hk hl
    go_wp2
    go_ret
    exact ⟨r, HRL.out, rfl, (H3.out ()).mono (by omega)⟩
  · go_wp2_with fail
    refine (pick_ds B w0 w1 a len cap _ 2048 (H1.out ()) (by omega) (by omega) (by omega)).mono ?_
    rintro e w2 ⟨v, hv0, hv1, rfl, hd2⟩
    have H2 : Hid _ := fun (_ : Unit) => hd2
    clear hd2
    go_wp2_with fail
    refine (pick_ds B w0 w2 a len cap _ 5 (H2.out ()) (by omega) (by omega) (by omega)).mono ?_
    rintro e w3 ⟨u, hu0, hu1, rfl, hd3⟩
    have H3 : Hid _ := fun (_ : Unit) => hd3
    clear hd3
    go_wp2_with fail
    refine (specFrom_any _ w3).mono ?_
    rintro e w4 ⟨b, hb, rfl, k, rfl⟩
    have HB : Hid _ := hb.1
    clear hb
    go_wp2
    go_ret
    exact ⟨b, HB.out, rfl, ((H3.out ()).drewN k).mono (by omega)⟩
  · go_wp2_with fail
    refine (bits_ds B w0 w1 a len cap _ (H1.out ()) (by omega)).mono ?_
    rintro e w2 ⟨v, hv, rfl, hd2⟩
    have H2 : Hid _ := fun (_ : Unit) => hd2
    clear hv hd2
    go_wp2_with fail
    refine (pick_ds B w0 w2 a len cap _ 52 (H2.out ()) (by omega) (by omega) (by omega)).mono ?_
    rintro e w3 ⟨u, hu0, hu1, rfl, hd3⟩
    have H3 : Hid _ := fun (_ : Unit) => hd3
    clear hd3
    go_wp2_with fail
    refine (specFrom_any _ w3).mono ?_
    rintro e w4 ⟨b, hb, rfl, k, rfl⟩
    have HB : Hid _ := hb.1
    clear hb
    go_wp2
    go_ret
    exact ⟨b, HB.out, rfl, ((H3.out ()).drewN k).mono (by omega)⟩
  · go_wp2_with fail
    refine (pick_ds B w0 w1 a len cap _ 100000 (H1.out ()) (by omega) (by omega) (by omega)).mono ?_
    rintro e w2 ⟨v, hv0, hv1, rfl, hd2⟩
    have H2 : Hid _ := fun (_ : Unit) => hd2
    clear hd2
    obtain ⟨k, hk, hkr, hkf⟩ := whole_rep v hv0 (by omega)
    obtain ⟨r, hr, hrl⟩ := div_rep false false k 100 0 0 hkr (rep_whole 100 (by omega)) (by omega)
    rw [← bits_100] at hr
    have hrun := run_valid (P := Tryz.prog) .quo 23 _ _ _ hr
    have HRL : Hid _ := hrl
    clear hr hrl hkr hk
    go_wp2
    go_ret
    exact ⟨r, HRL.out, rfl, (H2.out ()).mono (by omega)⟩
  · go_wp2_with fail
    refine (bits_ds B w0 w1 a len cap _ (H1.out ()) (by omega)).mono ?_
    rintro e w2 ⟨v, hv, rfl, hd2⟩
    have H2 : Hid _ := fun (_ : Unit) => hd2
    have hfo := floatOf_is v
    have HWL : Hid (wordI v < 18446744073709551616) := fw_word _ _ _
    clear hv hd2
    generalize wordI v = W at *
    go_wp2
    go_ret
    exact ⟨W, HWL.out, rfl, (H2.out ()).mono (by omega)⟩
  · obtain ⟨b, hbn, hbl, hrn⟩ := run_nan (P := Tryz.prog) 23 w1
    have hr1 := run_valid (P := Tryz.prog) .quo 23 4607182418800017408 0 (iw false) (one_by_zero false)
    have hr2 := run_valid (P := Tryz.prog) .quo 23 13830554455654793216 0 (iw true) minus_one_by_zero
    have hr3 := fun w => run_neg 0 w
    have HIL : Hid (iw false < 18446744073709551616 ∧ iw true < 18446744073709551616 ∧ Op.negFloat .f64 0 < 18446744073709551616) := ⟨by decide, by decide, by decide⟩
    have HBL : Hid (b < 18446744073709551616) := hbl
    have HB : Hid _ := fun (O : Obj) => (H1.out ()).below (((Below.refl _ _).drew).alloc (Nat.le_refl _) O)
    have hB := (H1.out ()).fresh
    clear hbn hbl
    generalize iw false = I1 at *
    generalize iw true = I2 at *
    generalize Op.negFloat .f64 0 = I3 at *
    go_wp2_with fail
    refine (pick_ds B _ _ a len cap _ 20 (HB.out _).self (by omega) (by omega) (by omega)).mono ?_
    rintro e w2 ⟨y, hy0, hy1, rfl, hd2⟩
    obtain ⟨n, rfl⟩ := Int.eq_ofNat_of_zero_le hy0
    have hn : n < 20 := by omega
    obtain ⟨f, hf, hfl⟩ : ∃ f, w2.cell? ⟨w1.heap.size, n, none⟩ = some (.float .f64 f) ∧ f < 18446744073709551616 := by
      obtain ⟨f, h1, h2⟩ := floats_at [0, I3, I1, I2, b, 4936209963552724370, 4950912855330343670, 1, 4503599627370496, 9218868437227405311, 4845873199050653696, 4890909195324358656, 14114281232179134464, 4890909195324358655, 4591870180066957722, 4599075939470750515, 4907451598986591450, 4921056587992461136, 4517329193108106637, 4518273666404680566] (by
        obtain ⟨i1, i2, i3⟩ := HIL.out
        have i4 := HBL.out
        intro f hf
        simp only [List.mem_cons, List.not_mem_nil, or_false] at hf
        rcases hf with rfl | rfl | rfl | rfl | rfl | rfl | rfl | rfl | rfl | rfl | rfl | rfl | rfl | rfl | rfl | rfl | rfl | rfl | rfl | rfl <;> first | assumption | omega) n hn
      refine ⟨f, ?_, h2⟩
      rw [hd2.cell ⟨w1.heap.size, n, none⟩ (by simp) hB]
      exact (World.cell?_alloc_mark (w := w1.drew) ..).trans h1
    have H2 : Hid _ := fun (_ : Unit) => (HB.out _).join hd2
    have HFL : Hid _ := hfl
    have HNL : Hid _ := neg_lt f hfl
    have hrn2 := fun w => run_neg f w
    clear hd2 HB hfl hr1 hr2 hr3 hrn hy0
    generalize Op.negFloat .f64 f = g at *
    go_wp2_with fail
    refine (pick_ds B w0 w2 a len cap _ 3 (H2.out ()) (by omega) (by omega) (by omega)).mono ?_
    rintro e w3 ⟨u, hu0, hu1, rfl, hd3⟩
    have H3 : Hid _ := fun (_ : Unit) => hd3
    clear hd3
    by_cases hu : u = 0
    · subst hu
      go_wp2
      go_ret
      exact ⟨g, HNL.out, rfl, (H3.out ()).mono (by omega)⟩
    · have hu' : (u == 0) = false := beq_eq_false_iff_ne.2 hu
      go_wp2
      go_ret
      exact ⟨f, HFL.out, rfl, (H3.out ()).mono (by omega)⟩
  · go_wp2_with fail
    refine (pick_ds B w0 w1 a len cap _ 17 (H1.out ()) (by omega) (by omega) (by omega)).mono ?_
    rintro e w2 ⟨v, hv0, hv1, rfl, hd2⟩
    have H2 : Hid _ := fun (_ : Unit) => hd2
    clear hd2
    obtain ⟨k, hk⟩ : ∃ k : Nat, 1 + v = (k : Int) := ⟨(1 + v).toNat, by omega⟩
    have hk1 : 1 ≤ k := by omega
    have hk2 : k ≤ 17 := by omega
    go_wp2_with fail
    refine (l7digits_ds B w0 w2 a len cap _ k (H2.out ()) (by omega) hk1 (by omega)).mono ?_
    rintro e w3 ⟨s, hs, hg, rfl, hd3⟩
    have H3 : Hid _ := fun (_ : Unit) => And.intro hg hd3
    clear hg hd3
    go_wp2_with fail
    refine (pick_ds B w0 w3 a len cap _ 60 (H3.out ()).2 (by omega) (by omega) (by omega)).mono ?_
    rintro e w4 ⟨u, hu0, hu1, rfl, hd4⟩
    have H4 : Hid _ := fun (_ : Unit) => hd4
    clear hd4
    go_wp2_with fail
    refine (l4decimal_any s _ w4 (by omega) (H3.out ()).1 (by omega) (by omega)).mono ?_
    rintro e w5 ⟨rfl, hb5⟩
    have H5 : Hid _ := fun (_ : Unit) => (H4.out ()).below hb5
    have HDL : Hid _ := decW_lt (valN 10 s.data.toList) (u - 40)
    clear hb5
    generalize decW 10 (valN 10 s.data.toList) (u - 40) = Z at *
    go_wp2
    go_ret
    exact ⟨Z, HDL.out, rfl, (H5.out ()).mono (by omega)⟩
  · go_wp2_with fail
    refine (pick_ds B w0 w1 a len cap _ 4096 (H1.out ()) (by omega) (by omega) (by omega)).mono ?_
    rintro e w2 ⟨v, hv0, hv1, rfl, hd2⟩
    have H2 : Hid _ := fun (_ : Unit) => hd2
    clear hd2
    obtain ⟨k, hk, hkr, hkf⟩ := whole_rep v hv0 (by omega)
    have hneg := neg_rep false k 0 hkr
    have hmul := mul_rep true k 0 hkr (-3) (by omega) (by omega)
    rw [← bits_eighth] at hmul
    have hrun := run_valid (P := Tryz.prog) .mul 23 _ _ _ hmul
    have hrn := fun w => run_neg (fw false k 0) w
    rw [hneg] at hrn
    have HFW : Hid (fw true k (0 + -3) < 18446744073709551616) := fw_word _ _ _
    have e3 : (!false) = true := rfl
    rw [e3] at hrn
    clear hmul hkr hk hneg
    generalize fw true k (0 + -3) = Z at *
    generalize fw true k 0 = Y at *
    go_wp2
    go_ret
    exact ⟨Z, HFW.out, rfl, (H2.out ()).mono (by omega)⟩
end Go.Proofs.YtoedefjngipeiaaGreatDoor

