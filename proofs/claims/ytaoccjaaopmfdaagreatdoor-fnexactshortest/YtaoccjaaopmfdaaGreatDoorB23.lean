import Derived.Test.YtaoccjaaopmfdaaGreatDoorB21
import Derived.Test.YtaoccjaaopmfdaaGreatDoorB03
import Derived.Test.YtaoccjaaopmfdaaGreatDoorB22
import Derived.Test.YtaoccjaaopmfdaaGreatDoorB14
/- What l4ratio of the specification answers: plain. -/
namespace Go.Proofs.YtaoccjaaopmfdaaGreatDoor
open Go.ChangeShapes Go.WideShapes Go.RowKit

theorem bits_log {A n : Nat} (h : Bits A n) (h0 : 0 < A) : n = A.log2 + 1 := by
  obtain ⟨h1, h2, h3⟩ := bits_pos h h0
  have := (Nat.log2_eq_iff (by omega)).2 ⟨h2, by rw [show n - 1 + 1 = n by omega]; exact h3⟩
  omega
theorem log_bits {A : Nat} (h0 : 0 < A) : Bits A (A.log2 + 1) :=
  .inr ⟨by omega, by rw [Nat.add_sub_cancel]; exact Nat.log2_self_le (by omega), Nat.lt_log2_self⟩
theorem pow_bound (k : Nat) (h : k ≤ 64) : 2 ^ k < 4294967296 ^ 3 := by
  have h1 : 2 ^ k ≤ 2 ^ 64 := Nat.pow_le_pow_right (by omega) h
  have : (2 : Nat) ^ 64 < 4294967296 ^ 3 := by decide
  omega

end Go.Proofs.YtaoccjaaopmfdaaGreatDoor

/- l0bits of the specification. -/
namespace Go.Proofs.YtaoccjaaopmfdaaGreatDoor
open Go.ChangeShapes Go.WideShapes Go.RowKit

set_option maxHeartbeats 1600000 in
set_option maxRecDepth 100000 in
theorem l0bits_any (v : Value) (A n : Nat) (w : World) (h : Big w v A) (hA : A < 4294967296 ^ n) (hn : n < 1000000) :
    Calls Tryz.prog 115 #[v] w fun e w' => w' = w ∧ ∃ n : Nat, e = .returned (.int .i64 n) ∧ Bits A n ∧ n ≤ 32000000 := by
  obtain ⟨ls, h1, h2, h3, rfl⟩ := h
  have hlen := Nat.lt_of_le_of_lt (trim_len h3 hA) hn
  obtain ⟨ao, cap, rfl, hcap, hmx, h4⟩ := h1
  by_cases hnil : ls = []
  · subst hnil
    go_enter Tryz.func115, Tryz.ntmps115
    go_wp2
    go_ret
    exact ⟨rfl, 0, rfl, .inl ⟨rfl, rfl⟩, by omega⟩
  · have hpos : 0 < ls.length := List.length_pos_iff.2 hnil
    rcases h4 with ⟨_, h4⟩ | ⟨g, rfl, hg, hcl⟩
    · omega
    have hx := hcl (ls.length - 1) (by omega)
    have htop := (trim_last h3 hnil).2
    have hlim : ls.getD (ls.length - 1) 0 < 4294967296 := by
      have hlt : ls.length - 1 < ls.length := by omega
      have : ls.getD (ls.length - 1) 0 = ls[ls.length - 1] := by simp [List.getElem?_eq_getElem hlt]
      rw [this]; exact h2 _ (List.getElem_mem hlt)
    have HT : Hid _ := bits_top ls h2 hnil
    have e0 : ((ls.length : Int) == 0) = false := beq_eq_false_iff_ne.2 (by omega)
    generalize ls.getD (ls.length - 1) 0 = t at *
    clear hcl h3 h2 hA hnil
    generalize bval ls = A at *
    generalize ls.length = L at *
    obtain ⟨l, rfl⟩ : ∃ l, L = l + 1 := ⟨L - 1, by omega⟩
    rw [Nat.add_sub_cancel] at *
    go_enter Tryz.func115, Tryz.ntmps115
    go_wp2
    go_loop [3, 4] (fun nv xv => ∃ j : Nat, nv = .int .i64 (32 * (l : Int) + j) ∧ xv = .int .u64 ((t / 2 ^ j : Nat) : Int) ∧ j ≤ 32 ∧ Hid (0 < j → 2 ^ (j - 1) ≤ t)) (fun _ xv => (intOf xv).toNat)
    case atStart => exact ⟨0, by simp, by simp, by omega, fun h => absurd h (by omega)⟩
    case round =>
      obtain ⟨j, rfl, rfl, hj, HJ⟩ := hrel
      by_cases hp : 0 < t / 2 ^ j
      · have hj2 := few_halves32 t j hlim hp
        have hh := half_cast t j
        have HJ2 : Hid (2 ^ j ≤ t) := by
          show _ ≤ _
          apply Classical.byContradiction; intro hc
          rw [Nat.div_eq_of_lt (by omega)] at hp; omega
        have HL : Hid (t / 2 ^ (j + 1) < t / 2 ^ j) := by show _ < _; rw [← half_again]; omega
        have hb : t / 2 ^ j ≤ t := Nat.div_le_self _ _
        generalize hy : t / 2 ^ (j + 1) = y at *
        generalize hz : t / 2 ^ j = z at *
        go_wp2
        exact ⟨⟨j + 1, by rw [show 32 * (l : Int) + ((j + 1 : Nat) : Int) = 32 * (l : Int) + j + 1 by omega], by rw [hy], by omega, fun _ => HJ2.out⟩, by simp only [intOf]; have := HL.out; omega⟩
      · have h0 : t / 2 ^ j = 0 := Nat.eq_zero_of_not_pos hp
        have ht2 : Hid (t < 2 ^ j) := by
          have := Nat.div_eq_zero_iff.1 h0
          have h2 := Nat.two_pow_pos j
          show _ < _
          omega
        rw [h0]
        go_wp2
        go_ret
        have hj0 : 0 < j := by
          apply Classical.byContradiction; intro hc
          obtain rfl : j = 0 := by omega
          have := ht2.out
          simp at this; omega
        exact ⟨rfl, 32 * l + j, by simp, HT.out j hj0 (HJ.out hj0) ht2.out, by omega⟩
end Go.Proofs.YtaoccjaaopmfdaaGreatDoor

/- What l4ratio's walk wants. -/
namespace Go.Proofs.YtaoccjaaopmfdaaGreatDoor
open Go.ChangeShapes Go.WideShapes Go.RowKit

/-- A big number's slice. -/
theorem Big.slice {w : World} {v : Value} {A : Nat} (h : Big w v A) : ∃ ao n cap, v = .slice ao n cap ∧ n ≤ cap ∧ cap ≤ maxLen ∧ (n = 0 ↔ A = 0) := by
  obtain ⟨ls, ⟨ao, cap, hv, h1, h2, _⟩, _, h3, rfl⟩ := h
  refine ⟨ao, ls.length, cap, hv, h1, h2, ?_⟩
  rw [← trim_nil_iff h3]
  exact List.length_eq_zero_iff
theorem bits_only {A n m : Nat} (h : Bits A n) (k : Bits A m) (h0 : 0 < A) : n = m := by rw [bits_log h h0, bits_log k h0]
/-- l0bits at a number whose digits are counted. -/
theorem l0bits_is (v : Value) (A n a : Nat) (w : World) (h : Big w v A) (hA : A < 4294967296 ^ n) (hn : n < 1000000) (h0 : 0 < A) (ha : Bits A a) :
    Calls Tryz.prog 115 #[v] w fun e w' => e = .returned (.int .i64 (a : Int)) ∧ w' = w := by
  refine (l0bits_any v A n w h hA hn).mono ?_
  rintro e w' ⟨rfl, m, rfl, hm, _⟩
  rw [bits_only hm ha h0]
  exact ⟨rfl, rfl⟩
theorem shl_more {A n k m : Nat} (h : A < 4294967296 ^ n) (hk : k ≤ 32 * m) : A * 2 ^ k < 4294967296 ^ (n + m) := by
  have h2 : 2 ^ k ≤ 4294967296 ^ m := by rw [pow32]; exact Nat.pow_le_pow_right (by omega) hk
  rw [Nat.pow_add]
  exact Nat.mul_lt_mul_of_lt_of_le h h2 (Nat.pow_pos (by omega))
/-- The end of the division, rounded. -/
theorem near_ratio (A C R q : Nat) (e : Int) (hd : Div A C R q 0) (hC : 0 < C) (hlo : C * 4611686018427387904 ≤ A) (h1 : -2000 ≤ e) (h2 : e ≤ 2000) (some : Bool) (hs : some = decide (0 < R)) (w : World) :
    Calls Tryz.prog 118 #[.int .u64 (q : Int), .int .i64 e, .bool some] w fun r w' => r = .returned (.float .f64 (ratioAt A C e)) ∧ w' = w := by
  have hq := hd.2.2.2
  obtain ⟨e1, e2⟩ := div_end hd hC
  have hq2 : 4611686018427387904 ≤ q := by
    rw [e1, Nat.le_div_iff_mul_le hC, Nat.mul_comm]; exact hlo
  unfold ratioAt
  rw [← e1, ← e2]
  by_cases h0 : R = 0
  · subst hs
    rw [if_pos h0, decide_eq_false (by omega)]
    have h := l2near_any (q : Int) e (by omega) (by omega) w
    rw [Int.toNat_natCast] at h
    exact h
  · subst hs
    rw [if_neg h0, decide_eq_true (by omega)]
    refine l2near_some _ (q : Int) e ?_ (by omega) (by omega) h1 h2 w
    intro j hj hj'
    rw [Int.toNat_natCast] at hj hj' ⊢
    have hj1 : j ≤ 1 := by
      apply Nat.le_of_not_lt
      intro h
      have : 2 ^ 2 ≤ 2 ^ j := Nat.pow_le_pow_right (by omega) h
      have : q * 2 ^ 2 ≤ q * 2 ^ j := Nat.mul_le_mul_left _ this
      omega
    have hst := fw_stick false q e (by omega)
    rcases (show j = 0 ∨ j = 1 by omega) with rfl | rfl
    · rw [Nat.pow_zero, Nat.mul_one, hst]
      congr 1
      omega
    · rw [Nat.pow_one, Nat.mul_comm q 2, odd_twice]
      rfl
end Go.Proofs.YtaoccjaaopmfdaaGreatDoor

/- l4ratio of the specification: the float nearest to a quotient. -/
namespace Go.Proofs.YtaoccjaaopmfdaaGreatDoor
open Go.ChangeShapes Go.WideShapes Go.RowKit

set_option maxHeartbeats 400000 in
theorem l4ratio_zero (v u : Value) (w : World) (h : Big w v 0) :
    Calls Tryz.prog 94 #[v, u] w fun e w' => e = .returned (.float .f64 0) ∧ w' = w := by
  obtain ⟨ao, n, cap, rfl, h1, h2, h3⟩ := h.slice
  obtain rfl : n = 0 := h3.2 rfl
  go_enter Tryz.func94, Tryz.ntmps94
  go_wp2
  go_ret
  exact ⟨rfl, rfl⟩
set_option maxHeartbeats 3200000 in
set_option maxRecDepth 100000 in
theorem l4ratio_up (v u : Value) (A C n a b : Nat) (w : World) (h : Big w v A) (h' : Big w u C) (hA : A < 4294967296 ^ n) (hC : C < 4294967296 ^ n) (hn : n < 20000) (hA0 : 0 < A) (hC0 : 0 < C) (ha : Bits A a) (hb : Bits C b)
    (hd1 : (a : Int) - b ≤ 1900) (hd2 : -1900 ≤ (a : Int) - b) (_ha' : a ≤ 1000000) (_hb' : b ≤ 1000000) (hc : a < b + 63) :
    Calls Tryz.prog 94 #[v, u] w fun e w' => e = .returned (.float .f64 (ratioAt (A * 2 ^ (b + 63 - a)) (C) ((a : Int) - b - 63))) ∧ Below w.heap.size w w' := by
  have HB1 : Hid _ := fun (_ : Unit) => l0bits_is v A n a w h hA (by omega) hA0 ha
  have HB2 : Hid _ := fun (_ : Unit) => l0bits_is u C n b w h' hC (by omega) hC0 hb
  have HA1 : Hid (A * 2 ^ (b + 63 - a) < 4294967296 ^ (n + 65)) := shl_more hA (by omega)
  have HC1 : Hid (C < 4294967296 ^ (n + 65)) := Nat.lt_of_lt_of_le hC (Nat.pow_le_pow_right (by omega) (by omega))
  have HC0 : Hid (0 < C) := hC0
  have HAP : Hid _ := apart (bits_shl (k := b + 63 - a) ha hA0) (bits_pos hb hC0) (by omega)
  have HSH : Hid _ := fun (_ : Unit) => l0shl_big v A n (b + 63 - a) w h hA (by omega) (by omega)
  have HX : Hid (Big w u C) := h'
  obtain ⟨ao, la, cap, rfl, l1, l2, l3⟩ := h.slice
  have l0 : (0 : Int) < (la : Int) := by have := l3.1; omega
  have l4 : ((la : Int) == 0) = false := beq_eq_false_iff_ne.2 (by omega)
  have l5 : cap ≤ 9223372036854775807 := l2
  generalize hA' : A * 2 ^ (b + 63 - a) = A' at *
  generalize hC' : C = C' at *
  have he : -((a : Int) - b - 63) = ((b + 63 - a : Nat) : Int) := by omega
  have he2 : (a : Int) - b - 63 < 0 := by omega
  obtain ⟨E, hE⟩ : ∃ E : Int, (a : Int) - b - 63 = E := ⟨_, rfl⟩
  obtain ⟨K, hK⟩ : ∃ K : Nat, b + 63 - a = K := ⟨_, rfl⟩
  rw [hK] at HSH he
  rw [hE] at he he2 ⊢
  clear h h' hA hC hA0 hC0 ha hb l2 l3
  have hE1 : -2000 ≤ E := by omega
  have hE2 : E ≤ 2000 := by omega
  clear hA' hC' hK hc hd1 hd2
  go_enter Tryz.func94, Tryz.ntmps94
  go_wp2_with fail
  refine (HB1.out ()).mono ?_
  rintro r w' ⟨rfl, hw⟩
  rw [hw]
  clear HB1 hw w'
  go_wp2_with fail
  refine (HB2.out ()).mono ?_
  rintro r w' ⟨rfl, hw⟩
  rw [hw]
  clear HB2 hw w'
  go_wp2_with fail
  refine (HSH.out ()).mono ?_
  rintro r w1 ⟨v1, rfl, hb1, hv1⟩
  have H1 : Hid (Big w1 v1 A') := hv1
  have H2 : Hid (Big w1 u C') := HX.out.below hb1 (Nat.le_refl _)
  have HW : Hid (Below w.heap.size w w1) := hb1
  have HC : Hid _ := fun wr (hb : Below w1.heap.size w1 wr) j (hj : j ≤ 63) => l0shl_big u C' (n + 65) j wr (H2.out.below hb (Nat.le_refl _)) HC1.out (by omega) (by omega)
  clear hb1 hv1 HSH HX
  go_wp2
  clear hE he he2
  clear _ha' _hb' l0 l1 l4 l5
  go_loopw [0, 6, 7] (fun va q k wr => ∃ (j Q R : Nat), k = .int .i64 ((j : Int) - 1) ∧ j ≤ 64 ∧ q = .int .u64 (Q : Int) ∧ Hid (Div A' C' R Q j) ∧ Hid (Big wr va R) ∧ Below w1.heap.size w1 wr) (fun _ _ k _ => (intOf k + 1).toNat)
  case atStart => exact ⟨64, 0, A', rfl, Nat.le_refl _, rfl, div_start HAP.out.1, H1.out, Below.refl _ _⟩
  case round =>
    obtain ⟨j, Q, R, rfl, hj, rfl, HD, HR, hbe⟩ := hrel
    have hsz := hbe.size
    cases j with
    | zero =>
      obtain ⟨ra, rn, rcap, hrv, r1, r2, r3⟩ := HR.out.slice
      subst hrv
      have r4 : rcap ≤ 9223372036854775807 := r2
      have HN : Hid _ := fun s hs w => near_ratio A' C' R Q _ HD.out HC0.out HAP.out.2 hE1 hE2 s hs w
      have HM : Hid _ := fun w => HN.out (decide (0 < rn)) (decide_eq_decide.2 ⟨fun h => Nat.pos_of_ne_zero fun h' => Nat.ne_of_gt h (r3.2 h'), fun h => Nat.pos_of_ne_zero fun h' => Nat.ne_of_gt h (r3.1 h')⟩) w
      clear HN HD HR r2 r3
      go_wp2_with fail
      refine (HM.out _).mono ?_
      rintro r w' ⟨rfl, hw⟩
      rw [hw]
      clear hw w'
      go_wp2
      go_ret
      exact ⟨rfl, HW.out.trans (hbe.mono HW.out.size)⟩
    | succ j =>
      have c1 : (j : Int) ≤ 63 := by omega
      have HB : Hid (C' * 2 ^ j < 4294967296 ^ (n + 65 + 2)) := shl_more HC1.out (by omega)
      have HRL : Hid (R < 4294967296 ^ (n + 65 + 2)) := Nat.lt_of_le_of_lt (div_rest HD.out) (Nat.lt_of_lt_of_le HA1.out (Nat.pow_le_pow_right (by omega) (by omega)))
      have HOR : Hid _ := or_cast Q j HD.out.2.2.2 (by omega)
      go_wp2_with fail
      refine (HC.out _ hbe j (by omega)).mono ?_
      rintro r w2 ⟨v2, rfl, hb2, hv2⟩
      have HR2 : Hid _ := fun (_ : Unit) => HR.out.below hb2 (Nat.le_refl _)
      have HV2 : Hid _ := fun (_ : Unit) => hv2
      have HW2 : Hid (Below w1.heap.size w1 w2) := hbe.trans (hb2.mono hsz)
      clear hb2 hv2 hbe
      obtain ⟨D, hD⟩ : ∃ D : Nat, D = C' * 2 ^ j := ⟨_, rfl⟩
      rw [← hD] at HV2 HB
      have HDD : Hid (D = C' * 2 ^ j) := hD
      have HCM : Hid _ := fun (_ : Unit) => l0cmp_any _ _ R D w2 (HR2.out ()) (HV2.out ())
      clear hD
      by_cases hlt : R < D
      · have hcm : cmpI R D = -1 := cmpI_lt hlt
        rw [hcm] at HCM
        clear hcm
        go_wp2_with fail
        refine (HCM.out ()).mono ?_
        rintro r w3 ⟨hb3, rfl⟩
        have HW3 : Hid (Below w1.heap.size w1 w3) := HW2.out.trans (hb3.mono HW2.out.size)
        have HR3 : Hid _ := fun (_ : Unit) => (HR2.out ()).below hb3 (Nat.le_refl _)
        have HDV : Hid _ := fun (_ : Unit) => div_no HD.out (by rw [← HDD.out]; exact hlt)
        clear hb3 HCM hlt
        go_wp2
        go_roundw
        case rel => exact ⟨j, Q, R, rfl, by omega, rfl, HDV.out (), HR3.out (), HW3.out⟩
        case measure => simp only [intOf]; omega
      · have hcm : (0 : Int) ≤ cmpI R D := by unfold cmpI; split <;> (try split) <;> omega
        have HDV : Hid _ := fun (_ : Unit) => div_yes HD.out (by omega) (by rw [← HDD.out]; omega)
        rw [← HDD.out] at HDV
        have hle : D ≤ R := by omega
        generalize cmpI R D = cm at *
        clear hlt
        go_wp2_with fail
        refine (HCM.out ()).mono ?_
        rintro r w3 ⟨hb3, rfl⟩
        have HW3 : Hid (Below w1.heap.size w1 w3) := HW2.out.trans (hb3.mono HW2.out.size)
        have HSB : Hid _ := fun (_ : Unit) => l0sub_any _ _ R D (n + 65 + 2) w3 ((HR2.out ()).below hb3 (Nat.le_refl _)) ((HV2.out ()).below hb3 (Nat.le_refl _)) HRL.out (by omega) hle
        clear hb3 HCM hle
        go_wp2_with fail
        refine (HSB.out ()).mono ?_
        rintro r w4 ⟨v4, rfl, hb4, hv4⟩
        have HW4 : Hid (Below w1.heap.size w1 w4) := HW3.out.trans (hb4.mono HW3.out.size)
        have HV4 : Hid _ := fun (_ : Unit) => hv4
        have ho2 := HOR.out.2
        clear hb4 hv4 HSB
        go_wp2
        go_roundw
        case rel => exact ⟨j, Q ||| 2 ^ j, R - D, rfl, by omega, by rw [show (2 : Int) ^ j = ((2 ^ j : Nat) : Int) from (Int.natCast_pow 2 j).symm, HOR.out.1], HDV.out (), HV4.out (), HW4.out⟩
        case measure => simp only [intOf]; omega
set_option maxHeartbeats 3200000 in
set_option maxRecDepth 100000 in
theorem l4ratio_down (v u : Value) (A C n a b : Nat) (w : World) (h : Big w v A) (h' : Big w u C) (hA : A < 4294967296 ^ n) (hC : C < 4294967296 ^ n) (hn : n < 20000) (hA0 : 0 < A) (hC0 : 0 < C) (ha : Bits A a) (hb : Bits C b)
    (hd1 : (a : Int) - b ≤ 1900) (hd2 : -1900 ≤ (a : Int) - b) (_ha' : a ≤ 1000000) (_hb' : b ≤ 1000000) (hc : b + 63 ≤ a) :
    Calls Tryz.prog 94 #[v, u] w fun e w' => e = .returned (.float .f64 (ratioAt (A) (C * 2 ^ (a - (b + 63))) ((a : Int) - b - 63))) ∧ Below w.heap.size w w' := by
  have HB1 : Hid _ := fun (_ : Unit) => l0bits_is v A n a w h hA (by omega) hA0 ha
  have HB2 : Hid _ := fun (_ : Unit) => l0bits_is u C n b w h' hC (by omega) hC0 hb
  have HA1 : Hid (A < 4294967296 ^ (n + 65)) := Nat.lt_of_lt_of_le hA (Nat.pow_le_pow_right (by omega) (by omega))
  have HC1 : Hid (C * 2 ^ (a - (b + 63)) < 4294967296 ^ (n + 65)) := shl_more hC (by omega)
  have HC0 : Hid (0 < C * 2 ^ (a - (b + 63))) := Nat.mul_pos hC0 (Nat.two_pow_pos _)
  have HAP : Hid _ := apart (bits_pos ha hA0) (bits_shl (k := a - (b + 63)) hb hC0) (by omega)
  have HSH : Hid _ := fun (_ : Unit) => l0shl_big u C n (a - (b + 63)) w h' hC (by omega) (by omega)
  have HX : Hid (Big w v A) := h
  obtain ⟨ao, la, cap, rfl, l1, l2, l3⟩ := h.slice
  have l0 : (0 : Int) < (la : Int) := by have := l3.1; omega
  have l4 : ((la : Int) == 0) = false := beq_eq_false_iff_ne.2 (by omega)
  have l5 : cap ≤ 9223372036854775807 := l2
  generalize hA' : A = A' at *
  generalize hC' : C * 2 ^ (a - (b + 63)) = C' at *
  have he : (a : Int) - b - 63 = ((a - (b + 63) : Nat) : Int) := by omega
  have he2 : 0 ≤ (a : Int) - b - 63 := by omega
  obtain ⟨E, hE⟩ : ∃ E : Int, (a : Int) - b - 63 = E := ⟨_, rfl⟩
  obtain ⟨K, hK⟩ : ∃ K : Nat, a - (b + 63) = K := ⟨_, rfl⟩
  rw [hK] at HSH he
  rw [hE] at he he2 ⊢
  clear h h' hA hC hA0 hC0 ha hb l2 l3
  have hE1 : -2000 ≤ E := by omega
  have hE2 : E ≤ 2000 := by omega
  rw [← he] at HSH
  have he3 : decide (E < 0) = false := decide_eq_false (by omega)
  clear he he2
  clear hA' hC' hK hc hd1 hd2
  go_enter Tryz.func94, Tryz.ntmps94
  go_wp2_with fail
  refine (HB1.out ()).mono ?_
  rintro r w' ⟨rfl, hw⟩
  rw [hw]
  clear HB1 hw w'
  go_wp2_with fail
  refine (HB2.out ()).mono ?_
  rintro r w' ⟨rfl, hw⟩
  rw [hw]
  clear HB2 hw w'
  go_wp2_with fail
  refine (HSH.out ()).mono ?_
  rintro r w1 ⟨v1, rfl, hb1, hv1⟩
  have H1 : Hid (Big w1 v1 C') := hv1
  have H2 : Hid (Big w1 (.slice ao la cap) A') := HX.out.below hb1 (Nat.le_refl _)
  have HW : Hid (Below w.heap.size w w1) := hb1
  have HC : Hid _ := fun wr (hb : Below w1.heap.size w1 wr) j (hj : j ≤ 63) => l0shl_big v1 C' (n + 65) j wr (H1.out.below hb (Nat.le_refl _)) HC1.out (by omega) (by omega)
  clear hb1 hv1 HSH HX
  go_wp2
  clear hE he3
  clear _ha' _hb' l0 l1 l4 l5
  go_loopw [0, 6, 7] (fun va q k wr => ∃ (j Q R : Nat), k = .int .i64 ((j : Int) - 1) ∧ j ≤ 64 ∧ q = .int .u64 (Q : Int) ∧ Hid (Div A' C' R Q j) ∧ Hid (Big wr va R) ∧ Below w1.heap.size w1 wr) (fun _ _ k _ => (intOf k + 1).toNat)
  case atStart => exact ⟨64, 0, A', rfl, Nat.le_refl _, rfl, div_start HAP.out.1, H2.out, Below.refl _ _⟩
  case round =>
    obtain ⟨j, Q, R, rfl, hj, rfl, HD, HR, hbe⟩ := hrel
    have hsz := hbe.size
    cases j with
    | zero =>
      obtain ⟨ra, rn, rcap, hrv, r1, r2, r3⟩ := HR.out.slice
      subst hrv
      have r4 : rcap ≤ 9223372036854775807 := r2
      have HN : Hid _ := fun s hs w => near_ratio A' C' R Q _ HD.out HC0.out HAP.out.2 hE1 hE2 s hs w
      have HM : Hid _ := fun w => HN.out (decide (0 < rn)) (decide_eq_decide.2 ⟨fun h => Nat.pos_of_ne_zero fun h' => Nat.ne_of_gt h (r3.2 h'), fun h => Nat.pos_of_ne_zero fun h' => Nat.ne_of_gt h (r3.1 h')⟩) w
      clear HN HD HR r2 r3
      go_wp2_with fail
      refine (HM.out _).mono ?_
      rintro r w' ⟨rfl, hw⟩
      rw [hw]
      clear hw w'
      go_wp2
      go_ret
      exact ⟨rfl, HW.out.trans (hbe.mono HW.out.size)⟩
    | succ j =>
      have c1 : (j : Int) ≤ 63 := by omega
      have HB : Hid (C' * 2 ^ j < 4294967296 ^ (n + 65 + 2)) := shl_more HC1.out (by omega)
      have HRL : Hid (R < 4294967296 ^ (n + 65 + 2)) := Nat.lt_of_le_of_lt (div_rest HD.out) (Nat.lt_of_lt_of_le HA1.out (Nat.pow_le_pow_right (by omega) (by omega)))
      have HOR : Hid _ := or_cast Q j HD.out.2.2.2 (by omega)
      go_wp2_with fail
      refine (HC.out _ hbe j (by omega)).mono ?_
      rintro r w2 ⟨v2, rfl, hb2, hv2⟩
      have HR2 : Hid _ := fun (_ : Unit) => HR.out.below hb2 (Nat.le_refl _)
      have HV2 : Hid _ := fun (_ : Unit) => hv2
      have HW2 : Hid (Below w1.heap.size w1 w2) := hbe.trans (hb2.mono hsz)
      clear hb2 hv2 hbe
      obtain ⟨D, hD⟩ : ∃ D : Nat, D = C' * 2 ^ j := ⟨_, rfl⟩
      rw [← hD] at HV2 HB
      have HDD : Hid (D = C' * 2 ^ j) := hD
      have HCM : Hid _ := fun (_ : Unit) => l0cmp_any _ _ R D w2 (HR2.out ()) (HV2.out ())
      clear hD
      by_cases hlt : R < D
      · have hcm : cmpI R D = -1 := cmpI_lt hlt
        rw [hcm] at HCM
        clear hcm
        go_wp2_with fail
        refine (HCM.out ()).mono ?_
        rintro r w3 ⟨hb3, rfl⟩
        have HW3 : Hid (Below w1.heap.size w1 w3) := HW2.out.trans (hb3.mono HW2.out.size)
        have HR3 : Hid _ := fun (_ : Unit) => (HR2.out ()).below hb3 (Nat.le_refl _)
        have HDV : Hid _ := fun (_ : Unit) => div_no HD.out (by rw [← HDD.out]; exact hlt)
        clear hb3 HCM hlt
        go_wp2
        go_roundw
        case rel => exact ⟨j, Q, R, rfl, by omega, rfl, HDV.out (), HR3.out (), HW3.out⟩
        case measure => simp only [intOf]; omega
      · have hcm : (0 : Int) ≤ cmpI R D := by unfold cmpI; split <;> (try split) <;> omega
        have HDV : Hid _ := fun (_ : Unit) => div_yes HD.out (by omega) (by rw [← HDD.out]; omega)
        rw [← HDD.out] at HDV
        have hle : D ≤ R := by omega
        generalize cmpI R D = cm at *
        clear hlt
        go_wp2_with fail
        refine (HCM.out ()).mono ?_
        rintro r w3 ⟨hb3, rfl⟩
        have HW3 : Hid (Below w1.heap.size w1 w3) := HW2.out.trans (hb3.mono HW2.out.size)
        have HSB : Hid _ := fun (_ : Unit) => l0sub_any _ _ R D (n + 65 + 2) w3 ((HR2.out ()).below hb3 (Nat.le_refl _)) ((HV2.out ()).below hb3 (Nat.le_refl _)) HRL.out (by omega) hle
        clear hb3 HCM hle
        go_wp2_with fail
        refine (HSB.out ()).mono ?_
        rintro r w4 ⟨v4, rfl, hb4, hv4⟩
        have HW4 : Hid (Below w1.heap.size w1 w4) := HW3.out.trans (hb4.mono HW3.out.size)
        have HV4 : Hid _ := fun (_ : Unit) => hv4
        have ho2 := HOR.out.2
        clear hb4 hv4 HSB
        go_wp2
        go_roundw
        case rel => exact ⟨j, Q ||| 2 ^ j, R - D, rfl, by omega, by rw [show (2 : Int) ^ j = ((2 ^ j : Nat) : Int) from (Int.natCast_pow 2 j).symm, HOR.out.1], HDV.out (), HV4.out (), HW4.out⟩
        case measure => simp only [intOf]; omega
theorem bits_ex (A n : Nat) (hA : A < 4294967296 ^ n) (hn : n < 20000) (h0 : 0 < A) : Bits A (A.log2 + 1) ∧ A.log2 + 1 ≤ 1000000 := by
  refine ⟨log_bits h0, ?_⟩
  rw [pow32] at hA
  have := (Nat.log2_lt (by omega)).2 hA
  omega
/-- The float nearest to A / C. -/
theorem l4ratio_any (v u : Value) (A C n : Nat) (w : World) (h : Big w v A) (h' : Big w u C) (hA : A < 4294967296 ^ n) (hC : C < 4294967296 ^ n) (hn : n < 20000) (hC0 : 0 < C)
    (hd : A = 0 ∨ ((A.log2 : Int) - C.log2 ≤ 1900 ∧ -1900 ≤ (A.log2 : Int) - C.log2)) :
    Calls Tryz.prog 94 #[v, u] w fun e w' => e = .returned (.float .f64 (if A = 0 then 0 else ratioW A C)) ∧ Below w.heap.size w w' := by
  by_cases h0 : A = 0
  · subst h0
    refine (l4ratio_zero v u w h).mono ?_
    rintro e w' ⟨rfl, rfl⟩
    rw [if_pos rfl]
    exact ⟨rfl, Below.refl _ _⟩
  · rw [if_neg h0]
    obtain ⟨d1, d2⟩ := hd.resolve_left h0
    obtain ⟨ha, ha'⟩ := bits_ex A n hA hn (by omega)
    obtain ⟨hb, hb'⟩ := bits_ex C n hC hn hC0
    unfold ratioW
    generalize hx : A.log2 = x at *
    generalize hy : C.log2 = y at *
    by_cases hc : x + 1 < y + 1 + 63
    · have hr := l4ratio_up v u A C n (x + 1) (y + 1) w h h' hA hC hn (by omega) hC0 ha hb (by omega) (by omega) ha' hb' hc
      rw [show y + 1 + 63 - (x + 1) = (-((x : Int) - y - 63)).toNat by omega, show (((x + 1 : Nat) : Int) - ((y + 1 : Nat) : Int) - 63) = (x : Int) - y - 63 by omega] at hr
      rw [show ((x : Int) - y - 63).toNat = 0 by omega, Nat.pow_zero, Nat.mul_one]
      exact hr
    · have hr := l4ratio_down v u A C n (x + 1) (y + 1) w h h' hA hC hn (by omega) hC0 ha hb (by omega) (by omega) ha' hb' (by omega)
      rw [show x + 1 - (y + 1 + 63) = ((x : Int) - y - 63).toNat by omega, show (((x + 1 : Nat) : Int) - ((y + 1 : Nat) : Int) - 63) = (x : Int) - y - 63 by omega] at hr
      rw [show (-((x : Int) - y - 63)).toNat = 0 by omega, Nat.pow_zero, Nat.mul_one]
      exact hr
end Go.Proofs.YtaoccjaaopmfdaaGreatDoor

