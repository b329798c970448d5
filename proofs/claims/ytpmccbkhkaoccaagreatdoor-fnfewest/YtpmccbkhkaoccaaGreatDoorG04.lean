import Derived.Test.YtpmccbkhkaoccaaGreatDoorG01
import Derived.Test.YtpmccbkhkaoccaaGreatDoorG03
import Derived.Test.YtpmccbkhkaoccaaGreatDoorB06
import Derived.Test.YtpmccbkhkaoccaaGreatDoorB18
import Derived.Test.YtpmccbkhkaoccaaGreatDoorB11
import Derived.Test.YtpmccbkhkaoccaaGreatDoorB13
import Derived.Test.YtpmccbkhkaoccaaGreatDoorB44
import Derived.Test.YtpmccbkhkaoccaaGreatDoorB31
import Derived.Test.YtpmccbkhkaoccaaGreatDoorB30
import Derived.Test.YtpmccbkhkaoccaaGreatDoorB32
import Derived.Test.YtpmccbkhkaoccaaGreatDoorB41
import Derived.Test.YtpmccbkhkaoccaaGreatDoorB43
import Derived.Test.YtpmccbkhkaoccaaGreatDoorB47
import Derived.Test.YtpmccbkhkaoccaaGreatDoorB08
import Derived.Test.YtpmccbkhkaoccaaGreatDoorB19
import Derived.Test.YtpmccbkhkaoccaaGreatDoorB40
import Derived.Test.YtpmccbkhkaoccaaGreatDoorB33
import Derived.Deep.RegionHeld3
/- The law on the fewest digits, walked: over whatever Shortest answers as it should. -/
namespace Go.Proofs.YtpmccbkhkaoccaaGreatDoor
open Go.ChangeShapes Go.WideShapes Go.RowKit
open Ieee (double)

/-- Around, at a number, as the law asks it: both texts miss the float. -/
theorem around_misses (s : Bool) (n : Nat) (p : Int) (j : Nat) (hc : Canon n p) (hn : 0 < n) (hj1 : 1 ≤ j) (hj2 : j ≤ 17)
    (h : ∀ (q k : Nat) (ds : ByteArray) (pow : Int), n = q * 2 ^ k → q % 2 = 1 → ExD ds pow q (p + k) → Misses (sgnB s ++ sciB (padB ds j) pow) (fw s n p) ∧ ∀ t2 r, cutV ds pow j true t2 r → Misses (sgnB s ++ sciB t2 r) (fw s n p)) (w : World) :
    Calls Tryz.prog 21 #[.float .f64 (fw s n p), .int .i64 (j : Int)] w fun e w' => ∃ t1 t2 B, Misses t1 (fw s n p) ∧ Misses t2 (fw s n p) ∧ e = .returned (.slice (some ⟨B, 0, none⟩) 2 2)
      ∧ w'.cell? ⟨B, 0, none⟩ = some (.string t1) ∧ w'.cell? ⟨B, 1, none⟩ = some (.string t2) ∧ Below w.heap.size w w' := by
  obtain ⟨q, k, hq, hq1, hX⟩ := l5exact_any n p hc hn
  have hfw : fw false n p = rung n p := by rw [fw_canon _ _ _ hc]; exact Nat.zero_add _
  have hfs : fw s n p = signBit s + rung n p := fw_canon _ _ _ hc
  rw [hfw] at hX
  have := around_at s (rung n p) q (p + k) j hj1 (by omega) (rung_lt n p hc) hX w
  rw [← hfs] at this
  refine this.mono ?_
  rintro e w' ⟨ds, pow, t, p', B, hd, hcut, rfl, c0, c1, hb⟩
  obtain ⟨m1, m2⟩ := h q k ds pow hq hq1 hd
  exact ⟨_, _, B, m1, m2 t p' hcut, rfl, c0, c1, hb⟩
set_option maxHeartbeats 4000000 in
set_option maxRecDepth 100000 in
theorem lawFnFewest_small (G : World → Prop) (HG0 : ∀ w w', G w → Below w.heap.size w w' → G w')
    (HSH0 : ∀ x, x < 18446744073709551616 → ∀ w, G w → Calls Tryz.prog 8 #[.float .f64 x] w fun e w' => ∃ t, shortV x t ∧ t.size ≤ 5000 ∧ e = .returned (.string t) ∧ Below w.heap.size w w')
    (w : World) (a : Option Addr) (len cap : Nat) (k0 : Bts w a len) (hG : G w) (hT : DTab w) (hz : 1 < w.heap.size) :
    Calls Tryz.prog 4 #[.slice a len cap] w fun e w' => e = .returned (.bool true) ∧ Below w.heap.size w w' := by
  have hl : len ≤ 1048576 := k0.1
  have HW : Hid _ := fun (_ : Unit) => drawn_any w a len cap k0.code
  have HG : Hid _ := HG0
  have HSH : Hid _ := HSH0
  have HGw : Hid (G w) := hG
  have HTw : Hid (DTab w ∧ 1 < w.heap.size) := ⟨hT, hz⟩
  clear k0 HG0 HSH0 hG hT hz
  go_enter Tryz.func4, Tryz.ntmps4
  go_wp2_with fail
  refine (HW.out ()).mono ?_
  rintro e w1 ⟨x, hx, rfl, hb1⟩
  have hz1 := hb1.size
  have H1 : Hid (Below w.heap.size w w1) := hb1
  have HG1 : Hid (G w1) := HG.out _ _ HGw.out hb1
  obtain ⟨k, s, m, ex, hp⟩ := partsV_some x hx
  have HX : Hid (x < 18446744073709551616) := hx
  have HPV : Hid (partsV x k s m ex) := hp
  have HIP : Hid _ := fun (_ : Unit) => implParts_of x hx k s m ex hp w1 (HTw.out.1.below HTw.out.2 hb1) (by have := HTw.out.2; omega)
  clear hb1 HW HGw hx hp HTw
  go_wp2_with fail
  refine (HIP.out ()).mono ?_
  rintro e w2 ⟨rfl, hb2⟩
  have hz2 := hb2.size
  have H2 : Hid (Below w.heap.size w w2) := H1.out.trans (hb2.mono H1.out.size)
  have HG2 : Hid (G w2) := HG.out _ _ HG1.out hb2
  have HSP : Hid (∀ w, Calls Tryz.prog 19 #[.float .f64 x] w fun e w' => e = .returned (.agg #[.int .i64 k, .bool s, .int .i64 m, .int .i64 ex]) ∧ Below w.heap.size w w') := fun w => by
    refine (specParts_any x HX.out w).mono ?_
    rintro e w' ⟨k', s', m', e', hp', rfl, hb⟩
    obtain ⟨rfl, rfl, rfl, rfl⟩ := partsV_one x _ _ _ _ _ _ _ _ HPV.out hp'
    exact ⟨rfl, hb⟩
  clear hb2 H1 HG1 HIP
  have HB2 : Hid (Below w.heap.size w (w2.alloc (.cells #[.int .i64 k, .bool s, .int .i64 m, .int .i64 ex] 32))) := H2.out.alloc H2.out.size _
  have HG2' : Hid (G (w2.alloc (.cells #[.int .i64 k, .bool s, .int .i64 m, .int .i64 ex] 32))) := HG.out _ _ HG2.out ((Below.refl _ _).alloc (Nat.le_refl _) _)
  go_upto_region 5 with fail
  go_cut [20] from 17 (fun s20 wc => s20 = .bool false ∧ wc.cell? ⟨w2.heap.size, 0, none⟩ = some (.int .i64 k) ∧ Hid (Below w.heap.size w wc) ∧ Hid (G wc))
  case first =>
    go_region_with (go_at_call 19; refine (HSP.out _).mono ?_; rintro e w3 ⟨rfl, hb3⟩; have c0 := (hb3.cell (p := ⟨w2.heap.size, 0, none⟩) (by simp)).trans (by simp [go_sem] : _ = some (.int .i64 k)); have c1 := (hb3.cell (p := ⟨w2.heap.size, 1, none⟩) (by simp)).trans (by simp [go_sem] : _ = some (.bool s)); have c2 := (hb3.cell (p := ⟨w2.heap.size, 2, none⟩) (by simp)).trans (by simp [go_sem] : _ = some (.int .i64 m)); have c3 := (hb3.cell (p := ⟨w2.heap.size, 3, none⟩) (by simp)).trans (by simp [go_sem] : _ = some (.int .i64 ex)); have HB3 : Hid (Below w.heap.size w w3) := (by refine Below.trans ?_ (hb3.mono (by simp <;> omega)); repeat (first | with_reducible exact HB2.out | with_reducible refine Below.drew ?_ | with_reducible refine below_drewN ?_ _)); have HG3 : Hid (G w3) := HG.out _ _ (HG.out _ _ HG2'.out (by repeat (first | with_reducible exact Below.refl _ _ | with_reducible refine Below.drew ?_ | with_reducible refine below_drewN ?_ _))) hb3; clear hb3)
    all_goals
      go_wp2
      go_meet
      case rel => exact ⟨rfl, by first | exact c0 | simpa [go_sem] using c0, (show Below _ _ _ from by repeat (first | with_reducible exact HB3.out | with_reducible refine Below.drew ?_ | with_reducible refine below_drewN ?_ _)), HG.out _ _ HG3.out (by repeat (first | with_reducible exact Below.refl _ _ | with_reducible refine Below.drew ?_ | with_reducible refine below_drewN ?_ _))⟩
  case rest =>
    obtain ⟨rfl, c0, HBc, HGc⟩ := hcut
    clear H2 HG2 HB2 HG2' HSP
    have HS : Hid _ := fun (_ : Unit) => HSH.out x HX.out wc HGc.out
    go_wp2_with fail
    refine (HS.out ()).mono ?_
    rintro e w4 ⟨t, ht, htz, rfl, hb4⟩
    have hzc : w2.heap.size < wc.heap.size := cell_lt c0
    have d0 : w4.cell? ⟨w2.heap.size, 0, none⟩ = some (.int .i64 k) := by rw [hb4.cell hzc]; exact c0
    have H4 : Hid (Below w.heap.size w w4) := HBc.out.trans (hb4.mono HBc.out.size)
    have HVS : Hid (shortV x t) := ht
    have HRD : Hid (∀ w, Calls Tryz.prog 17 #[.string t, .float .f64 x] w fun e w' => e = .returned (.bool true) ∧ Below w.heap.size w w') := fun w => by
      obtain ⟨f1, a1, a2, a3⟩ := reads_short x t HVS.out
      exact wRead_yes t x HX.out f1 a1 a2 a3 w
    clear ht hb4 HBc HGc HS HSH HG c0 hzc
    by_cases hk : k = 1
    · have hkb : (k != 1) = false := by rw [hk]; rfl
      obtain ⟨n, p, hc, hn, hx⟩ : ∃ (n : Nat) (p : Int), Canon n p ∧ 0 < n ∧ x = fw s n p := by
        rcases HPV.out with ⟨_, h, _⟩ | ⟨_, h, _⟩ | ⟨_, h, _⟩ | ⟨n, p, q, t, hc, hn, hx, _⟩
        · omega
        · omega
        · omega
        · exact ⟨n, p, hc, hn, hx⟩
      have hvs := HVS.out
      rw [hx] at hvs
      obtain ⟨c, hc1, hc2, hcnt, hmis⟩ := few_number s n p t hc hn hvs
      have HCN : Hid (∀ w, Calls Tryz.prog 20 #[.string t] w fun e w' => e = .returned (.int .i64 (c : Int)) ∧ w' = w) := fun w => by
        refine (count_any t htz w).mono ?_
        rintro e w' ⟨i, hi, rfl, rfl⟩
        rw [hcnt i hi]
        exact ⟨rfl, rfl⟩
      have HMS : Hid (∀ j : Nat, 1 ≤ j → j < c → ∀ w, Calls Tryz.prog 21 #[.float .f64 x, .int .i64 (j : Int)] w fun e w' => ∃ t1 t2 B, Misses t1 x ∧ Misses t2 x ∧ e = .returned (.slice (some ⟨B, 0, none⟩) 2 2)
          ∧ w'.cell? ⟨B, 0, none⟩ = some (.string t1) ∧ w'.cell? ⟨B, 1, none⟩ = some (.string t2) ∧ Below w.heap.size w w') := fun j h1 h2 w => by
        rw [hx]
        exact around_misses s n p j hc hn h1 (by omega) (hmis j h1 h2) w
      have HNO : Hid (∀ u, Misses u x → ∀ w, Calls Tryz.prog 17 #[.string u, .float .f64 x] w fun e w' => e = .returned (.bool false) ∧ Below w.heap.size w w') := fun u hu w => by
        obtain ⟨v, h1, h2, h3⟩ := hu
        exact wRead_no u x v h1 (by rw [hx]; exact order_self_fw s n p hc) h2 h3 w
      clear hvs hcnt hmis hx hc hn HPV HVS hk
      go_wp2_with fail
      refine (HCN.out _).mono ?_
      rintro e w5 ⟨rfl, rfl⟩
      have t1 : decide ((c : Int) < 1) = false := decide_eq_false (by omega)
      have t2 : decide (17 < (c : Int)) = false := decide_eq_false (by omega)
      clear HCN d0
      go_wp2
      go_loopw [7, 9] (fun v7 _ wr => ∃ j : Int, v7 = .int .i64 j ∧ (c : Int) - 2 ≤ j ∧ j ≤ c ∧ Hid (Below w.heap.size w wr)) (fun v7 _ _ => ((c : Int) - intOf v7).toNat)
      case atStart => exact ⟨(c : Int) - 2, rfl, by omega, by omega, H4⟩
      case round =>
        obtain ⟨j, rfl, hj1, hj2, HR⟩ := hrel
        by_cases hjc : j < c
        · have hjc' : decide (j < (c : Int)) = true := decide_eq_true hjc
          by_cases h1 : j < 1
          · have h1' : decide (j < 1) = true := decide_eq_true h1
            go_wp2
            go_roundw
            case rel => exact ⟨j + 1, by simp, by omega, by omega, HR⟩
            case measure => simp only [intOf]; omega
          · have h1' : decide (j < 1) = false := decide_eq_false h1
            obtain ⟨J, rfl⟩ : ∃ J : Nat, j = (J : Int) := ⟨j.toNat, by omega⟩
            have HA : Hid _ := fun w => HMS.out J (by omega) (by omega) w
            go_wp2_with fail
            refine (HA.out _).mono ?_
            rintro e w6 ⟨ta, tb, B, hm1, hm2, rfl, b0, b1, hb6⟩
            have H6 : Hid (Below w.heap.size w w6) := HR.out.trans (hb6.mono HR.out.size)
            have HN1 : Hid _ := fun w => HNO.out ta hm1 w
            have HN2 : Hid _ := fun w => HNO.out tb hm2 w
            clear hm1 hm2 hb6 HA
            go_wp2
            go_loopw [9, 50] (fun _ v50 wr => ∃ i : Nat, v50 = .int .i64 (i : Int) ∧ i ≤ 2 ∧ wr.cell? ⟨B, 0, none⟩ = some (.string ta) ∧ wr.cell? ⟨B, 1, none⟩ = some (.string tb) ∧ Hid (Below w.heap.size w wr)) (fun _ v50 _ => 2 - (intOf v50).toNat)
            case atStart => exact ⟨0, rfl, by omega, b0, b1, H6⟩
            case round =>
              clear b0 b1 H6
              obtain ⟨i, rfl, hi, b0, b1, HRi⟩ := hrel
              have hi3 : i = 0 ∨ i = 1 ∨ i = 2 := by omega
              clear hi
              rcases hi3 with rfl | rfl | rfl
              · go_wp2_with fail
                refine (HN1.out _).mono ?_
                rintro e w7 ⟨rfl, hb7⟩
                have e0 : w7.cell? ⟨B, 0, none⟩ = some (.string ta) := by rw [hb7.cell (cell_lt b0)]; exact b0
                have e1 : w7.cell? ⟨B, 1, none⟩ = some (.string tb) := by rw [hb7.cell (cell_lt b1)]; exact b1
                have H7 : Hid (Below w.heap.size w w7) := HRi.out.trans (hb7.mono HRi.out.size)
                clear hb7 b0 b1
                go_wp2
                go_roundw
                case rel => exact ⟨1, rfl, by omega, e0, e1, H7⟩
                case measure => simp only [intOf]; omega
              · go_wp2_with fail
                refine (HN2.out _).mono ?_
                rintro e w7 ⟨rfl, hb7⟩
                have e0 : w7.cell? ⟨B, 0, none⟩ = some (.string ta) := by rw [hb7.cell (cell_lt b0)]; exact b0
                have e1 : w7.cell? ⟨B, 1, none⟩ = some (.string tb) := by rw [hb7.cell (cell_lt b1)]; exact b1
                have H7 : Hid (Below w.heap.size w w7) := HRi.out.trans (hb7.mono HRi.out.size)
                clear hb7 b0 b1
                go_wp2
                go_roundw
                case rel => exact ⟨2, rfl, by omega, e0, e1, H7⟩
                case measure => simp only [intOf]; omega
              · go_wp2
                go_roundw
                case rel => exact ⟨(J : Int) + 1, by simp, by omega, by omega, HRi⟩
                case measure => simp only [intOf]; omega
        · have hjc' : decide (j < (c : Int)) = false := decide_eq_false hjc
          go_wp2_with fail
          refine (HRD.out _).mono ?_
          rintro e w6 ⟨rfl, hb6⟩
          have H6 : Hid (Below w.heap.size w w6) := HR.out.trans (hb6.mono HR.out.size)
          clear hb6
          go_wp2
          go_ret
          exact ⟨rfl, H6.out⟩
    · have hkb : (k != 1) = true := bne_iff_ne.2 hk
      go_wp2_with fail
      refine (HRD.out _).mono ?_
      rintro e w5 ⟨rfl, hb5⟩
      have H5 : Hid (Below w.heap.size w w5) := H4.out.trans (hb5.mono H4.out.size)
      clear hb5
      go_wp2
      go_ret
      exact ⟨rfl, H5.out⟩
set_option maxHeartbeats 400000 in
theorem lawFnFewest_any (G : World → Prop) (HG0 : ∀ w w', G w → Below w.heap.size w w' → G w')
    (HSH0 : ∀ x, x < 18446744073709551616 → ∀ w, G w → Calls Tryz.prog 8 #[.float .f64 x] w fun e w' => ∃ t, shortV x t ∧ t.size ≤ 5000 ∧ e = .returned (.string t) ∧ Below w.heap.size w w')
    (w : World) (a : Option Addr) (len cap : Nat) (z : List Int) (k : IsRow w a len cap z) (hG : G w) (hT : DTab w) (hz : 1 < w.heap.size) :
    Calls Tryz.prog 4 #[.slice a len cap] w fun e w' => e = .returned (.bool true) ∧ Below w.heap.size w w' := by
  have m0 := k.len
  by_cases h0 : len ≤ 1048576
  · exact lawFnFewest_small G HG0 HSH0 w a len cap (k.bts h0) hG hT hz
  · unfold maxLen at m0
    have h0' : 1048576 < len := by omega
    clear k h0 HG0 HSH0 hG hT hz
    go_enter Tryz.func4, Tryz.ntmps4
    go_wp2
    go_ret
    exact ⟨rfl, Below.refl _ _⟩
end Go.Proofs.YtpmccbkhkaoccaaGreatDoor

/- A greater number is read as no lesser float: plain. -/
namespace Go.Proofs.YtpmccbkhkaoccaaGreatDoor
open Go.RowKit

theorem kept_mono (M N d : Nat) (h : M ≤ N) : keptOf M d ≤ keptOf N d := by
  have hq : M / 2 ^ d ≤ N / 2 ^ d := Nat.div_le_div_right h
  have hm := Nat.div_add_mod M (2 ^ d)
  have hn := Nat.div_add_mod N (2 ^ d)
  have b1 : M / 2 ^ d ≤ keptOf M d ∧ keptOf M d ≤ M / 2 ^ d + 1 := by unfold keptOf; split <;> omega
  have b2 : N / 2 ^ d ≤ keptOf N d := by unfold keptOf; split <;> omega
  by_cases he : M / 2 ^ d = N / 2 ^ d
  · have hr : M % 2 ^ d ≤ N % 2 ^ d := by
      rw [he] at hm
      omega
    unfold keptOf
    rw [he]
    split
    · rename_i h1
      rw [if_pos (by omega)]
      exact Nat.le_refl _
    · split <;> omega
  · omega
theorem roundN_mono (M N : Nat) (d : Int) (h : M ≤ N) : roundN M d ≤ roundN N d := by
  unfold roundN
  split
  · exact Nat.mul_le_mul_right _ h
  · exact kept_mono M N _ h
theorem roundN_ge (N : Nat) (d : Int) (h0 : 0 < N) (h : d = (N.log2 : Int) - 52) : 4503599627370496 ≤ roundN N d := by
  have hl : 2 ^ N.log2 ≤ N := Nat.log2_self_le (by omega)
  unfold roundN
  split
  · have : 2 ^ N.log2 * 2 ^ (-d).toNat ≤ N * 2 ^ (-d).toNat := Nat.mul_le_mul_right _ hl
    rw [← Nat.pow_add, show N.log2 + (-d).toNat = 52 by omega] at this
    exact this
  · have h1 : 2 ^ 52 ≤ N / 2 ^ d.toNat := by
      rw [Nat.le_div_iff_mul_le (Nat.two_pow_pos _), ← Nat.pow_add, show 52 + d.toNat = N.log2 by omega]
      exact hl
    have h2 : N / 2 ^ d.toNat ≤ keptOf N d.toNat := by unfold keptOf; split <;> omega
    exact Nat.le_trans h1 h2
theorem fw_top (m : Nat) (e : Int) : fw false m e ≤ 9218868437227405312 := by
  by_cases h0 : m = 0
  · rw [h0, fw_zero]
    decide
  · by_cases hl : max (e + (m.log2 : Int) - 52) (-1074) ≤ 971
    · rw [fw_fits false m e _ (by omega) rfl hl]
      have := roundN_le m e
      show 0 + _ ≤ _
      omega
    · rw [fw_over false m e _ (by omega) rfl (by omega)]
      decide
theorem log2_mono (M N : Nat) (h0 : 0 < M) (h : M ≤ N) : M.log2 ≤ N.log2 := (Nat.le_log2 (by omega)).2 (Nat.le_trans (Nat.log2_self_le (by omega)) h)
theorem fw_mono (M N : Nat) (e : Int) (h : M ≤ N) : fw false M e ≤ fw false N e := by
  by_cases h0 : M = 0
  · rw [h0, fw_zero]
    exact Nat.zero_le _
  · have hlog := log2_mono M N (by omega) h
    by_cases hN : max (e + (N.log2 : Int) - 52) (-1074) ≤ 971
    · rw [fw_fits false M e _ (by omega) rfl (by omega), fw_fits false N e _ (by omega) rfl hN]
      apply Nat.add_le_add_left
      by_cases hs : max (e + (M.log2 : Int) - 52) (-1074) = max (e + (N.log2 : Int) - 52) (-1074)
      · rw [hs]
        exact Nat.add_le_add_left (roundN_mono M N _ h) _
      · have h1 := roundN_le M e
        have h2 := roundN_ge N (max (e + (N.log2 : Int) - 52) (-1074) - e) (by omega) (by omega)
        omega
    · rw [fw_over false N e _ (by omega) rfl (by omega)]
      exact fw_top M e
/-- A greater quotient is read as no lesser float. -/
theorem ratio_mono (A C A' C' : Nat) (hA : 0 < A) (hC : 0 < C) (hA' : 0 < A') (hC' : 0 < C') (h : A * C' ≤ A' * C) : ratioW A C ≤ ratioW A' C' := by
  -- one place for both
  obtain ⟨K, k1, k2⟩ : ∃ K, 9007199254740992 ≤ A * 2 ^ K / C ∧ 9007199254740992 ≤ A' * 2 ^ K / C' := by
    refine ⟨C + C' + 53, ?_, ?_⟩
    · rw [Nat.le_div_iff_mul_le hC]
      have h1 : C < 2 ^ C := Nat.lt_two_pow_self
      have e : 2 ^ (C + C' + 53) = 2 ^ C * (2 ^ C' * 9007199254740992) := by rw [Nat.pow_add, Nat.pow_add, Nat.mul_assoc]
      rw [e]
      have h2 : 1 * (C * (1 * 9007199254740992)) ≤ A * (2 ^ C * (2 ^ C' * 9007199254740992)) := Nat.mul_le_mul hA (Nat.mul_le_mul (Nat.le_of_lt h1) (Nat.mul_le_mul_right _ Nat.one_le_two_pow))
      omega
    · rw [Nat.le_div_iff_mul_le hC']
      have h1 : C' < 2 ^ C' := Nat.lt_two_pow_self
      have e : 2 ^ (C + C' + 53) = 2 ^ C' * (2 ^ C * 9007199254740992) := by rw [Nat.add_comm C C', Nat.pow_add, Nat.pow_add, Nat.mul_assoc]
      rw [e]
      have h2 : 1 * (C' * (1 * 9007199254740992)) ≤ A' * (2 ^ C' * (2 ^ C * 9007199254740992)) := Nat.mul_le_mul hA' (Nat.mul_le_mul (Nat.le_of_lt h1) (Nat.mul_le_mul_right _ Nat.one_le_two_pow))
      omega
  have form : ∀ A C : Nat, 0 < A → 0 < C → 9007199254740992 ≤ A * 2 ^ K / C → ratioW A C = fw false (2 * (A * 2 ^ K / C) + (if A * 2 ^ K % C = 0 then 0 else 1)) (-(K : Int) - 1) := fun A C hA hC hk => by
    rw [ratio_long_at A C K hA hC hk]
    split
    · have := fw_scale false (A * 2 ^ K / C) 1 (-(K : Int))
      rw [← this, Nat.pow_one, Nat.mul_comm, Nat.add_zero]
      rfl
    · rfl
  rw [form A C hA hC k1, form A' C' hA' hC' k2]
  apply fw_mono
  have hle : A * 2 ^ K * C' ≤ A' * 2 ^ K * C := by
    rw [Nat.mul_right_comm, Nat.mul_right_comm A']
    exact Nat.mul_le_mul_right _ h
  generalize A * 2 ^ K = X at *
  generalize A' * 2 ^ K = Y at *
  have hx := Nat.div_add_mod X C
  have hy := Nat.div_add_mod Y C'
  have hq : X / C ≤ Y / C' := by
    rw [Nat.le_div_iff_mul_le hC']
    have h1 : C * (X / C * C') ≤ C * Y := by
      have h2 : C * (X / C) * C' ≤ X * C' := Nat.mul_le_mul_right _ (Nat.mul_div_le X C)
      rw [Nat.mul_assoc] at h2
      rw [Nat.mul_comm C Y]
      omega
    exact Nat.le_of_mul_le_mul_left h1 hC
  by_cases he : X / C = Y / C'
  · rw [he]
    by_cases h0 : X % C = 0
    · rw [if_pos h0]
      omega
    · rw [if_neg h0]
      rw [if_neg]
      · exact Nat.le_refl _
      · intro hz
        -- Y = q C', X > q C
        rw [hz, Nat.add_zero] at hy
        rw [he] at hx
        have hX : C * (Y / C') < X := by omega
        have h3 : C * (Y / C') * C' < X * C' := Nat.mul_lt_mul_of_pos_right hX hC'
        have h4 : C * (Y / C') * C' = Y * C := by
          rw [Nat.mul_assoc, Nat.mul_comm (Y / C') C', hy, Nat.mul_comm]
        omega
  · split <;> split <;> omega
end Go.Proofs.YtpmccbkhkaoccaaGreatDoor

/- The fewest digits, found downwards: plain. -/
namespace Go.Proofs.YtpmccbkhkaoccaaGreatDoor
open Go.RowKit
open Ieee (double)

theorem rds_zeros (X : Nat) (t : ByteArray) (j : Nat) (p : Int) : Rds X (t ++ zerosB j) p = Rds X t p := by
  unfold Rds
  rw [append_list, append_size, zerosB_size, zeros_data, zeros_behind, dec_zeros]
  congr 3
  omega
theorem dec_mono (A B : Nat) (e : Int) (h : A ≤ B) : decW 10 A e ≤ decW 10 B e := by
  unfold decW
  by_cases hA : A = 0
  · rw [if_pos hA]
    exact Nat.zero_le _
  · rw [if_neg hA, if_neg (by omega)]
    have hp : ∀ k : Nat, 0 < 10 ^ k := fun k => Nat.pow_pos (by omega)
    exact ratio_mono _ _ _ _ (Nat.mul_pos (by omega) (hp _)) (hp _) (Nat.mul_pos (by omega) (hp _)) (hp _) (Nat.mul_le_mul_right _ (Nat.mul_le_mul_right _ h))
theorem dec_le (A B i j : Nat) (a b : Int) (h : A * 10 ^ i ≤ B * 10 ^ j) (he : a - i = b - j) : decW 10 A a ≤ decW 10 B b := by
  have h1 := dec_zeros A i (a - i)
  have h2 := dec_zeros B j (b - j)
  rw [show a - (i : Int) + i = a by omega] at h1
  rw [show b - (j : Int) + j = b by omega] at h2
  rw [← h1, ← h2, he]
  exact dec_mono _ _ _ h
/-- What is picked at n digits. -/
def PickD (ds : ByteArray) (pow : Int) (X n : Nat) (d : ByteArray) (p' : Int) : Prop := ∃ t2 p2, cutV ds pow n (decide (n < ds.size)) t2 p2
  ∧ ((Rds X (padB ds n) pow = true ∧ (Rds X t2 p2 = true → roundsB ds (n : Int) = false) ∧ d = padB ds n ∧ p' = pow) ∨ (Rds X t2 p2 = true ∧ (Rds X (padB ds n) pow = true → roundsB ds (n : Int) = true) ∧ d = t2 ∧ p' = p2))
/-- What holds of the digits between two rounds. -/
def LeaI (ds : ByteArray) (x : Int) (X : Nat) (t : ByteArray) (y : Int) : Prop := 0 < t.size ∧ t.size ≤ ds.size ∧ good 10 t.data.toList ∧ (∀ h : t.size - 1 < t.size, t[t.size - 1].toNat ≠ 48) ∧ ∃ j, PickD ds (x + 1) X t.size (t ++ zerosB j) (y + 1)
theorem rounds_digit (ds : ByteArray) (m : Nat) (hm : m < ds.size) (h : ds[m].toNat ≠ 53) : roundsB ds (m : Int) = decide (53 ≤ ds[m].toNat) := by
  unfold roundsB
  rw [dif_pos ⟨by omega, by omega⟩]
  simp only [Int.toNat_natCast]
  rw [if_pos (.inl h)]
theorem no_zeros (t : ByteArray) : t ++ zerosB 0 = t := by
  apply bytes_ext
  rw [append_list, zeros_data, List.replicate_zero, List.append_nil]
theorem good_front (t : ByteArray) (j : Nat) (h : good 10 (t ++ zerosB j).data.toList) : good 10 t.data.toList := fun c hc => h c (by rw [append_list]; exact List.mem_append_left _ hc)
theorem lea_all (ds : ByteArray) (x : Int) (X : Nat) (h0 : 0 < ds.size) (hg : good 10 ds.data.toList) (hl : ∀ h : ds.size - 1 < ds.size, ds[ds.size - 1].toNat ≠ 48) (hr : Rds X ds (x + 1) = true) : LeaI ds x X ds x := by
  have hp : padB ds ds.size = ds := by rw [pad_long ds _ (Nat.le_refl _), Nat.sub_self, no_zeros]
  refine ⟨h0, Nat.le_refl _, hg, hl, 0, padB ds ds.size, x + 1, .inl ⟨decide_eq_false (by omega), rfl, rfl⟩, .inl ⟨by rw [hp]; exact hr, fun _ => ?_, by rw [no_zeros, hp], rfl⟩⟩
  unfold roundsB
  rw [dif_neg (by omega)]
theorem lea_low (ds : ByteArray) (x : Int) (X n : Nat) (u : ByteArray) (z : Int) (hn : 0 < n) (hns : n < ds.size) (hg : good 10 ds.data.toList) (hf : ∀ h : 0 < ds.size, ds[0].toNat ≠ 48)
    (h : LowD ds x n u z) (hr : Rds X u (z + 1) = true) (v : ByteArray) (r : Int) (hv : HighD ds x n v r) (hp : Rds X v (r + 1) = true → roundsB ds (n : Int) = false) : LeaI ds x X u z := by
  obtain ⟨j, hpad, rfl, hu, hj, hl⟩ := low_pad ds x n u z hn (by omega) hf h
  have hgu : good 10 u.data.toList := good_front u j (by rw [← hpad]; exact padB_good ds n hg)
  refine ⟨hu, by omega, hgu, hl, ?_⟩
  by_cases hj0 : j = 0
  · subst hj0
    have e : u.size = n := by omega
    rw [e]
    obtain ⟨i, more, hup, hy, _⟩ := high_pad ds z n v r (by omega) hg hv
    refine ⟨0, v ++ zerosB i, r + 1, ?_, .inl ⟨?_, ?_, hpad.symm, rfl⟩⟩
    · rw [decide_eq_true hns]
      exact .inr ⟨rfl, more, hup, by rw [hy]; omega⟩
    · rw [hpad, no_zeros]; exact hr
    · rw [rds_zeros]; exact hp
  · have hm : u.size < ds.size := by omega
    have hpm : padB ds u.size = u := by
      apply bytes_ext
      rw [pad_take ds u.size (by omega), ext_list, List.drop_zero, Nat.sub_zero]
      have h1 : (padB ds n).data.toList = ds.data.toList.take n := by rw [pad_take ds n (by omega), ext_list, List.drop_zero, Nat.sub_zero]
      have h2 : ds.data.toList.take u.size = (ds.data.toList.take n).take u.size := by rw [List.take_take, Nat.min_eq_left (by omega)]
      rw [h2, ← h1, hpad, append_list, List.take_left' (data_len u)]
    have hd : ds[u.size].toNat = 48 := by
      have h1 := get_data ds u.size hm
      have h2 : (padB ds n).data.toList[u.size]? = some ds[u.size] := by
        rw [pad_take ds n (by omega), ext_list, List.drop_zero, Nat.sub_zero, List.getElem?_take, if_pos (by omega)]
        exact h1
      rw [hpad, append_list, List.getElem?_append_right (by rw [data_len]; exact Nat.le_refl _), data_len, Nat.sub_self, zeros_get, if_pos (by omega)] at h2
      rw [← Option.some.inj h2]
      rfl
    have hrn : roundsB ds (u.size : Int) = false := by
      rw [rounds_digit ds u.size hm (by omega), hd]
      rfl
    obtain ⟨t2, more, hup⟩ := upD_ex (padB ds u.size) (padB_good ds _ hg)
    refine ⟨0, t2, z + 1 + (if more then 1 else 0), ?_, .inl ⟨by rw [hpm]; exact hr, fun _ => hrn, by rw [no_zeros, hpm], rfl⟩⟩
    rw [decide_eq_true hm]
    exact .inr ⟨rfl, more, hup, rfl⟩
/-- Fewer digits that are the same number are so too. -/
theorem high_shrink (ds : ByteArray) (x : Int) (n : Nat) (u : ByteArray) (z : Int) (hn : 0 < n) (hns : n < ds.size) (h : HighD ds x n u z) (hne : u.size ≠ n) : ∃ hm : u.size < ds.size, HighD ds x u.size u z ∧ ds[u.size].toNat = 57 := by
  obtain ⟨u', ⟨⟨j, hj⟩, hl⟩, h⟩ := h
  have hsz := take_size ds n (by omega)
  have hs2 := trim_size hj
  have hnine : ∀ i, u'.size ≤ i → i < n → ds.data.toList[i]? = some 57 := fun i h1 h2 => by
    have h3 : (ds.extract 0 n).data.toList[i]? = ds.data.toList[i]? := by rw [ext_list, List.drop_zero, List.getElem?_take, if_pos (by omega)]
    rw [← h3, hj, List.getElem?_append_right (by rw [data_len]; exact h1), List.getElem?_replicate, if_pos (by rw [data_len]; omega)]
  have hnat : ∀ i (hi : i < ds.size), u'.size ≤ i → i < n → ds[i].toNat = 57 := fun i hi h1 h2 => by
    have h3 := hnine i h1 h2
    rw [get_data ds i hi] at h3
    rw [Option.some.inj h3]
    rfl
  rcases h with ⟨h0, rfl, rfl⟩ | ⟨h0, ⟨c, hc, ht⟩, rfl⟩
  · have e1 : (⟨#[49]⟩ : ByteArray).size = 1 := rfl
    rw [e1] at hne ⊢
    refine ⟨by omega, ⟨u', ⟨⟨1, ?_⟩, hl⟩, .inl ⟨h0, rfl, rfl⟩⟩, hnat 1 (by omega) (by omega) (by omega)⟩
    have e : u'.data.toList = [] := List.length_eq_zero_iff.1 (by rw [data_len]; exact h0)
    rw [e, List.nil_append, ext_list, List.drop_zero, Nat.sub_zero]
    have h1 := hnine 0 (by omega) hn
    apply List.ext_getElem?
    intro i
    rw [List.getElem?_take, List.getElem?_replicate]
    by_cases hi : i < 1
    · rw [if_pos hi, if_pos hi, show i = 0 by omega]
      exact h1
    · rw [if_neg hi, if_neg hi]
  · have hts : u.size = u'.size := by
      rw [← data_len, ht, List.length_append, data_len]
      have := take_size u' (u'.size - 1) (by omega)
      rw [this]
      simp
      omega
    rw [hts] at hne ⊢
    refine ⟨by omega, ⟨u', ⟨⟨0, ?_⟩, hl⟩, .inr ⟨h0, ⟨c, hc, ht⟩, rfl⟩⟩, hnat _ (by omega) (Nat.le_refl _) (by omega)⟩
    have h1 : (ds.extract 0 n).data.toList = ds.data.toList.take n := by rw [ext_list, List.drop_zero, Nat.sub_zero]
    have h2 : ds.data.toList.take u'.size = (ds.data.toList.take n).take u'.size := by rw [List.take_take, Nat.min_eq_left (by omega)]
    rw [List.replicate_zero, List.append_nil, ext_list, List.drop_zero, Nat.sub_zero, h2, ← h1, hj, List.take_left' (data_len u')]
theorem lea_high (ds : ByteArray) (x : Int) (X n : Nat) (u : ByteArray) (z : Int) (hn : 0 < n) (hns : n < ds.size) (hg : good 10 ds.data.toList)
    (h : HighD ds x n u z) (hr : Rds X u (z + 1) = true) (hp : Rds X (padB ds n) (x + 1) = true → roundsB ds (n : Int) = true) : LeaI ds x X u z := by
  have key : ∀ m, m = u.size → 0 < m → m < ds.size → HighD ds x m u z → (Rds X (padB ds m) (x + 1) = true → roundsB ds (m : Int) = true) → LeaI ds x X u z := fun m hm h0 hms hh hpp => by
    obtain ⟨j, more, hup, hy, hu, hj, _, hl⟩ := high_pad ds x m u z (by omega) hg hh
    refine ⟨hu, by omega, good_front u j hup.1, hl, j, u ++ zerosB j, z + 1, ?_, .inr ⟨by rw [rds_zeros]; exact hr, by rw [← hm]; exact hpp, rfl, rfl⟩⟩
    rw [← hm, decide_eq_true hms]
    exact .inr ⟨rfl, more, hup, by rw [hy]; omega⟩
  by_cases hm : u.size = n
  · exact key n hm.symm hn hns h hp
  · obtain ⟨hms, hh, h57⟩ := high_shrink ds x n u z hn hns h hm
    obtain ⟨_, _, _, _, hu, _⟩ := high_pad ds x n u z (by omega) hg h
    refine key _ rfl hu hms hh fun _ => ?_
    rw [rounds_digit ds _ hms (by omega), h57]
    rfl
theorem pad_whole (ds : ByteArray) (k : Nat) (hk : k ≤ ds.size) (hg : good 10 ds.data.toList) : ∃ R, R < 10 ^ (ds.size - k) ∧ valN 10 ds.data.toList = valN 10 (padB ds k).data.toList * 10 ^ (ds.size - k) + R := by
  by_cases h : k < ds.size
  · exact (pad_val ds k h hg).2
  · have e : padB ds k = ds := by rw [show k = ds.size by omega, pad_long ds _ (Nat.le_refl _), Nat.sub_self, no_zeros]
    refine ⟨0, Nat.pow_pos (by omega), ?_⟩
    rw [e, show ds.size - k = 0 by omega, Nat.pow_zero]
    omega
/-- Between digits that are read as a float and the float's own all are read as it. -/
theorem low_mono (ds : ByteArray) (pow : Int) (X k n : Nat) (hX : X ≤ 9218868437227405312) (hkn : k ≤ n) (hns : n ≤ ds.size) (hg : good 10 ds.data.toList) (hr : Rds X ds pow = true) (h : Rds X (padB ds k) pow = true) : Rds X (padB ds n) pow = true := by
  obtain ⟨R1, hR1, hv1⟩ := pad_whole ds k (by omega) hg
  obtain ⟨R2, hR2, hv2⟩ := pad_whole ds n hns hg
  rw [rds_is _ hX] at hr h ⊢
  rw [padB_size] at h ⊢
  have hr' := of_decide_eq_true hr
  have h' := of_decide_eq_true h
  apply decide_eq_true
  apply Nat.le_antisymm
  · rw [← hr']
    exact dec_le _ _ (ds.size - n) 0 _ _ (by rw [Nat.pow_zero]; omega) (by omega)
  · rw [← h']
    refine dec_le _ _ (n - k) 0 _ _ ?_ (by omega)
    rw [Nat.pow_zero, Nat.mul_one]
    -- V1 10^(n-k) 10^(s-n) <= V < (V2 + 1) 10^(s-n)
    have e : 10 ^ (ds.size - k) = 10 ^ (n - k) * 10 ^ (ds.size - n) := by rw [← Nat.pow_add]; congr 1; omega
    rw [e, ← Nat.mul_assoc] at hv1
    have h10 : 0 < 10 ^ (ds.size - n) := Nat.pow_pos (by omega)
    have hlt : valN 10 (padB ds k).data.toList * 10 ^ (n - k) * 10 ^ (ds.size - n) < (valN 10 (padB ds n).data.toList + 1) * 10 ^ (ds.size - n) := by rw [Nat.add_mul, Nat.one_mul]; omega
    exact Nat.le_of_lt_succ (Nat.lt_of_mul_lt_mul_right hlt)
theorem up_dec (ds : ByteArray) (pow : Int) (k : Nat) (u : ByteArray) (r : Int) (h : cutV ds pow k true u r) : decW 10 (valN 10 u.data.toList) (r - (u.size : Int)) = decW 10 (valN 10 (padB ds k).data.toList + 1) (pow - (k : Int)) := by
  rcases h with ⟨h, _⟩ | ⟨_, more, ⟨_, hv, hs, _⟩, rfl⟩
  · cases h
  · rw [padB_size] at hs
    rw [hv, hs]
    congr 1
    cases more <;> simp <;> omega
theorem high_mono (ds : ByteArray) (pow : Int) (X k n : Nat) (hX : X ≤ 9218868437227405312) (hkn : k ≤ n) (hns : n ≤ ds.size) (hg : good 10 ds.data.toList) (hr : Rds X ds pow = true) (u v : ByteArray) (r s : Int) (hu : cutV ds pow k true u r) (hv : cutV ds pow n true v s) (h : Rds X u r = true) : Rds X v s = true := by
  obtain ⟨R1, hR1, hv1⟩ := pad_whole ds k (by omega) hg
  obtain ⟨R2, hR2, hv2⟩ := pad_whole ds n hns hg
  rw [rds_is _ hX] at hr h ⊢
  rw [up_dec ds pow k u r hu] at h
  rw [up_dec ds pow n v s hv]
  have hr' := of_decide_eq_true hr
  have h' := of_decide_eq_true h
  apply decide_eq_true
  apply Nat.le_antisymm
  · rw [← h']
    refine dec_le _ _ 0 (n - k) _ _ ?_ (by omega)
    rw [Nat.pow_zero, Nat.mul_one]
    have e : 10 ^ (ds.size - k) = 10 ^ (n - k) * 10 ^ (ds.size - n) := by rw [← Nat.pow_add]; congr 1; omega
    have hlt : valN 10 (padB ds n).data.toList * 10 ^ (ds.size - n) < (valN 10 (padB ds k).data.toList + 1) * 10 ^ (n - k) * 10 ^ (ds.size - n) := by
      rw [Nat.mul_assoc, ← e, Nat.add_mul, Nat.one_mul]; omega
    exact Nat.lt_of_mul_lt_mul_right hlt
  · rw [← hr']
    exact dec_le _ _ 0 (ds.size - n) _ _ (by rw [Nat.pow_zero, Nat.add_mul, Nat.one_mul]; omega) (by omega)
/-- Where no digits fewer by one are read so, these are the fewest. -/
theorem lea_end (ds : ByteArray) (x : Int) (X : Nat) (t : ByteArray) (y : Int) (hX : X ≤ 9218868437227405312) (hg : good 10 ds.data.toList) (hf : ∀ h : 0 < ds.size, ds[0].toNat ≠ 48) (hr : Rds X ds (x + 1) = true) (h : LeaI ds x X t y)
    (hend : t.size = 1 ∨ ∃ u z v r, LowD ds x (t.size - 1) u z ∧ HighD ds x (t.size - 1) v r ∧ Rds X u (z + 1) = false ∧ Rds X v (r + 1) = false) : ∃ d, LeastD ds (x + 1) X d (y + 1) ∧ TrimD d t := by
  obtain ⟨h0, hs, hgt, hl, j, t2, p2, hcut, hpick⟩ := h
  have htr : TrimD (t ++ zerosB j) t := by
    refine ⟨h0, hgt, j, ?_, by rw [append_size, zerosB_size], by rw [append_list, zeros_data, zeros_behind], .inr hl⟩
    apply bytes_ext
    rw [ext_list, List.drop_zero, Nat.sub_zero, append_list, List.take_left' (data_len t)]
  refine ⟨t ++ zerosB j, ⟨t.size, t2, p2, h0, hs, hcut, fun k hk1 hk2 => ?_, hpick⟩, htr⟩
  rcases hend with hend | ⟨u, z, v, r, hlow, hhigh, hru, hrv⟩
  · omega
  · obtain ⟨i, hpad, rfl, _, _, _⟩ := low_pad ds x (t.size - 1) u z (by omega) (by omega) hf hlow
    obtain ⟨i', more, hup, hy, _⟩ := high_pad ds z (t.size - 1) v r (by omega) hg hhigh
    have hru' : Rds X (padB ds (t.size - 1)) (z + 1) = false := by rw [hpad, rds_zeros]; exact hru
    refine ⟨?_, fun q s hq => ?_⟩
    · apply Bool.eq_false_iff.2
      intro hc
      rw [low_mono ds (z + 1) X k (t.size - 1) hX (by omega) (by omega) hg hr hc] at hru'
      cases hru'
    · rw [decide_eq_true (show k < ds.size by omega)] at hq
      apply Bool.eq_false_iff.2
      intro hc
      have hcv : cutV ds (z + 1) (t.size - 1) true (v ++ zerosB i') (r + 1) := .inr ⟨rfl, more, hup, by rw [hy]; omega⟩
      have := high_mono ds (z + 1) X k (t.size - 1) hX (by omega) (by omega) hg hr q (v ++ zerosB i') s (r + 1) hq hcv hc
      rw [rds_zeros, hrv] at this
      cases this
/-- The first digits that are tried are read as the float. -/
theorem lea_start (n : Nat) (p : Int) (q k : Nat) (ds : ByteArray) (x : Int) (hc : Canon n p) (hn : 0 < n) (hq : n = q * 2 ^ k) (hd : ExD ds (x + 1) q (p + k)) (t : ByteArray) (y : Int) (h : RndD ds x 17 t y) (hv : ∀ N, ∃ v r, HighD ds x N v r) : LeaI ds x (fw false n p) t y := by
  have hq0 : 0 < q := Nat.pos_of_ne_zero fun h => by rw [h, Nat.zero_mul] at hq; omega
  have hfw : fw false q (p + k) = fw false n p := by
    have := fw_scale false q k (p + k)
    rw [show p + (k : Int) - k = p by omega, ← hq] at this
    exact this.symm
  have hX : fw false n p ≤ 9218868437227405312 := fw_top n p
  have hr : Rds (fw false n p) ds (x + 1) = true := by
    rw [rds_is _ hX]
    apply decide_eq_true
    rw [exD_reads ds (x + 1) q (p + k) hq0 hd, hfw]
  have hd' := hd
  obtain ⟨h0, hg, hf, hl, _⟩ := hd'
  rcases h with ⟨h, _⟩ | ⟨_, _, rfl, rfl⟩ | ⟨_, h17, h⟩
  · omega
  · exact lea_all t y _ h0 hg hl hr
  · have hs : 17 < ds.size := by omega
    obtain ⟨gp, R, hR, hval⟩ := pad_val ds 17 hs hg
    have hW := pad_pos ds 17 hs (by omega) hg hf
    have hhalf := rounds_half ds 17 hs hg R hval
    rcases h with ⟨hro, hh⟩ | ⟨hro, hlo⟩
    · have hh' : HighD ds x 17 t y := hh
      have h2 := hhalf.1 hro
      obtain ⟨j, more, hup, hy, _⟩ := high_pad ds x 17 t y (by omega) hg hh'
      have em : (valN 10 (padB ds 17).data.toList + 1) * 10 ^ (ds.size - 17) = valN 10 (padB ds 17).data.toList * 10 ^ (ds.size - 17) + 10 ^ (ds.size - 17) := by rw [Nat.add_mul, Nat.one_mul]
      have := digits_near n p q k ds (x + 1) hc hn hq hd 17 (valN 10 (padB ds 17).data.toList + 1) (by omega) (by omega) (by omega) (.inr ⟨by omega, by omega⟩)
      refine lea_high ds x _ 17 t y (by omega) hs hg hh' ?_ (fun _ => hro)
      have hcv : cutV ds (x + 1) 17 true (t ++ zerosB j) (y + 1) := .inr ⟨rfl, more, hup, by rw [hy]; omega⟩
      have e := up_dec ds (x + 1) 17 _ _ hcv
      have h3 : Rds (fw false n p) (t ++ zerosB j) (y + 1) = true := by
        rw [rds_is _ hX]
        apply decide_eq_true
        rw [e]
        exact this
      rwa [rds_zeros] at h3
    · have hlo' : LowD ds x 17 t y := hlo
      have h2 := hhalf.2 hro
      have := digits_near n p q k ds (x + 1) hc hn hq hd 17 (valN 10 (padB ds 17).data.toList) (by omega) (by omega) hW (.inl ⟨by omega, by omega⟩)
      obtain ⟨j, hpad, rfl, _⟩ := low_pad ds x 17 t y (by omega) (by omega) hf hlo'
      obtain ⟨v, r, hvr⟩ := hv 17
      refine lea_low ds y _ 17 t y (by omega) hs hg hf hlo' ?_ v r hvr (fun _ => hro)
      have h3 : Rds (fw false n p) (padB ds 17) (y + 1) = true := by
        rw [rds_is _ hX, padB_size]
        apply decide_eq_true
        exact this
      rwa [hpad, rds_zeros] at h3
end Go.Proofs.YtpmccbkhkaoccaaGreatDoor

/- What leastDigits keeps between two rounds: plain, and its memory. -/
namespace Go.Proofs.YtpmccbkhkaoccaaGreatDoor
open Go.ChangeShapes Go.WideShapes Go.RowKit

theorem last_list (s : ByteArray) (hs : s.size - 1 < s.size) : s.data.toList = (s.extract 0 (s.size - 1)).data.toList ++ [s[s.size - 1]'hs] := by
  have hlen : s.data.toList.length = s.size := data_len s
  have hg := get_data s _ hs
  generalize s[s.size - 1]'hs = c at *
  rw [ext_list, List.drop_zero]
  apply List.ext_getElem?
  intro i
  rw [List.getElem?_append, List.length_take, List.getElem?_take]
  by_cases hi : i < s.size - 1
  · rw [if_pos (by omega), if_pos (by omega)]
  · rw [if_neg (by omega)]
    by_cases h2 : i = s.size - 1
    · subst h2
      rw [hg]
      simp [hlen]
    · rw [List.getElem?_eq_none (by omega), List.getElem?_eq_none (by simp [hlen]; omega)]
theorem trimR_ex (c : UInt8) (m : Nat) : ∀ s : ByteArray, s.size = m → ∃ u, TrimR c s u := by
  induction m with
  | zero => exact fun s h => ⟨s, ⟨0, by simp⟩, fun h' => by omega⟩
  | succ m ih =>
    intro s h
    have hs : s.size - 1 < s.size := by omega
    by_cases hc : (s[s.size - 1]'hs).toNat = c.toNat
    · obtain ⟨u, ⟨j, hj⟩, hu⟩ := ih (s.extract 0 (s.size - 1)) (by rw [ByteArray.size_extract]; omega)
      refine ⟨u, ⟨j + 1, ?_⟩, hu⟩
      rw [last_list s hs, hj, UInt8.toNat_inj.1 hc, List.append_assoc, List.replicate_succ']
    · exact ⟨s, ⟨0, by simp⟩, fun _ => hc⟩
theorem high_ex (ds : ByteArray) (x : Int) (hg : good 10 ds.data.toList) (N : Nat) : ∃ v r, HighD ds x N v r := by
  obtain ⟨u, hu⟩ := trimR_ex 57 _ (ds.extract 0 N) rfl
  by_cases h0 : u.size = 0
  · exact ⟨_, _, u, hu, .inl ⟨h0, rfl, rfl⟩⟩
  · have hs : u.size - 1 < u.size := by omega
    obtain ⟨j, hj⟩ := hu.1
    have hgu : good 10 u.data.toList := fun c hc => good_take ds 0 N hg c (by rw [hj]; exact List.mem_append_left _ hc)
    have hm : u[u.size - 1] ∈ u.data.toList := by
      have := get_data u _ hs
      exact List.mem_of_getElem? this
    have hlt : u[u.size - 1].toNat ≤ 60 := by
      have := (good_digit _ (hgu _ hm)).2.1
      omega
    refine ⟨⟨((u.extract 0 (u.size - 1)).data.toList ++ [UInt8.ofNat (u[u.size - 1].toNat + 1)]).toArray⟩, x, u, hu, .inr ⟨by omega, ⟨UInt8.ofNat (u[u.size - 1].toNat + 1), fun _ => (UInt8.toNat_ofNat').trans ?_, rfl⟩, rfl⟩⟩
    exact Nat.mod_eq_of_lt (by omega)
/-- The two neighbours are digits that can be written. -/
theorem low_ok (ds : ByteArray) (x : Int) (n : Nat) (t : ByteArray) (y : Int) (hn : 0 < n) (hs : n ≤ ds.size) (hg : good 10 ds.data.toList) (hf : ∀ h : 0 < ds.size, ds[0].toNat ≠ 48) (h : LowD ds x n t y) : 0 < t.size ∧ t.size ≤ n ∧ good 10 t.data.toList ∧ y = x := by
  obtain ⟨j, hpad, rfl, h0, hj, _⟩ := low_pad ds x n t y hn hs hf h
  exact ⟨h0, by omega, good_front t j (by rw [← hpad]; exact padB_good ds n hg), rfl⟩
theorem high_ok (ds : ByteArray) (x : Int) (n : Nat) (t : ByteArray) (y : Int) (hn : 0 < n) (hs : n ≤ ds.size) (hg : good 10 ds.data.toList) (h : HighD ds x n t y) : 0 < t.size ∧ t.size ≤ n ∧ good 10 t.data.toList ∧ x ≤ y ∧ y ≤ x + 1 := by
  obtain ⟨j, more, hup, hy, h0, hj, hm, _⟩ := high_pad ds x n t y hs hg h
  refine ⟨h0, ?_, good_front t j hup.1, ?_, ?_⟩
  · cases more
    · simp at hj; omega
    · have := hm rfl; omega
  · rw [hy]; split <;> omega
  · rw [hy]; split <;> omega
/-- One round: of the two neighbours the nearer is tried first. -/
theorem lea_round (ds : ByteArray) (x : Int) (X n : Nat) (hn : 0 < n) (hns : n < ds.size) (hg : good 10 ds.data.toList) (hf : ∀ h : 0 < ds.size, ds[0].toNat ≠ 48) (tl : ByteArray) (yl : Int) (th : ByteArray) (yh : Int) (hlo : LowD ds x n tl yl) (hhi : HighD ds x n th yh)
    (a : ByteArray) (ya : Int) (b : ByteArray) (yb : Int) (hab : (roundsB ds (n : Int) = true ∧ a = th ∧ ya = yh ∧ b = tl ∧ yb = yl) ∨ (roundsB ds (n : Int) = false ∧ a = tl ∧ ya = yl ∧ b = th ∧ yb = yh)) :
    (0 < a.size ∧ a.size ≤ n ∧ good 10 a.data.toList ∧ x ≤ ya ∧ ya ≤ x + 1) ∧ (0 < b.size ∧ b.size ≤ n ∧ good 10 b.data.toList ∧ x ≤ yb ∧ yb ≤ x + 1)
    ∧ (Rds X a (ya + 1) = true → LeaI ds x X a ya) ∧ (Rds X a (ya + 1) = false → Rds X b (yb + 1) = true → LeaI ds x X b yb)
    ∧ (Rds X a (ya + 1) = false → Rds X b (yb + 1) = false → ∃ u z v r, LowD ds x n u z ∧ HighD ds x n v r ∧ Rds X u (z + 1) = false ∧ Rds X v (r + 1) = false) := by
  obtain ⟨l1, l2, l3, l4⟩ := low_ok ds x n tl yl hn (by omega) hg hf hlo
  have hh := high_ok ds x n th yh hn (by omega) hg hhi
  have hl : 0 < tl.size ∧ tl.size ≤ n ∧ good 10 tl.data.toList ∧ x ≤ yl ∧ yl ≤ x + 1 := ⟨l1, l2, l3, by omega, by omega⟩
  rcases hab with ⟨hr, rfl, rfl, rfl, rfl⟩ | ⟨hr, rfl, rfl, rfl, rfl⟩
  · exact ⟨hh, hl, fun h => lea_high ds x X n a ya hn hns hg hhi h fun _ => hr, fun h1 h2 => lea_low ds x X n b yb hn hns hg hf hlo h2 a ya hhi (fun h => by rw [h1] at h; cases h),
      fun h1 h2 => ⟨_, _, _, _, hlo, hhi, h2, h1⟩⟩
  · refine ⟨hl, hh, fun h => lea_low ds x X n a ya hn hns hg hf hlo h b yb hhi fun _ => hr, fun h1 h2 => lea_high ds x X n b yb hn hns hg hhi h2 fun h => ?_, fun h1 h2 => ⟨_, _, _, _, hlo, hhi, h1, h2⟩⟩
    obtain ⟨j, hpad, _⟩ := low_pad ds x n a ya hn (by omega) hf hlo
    rw [hpad, rds_zeros, ← l4, h1] at h
    cases h
end Go.Proofs.YtpmccbkhkaoccaaGreatDoor

/- shortForm of the program, and what its forms write. -/
namespace Go.Proofs.YtpmccbkhkaoccaaGreatDoor
open Go.ChangeShapes Go.WideShapes Go.RowKit

theorem plainB_short (ds : ByteArray) (pow : Int) (h1 : -5 ≤ pow) (h2 : pow ≤ 21) (hs : ds.size ≤ 100) : (plainB ds pow).size ≤ 1100 := by
  unfold plainB
  split
  · rw [append_size, append_size, zerosB_size]
    have : (⟨#[48, 46]⟩ : ByteArray).size = 2 := rfl
    omega
  · split
    · rw [append_size, zerosB_size]
      omega
    · rw [append_size, append_size]
      have h3 : (ds.extract 0 pow.toNat).size ≤ 100 := by rw [ByteArray.size_extract]; omega
      have h4 : (ds.extract pow.toNat ds.size).size ≤ 100 := by rw [ByteArray.size_extract]; omega
      have : dotB.size = 1 := rfl
      omega
theorem shortB_size (t : ByteArray) (p : Int) (hs : t.size ≤ 100) : (shortB t p).size ≤ 1100 := by
  unfold shortB
  split
  · exact plainB_short t p (by omega) (by omega) hs
  · have := sciB_size t p
    omega
/-- The text of a short form is read as its digits are. -/
theorem read_short (t : ByteArray) (p : Int) (h0 : 0 < t.size) (hs : t.size ≤ 100) (hg : good 10 t.data.toList) (hp : -9000 ≤ p) (hp' : p ≤ 9000) :
    ReadA (shortB t p) true 0 (· = decW 10 (valN 10 t.data.toList) (p - (t.size : Int))) := by
  have e0 : ∀ b : ByteArray, sgnB false ++ b = b := fun b => bytes_ext _ _ (by rw [append_list]; rfl)
  have ez : signBit false = 0 := rfl
  have hz := shortB_size t p hs
  unfold shortB at hz ⊢
  by_cases h : -5 ≤ p ∧ p ≤ 21
  · rw [if_pos h] at hz ⊢
    have := read_plain false t p h0 hg (by rw [e0]; omega)
    rw [e0, ez] at this
    simpa using this
  · rw [if_neg h] at hz ⊢
    have := read_sci false t p h0 hg (by omega) (by omega) (by rw [e0]; omega)
    rw [e0, ez] at this
    simpa using this
/-- What shortForm answers. -/
def ShF (t : ByteArray) (y : Int) (F : Value) : Prop := ((y < -6 ∨ 20 < y) ∧ F = .iface 90 (.agg #[.string t, .int .i64 y, .int .i64 (t.size : Int)]))
  ∨ (-6 ≤ y ∧ y ≤ 20 ∧ F = .iface 62 (.agg #[.string t, .int .i64 y, .int .i64 (((t.size : Int) - (y + 1)).toNat : Int)]))
set_option maxHeartbeats 2000000 in
set_option maxRecDepth 100000 in
theorem shortForm_any (t : ByteArray) (y : Int) (hs : t.size ≤ 2000) (hy : -5000 ≤ y) (hy' : y ≤ 5000) (w : World) :
    Calls Tryz.prog 33 #[.agg #[.string t, .int .i64 y]] w fun e w' => ∃ F, ShF t y F ∧ e = .returned F ∧ Below w.heap.size w w' := by
  have hs' : (t.size : Int) ≤ 2000 := by omega
  by_cases h1 : y < -6
  · go_enter Tryz.func33, Tryz.ntmps33
    go_wp2
    go_ret
    exact ⟨_, .inl ⟨.inl h1, rfl⟩, rfl, (Below.refl _ _).alloc (Nat.le_refl _) _⟩
  · by_cases h2 : 20 < y
    · go_enter Tryz.func33, Tryz.ntmps33
      go_wp2
      go_ret
      exact ⟨_, .inl ⟨.inr h2, rfl⟩, rfl, (Below.refl _ _).alloc (Nat.le_refl _) _⟩
    · have E : Hid ((((t.size : Int) - (y + 1)).toNat : Int) = max ((t.size : Int) - 1 - y) 0) := by show _ = _; omega
      go_enter Tryz.func33, Tryz.ntmps33
      go_wp2
      go_ret
      exact ⟨_, .inr ⟨by omega, by omega, by rw [E.out]; rfl⟩, rfl, (Below.refl _ _).alloc (Nat.le_refl _) _⟩
/-- A form writes its text: the method behind it, and what that answers. -/
def FormW (F : Value) (T : ByteArray) : Prop := ∃ ty v fn, F = .iface ty v ∧ (∀ w, (Go.method 358 ty v "loop.example/grain/impl.write").run Tryz.prog w = .ok (fn, v) w) ∧ (∀ args w, (callFunc fn args).run Tryz.prog w = .ok (.enter fn args) w)
  ∧ ∀ W, WrG W → Calls Tryz.prog fn #[v] W fun r w' => r = .returned (.string T) ∧ Below W.heap.size W w'
theorem padB_whole (t : ByteArray) : padB t t.size = t := by
  unfold padB
  rw [if_neg (Nat.lt_irrefl _), Nat.sub_self]
  exact bytes_ext _ _ (by rw [append_list]; show _ ++ List.replicate 0 48 = _; simp)
theorem shF_writes (t : ByteArray) (y : Int) (F : Value) (h : ShF t y F) (h0 : 0 < t.size) (hs : t.size ≤ 1900) (hy : -1900 ≤ y) (hy' : y ≤ 1900) : FormW F (shortB t (y + 1)) := by
  rcases h with ⟨h, rfl⟩ | ⟨h1, h2, rfl⟩
  · refine ⟨_, _, 178, rfl, fun w => meth_power _ w, enters_of Tryz.func178 (by kernel_rfl) rfl, fun W hG => ?_⟩
    refine (powerWrite_any t y t.size (by omega) (by omega) (by omega) h0 (by omega) W hG.2.1 hG.2.2.2).mono ?_
    rintro r w' ⟨rfl, hb⟩
    rw [padB_whole]
    unfold shortB
    rw [if_neg (by omega)]
    exact ⟨rfl, hb⟩
  · refine ⟨_, _, 167, rfl, fun w => meth_plain _ w, enters_of Tryz.func167 (by kernel_rfl) rfl, fun W hG => ?_⟩
    refine (plainWrite_any t y _ (by omega) (by omega) (by omega) (by omega) W).mono ?_
    rintro r w' ⟨rfl, hb⟩
    unfold shortB
    rw [if_pos (by omega), plainB_fix t (y + 1) h0]
    exact ⟨rfl, hb⟩
end Go.Proofs.YtpmccbkhkaoccaaGreatDoor

/- Shortest's function: are the digits read back? -/
namespace Go.Proofs.YtpmccbkhkaoccaaGreatDoor
open Go.ChangeShapes Go.WideShapes Go.RowKit

attribute [local go_sem] run_store_float
/-- Worlds behind w in which the digits' box and the captured float still lie. -/
def CloB (w : World) (A : Nat) (t : ByteArray) (y : Int) (p : Addr) (X : Nat) (W : World) : Prop := Below w.heap.size w W ∧ W.cell? ⟨A, 0, none⟩ = some (.string t) ∧ W.cell? ⟨A, 1, none⟩ = some (.int .i64 y) ∧ W.cell? p = some (.float .f64 X)
theorem CloB.drew {w W : World} {A : Nat} {t : ByteArray} {y : Int} {p : Addr} {X : Nat} (h : CloB w A t y p X W) : CloB w A t y p X W.drew := ⟨h.1.drew, h.2⟩
theorem CloB.next {w W W' : World} {A : Nat} {t : ByteArray} {y : Int} {p : Addr} {X : Nat} (h : CloB w A t y p X W) (hb : Below W.heap.size W W') : CloB w A t y p X W' := by
  obtain ⟨h1, h2, h3, h4⟩ := h
  exact ⟨h1.trans (hb.mono h1.size), (hb.cell (lt_cell h2)).trans h2, (hb.cell (lt_cell h3)).trans h3, (hb.cell (lt_cell h4)).trans h4⟩
theorem CloB.new {w : World} {t : ByteArray} {y : Int} {p : Addr} {X : Nat} (hc : w.cell? p = some (.float .f64 X)) : CloB w w.heap.size t y p X (w.alloc (.cells #[.string t, .int .i64 y] 51)) := by
  have hb : Below w.heap.size w (w.alloc (.cells #[.string t, .int .i64 y] 51)) := (Below.refl _ _).alloc (Nat.le_refl _) _
  exact ⟨hb, by simp [go_sem], by simp [go_sem], (hb.cell (lt_cell hc)).trans hc⟩
set_option maxHeartbeats 4000000 in
set_option maxRecDepth 100000 in
theorem clo_any (t : ByteArray) (y : Int) (p : Addr) (X : Nat) (h0 : 0 < t.size) (hs : t.size ≤ 100) (hg : good 10 t.data.toList) (hy : -1500 ≤ y) (hy' : y ≤ 1500) (w : World) (hG : WrG w) (hc : w.cell? p = some (.float .f64 X)) :
    Calls Tryz.prog 32 #[.agg #[.string t, .int .i64 y], .pointer (some p)] w fun e w' => e = .returned (.bool (Rds X t (y + 1))) ∧ Below w.heap.size w w' := by
  obtain ⟨A, hA⟩ : ∃ A, w.heap.size = A := ⟨_, rfl⟩
  obtain ⟨W2, hW2⟩ : ∃ W2, w.alloc (.cells #[.string t, .int .i64 y] 51) = W2 := ⟨_, rfl⟩
  have HX2 : Hid (CloB w A t y p X W2) := by rw [← hW2, ← hA]; exact CloB.new hc
  obtain ⟨D, hD⟩ : ∃ D, decW 10 (valN 10 t.data.toList) (y + 1 - (t.size : Int)) = D := ⟨_, rfl⟩
  obtain ⟨B, hB⟩ : ∃ B, Rds X t (y + 1) = B := ⟨_, rfl⟩
  have hB' : (FloatKind.f64.format.order D X == some .eq) = B := by rw [← hB, ← hD]; rfl
  have HG : Hid (WrG w) := hG
  have HF : Hid (∀ W, CloB w A t y p X W → Calls Tryz.prog 33 #[.agg #[.string t, .int .i64 y]] W fun r w' => ∃ ty v fn, Hid ((∀ w, (Go.method 358 ty v "loop.example/grain/impl.write").run Tryz.prog w = .ok (fn, v) w) ∧ (∀ args w, (callFunc fn args).run Tryz.prog w = .ok (.enter fn args) w) ∧ ∀ W, CloB w A t y p X W → Calls Tryz.prog fn #[v] W fun r w' => r = .returned (.string (shortB t (y + 1))) ∧ Hid (CloB w A t y p X w')) ∧ r = .returned (.iface ty v) ∧ Hid (CloB w A t y p X w')) := fun W hW => by
    refine (shortForm_any t y (by omega) (by omega) (by omega) W).mono ?_
    rintro r w' ⟨F, hF, rfl, hb⟩
    obtain ⟨ty, v, fn, rfl, hm, he, hw⟩ := shF_writes t y F hF h0 (by omega) (by omega) (by omega)
    refine ⟨ty, v, fn, ⟨hm, he, fun W' hW' => ?_⟩, rfl, hW.next hb⟩
    refine (hw W' (HG.out.below hW'.1)).mono ?_
    rintro r w' ⟨rfl, hb⟩
    exact ⟨rfl, hW'.next hb⟩
  have HR : Hid (∀ W, CloB w A t y p X W → Calls Tryz.prog 27 #[.string (shortB t (y + 1))] W fun r w' => r = .returned (.agg #[.bool true, .int .i64 0, .float .f64 D]) ∧ Hid (CloB w A t y p X w')) := fun W hW => by
    have hr := read_short t (y + 1) h0 hs hg (by omega) (by omega)
    refine (implRead_of (shortB t (y + 1)) W (.inr fun ok pl fl h => (readA_one h hr).1)).mono ?_
    rintro r w' ⟨ok, pl, fl, x, hra, hx, _, rfl, hb⟩
    obtain ⟨rfl, rfl, rfl⟩ := readA_one hra hr
    have hx' : x = D := by rw [← hD]; exact hx
    exact ⟨by rw [hx'], hW.next hb⟩
  have hfd : ∀ w : World, (Instr.field 40 (.agg #[.bool true, .int .i64 0, .float .f64 D]) 2).run Tryz.prog w = .ok (.float .f64 D) w := fun _ => by kernel_rfl
  have hc0 := HX2.out.2.1
  have hc1 := HX2.out.2.2.1
  have hc2 := HX2.out.2.2.2
  clear hD hG h0 hg hc
  go_enter Tryz.func32, Tryz.ntmps32
  go_wp2
  refine wp_region_held_drew (S := fun X' => CloB w A t y p X X') (by kernel_rfl) HX2.out.drew (fun hHeld => ?_)
  refine wpAnyH_take (i := 0) (oi := _) (v := ?v0) rfl (by kernel_rfl) (by kernel_rfl) (by kernel_rfl) (fun _ _ _ h => h) (Or.inl ⟨by rfl, ?y0⟩) (by assumption) ?_
  case y0 => (intro w' hSw; obtain ⟨_, y0, y1, y2⟩ := hSw; go_simp; first | done | with_reducible rfl)
  try simp only [Act.put]
  try simp only [List.setIfInBounds_toArray]
  try simp only [List.set_cons_succ]
  try simp only [List.set_cons_zero]
  refine wpAnyH_take (i := 5) (oi := _) (v := ?v5) rfl (by kernel_rfl) (by kernel_rfl) (by kernel_rfl) (fun _ _ _ h => h) (Or.inl ⟨by rfl, ?y5⟩) (by assumption) ?_
  case y5 => (intro w' hSw; obtain ⟨_, y0, y1, y2⟩ := hSw; go_simp; first | done | with_reducible rfl)
  try simp only [Act.put]
  try simp only [List.setIfInBounds_toArray]
  try simp only [List.set_cons_succ]
  try simp only [List.set_cons_zero]
  have HXd : Hid (CloB w A t y p X W2.drew) := HX2.out.drew
  generalize W2.drew = W3 at *
  refine wpAnyH_ready (rs := [1]) (by kernel_rfl) (by simp) ?_
  refine AllReadyH.cons (o := _) rfl (fun K hK => ?_) AllReadyH.nil
  go_simp
  refine (HF.out _ HXd.out).mono ?_
  rintro r W4 ⟨ty, v, fn, HMW, rfl, HX4⟩
  dsimp only
  refine hK.out _ _ HX4.out (fun hHeld => ?_)
  clear hK K
  try simp only [Act.put]
  try simp only [List.setIfInBounds_toArray]
  try simp only [List.set_cons_succ]
  try simp only [List.set_cons_zero]
  have hm := HMW.out.1
  have he := HMW.out.2.1
  refine wpAnyH_ready (rs := [2]) (by kernel_rfl) (by simp) ?_
  refine AllReadyH.cons (o := _) rfl (fun K hK => ?_) AllReadyH.nil
  go_simp
  refine (HMW.out.2.2 _ HX4.out).mono ?_
  rintro r W5 ⟨rfl, HX5⟩
  dsimp only
  refine hK.out _ _ HX5.out (fun hHeld => ?_)
  clear hK K
  try simp only [Act.put]
  try simp only [List.setIfInBounds_toArray]
  try simp only [List.set_cons_succ]
  try simp only [List.set_cons_zero]
  clear hm he
  refine wpAnyH_ready (rs := [3]) (by kernel_rfl) (by simp) ?_
  refine AllReadyH.cons (o := _) rfl (fun K hK => ?_) AllReadyH.nil
  go_simp
  refine (HR.out _ HX5.out).mono ?_
  rintro r W6 ⟨rfl, HX6⟩
  dsimp only
  refine hK.out _ _ HX6.out (fun hHeld => ?_)
  clear hK K
  try simp only [Act.put]
  try simp only [List.setIfInBounds_toArray]
  try simp only [List.set_cons_succ]
  try simp only [List.set_cons_zero]
  refine wpAnyH_take (i := 4) (oi := _) (v := ?v4) rfl (by kernel_rfl) (by kernel_rfl) (by kernel_rfl) (fun _ _ _ h => h) (Or.inl ⟨by rfl, ?y4⟩) (by assumption) ?_
  case y4 => (intro w' hSw; obtain ⟨_, y0, y1, y2⟩ := hSw; go_simp; first | done | with_reducible rfl)
  try simp only [Act.put]
  try simp only [List.setIfInBounds_toArray]
  try simp only [List.set_cons_succ]
  try simp only [List.set_cons_zero]
  refine wpAnyH_take (i := 6) (oi := _) (v := ?v6) rfl (by kernel_rfl) (by kernel_rfl) (by kernel_rfl) (fun _ _ _ h => h) (Or.inl ⟨by rfl, ?y6⟩) (by assumption) ?_
  case y6 => (intro w' hSw; obtain ⟨_, y0, y1, y2⟩ := hSw; go_simp; first | done | with_reducible rfl)
  try simp only [Act.put]
  try simp only [List.setIfInBounds_toArray]
  try simp only [List.set_cons_succ]
  try simp only [List.set_cons_zero]
  refine wpAnyH_ready (rs := [7]) (by kernel_rfl) (by simp) ?_
  refine AllReadyH.cons (o := _) rfl (fun K hK => ?_) AllReadyH.nil
  go_simp
  refine hK.out _ _ HX6.out (fun hHeld => ?_)
  clear hK K
  refine wpAnyH_done (by kernel_rfl) ?_ _
  go_wp2
  go_ret
  exact ⟨by rw [hB]; rfl, HX6.out.1⟩
end Go.Proofs.YtpmccbkhkaoccaaGreatDoor

