import Derived.Test.YtpmccbkhkaoccaaGreatDoorB22
import Derived.Test.YtpmccbkhkaoccaaGreatDoorB14
import Derived.Test.YtpmccbkhkaoccaaGreatDoorB03
import Derived.Test.YtpmccbkhkaoccaaGreatDoorB17
import Derived.Test.YtpmccbkhkaoccaaGreatDoorB18
import Derived.Test.YtpmccbkhkaoccaaGreatDoorB15
/- l5exact of the specification. -/
namespace Go.Proofs.YtpmccbkhkaoccaaGreatDoor
open Go.ChangeShapes Go.WideShapes Go.RowKit
open Ieee (double)

theorem dec_up_size (ds : ByteArray) (M E : Nat) (hM : M < 9007199254740992) (h : IsDec ds (M * 2 ^ E)) (h0 : 0 < ds.size) : 3 * ds.size ≤ 56 + E := by
  have h1 := (dec_bounds ds _ h h0).1
  have h3 : 2 ^ (3 * (ds.size - 1)) ≤ 10 ^ (ds.size - 1) := by rw [Nat.pow_mul]; exact Nat.pow_le_pow_left (by omega) _
  have h5 : M * 2 ^ E < 2 ^ (53 + E) := by
    rw [Nat.pow_add]
    exact Nat.mul_lt_mul_of_pos_right (show M < 2 ^ 53 from hM) (Nat.two_pow_pos _)
  have h6 := (Nat.pow_lt_pow_iff_right (a := 2) (by omega)).1 (Nat.lt_of_le_of_lt (Nat.le_trans h3 h1) h5)
  omega
theorem dec_down_size (ds : ByteArray) (M s : Nat) (hM : M < 9007199254740992) (h : IsDec ds (M * 5 ^ s)) (h0 : 0 < ds.size) : ds.size ≤ 16 + s := by
  have h1 := (dec_bounds ds _ h h0).1
  have h2 : 5 ^ s ≤ 10 ^ s := Nat.pow_le_pow_left (by omega) _
  have h3 : M * 5 ^ s < 10 ^ (16 + s) := by
    rw [Nat.pow_add]
    exact Nat.mul_lt_mul_of_lt_of_le (show M < 10 ^ 16 by omega) h2 (Nat.pow_pos (by omega))
  have h6 := (Nat.pow_lt_pow_iff_right (a := 10) (by omega)).1 (Nat.lt_of_le_of_lt h1 h3)
  omega

set_option maxHeartbeats 2000000 in
set_option maxRecDepth 100000 in
theorem l5exact_up (x q E : Nat) (hP : ∀ w, Calls Tryz.prog 19 #[.float .f64 x] w fun e w' => e = .returned (.agg #[.int .i64 1, .bool false, .int .i64 (q : Int), .int .i64 (E : Int)]) ∧ Below w.heap.size w w')
    (hq0 : 0 < q) (hq : q < 9007199254740992) (hE : E ≤ 1030) (w : World) :
    Calls Tryz.prog 42 #[.float .f64 x] w fun e w' => ∃ ds pow, ExD ds pow q (E : Int) ∧ ds.size ≤ 1100 ∧ -1100 ≤ pow ∧ pow ≤ 1100 ∧ e = .returned (.agg #[.string ds, .int .i64 pow]) ∧ Below w.heap.size w w' := by
  have HP : Hid _ := hP
  have HF : Hid _ := fun w => l0from_any q (by omega) w
  have HA : Hid (q < 4294967296 ^ 2) := by show q < _; omega
  have HUP : Hid (q * 2 ^ E < 4294967296 ^ (2 + E)) := by
    show _ < _
    rw [Nat.pow_add]
    exact Nat.mul_lt_mul_of_lt_of_le HA.out (Nat.pow_le_pow_left (by omega) E) (Nat.pow_pos (by omega))
  have HP0 : Hid (0 < q * 2 ^ E) := Nat.mul_pos hq0 (Nat.two_pow_pos E)
  have hqi : (q : Int) < 9007199254740992 := by omega
  have HQ : Hid (q < 9007199254740992) := hq
  clear hP hq
  go_enter Tryz.func42, Tryz.ntmps42
  go_wp2_with fail
  refine (HP.out _).mono ?_
  rintro e w1 ⟨rfl, hb1⟩
  have hw1 : w.heap.size < w1.heap.size := by have := hb1.size; simp at this; omega
  have HB0 : Hid (Below w.heap.size w w1) := ((Below.refl _ _).alloc (Nat.le_refl _) _).trans (hb1.mono (by simp))
  have c0 : w1.cell? ⟨w.heap.size, 0, none⟩ = some (.string ⟨#[]⟩) := (hb1.cell (p := ⟨w.heap.size, 0, none⟩) (by simp)).trans (by simp [go_sem])
  have c1 : w1.cell? ⟨w.heap.size, 1, none⟩ = some (.int .i64 0) := (hb1.cell (p := ⟨w.heap.size, 1, none⟩) (by simp)).trans (by simp [go_sem])
  have f0 : w1.frozen? ⟨w.heap.size, 0, none⟩ = false := (hb1.frozen (p := ⟨w.heap.size, 0, none⟩) (by simp)).trans (by simp [go_sem])
  have f1 : w1.frozen? ⟨w.heap.size, 1, none⟩ = false := (hb1.frozen (p := ⟨w.heap.size, 1, none⟩) (by simp)).trans (by simp [go_sem])
  clear hb1
  go_wp2_with fail
  obtain ⟨Wp, hWp⟩ : ∃ Wp, Wp = w1.alloc (.cells #[.int .i64 1, .bool false, .int .i64 (q : Int), .int .i64 (E : Int)] 32) := ⟨_, rfl⟩
  rw [← hWp]
  have HKP : Hid (Below w.heap.size w Wp ∧ w.heap.size < Wp.heap.size ∧ w1.heap.size < Wp.heap.size ∧ Wp.cell? ⟨w.heap.size, 0, none⟩ = some (.string ⟨#[]⟩) ∧ Wp.cell? ⟨w.heap.size, 1, none⟩ = some (.int .i64 0) ∧ Wp.frozen? ⟨w.heap.size, 0, none⟩ = false ∧ Wp.frozen? ⟨w.heap.size, 1, none⟩ = false
      ∧ Wp.cell? ⟨w1.heap.size, 3, none⟩ = some (.int .i64 (E : Int))) := by
    rw [hWp]
    have hba := (Below.refl w1.heap.size w1).alloc (Nat.le_refl _) (.cells #[.int .i64 1, .bool false, .int .i64 (q : Int), .int .i64 (E : Int)] 32)
    exact ⟨HB0.out.trans (hba.mono (by omega)), by simp; omega, by simp, (hba.cell (p := ⟨w.heap.size, 0, none⟩) hw1).trans c0, (hba.cell (p := ⟨w.heap.size, 1, none⟩) hw1).trans c1, (hba.frozen (p := ⟨w.heap.size, 0, none⟩) hw1).trans f0, (hba.frozen (p := ⟨w.heap.size, 1, none⟩) hw1).trans f1, by simp [go_sem]⟩
  clear hWp c0 c1 f0 f1 HB0 hw1
  refine (HF.out _).mono ?_
  rintro e w2 ⟨v2, rfl, hb2, hv2⟩
  have HB2 : Hid (Below Wp.heap.size Wp w2) := hb2
  have HV2 : Hid (Big w2 v2 q) := hv2
  have hp3 : w2.cell? ⟨w1.heap.size, 3, none⟩ = some (.int .i64 (E : Int)) := (hb2.cell (p := ⟨w1.heap.size, 3, none⟩) HKP.out.2.2.1).trans HKP.out.2.2.2.2.2.2.2
  clear hb2 hv2 HF HP
  go_wp2_with fail
  refine (l0shl_big _ q 2 E _ HV2.out HA.out (by omega) (by omega)).mono ?_
  rintro e w3 ⟨v3, rfl, hb3, hv3⟩
  have HB3 : Hid (Below Wp.heap.size Wp w3) := HB2.out.trans (hb3.mono HB2.out.size)
  have HV3 : Hid (Big w3 v3 (q * 2 ^ E)) := hv3
  clear hb3 hv3 hp3
  go_wp2_with fail
  refine (l0digits_any v3 (q * 2 ^ E) (2 + E) w3 HV3.out HUP.out (by omega)).mono ?_
  rintro e w4 ⟨d0, rfl, hd0, hb4⟩
  have HB4 : Hid (Below Wp.heap.size Wp w4) := HB3.out.trans (hb4.mono HB3.out.size)
  have hpos := dec_pos d0 _ hd0 HP0.out
  have hsz := dec_up_size d0 q E HQ.out hd0 hpos
  have HST : Hid (Stp d0 d0 0) := stp_start d0 _ hd0 HP0.out
  have HVD : Hid (valN 10 d0.data.toList = q * 2 ^ E) := hd0.2.1
  clear hb4 hd0 HV2 HV3 HB2 HB3
  go_wp2
  go_loop [6] (fun vt => ∃ (t : ByteArray) (j : Nat), vt = .string t ∧ Hid (Stp d0 t j) ∧ t.size + j = d0.size ∧ 0 < t.size) (fun vt => match vt with | .string t => t.size | _ => 0)
  case atStart => exact ⟨d0, 0, rfl, HST.out, rfl, hpos⟩
  case round =>
    obtain ⟨t, j, rfl, HS, htj, ht0⟩ := hrel
    obtain ⟨k, hk⟩ : ∃ k, t.size = k + 1 := ⟨t.size - 1, by omega⟩
    have hk1 : t.size - 1 = k := by omega
    have hkl : k < t.size := by omega
    have hki : (t.size : Int) - 1 = (k : Int) := by omega
    have hts : (t.size : Int) ≤ 1100 := by omega
    by_cases hz : t[k].toNat = 48
    · have HN : Hid (Stp d0 (t.extract 0 k) (j + 1)) := by
        have := stp_next d0 t j (by rw [HVD.out]; exact HP0.out) HS.out (fun _ => by simp only [hk1]; exact hz)
        rw [hk1] at this
        exact this
      have hz2 : (t[k].toNat : Int) = 48 := by omega
      clear hk hk1
      go_wp2
      have hes : (t.extract 0 k).size = k := by simp; omega
      exact ⟨⟨_, j + 1, rfl, HN.out, by omega, HN.out.1⟩, by show (t.extract 0 k).size < t.size; omega⟩
    · have HX : Hid (ExD t ((d0.size : Int) - ((0 : Nat) : Int)) q (E : Int)) := stp_end d0 t j q 0 (E : Int) HS.out (fun _ => by simp only [hk1]; exact hz) (by rw [HVD.out]; simp) (by omega)
      have hz2 : ((t[k].toNat : Int) == 48) = false := beq_eq_false_iff_ne.2 (by omega)
      obtain ⟨hR, hRl, _, r0, r1, g0, g1, _⟩ := HKP.out
      have hRl4 : w.heap.size < w4.heap.size := Nat.lt_of_lt_of_le hRl HB4.out.size
      have q0 : w4.cell? ⟨w.heap.size, 0, none⟩ = some (.string ⟨#[]⟩) := (HB4.out.cell (p := ⟨w.heap.size, 0, none⟩) hRl).trans r0
      have q1 : w4.cell? ⟨w.heap.size, 1, none⟩ = some (.int .i64 0) := (HB4.out.cell (p := ⟨w.heap.size, 1, none⟩) hRl).trans r1
      have p0 : w4.frozen? ⟨w.heap.size, 0, none⟩ = false := (HB4.out.frozen (p := ⟨w.heap.size, 0, none⟩) hRl).trans g0
      have p1 : w4.frozen? ⟨w.heap.size, 1, none⟩ = false := (HB4.out.frozen (p := ⟨w.heap.size, 1, none⟩) hRl).trans g1
      have HBE : Hid (Below w.heap.size w w4) := hR.trans (HB4.out.mono (by omega))
      clear r0 r1 g0 g1 hR hk hk1
      go_wp2
      have hba := (Below.refl ((w4.setCell ⟨w.heap.size, 0, none⟩ (.string t)).setCell ⟨w.heap.size, 1, none⟩ (.int .i64 (d0.size : Int))).heap.size ((w4.setCell ⟨w.heap.size, 0, none⟩ (.string t)).setCell ⟨w.heap.size, 1, none⟩ (.int .i64 (d0.size : Int)))).alloc (Nat.le_refl _) (.cells #[.string t, .int .i64 (d0.size : Int)] 70)
      have e0 := (hba.cell (p := ⟨w.heap.size, 0, none⟩) (by simpa using hRl4)).trans (by simp [go_sem, q0] : _ = some (.string t))
      have e1 := (hba.cell (p := ⟨w.heap.size, 1, none⟩) (by simpa using hRl4)).trans (by simp [go_sem, q1] : _ = some (.int .i64 (d0.size : Int)))
      refine bodyPost_ret (v := .agg #[.string t, .int .i64 (d0.size : Int)]) (by simp [results, Tryz.results42, go_sem, e0, e1]) rfl ⟨t, (d0.size : Int), ?_, by omega, by omega, by omega, rfl, ((HBE.out.setCell (by simp) _).setCell (by simp) _).alloc (by simp; omega) _⟩
      have := HX.out
      rw [show (d0.size : Int) - ((0 : Nat) : Int) = (d0.size : Int) by omega] at this
      exact this
set_option maxHeartbeats 2000000 in
set_option maxRecDepth 100000 in
theorem l5exact_down (x q s : Nat) (hP : ∀ w, Calls Tryz.prog 19 #[.float .f64 x] w fun e w' => e = .returned (.agg #[.int .i64 1, .bool false, .int .i64 (q : Int), .int .i64 (-(s : Int))]) ∧ Below w.heap.size w w')
    (hq0 : 0 < q) (hq : q < 9007199254740992) (hs : s ≤ 1074) (hs0 : 0 < s) (w : World) :
    Calls Tryz.prog 42 #[.float .f64 x] w fun e w' => ∃ ds pow, ExD ds pow q (-(s : Int)) ∧ ds.size ≤ 1100 ∧ -1100 ≤ pow ∧ pow ≤ 1100 ∧ e = .returned (.agg #[.string ds, .int .i64 pow]) ∧ Below w.heap.size w w' := by
  have HP : Hid _ := hP
  have HF : Hid _ := fun w => l0from_any q (by omega) w
  have HA : Hid (q < 4294967296 ^ 2) := by show q < _; omega
  have HUP : Hid _ := down_bound q s HA.out
  have HP0 : Hid (0 < q * 5 ^ s) := Nat.mul_pos hq0 (Nat.pow_pos (by omega))
  have hqi : (q : Int) < 9007199254740992 := by omega
  have HQ : Hid (q < 9007199254740992) := hq
  clear hP hq
  go_enter Tryz.func42, Tryz.ntmps42
  go_wp2_with fail
  refine (HP.out _).mono ?_
  rintro e w1 ⟨rfl, hb1⟩
  have hw1 : w.heap.size < w1.heap.size := by have := hb1.size; simp at this; omega
  have HB0 : Hid (Below w.heap.size w w1) := ((Below.refl _ _).alloc (Nat.le_refl _) _).trans (hb1.mono (by simp))
  have c0 : w1.cell? ⟨w.heap.size, 0, none⟩ = some (.string ⟨#[]⟩) := (hb1.cell (p := ⟨w.heap.size, 0, none⟩) (by simp)).trans (by simp [go_sem])
  have c1 : w1.cell? ⟨w.heap.size, 1, none⟩ = some (.int .i64 0) := (hb1.cell (p := ⟨w.heap.size, 1, none⟩) (by simp)).trans (by simp [go_sem])
  have f0 : w1.frozen? ⟨w.heap.size, 0, none⟩ = false := (hb1.frozen (p := ⟨w.heap.size, 0, none⟩) (by simp)).trans (by simp [go_sem])
  have f1 : w1.frozen? ⟨w.heap.size, 1, none⟩ = false := (hb1.frozen (p := ⟨w.heap.size, 1, none⟩) (by simp)).trans (by simp [go_sem])
  clear hb1
  go_wp2_with fail
  obtain ⟨Wp, hWp⟩ : ∃ Wp, Wp = w1.alloc (.cells #[.int .i64 1, .bool false, .int .i64 (q : Int), .int .i64 (-(s : Int))] 32) := ⟨_, rfl⟩
  rw [← hWp]
  have HKP : Hid (Below w.heap.size w Wp ∧ w.heap.size < Wp.heap.size ∧ w1.heap.size < Wp.heap.size ∧ Wp.cell? ⟨w.heap.size, 0, none⟩ = some (.string ⟨#[]⟩) ∧ Wp.cell? ⟨w.heap.size, 1, none⟩ = some (.int .i64 0) ∧ Wp.frozen? ⟨w.heap.size, 0, none⟩ = false ∧ Wp.frozen? ⟨w.heap.size, 1, none⟩ = false
      ∧ Wp.cell? ⟨w1.heap.size, 3, none⟩ = some (.int .i64 (-(s : Int)))) := by
    rw [hWp]
    have hba := (Below.refl w1.heap.size w1).alloc (Nat.le_refl _) (.cells #[.int .i64 1, .bool false, .int .i64 (q : Int), .int .i64 (-(s : Int))] 32)
    exact ⟨HB0.out.trans (hba.mono (by omega)), by simp; omega, by simp, (hba.cell (p := ⟨w.heap.size, 0, none⟩) hw1).trans c0, (hba.cell (p := ⟨w.heap.size, 1, none⟩) hw1).trans c1, (hba.frozen (p := ⟨w.heap.size, 0, none⟩) hw1).trans f0, (hba.frozen (p := ⟨w.heap.size, 1, none⟩) hw1).trans f1, by simp [go_sem]⟩
  clear hWp c0 c1 f0 f1 HB0 hw1
  refine (HF.out _).mono ?_
  rintro e w2 ⟨v2, rfl, hb2, hv2⟩
  have HB2 : Hid (Below Wp.heap.size Wp w2) := hb2
  have HV2 : Hid (Big w2 v2 q) := hv2
  have hp3 : w2.cell? ⟨w1.heap.size, 3, none⟩ = some (.int .i64 (-(s : Int))) := (hb2.cell (p := ⟨w1.heap.size, 3, none⟩) HKP.out.2.2.1).trans HKP.out.2.2.2.2.2.2.2
  clear hb2 hv2 HF HP hqi
  go_wp2_with fail
  refine (l0pow_any 5 s _ (by omega) (by omega)).mono ?_
  rintro e wq ⟨vq, rfl, hbq, hvq⟩
  have HBq : Hid (Below w2.heap.size w2 wq) := hbq
  have HVq : Hid (Big wq vq (5 ^ s)) := hvq
  clear hbq hvq hp3
  go_wp2_with fail
  refine (l0times_any _ _ q (5 ^ s) (s + 2) _ (HV2.out.below HBq.out (Nat.le_refl _)) HVq.out HUP.out.1 HUP.out.2.1 (by omega)).mono ?_
  rintro e w3 ⟨v3, rfl, hb3, hv3⟩
  have HB3 : Hid (Below Wp.heap.size Wp w3) := HB2.out.trans ((HBq.out.trans (hb3.mono HBq.out.size)).mono HB2.out.size)
  have HV3 : Hid (Big w3 v3 (q * 5 ^ s)) := hv3
  clear hb3 hv3 HVq HBq
  go_wp2_with fail
  refine (l0digits_any v3 (q * 5 ^ s) (s + 2 + (s + 2)) w3 HV3.out HUP.out.2.2 (by omega)).mono ?_
  rintro e w4 ⟨d0, rfl, hd0, hb4⟩
  have HB4 : Hid (Below Wp.heap.size Wp w4) := HB3.out.trans (hb4.mono HB3.out.size)
  have hpos := dec_pos d0 _ hd0 HP0.out
  have hsz := dec_down_size d0 q s HQ.out hd0 hpos
  have HST : Hid (Stp d0 d0 0) := stp_start d0 _ hd0 HP0.out
  have HVD : Hid (valN 10 d0.data.toList = q * 5 ^ s) := hd0.2.1
  clear hb4 hd0 HV2 HV3 HB2 HB3
  go_wp2
  go_loop [6] (fun vt => ∃ (t : ByteArray) (j : Nat), vt = .string t ∧ Hid (Stp d0 t j) ∧ t.size + j = d0.size ∧ 0 < t.size) (fun vt => match vt with | .string t => t.size | _ => 0)
  case atStart => exact ⟨d0, 0, rfl, HST.out, rfl, hpos⟩
  case round =>
    obtain ⟨t, j, rfl, HS, htj, ht0⟩ := hrel
    obtain ⟨k, hk⟩ : ∃ k, t.size = k + 1 := ⟨t.size - 1, by omega⟩
    have hk1 : t.size - 1 = k := by omega
    have hkl : k < t.size := by omega
    have hki : (t.size : Int) - 1 = (k : Int) := by omega
    have hts : (t.size : Int) ≤ 1100 := by omega
    by_cases hz : t[k].toNat = 48
    · have HN : Hid (Stp d0 (t.extract 0 k) (j + 1)) := by
        have := stp_next d0 t j (by rw [HVD.out]; exact HP0.out) HS.out (fun _ => by simp only [hk1]; exact hz)
        rw [hk1] at this
        exact this
      have hz2 : (t[k].toNat : Int) = 48 := by omega
      clear hk hk1
      go_wp2
      have hes : (t.extract 0 k).size = k := by simp; omega
      exact ⟨⟨_, j + 1, rfl, HN.out, by omega, HN.out.1⟩, by show (t.extract 0 k).size < t.size; omega⟩
    · have HX : Hid (ExD t ((d0.size : Int) - (s : Int)) q (-(s : Int))) := stp_end d0 t j q s (-(s : Int)) HS.out (fun _ => by simp only [hk1]; exact hz) (by rw [HVD.out, show (-(s : Int)).toNat = 0 by omega, Nat.pow_zero, Nat.mul_one]) (by omega)
      have hz2 : ((t[k].toNat : Int) == 48) = false := beq_eq_false_iff_ne.2 (by omega)
      obtain ⟨hR, hRl, _, r0, r1, g0, g1, _⟩ := HKP.out
      have hRl4 : w.heap.size < w4.heap.size := Nat.lt_of_lt_of_le hRl HB4.out.size
      have q0 : w4.cell? ⟨w.heap.size, 0, none⟩ = some (.string ⟨#[]⟩) := (HB4.out.cell (p := ⟨w.heap.size, 0, none⟩) hRl).trans r0
      have q1 : w4.cell? ⟨w.heap.size, 1, none⟩ = some (.int .i64 0) := (HB4.out.cell (p := ⟨w.heap.size, 1, none⟩) hRl).trans r1
      have p0 : w4.frozen? ⟨w.heap.size, 0, none⟩ = false := (HB4.out.frozen (p := ⟨w.heap.size, 0, none⟩) hRl).trans g0
      have p1 : w4.frozen? ⟨w.heap.size, 1, none⟩ = false := (HB4.out.frozen (p := ⟨w.heap.size, 1, none⟩) hRl).trans g1
      have HBE : Hid (Below w.heap.size w w4) := hR.trans (HB4.out.mono (by omega))
      clear r0 r1 g0 g1 hR hk hk1
      go_wp2
      have hba := (Below.refl ((w4.setCell ⟨w.heap.size, 0, none⟩ (.string t)).setCell ⟨w.heap.size, 1, none⟩ (.int .i64 ((d0.size : Int) - (s : Int)))).heap.size ((w4.setCell ⟨w.heap.size, 0, none⟩ (.string t)).setCell ⟨w.heap.size, 1, none⟩ (.int .i64 ((d0.size : Int) - (s : Int))))).alloc (Nat.le_refl _) (.cells #[.string t, .int .i64 ((d0.size : Int) - (s : Int))] 70)
      have e0 := (hba.cell (p := ⟨w.heap.size, 0, none⟩) (by simpa using hRl4)).trans (by simp [go_sem, q0] : _ = some (.string t))
      have e1 := (hba.cell (p := ⟨w.heap.size, 1, none⟩) (by simpa using hRl4)).trans (by simp [go_sem, q1] : _ = some (.int .i64 ((d0.size : Int) - (s : Int))))
      refine bodyPost_ret (v := .agg #[.string t, .int .i64 ((d0.size : Int) - (s : Int))]) (by simp [results, Tryz.results42, go_sem, e0, e1]) rfl ⟨t, (d0.size : Int) - (s : Int), HX.out, by omega, by omega, by omega, rfl, ((HBE.out.setCell (by simp) _).setCell (by simp) _).alloc (by simp; omega) _⟩
end Go.Proofs.YtpmccbkhkaoccaaGreatDoor

/- l5exact of the specification, at whatever number. -/
namespace Go.Proofs.YtpmccbkhkaoccaaGreatDoor
open Go.ChangeShapes Go.WideShapes Go.RowKit
open Ieee (double)

/-- All digits of a number above 0. -/
theorem l5exact_any (n : Nat) (p : Int) (hc : Canon n p) (h0 : 0 < n) : ∃ q k : Nat, n = q * 2 ^ k ∧ q % 2 = 1 ∧ ∀ w, Calls Tryz.prog 42 #[.float .f64 (fw false n p)] w fun e w' =>
    ∃ ds pow, ExD ds pow q (p + k) ∧ ds.size ≤ 1100 ∧ -1100 ≤ pow ∧ pow ≤ 1100 ∧ e = .returned (.agg #[.string ds, .int .i64 pow]) ∧ Below w.heap.size w w' := by
  obtain ⟨q, k, hq, hq1⟩ := odd_some n h0
  refine ⟨q, k, hq, hq1, fun w => ?_⟩
  have hn : n < 9007199254740992 := by rcases hc with h | h <;> omega
  have hp1 : -1074 ≤ p := by rcases hc with h | h <;> omega
  have hp2 : p ≤ 971 := by rcases hc with h | h <;> omega
  have hqn : q ≤ n := by rw [hq]; exact Nat.le_mul_of_pos_right q (Nat.two_pow_pos k)
  have hk : k ≤ 52 := by
    have h1 : 2 ^ k ≤ n := by rw [hq]; exact Nat.le_mul_of_pos_left _ (by omega)
    have h2 : 2 ^ k < 2 ^ 53 := Nat.lt_of_le_of_lt h1 hn
    have := (Nat.pow_lt_pow_iff_right (a := 2) (by omega)).1 h2
    omega
  have hP := fun w => parts_fixed false n p q k hc h0 hq hq1 w
  by_cases hE : 0 ≤ p + (k : Int)
  · obtain ⟨E, hE'⟩ := Int.eq_ofNat_of_zero_le hE
    rw [hE'] at hP ⊢
    exact l5exact_up _ q E hP (by omega) (by omega) (by omega) w
  · obtain ⟨s, hs⟩ : ∃ s : Nat, p + (k : Int) = -(s : Int) := ⟨(-(p + (k : Int))).toNat, by omega⟩
    rw [hs] at hP ⊢
    exact l5exact_down _ q s hP (by omega) (by omega) (by omega) (by omega) w
end Go.Proofs.YtpmccbkhkaoccaaGreatDoor

/- l5zeros of the specification. -/
namespace Go.Proofs.YtpmccbkhkaoccaaGreatDoor
open Go.ChangeShapes Go.WideShapes Go.RowKit

set_option maxHeartbeats 400000 in
theorem l5zeros_at (n : Nat) (hn : n ≤ 1000000) (w : World) :
    Calls Tryz.prog 54 #[.int .i64 (n : Int)] w fun e w' => e = .returned (.string ⟨(zerosL n).toArray⟩) ∧ w' = w.alloc (.cells (tcells (zerosL n) n).toArray 5) := by
  have hmk := make_u8 n (by omega)
  have hl := zerosL_length n
  have HFR : Hid (∀ i, i < n → (tcells (zerosL n) i)[i]? = some (.int .u8 0)) := fun i h => tcells_free _ i (by omega)
  have HST : Hid (∀ i, i < n → (tcells (zerosL n) i).set i (.int .u8 48) = tcells (zerosL n) (i + 1)) := fun i h => by
    have := tcells_set (zerosL n) i (by omega)
    rw [show ((zerosL n)[i]'(by omega)).toNat = 48 by simp [zerosL]] at this
    exact this
  have hcv := text_end w (zerosL n) 5
  rw [hl] at hcv
  rw [show List.replicate n (Value.int .u8 0) = tcells (zerosL n) 0 by rw [tcells_zero, hl]] at hmk
  generalize zerosL n = tl at *
  clear hl
  go_enter Tryz.func54, Tryz.ntmps54
  go_wp2
  go_loopw [9] (fun vi wl => ∃ i : Nat, vi = .int .i64 (i : Int) ∧ i ≤ n ∧ wl = w.alloc (.cells (tcells tl i).toArray 5)) (fun vi _ => n - (intOf vi).toNat)
  case atStart => exact ⟨0, rfl, by omega, rfl⟩
  case round =>
    obtain ⟨i, rfl, hi, rfl⟩ := hrel
    by_cases hlt : i < n
    · have hfr := HFR.out i hlt
      have HS : Hid _ := HST.out i hlt
      clear hcv
      go_wp2
      rw [HS.out]
      exact ⟨⟨i + 1, rfl, by omega, rfl⟩, by simp only [intOf]; omega⟩
    · obtain rfl : i = n := by omega
      go_wp2
      go_ret
      exact ⟨rfl, rfl⟩
theorem l5zeros_any (n : Nat) (hn : n ≤ 1000000) (w : World) :
    Calls Tryz.prog 54 #[.int .i64 (n : Int)] w fun e w' => e = .returned (.string ⟨(zerosL n).toArray⟩) ∧ Below w.heap.size w w' := by
  refine (l5zeros_at n hn w).mono ?_
  rintro e w' ⟨rfl, rfl⟩
  exact ⟨rfl, (Below.refl _ _).alloc (Nat.le_refl _) _⟩
end Go.Proofs.YtpmccbkhkaoccaaGreatDoor

/- l5plain of the specification: with a point inside. -/
namespace Go.Proofs.YtpmccbkhkaoccaaGreatDoor
open Go.ChangeShapes Go.WideShapes Go.RowKit

set_option maxHeartbeats 1000000 in
set_option maxRecDepth 100000 in
theorem l5plain_mid (ds : ByteArray) (k : Nat) (hs : ds.size ≤ 1100) (hk : 0 < k) (hk2 : k < ds.size) (w : World) :
    Calls Tryz.prog 40 #[.agg #[.string ds, .int .i64 (k : Int)]] w fun e w' => e = .returned (.string (ds.extract 0 k ++ dotB ++ ds.extract k ds.size)) ∧ Below w.heap.size w w' := by
  have hs' : (ds.size : Int) ≤ 1100 := by omega
  go_enter Tryz.func40, Tryz.ntmps40
  go_wp2
  go_quiet (fail)
  go_wp2
  go_ret
  exact ⟨rfl, below_drewN ((Below.refl _ _).alloc (Nat.le_refl _) _) _⟩
end Go.Proofs.YtpmccbkhkaoccaaGreatDoor

