import Derived.Test.YtoedefjngipeiaaGreatDoorA03
import Derived.Test.YtoedefjngipeiaaGreatDoorA14
import Derived.Test.YtoedefjngipeiaaGreatDoorA19
import Derived.Test.YtoedefjngipeiaaGreatDoorA08
import Derived.Test.YtoedefjngipeiaaGreatDoorA09
import Derived.Test.YtoedefjngipeiaaGreatDoorA11
import Derived.Test.YtoedefjngipeiaaGreatDoorA13
import Derived.Test.YtoedefjngipeiaaGreatDoorA04
/- l5size and l5odd of the specification. -/
namespace Go.Proofs.YtoedefjngipeiaaGreatDoor
open Go.ChangeShapes Go.WideShapes Go.RowKit
open Ieee (double)

def sgnB (s : Bool) : ByteArray := if s then ⟨#[45]⟩ else ⟨#[]⟩
theorem sgnB_size (s : Bool) : (sgnB s).size ≤ 1 := by cases s <;> decide
set_option maxHeartbeats 400000 in
theorem l5size_nan (x : Nat) (h : IsNan x) (w : World) :
    Calls Tryz.prog 74 #[.float .f64 x] w fun e w' => e = .returned (.tuple #[.float .f64 x, .string ⟨#[]⟩]) ∧ w' = w := by
  obtain ⟨s, n, hn⟩ := h
  have h1 : FloatKind.f64.format.order x 0 = none := (order_nan x 0 s n hn).1
  go_enter Tryz.func74, Tryz.ntmps74
  go_wp2
  go_ret2
  exact ⟨rfl, rfl⟩
set_option maxHeartbeats 400000 in
theorem l5size_some (x y : Nat) (s : Bool) (h : FloatKind.f64.format.order x 0 = some (if s then .lt else .gt)) (hy : Op.negFloat .f64 x = y) (w : World) :
    Calls Tryz.prog 74 #[.float .f64 x] w fun e w' => e = .returned (.tuple #[.float .f64 (if s then y else x), .string (sgnB s)]) ∧ w' = w := by
  have hn := fun w => run_neg x w
  rw [hy] at hn
  cases s
  all_goals
    go_enter Tryz.func74, Tryz.ntmps74
    go_wp2
    go_ret2
    exact ⟨rfl, rfl⟩
set_option maxHeartbeats 400000 in
theorem l5size_zero (s : Bool) (w : World) :
    Calls Tryz.prog 74 #[.float .f64 (signBit s)] w fun e w' => e = .returned (.tuple #[.float .f64 0, .string (sgnB s)]) ∧ w' = w := by
  have hz : FloatKind.f64.format.order (signBit s) 0 = some .eq := ord_zeros s
  have hd := run_valid (P := Tryz.prog) .quo 23 _ _ _ (one_by_zero s)
  have hi : FloatKind.f64.format.order (iw s) 0 = some (if s then .lt else .gt) := ord_inf_zero s
  have hn := fun w => run_neg (signBit s) w
  have hneg : Op.negFloat .f64 (signBit s) = signBit (!s) := by
    have := neg_word s 0 (by omega)
    simpa using this
  rw [hneg] at hn
  cases s
  · have HE : Hid (signBit false = 0) := rfl
    go_enter Tryz.func74, Tryz.ntmps74
    go_wp2
    go_ret2
    exact ⟨rfl, rfl⟩
  · have e1 : signBit (!true) = 0 := rfl
    rw [e1] at hn
    generalize signBit true = Z at *
    go_enter Tryz.func74, Tryz.ntmps74
    go_wp2
    go_ret2
    exact ⟨rfl, rfl⟩
/-- A float that is no NaN, and its size. -/
theorem l5size_any (s : Bool) (r : Nat) (hr : r ≤ 9218868437227405312) (w : World) :
    Calls Tryz.prog 74 #[.float .f64 (signBit s + r)] w fun e w' => e = .returned (.tuple #[.float .f64 r, .string (sgnB s)]) ∧ w' = w := by
  by_cases h0 : r = 0
  · subst h0; exact l5size_zero s w
  · have hord : FloatKind.f64.format.order (signBit s + r) 0 = some (if s then .lt else .gt) := by
      have := order_rank s false r 0 hr (by omega)
      rw [show signBit false + 0 = 0 from rfl] at this
      show double.order (signBit s + r) 0 = _
      rw [this]
      unfold rankI
      cases s
      · rw [if_neg (by decide), if_neg (by decide), cmp_gt _ _ (by omega)]; rfl
      · rw [if_pos rfl, if_neg (by decide), cmp_lt _ _ (by omega)]; rfl
    refine (l5size_some (signBit s + r) _ s hord (neg_word s r (by omega)) w).mono ?_
    rintro e w' ⟨rfl, rfl⟩
    refine ⟨?_, rfl⟩
    cases s
    · rw [if_neg (by decide), show signBit false + r = r from Nat.zero_add r]
    · rw [if_pos rfl, show signBit (!true) + r = r from Nat.zero_add r]
set_option maxHeartbeats 400000 in
theorem l5odd_nan (x : Nat) (h : IsNan x) (w : World) :
    Calls Tryz.prog 75 #[.float .f64 x] w fun e w' => e = .returned (.tuple #[.string ⟨#[110, 97, 110]⟩, .bool true]) ∧ w' = w := by
  have h1 : (FloatKind.f64.format.order x x != some .eq) = true := nan_neq x h
  go_enter Tryz.func75, Tryz.ntmps75
  go_wp2
  go_ret2
  exact ⟨rfl, rfl⟩
set_option maxHeartbeats 400000 in
theorem l5odd_inf (w : World) :
    Calls Tryz.prog 75 #[.float .f64 9218868437227405312] w fun e w' => e = .returned (.tuple #[.string ⟨#[105, 110, 102]⟩, .bool true]) ∧ w' = w := by
  have h1 : FloatKind.f64.format.order 9218868437227405312 9218868437227405312 = some .eq := order_self_iw false
  have h2 : FloatKind.f64.format.order 9218868437227405312 9218868437227405311 = some .gt := ord_inf_most
  go_enter Tryz.func75, Tryz.ntmps75
  go_wp2
  go_ret2
  exact ⟨rfl, rfl⟩
set_option maxHeartbeats 400000 in
theorem l5odd_num (r : Nat) (hr : r < 9218868437227405312) (w : World) :
    Calls Tryz.prog 75 #[.float .f64 r] w fun e w' => e = .returned (.tuple #[.string ⟨#[48]⟩, .bool (decide (r = 0))]) ∧ w' = w := by
  have h1 : FloatKind.f64.format.order r r = some .eq := by
    have := order_rank false false r r (by omega) (by omega)
    rw [show signBit false + r = r from Nat.zero_add r, cmp_eq _ _ rfl] at this
    exact this
  have h2 : (FloatKind.f64.format.order r 9218868437227405311 == some .gt) = false := by
    have := order_rank false false r 9218868437227405311 (by omega) (by omega)
    rw [show signBit false + r = r from Nat.zero_add r, show signBit false + 9218868437227405311 = 9218868437227405311 from rfl] at this
    show (double.order r _ == _) = false
    rw [this]
    unfold rankI
    rw [if_neg (by decide), if_neg (by decide)]
    by_cases h : r = 9218868437227405311
    · rw [cmp_eq _ _ (by omega)]; rfl
    · rw [cmp_lt _ _ (by omega)]; rfl
  have h3 : (FloatKind.f64.format.order r 0 == some .eq) = decide (r = 0) := by
    have := order_rank false false r 0 (by omega) (by omega)
    rw [show signBit false + r = r from Nat.zero_add r, show signBit false + 0 = 0 from rfl] at this
    show (double.order r _ == _) = _
    rw [this]
    unfold rankI
    rw [if_neg (by decide), if_neg (by decide)]
    by_cases h : r = 0
    · rw [cmp_eq _ _ (by omega), decide_eq_true h]; rfl
    · rw [cmp_gt _ _ (by omega), decide_eq_false h]; rfl
  clear hr
  go_enter Tryz.func75, Tryz.ntmps75
  go_wp2
  go_ret2
  exact ⟨rfl, rfl⟩
end Go.Proofs.YtoedefjngipeiaaGreatDoor

/- l5exact of the specification. -/
namespace Go.Proofs.YtoedefjngipeiaaGreatDoor
open Go.ChangeShapes Go.WideShapes Go.RowKit
open Ieee (double)

theorem dec_up_size (ds : ByteArray) (M E : Nat) (hM : M < 9007199254740992) (h : IsDec ds (M * 2 ^ E)) (h0 : 0 < ds.size) : 3 * ds.size ≤ 56 + E := by
  have h1 := (dec_bounds ds _ h h0).1
  have h3 : 2 ^ (3 * (ds.size - 1)) ≤ 10 ^ (ds.size - 1) := by rw [Nat.pow_mul]; exact Nat.pow_le_pow_left (by omega) _
  have h5 : M * 2 ^ E < 2 ^ (53 + E) := by
    rw [Nat.pow_add]
    exact Nat.mul_lt_mul_of_pos_right (show M < 2 ^ 53 from hM) (Nat.two_pow_pos _)
  have h6 := (Nat.pow_lt_pow_iff_right (a := 2) (by omega)).1 (Nat.lt_of_le_of_lt (Nat.le_trans h3 h1) h5)
  omega
theorem dec_down_size (ds : ByteArray) (M s : Nat) (hM : M < 9007199254740992) (h : IsDec ds (M * 5 ^ s)) (h0 : 0 < ds.size) : ds.size ≤ 16 + s := by
  have h1 := (dec_bounds ds _ h h0).1
  have h2 : 5 ^ s ≤ 10 ^ s := Nat.pow_le_pow_left (by omega) _
  have h3 : M * 5 ^ s < 10 ^ (16 + s) := by
    rw [Nat.pow_add]
    exact Nat.mul_lt_mul_of_lt_of_le (show M < 10 ^ 16 by omega) h2 (Nat.pow_pos (by omega))
  have h6 := (Nat.pow_lt_pow_iff_right (a := 10) (by omega)).1 (Nat.lt_of_le_of_lt h1 h3)
  omega

set_option maxHeartbeats 2000000 in
set_option maxRecDepth 100000 in
theorem l5exact_up (x q E : Nat) (hP : ∀ w, Calls Tryz.prog 80 #[.float .f64 x] w fun e w' => e = .returned (.agg #[.int .i64 1, .bool false, .int .i64 (q : Int), .int .i64 (E : Int)]) ∧ Below w.heap.size w w')
    (hq0 : 0 < q) (hq : q < 9007199254740992) (hE : E ≤ 1030) (w : World) :
    Calls Tryz.prog 81 #[.float .f64 x] w fun e w' => ∃ ds pow, ExD ds pow q (E : Int) ∧ ds.size ≤ 1100 ∧ -1100 ≤ pow ∧ pow ≤ 1100 ∧ e = .returned (.agg #[.string ds, .int .i64 pow]) ∧ Below w.heap.size w w' := by
  have HP : Hid _ := hP
  have HF : Hid _ := fun w => l0from_any q (by omega) w
  have HA : Hid (q < 4294967296 ^ 2) := by show q < _; omega
  have HUP : Hid (q * 2 ^ E < 4294967296 ^ (2 + E)) := by
    show _ < _
    rw [Nat.pow_add]
    exact Nat.mul_lt_mul_of_lt_of_le HA.out (Nat.pow_le_pow_left (by omega) E) (Nat.pow_pos (by omega))
  have HP0 : Hid (0 < q * 2 ^ E) := Nat.mul_pos hq0 (Nat.two_pow_pos E)
  have hqi : (q : Int) < 9007199254740992 := by omega
  have HQ : Hid (q < 9007199254740992) := hq
  clear hP hq
  go_enter Tryz.func81, Tryz.ntmps81
  go_wp2_with fail
  refine (HP.out _).mono ?_
  rintro e w1 ⟨rfl, hb1⟩
  have hw1 : w.heap.size < w1.heap.size := by have := hb1.size; simp at this; omega
  have HB0 : Hid (Below w.heap.size w w1) := ((Below.refl _ _).alloc (Nat.le_refl _) _).trans (hb1.mono (by simp))
  have c0 : w1.cell? ⟨w.heap.size, 0, none⟩ = some (.string ⟨#[]⟩) := (hb1.cell (p := ⟨w.heap.size, 0, none⟩) (by simp)).trans (by simp [go_sem])
  have c1 : w1.cell? ⟨w.heap.size, 1, none⟩ = some (.int .i64 0) := (hb1.cell (p := ⟨w.heap.size, 1, none⟩) (by simp)).trans (by simp [go_sem])
  have f0 : w1.frozen? ⟨w.heap.size, 0, none⟩ = false := (hb1.frozen (p := ⟨w.heap.size, 0, none⟩) (by simp)).trans (by simp [go_sem])
  have f1 : w1.frozen? ⟨w.heap.size, 1, none⟩ = false := (hb1.frozen (p := ⟨w.heap.size, 1, none⟩) (by simp)).trans (by simp [go_sem])
  clear hb1
  go_wp2_with fail
  obtain ⟨Wp, hWp⟩ : ∃ Wp, Wp = w1.alloc (.cells #[.int .i64 1, .bool false, .int .i64 (q : Int), .int .i64 (E : Int)] 28) := ⟨_, rfl⟩
  rw [← hWp]
  have HKP : Hid (Below w.heap.size w Wp ∧ w.heap.size < Wp.heap.size ∧ w1.heap.size < Wp.heap.size ∧ Wp.cell? ⟨w.heap.size, 0, none⟩ = some (.string ⟨#[]⟩) ∧ Wp.cell? ⟨w.heap.size, 1, none⟩ = some (.int .i64 0) ∧ Wp.frozen? ⟨w.heap.size, 0, none⟩ = false ∧ Wp.frozen? ⟨w.heap.size, 1, none⟩ = false
      ∧ Wp.cell? ⟨w1.heap.size, 3, none⟩ = some (.int .i64 (E : Int))) := by
    rw [hWp]
    have hba := (Below.refl w1.heap.size w1).alloc (Nat.le_refl _) (.cells #[.int .i64 1, .bool false, .int .i64 (q : Int), .int .i64 (E : Int)] 28)
    exact ⟨HB0.out.trans (hba.mono (by omega)), by simp; omega, by simp, (hba.cell (p := ⟨w.heap.size, 0, none⟩) hw1).trans c0, (hba.cell (p := ⟨w.heap.size, 1, none⟩) hw1).trans c1, (hba.frozen (p := ⟨w.heap.size, 0, none⟩) hw1).trans f0, (hba.frozen (p := ⟨w.heap.size, 1, none⟩) hw1).trans f1, by simp [go_sem]⟩
  clear hWp c0 c1 f0 f1 HB0 hw1
  refine (HF.out _).mono ?_
  rintro e w2 ⟨v2, rfl, hb2, hv2⟩
  have HB2 : Hid (Below Wp.heap.size Wp w2) := hb2
  have HV2 : Hid (Big w2 v2 q) := hv2
  have hp3 : w2.cell? ⟨w1.heap.size, 3, none⟩ = some (.int .i64 (E : Int)) := (hb2.cell (p := ⟨w1.heap.size, 3, none⟩) HKP.out.2.2.1).trans HKP.out.2.2.2.2.2.2.2
  clear hb2 hv2 HF HP
  go_wp2_with fail
  refine (l0shl_big _ q 2 E _ HV2.out HA.out (by omega) (by omega)).mono ?_
  rintro e w3 ⟨v3, rfl, hb3, hv3⟩
  have HB3 : Hid (Below Wp.heap.size Wp w3) := HB2.out.trans (hb3.mono HB2.out.size)
  have HV3 : Hid (Big w3 v3 (q * 2 ^ E)) := hv3
  clear hb3 hv3 hp3
  go_wp2_with fail
  refine (l0digits_any v3 (q * 2 ^ E) (2 + E) w3 HV3.out HUP.out (by omega)).mono ?_
  rintro e w4 ⟨d0, rfl, hd0, hb4⟩
  have HB4 : Hid (Below Wp.heap.size Wp w4) := HB3.out.trans (hb4.mono HB3.out.size)
  have hpos := dec_pos d0 _ hd0 HP0.out
  have hsz := dec_up_size d0 q E HQ.out hd0 hpos
  have HST : Hid (Stp d0 d0 0) := stp_start d0 _ hd0 HP0.out
  have HVD : Hid (valN 10 d0.data.toList = q * 2 ^ E) := hd0.2.1
  clear hb4 hd0 HV2 HV3 HB2 HB3
  go_wp2
  go_loop [6] (fun vt => ∃ (t : ByteArray) (j : Nat), vt = .string t ∧ Hid (Stp d0 t j) ∧ t.size + j = d0.size ∧ 0 < t.size) (fun vt => match vt with | .string t => t.size | _ => 0)
  case atStart => exact ⟨d0, 0, rfl, HST.out, rfl, hpos⟩
  case round =>
    obtain ⟨t, j, rfl, HS, htj, ht0⟩ := hrel
    obtain ⟨k, hk⟩ : ∃ k, t.size = k + 1 := ⟨t.size - 1, by omega⟩
    have hk1 : t.size - 1 = k := by omega
    have hkl : k < t.size := by omega
    have hki : (t.size : Int) - 1 = (k : Int) := by omega
    have hts : (t.size : Int) ≤ 1100 := by omega
    by_cases hz : t[k].toNat = 48
    · have HN : Hid (Stp d0 (t.extract 0 k) (j + 1)) := by
        have := stp_next d0 t j (by rw [HVD.out]; exact HP0.out) HS.out (fun _ => by simp only [hk1]; exact hz)
        rw [hk1] at this
        exact this
      have hz2 : (t[k].toNat : Int) = 48 := by omega
      clear hk hk1
      go_wp2
      have hes : (t.extract 0 k).size = k := by simp; omega
      exact ⟨⟨_, j + 1, rfl, HN.out, by omega, HN.out.1⟩, by show (t.extract 0 k).size < t.size; omega⟩
    · have HX : Hid (ExD t ((d0.size : Int) - ((0 : Nat) : Int)) q (E : Int)) := stp_end d0 t j q 0 (E : Int) HS.out (fun _ => by simp only [hk1]; exact hz) (by rw [HVD.out]; simp) (by omega)
      have hz2 : ((t[k].toNat : Int) == 48) = false := beq_eq_false_iff_ne.2 (by omega)
      obtain ⟨hR, hRl, _, r0, r1, g0, g1, _⟩ := HKP.out
      have hRl4 : w.heap.size < w4.heap.size := Nat.lt_of_lt_of_le hRl HB4.out.size
      have q0 : w4.cell? ⟨w.heap.size, 0, none⟩ = some (.string ⟨#[]⟩) := (HB4.out.cell (p := ⟨w.heap.size, 0, none⟩) hRl).trans r0
      have q1 : w4.cell? ⟨w.heap.size, 1, none⟩ = some (.int .i64 0) := (HB4.out.cell (p := ⟨w.heap.size, 1, none⟩) hRl).trans r1
      have p0 : w4.frozen? ⟨w.heap.size, 0, none⟩ = false := (HB4.out.frozen (p := ⟨w.heap.size, 0, none⟩) hRl).trans g0
      have p1 : w4.frozen? ⟨w.heap.size, 1, none⟩ = false := (HB4.out.frozen (p := ⟨w.heap.size, 1, none⟩) hRl).trans g1
      have HBE : Hid (Below w.heap.size w w4) := hR.trans (HB4.out.mono (by omega))
      clear r0 r1 g0 g1 hR hk hk1
      go_wp2
      have hba := (Below.refl ((w4.setCell ⟨w.heap.size, 0, none⟩ (.string t)).setCell ⟨w.heap.size, 1, none⟩ (.int .i64 (d0.size : Int))).heap.size ((w4.setCell ⟨w.heap.size, 0, none⟩ (.string t)).setCell ⟨w.heap.size, 1, none⟩ (.int .i64 (d0.size : Int)))).alloc (Nat.le_refl _) (.cells #[.string t, .int .i64 (d0.size : Int)] 121)
      have e0 := (hba.cell (p := ⟨w.heap.size, 0, none⟩) (by simpa using hRl4)).trans (by simp [go_sem, q0] : _ = some (.string t))
      have e1 := (hba.cell (p := ⟨w.heap.size, 1, none⟩) (by simpa using hRl4)).trans (by simp [go_sem, q1] : _ = some (.int .i64 (d0.size : Int)))
      refine bodyPost_ret (v := .agg #[.string t, .int .i64 (d0.size : Int)]) (by simp [results, Tryz.results81, go_sem, e0, e1]) rfl ⟨t, (d0.size : Int), ?_, by omega, by omega, by omega, rfl, ((HBE.out.setCell (by simp) _).setCell (by simp) _).alloc (by simp; omega) _⟩
      have := HX.out
      rw [show (d0.size : Int) - ((0 : Nat) : Int) = (d0.size : Int) by omega] at this
      exact this
set_option maxHeartbeats 2000000 in
set_option maxRecDepth 100000 in
theorem l5exact_down (x q s : Nat) (hP : ∀ w, Calls Tryz.prog 80 #[.float .f64 x] w fun e w' => e = .returned (.agg #[.int .i64 1, .bool false, .int .i64 (q : Int), .int .i64 (-(s : Int))]) ∧ Below w.heap.size w w')
    (hq0 : 0 < q) (hq : q < 9007199254740992) (hs : s ≤ 1074) (hs0 : 0 < s) (w : World) :
    Calls Tryz.prog 81 #[.float .f64 x] w fun e w' => ∃ ds pow, ExD ds pow q (-(s : Int)) ∧ ds.size ≤ 1100 ∧ -1100 ≤ pow ∧ pow ≤ 1100 ∧ e = .returned (.agg #[.string ds, .int .i64 pow]) ∧ Below w.heap.size w w' := by
  have HP : Hid _ := hP
  have HF : Hid _ := fun w => l0from_any q (by omega) w
  have HA : Hid (q < 4294967296 ^ 2) := by show q < _; omega
  have HUP : Hid _ := down_bound q s HA.out
  have HP0 : Hid (0 < q * 5 ^ s) := Nat.mul_pos hq0 (Nat.pow_pos (by omega))
  have hqi : (q : Int) < 9007199254740992 := by omega
  have HQ : Hid (q < 9007199254740992) := hq
  clear hP hq
  go_enter Tryz.func81, Tryz.ntmps81
  go_wp2_with fail
  refine (HP.out _).mono ?_
  rintro e w1 ⟨rfl, hb1⟩
  have hw1 : w.heap.size < w1.heap.size := by have := hb1.size; simp at this; omega
  have HB0 : Hid (Below w.heap.size w w1) := ((Below.refl _ _).alloc (Nat.le_refl _) _).trans (hb1.mono (by simp))
  have c0 : w1.cell? ⟨w.heap.size, 0, none⟩ = some (.string ⟨#[]⟩) := (hb1.cell (p := ⟨w.heap.size, 0, none⟩) (by simp)).trans (by simp [go_sem])
  have c1 : w1.cell? ⟨w.heap.size, 1, none⟩ = some (.int .i64 0) := (hb1.cell (p := ⟨w.heap.size, 1, none⟩) (by simp)).trans (by simp [go_sem])
  have f0 : w1.frozen? ⟨w.heap.size, 0, none⟩ = false := (hb1.frozen (p := ⟨w.heap.size, 0, none⟩) (by simp)).trans (by simp [go_sem])
  have f1 : w1.frozen? ⟨w.heap.size, 1, none⟩ = false := (hb1.frozen (p := ⟨w.heap.size, 1, none⟩) (by simp)).trans (by simp [go_sem])
  clear hb1
  go_wp2_with fail
  obtain ⟨Wp, hWp⟩ : ∃ Wp, Wp = w1.alloc (.cells #[.int .i64 1, .bool false, .int .i64 (q : Int), .int .i64 (-(s : Int))] 28) := ⟨_, rfl⟩
  rw [← hWp]
  have HKP : Hid (Below w.heap.size w Wp ∧ w.heap.size < Wp.heap.size ∧ w1.heap.size < Wp.heap.size ∧ Wp.cell? ⟨w.heap.size, 0, none⟩ = some (.string ⟨#[]⟩) ∧ Wp.cell? ⟨w.heap.size, 1, none⟩ = some (.int .i64 0) ∧ Wp.frozen? ⟨w.heap.size, 0, none⟩ = false ∧ Wp.frozen? ⟨w.heap.size, 1, none⟩ = false
      ∧ Wp.cell? ⟨w1.heap.size, 3, none⟩ = some (.int .i64 (-(s : Int)))) := by
    rw [hWp]
    have hba := (Below.refl w1.heap.size w1).alloc (Nat.le_refl _) (.cells #[.int .i64 1, .bool false, .int .i64 (q : Int), .int .i64 (-(s : Int))] 28)
    exact ⟨HB0.out.trans (hba.mono (by omega)), by simp; omega, by simp, (hba.cell (p := ⟨w.heap.size, 0, none⟩) hw1).trans c0, (hba.cell (p := ⟨w.heap.size, 1, none⟩) hw1).trans c1, (hba.frozen (p := ⟨w.heap.size, 0, none⟩) hw1).trans f0, (hba.frozen (p := ⟨w.heap.size, 1, none⟩) hw1).trans f1, by simp [go_sem]⟩
  clear hWp c0 c1 f0 f1 HB0 hw1
  refine (HF.out _).mono ?_
  rintro e w2 ⟨v2, rfl, hb2, hv2⟩
  have HB2 : Hid (Below Wp.heap.size Wp w2) := hb2
  have HV2 : Hid (Big w2 v2 q) := hv2
  have hp3 : w2.cell? ⟨w1.heap.size, 3, none⟩ = some (.int .i64 (-(s : Int))) := (hb2.cell (p := ⟨w1.heap.size, 3, none⟩) HKP.out.2.2.1).trans HKP.out.2.2.2.2.2.2.2
  clear hb2 hv2 HF HP hqi
  go_wp2_with fail
  refine (l0pow_any 5 s _ (by omega) (by omega)).mono ?_
  rintro e wq ⟨vq, rfl, hbq, hvq⟩
  have HBq : Hid (Below w2.heap.size w2 wq) := hbq
  have HVq : Hid (Big wq vq (5 ^ s)) := hvq
  clear hbq hvq hp3
  go_wp2_with fail
  refine (l0times_any _ _ q (5 ^ s) (s + 2) _ (HV2.out.below HBq.out (Nat.le_refl _)) HVq.out HUP.out.1 HUP.out.2.1 (by omega)).mono ?_
  rintro e w3 ⟨v3, rfl, hb3, hv3⟩
  have HB3 : Hid (Below Wp.heap.size Wp w3) := HB2.out.trans ((HBq.out.trans (hb3.mono HBq.out.size)).mono HB2.out.size)
  have HV3 : Hid (Big w3 v3 (q * 5 ^ s)) := hv3
  clear hb3 hv3 HVq HBq
  go_wp2_with fail
  refine (l0digits_any v3 (q * 5 ^ s) (s + 2 + (s + 2)) w3 HV3.out HUP.out.2.2 (by omega)).mono ?_
  rintro e w4 ⟨d0, rfl, hd0, hb4⟩
  have HB4 : Hid (Below Wp.heap.size Wp w4) := HB3.out.trans (hb4.mono HB3.out.size)
  have hpos := dec_pos d0 _ hd0 HP0.out
  have hsz := dec_down_size d0 q s HQ.out hd0 hpos
  have HST : Hid (Stp d0 d0 0) := stp_start d0 _ hd0 HP0.out
  have HVD : Hid (valN 10 d0.data.toList = q * 5 ^ s) := hd0.2.1
  clear hb4 hd0 HV2 HV3 HB2 HB3
  go_wp2
  go_loop [6] (fun vt => ∃ (t : ByteArray) (j : Nat), vt = .string t ∧ Hid (Stp d0 t j) ∧ t.size + j = d0.size ∧ 0 < t.size) (fun vt => match vt with | .string t => t.size | _ => 0)
  case atStart => exact ⟨d0, 0, rfl, HST.out, rfl, hpos⟩
  case round =>
    obtain ⟨t, j, rfl, HS, htj, ht0⟩ := hrel
    obtain ⟨k, hk⟩ : ∃ k, t.size = k + 1 := ⟨t.size - 1, by omega⟩
    have hk1 : t.size - 1 = k := by omega
    have hkl : k < t.size := by omega
    have hki : (t.size : Int) - 1 = (k : Int) := by omega
    have hts : (t.size : Int) ≤ 1100 := by omega
    by_cases hz : t[k].toNat = 48
    · have HN : Hid (Stp d0 (t.extract 0 k) (j + 1)) := by
        have := stp_next d0 t j (by rw [HVD.out]; exact HP0.out) HS.out (fun _ => by simp only [hk1]; exact hz)
        rw [hk1] at this
        exact this
      have hz2 : (t[k].toNat : Int) = 48 := by omega
      clear hk hk1
      go_wp2
      have hes : (t.extract 0 k).size = k := by simp; omega
      exact ⟨⟨_, j + 1, rfl, HN.out, by omega, HN.out.1⟩, by show (t.extract 0 k).size < t.size; omega⟩
    · have HX : Hid (ExD t ((d0.size : Int) - (s : Int)) q (-(s : Int))) := stp_end d0 t j q s (-(s : Int)) HS.out (fun _ => by simp only [hk1]; exact hz) (by rw [HVD.out, show (-(s : Int)).toNat = 0 by omega, Nat.pow_zero, Nat.mul_one]) (by omega)
      have hz2 : ((t[k].toNat : Int) == 48) = false := beq_eq_false_iff_ne.2 (by omega)
      obtain ⟨hR, hRl, _, r0, r1, g0, g1, _⟩ := HKP.out
      have hRl4 : w.heap.size < w4.heap.size := Nat.lt_of_lt_of_le hRl HB4.out.size
      have q0 : w4.cell? ⟨w.heap.size, 0, none⟩ = some (.string ⟨#[]⟩) := (HB4.out.cell (p := ⟨w.heap.size, 0, none⟩) hRl).trans r0
      have q1 : w4.cell? ⟨w.heap.size, 1, none⟩ = some (.int .i64 0) := (HB4.out.cell (p := ⟨w.heap.size, 1, none⟩) hRl).trans r1
      have p0 : w4.frozen? ⟨w.heap.size, 0, none⟩ = false := (HB4.out.frozen (p := ⟨w.heap.size, 0, none⟩) hRl).trans g0
      have p1 : w4.frozen? ⟨w.heap.size, 1, none⟩ = false := (HB4.out.frozen (p := ⟨w.heap.size, 1, none⟩) hRl).trans g1
      have HBE : Hid (Below w.heap.size w w4) := hR.trans (HB4.out.mono (by omega))
      clear r0 r1 g0 g1 hR hk hk1
      go_wp2
      have hba := (Below.refl ((w4.setCell ⟨w.heap.size, 0, none⟩ (.string t)).setCell ⟨w.heap.size, 1, none⟩ (.int .i64 ((d0.size : Int) - (s : Int)))).heap.size ((w4.setCell ⟨w.heap.size, 0, none⟩ (.string t)).setCell ⟨w.heap.size, 1, none⟩ (.int .i64 ((d0.size : Int) - (s : Int))))).alloc (Nat.le_refl _) (.cells #[.string t, .int .i64 ((d0.size : Int) - (s : Int))] 121)
      have e0 := (hba.cell (p := ⟨w.heap.size, 0, none⟩) (by simpa using hRl4)).trans (by simp [go_sem, q0] : _ = some (.string t))
      have e1 := (hba.cell (p := ⟨w.heap.size, 1, none⟩) (by simpa using hRl4)).trans (by simp [go_sem, q1] : _ = some (.int .i64 ((d0.size : Int) - (s : Int))))
      refine bodyPost_ret (v := .agg #[.string t, .int .i64 ((d0.size : Int) - (s : Int))]) (by simp [results, Tryz.results81, go_sem, e0, e1]) rfl ⟨t, (d0.size : Int) - (s : Int), HX.out, by omega, by omega, by omega, rfl, ((HBE.out.setCell (by simp) _).setCell (by simp) _).alloc (by simp; omega) _⟩
end Go.Proofs.YtoedefjngipeiaaGreatDoor

/- What PartsOf answers (plain). -/
namespace Go.Proofs.YtoedefjngipeiaaGreatDoor

/-- What a float is taken apart into: kind, sign, an odd number, a power of two. -/
def partsV (x : Nat) (k : Int) (s : Bool) (m e : Int) : Prop :=
  (IsNan x ∧ k = 3 ∧ s = false ∧ m = 0 ∧ e = 0) ∨ (x = iw s ∧ k = 2 ∧ m = 0 ∧ e = 0) ∨ (x = signBit s ∧ k = 0 ∧ m = 0 ∧ e = 0)
  ∨ (∃ (n : Nat) (p : Int) (q t : Nat), Canon n p ∧ 0 < n ∧ x = fw s n p ∧ n = q * 2 ^ t ∧ q % 2 = 1 ∧ k = 1 ∧ m = q ∧ e = p + t)
theorem half_even (n t : Nat) (q : Int) (h : n = q.toNat * 2 ^ t) (h0 : 0 < q) (he : q % 2 = 0) : n = (q / 2).toNat * 2 ^ (t + 1) := by
  have e : q.toNat = (q / 2).toNat * 2 := by omega
  rw [h, e, Nat.pow_succ, Nat.mul_assoc, Nat.mul_comm 2]
theorem few_halves (n t : Nat) (q : Int) (h : n = q.toNat * 2 ^ t) (h0 : 0 < q) (hn : n < 9007199254740992) : t ≤ 52 := by
  have h1 : 1 * 2 ^ t ≤ q.toNat * 2 ^ t := Nat.mul_le_mul_right _ (by omega)
  have h2 : 2 ^ t < 2 ^ 53 := by
    have : (2 : Nat) ^ 53 = 9007199254740992 := rfl
    omega
  have := (Nat.pow_lt_pow_iff_right (a := 2) (by omega)).1 h2
  omega
end Go.Proofs.YtoedefjngipeiaaGreatDoor

/- PartsOf of the specification. -/
namespace Go.Proofs.YtoedefjngipeiaaGreatDoor
open Go.ChangeShapes Go.WideShapes Go.RowKit
open Ieee (double)

set_option maxHeartbeats 400000 in
theorem parts_nan (x : Nat) (h : IsNan x) (w : World) :
    Calls Tryz.prog 80 #[.float .f64 x] w fun e w' => e = .returned (.agg #[.int .i64 3, .bool false, .int .i64 0, .int .i64 0]) ∧ Below w.heap.size w w' := by
  have hn : (FloatKind.f64.format.order x x != some .eq) = true := nan_neq x h
  go_enter Tryz.func80, Tryz.ntmps80
  go_wp2
  exact bodyPost_ret (v := .agg #[.int .i64 3, .bool false, .int .i64 0, .int .i64 0]) (by simp [results, Tryz.results80, go_sem]) rfl ⟨rfl, (by repeat (first | exact Below.refl _ _ | refine below_drewN ?_ _ | refine Below.setCell ?_ (by simp) _ | refine Below.alloc ?_ (by simp) _))⟩

set_option maxHeartbeats 400000 in
theorem parts_inf (s : Bool) (w : World) :
    Calls Tryz.prog 80 #[.float .f64 (iw s)] w fun e w' => e = .returned (.agg #[.int .i64 2, .bool s, .int .i64 0, .int .i64 0]) ∧ Below w.heap.size w w' := by
  have hn : FloatKind.f64.format.order (iw s) (iw s) = some .eq := order_self_iw s
  have hm := mask52 9218868437227405312 (by omega) (by omega)
  have HR : Hid _ := raw_inf s
  go_enter Tryz.func80, Tryz.ntmps80
  go_wp2_with (go_at_call 47; refine (HR.out _).mono ?_; rintro e w' ⟨rfl, rfl⟩)
  exact bodyPost_ret (v := .agg #[.int .i64 2, .bool s, .int .i64 0, .int .i64 0]) (by simp [results, Tryz.results80, go_sem]) rfl ⟨rfl, (by repeat (first | exact Below.refl _ _ | refine below_drewN ?_ _ | refine Below.setCell ?_ (by simp) _ | refine Below.alloc ?_ (by simp) _))⟩

set_option maxHeartbeats 400000 in
theorem parts_zero (s : Bool) (w : World) :
    Calls Tryz.prog 80 #[.float .f64 (signBit s)] w fun e w' => e = .returned (.agg #[.int .i64 0, .bool s, .int .i64 0, .int .i64 0]) ∧ Below w.heap.size w w' := by
  have hn : FloatKind.f64.format.order (signBit s) (signBit s) = some .eq := by
    have := order_self_fw s 0 (-1074) canon_zero
    rw [fw_zero] at this
    exact this
  have HR : Hid _ := raw_zero s
  go_enter Tryz.func80, Tryz.ntmps80
  go_wp2_with (go_at_call 47; refine (HR.out _).mono ?_; rintro e w' ⟨rfl, rfl⟩)
  exact bodyPost_ret (v := .agg #[.int .i64 0, .bool s, .int .i64 0, .int .i64 0]) (by simp [results, Tryz.results80, go_sem]) rfl ⟨rfl, (by repeat (first | exact Below.refl _ _ | refine below_drewN ?_ _ | refine Below.setCell ?_ (by simp) _ | refine Below.alloc ?_ (by simp) _))⟩

set_option maxRecDepth 100000 in
set_option maxHeartbeats 1000000 in
theorem parts_number (s : Bool) (n : Nat) (p : Int) (hc : Canon n p) (h0 : 0 < n) (w : World) :
    Calls Tryz.prog 80 #[.float .f64 (fw s n p)] w fun e w' => ∃ q t : Nat, n = q * 2 ^ t ∧ q % 2 = 1 ∧ e = .returned (.agg #[.int .i64 1, .bool s, .int .i64 q, .int .i64 (p + t)]) ∧ Below w.heap.size w w' := by
  have hn : FloatKind.f64.format.order (fw s n p) (fw s n p) = some .eq := order_self_fw s n p hc
  have HR : Hid (∀ w, Calls Tryz.prog 47 #[.float .f64 (fw s n p)] w fun e w' => e = .returned (.tuple #[.bool s, .int .u64 (rung n p)]) ∧ w' = w) := fun w => by
    rcases hc with ⟨h1, h2, h3, h4⟩ | ⟨h1, rfl⟩
    · exact raw_normal s n p h1 h2 h3 h4 w
    · have e : rung n (-1074) = n := by unfold rung; omega
      rw [e]; exact raw_small s n h0 h1 w
  obtain ⟨R, hRd⟩ : ∃ R : Int, R = (rung n p : Int) := ⟨_, rfl⟩
  rw [← hRd] at HR
  have hlt := rung_lt n p hc
  have hR0 : (R == 0) = false := by rw [beq_eq_false_iff_ne]; unfold rung at hRd; rcases hc with h | h <;> omega
  have hmask := mask52 R (by omega) (by omega)
  rcases hc with ⟨h1, h2, h3, h4⟩ | ⟨h1, hp⟩
  · obtain ⟨M, rfl⟩ : ∃ M, n = 4503599627370496 + M := ⟨n - 4503599627370496, by omega⟩
    have hM : M < 4503599627370496 := by omega
    have hq : R / 4503599627370496 = p + 1075 := by unfold rung at hRd; omega
    have hr : R % 4503599627370496 = (M : Int) := by unfold rung at hRd; omega
    rw [hr] at hmask
    have e47 : (p + 1075 == 2047) = false := by rw [beq_eq_false_iff_ne]; omega
    have ho := or_one M hM
    have hp1 : 0 < p + 1075 := by omega
    have hp2 : p + 1075 ≤ 2046 := by omega
    clear hRd hr hlt h0
    go_enter Tryz.func80, Tryz.ntmps80
    go_wp2_with (go_at_call 47; refine (HR.out _).mono ?_; rintro e w' ⟨rfl, rfl⟩)
    go_loopw [7] (fun a wl => ∃ (q : Int) (t : Nat), a = .int .u64 q ∧ 0 < q ∧ q < 9007199254740992 ∧ Hid (4503599627370496 + M = q.toNat * 2 ^ t) ∧ t ≤ 52 ∧ wl = (w.alloc (.cells #[.int .i64 0, .bool false, .int .i64 0, .int .i64 0] 28)).alloc (.cells #[.int .i64 1, .bool s, .int .i64 0, .int .i64 (p + (t : Int))] 28)) (fun a _ => (intOf a).toNat)
    case atStart => exact ⟨(4503599627370496 + (M : Int)), 0, rfl, by omega, by omega, by show 4503599627370496 + M = ((4503599627370496 + (M : Int)) : Int).toNat * 2 ^ 0; omega, by omega, by simp⟩
    case round =>
      obtain ⟨q, t, rfl, q0, q1, HQ, ht, rfl⟩ := hrel
      by_cases hev : q % 2 = 0
      · have b : (q % 2 == 0) = true := beq_iff_eq.2 hev
        have HQ2 : Hid _ := half_even _ t q HQ.out q0 hev
        have q2 : 0 < q / 2 := by omega
        have ht2 := few_halves _ (t + 1) (q / 2) HQ2.out q2 (by omega)
        clear hev
        go_wp2
        refine ⟨⟨q / 2, t + 1, rfl, by omega, by omega, HQ2, ht2, ?_⟩, ?_⟩
        · rw [show p + ((t + 1 : Nat) : Int) = p + (t : Int) + 1 by omega]
        · simp only [intOf]; omega
      · have b : (q % 2 == 0) = false := beq_eq_false_iff_ne.2 hev
        have HE : Hid _ := fun (_ : Unit) => hev
        clear hev
        go_wp2
        refine bodyPost_ret (v := .agg #[.int .i64 1, .bool s, .int .i64 q, .int .i64 (p + (t : Int))]) (by simp [results, Tryz.results80, go_sem]) rfl ⟨q.toNat, t, HQ.out, ?_, ?_, (by repeat (first | exact Below.refl _ _ | refine below_drewN ?_ _ | refine Below.setCell ?_ (by simp) _ | refine Below.alloc ?_ (by simp) _))⟩
        · have := HE.out (); omega
        · rw [show ((q.toNat : Nat) : Int) = q by omega]
  · subst hp
    have hq : R / 4503599627370496 = 0 := by unfold rung at hRd; omega
    have hr : R % 4503599627370496 = (n : Int) := by unfold rung at hRd; omega
    rw [hr] at hmask
    clear hRd hr hlt
    go_enter Tryz.func80, Tryz.ntmps80
    go_wp2_with (go_at_call 47; refine (HR.out _).mono ?_; rintro e w' ⟨rfl, rfl⟩)
    go_loopw [7] (fun a wl => ∃ (q : Int) (t : Nat), a = .int .u64 q ∧ 0 < q ∧ q < 9007199254740992 ∧ Hid (n = q.toNat * 2 ^ t) ∧ t ≤ 52 ∧ wl = (w.alloc (.cells #[.int .i64 0, .bool false, .int .i64 0, .int .i64 0] 28)).alloc (.cells #[.int .i64 1, .bool s, .int .i64 0, .int .i64 ((-1074 : Int) + (t : Int))] 28)) (fun a _ => (intOf a).toNat)
    case atStart => exact ⟨(n : Int), 0, rfl, by omega, by omega, by show n = ((n : Int) : Int).toNat * 2 ^ 0; omega, by omega, by simp⟩
    case round =>
      obtain ⟨q, t, rfl, q0, q1, HQ, ht, rfl⟩ := hrel
      by_cases hev : q % 2 = 0
      · have b : (q % 2 == 0) = true := beq_iff_eq.2 hev
        have HQ2 : Hid _ := half_even _ t q HQ.out q0 hev
        have q2 : 0 < q / 2 := by omega
        have ht2 := few_halves _ (t + 1) (q / 2) HQ2.out q2 (by omega)
        clear hev
        go_wp2
        refine ⟨⟨q / 2, t + 1, rfl, by omega, by omega, HQ2, ht2, ?_⟩, ?_⟩
        · rw [show (-1074 : Int) + ((t + 1 : Nat) : Int) = (-1074 : Int) + (t : Int) + 1 by omega]
        · simp only [intOf]; omega
      · have b : (q % 2 == 0) = false := beq_eq_false_iff_ne.2 hev
        have HE : Hid _ := fun (_ : Unit) => hev
        clear hev
        go_wp2
        refine bodyPost_ret (v := .agg #[.int .i64 1, .bool s, .int .i64 q, .int .i64 ((-1074 : Int) + (t : Int))]) (by simp [results, Tryz.results80, go_sem]) rfl ⟨q.toNat, t, HQ.out, ?_, ?_, (by repeat (first | exact Below.refl _ _ | refine below_drewN ?_ _ | refine Below.setCell ?_ (by simp) _ | refine Below.alloc ?_ (by simp) _))⟩
        · have := HE.out (); omega
        · rw [show ((q.toNat : Nat) : Int) = q by omega]

/-- At every float. -/
theorem specParts_any (x : Nat) (hx : x < 18446744073709551616) (w : World) :
    Calls Tryz.prog 80 #[.float .f64 x] w fun e w' => ∃ k s m q, partsV x k s m q ∧ e = .returned (.agg #[.int .i64 k, .bool s, .int .i64 m, .int .i64 q]) ∧ Below w.heap.size w w' := by
  rcases float_cases x hx with h | ⟨s, rfl⟩ | ⟨s, n, p, hc, rfl⟩
  · refine (parts_nan x h w).mono ?_
    rintro e w' ⟨rfl, hb⟩
    exact ⟨3, false, 0, 0, .inl ⟨h, rfl, rfl, rfl, rfl⟩, rfl, hb⟩
  · refine (parts_inf s w).mono ?_
    rintro e w' ⟨rfl, hb⟩
    exact ⟨2, s, 0, 0, .inr (.inl ⟨rfl, rfl, rfl, rfl⟩), rfl, hb⟩
  · by_cases h0 : n = 0
    · subst h0
      rw [fw_zero]
      refine (parts_zero s w).mono ?_
      rintro e w' ⟨rfl, hb⟩
      exact ⟨0, s, 0, 0, .inr (.inr (.inl ⟨rfl, rfl, rfl, rfl⟩)), rfl, hb⟩
    · refine (parts_number s n p hc (by omega) w).mono ?_
      rintro e w' ⟨q, t, hq, ho, rfl, hb⟩
      exact ⟨1, s, q, p + t, .inr (.inr (.inr ⟨n, p, q, t, hc, by omega, rfl, hq, ho, rfl, rfl, rfl⟩)), rfl, hb⟩
end Go.Proofs.YtoedefjngipeiaaGreatDoor

