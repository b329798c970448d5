import Derived.Test.YtoedefjngipeiaaGreatDoorA08
import Derived.Test.YtoedefjngipeiaaGreatDoorA11
import Derived.Test.YtoedefjngipeiaaGreatDoorA12
import Derived.Test.YtoedefjngipeiaaGreatDoorA14
import Derived.Test.YtoedefjngipeiaaGreatDoorA03
/- l0times of the specification. -/
namespace Go.Proofs.YtoedefjngipeiaaGreatDoor
open Go.ChangeShapes Go.WideShapes Go.RowKit

theorem bval_drop (a : List Nat) (k : Nat) (h : k < a.length) : bval (a.drop k) = a.getD k 0 + 4294967296 * bval (a.drop (k + 1)) := by
  rw [List.drop_eq_getElem_cons h]
  simp [bval, List.getElem?_eq_getElem h]
theorem drop_lt {a : List Nat} (hl : Lim a) (k n : Nat) (h : a.length ≤ n) : bval (a.drop k) < 4294967296 ^ n := by
  have h1 := bval_lt (a := a.drop k) fun x hx => hl x (List.mem_of_mem_drop hx)
  have h2 : 4294967296 ^ (a.drop k).length ≤ 4294967296 ^ n := Nat.pow_le_pow_right (by omega) (by rw [List.length_drop]; omega)
  omega
theorem mul_bound {a b n m : Nat} (ha : a < 4294967296 ^ n) (hb : b < 4294967296 ^ m) : a * b < 4294967296 ^ (n + m) := by
  rw [Nat.pow_add]
  exact Nat.mul_lt_mul_of_lt_of_le ha (Nat.le_of_lt hb) (Nat.pow_pos (by omega))
theorem times_round (A y d : Nat) : A * d * 2 ^ 32 + (A * y + 0) = A * (y + 4294967296 * d) := by
  have e : (2 : Nat) ^ 32 = 4294967296 := rfl
  rw [e, Nat.mul_add, Nat.add_zero, Nat.mul_comm 4294967296 d, ← Nat.mul_assoc]
  omega
theorem shl_bound {x n : Nat} (h : x < 4294967296 ^ n) : x * 2 ^ 32 < 4294967296 ^ (n + 1) := by
  have e : (2 : Nat) ^ 32 = 4294967296 := rfl
  rw [e, Nat.pow_succ]
  exact Nat.mul_lt_mul_of_pos_right h (by omega)
theorem part_bound {A y n : Nat} (h : A < 4294967296 ^ n) (hy : y < 4294967296) : A * y + 0 < 4294967296 ^ (n + n + 1) := by
  have h1 := mul_bound h (m := 1) (b := y) (by omega)
  have h2 : 4294967296 ^ (n + 1) ≤ 4294967296 ^ (n + n + 1) := Nat.pow_le_pow_right (by omega) (by omega)
  omega

set_option maxHeartbeats 3200000 in
set_option maxRecDepth 100000 in
theorem l0times_any (v u : Value) (A C n : Nat) (w : World) (h : Big w v A) (h' : Big w u C) (hA : A < 4294967296 ^ n) (hC : C < 4294967296 ^ n) (hn : n < 200000) :
    Calls Tryz.prog 49 #[v, u] w fun e w' => ∃ v', e = .returned v' ∧ Below w.heap.size w w' ∧ Big w' v' (A * C) := by
  obtain ⟨ms, b1, b2, b3, rfl⟩ := h'
  have hlen := trim_len b3 hC
  obtain ⟨bo, bcap, rfl, bc, bm, bh⟩ := b1
  have bm' : bcap ≤ 9223372036854775807 := bm
  have HA : Hid (Big w v A) := h
  have HB : Hid _ := bh
  have LB : Hid _ := b2
  have HP : Hid _ := fun k => mul_bound hA (drop_lt b2 k n hlen)
  have HQ : Hid (A < 4294967296 ^ n) := hA
  clear h bh bm b2 b3 hC hA
  go_enter Tryz.func49, Tryz.ntmps49
  go_wp2
  go_loopw [5, 6] (fun v i wr => ∃ k : Nat, i = .int .i64 ((k : Int) - 1) ∧ k ≤ ms.length ∧ Hid (Big wr v (A * bval (ms.drop k))) ∧ Below w.heap.size w wr) (fun _ i _ => (intOf i + 1).toNat)
  case atStart => exact ⟨ms.length, rfl, Nat.le_refl _, by show Big _ _ _; rw [List.drop_length]; exact ⟨[], Row.nil w, fun _ h => absurd h (by simp), rfl, by simp [bval]⟩, Below.refl _ _⟩
  case round =>
    obtain ⟨k, rfl, hk, HD, hbe⟩ := hrel
    have hsz := hbe.size
    cases k with
    | zero =>
      go_wp2
      go_ret
      exact ⟨_, rfl, hbe, HD.out⟩
    | succ k =>
      obtain ⟨g, rfl, hg, hcl⟩ := Row.block bc HB.out (t := k) (by omega)
      have hyl := lim_get LB.out k
      have HS : Hid _ := bval_drop ms k (by omega)
      have hcy := hcl k (by omega)
      clear hcl
      generalize ms.getD k 0 = y at *
      have HN1 : Hid _ := shl_bound (HP.out (k + 1))
      have HN2 : Hid _ := part_bound HQ.out hyl
      go_wp2_with (first
        | (go_at_call 48; refine (l0shl_big _ _ (n + n) 32 _ HD.out (HP.out (k + 1)) (by omega) (by omega)).mono ?_; rintro e w2 ⟨v2, rfl, hb2, hv2⟩; have hbe2 := hbe.trans (hb2.mono hsz); have hy2 : w2.cell? ⟨g, k, none⟩ = some (.int .u64 (y : Nat)) := (hbe2.cell hg).trans hcy)
        | (go_at_call 72; refine (l0mul_big _ A y 0 n _ (HA.out.below hbe2 (Nat.le_refl _)) HQ.out (by omega) hyl (by omega)).mono ?_; rintro e w3 ⟨v3, rfl, hb3, hv3⟩)
        | (go_at_call 73; refine (l0add_any _ _ _ _ (n + n + 1) _ (hv2.below hb3 (Nat.le_refl _)) hv3 HN1.out HN2.out (by omega)).mono ?_; rintro e w4 ⟨v4, rfl, hb4, hv4⟩))
      go_roundw
      case rel => exact ⟨k, rfl, by omega, by show Big _ _ _; rw [HS.out, ← times_round]; exact hv4, hbe2.trans ((hb3.mono hbe2.size).trans (hb4.mono (Nat.le_trans hbe2.size hb3.size)))⟩
      case measure => simp only [intOf]; omega
end Go.Proofs.YtoedefjngipeiaaGreatDoor

/- Bounds on products with powers of five. -/
namespace Go.Proofs.YtoedefjngipeiaaGreatDoor

theorem down_bound (A s : Nat) (hA : A < 4294967296 ^ 2) : A < 4294967296 ^ (s + 2) ∧ 5 ^ s < 4294967296 ^ (s + 2) ∧ A * 5 ^ s < 4294967296 ^ (s + 2 + (s + 2)) := by
  have h1 : 4294967296 ^ 2 ≤ 4294967296 ^ (s + 2) := Nat.pow_le_pow_right (by omega) (by omega)
  have h2 : 5 ^ s < 4294967296 ^ (s + 2) := Nat.lt_of_le_of_lt (Nat.pow_le_pow_left (show 5 ≤ 4294967296 by omega) s) (Nat.pow_lt_pow_right (by omega) (by omega))
  exact ⟨by omega, h2, mul_bound (by omega) h2⟩
end Go.Proofs.YtoedefjngipeiaaGreatDoor

/- l7pointed of the specification. -/
namespace Go.Proofs.YtoedefjngipeiaaGreatDoor
open Go.ChangeShapes Go.WideShapes Go.RowKit

theorem two_le_big (E : Nat) : 2 ^ E ≤ 4294967296 ^ E := Nat.pow_le_pow_left (by omega) E
theorem up_bound (A E : Nat) (hA : A < 4294967296 ^ 2) : A * 2 ^ E < 4294967296 ^ (2 + E) := by
  rw [Nat.pow_add]
  exact Nat.mul_lt_mul_of_lt_of_le hA (two_le_big E) (Nat.pow_pos (by omega))
theorem zeros_extract (n : Nat) (ds : ByteArray) : ((⟨(zerosL n).toArray⟩ : ByteArray) ++ ds).data.toList = List.replicate n 48 ++ ds.data.toList := by
  rw [append_list]; rfl

set_option maxHeartbeats 2000000 in
set_option maxRecDepth 100000 in
theorem l7pointed_up (v : Value) (A E : Nat) (w : World) (h : Big w v A) (hA0 : 0 < A) (hA : A < 4294967296 ^ 2) (hE : E ≤ 4000) :
    Calls Tryz.prog 28 #[v, .int .i64 (E : Int)] w fun e w' => ∃ t : ByteArray, e = .returned (.string t) ∧ Pointed t A (E : Int) ∧ Below w.heap.size w w' := by
  have HB : Hid (Big w v A) := h
  have HA : Hid (A < 4294967296 ^ 2) := hA
  obtain ⟨ao, len, cap, rfl, hl⟩ : ∃ ao len cap, v = .slice ao len cap ∧ ((len : Int) == 0) = false := by
    obtain ⟨ls, ⟨ao, cap, hv, _⟩, _, h3, h4⟩ := h
    refine ⟨ao, _, cap, hv, beq_eq_false_iff_ne.2 ?_⟩
    intro h0
    have : ls = [] := List.length_eq_zero_iff.1 (by omega)
    rw [this] at h4
    simp [bval] at h4
    omega
  have HUP : Hid _ := up_bound A E hA
  have HP0 : Hid (0 < A * 2 ^ E) := Nat.mul_pos hA0 (Nat.two_pow_pos E)
  have HP : Hid _ := fun ds h => pointed_up ds A E hA0 h
  clear h hA hA0
  go_enter Tryz.func28, Tryz.ntmps28
  go_wp2_with fail
  refine (l0shl_big _ A 2 E _ HB.out HA.out (by omega) (by omega)).mono ?_
  rintro e w1 ⟨v1, rfl, hb1, hv1⟩
  have HB1 : Hid (Below w.heap.size w w1) := hb1
  have HV1 : Hid (Big w1 v1 (A * 2 ^ E)) := hv1
  clear hb1 hv1
  go_wp2_with fail
  refine (l0digits_any v1 (A * 2 ^ E) (2 + E) w1 HV1.out HUP.out (by omega)).mono ?_
  rintro e w2 ⟨ds, rfl, hds, hb2⟩
  have HD : Hid (IsDec ds (A * 2 ^ E)) := hds
  have hfew := dec_few ds _ (2 + E) hds HUP.out
  have HB2 : Hid (Below w.heap.size w w2) := HB1.out.trans (hb2.mono HB1.out.size)
  have hpos : 0 < ds.size := dec_pos ds _ hds HP0.out
  have hne : decide (ds = ByteArray.empty) = false := decide_eq_false (fun h => by rw [h] at hpos; exact absurd hpos (by decide))
  clear hds hb2 HV1 HB1
  go_wp2_with fail
  go_quiet (fail)
  go_wp2
  go_ret
  exact ⟨_, rfl, HP.out _ HD.out, below_drewN HB2.out _⟩
set_option maxHeartbeats 2000000 in
set_option maxRecDepth 100000 in
theorem l7pointed_down (v : Value) (A s : Nat) (w : World) (h : Big w v A) (hA0 : 0 < A) (hA : A < 4294967296 ^ 2) (hs : s ≤ 4000) (hs0 : 0 < s) :
    Calls Tryz.prog 28 #[v, .int .i64 (-(s : Int))] w fun e w' => ∃ t : ByteArray, e = .returned (.string t) ∧ Pointed t A (-(s : Int)) ∧ Below w.heap.size w w' := by
  have HB : Hid (Big w v A) := h
  obtain ⟨ao, len, cap, rfl, hl⟩ : ∃ ao len cap, v = .slice ao len cap ∧ ((len : Int) == 0) = false := by
    obtain ⟨ls, ⟨ao, cap, hv, _⟩, _, h3, h4⟩ := h
    refine ⟨ao, _, cap, hv, beq_eq_false_iff_ne.2 ?_⟩
    intro h0
    have : ls = [] := List.length_eq_zero_iff.1 (by omega)
    rw [this] at h4
    simp [bval] at h4
    omega
  have HUP : Hid _ := down_bound A s hA
  have HP0 : Hid (0 < A * 5 ^ s) := Nat.mul_pos hA0 (Nat.pow_pos (by omega))
  have HA0 : Hid (0 < A) := hA0
  clear h hA hA0
  go_enter Tryz.func28, Tryz.ntmps28
  go_wp2_with fail
  refine (l0pow_any 5 s _ (by omega) (by omega)).mono ?_
  rintro e w1 ⟨v1, rfl, hb1, hv1⟩
  have HB1 : Hid (Below w.heap.size w w1) := hb1
  have HV1 : Hid (Big w1 v1 (5 ^ s)) := hv1
  clear hb1 hv1
  go_wp2_with fail
  refine (l0times_any _ _ A (5 ^ s) (s + 2) _ (HB.out.below HB1.out (Nat.le_refl _)) HV1.out HUP.out.1 HUP.out.2.1 (by omega)).mono ?_
  rintro e w2 ⟨v2, rfl, hb2, hv2⟩
  have HB2 : Hid (Below w.heap.size w w2) := HB1.out.trans (hb2.mono HB1.out.size)
  have HV2 : Hid (Big w2 v2 (A * 5 ^ s)) := hv2
  clear hb2 hv2 HV1 HB1
  go_wp2_with fail
  refine (l0digits_any v2 (A * 5 ^ s) (s + 2 + (s + 2)) w2 HV2.out HUP.out.2.2 (by omega)).mono ?_
  rintro e w3 ⟨ds, rfl, hds, hb3⟩
  have HD : Hid (IsDec ds (A * 5 ^ s)) := hds
  have hfew := dec_few ds _ _ hds HUP.out.2.2
  have HB3 : Hid (Below w.heap.size w w3) := HB2.out.trans (hb3.mono HB2.out.size)
  have hpos : 0 < ds.size := dec_pos ds _ hds HP0.out
  have HBD : Hid _ := (dec_bounds ds _ hds hpos).1
  clear hds hb3 HV2 HB2
  by_cases hle : ds.size ≤ s
  · obtain ⟨z, hz⟩ : ∃ z : Nat, ds.size + z = s + 1 := ⟨s + 1 - ds.size, by omega⟩
    have hz1 : (s : Int) - (ds.size : Int) + 1 = (z : Int) := by omega
    go_wp2_with fail
    refine (l5zeros_any z (by omega) _).mono ?_
    rintro e w4 ⟨rfl, hb4⟩
    have HB4 : Hid (Below w.heap.size w w4) := HB3.out.trans (hb4.mono HB3.out.size)
    have hzs : (⟨(zerosL z).toArray⟩ : ByteArray).size = z := by rw [← data_len]; exact zerosL_length z
    have HL : Hid _ := zeros_extract z ds
    generalize (⟨(zerosL z).toArray⟩ : ByteArray) = Z at *
    clear hb4 HB3
    go_wp2_with fail
    have hsz := append_size Z ds
    generalize Z ++ ds = D at *
    have hDs : D.size = 1 + s := by omega
    have HP : Hid (Pointed (D.extract 0 1 ++ dotB ++ D.extract 1 D.size) A (-(s : Int))) := pointed_down D A s 1 z HA0.out hs0 ds.data.toList HL.out HD.out.1 HD.out.2.1 hDs (by omega) (.inl rfl)
    have hDi : (D.size : Int) - (s : Int) = 1 := by omega
    have hD1 : 1 ≤ D.size := by omega
    go_quiet (fail)
    go_wp2
    go_ret
    exact ⟨_, rfl, by rw [show z + ds.size - s = 1 by omega, show z + ds.size = D.size by omega]; exact HP.out, below_drewN HB4.out _⟩
  · obtain ⟨k, hk⟩ : ∃ k : Nat, ds.size = k + s := ⟨ds.size - s, by omega⟩
    have HP : Hid (Pointed (ds.extract 0 k ++ dotB ++ ds.extract k ds.size) A (-(s : Int))) := pointed_down ds A s k 0 HA0.out hs0 ds.data.toList rfl HD.out.1 HD.out.2.1 hk (by omega) (.inr HBD.out)
    have hDi : (ds.size : Int) - (s : Int) = (k : Int) := by omega
    have hk2 : k ≤ ds.size := by omega
    clear hk
    go_wp2_with fail
    go_quiet (fail)
    go_wp2
    go_ret
    exact ⟨_, rfl, HP.out, below_drewN HB3.out _⟩
set_option maxHeartbeats 400000 in
theorem l7pointed_none (ao : Option Addr) (cap : Nat) (e : Int) (w : World) :
    Calls Tryz.prog 28 #[.slice ao 0 cap, .int .i64 e] w fun e' w' => ∃ t : ByteArray, e' = .returned (.string t) ∧ Pointed t 0 e ∧ Below w.heap.size w w' := by
  go_enter Tryz.func28, Tryz.ntmps28
  go_wp2
  go_ret
  exact ⟨_, rfl, pointed_zero e, Below.refl _ _⟩
theorem l7pointed_any (v : Value) (A : Nat) (e : Int) (w : World) (h : Big w v A) (hA : A < 4294967296 ^ 2) (h1 : -4000 ≤ e) (h2 : e ≤ 4000) :
    Calls Tryz.prog 28 #[v, .int .i64 e] w fun e' w' => ∃ t : ByteArray, e' = .returned (.string t) ∧ Pointed t A e ∧ Below w.heap.size w w' := by
  by_cases h0 : A = 0
  · subst h0
    obtain ⟨ls, ⟨ao, cap, rfl, _⟩, _, h3, h4⟩ := h
    rw [(trim_nil_iff h3).2 h4]
    exact l7pointed_none ao cap e w
  · by_cases he : 0 ≤ e
    · obtain ⟨E, rfl⟩ := Int.eq_ofNat_of_zero_le he
      exact l7pointed_up v A E w h (by omega) hA (by omega)
    · obtain ⟨s, rfl⟩ : ∃ s : Nat, e = -(s : Int) := ⟨(-e).toNat, by omega⟩
      exact l7pointed_down v A s w h (by omega) hA (by omega) (by omega)
end Go.Proofs.YtoedefjngipeiaaGreatDoor

