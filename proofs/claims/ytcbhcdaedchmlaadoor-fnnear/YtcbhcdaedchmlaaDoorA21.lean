import Derived.Test.YtcbhcdaedchmlaaDoorA17
import Derived.Test.YtcbhcdaedchmlaaDoorA18
import Derived.Test.YtcbhcdaedchmlaaDoorA20
import Derived.Test.YtcbhcdaedchmlaaDoorA04
/- l7pointed of the specification. -/
namespace Go.Proofs.YtcbhcdaedchmlaaDoor
open Go.ChangeShapes Go.WideShapes Go.RowKit

theorem two_le_big (E : Nat) : 2 ^ E ≤ 4294967296 ^ E := Nat.pow_le_pow_left (by omega) E
theorem up_bound (A E : Nat) (hA : A < 4294967296 ^ 2) : A * 2 ^ E < 4294967296 ^ (2 + E) := by
  rw [Nat.pow_add]
  exact Nat.mul_lt_mul_of_lt_of_le hA (two_le_big E) (Nat.pow_pos (by omega))
theorem zeros_extract (n : Nat) (ds : ByteArray) : ((⟨(zerosL n).toArray⟩ : ByteArray) ++ ds).data.toList = List.replicate n 48 ++ ds.data.toList := by
  rw [append_list]; rfl

set_option maxHeartbeats 2000000 in
set_option maxRecDepth 100000 in
theorem l7pointed_up (v : Value) (A E : Nat) (w : World) (h : Big w v A) (hA0 : 0 < A) (hA : A < 4294967296 ^ 2) (hE : E ≤ 4000) :
    Calls Tryd.prog 20 #[v, .int .i64 (E : Int)] w fun e w' => ∃ t : ByteArray, e = .returned (.string t) ∧ Pointed t A (E : Int) ∧ Below w.heap.size w w' := by
  have HB : Hid (Big w v A) := h
  have HA : Hid (A < 4294967296 ^ 2) := hA
  obtain ⟨ao, len, cap, rfl, hl⟩ : ∃ ao len cap, v = .slice ao len cap ∧ ((len : Int) == 0) = false := by
    obtain ⟨ls, ⟨ao, cap, hv, _⟩, _, h3, h4⟩ := h
    refine ⟨ao, _, cap, hv, beq_eq_false_iff_ne.2 ?_⟩
    intro h0
    have : ls = [] := List.length_eq_zero_iff.1 (by omega)
    rw [this] at h4
    simp [bval] at h4
    omega
  have HUP : Hid _ := up_bound A E hA
  have HP0 : Hid (0 < A * 2 ^ E) := Nat.mul_pos hA0 (Nat.two_pow_pos E)
  have HP : Hid _ := fun ds h => pointed_up ds A E hA0 h
  clear h hA hA0
  go_enter Tryd.func20, Tryd.ntmps20
  go_wp2_with fail
  refine (l0shl_big _ A 2 E _ HB.out HA.out (by omega) (by omega)).mono ?_
  rintro e w1 ⟨v1, rfl, hb1, hv1⟩
  have HB1 : Hid (Below w.heap.size w w1) := hb1
  have HV1 : Hid (Big w1 v1 (A * 2 ^ E)) := hv1
  clear hb1 hv1
  go_wp2_with fail
  refine (l0digits_any v1 (A * 2 ^ E) (2 + E) w1 HV1.out HUP.out (by omega)).mono ?_
  rintro e w2 ⟨ds, rfl, hds, hb2⟩
  have HD : Hid (IsDec ds (A * 2 ^ E)) := hds
  have hfew := dec_few ds _ (2 + E) hds HUP.out
  have HB2 : Hid (Below w.heap.size w w2) := HB1.out.trans (hb2.mono HB1.out.size)
  have hpos : 0 < ds.size := dec_pos ds _ hds HP0.out
  have hne : decide (ds = ByteArray.empty) = false := decide_eq_false (fun h => by rw [h] at hpos; exact absurd hpos (by decide))
  clear hds hb2 HV1 HB1
  go_wp2_with fail
  go_quiet (fail)
  go_wp2
  go_ret
  exact ⟨_, rfl, HP.out _ HD.out, below_drewN HB2.out _⟩
set_option maxHeartbeats 2000000 in
set_option maxRecDepth 100000 in
theorem l7pointed_down (v : Value) (A s : Nat) (w : World) (h : Big w v A) (hA0 : 0 < A) (hA : A < 4294967296 ^ 2) (hs : s ≤ 4000) (hs0 : 0 < s) :
    Calls Tryd.prog 20 #[v, .int .i64 (-(s : Int))] w fun e w' => ∃ t : ByteArray, e = .returned (.string t) ∧ Pointed t A (-(s : Int)) ∧ Below w.heap.size w w' := by
  have HB : Hid (Big w v A) := h
  obtain ⟨ao, len, cap, rfl, hl⟩ : ∃ ao len cap, v = .slice ao len cap ∧ ((len : Int) == 0) = false := by
    obtain ⟨ls, ⟨ao, cap, hv, _⟩, _, h3, h4⟩ := h
    refine ⟨ao, _, cap, hv, beq_eq_false_iff_ne.2 ?_⟩
    intro h0
    have : ls = [] := List.length_eq_zero_iff.1 (by omega)
    rw [this] at h4
    simp [bval] at h4
    omega
  have HUP : Hid _ := down_bound A s hA
  have HP0 : Hid (0 < A * 5 ^ s) := Nat.mul_pos hA0 (Nat.pow_pos (by omega))
  have HA0 : Hid (0 < A) := hA0
  clear h hA hA0
  go_enter Tryd.func20, Tryd.ntmps20
  go_wp2_with fail
  refine (l0pow_any 5 s _ (by omega) (by omega)).mono ?_
  rintro e w1 ⟨v1, rfl, hb1, hv1⟩
  have HB1 : Hid (Below w.heap.size w w1) := hb1
  have HV1 : Hid (Big w1 v1 (5 ^ s)) := hv1
  clear hb1 hv1
  go_wp2_with fail
  refine (l0times_any _ _ A (5 ^ s) (s + 2) _ (HB.out.below HB1.out (Nat.le_refl _)) HV1.out HUP.out.1 HUP.out.2.1 (by omega)).mono ?_
  rintro e w2 ⟨v2, rfl, hb2, hv2⟩
  have HB2 : Hid (Below w.heap.size w w2) := HB1.out.trans (hb2.mono HB1.out.size)
  have HV2 : Hid (Big w2 v2 (A * 5 ^ s)) := hv2
  clear hb2 hv2 HV1 HB1
  go_wp2_with fail
  refine (l0digits_any v2 (A * 5 ^ s) (s + 2 + (s + 2)) w2 HV2.out HUP.out.2.2 (by omega)).mono ?_
  rintro e w3 ⟨ds, rfl, hds, hb3⟩
  have HD : Hid (IsDec ds (A * 5 ^ s)) := hds
  have hfew := dec_few ds _ _ hds HUP.out.2.2
  have HB3 : Hid (Below w.heap.size w w3) := HB2.out.trans (hb3.mono HB2.out.size)
  have hpos : 0 < ds.size := dec_pos ds _ hds HP0.out
  have HBD : Hid _ := (dec_bounds ds _ hds hpos).1
  clear hds hb3 HV2 HB2
  by_cases hle : ds.size ≤ s
  · obtain ⟨z, hz⟩ : ∃ z : Nat, ds.size + z = s + 1 := ⟨s + 1 - ds.size, by omega⟩
    have hz1 : (s : Int) - (ds.size : Int) + 1 = (z : Int) := by omega
    go_wp2_with fail
    refine (l5zeros_any z (by omega) _).mono ?_
    rintro e w4 ⟨rfl, hb4⟩
    have HB4 : Hid (Below w.heap.size w w4) := HB3.out.trans (hb4.mono HB3.out.size)
    have hzs : (⟨(zerosL z).toArray⟩ : ByteArray).size = z := by rw [← data_len]; exact zerosL_length z
    have HL : Hid _ := zeros_extract z ds
    generalize (⟨(zerosL z).toArray⟩ : ByteArray) = Z at *
    clear hb4 HB3
    go_wp2_with fail
    have hsz := append_size Z ds
    generalize Z ++ ds = D at *
    have hDs : D.size = 1 + s := by omega
    have HP : Hid (Pointed (D.extract 0 1 ++ dotB ++ D.extract 1 D.size) A (-(s : Int))) := pointed_down D A s 1 z HA0.out hs0 ds.data.toList HL.out HD.out.1 HD.out.2.1 hDs (by omega) (.inl rfl)
    have hDi : (D.size : Int) - (s : Int) = 1 := by omega
    have hD1 : 1 ≤ D.size := by omega
    go_quiet (fail)
    go_wp2
    go_ret
    exact ⟨_, rfl, by rw [show z + ds.size - s = 1 by omega, show z + ds.size = D.size by omega]; exact HP.out, below_drewN HB4.out _⟩
  · obtain ⟨k, hk⟩ : ∃ k : Nat, ds.size = k + s := ⟨ds.size - s, by omega⟩
    have HP : Hid (Pointed (ds.extract 0 k ++ dotB ++ ds.extract k ds.size) A (-(s : Int))) := pointed_down ds A s k 0 HA0.out hs0 ds.data.toList rfl HD.out.1 HD.out.2.1 hk (by omega) (.inr HBD.out)
    have hDi : (ds.size : Int) - (s : Int) = (k : Int) := by omega
    have hk2 : k ≤ ds.size := by omega
    clear hk
    go_wp2_with fail
    go_quiet (fail)
    go_wp2
    go_ret
    exact ⟨_, rfl, HP.out, below_drewN HB3.out _⟩
set_option maxHeartbeats 400000 in
theorem l7pointed_none (ao : Option Addr) (cap : Nat) (e : Int) (w : World) :
    Calls Tryd.prog 20 #[.slice ao 0 cap, .int .i64 e] w fun e' w' => ∃ t : ByteArray, e' = .returned (.string t) ∧ Pointed t 0 e ∧ Below w.heap.size w w' := by
  go_enter Tryd.func20, Tryd.ntmps20
  go_wp2
  go_ret
  exact ⟨_, rfl, pointed_zero e, Below.refl _ _⟩
theorem l7pointed_any (v : Value) (A : Nat) (e : Int) (w : World) (h : Big w v A) (hA : A < 4294967296 ^ 2) (h1 : -4000 ≤ e) (h2 : e ≤ 4000) :
    Calls Tryd.prog 20 #[v, .int .i64 e] w fun e' w' => ∃ t : ByteArray, e' = .returned (.string t) ∧ Pointed t A e ∧ Below w.heap.size w w' := by
  by_cases h0 : A = 0
  · subst h0
    obtain ⟨ls, ⟨ao, cap, rfl, _⟩, _, h3, h4⟩ := h
    rw [(trim_nil_iff h3).2 h4]
    exact l7pointed_none ao cap e w
  · by_cases he : 0 ≤ e
    · obtain ⟨E, rfl⟩ := Int.eq_ofNat_of_zero_le he
      exact l7pointed_up v A E w h (by omega) hA (by omega)
    · obtain ⟨s, rfl⟩ : ∃ s : Nat, e = -(s : Int) := ⟨(-e).toNat, by omega⟩
      exact l7pointed_down v A s w h (by omega) hA (by omega) (by omega)
end Go.Proofs.YtcbhcdaedchmlaaDoor

/- Numbered of the specification. -/
namespace Go.Proofs.YtcbhcdaedchmlaaDoor
open Go.ChangeShapes Go.WideShapes Go.RowKit

set_option maxHeartbeats 400000 in
theorem numbered_any (neg : Bool) (n e : Int) (w : World) (h1 : -4000 ≤ e) (h2 : e ≤ 4000) :
    Calls Tryd.prog 9 #[.bool neg, .int .i64 n, .int .i64 e] w fun e' w' => ∃ t : ByteArray, Pointed t (u64n n) e ∧ e' = .returned (.string (sgnT neg t)) ∧ Below w.heap.size w w' := by
  have hc := u64n_cast n
  have HF : Hid _ := fun w => l0from_any (u64n n) (u64n_lt n) w
  have HP : Hid _ := fun v w h => l7pointed_any v (u64n n) e w h (Nat.lt_of_lt_of_le (u64n_lt n) (by decide)) h1 h2
  have HS : Hid (∀ t, Pointed t (u64n n) e → t.size ≤ 10000) := fun t h => by
    have := pointed_size t _ e h (u64n_lt n)
    split at this <;> omega
  generalize u64n n = U at *
  cases neg
  all_goals
    go_enter Tryd.func9, Tryd.ntmps9
    go_wp2_with fail
    refine (HF.out _).mono ?_
    rintro e w1 ⟨v1, rfl, hb1, hv1⟩
    go_wp2_with fail
    refine (HP.out _ _ hv1).mono ?_
    rintro e w2 ⟨t, rfl, ht, hb2⟩
    have hts := HS.out t ht
    have HT : Hid _ := fun (_ : Unit) => ht
    have HB : Hid _ := fun (_ : Unit) => hb1.trans (hb2.mono hb1.size)
    clear ht hb1 hb2 hv1
    go_wp2
    go_ret
    exact ⟨t, HT.out (), rfl, HB.out ()⟩
end Go.Proofs.YtcbhcdaedchmlaaDoor

/- Floats held against each other, as the laws over drawn inputs do it. -/
namespace Go.Proofs.YtcbhcdaedchmlaaDoor
open Go.ChangeShapes Go.WideShapes Go.RowKit
open Ieee (double)

set_option maxHeartbeats 400000 in
theorem wflt_nan (x y : Nat) (hx : IsNan x) (hy : IsNan y) (w : World) :
    Calls Tryd.prog 6 #[.float .f64 x, .float .f64 y] w fun e w' => e = .returned (.bool true) ∧ w' = w := by
  have h1 : (FloatKind.f64.format.order x x != some .eq) = true := nan_neq x hx
  have h2 : (FloatKind.f64.format.order y y != some .eq) = true := nan_neq y hy
  go_enter Tryd.func6, Tryd.ntmps6
  go_wp2
  go_ret
  exact ⟨rfl, rfl⟩
set_option maxHeartbeats 400000 in
theorem wflt_some (x : Nat) (h1 : FloatKind.f64.format.order x x = some .eq) (h2 : FloatKind.f64.format.order x 0 = some .lt ∨ FloatKind.f64.format.order x 0 = some .gt) (w : World) :
    Calls Tryd.prog 6 #[.float .f64 x, .float .f64 x] w fun e w' => e = .returned (.bool true) ∧ w' = w := by
  rcases h2 with h2 | h2
  all_goals
    go_enter Tryd.func6, Tryd.ntmps6
    go_wp2
    go_ret
    exact ⟨rfl, rfl⟩
set_option maxHeartbeats 400000 in
theorem wflt_zero (s : Bool) (w : World) :
    Calls Tryd.prog 6 #[.float .f64 (signBit s), .float .f64 (signBit s)] w fun e w' => e = .returned (.bool true) ∧ w' = w := by
  have hn : FloatKind.f64.format.order (signBit s) (signBit s) = some .eq := by
    have := order_self_fw s 0 (-1074) canon_zero
    rw [fw_zero] at this
    exact this
  have hz : FloatKind.f64.format.order (signBit s) 0 = some .eq := ord_zeros s
  have hd := run_valid (P := Tryd.prog) .quo 25 _ _ _ (one_by_zero s)
  have hi : FloatKind.f64.format.order (iw s) (iw s) = some .eq := order_self_iw s
  generalize iw s = I at *
  generalize signBit s = Z at *
  go_enter Tryd.func6, Tryd.ntmps6
  go_wp2
  go_ret
  exact ⟨rfl, rfl⟩
/-- One float is the same as itself. -/
theorem wflt_self (x : Nat) (hx : x < 18446744073709551616) (w : World) :
    Calls Tryd.prog 6 #[.float .f64 x, .float .f64 x] w fun e w' => e = .returned (.bool true) ∧ w' = w := by
  rcases float_cases x hx with h | ⟨s, rfl⟩ | ⟨s, n, p, hc, rfl⟩
  · exact wflt_nan x x h h w
  · refine wflt_some (iw s) (order_self_iw s) ?_ w
    have := ord_inf_zero s
    cases s
    · exact .inr this
    · exact .inl this
  · by_cases h0 : n = 0
    · subst h0; rw [fw_zero]; exact wflt_zero s w
    · refine wflt_some _ (order_self_fw s n p hc) ?_ w
      have := ord_zero s n p (canon_rep n p hc) (by omega)
      cases s
      · exact .inr this
      · exact .inl this
end Go.Proofs.YtcbhcdaedchmlaaDoor

