import Derived.Test.YtpmccbkhkaoccaaGreatDoorG02
import Derived.Test.YtpmccbkhkaoccaaGreatDoorB27
import Derived.Test.YtpmccbkhkaoccaaGreatDoorB17
import Derived.Test.YtpmccbkhkaoccaaGreatDoorB29
import Derived.Test.YtpmccbkhkaoccaaGreatDoorB03
import Derived.Test.YtpmccbkhkaoccaaGreatDoorB33
import Derived.Test.YtpmccbkhkaoccaaGreatDoorB40
import Derived.OpenShut
/- FromBits of the specification. -/
namespace Go.Proofs.YtpmccbkhkaoccaaGreatDoor
open Go.ChangeShapes Go.WideShapes Go.RowKit
open Ieee (double)

/-- What FromBits answers: the float of those bits, or a NaN where they are a NaN's. -/
def fromV (U b : Nat) : Prop := b < 18446744073709551616 ∧ ((IsNan U ∧ IsNan b) ∨ (¬ IsNan U ∧ b = U))
/-- What the walk is told of the bits U of n. -/
def Told (n : Int) (U : Nat) (s : Bool) (E M : Nat) : Prop :=
  IntKind.u64.wrap n = (U : Int) ∧ bits .and .u64 ((U : Int) / 4503599627370496) 2047 = (E : Int) ∧ bits .and .u64 (U : Int) 4503599627370495 = (M : Int) ∧ ((U : Int) / 9223372036854775808 == 1) = s
theorem told_any (n : Int) : ∃ s E M, E < 2048 ∧ M < 4503599627370496 ∧ u64n n = signBit s + (E * 4503599627370496 + M) ∧ Told n (u64n n) s E M := by
  have hu := u64n_cast n
  have hlt := u64n_lt n
  generalize u64n n = U at *
  obtain ⟨s, E, M, hE, hM, hU⟩ := word_parts U hlt
  have ha := mask11 ((U : Int) / 4503599627370496) (by omega) (by omega)
  have hb := mask52 (U : Int) (by omega) (by omega)
  have eE : (U : Int) / 4503599627370496 % 2048 = (E : Int) := by cases s <;> simp only [signBit] at hU <;> simp at hU <;> omega
  have eM : (U : Int) % 4503599627370496 = (M : Int) := by cases s <;> simp only [signBit] at hU <;> simp at hU <;> omega
  rw [eE] at ha
  rw [eM] at hb
  have es : ((U : Int) / 9223372036854775808 == 1) = s := by
    cases s
    · simp only [signBit] at hU; simp at hU; rw [beq_eq_false_iff_ne]; omega
    · simp only [signBit] at hU; simp at hU; rw [beq_iff_eq]; omega
  exact ⟨s, E, M, hE, hM, hU, hu, ha, hb, es⟩

set_option maxRecDepth 100000 in
set_option maxHeartbeats 400000 in
theorem from_inf (n : Int) (U : Nat) (s : Bool) (ht : Told n U s 2047 0) (w : World) :
    Calls Tryz.prog 58 #[.int .i64 n] w fun e w' => e = .returned (.float .f64 (iw s)) ∧ w' = w := by
  obtain ⟨hu, ha, hb, es⟩ := ht
  cases s
  all_goals
    go_enter Tryz.func58, Tryz.ntmps58
    go_wp2_with (first | (go_at_call 91; refine (l2inf_any _).mono ?_; rintro e w' ⟨rfl, rfl⟩) | (go_at_call 90; refine (l2signed_iw _ _).mono ?_; rintro e w' ⟨rfl, rfl⟩))
    go_ret
    exact ⟨rfl, rfl⟩
set_option maxRecDepth 100000 in
set_option maxHeartbeats 400000 in
theorem from_nan (n : Int) (U : Nat) (s : Bool) (M : Nat) (ht : Told n U s 2047 M) (hM : M ≠ 0) (w : World) :
    Calls Tryz.prog 58 #[.int .i64 n] w fun e w' => ∃ b, IsNan b ∧ b < 18446744073709551616 ∧ e = .returned (.float .f64 b) ∧ w' = w.drew := by
  obtain ⟨hu, ha, hb, es⟩ := ht
  have e2 : ((M : Int) != 0) = true := by rw [bne_iff_ne]; omega
  clear hM es
  go_enter Tryz.func58, Tryz.ntmps58
  go_wp2_with (go_at_call 89; refine (l2nan_any _).mono ?_; rintro e w' ⟨b, hnb, hbl, rfl, rfl⟩)
  go_ret
  exact ⟨b, hnb, hbl, rfl, rfl⟩
set_option maxRecDepth 100000 in
set_option maxHeartbeats 400000 in
theorem from_small (n : Int) (U : Nat) (s : Bool) (M : Nat) (ht : Told n U s 0 M) (hM : M < 4503599627370496) (w : World) :
    Calls Tryz.prog 58 #[.int .i64 n] w fun e w' => e = .returned (.float .f64 (fw s M (-1074))) ∧ w' = w := by
  obtain ⟨hu, ha, hb, es⟩ := ht
  have HR : Hid _ := fun (_ : Unit) => rep_at M (-1074) (by omega) (by omega) (by omega)
  cases s
  all_goals
    go_enter Tryz.func58, Tryz.ntmps58
    go_wp2_with (first | (go_at_call 92; refine (l2scaled_any M (-1074) (by omega) (by omega) (by omega) _).mono ?_; rintro e w' ⟨rfl, rfl⟩) | (go_at_call 90; refine (l2signed_fw _ _ _ (HR.out ()) _).mono ?_; rintro e w' ⟨rfl, rfl⟩))
    go_ret
    exact ⟨rfl, rfl⟩
set_option maxRecDepth 100000 in
set_option maxHeartbeats 400000 in
theorem from_normal (n : Int) (U : Nat) (s : Bool) (E M : Nat) (ht : Told n U s E M) (hE0 : 1 ≤ E) (hE1 : E ≤ 2046) (hM : M < 4503599627370496) (w : World) :
    Calls Tryz.prog 58 #[.int .i64 n] w fun e w' => e = .returned (.float .f64 (fw s (4503599627370496 + M) ((E : Int) - 1075))) ∧ w' = w := by
  obtain ⟨hu, ha, hb, es⟩ := ht
  have e1 : ((E : Int) == 2047) = false := by rw [beq_eq_false_iff_ne]; omega
  have e2 : ((E : Int) == 0) = false := by rw [beq_eq_false_iff_ne]; omega
  have ho := or_one M hM
  have HR : Hid _ := fun (_ : Unit) => rep_at (4503599627370496 + M) ((E : Int) - 1075) (by omega) (by omega) (by omega)
  cases s
  all_goals
    go_enter Tryz.func58, Tryz.ntmps58
    go_wp2_with (first | (go_at_call 92; refine (l2scaled_any (4503599627370496 + M) ((E : Int) - 1075) (by omega) (by omega) (by omega) _).mono ?_; rintro e w' ⟨rfl, rfl⟩) | (go_at_call 90; refine (l2signed_fw _ _ _ (HR.out ()) _).mono ?_; rintro e w' ⟨rfl, rfl⟩))
    go_ret
    exact ⟨rfl, rfl⟩

theorem specFrom_any (n : Int) (w : World) :
    Calls Tryz.prog 58 #[.int .i64 n] w fun e w' => ∃ b, fromV (u64n n) b ∧ e = .returned (.float .f64 b) ∧ ∃ k, w' = w.drewN k := by
  have hlt := u64n_lt n
  obtain ⟨s, E, M, hE, hM, hU, ht⟩ := told_any n
  by_cases hinf : E = 2047
  · subst hinf
    by_cases hz : M = 0
    · subst hz
      refine (from_inf n _ s ht w).mono ?_
      rintro e w' ⟨rfl, rfl⟩
      have hi : u64n n = iw s := by rw [hU]; unfold iw; omega
      exact ⟨iw s, ⟨by rw [← hi]; exact hlt, .inr ⟨by rw [hU]; exact not_nan s _ (by omega), hi.symm⟩⟩, rfl, 0, rfl⟩
    · refine (from_nan n _ s M ht hz w).mono ?_
      rintro e w' ⟨b, hb, hbl, rfl, rfl⟩
      exact ⟨b, ⟨hbl, .inl ⟨by rw [hU]; exact nan_word s _ (by omega) (by omega), hb⟩⟩, rfl, 1, rfl⟩
  · have hnn : ¬ IsNan (u64n n) := by rw [hU]; exact not_nan s _ (by omega)
    by_cases hz : E = 0
    · subst hz
      refine (from_small n _ s M ht hM w).mono ?_
      rintro e w' ⟨rfl, rfl⟩
      have hc : Canon M (-1074) := .inr ⟨hM, rfl⟩
      have hi : u64n n = fw s M (-1074) := by rw [hU, fw_canon s M _ hc]; unfold rung; omega
      exact ⟨_, ⟨fw_lt s M _ hc, .inr ⟨hnn, hi.symm⟩⟩, rfl, 0, rfl⟩
    · refine (from_normal n _ s E M ht (by omega) (by omega) hM w).mono ?_
      rintro e w' ⟨rfl, rfl⟩
      have hc : Canon (4503599627370496 + M) ((E : Int) - 1075) := .inl ⟨by omega, by omega, by omega, by omega⟩
      have hi : u64n n = fw s (4503599627370496 + M) ((E : Int) - 1075) := by rw [hU, fw_canon s _ _ hc]; unfold rung; omega
      exact ⟨_, ⟨fw_lt s _ _ hc, .inr ⟨hnn, hi.symm⟩⟩, rfl, 0, rfl⟩
end Go.Proofs.YtpmccbkhkaoccaaGreatDoor

/- A drawn float of the specification. -/
namespace Go.Proofs.YtpmccbkhkaoccaaGreatDoor
open Go.ChangeShapes Go.WideShapes Go.RowKit
open Ieee (double)

theorem decW_lt (V : Nat) (e : Int) : decW 10 V e < 18446744073709551616 := by
  unfold decW
  split
  · omega
  · unfold ratioW ratioAt
    split <;> exact fw_word _ _ _
theorem DS.drewN {B : Nat} {w0 w : World} {a : Option Addr} {len cap : Nat} {n : Int} (h : DS B w0 w a len cap n) (k : Nat) : DS B w0 (w.drewN k) a len cap n := h.below (below_drewN (Below.refl _ _) k)
theorem whole_rep (v : Int) (h0 : 0 ≤ v) (h1 : v < 9007199254740992) : ∃ k : Nat, v = (k : Int) ∧ Rep k 0 ∧ floatOfInt .f64 v = fw false k 0 := by
  obtain ⟨k, rfl⟩ := Int.eq_ofNat_of_zero_le h0
  exact ⟨k, rfl, rep_whole k (by omega), float_of k⟩

theorem floats_at (cs : List Nat) (h : ∀ f ∈ cs, f < 18446744073709551616) (n : Nat) (hn : n < cs.length) : ∃ f, ((cs.map (Value.float .f64)).toArray)[n]? = some (.float .f64 f) ∧ f < 18446744073709551616 := by
  refine ⟨cs[n], ?_, h _ (List.getElem_mem hn)⟩
  simp [List.getElem?_eq_getElem hn]

set_option maxHeartbeats 4000000 in
set_option maxRecDepth 100000 in
theorem flt_ds (B : Nat) (w0 w : World) (a : Option Addr) (len cap : Nat) (m : Int) (h : DS B w0 w a len cap m) (hm : m ≤ 600000000) :
    Calls Tryz.prog 28 #[.pointer (some ⟨B, 0, none⟩)] w fun e w' => ∃ x : Nat, x < 18446744073709551616 ∧ e = .returned (.float .f64 x) ∧ DS B w0 w' a len cap (m + 50) := by
  have HP : Hid _ := fun (_ : Unit) => pick_ds B w0 w a len cap m 9 h (by omega) (by omega) (by omega)
  clear h
  go_enter Tryz.func28, Tryz.ntmps28
  go_wp2_with fail
  refine (HP.out ()).mono ?_
  rintro e w1 ⟨x, hx0, hx1, rfl, hd1⟩
  have H1 : Hid _ := fun (_ : Unit) => hd1
  clear HP hd1
  have hx : x = 0 ∨ x = 1 ∨ x = 2 ∨ x = 3 ∨ x = 4 ∨ x = 5 ∨ x = 6 ∨ x = 7 ∨ x = 8 := by omega
  clear hx0 hx1
  rcases hx with rfl | rfl | rfl | rfl | rfl | rfl | rfl | rfl | rfl
  · go_wp2_with fail
    refine (bits_ds B w0 w1 a len cap _ (H1.out ()) (by omega)).mono ?_
    rintro e w2 ⟨v, hv, rfl, hd2⟩
    have H2 : Hid _ := fun (_ : Unit) => hd2
    clear hv hd2
    go_wp2_with fail
    refine (specFrom_any v w2).mono ?_
    rintro e w3 ⟨b, hb, rfl, k, rfl⟩
    have HB : Hid _ := hb.1
    clear hb
    go_wp2
    go_ret
    exact ⟨b, HB.out, rfl, ((H2.out ()).drewN k).mono (by omega)⟩
  · go_wp2_with fail
    refine (pick_ds B w0 w1 a len cap _ 1000 (H1.out ()) (by omega) (by omega) (by omega)).mono ?_
    rintro e w2 ⟨v, hv0, hv1, rfl, hd2⟩
    have H2 : Hid _ := fun (_ : Unit) => hd2
    clear hd2
    go_wp2_with fail
    refine (pick_ds B w0 w2 a len cap _ 1000 (H2.out ()) (by omega) (by omega) (by omega)).mono ?_
    rintro e w3 ⟨u, hu0, hu1, rfl, hd3⟩
    have H3 : Hid _ := fun (_ : Unit) => hd3
    clear hd3
    obtain ⟨k, hk, hkr, hkf⟩ := whole_rep v hv0 (by omega)
    obtain ⟨l, hl, hlr, hlf⟩ := whole_rep (1 + u) (by omega) (by omega)
    obtain ⟨r, hr, hrl⟩ := div_rep false false k l 0 0 hkr hlr (by omega)
    have hrun := run_valid (P := Tryz.prog) .quo 23 _ _ _ hr
    have HRL : Hid _ := hrl
    clear hr hrl hkr hlr hk hl
    go_wp2
    go_ret
    exact ⟨r, HRL.out, rfl, (H3.out ()).mono (by omega)⟩
  · go_wp2_with fail
    refine (pick_ds B w0 w1 a len cap _ 2048 (H1.out ()) (by omega) (by omega) (by omega)).mono ?_
    rintro e w2 ⟨v, hv0, hv1, rfl, hd2⟩
    have H2 : Hid _ := fun (_ : Unit) => hd2
    clear hd2
    go_wp2_with fail
    refine (pick_ds B w0 w2 a len cap _ 5 (H2.out ()) (by omega) (by omega) (by omega)).mono ?_
    rintro e w3 ⟨u, hu0, hu1, rfl, hd3⟩
    have H3 : Hid _ := fun (_ : Unit) => hd3
    clear hd3
    go_wp2_with fail
    refine (specFrom_any _ w3).mono ?_
    rintro e w4 ⟨b, hb, rfl, k, rfl⟩
    have HB : Hid _ := hb.1
    clear hb
    go_wp2
    go_ret
    exact ⟨b, HB.out, rfl, ((H3.out ()).drewN k).mono (by omega)⟩
  · go_wp2_with fail
    refine (bits_ds B w0 w1 a len cap _ (H1.out ()) (by omega)).mono ?_
    rintro e w2 ⟨v, hv, rfl, hd2⟩
    have H2 : Hid _ := fun (_ : Unit) => hd2
    clear hv hd2
    go_wp2_with fail
    refine (pick_ds B w0 w2 a len cap _ 52 (H2.out ()) (by omega) (by omega) (by omega)).mono ?_
    rintro e w3 ⟨u, hu0, hu1, rfl, hd3⟩
    have H3 : Hid _ := fun (_ : Unit) => hd3
    clear hd3
    go_wp2_with fail
    refine (specFrom_any _ w3).mono ?_
    rintro e w4 ⟨b, hb, rfl, k, rfl⟩
    have HB : Hid _ := hb.1
    clear hb
    go_wp2
    go_ret
    exact ⟨b, HB.out, rfl, ((H3.out ()).drewN k).mono (by omega)⟩
  · go_wp2_with fail
    refine (pick_ds B w0 w1 a len cap _ 100000 (H1.out ()) (by omega) (by omega) (by omega)).mono ?_
    rintro e w2 ⟨v, hv0, hv1, rfl, hd2⟩
    have H2 : Hid _ := fun (_ : Unit) => hd2
    clear hd2
    obtain ⟨k, hk, hkr, hkf⟩ := whole_rep v hv0 (by omega)
    obtain ⟨r, hr, hrl⟩ := div_rep false false k 100 0 0 hkr (rep_whole 100 (by omega)) (by omega)
    rw [← bits_100] at hr
    have hrun := run_valid (P := Tryz.prog) .quo 23 _ _ _ hr
    have HRL : Hid _ := hrl
    clear hr hrl hkr hk
    go_wp2
    go_ret
    exact ⟨r, HRL.out, rfl, (H2.out ()).mono (by omega)⟩
  · go_wp2_with fail
    refine (bits_ds B w0 w1 a len cap _ (H1.out ()) (by omega)).mono ?_
    rintro e w2 ⟨v, hv, rfl, hd2⟩
    have H2 : Hid _ := fun (_ : Unit) => hd2
    have hfo := floatOf_is v
    have HWL : Hid (wordI v < 18446744073709551616) := fw_word _ _ _
    clear hv hd2
    generalize wordI v = W at *
    go_wp2
    go_ret
    exact ⟨W, HWL.out, rfl, (H2.out ()).mono (by omega)⟩
  · obtain ⟨b, hbn, hbl, hrn⟩ := run_nan (P := Tryz.prog) 23 w1
    have hr1 := run_valid (P := Tryz.prog) .quo 23 4607182418800017408 0 (iw false) (one_by_zero false)
    have hr2 := run_valid (P := Tryz.prog) .quo 23 13830554455654793216 0 (iw true) minus_one_by_zero
    have hr3 := fun w => run_neg 0 w
    have HIL : Hid (iw false < 18446744073709551616 ∧ iw true < 18446744073709551616 ∧ Op.negFloat .f64 0 < 18446744073709551616) := ⟨by decide, by decide, by decide⟩
    have HBL : Hid (b < 18446744073709551616) := hbl
    have HB : Hid _ := fun (O : Obj) => (H1.out ()).below (((Below.refl _ _).drew).alloc (Nat.le_refl _) O)
    have hB := (H1.out ()).fresh
    clear hbn hbl
    generalize iw false = I1 at *
    generalize iw true = I2 at *
    generalize Op.negFloat .f64 0 = I3 at *
    go_wp2_with fail
    refine (pick_ds B _ _ a len cap _ 20 (HB.out _).self (by omega) (by omega) (by omega)).mono ?_
    rintro e w2 ⟨y, hy0, hy1, rfl, hd2⟩
    obtain ⟨n, rfl⟩ := Int.eq_ofNat_of_zero_le hy0
    have hn : n < 20 := by omega
    obtain ⟨f, hf, hfl⟩ : ∃ f, w2.cell? ⟨w1.heap.size, n, none⟩ = some (.float .f64 f) ∧ f < 18446744073709551616 := by
      obtain ⟨f, h1, h2⟩ := floats_at [0, I3, I1, I2, b, 4936209963552724370, 4950912855330343670, 1, 4503599627370496, 9218868437227405311, 4845873199050653696, 4890909195324358656, 14114281232179134464, 4890909195324358655, 4591870180066957722, 4599075939470750515, 4907451598986591450, 4921056587992461136, 4517329193108106637, 4518273666404680566] (by
        obtain ⟨i1, i2, i3⟩ := HIL.out
        have i4 := HBL.out
        intro f hf
        simp only [List.mem_cons, List.not_mem_nil, or_false] at hf
        rcases hf with rfl | rfl | rfl | rfl | rfl | rfl | rfl | rfl | rfl | rfl | rfl | rfl | rfl | rfl | rfl | rfl | rfl | rfl | rfl | rfl <;> first | assumption | omega) n hn
      refine ⟨f, ?_, h2⟩
      rw [hd2.cell ⟨w1.heap.size, n, none⟩ (by simp) hB]
      exact (World.cell?_alloc_mark (w := w1.drew) ..).trans h1
    have H2 : Hid _ := fun (_ : Unit) => (HB.out _).join hd2
    have HFL : Hid _ := hfl
    have HNL : Hid _ := neg_lt f hfl
    have hrn2 := fun w => run_neg f w
    clear hd2 HB hfl hr1 hr2 hr3 hrn hy0
    generalize Op.negFloat .f64 f = g at *
    go_wp2_with fail
    refine (pick_ds B w0 w2 a len cap _ 3 (H2.out ()) (by omega) (by omega) (by omega)).mono ?_
    rintro e w3 ⟨u, hu0, hu1, rfl, hd3⟩
    have H3 : Hid _ := fun (_ : Unit) => hd3
    clear hd3
    by_cases hu : u = 0
    · subst hu
      go_wp2
      go_ret
      exact ⟨g, HNL.out, rfl, (H3.out ()).mono (by omega)⟩
    · have hu' : (u == 0) = false := beq_eq_false_iff_ne.2 hu
      go_wp2
      go_ret
      exact ⟨f, HFL.out, rfl, (H3.out ()).mono (by omega)⟩
  · go_wp2_with fail
    refine (pick_ds B w0 w1 a len cap _ 17 (H1.out ()) (by omega) (by omega) (by omega)).mono ?_
    rintro e w2 ⟨v, hv0, hv1, rfl, hd2⟩
    have H2 : Hid _ := fun (_ : Unit) => hd2
    clear hd2
    obtain ⟨k, hk⟩ : ∃ k : Nat, 1 + v = (k : Int) := ⟨(1 + v).toNat, by omega⟩
    have hk1 : 1 ≤ k := by omega
    have hk2 : k ≤ 17 := by omega
    go_wp2_with fail
    refine (l7digits_ds B w0 w2 a len cap _ k (H2.out ()) (by omega) hk1 (by omega)).mono ?_
    rintro e w3 ⟨s, hs, hg, rfl, hd3⟩
    have H3 : Hid _ := fun (_ : Unit) => And.intro hg hd3
    clear hg hd3
    go_wp2_with fail
    refine (pick_ds B w0 w3 a len cap _ 60 (H3.out ()).2 (by omega) (by omega) (by omega)).mono ?_
    rintro e w4 ⟨u, hu0, hu1, rfl, hd4⟩
    have H4 : Hid _ := fun (_ : Unit) => hd4
    clear hd4
    go_wp2_with fail
    refine (l4decimal_any s _ w4 (by omega) (H3.out ()).1 (by omega) (by omega)).mono ?_
    rintro e w5 ⟨rfl, hb5⟩
    have H5 : Hid _ := fun (_ : Unit) => (H4.out ()).below hb5
    have HDL : Hid _ := decW_lt (valN 10 s.data.toList) (u - 40)
    clear hb5
    generalize decW 10 (valN 10 s.data.toList) (u - 40) = Z at *
    go_wp2
    go_ret
    exact ⟨Z, HDL.out, rfl, (H5.out ()).mono (by omega)⟩
  · go_wp2_with fail
    refine (pick_ds B w0 w1 a len cap _ 4096 (H1.out ()) (by omega) (by omega) (by omega)).mono ?_
    rintro e w2 ⟨v, hv0, hv1, rfl, hd2⟩
    have H2 : Hid _ := fun (_ : Unit) => hd2
    clear hd2
    obtain ⟨k, hk, hkr, hkf⟩ := whole_rep v hv0 (by omega)
    have hneg := neg_rep false k 0 hkr
    have hmul := mul_rep true k 0 hkr (-3) (by omega) (by omega)
    rw [← bits_eighth] at hmul
    have hrun := run_valid (P := Tryz.prog) .mul 23 _ _ _ hmul
    have hrn := fun w => run_neg (fw false k 0) w
    rw [hneg] at hrn
    have HFW : Hid (fw true k (0 + -3) < 18446744073709551616) := fw_word _ _ _
    have e3 : (!false) = true := rfl
    rw [e3] at hrn
    clear hmul hkr hk hneg
    generalize fw true k (0 + -3) = Z at *
    generalize fw true k 0 = Y at *
    go_wp2
    go_ret
    exact ⟨Z, HFW.out, rfl, (H2.out ()).mono (by omega)⟩
end Go.Proofs.YtpmccbkhkaoccaaGreatDoor

/- Drawn of the specification. -/
namespace Go.Proofs.YtpmccbkhkaoccaaGreatDoor
open Go.ChangeShapes Go.WideShapes Go.RowKit

set_option maxHeartbeats 400000 in
theorem drawn_any (w : World) (a : Option Addr) (len cap : Nat) (hk : Code w.heap.size w a len) :
    Calls Tryz.prog 7 #[.slice a len cap] w fun e w' => ∃ x : Nat, x < 18446744073709551616 ∧ e = .returned (.float .f64 x) ∧ Below w.heap.size w w' := by
  have HK : Hid _ := fun T => DS.start w a len cap T hk
  clear hk
  go_enter Tryz.func7, Tryz.ntmps7
  go_wp2_with fail
  refine (flt_ds w.heap.size w _ a len cap 0 (HK.out _) (by omega)).mono ?_
  rintro e w1 ⟨r, hr, rfl, hd⟩
  have H1 : Hid _ := fun (_ : Unit) => hd
  have HR : Hid (r < 18446744073709551616) := hr
  clear hd hr HK
  go_wp2
  go_ret
  exact ⟨r, HR.out, rfl, (H1.out ()).done⟩
end Go.Proofs.YtpmccbkhkaoccaaGreatDoor

/- Floats held against each other, as the laws over drawn inputs do it. -/
namespace Go.Proofs.YtpmccbkhkaoccaaGreatDoor
open Go.ChangeShapes Go.WideShapes Go.RowKit
open Ieee (double)

set_option maxHeartbeats 400000 in
theorem wflt_nan (x y : Nat) (hx : IsNan x) (hy : IsNan y) (w : World) :
    Calls Tryz.prog 14 #[.float .f64 x, .float .f64 y] w fun e w' => e = .returned (.bool true) ∧ w' = w := by
  have h1 : (FloatKind.f64.format.order x x != some .eq) = true := nan_neq x hx
  have h2 : (FloatKind.f64.format.order y y != some .eq) = true := nan_neq y hy
  go_enter Tryz.func14, Tryz.ntmps14
  go_wp2
  go_ret
  exact ⟨rfl, rfl⟩
set_option maxHeartbeats 400000 in
theorem wflt_some (x : Nat) (h1 : FloatKind.f64.format.order x x = some .eq) (h2 : FloatKind.f64.format.order x 0 = some .lt ∨ FloatKind.f64.format.order x 0 = some .gt) (w : World) :
    Calls Tryz.prog 14 #[.float .f64 x, .float .f64 x] w fun e w' => e = .returned (.bool true) ∧ w' = w := by
  rcases h2 with h2 | h2
  all_goals
    go_enter Tryz.func14, Tryz.ntmps14
    go_wp2
    go_ret
    exact ⟨rfl, rfl⟩
set_option maxHeartbeats 400000 in
theorem wflt_zero (s : Bool) (w : World) :
    Calls Tryz.prog 14 #[.float .f64 (signBit s), .float .f64 (signBit s)] w fun e w' => e = .returned (.bool true) ∧ w' = w := by
  have hn : FloatKind.f64.format.order (signBit s) (signBit s) = some .eq := by
    have := order_self_fw s 0 (-1074) canon_zero
    rw [fw_zero] at this
    exact this
  have hz : FloatKind.f64.format.order (signBit s) 0 = some .eq := ord_zeros s
  have hd := run_valid (P := Tryz.prog) .quo 23 _ _ _ (one_by_zero s)
  have hi : FloatKind.f64.format.order (iw s) (iw s) = some .eq := order_self_iw s
  generalize iw s = I at *
  generalize signBit s = Z at *
  go_enter Tryz.func14, Tryz.ntmps14
  go_wp2
  go_ret
  exact ⟨rfl, rfl⟩
/-- One float is the same as itself. -/
theorem wflt_self (x : Nat) (hx : x < 18446744073709551616) (w : World) :
    Calls Tryz.prog 14 #[.float .f64 x, .float .f64 x] w fun e w' => e = .returned (.bool true) ∧ w' = w := by
  rcases float_cases x hx with h | ⟨s, rfl⟩ | ⟨s, n, p, hc, rfl⟩
  · exact wflt_nan x x h h w
  · refine wflt_some (iw s) (order_self_iw s) ?_ w
    have := ord_inf_zero s
    cases s
    · exact .inr this
    · exact .inl this
  · by_cases h0 : n = 0
    · subst h0; rw [fw_zero]; exact wflt_zero s w
    · refine wflt_some _ (order_self_fw s n p hc) ?_ w
      have := ord_zero s n p (canon_rep n p hc) (by omega)
      cases s
      · exact .inr this
      · exact .inl this
end Go.Proofs.YtpmccbkhkaoccaaGreatDoor

/- A text that is read as a float, or as another one, as the laws ask it. -/
namespace Go.Proofs.YtpmccbkhkaoccaaGreatDoor
open Go.ChangeShapes Go.WideShapes Go.RowKit
open Ieee (double)

attribute [local go_sem] run_store_float

theorem wflt_one {fl : Nat → Prop} {x y : Nat} (h : fl = IsNan ∨ fl = (· = x)) (hx : fl x) (hy : fl y) (hlx : x < 18446744073709551616) (w : World) :
    Calls Tryz.prog 14 #[.float .f64 y, .float .f64 x] w fun e w' => e = .returned (.bool true) ∧ w' = w := by
  rcases h with rfl | rfl
  · exact wflt_nan y x hy hx w
  · have h2 : y = x := hy
    rw [h2]
    exact wflt_self x hlx w
set_option maxHeartbeats 400000 in
/-- What is read as a float is found to be so. -/
theorem wRead_yes (s : ByteArray) (x : Nat) (hx : x < 18446744073709551616) (fl : Nat → Prop) (hA : ReadA s true 0 fl) (hfx : fl x) (hfl : fl = IsNan ∨ fl = (· = x)) (w : World) :
    Calls Tryz.prog 17 #[.string s, .float .f64 x] w fun e w' => e = .returned (.bool true) ∧ Below w.heap.size w w' := by
  have HR : Hid _ := fun (_ : Unit) => implRead_of s w (.inr fun ok pl fl h => (readA_one h hA).1)
  have HQ : Hid _ := fun (_ : Unit) => And.intro hA (And.intro hfx (And.intro hfl hx))
  clear hA hfx hfl hx
  go_enter Tryz.func17, Tryz.ntmps17
  go_wp2_with fail
  refine (HR.out ()).mono ?_
  rintro e w1 ⟨ok, pl, fl', y, hr, hy, _, rfl, hb⟩
  obtain ⟨h1, h2, h3, h4⟩ := HQ.out ()
  obtain ⟨rfl, rfl, rfl⟩ := readA_one hr h1
  have HB : Hid (Below w.heap.size w w1) := hb
  have HW : Hid _ := fun w => wflt_one h3 h2 hy h4 w
  clear hb HR HQ h1 h2 h3 h4 hr hy
  go_wp2_with fail
  refine (HW.out _).mono ?_
  rintro e w2 ⟨rfl, rfl⟩
  go_wp2
  go_ret
  exact ⟨rfl, HB.out.alloc HB.out.size _⟩
set_option maxHeartbeats 400000 in
/-- What is read as another number is found not to be so. -/
theorem wRead_no (s : ByteArray) (x v : Nat) (hA : ReadA s true 0 (· = v)) (h1 : FloatKind.f64.format.order x x = some .eq) (h2 : FloatKind.f64.format.order v v = some .eq) (h3 : (FloatKind.f64.format.order v x == some .eq) = false) (w : World) :
    Calls Tryz.prog 17 #[.string s, .float .f64 x] w fun e w' => e = .returned (.bool false) ∧ Below w.heap.size w w' := by
  have HR : Hid _ := fun (_ : Unit) => implRead_of s w (.inr fun ok pl fl h => (readA_one h hA).1)
  have HQ : Hid _ := fun (_ : Unit) => hA
  have HW : Hid (∀ w, Calls Tryz.prog 14 #[.float .f64 v, .float .f64 x] w fun e w' => e = .returned (.bool false) ∧ w' = w) := fun w => by
    go_enter Tryz.func14, Tryz.ntmps14
    go_wp2
    go_ret
    exact ⟨rfl, rfl⟩
  clear hA h1 h2 h3
  go_enter Tryz.func17, Tryz.ntmps17
  go_wp2_with fail
  refine (HR.out ()).mono ?_
  rintro e w1 ⟨ok, pl, fl', y, hr, hy, _, rfl, hb⟩
  obtain ⟨rfl, rfl, rfl⟩ := readA_one hr (HQ.out ())
  cases hy
  have HB : Hid (Below w.heap.size w w1) := hb
  clear hb HR HQ hr
  go_wp2_with fail
  refine (HW.out _).mono ?_
  rintro e w2 ⟨rfl, rfl⟩
  go_wp2
  go_ret
  exact ⟨rfl, HB.out.alloc HB.out.size _⟩
end Go.Proofs.YtpmccbkhkaoccaaGreatDoor

/- The bytes of a slice that came in. -/
namespace Go.Proofs.YtpmccbkhkaoccaaGreatDoor
open Go.ChangeShapes Go.WideShapes Go.RowKit

/-- The bytes of a slice that came in. -/
def Bts (w : World) (a : Option Addr) (len : Nat) : Prop := len ≤ 1048576 ∧ ∀ i : Nat, i < len → ∃ x : Addr, a = some x ∧ ∃ z : Int, 0 ≤ z ∧ z ≤ 255 ∧ w.cell? (x.add i) = some (.int .u8 z)
theorem Bts.below {w w' : World} {a : Option Addr} {len : Nat} (h : Bts w a len) (hb : Below w.heap.size w w') : Bts w' a len :=
  ⟨h.1, fun i hi => by
    obtain ⟨x, hx, z, h0, h1, hc⟩ := h.2 i hi
    exact ⟨x, hx, z, h0, h1, by rw [hb.cell (cell_lt hc)]; exact hc⟩⟩
theorem Bts.code {w : World} {a : Option Addr} {len : Nat} (h : Bts w a len) : Code w.heap.size w a len :=
  ⟨h.1, fun i hi => by
    obtain ⟨x, hx, z, h0, h1, hc⟩ := h.2 i hi
    have hl := cell_lt hc
    refine ⟨x, hx, fun e => ?_, z, h0, h1, hc⟩
    have : (x.add i).block = x.block := by unfold Addr.add; split <;> rfl
    omega⟩
/-- A slice of bytes that came in: nil, or it leads to a row of cells that hold bytes. -/
def IsRow (w : World) (a : Option Addr) (len cap : Nat) (zs : List Int) : Prop :=
  (a = none ∧ len = 0 ∧ cap = 0 ∧ zs = []) ∨
  ∃ x, a = some x ∧ len ≤ cap ∧ cap ≤ maxLen ∧ zs.length = cap ∧ (∀ i, i < zs.length → w.cell? (x.add i) = some (.int .u8 (zs.getD i 0))) ∧ ∀ n ∈ zs, (Lit.int .u8 n).wf = true
theorem IsRow.bts {w : World} {a : Option Addr} {len cap : Nat} {zs : List Int} (h : IsRow w a len cap zs) (hl : len ≤ 1048576) : Bts w a len := by
  refine ⟨hl, fun i hi => ?_⟩
  rcases h with ⟨_, rfl, _, _⟩ | ⟨x, rfl, hlc, _, hz, hc, hw⟩
  · omega
  · have hi' : i < zs.length := by omega
    have hm : zs.getD i 0 ∈ zs := by
      have e : zs.getD i 0 = zs[i] := by simp [List.getD, List.getElem?_eq_getElem hi']
      rw [e]; exact List.getElem_mem hi'
    have hb := bounds_u8 (hw _ hm)
    exact ⟨x, rfl, zs.getD i 0, hb.1, hb.2, hc i hi'⟩
theorem IsRow.len {w : World} {a : Option Addr} {len cap : Nat} {zs : List Int} (h : IsRow w a len cap zs) : len ≤ maxLen := by
  rcases h with ⟨_, rfl, _, _⟩ | ⟨x, _, hlc, hm, _, _, _⟩
  · exact Nat.zero_le _
  · omega
end Go.Proofs.YtpmccbkhkaoccaaGreatDoor

