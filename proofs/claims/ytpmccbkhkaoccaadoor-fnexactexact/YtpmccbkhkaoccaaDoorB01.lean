import Derived.Test.YtpmccbkhkaoccaaDoorA20
import Derived.Test.YtpmccbkhkaoccaaDoorA22
import Derived.Test.YtpmccbkhkaoccaaDoorA23
import Derived.Test.YtpmccbkhkaoccaaDoorA24
import Derived.Test.YtpmccbkhkaoccaaDoorA29
import Derived.Test.YtpmccbkhkaoccaaDoorA36
import Derived.Deep.RegionHeld3
/- Exact of the specification. -/
namespace Go.Proofs.YtpmccbkhkaoccaaDoor
open Go.ChangeShapes Go.WideShapes Go.RowKit
open Ieee (double)


set_option maxHeartbeats 1000000 in
theorem exact_nan (x : Nat) (hx : IsNan x) (w : World) :
    Calls Tryd.prog 7 #[.float .f64 x] w fun e w' => e = .returned (.string ⟨#[110, 97, 110]⟩) ∧ Below w.heap.size w w' := by
  have H1 : Hid _ := fun w => l5size_nan x hx w
  have H2 : Hid _ := fun w => l5odd_nan x hx w
  clear hx
  go_enter Tryd.func7, Tryd.ntmps7
  go_wp2_with fail
  refine (H1.out _).mono ?_
  rintro e w1 ⟨rfl, rfl⟩
  go_wp2_with fail
  refine (H2.out _).mono ?_
  rintro e w1 ⟨rfl, rfl⟩
  go_wp2
  go_ret
  exact ⟨rfl, Below.refl _ _⟩
set_option maxHeartbeats 1000000 in
theorem exact_odd (s : Bool) (r : Nat) (t : ByteArray) (hr : r ≤ 9218868437227405312) (ht : t.size ≤ 10) (hO : ∀ w, Calls Tryd.prog 16 #[.float .f64 r] w fun e w' => e = .returned (.tuple #[.string t, .bool true]) ∧ w' = w) (w : World) :
    Calls Tryd.prog 7 #[.float .f64 (signBit s + r)] w fun e w' => e = .returned (.string (sgnB s ++ t)) ∧ Below w.heap.size w w' := by
  have H1 : Hid _ := fun w => l5size_any s r hr w
  have H2 : Hid _ := hO
  have z3 := sgnB_size s
  generalize sgnB s = S at *
  generalize signBit s + r = X at *
  clear hO hr
  go_enter Tryd.func7, Tryd.ntmps7
  go_wp2_with fail
  refine (H1.out _).mono ?_
  rintro e w1 ⟨rfl, rfl⟩
  go_wp2_with fail
  refine (H2.out _).mono ?_
  rintro e w1 ⟨rfl, rfl⟩
  go_wp2
  go_ret
  exact ⟨rfl, Below.refl _ _⟩
set_option maxHeartbeats 1000000 in
theorem exact_num (s : Bool) (r : Nat) (q : Nat) (E : Int) (hr : r < 9218868437227405312) (hr0 : r ≠ 0) (hX : ∀ w, Calls Tryd.prog 18 #[.float .f64 r] w fun e w' =>
    ∃ ds pow, ExD ds pow q E ∧ ds.size ≤ 1100 ∧ -1100 ≤ pow ∧ pow ≤ 1100 ∧ e = .returned (.agg #[.string ds, .int .i64 pow]) ∧ Below w.heap.size w w') (w : World) :
    Calls Tryd.prog 7 #[.float .f64 (signBit s + r)] w fun e w' => ∃ ds pow, ExD ds pow q E ∧ (sgnB s ++ plainB ds pow).size ≤ 3100 ∧ e = .returned (.string (sgnB s ++ plainB ds pow)) ∧ Below w.heap.size w w' := by
  have H1 : Hid _ := fun w => l5size_any s r (by omega) w
  have H2 : Hid (∀ w, Calls Tryd.prog 16 #[.float .f64 r] w fun e w' => e = .returned (.tuple #[.string ⟨#[48]⟩, .bool false]) ∧ w' = w) := fun w => by
    have := l5odd_num r hr w
    rw [decide_eq_false hr0] at this
    exact this
  have H3 : Hid _ := hX
  have z3 := sgnB_size s
  generalize sgnB s = S at *
  generalize signBit s + r = X at *
  clear hX hr hr0
  go_enter Tryd.func7, Tryd.ntmps7
  go_wp2_with fail
  refine (H1.out _).mono ?_
  rintro e w1 ⟨rfl, rfl⟩
  go_wp2_with fail
  refine (H2.out _).mono ?_
  rintro e w1 ⟨rfl, rfl⟩
  go_wp2_with fail
  refine (H3.out _).mono ?_
  rintro e w2 ⟨ds, pow, hd, hs, hp1, hp2, rfl, hb⟩
  have HD : Hid _ := fun (_ : Unit) => And.intro hd hb
  have HPL : Hid _ := fun w => l5plain_any ds pow hs hp1 hp2 w
  have hsz := plainB_size ds pow hs hp1 hp2
  clear hd hb
  obtain ⟨P, hP⟩ : ∃ P, P = plainB ds pow := ⟨_, rfl⟩
  rw [← hP] at hsz HPL
  have HPE : Hid (P = plainB ds pow) := hP
  clear hP
  go_wp2_with fail
  refine (HPL.out _).mono ?_
  rintro e w3 ⟨rfl, hb3⟩
  have HB3 : Hid (Below _ _ w3) := (HD.out ()).2.trans (hb3.mono (HD.out ()).2.size)
  clear hb3
  go_wp2
  go_ret
  exact ⟨ds, pow, (HD.out ()).1, by rw [← HPE.out, append_size]; omega, by rw [← HPE.out]; rfl, HB3.out⟩
theorem specExact_any (x : Nat) (hx : x < 18446744073709551616) (w : World) :
    Calls Tryd.prog 7 #[.float .f64 x] w fun e w' => ∃ t, exactV x t ∧ t.size ≤ 3100 ∧ e = .returned (.string t) ∧ Below w.heap.size w w' := by
  rcases float_cases x hx with h | ⟨s, rfl⟩ | ⟨s, n, p, hc, rfl⟩
  · refine (exact_nan x h w).mono ?_
    rintro e w' ⟨rfl, hb⟩
    exact ⟨_, .inl ⟨h, rfl⟩, by decide, rfl, hb⟩
  · refine (exact_odd s 9218868437227405312 _ (by omega) (by decide) (fun w => l5odd_inf w) w).mono ?_
    rintro e w' ⟨rfl, hb⟩
    exact ⟨_, .inr (.inl ⟨s, rfl, rfl⟩), by cases s <;> decide, rfl, hb⟩
  · by_cases h0 : n = 0
    · subst h0
      rw [fw_zero]
      have := exact_odd s 0 ⟨#[48]⟩ (by omega) (by decide) (fun w => l5odd_num 0 (by omega) w) w
      rw [Nat.add_zero] at this
      refine this.mono ?_
      rintro e w' ⟨rfl, hb⟩
      exact ⟨_, .inr (.inr (.inl ⟨s, rfl, rfl⟩)), by cases s <;> decide, rfl, hb⟩
    · obtain ⟨q, k, hq, hq1, hX⟩ := l5exact_any n p hc (by omega)
      have hfw : fw false n p = rung n p := by rw [fw_canon _ _ _ hc]; exact Nat.zero_add _
      have hfs : fw s n p = signBit s + rung n p := fw_canon _ _ _ hc
      rw [hfw] at hX
      have := exact_num s (rung n p) q (p + k) (rung_lt n p hc) (fun h => h0 (rung_zero n p h)) hX w
      rw [← hfs] at this
      refine this.mono ?_
      rintro e w' ⟨ds, pow, hd, hz, rfl, hb⟩
      exact ⟨_, .inr (.inr (.inr ⟨s, n, p, q, k, ds, pow, hc, by omega, rfl, hq, hq1, hd, rfl⟩)), hz, rfl, hb⟩
end Go.Proofs.YtpmccbkhkaoccaaDoor

/- Exact of the program. -/
namespace Go.Proofs.YtpmccbkhkaoccaaDoor
open Go.ChangeShapes Go.WideShapes Go.RowKit

set_option maxHeartbeats 4000000 in
set_option maxRecDepth 100000 in
theorem implExact_any (x : Nat) (hx : x < 18446744073709551616) (w : World) (hG : WrG w) :
    Calls Tryd.prog 8 #[.float .f64 x] w fun e w' => ∃ t, exactV x t ∧ e = .returned (.string t) ∧ Below w.heap.size w w' := by
  obtain ⟨k, s, m, e, hp⟩ := parts_ex x hx
  obtain ⟨q, rfl, hq, he1, he2⟩ := parts_mant x k s m e hp
  obtain ⟨pl, hpl⟩ : ∃ pl : Nat, (-e).toNat = pl := ⟨_, rfl⟩
  have HP : Hid _ := fun (_ : Unit) => implParts_of x hx k s q e hp w hG.1 hG.2.2.1
  have HS : Hid (∀ ds y, DofR q e ds y → ∃ t, exactV x t ∧ ∀ W, WrG W → Calls Tryd.prog 20 #[.agg #[.int .i64 k, .bool s, .int .i64 (q : Int), .int .i64 e], .iface 44 (.agg #[.string ds, .int .i64 y, .int .i64 (pl : Int)])] W fun r w' => r = .returned (.string t) ∧ Below W.heap.size W w') := fun ds y hd => by
    rw [← hpl]
    exact exact_signed x k s q e hp ds y (by rw [Int.toNat_natCast]; exact hd)
  have HG : Hid (WrG w) := hG
  clear hp hG
  go_enter Tryd.func8, Tryd.ntmps8
  go_wp2_with fail
  refine (HP.out ()).mono ?_
  rintro r W1 ⟨rfl, hb1⟩
  obtain ⟨A, hA⟩ : ∃ A, W1.heap.size = A := ⟨_, rfl⟩
  obtain ⟨W2, hW2⟩ : ∃ W2, W1.alloc (.cells #[.int .i64 k, .bool s, .int .i64 (q : Int), .int .i64 e] 36) = W2 := ⟨_, rfl⟩
  have HX2 : Hid (Box4 w A k s (q : Int) e W2) := by rw [← hW2, ← hA]; exact Box4.new hb1
  have HD : Hid (∀ W, Box4 w A k s (q : Int) e W → Calls Tryd.prog 21 #[.agg #[.int .i64 k, .bool s, .int .i64 (q : Int), .int .i64 e]] W fun r w' => ∃ ds y, Hid (DofR q e ds y) ∧ r = .returned (.agg #[.string ds, .int .i64 y]) ∧ Hid (Box4 w A k s (q : Int) e w')) := fun W hW => by
    have hg := HG.out.below hW.1
    refine (decimalOf_any k s q e hq (by omega) (by omega) W hg.2.1 hg.2.2.2).mono ?_
    rintro r w' ⟨ds, y, h1, h2, h3, h4, rfl, hb⟩
    exact ⟨ds, y, ⟨h1, h2, h3, h4⟩, rfl, hW.next hb⟩
  have HPL : Hid (∀ W, Box4 w A k s (q : Int) e W → Calls Tryd.prog 22 #[.agg #[.int .i64 k, .bool s, .int .i64 (q : Int), .int .i64 e]] W fun r w' => r = .returned (.int .i64 (pl : Int)) ∧ Hid (Box4 w A k s (q : Int) e w')) := fun W hW => by
    refine (placesOf_any k s q e (by omega) (by omega) W).mono ?_
    rintro r w' ⟨rfl, rfl⟩
    exact ⟨by rw [hpl], hW.next ((Below.refl _ _).alloc (Nat.le_refl _) _)⟩
  have hc0 := HX2.out.2.1
  have hc1 := HX2.out.2.2.1
  have hc2 := HX2.out.2.2.2.1
  have hc3 := HX2.out.2.2.2.2
  clear hb1 hpl
  go_wp2
  refine wp_region_held_drew (S := fun X => Box4 w A k s (q : Int) e X) (by kernel_rfl) HX2.out.drew (fun hHeld => ?_)
  refine wpAnyH_take (i := 0) (oi := _) (v := ?v0) rfl (by kernel_rfl) (by kernel_rfl) (by kernel_rfl) (fun _ _ _ h => h) (Or.inl ⟨by rfl, ?y0⟩) (by assumption) ?_
  case y0 => (intro w' hSw; obtain ⟨_, y0, y1, y2, y3⟩ := hSw; go_simp; first | done | with_reducible rfl)
  try simp only [Act.put]
  try simp only [List.setIfInBounds_toArray]
  try simp only [List.set_cons_succ]
  try simp only [List.set_cons_zero]
  refine wpAnyH_take (i := 1) (oi := _) (v := ?v1) rfl (by kernel_rfl) (by kernel_rfl) (by kernel_rfl) (fun _ _ _ h => h) (Or.inl ⟨by rfl, ?y1⟩) (by assumption) ?_
  case y1 => (intro w' hSw; obtain ⟨_, y0, y1, y2, y3⟩ := hSw; go_simp; first | done | with_reducible rfl)
  try simp only [Act.put]
  try simp only [List.setIfInBounds_toArray]
  try simp only [List.set_cons_succ]
  try simp only [List.set_cons_zero]
  refine wpAnyH_take (i := 3) (oi := _) (v := ?v3) rfl (by kernel_rfl) (by kernel_rfl) (by kernel_rfl) (fun _ _ _ h => h) (Or.inl ⟨by rfl, ?y3⟩) (by assumption) ?_
  case y3 => (intro w' hSw; obtain ⟨_, y0, y1, y2, y3⟩ := hSw; go_simp; first | done | with_reducible rfl)
  try simp only [Act.put]
  try simp only [List.setIfInBounds_toArray]
  try simp only [List.set_cons_succ]
  try simp only [List.set_cons_zero]
  have HXd : Hid (Box4 w A k s (q : Int) e W2.drew) := HX2.out.drew
  generalize W2.drew = W3 at *
  refine wpAnyH_ready (rs := [2]) (by kernel_rfl) (by simp) ?_
  refine AllReadyH.cons (o := _) rfl (fun K hK => ?_) AllReadyH.nil
  go_simp
  refine (HD.out _ HXd.out).mono ?_
  rintro r W4 ⟨ds, y, HDR, rfl, HX4⟩
  dsimp only
  refine hK.out _ _ HX4.out (fun hHeld => ?_)
  clear hK K
  try simp only [Act.put]
  try simp only [List.setIfInBounds_toArray]
  try simp only [List.set_cons_succ]
  try simp only [List.set_cons_zero]
  refine wpAnyH_ready (rs := [4]) (by kernel_rfl) (by simp) ?_
  refine AllReadyH.cons (o := _) rfl (fun K hK => ?_) AllReadyH.nil
  go_simp
  refine (HPL.out _ HX4.out).mono ?_
  rintro r W5 ⟨rfl, HX5⟩
  dsimp only
  refine hK.out _ _ HX5.out (fun hHeld => ?_)
  clear hK K
  try simp only [Act.put]
  try simp only [List.setIfInBounds_toArray]
  try simp only [List.set_cons_succ]
  try simp only [List.set_cons_zero]
  refine wpAnyH_take (i := 5) (oi := _) (v := ?v5) rfl (by kernel_rfl) (by kernel_rfl) (by kernel_rfl) (fun _ _ _ h => h) (Or.inl ⟨by rfl, ?y5⟩) (by assumption) ?_
  case y5 => (intro w' hSw; go_simp; first | done | with_reducible rfl)
  try simp only [Act.put]
  try simp only [List.setIfInBounds_toArray]
  try simp only [List.set_cons_succ]
  try simp only [List.set_cons_zero]
  refine wpAnyH_take (i := 6) (oi := _) (v := ?v6) rfl (by kernel_rfl) (by kernel_rfl) (by kernel_rfl) (fun _ _ _ h => h) (Or.inl ⟨by rfl, ?y6⟩) (by assumption) ?_
  case y6 => (intro w' hSw; go_simp; first | done | with_reducible rfl)
  try simp only [Act.put]
  try simp only [List.setIfInBounds_toArray]
  try simp only [List.set_cons_succ]
  try simp only [List.set_cons_zero]
  obtain ⟨t, ht, hs⟩ := HS.out ds y HDR.out
  have HV : Hid (exactV x t) := ht
  have HSG : Hid _ := hs
  clear ht hs
  refine wpAnyH_ready (rs := [7]) (by kernel_rfl) (by simp) ?_
  refine AllReadyH.cons (o := _) rfl (fun K hK => ?_) AllReadyH.nil
  go_simp
  refine (HSG.out _ (HG.out.below HX5.out.1)).mono ?_
  rintro r W6 ⟨rfl, hb6⟩
  have HX6 : Hid (Box4 w A k s (q : Int) e W6) := HX5.out.next hb6
  clear hb6
  dsimp only
  refine hK.out _ _ HX6.out (fun hHeld => ?_)
  clear hK K
  try simp only [Act.put]
  try simp only [List.setIfInBounds_toArray]
  try simp only [List.set_cons_succ]
  try simp only [List.set_cons_zero]
  refine wpAnyH_ready (rs := [8]) (by kernel_rfl) (by simp) ?_
  refine AllReadyH.cons (o := _) rfl (fun K hK => ?_) AllReadyH.nil
  go_simp
  refine hK.out _ _ HX6.out (fun hHeld => ?_)
  clear hK K
  refine wpAnyH_done (by kernel_rfl) ?_ _
  go_wp2
  go_ret
  exact ⟨t, HV.out, rfl, HX6.out.1⟩
end Go.Proofs.YtpmccbkhkaoccaaDoor

/- The exact law of Exact. -/
namespace Go.Proofs.YtpmccbkhkaoccaaDoor
open Go.ChangeShapes Go.WideShapes Go.RowKit

set_option maxHeartbeats 400000 in
theorem lawExact_any (x : Nat) (hx : x < 18446744073709551616) (w : World) (hG : WrG w) :
    Calls Tryd.prog 3 #[.float .f64 x] w fun e w' => e = .returned (.bool true) ∧ Below w.heap.size w w' := by
  have H1 : Hid _ := fun (_ : Unit) => specExact_any x hx w
  have H2 : Hid (∀ w', Below w.heap.size w w' → Calls Tryd.prog 8 #[.float .f64 x] w' fun e w'' => ∃ t, exactV x t ∧ e = .returned (.string t) ∧ Below w'.heap.size w' w'') := fun w' hb => implExact_any x hx w' (hG.below hb)
  clear hG
  go_enter Tryd.func3, Tryd.ntmps3
  go_wp2_with fail
  refine (H1.out ()).mono ?_
  rintro e w1 ⟨t, ht, _, rfl, hb1⟩
  have HT : Hid (exactV x t) := ht
  have HB1 : Hid (Below w.heap.size w w1) := hb1
  clear H1 ht hb1
  go_wp2_with fail
  refine (H2.out _ HB1.out).mono ?_
  rintro e w2 ⟨t', ht', rfl, hb2⟩
  obtain rfl := exactV_one x t t' HT.out ht'
  have HB2 : Hid (Below w.heap.size w w2) := HB1.out.trans (hb2.mono HB1.out.size)
  clear H2 HT HB1 hb2 ht'
  go_wp2
  go_ret
  exact ⟨rfl, HB2.out⟩
end Go.Proofs.YtpmccbkhkaoccaaDoor

