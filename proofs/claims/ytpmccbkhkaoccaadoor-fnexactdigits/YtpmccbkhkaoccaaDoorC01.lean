import Derived.Test.YtpmccbkhkaoccaaDoorA26
import Derived.Test.YtpmccbkhkaoccaaDoorA27
import Derived.Test.YtpmccbkhkaoccaaDoorA28
import Derived.Test.YtpmccbkhkaoccaaDoorA20
import Derived.Deep.RegionWith
/- l5cut of the specification: with 1 more in the last place. -/
namespace Go.Proofs.YtpmccbkhkaoccaaDoor
open Go.ChangeShapes Go.WideShapes Go.RowKit

set_option maxHeartbeats 4000000 in
set_option maxRecDepth 100000 in
theorem l5cut_walk (ds P : ByteArray) (p : Int) (n : Nat) (Z : ByteArray) (C : Array Value) (zi : Int) (w : World) (hs' : (ds.size : Int) ≤ 1100) (hn' : (n : Int) ≤ 1600) (hz0 : (Z.size : Int) ≤ 1600) (hp1 : -100000 ≤ p) (hp2 : p ≤ 100000)
    (hcase : (n < ds.size ∧ (ds.extract 0 n).size = n ∧ zi = 0 ∧ P = ds.extract 0 n ++ Z) ∨ ((ds.size : Int) ≤ (n : Int) ∧ zi = (n : Int) - (ds.size : Int) ∧ P = ds ++ Z))
    (HZ0 : ∀ w, Calls Tryd.prog 24 #[.int .i64 zi] w fun e w' => e = .returned (.string Z) ∧ w' = w.alloc (.cells C 5))
    (HU0 : ∀ w, Calls Tryd.prog 45 #[.string P] w fun e w' => ∃ t more, UpD P t more ∧ e = .returned (.tuple #[.string t, .bool more]) ∧ Below w.heap.size w w') :
    Calls Tryd.prog 25 #[.agg #[.string ds, .int .i64 p], .int .i64 (n : Int), .bool true] w fun e w' => ∃ t more, UpD P t more ∧ e = .returned (.agg #[.string t, .int .i64 (p + (if more then 1 else 0))]) ∧ Below w.heap.size w w' := by
  have HZ : Hid _ := HZ0
  have HU : Hid _ := HU0
  clear HZ0 HU0
  rcases hcase with ⟨h, he, rfl, rfl⟩ | ⟨h, rfl, rfl⟩
  all_goals
    go_enter Tryd.func25, Tryd.ntmps25
    go_wp2_with fail
    refine (HZ.out _).mono ?_
    rintro e w1 ⟨rfl, rfl⟩
    go_wp2_with fail
    refine (HU.out _).mono ?_
    rintro e w2 ⟨t, more, hup, rfl, hb⟩
    have HUP : Hid _ := fun (_ : Unit) => hup
    have r0 := (hb.cell (p := ⟨w.heap.size + 1, 0, none⟩) (by simp)).trans (by simp [go_sem] : _ = some (.string ⟨#[]⟩))
    have r1 := (hb.cell (p := ⟨w.heap.size + 1, 1, none⟩) (by simp)).trans (by simp [go_sem] : _ = some (.int .i64 0))
    have g0 := (hb.frozen (p := ⟨w.heap.size + 1, 0, none⟩) (by simp)).trans (by simp [go_sem] : _ = false)
    have g1 := (hb.frozen (p := ⟨w.heap.size + 1, 1, none⟩) (by simp)).trans (by simp [go_sem] : _ = false)
    have o1 := (hb.cell (p := ⟨w.heap.size + 3, 1, none⟩) (by simp)).trans (by simp [go_sem] : _ = some (.int .i64 p))
    obtain ⟨so, o0⟩ : ∃ so, w2.cell? ⟨w.heap.size + 3, 0, none⟩ = some (.string so) := by
      first
        | (refine ⟨ds.extract 0 n ++ Z, (hb.cell (p := ⟨w.heap.size + 3, 0, none⟩) (by simp)).trans ?_⟩; simp [go_sem]; done)
        | (refine ⟨ds ++ Z, (hb.cell (p := ⟨w.heap.size + 3, 0, none⟩) (by simp)).trans ?_⟩; simp [go_sem]; done)
    have q0 := (hb.frozen (p := ⟨w.heap.size + 3, 0, none⟩) (by simp)).trans (by simp [go_sem] : _ = false)
    have q1 := (hb.frozen (p := ⟨w.heap.size + 3, 1, none⟩) (by simp)).trans (by simp [go_sem] : _ = false)
    have HB : Hid (Below w.heap.size w w2) := ((((((Below.refl _ _).alloc (Nat.le_refl _) _).alloc (by simp) _).alloc (by simp; omega) _).alloc (by simp; omega) _)).trans (hb.mono (by simp; omega))
    clear hb hup HU HZ
    cases more
    · go_wp2
      refine bodyPost_ret (v := .agg #[.string t, .int .i64 p]) (by simp [results, Tryd.results25, go_sem, r0, r1]) rfl ⟨t, false, HUP.out (), by simp, (by repeat (first | exact HB.out | with_reducible refine Below.setCell ?_ (by simp <;> omega) _))⟩
    · go_wp2
      refine bodyPost_ret (v := .agg #[.string t, .int .i64 (p + 1)]) (by simp [results, Tryd.results25, go_sem, r0, r1]) rfl ⟨t, true, HUP.out (), by simp, (by repeat (first | exact HB.out | with_reducible refine Below.setCell ?_ (by simp <;> omega) _))⟩
theorem l5cut_any (ds : ByteArray) (p : Int) (n : Nat) (up : Bool) (hs : ds.size ≤ 1100) (hg : good 10 ds.data.toList) (hn : n ≤ 1600) (hp1 : -100000 ≤ p) (hp2 : p ≤ 100000) (w : World) :
    Calls Tryd.prog 25 #[.agg #[.string ds, .int .i64 p], .int .i64 (n : Int), .bool up] w fun e w' => ∃ t p', cutV ds p n up t p' ∧ e = .returned (.agg #[.string t, .int .i64 p']) ∧ Below w.heap.size w w' := by
  cases up
  · refine (l5cut_plain ds p n hs hn w).mono ?_
    rintro e w' ⟨rfl, hb⟩
    exact ⟨_, _, .inl ⟨rfl, rfl, rfl⟩, rfl, hb⟩
  · have hz : ((zerosB (n - ds.size)).size : Int) ≤ 1600 := by rw [zerosB_size]; omega
    have hsz := padB_size ds n
    refine (l5cut_walk ds (padB ds n) p n (zerosB (n - ds.size)) _ (((n - ds.size : Nat)) : Int) w (by omega) (by omega) hz hp1 hp2 ?_ (fun w => zeros_int ((n - ds.size : Nat) : Int) (by omega) (by omega) w) (fun w => l5up_any (padB ds n) (by omega) (padB_good ds n hg) w)).mono ?_
    · by_cases h : n < ds.size
      · exact .inl ⟨h, by simp; omega, by omega, by unfold padB; rw [if_pos h]⟩
      · exact .inr ⟨by omega, by omega, by unfold padB; rw [if_neg h]⟩
    · rintro e w' ⟨t, more, hu, rfl, hb⟩
      exact ⟨_, _, .inr ⟨rfl, more, hu, rfl⟩, rfl, hb⟩
end Go.Proofs.YtpmccbkhkaoccaaDoor

/- Digits of the specification: at a number. -/
namespace Go.Proofs.YtpmccbkhkaoccaaDoor
open Go.ChangeShapes Go.WideShapes Go.RowKit
open Ieee (double)

set_option maxHeartbeats 8000000 in
set_option maxRecDepth 100000 in
theorem digits_num (s : Bool) (r : Nat) (q : Nat) (E : Int) (n : Nat) (hn1 : 1 ≤ n) (hn2 : n ≤ 400) (hr : r < 9218868437227405312) (hr0 : r ≠ 0) (hX : ∀ w, Calls Tryd.prog 18 #[.float .f64 r] w fun e w' =>
    ∃ ds pow, ExD ds pow q E ∧ ds.size ≤ 1100 ∧ -1100 ≤ pow ∧ pow ≤ 1100 ∧ e = .returned (.agg #[.string ds, .int .i64 pow]) ∧ Below w.heap.size w w') (w : World) :
    Calls Tryd.prog 9 #[.float .f64 (signBit s + r), .int .i64 (n : Int)] w fun e w' => ∃ ds pow t p', ExD ds pow q E ∧ cutV ds pow n (roundsB ds (n : Int)) t p' ∧ e = .returned (.string (sgnB s ++ sciB (t.extract 0 n) p')) ∧ Below w.heap.size w w' := by
  have H1 : Hid _ := fun w => l5size_any s r (by omega) w
  have H2 : Hid (∀ w, Calls Tryd.prog 16 #[.float .f64 r] w fun e w' => e = .returned (.tuple #[.string ⟨#[48]⟩, .bool false]) ∧ w' = w) := fun w => by
    have := l5odd_num r hr w
    rw [decide_eq_false hr0] at this
    exact this
  have H3 : Hid _ := hX
  have z3 := sgnB_size s
  generalize sgnB s = S at *
  generalize signBit s + r = X at *
  clear hX hr hr0
  go_enter Tryd.func9, Tryd.ntmps9
  go_wp2_with fail
  refine (H1.out _).mono ?_
  rintro e w1 ⟨rfl, rfl⟩
  go_wp2_with fail
  refine (H2.out _).mono ?_
  rintro e w1 ⟨rfl, rfl⟩
  go_wp2_with fail
  refine (H3.out _).mono ?_
  rintro e w2 ⟨ds, pow, hd, hs, hp1, hp2, rfl, hb⟩
  have HD : Hid _ := fun (_ : Unit) => And.intro hd hb
  have HR : Hid _ := fun w => l5rounds_any ds pow (n : Int) (by omega) hd.2.1 w
  have HC : Hid _ := fun up w => l5cut_any ds pow n up hs hd.2.1 (by omega) (by omega) (by omega) w
  obtain ⟨up, hup⟩ : ∃ up, up = roundsB ds (n : Int) := ⟨_, rfl⟩
  rw [← hup] at HR
  have HUPB : Hid (up = roundsB ds (n : Int)) := hup
  clear hup
  clear hd hb H1 H2 H3
  go_wp2_with fail
  go_region_with (first | (go_at_call 26; refine (HR.out _).mono ?_; rintro e w' ⟨rfl, rfl⟩) | (go_at_call 25; refine (HC.out _ _).mono ?_; rintro e w5 ⟨t, p', hc, rfl, hb5⟩; have HC5 : Hid _ := (fun (_ : Unit) => hc); have k0 := (hb5.cell (p := ⟨w2.heap.size, 0, none⟩) (by simp <;> omega)).trans (by simp [go_sem] : _ = some (.string ds)); have k1 := (hb5.cell (p := ⟨w2.heap.size, 1, none⟩) (by simp <;> omega)).trans (by simp [go_sem] : _ = some (.int .i64 pow)); have f0 := (hb5.frozen (p := ⟨w2.heap.size, 0, none⟩) (by simp <;> omega)).trans (by simp [go_sem] : _ = false); have f1 := (hb5.frozen (p := ⟨w2.heap.size, 1, none⟩) (by simp <;> omega)).trans (by simp [go_sem] : _ = false); have hbl : w2.heap.size + 1 ≤ w5.heap.size := (by have h := hb5.size; simp at h; omega); have HB5 : Hid (Below w2.heap.size w2 w5) := (by refine Below.trans ?_ (hb5.mono (by simp <;> omega)); repeat (first | with_reducible exact Below.refl _ _ | with_reducible refine Below.alloc ?_ (by simp <;> omega) _ | with_reducible refine Below.drew ?_ | with_reducible refine below_drewN ?_ _)); clear hc hb5))
  all_goals
    have hts := cut5_size ds pow n _ t p' (HC5.out ())
    have het : (t.extract 0 n).size = n := by simp; omega
    have HSC : Hid _ := fun w => l5science_any (t.extract 0 n) p' (by omega) (by omega) (by omega) (by omega) w
    have hsz := sciB_size (t.extract 0 n) p'
    have hti : (n : Int) ≤ (t.size : Int) := by omega
    obtain ⟨Q, hQ⟩ : ∃ Q, Q = sciB (t.extract 0 n) p' := ⟨_, rfl⟩
    rw [← hQ] at hsz HSC
    have HQ : Hid (Q = sciB (t.extract 0 n) p') := hQ
    clear hQ hts
    go_wp2_with fail
    refine (HSC.out _).mono ?_
    rintro e w6 ⟨rfl, hb6⟩
    have hw2 : w1.heap.size ≤ w2.heap.size := (HD.out ()).2.size
    have HB6 : Hid (Below w1.heap.size w1 w6) := by
      refine Below.trans ?_ (hb6.mono (by simp <;> omega))
      refine Below.setCell (Below.setCell (Below.setCell ?_ (by simp <;> omega) _) (by simp <;> omega) _) (by simp <;> omega) _
      exact (HD.out ()).2.trans (HB5.out.mono hw2)
    clear hb6
    go_wp2
    go_ret
    exact ⟨ds, pow, t, p', (HD.out ()).1, by rw [← HUPB.out]; exact HC5.out (), by rw [← HQ.out]; rfl, HB6.out⟩
end Go.Proofs.YtpmccbkhkaoccaaDoor

/- Digits of the specification. -/
namespace Go.Proofs.YtpmccbkhkaoccaaDoor
open Go.ChangeShapes Go.WideShapes Go.RowKit
open Ieee (double)

set_option maxHeartbeats 400000 in
theorem digits_out (x : Nat) (n : Int) (h : n < 1 ∨ 400 < n) (w : World) :
    Calls Tryd.prog 9 #[.float .f64 x, .int .i64 n] w fun e w' => e = .returned (.string ⟨#[]⟩) ∧ Below w.heap.size w w' := by
  rcases h with h | h
  all_goals
    go_enter Tryd.func9, Tryd.ntmps9
    go_wp2
    go_ret
    exact ⟨rfl, Below.refl _ _⟩
set_option maxHeartbeats 400000 in
theorem digits_nan (x : Nat) (n : Int) (hn1 : 1 ≤ n) (hn2 : n ≤ 400) (hx : IsNan x) (w : World) :
    Calls Tryd.prog 9 #[.float .f64 x, .int .i64 n] w fun e w' => e = .returned (.string ⟨#[110, 97, 110]⟩) ∧ Below w.heap.size w w' := by
  have H1 : Hid _ := fun w => l5size_nan x hx w
  have H2 : Hid _ := fun w => l5odd_nan x hx w
  clear hx
  go_enter Tryd.func9, Tryd.ntmps9
  go_wp2_with fail
  refine (H1.out _).mono ?_
  rintro e w1 ⟨rfl, rfl⟩
  go_wp2_with fail
  refine (H2.out _).mono ?_
  rintro e w1 ⟨rfl, rfl⟩
  go_wp2
  go_ret
  exact ⟨rfl, Below.refl _ _⟩
set_option maxHeartbeats 400000 in
theorem digits_inf (s : Bool) (n : Int) (hn1 : 1 ≤ n) (hn2 : n ≤ 400) (w : World) :
    Calls Tryd.prog 9 #[.float .f64 (iw s), .int .i64 n] w fun e w' => e = .returned (.string (sgnB s ++ ⟨#[105, 110, 102]⟩)) ∧ Below w.heap.size w w' := by
  have H1 : Hid (∀ w, Calls Tryd.prog 15 #[.float .f64 (iw s)] w fun e w' => e = .returned (.tuple #[.float .f64 9218868437227405312, .string (sgnB s)]) ∧ w' = w) := fun w => l5size_any s 9218868437227405312 (by omega) w
  have H2 : Hid _ := fun w => l5odd_inf w
  have z3 := sgnB_size s
  generalize sgnB s = S at *
  generalize iw s = X at *
  go_enter Tryd.func9, Tryd.ntmps9
  go_wp2_with fail
  refine (H1.out _).mono ?_
  rintro e w1 ⟨rfl, rfl⟩
  go_wp2_with fail
  refine (H2.out _).mono ?_
  rintro e w1 ⟨rfl, rfl⟩
  go_wp2
  go_ret
  exact ⟨rfl, Below.refl _ _⟩
set_option maxHeartbeats 1000000 in
theorem digits_zero (s : Bool) (n : Nat) (hn1 : 1 ≤ n) (hn2 : n ≤ 400) (w : World) :
    Calls Tryd.prog 9 #[.float .f64 (signBit s), .int .i64 (n : Int)] w fun e w' => e = .returned (.string (sgnB s ++ sciB (zerosB n) 1)) ∧ Below w.heap.size w w' := by
  have H1 : Hid _ := fun w => l5size_zero s w
  have H2 : Hid (∀ w, Calls Tryd.prog 16 #[.float .f64 0] w fun e w' => e = .returned (.tuple #[.string ⟨#[48]⟩, .bool true]) ∧ w' = w) := fun w => l5odd_num 0 (by omega) w
  have z3 := sgnB_size s
  have HZ : Hid (∀ w, Calls Tryd.prog 24 #[.int .i64 (n : Int)] w fun e w' => e = .returned (.string (zerosB n)) ∧ Below w.heap.size w w') := fun w => l5zeros_any n (by omega) w
  have hz := zerosB_size n
  have HSC : Hid _ := fun w => l5science_any (zerosB n) 1 (by omega) (by omega) (by omega) (by omega) w
  have hsz := sciB_size (zerosB n) 1
  generalize sciB (zerosB n) 1 = Q at *
  generalize zerosB n = Z at *
  generalize sgnB s = S at *
  generalize signBit s = X at *
  go_enter Tryd.func9, Tryd.ntmps9
  go_wp2_with fail
  refine (H1.out _).mono ?_
  rintro e w1 ⟨rfl, rfl⟩
  go_wp2_with fail
  refine (H2.out _).mono ?_
  rintro e w1 ⟨rfl, rfl⟩
  go_wp2_with fail
  refine (HZ.out _).mono ?_
  rintro e w2 ⟨rfl, hb2⟩
  have HB2 : Hid _ := hb2
  clear hb2
  go_wp2_with fail
  refine (HSC.out _).mono ?_
  rintro e w3 ⟨rfl, hb3⟩
  have HB3 : Hid (Below w1.heap.size w1 w3) := HB2.out.trans (hb3.mono HB2.out.size)
  clear hb3
  go_wp2
  go_ret
  exact ⟨rfl, HB3.out⟩
/-- What Digits answers. -/
def digitsV (x : Nat) (n : Int) (t : ByteArray) : Prop :=
  ((n < 1 ∨ 400 < n) ∧ t = ⟨#[]⟩) ∨ ((1 ≤ n ∧ n ≤ 400) ∧ ((IsNan x ∧ t = ⟨#[110, 97, 110]⟩) ∨ (∃ s, x = iw s ∧ t = sgnB s ++ ⟨#[105, 110, 102]⟩) ∨ (∃ s, x = signBit s ∧ t = sgnB s ++ sciB (zerosB n.toNat) 1)
  ∨ (∃ (s : Bool) (m : Nat) (p : Int) (q k : Nat) (ds : ByteArray) (pow : Int) (d : ByteArray) (p' : Int), Canon m p ∧ 0 < m ∧ x = fw s m p ∧ m = q * 2 ^ k ∧ q % 2 = 1 ∧ ExD ds pow q (p + k) ∧ cutV ds pow n.toNat (roundsB ds n) d p' ∧ t = sgnB s ++ sciB (d.extract 0 n.toNat) p')))
theorem specDigits5_any (x : Nat) (hx : x < 18446744073709551616) (n : Int) (w : World) :
    Calls Tryd.prog 9 #[.float .f64 x, .int .i64 n] w fun e w' => ∃ t, digitsV x n t ∧ e = .returned (.string t) ∧ Below w.heap.size w w' := by
  by_cases ho : n < 1 ∨ 400 < n
  · refine (digits_out x n ho w).mono ?_
    rintro e w' ⟨rfl, hb⟩
    exact ⟨_, .inl ⟨ho, rfl⟩, rfl, hb⟩
  · have h1 : 1 ≤ n := by omega
    have h2 : n ≤ 400 := by omega
    obtain ⟨k, rfl⟩ := Int.eq_ofNat_of_zero_le (show 0 ≤ n by omega)
    rcases float_cases x hx with h | ⟨s, rfl⟩ | ⟨s, m, p, hc, rfl⟩
    · refine (digits_nan x _ h1 h2 h w).mono ?_
      rintro e w' ⟨rfl, hb⟩
      exact ⟨_, .inr ⟨⟨h1, h2⟩, .inl ⟨h, rfl⟩⟩, rfl, hb⟩
    · refine (digits_inf s _ h1 h2 w).mono ?_
      rintro e w' ⟨rfl, hb⟩
      exact ⟨_, .inr ⟨⟨h1, h2⟩, .inr (.inl ⟨s, rfl, rfl⟩)⟩, rfl, hb⟩
    · by_cases h0 : m = 0
      · subst h0
        rw [fw_zero]
        refine (digits_zero s k (by omega) (by omega) w).mono ?_
        rintro e w' ⟨rfl, hb⟩
        exact ⟨_, .inr ⟨⟨h1, h2⟩, .inr (.inr (.inl ⟨s, rfl, rfl⟩))⟩, rfl, hb⟩
      · obtain ⟨q, j, hq, hq1, hX⟩ := l5exact_any m p hc (by omega)
        have hfw : fw false m p = rung m p := by rw [fw_canon _ _ _ hc]; exact Nat.zero_add _
        have hfs : fw s m p = signBit s + rung m p := fw_canon _ _ _ hc
        rw [hfw] at hX
        have := digits_num s (rung m p) q (p + j) k (by omega) (by omega) (rung_lt m p hc) (fun h => h0 (rung_zero m p h)) hX w
        rw [← hfs] at this
        refine this.mono ?_
        rintro e w' ⟨ds, pow, d, p', hd, hcut, rfl, hb⟩
        exact ⟨_, .inr ⟨⟨h1, h2⟩, .inr (.inr (.inr ⟨s, m, p, q, j, ds, pow, d, p', hc, by omega, rfl, hq, hq1, hd, hcut, rfl⟩))⟩, rfl, hb⟩
end Go.Proofs.YtpmccbkhkaoccaaDoor

