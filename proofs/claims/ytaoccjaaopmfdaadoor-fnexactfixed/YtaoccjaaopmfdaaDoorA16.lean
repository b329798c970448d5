import Derived.Test.YtaoccjaaopmfdaaDoorA15
import Derived.Test.YtaoccjaaopmfdaaDoorA03
import Derived.Deep.RegionWith
/- l5plain of the specification: with a point inside. -/
namespace Go.Proofs.YtaoccjaaopmfdaaDoor
open Go.ChangeShapes Go.WideShapes Go.RowKit

set_option maxHeartbeats 1000000 in
set_option maxRecDepth 100000 in
theorem l5plain_mid (ds : ByteArray) (k : Nat) (hs : ds.size ≤ 1100) (hk : 0 < k) (hk2 : k < ds.size) (w : World) :
    Calls Tryd.prog 17 #[.agg #[.string ds, .int .i64 (k : Int)]] w fun e w' => e = .returned (.string (ds.extract 0 k ++ dotB ++ ds.extract k ds.size)) ∧ Below w.heap.size w w' := by
  have hs' : (ds.size : Int) ≤ 1100 := by omega
  go_enter Tryd.func17, Tryd.ntmps17
  go_wp2
  go_quiet (fail)
  go_wp2
  go_ret
  exact ⟨rfl, below_drewN ((Below.refl _ _).alloc (Nat.le_refl _) _) _⟩
end Go.Proofs.YtaoccjaaopmfdaaDoor

/- l5plain of the specification. -/
namespace Go.Proofs.YtaoccjaaopmfdaaDoor
open Go.ChangeShapes Go.WideShapes Go.RowKit

theorem zeros_int (x : Int) (h0 : 0 ≤ x) (h1 : x ≤ 100000) (w : World) : Calls Tryd.prog 24 #[.int .i64 x] w fun e w' => e = .returned (.string (zerosB x.toNat)) ∧ w' = w.alloc (.cells (tcells (zerosL x.toNat) x.toNat).toArray 5) := by
  have := l5zeros_at x.toNat (by omega) w
  rw [Int.toNat_of_nonneg h0] at this
  exact this

set_option maxHeartbeats 4000000 in
set_option maxRecDepth 100000 in
theorem l5plain_low (ds : ByteArray) (p : Int) (hs : ds.size ≤ 1100) (hp : p ≤ 0) (hp2 : -1100 ≤ p) (w : World) :
    Calls Tryd.prog 17 #[.agg #[.string ds, .int .i64 p]] w fun e w' => e = .returned (.string (⟨#[48, 46]⟩ ++ zerosB (-p).toNat ++ ds)) ∧ Below w.heap.size w w' := by
  have HZ : Hid (∀ w, Calls Tryd.prog 24 #[.int .i64 (IntKind.i64.wrap (-p))] w fun e w' => e = .returned (.string (zerosB (-p).toNat)) ∧ w' = w.alloc (.cells (tcells (zerosL (-p).toNat) (-p).toNat).toArray 5)) := fun w => by
    rw [show IntKind.i64.wrap (-p) = -p by rw [IntKind.wrap_i64]; omega]
    exact zeros_int (-p) (by omega) (by omega) w
  have hzs : ((zerosB (-p).toNat).size : Int) ≤ 1100 := by rw [zerosB_size]; omega
  have hs' : (ds.size : Int) ≤ 1100 := by omega
  generalize zerosB (-p).toNat = Z at *
  generalize (tcells (zerosL (-p).toNat) (-p).toNat).toArray = C at *
  clear hs
  go_enter Tryd.func17, Tryd.ntmps17
  go_wp2
  go_region_with (go_at_call 24; refine (HZ.out _).mono ?_; rintro e w' ⟨rfl, rfl⟩)
  all_goals
    go_wp2
    go_ret
    exact ⟨rfl, (by repeat (first | with_reducible exact Below.refl _ _ | with_reducible refine Below.alloc ?_ (by simp <;> omega) _ | with_reducible refine Below.drew ?_ | with_reducible refine below_drewN ?_ _ | with_reducible refine Below.setCell ?_ (by simp <;> omega) _))⟩
set_option maxHeartbeats 4000000 in
set_option maxRecDepth 100000 in
theorem l5plain_high (ds : ByteArray) (p : Int) (hs : ds.size ≤ 1100) (hp : (ds.size : Int) ≤ p) (hp0 : 0 < p) (hp2 : p ≤ 1100) (w : World) :
    Calls Tryd.prog 17 #[.agg #[.string ds, .int .i64 p]] w fun e w' => e = .returned (.string (ds ++ zerosB (p.toNat - ds.size))) ∧ Below w.heap.size w w' := by
  have HZ : Hid (∀ w, Calls Tryd.prog 24 #[.int .i64 (IntKind.i64.wrap (p - (ds.size : Int)))] w fun e w' => e = .returned (.string (zerosB (p.toNat - ds.size))) ∧ w' = w.alloc (.cells (tcells (zerosL (p.toNat - ds.size)) (p.toNat - ds.size)).toArray 5)) := fun w => by
    rw [show IntKind.i64.wrap (p - (ds.size : Int)) = p - (ds.size : Int) by rw [IntKind.wrap_i64]; omega]
    have := zeros_int (p - (ds.size : Int)) (by omega) (by omega) w
    rw [show (p - (ds.size : Int)).toNat = p.toNat - ds.size by omega] at this
    exact this
  have hzs : ((zerosB (p.toNat - ds.size)).size : Int) ≤ 1100 := by rw [zerosB_size]; omega
  have hs' : (ds.size : Int) ≤ 1100 := by omega
  generalize zerosB (p.toNat - ds.size) = Z at *
  generalize (tcells (zerosL (p.toNat - ds.size)) (p.toNat - ds.size)).toArray = C at *
  clear hs
  go_enter Tryd.func17, Tryd.ntmps17
  go_wp2
  go_region_with (go_at_call 24; refine (HZ.out _).mono ?_; rintro e w' ⟨rfl, rfl⟩)
  all_goals
    go_wp2
    go_ret
    exact ⟨rfl, (by repeat (first | with_reducible exact Below.refl _ _ | with_reducible refine Below.alloc ?_ (by simp <;> omega) _ | with_reducible refine Below.drew ?_ | with_reducible refine below_drewN ?_ _ | with_reducible refine Below.setCell ?_ (by simp <;> omega) _))⟩
theorem l5plain_any (ds : ByteArray) (p : Int) (hs : ds.size ≤ 1100) (hp : -1100 ≤ p) (hp2 : p ≤ 1100) (w : World) :
    Calls Tryd.prog 17 #[.agg #[.string ds, .int .i64 p]] w fun e w' => e = .returned (.string (plainB ds p)) ∧ Below w.heap.size w w' := by
  unfold plainB
  by_cases h1 : p ≤ 0
  · rw [if_pos h1]; exact l5plain_low ds p hs h1 hp w
  · rw [if_neg h1]
    by_cases h2 : (ds.size : Int) ≤ p
    · rw [if_pos h2]; exact l5plain_high ds p hs h2 (by omega) hp2 w
    · rw [if_neg h2]
      have := l5plain_mid ds p.toNat hs (by omega) (by omega) w
      rw [Int.toNat_of_nonneg (by omega)] at this
      exact this
end Go.Proofs.YtaoccjaaopmfdaaDoor

/- Exact of the specification. -/
namespace Go.Proofs.YtaoccjaaopmfdaaDoor
open Go.ChangeShapes Go.WideShapes Go.RowKit
open Ieee (double)


set_option maxHeartbeats 1000000 in
theorem exact_nan (x : Nat) (hx : IsNan x) (w : World) :
    Calls Tryd.prog 7 #[.float .f64 x] w fun e w' => e = .returned (.string ⟨#[110, 97, 110]⟩) ∧ Below w.heap.size w w' := by
  have H1 : Hid _ := fun w => l5size_nan x hx w
  have H2 : Hid _ := fun w => l5odd_nan x hx w
  clear hx
  go_enter Tryd.func7, Tryd.ntmps7
  go_wp2_with fail
  refine (H1.out _).mono ?_
  rintro e w1 ⟨rfl, rfl⟩
  go_wp2_with fail
  refine (H2.out _).mono ?_
  rintro e w1 ⟨rfl, rfl⟩
  go_wp2
  go_ret
  exact ⟨rfl, Below.refl _ _⟩
set_option maxHeartbeats 1000000 in
theorem exact_odd (s : Bool) (r : Nat) (t : ByteArray) (hr : r ≤ 9218868437227405312) (ht : t.size ≤ 10) (hO : ∀ w, Calls Tryd.prog 16 #[.float .f64 r] w fun e w' => e = .returned (.tuple #[.string t, .bool true]) ∧ w' = w) (w : World) :
    Calls Tryd.prog 7 #[.float .f64 (signBit s + r)] w fun e w' => e = .returned (.string (sgnB s ++ t)) ∧ Below w.heap.size w w' := by
  have H1 : Hid _ := fun w => l5size_any s r hr w
  have H2 : Hid _ := hO
  have z3 := sgnB_size s
  generalize sgnB s = S at *
  generalize signBit s + r = X at *
  clear hO hr
  go_enter Tryd.func7, Tryd.ntmps7
  go_wp2_with fail
  refine (H1.out _).mono ?_
  rintro e w1 ⟨rfl, rfl⟩
  go_wp2_with fail
  refine (H2.out _).mono ?_
  rintro e w1 ⟨rfl, rfl⟩
  go_wp2
  go_ret
  exact ⟨rfl, Below.refl _ _⟩
set_option maxHeartbeats 1000000 in
theorem exact_num (s : Bool) (r : Nat) (q : Nat) (E : Int) (hr : r < 9218868437227405312) (hr0 : r ≠ 0) (hX : ∀ w, Calls Tryd.prog 18 #[.float .f64 r] w fun e w' =>
    ∃ ds pow, ExD ds pow q E ∧ ds.size ≤ 1100 ∧ -1100 ≤ pow ∧ pow ≤ 1100 ∧ e = .returned (.agg #[.string ds, .int .i64 pow]) ∧ Below w.heap.size w w') (w : World) :
    Calls Tryd.prog 7 #[.float .f64 (signBit s + r)] w fun e w' => ∃ ds pow, ExD ds pow q E ∧ (sgnB s ++ plainB ds pow).size ≤ 3100 ∧ e = .returned (.string (sgnB s ++ plainB ds pow)) ∧ Below w.heap.size w w' := by
  have H1 : Hid _ := fun w => l5size_any s r (by omega) w
  have H2 : Hid (∀ w, Calls Tryd.prog 16 #[.float .f64 r] w fun e w' => e = .returned (.tuple #[.string ⟨#[48]⟩, .bool false]) ∧ w' = w) := fun w => by
    have := l5odd_num r hr w
    rw [decide_eq_false hr0] at this
    exact this
  have H3 : Hid _ := hX
  have z3 := sgnB_size s
  generalize sgnB s = S at *
  generalize signBit s + r = X at *
  clear hX hr hr0
  go_enter Tryd.func7, Tryd.ntmps7
  go_wp2_with fail
  refine (H1.out _).mono ?_
  rintro e w1 ⟨rfl, rfl⟩
  go_wp2_with fail
  refine (H2.out _).mono ?_
  rintro e w1 ⟨rfl, rfl⟩
  go_wp2_with fail
  refine (H3.out _).mono ?_
  rintro e w2 ⟨ds, pow, hd, hs, hp1, hp2, rfl, hb⟩
  have HD : Hid _ := fun (_ : Unit) => And.intro hd hb
  have HPL : Hid _ := fun w => l5plain_any ds pow hs hp1 hp2 w
  have hsz := plainB_size ds pow hs hp1 hp2
  clear hd hb
  obtain ⟨P, hP⟩ : ∃ P, P = plainB ds pow := ⟨_, rfl⟩
  rw [← hP] at hsz HPL
  have HPE : Hid (P = plainB ds pow) := hP
  clear hP
  go_wp2_with fail
  refine (HPL.out _).mono ?_
  rintro e w3 ⟨rfl, hb3⟩
  have HB3 : Hid (Below _ _ w3) := (HD.out ()).2.trans (hb3.mono (HD.out ()).2.size)
  clear hb3
  go_wp2
  go_ret
  exact ⟨ds, pow, (HD.out ()).1, by rw [← HPE.out, append_size]; omega, by rw [← HPE.out]; rfl, HB3.out⟩
/-- What Exact answers. -/
def exactV (x : Nat) (t : ByteArray) : Prop := (IsNan x ∧ t = ⟨#[110, 97, 110]⟩) ∨ (∃ s, x = iw s ∧ t = sgnB s ++ ⟨#[105, 110, 102]⟩) ∨ (∃ s, x = signBit s ∧ t = sgnB s ++ ⟨#[48]⟩)
  ∨ (∃ (s : Bool) (n : Nat) (p : Int) (q k : Nat) (ds : ByteArray) (pow : Int), Canon n p ∧ 0 < n ∧ x = fw s n p ∧ n = q * 2 ^ k ∧ q % 2 = 1 ∧ ExD ds pow q (p + k) ∧ t = sgnB s ++ plainB ds pow)
theorem specExact_any (x : Nat) (hx : x < 18446744073709551616) (w : World) :
    Calls Tryd.prog 7 #[.float .f64 x] w fun e w' => ∃ t, exactV x t ∧ t.size ≤ 3100 ∧ e = .returned (.string t) ∧ Below w.heap.size w w' := by
  rcases float_cases x hx with h | ⟨s, rfl⟩ | ⟨s, n, p, hc, rfl⟩
  · refine (exact_nan x h w).mono ?_
    rintro e w' ⟨rfl, hb⟩
    exact ⟨_, .inl ⟨h, rfl⟩, by decide, rfl, hb⟩
  · refine (exact_odd s 9218868437227405312 _ (by omega) (by decide) (fun w => l5odd_inf w) w).mono ?_
    rintro e w' ⟨rfl, hb⟩
    exact ⟨_, .inr (.inl ⟨s, rfl, rfl⟩), by cases s <;> decide, rfl, hb⟩
  · by_cases h0 : n = 0
    · subst h0
      rw [fw_zero]
      have := exact_odd s 0 ⟨#[48]⟩ (by omega) (by decide) (fun w => l5odd_num 0 (by omega) w) w
      rw [Nat.add_zero] at this
      refine this.mono ?_
      rintro e w' ⟨rfl, hb⟩
      exact ⟨_, .inr (.inr (.inl ⟨s, rfl, rfl⟩)), by cases s <;> decide, rfl, hb⟩
    · obtain ⟨q, k, hq, hq1, hX⟩ := l5exact_any n p hc (by omega)
      have hfw : fw false n p = rung n p := by rw [fw_canon _ _ _ hc]; exact Nat.zero_add _
      have hfs : fw s n p = signBit s + rung n p := fw_canon _ _ _ hc
      rw [hfw] at hX
      have := exact_num s (rung n p) q (p + k) (rung_lt n p hc) (fun h => h0 (rung_zero n p h)) hX w
      rw [← hfs] at this
      refine this.mono ?_
      rintro e w' ⟨ds, pow, hd, hz, rfl, hb⟩
      exact ⟨_, .inr (.inr (.inr ⟨s, n, p, q, k, ds, pow, hc, by omega, rfl, hq, hq1, hd, rfl⟩)), hz, rfl, hb⟩
end Go.Proofs.YtaoccjaaopmfdaaDoor

