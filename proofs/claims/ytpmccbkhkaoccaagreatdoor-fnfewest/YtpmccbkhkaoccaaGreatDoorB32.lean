import Derived.Test.YtpmccbkhkaoccaaGreatDoorB31
import Derived.Test.YtpmccbkhkaoccaaGreatDoorB25
import Derived.Test.YtpmccbkhkaoccaaGreatDoorB16
import Derived.Test.YtpmccbkhkaoccaaGreatDoorB23
import Derived.Deep.RegionWith
/- Fixed of the specification, at every argument. -/
namespace Go.Proofs.YtpmccbkhkaoccaaGreatDoor
open Go.ChangeShapes Go.WideShapes Go.RowKit
open Ieee (double)

set_option maxHeartbeats 400000 in
theorem fixed_out (x : Nat) (n : Int) (h : n < 0 ∨ 400 < n) (w : World) :
    Calls Tryz.prog 25 #[.float .f64 x, .int .i64 n] w fun e w' => e = .returned (.string ⟨#[]⟩) ∧ Below w.heap.size w w' := by
  rcases h with h | h
  all_goals
    go_enter Tryz.func25, Tryz.ntmps25
    go_wp2
    go_ret
    exact ⟨rfl, Below.refl _ _⟩
set_option maxHeartbeats 400000 in
theorem fixed_nan (x : Nat) (n : Int) (hn1 : 0 ≤ n) (hn2 : n ≤ 400) (hx : IsNan x) (w : World) :
    Calls Tryz.prog 25 #[.float .f64 x, .int .i64 n] w fun e w' => e = .returned (.string ⟨#[110, 97, 110]⟩) ∧ Below w.heap.size w w' := by
  have H1 : Hid _ := fun w => l5size_nan x hx w
  have H2 : Hid _ := fun w => l5odd_nan x hx w
  clear hx
  go_enter Tryz.func25, Tryz.ntmps25
  go_wp2_with fail
  refine (H1.out _).mono ?_
  rintro e w1 ⟨rfl, rfl⟩
  go_wp2_with fail
  refine (H2.out _).mono ?_
  rintro e w1 ⟨rfl, rfl⟩
  go_wp2
  go_ret
  exact ⟨rfl, Below.refl _ _⟩
set_option maxHeartbeats 400000 in
theorem fixed_inf (s : Bool) (n : Int) (hn1 : 0 ≤ n) (hn2 : n ≤ 400) (w : World) :
    Calls Tryz.prog 25 #[.float .f64 (iw s), .int .i64 n] w fun e w' => e = .returned (.string (sgnB s ++ ⟨#[105, 110, 102]⟩)) ∧ Below w.heap.size w w' := by
  have H1 : Hid (∀ w, Calls Tryz.prog 36 #[.float .f64 (iw s)] w fun e w' => e = .returned (.tuple #[.float .f64 9218868437227405312, .string (sgnB s)]) ∧ w' = w) := fun w => l5size_any s 9218868437227405312 (by omega) w
  have H2 : Hid _ := fun w => l5odd_inf w
  have z3 := sgnB_size s
  generalize sgnB s = S at *
  generalize iw s = X at *
  go_enter Tryz.func25, Tryz.ntmps25
  go_wp2_with fail
  refine (H1.out _).mono ?_
  rintro e w1 ⟨rfl, rfl⟩
  go_wp2_with fail
  refine (H2.out _).mono ?_
  rintro e w1 ⟨rfl, rfl⟩
  go_wp2
  go_ret
  exact ⟨rfl, Below.refl _ _⟩
/-- What Fixed answers. -/
def fixedV (x : Nat) (n : Int) (t : ByteArray) : Prop :=
  ((n < 0 ∨ 400 < n) ∧ t = ⟨#[]⟩) ∨ ((0 ≤ n ∧ n ≤ 400) ∧ ((IsNan x ∧ t = ⟨#[110, 97, 110]⟩) ∨ (∃ s, x = iw s ∧ t = sgnB s ++ ⟨#[105, 110, 102]⟩) ∨ (∃ s, x = signBit s ∧ t = sgnB s ++ fixB ⟨#[]⟩ 1 n.toNat)
  ∨ (∃ (s : Bool) (m : Nat) (p : Int) (q k : Nat) (ds : ByteArray) (pow : Int) (d : ByteArray) (p' : Int), Canon m p ∧ 0 < m ∧ x = fw s m p ∧ m = q * 2 ^ k ∧ q % 2 = 1 ∧ ExD ds pow q (p + k) ∧ FixD ds pow n.toNat d p' ∧ t = sgnB s ++ fixB d p' n.toNat)))
theorem specFixed_any (x : Nat) (hx : x < 18446744073709551616) (n : Int) (w : World) :
    Calls Tryz.prog 25 #[.float .f64 x, .int .i64 n] w fun e w' => ∃ t, fixedV x n t ∧ t.size ≤ 5000 ∧ e = .returned (.string t) ∧ Below w.heap.size w w' := by
  by_cases ho : n < 0 ∨ 400 < n
  · refine (fixed_out x n ho w).mono ?_
    rintro e w' ⟨rfl, hb⟩
    exact ⟨_, .inl ⟨ho, rfl⟩, by decide, rfl, hb⟩
  · have h1 : 0 ≤ n := by omega
    have h2 : n ≤ 400 := by omega
    obtain ⟨k, rfl⟩ := Int.eq_ofNat_of_zero_le h1
    rcases float_cases x hx with h | ⟨s, rfl⟩ | ⟨s, m, p, hc, rfl⟩
    · refine (fixed_nan x _ h1 h2 h w).mono ?_
      rintro e w' ⟨rfl, hb⟩
      exact ⟨_, .inr ⟨⟨h1, h2⟩, .inl ⟨h, rfl⟩⟩, by decide, rfl, hb⟩
    · refine (fixed_inf s _ h1 h2 w).mono ?_
      rintro e w' ⟨rfl, hb⟩
      exact ⟨_, .inr ⟨⟨h1, h2⟩, .inr (.inl ⟨s, rfl, rfl⟩)⟩, by cases s <;> decide, rfl, hb⟩
    · by_cases h0 : m = 0
      · subst h0
        rw [fw_zero]
        have := fixed_go s 0 true 0 0 k (by omega) (by omega) (fun w => l5odd_num 0 (by omega) w) (fun h => by cases h) w
        rw [Nat.add_zero] at this
        refine this.mono ?_
        rintro e w' ⟨t, p', hf, hz, rfl, hb⟩
        rcases hf with ⟨_, rfl, rfl⟩ | ⟨h, _⟩
        · exact ⟨_, .inr ⟨⟨h1, h2⟩, .inr (.inr (.inl ⟨s, rfl, rfl⟩))⟩, hz, rfl, hb⟩
        · cases h
      · obtain ⟨q, j, hq, hq1, hX⟩ := l5exact_any m p hc (by omega)
        have hfw : fw false m p = rung m p := by rw [fw_canon _ _ _ hc]; exact Nat.zero_add _
        have hfs : fw s m p = signBit s + rung m p := fw_canon _ _ _ hc
        rw [hfw] at hX
        have hr := rung_lt m p hc
        have := fixed_go s (rung m p) false q (p + j) k (by omega) (by omega) (fun w => by
          have := l5odd_num (rung m p) hr w
          rw [decide_eq_false (fun h => h0 (rung_zero m p h))] at this
          exact this) (fun _ => hX) w
        rw [← hfs] at this
        refine this.mono ?_
        rintro e w' ⟨t, p', hf, hz, rfl, hb⟩
        rcases hf with ⟨h, _⟩ | ⟨_, ds, pow, hd, hfx⟩
        · cases h
        · exact ⟨_, .inr ⟨⟨h1, h2⟩, .inr (.inr (.inr ⟨s, m, p, q, j, ds, pow, t, p', hc, by omega, rfl, hq, hq1, hd, hfx, rfl⟩))⟩, hz, rfl, hb⟩
end Go.Proofs.YtpmccbkhkaoccaaGreatDoor

/- Digits of the specification: at a number. -/
namespace Go.Proofs.YtpmccbkhkaoccaaGreatDoor
open Go.ChangeShapes Go.WideShapes Go.RowKit
open Ieee (double)

set_option maxHeartbeats 8000000 in
set_option maxRecDepth 100000 in
theorem digits_num (s : Bool) (r : Nat) (q : Nat) (E : Int) (n : Nat) (hn1 : 1 ≤ n) (hn2 : n ≤ 400) (hr : r < 9218868437227405312) (hr0 : r ≠ 0) (hX : ∀ w, Calls Tryz.prog 42 #[.float .f64 r] w fun e w' =>
    ∃ ds pow, ExD ds pow q E ∧ ds.size ≤ 1100 ∧ -1100 ≤ pow ∧ pow ≤ 1100 ∧ e = .returned (.agg #[.string ds, .int .i64 pow]) ∧ Below w.heap.size w w') (w : World) :
    Calls Tryz.prog 26 #[.float .f64 (signBit s + r), .int .i64 (n : Int)] w fun e w' => ∃ ds pow t p', ExD ds pow q E ∧ cutV ds pow n (roundsB ds (n : Int)) t p' ∧ e = .returned (.string (sgnB s ++ sciB (t.extract 0 n) p')) ∧ Below w.heap.size w w' := by
  have H1 : Hid _ := fun w => l5size_any s r (by omega) w
  have H2 : Hid (∀ w, Calls Tryz.prog 37 #[.float .f64 r] w fun e w' => e = .returned (.tuple #[.string ⟨#[48]⟩, .bool false]) ∧ w' = w) := fun w => by
    have := l5odd_num r hr w
    rw [decide_eq_false hr0] at this
    exact this
  have H3 : Hid _ := hX
  have z3 := sgnB_size s
  generalize sgnB s = S at *
  generalize signBit s + r = X at *
  clear hX hr hr0
  go_enter Tryz.func26, Tryz.ntmps26
  go_wp2_with fail
  refine (H1.out _).mono ?_
  rintro e w1 ⟨rfl, rfl⟩
  go_wp2_with fail
  refine (H2.out _).mono ?_
  rintro e w1 ⟨rfl, rfl⟩
  go_wp2_with fail
  refine (H3.out _).mono ?_
  rintro e w2 ⟨ds, pow, hd, hs, hp1, hp2, rfl, hb⟩
  have HD : Hid _ := fun (_ : Unit) => And.intro hd hb
  have HR : Hid _ := fun w => l5rounds_any ds pow (n : Int) (by omega) hd.2.1 w
  have HC : Hid _ := fun up w => l5cut_any ds pow n up hs hd.2.1 (by omega) (by omega) (by omega) w
  obtain ⟨up, hup⟩ : ∃ up, up = roundsB ds (n : Int) := ⟨_, rfl⟩
  rw [← hup] at HR
  have HUPB : Hid (up = roundsB ds (n : Int)) := hup
  clear hup
  clear hd hb H1 H2 H3
  go_wp2_with fail
  go_region_with (first | (go_at_call 53; refine (HR.out _).mono ?_; rintro e w' ⟨rfl, rfl⟩) | (go_at_call 51; refine (HC.out _ _).mono ?_; rintro e w5 ⟨t, p', hc, rfl, hb5⟩; have HC5 : Hid _ := (fun (_ : Unit) => hc); have k0 := (hb5.cell (p := ⟨w2.heap.size, 0, none⟩) (by simp <;> omega)).trans (by simp [go_sem] : _ = some (.string ds)); have k1 := (hb5.cell (p := ⟨w2.heap.size, 1, none⟩) (by simp <;> omega)).trans (by simp [go_sem] : _ = some (.int .i64 pow)); have f0 := (hb5.frozen (p := ⟨w2.heap.size, 0, none⟩) (by simp <;> omega)).trans (by simp [go_sem] : _ = false); have f1 := (hb5.frozen (p := ⟨w2.heap.size, 1, none⟩) (by simp <;> omega)).trans (by simp [go_sem] : _ = false); have hbl : w2.heap.size + 1 ≤ w5.heap.size := (by have h := hb5.size; simp at h; omega); have HB5 : Hid (Below w2.heap.size w2 w5) := (by refine Below.trans ?_ (hb5.mono (by simp <;> omega)); repeat (first | with_reducible exact Below.refl _ _ | with_reducible refine Below.alloc ?_ (by simp <;> omega) _ | with_reducible refine Below.drew ?_ | with_reducible refine below_drewN ?_ _)); clear hc hb5))
  all_goals
    have hts := cut5_size ds pow n _ t p' (HC5.out ())
    have het : (t.extract 0 n).size = n := by simp; omega
    have HSC : Hid _ := fun w => l5science_any (t.extract 0 n) p' (by omega) (by omega) (by omega) (by omega) w
    have hsz := sciB_size (t.extract 0 n) p'
    have hti : (n : Int) ≤ (t.size : Int) := by omega
    obtain ⟨Q, hQ⟩ : ∃ Q, Q = sciB (t.extract 0 n) p' := ⟨_, rfl⟩
    rw [← hQ] at hsz HSC
    have HQ : Hid (Q = sciB (t.extract 0 n) p') := hQ
    clear hQ hts
    go_wp2_with fail
    refine (HSC.out _).mono ?_
    rintro e w6 ⟨rfl, hb6⟩
    have hw2 : w1.heap.size ≤ w2.heap.size := (HD.out ()).2.size
    have HB6 : Hid (Below w1.heap.size w1 w6) := by
      refine Below.trans ?_ (hb6.mono (by simp <;> omega))
      refine Below.setCell (Below.setCell (Below.setCell ?_ (by simp <;> omega) _) (by simp <;> omega) _) (by simp <;> omega) _
      exact (HD.out ()).2.trans (HB5.out.mono hw2)
    clear hb6
    go_wp2
    go_ret
    exact ⟨ds, pow, t, p', (HD.out ()).1, by rw [← HUPB.out]; exact HC5.out (), by rw [← HQ.out]; rfl, HB6.out⟩
end Go.Proofs.YtpmccbkhkaoccaaGreatDoor

/- Digits of the specification. -/
namespace Go.Proofs.YtpmccbkhkaoccaaGreatDoor
open Go.ChangeShapes Go.WideShapes Go.RowKit
open Ieee (double)

set_option maxHeartbeats 400000 in
theorem digits_out (x : Nat) (n : Int) (h : n < 1 ∨ 400 < n) (w : World) :
    Calls Tryz.prog 26 #[.float .f64 x, .int .i64 n] w fun e w' => e = .returned (.string ⟨#[]⟩) ∧ Below w.heap.size w w' := by
  rcases h with h | h
  all_goals
    go_enter Tryz.func26, Tryz.ntmps26
    go_wp2
    go_ret
    exact ⟨rfl, Below.refl _ _⟩
set_option maxHeartbeats 400000 in
theorem digits_nan (x : Nat) (n : Int) (hn1 : 1 ≤ n) (hn2 : n ≤ 400) (hx : IsNan x) (w : World) :
    Calls Tryz.prog 26 #[.float .f64 x, .int .i64 n] w fun e w' => e = .returned (.string ⟨#[110, 97, 110]⟩) ∧ Below w.heap.size w w' := by
  have H1 : Hid _ := fun w => l5size_nan x hx w
  have H2 : Hid _ := fun w => l5odd_nan x hx w
  clear hx
  go_enter Tryz.func26, Tryz.ntmps26
  go_wp2_with fail
  refine (H1.out _).mono ?_
  rintro e w1 ⟨rfl, rfl⟩
  go_wp2_with fail
  refine (H2.out _).mono ?_
  rintro e w1 ⟨rfl, rfl⟩
  go_wp2
  go_ret
  exact ⟨rfl, Below.refl _ _⟩
set_option maxHeartbeats 400000 in
theorem digits_inf (s : Bool) (n : Int) (hn1 : 1 ≤ n) (hn2 : n ≤ 400) (w : World) :
    Calls Tryz.prog 26 #[.float .f64 (iw s), .int .i64 n] w fun e w' => e = .returned (.string (sgnB s ++ ⟨#[105, 110, 102]⟩)) ∧ Below w.heap.size w w' := by
  have H1 : Hid (∀ w, Calls Tryz.prog 36 #[.float .f64 (iw s)] w fun e w' => e = .returned (.tuple #[.float .f64 9218868437227405312, .string (sgnB s)]) ∧ w' = w) := fun w => l5size_any s 9218868437227405312 (by omega) w
  have H2 : Hid _ := fun w => l5odd_inf w
  have z3 := sgnB_size s
  generalize sgnB s = S at *
  generalize iw s = X at *
  go_enter Tryz.func26, Tryz.ntmps26
  go_wp2_with fail
  refine (H1.out _).mono ?_
  rintro e w1 ⟨rfl, rfl⟩
  go_wp2_with fail
  refine (H2.out _).mono ?_
  rintro e w1 ⟨rfl, rfl⟩
  go_wp2
  go_ret
  exact ⟨rfl, Below.refl _ _⟩
set_option maxHeartbeats 1000000 in
theorem digits_zero (s : Bool) (n : Nat) (hn1 : 1 ≤ n) (hn2 : n ≤ 400) (w : World) :
    Calls Tryz.prog 26 #[.float .f64 (signBit s), .int .i64 (n : Int)] w fun e w' => e = .returned (.string (sgnB s ++ sciB (zerosB n) 1)) ∧ Below w.heap.size w w' := by
  have H1 : Hid _ := fun w => l5size_zero s w
  have H2 : Hid (∀ w, Calls Tryz.prog 37 #[.float .f64 0] w fun e w' => e = .returned (.tuple #[.string ⟨#[48]⟩, .bool true]) ∧ w' = w) := fun w => l5odd_num 0 (by omega) w
  have z3 := sgnB_size s
  have HZ : Hid (∀ w, Calls Tryz.prog 54 #[.int .i64 (n : Int)] w fun e w' => e = .returned (.string (zerosB n)) ∧ Below w.heap.size w w') := fun w => l5zeros_any n (by omega) w
  have hz := zerosB_size n
  have HSC : Hid _ := fun w => l5science_any (zerosB n) 1 (by omega) (by omega) (by omega) (by omega) w
  have hsz := sciB_size (zerosB n) 1
  generalize sciB (zerosB n) 1 = Q at *
  generalize zerosB n = Z at *
  generalize sgnB s = S at *
  generalize signBit s = X at *
  go_enter Tryz.func26, Tryz.ntmps26
  go_wp2_with fail
  refine (H1.out _).mono ?_
  rintro e w1 ⟨rfl, rfl⟩
  go_wp2_with fail
  refine (H2.out _).mono ?_
  rintro e w1 ⟨rfl, rfl⟩
  go_wp2_with fail
  refine (HZ.out _).mono ?_
  rintro e w2 ⟨rfl, hb2⟩
  have HB2 : Hid _ := hb2
  clear hb2
  go_wp2_with fail
  refine (HSC.out _).mono ?_
  rintro e w3 ⟨rfl, hb3⟩
  have HB3 : Hid (Below w1.heap.size w1 w3) := HB2.out.trans (hb3.mono HB2.out.size)
  clear hb3
  go_wp2
  go_ret
  exact ⟨rfl, HB3.out⟩
/-- What Digits answers. -/
def digitsV (x : Nat) (n : Int) (t : ByteArray) : Prop :=
  ((n < 1 ∨ 400 < n) ∧ t = ⟨#[]⟩) ∨ ((1 ≤ n ∧ n ≤ 400) ∧ ((IsNan x ∧ t = ⟨#[110, 97, 110]⟩) ∨ (∃ s, x = iw s ∧ t = sgnB s ++ ⟨#[105, 110, 102]⟩) ∨ (∃ s, x = signBit s ∧ t = sgnB s ++ sciB (zerosB n.toNat) 1)
  ∨ (∃ (s : Bool) (m : Nat) (p : Int) (q k : Nat) (ds : ByteArray) (pow : Int) (d : ByteArray) (p' : Int), Canon m p ∧ 0 < m ∧ x = fw s m p ∧ m = q * 2 ^ k ∧ q % 2 = 1 ∧ ExD ds pow q (p + k) ∧ cutV ds pow n.toNat (roundsB ds n) d p' ∧ t = sgnB s ++ sciB (d.extract 0 n.toNat) p')))
theorem specDigits5_any (x : Nat) (hx : x < 18446744073709551616) (n : Int) (w : World) :
    Calls Tryz.prog 26 #[.float .f64 x, .int .i64 n] w fun e w' => ∃ t, digitsV x n t ∧ e = .returned (.string t) ∧ Below w.heap.size w w' := by
  by_cases ho : n < 1 ∨ 400 < n
  · refine (digits_out x n ho w).mono ?_
    rintro e w' ⟨rfl, hb⟩
    exact ⟨_, .inl ⟨ho, rfl⟩, rfl, hb⟩
  · have h1 : 1 ≤ n := by omega
    have h2 : n ≤ 400 := by omega
    obtain ⟨k, rfl⟩ := Int.eq_ofNat_of_zero_le (show 0 ≤ n by omega)
    rcases float_cases x hx with h | ⟨s, rfl⟩ | ⟨s, m, p, hc, rfl⟩
    · refine (digits_nan x _ h1 h2 h w).mono ?_
      rintro e w' ⟨rfl, hb⟩
      exact ⟨_, .inr ⟨⟨h1, h2⟩, .inl ⟨h, rfl⟩⟩, rfl, hb⟩
    · refine (digits_inf s _ h1 h2 w).mono ?_
      rintro e w' ⟨rfl, hb⟩
      exact ⟨_, .inr ⟨⟨h1, h2⟩, .inr (.inl ⟨s, rfl, rfl⟩)⟩, rfl, hb⟩
    · by_cases h0 : m = 0
      · subst h0
        rw [fw_zero]
        refine (digits_zero s k (by omega) (by omega) w).mono ?_
        rintro e w' ⟨rfl, hb⟩
        exact ⟨_, .inr ⟨⟨h1, h2⟩, .inr (.inr (.inl ⟨s, rfl, rfl⟩))⟩, rfl, hb⟩
      · obtain ⟨q, j, hq, hq1, hX⟩ := l5exact_any m p hc (by omega)
        have hfw : fw false m p = rung m p := by rw [fw_canon _ _ _ hc]; exact Nat.zero_add _
        have hfs : fw s m p = signBit s + rung m p := fw_canon _ _ _ hc
        rw [hfw] at hX
        have := digits_num s (rung m p) q (p + j) k (by omega) (by omega) (rung_lt m p hc) (fun h => h0 (rung_zero m p h)) hX w
        rw [← hfs] at this
        refine this.mono ?_
        rintro e w' ⟨ds, pow, d, p', hd, hcut, rfl, hb⟩
        exact ⟨_, .inr ⟨⟨h1, h2⟩, .inr (.inr (.inr ⟨s, m, p, q, j, ds, pow, d, p', hc, by omega, rfl, hq, hq1, hd, hcut, rfl⟩))⟩, rfl, hb⟩
end Go.Proofs.YtpmccbkhkaoccaaGreatDoor

/- What is rounded is read: plain. -/
namespace Go.Proofs.YtpmccbkhkaoccaaGreatDoor
open Go.RowKit
open Ieee (double)

def ds_dig (c : UInt8) : Nat := (digN 99 (c.toNat : Int)).toNat
theorem extract_two (d : ByteArray) (N : Nat) (h : d.size = N + 1) : d.data.toList = (d.extract 0 N).data.toList ++ [d[N]'(by omega)] := by
  rw [Lib.extract_eq]
  simp only [Nat.sub_zero, List.drop_zero]
  have hl : d.data.toList.length = N + 1 := by rw [data_len]; exact h
  have h1 : d.data.toList.drop N = [d[N]'(by omega)] := by
    rw [List.drop_eq_getElem_cons (by omega), List.drop_eq_nil_of_le (by omega)]
    rfl
  rw [← h1, List.take_append_drop]
theorem list_get (s : ByteArray) (j : Nat) (h : j < s.size) : s.data.toList[j]'(by rw [data_len]; exact h) = s[j] := rfl
/-- A text that is read as some number. -/
def ReadsSome (t : ByteArray) : Prop := ∃ v, ReadA t true 0 (· = v)
theorem good_extract (d : ByteArray) (i j : Nat) (hg : good 10 d.data.toList) : good 10 (d.extract i j).data.toList := fun c hc => by
  rw [Lib.extract_eq] at hc
  exact hg c (List.mem_of_mem_drop (List.mem_of_mem_take hc))
theorem cut_good (ds : ByteArray) (pow : Int) (n : Nat) (up : Bool) (t : ByteArray) (p' : Int) (hg : good 10 ds.data.toList) (h : cutV ds pow n up t p') : good 10 t.data.toList ∧ n ≤ t.size ∧ t.size ≤ n + 1 ∧ pow ≤ p' ∧ p' ≤ pow + 1 := by
  rcases h with ⟨_, rfl, rfl⟩ | ⟨_, more, ⟨h1, _, h2, _⟩, rfl⟩
  · refine ⟨?_, by rw [padB_size]; exact Nat.le_refl _, by rw [padB_size]; omega, by omega, by omega⟩
    unfold padB
    rw [append_list, zerosB_list]
    refine good_app ?_ (zeros_good _)
    split
    · exact good_extract ds _ _ hg
    · exact hg
  · rw [padB_size] at h2
    refine ⟨h1, ?_, ?_, ?_, ?_⟩ <;> cases more <;> simp at h2 ⊢ <;> omega
theorem fix_good (d : ByteArray) (p : Int) (k : Nat) (hg : good 10 d.data.toList) : good 10 (fxE (fxD d p) (fxP p) k).data.toList := by
  have h1 : good 10 (fxD d p).data.toList := by
    unfold fxD
    split
    · rw [append_list]; exact good_app (zeros_good _) hg
    · exact hg
  unfold fxE
  split
  · rw [append_list]; exact good_app h1 (zeros_good _)
  · exact h1
/-- The digits of Fixed are read. -/
theorem fix_read (s : Bool) (d : ByteArray) (p : Int) (k : Nat) (hg : good 10 d.data.toList) (hp : p ≤ 400) (hk : k ≤ 400) :
    ∃ v, ReadA (sgnB s ++ fixB d p k) true 0 (· = v) ∧ (d.size = 0 → p = 1 → v = signBit s) := by
  have hgE := fix_good d p k hg
  have hM1 : 1 ≤ fxP p := by unfold fxP; split <;> omega
  have hM2 : fxP p ≤ 400 := by unfold fxP; split <;> omega
  obtain ⟨hz1, _⟩ := fxE_size (fxD d p) (fxP p) k
  obtain ⟨M, hM⟩ : ∃ M : Nat, fxP p = (M : Int) := ⟨(fxP p).toNat, by omega⟩
  have hzero : d.size = 0 → p = 1 → valN 10 (fxE (fxD d p) (fxP p) k).data.toList = 0 := fun h0 h1 => by
    subst h1
    have hd : d.data.toList = [] := List.length_eq_zero_iff.1 (by rw [data_len]; exact h0)
    have e : fxD d 1 = d := by unfold fxD; rw [if_neg (by omega)]
    rw [e]
    unfold fxE
    split
    · rw [append_list, zerosB_list, hd, List.nil_append]
      have := zeros_ahead (fxP 1 + (k : Int) - (d.size : Int)).toNat []
      rw [List.append_nil, valN_nil] at this
      exact this
    · rw [hd, valN_nil]
  unfold fixB
  generalize fxE (fxD d p) (fxP p) k = T at *
  rw [hM, Int.toNat_natCast]
  have hMT : M + k ≤ T.size := by omega
  have ha : (T.extract 0 M).size = M := by rw [ByteArray.size_extract]; omega
  have hgA := good_extract T 0 M hgE
  have hgB := good_extract T M (M + k) hgE
  have hsz := sgnB_size s
  have hv0 : ∀ (t : ByteArray) (e : Int), valN 10 t.data.toList = 0 → flW s 10 t e = signBit s := fun t e h => by
    unfold flW decW
    rw [if_neg (by omega), h, if_pos rfl]
    rfl
  have hsub : ∀ (l m : List UInt8), valN 10 (l ++ m) = 0 → valN 10 l = 0 := fun l m h => by
    rw [valN_append] at h
    have hp : 0 < 10 ^ m.length := Nat.pow_pos (by omega)
    have h1 : valN 10 l * 10 ^ m.length = 0 := by omega
    rcases Nat.mul_eq_zero.1 h1 with h2 | h2
    · exact h2
    · omega
  have hpre : ∀ j, j ≤ T.size → (T.extract 0 j).data.toList ++ T.data.toList.drop j = T.data.toList := fun j _ => by
    rw [Lib.extract_eq]
    simp only [Nat.sub_zero, List.drop_zero]
    exact List.take_append_drop j _
  by_cases hk0 : k = 0
  · rw [if_pos hk0, sgn_text]
    have e : T.extract 0 M = T.extract 0 M ++ ByteArray.empty ++ ByteArray.empty := by rw [ByteArray.append_empty, ByteArray.append_empty]
    rw [e]
    have hs : (sgnT s (T.extract 0 M ++ ByteArray.empty ++ ByteArray.empty)).size ≤ 1200 := by rw [← e, ← sgn_text, append_size]; omega
    refine ⟨_, read_made s (T.extract 0 M) ByteArray.empty ByteArray.empty ByteArray.empty 0 (by omega) hgA (.inl ⟨rfl, rfl⟩) (fun c hc => by cases hc) (.inl ⟨rfl, rfl⟩) hs, fun h0 h1 => ?_⟩
    rw [ByteArray.append_empty]
    refine hv0 _ _ (hsub _ (T.data.toList.drop M) ?_)
    rw [hpre M (by omega)]
    exact hzero h0 h1
  · rw [if_neg hk0, sgn_text]
    have hb : (T.extract M (M + k)).size = k := by rw [ByteArray.size_extract]; omega
    have e : T.extract 0 M ++ ⟨#[46]⟩ ++ T.extract M (M + k) = T.extract 0 M ++ (dotB ++ T.extract M (M + k)) ++ ByteArray.empty := by
      rw [ByteArray.append_empty, ByteArray.append_assoc]; rfl
    rw [e]
    have hs : (sgnT s (T.extract 0 M ++ (dotB ++ T.extract M (M + k)) ++ ByteArray.empty)).size ≤ 1200 := by
      rw [← e, ← sgn_text, append_size, append_size, append_size]
      have e1 : (⟨#[46]⟩ : ByteArray).size = 1 := rfl
      omega
    refine ⟨_, read_made s (T.extract 0 M) (dotB ++ T.extract M (M + k)) ByteArray.empty (T.extract M (M + k)) 0 (by omega) hgA (.inr ⟨rfl, by omega⟩) hgB (.inl ⟨rfl, rfl⟩) hs, fun h0 h1 => ?_⟩
    have hj : (T.extract 0 M ++ T.extract M (M + k)).data.toList = (T.extract 0 (M + k)).data.toList := by
      rw [append_list, Lib.extract_eq, Lib.extract_eq, Lib.extract_eq]
      simp only [Nat.sub_zero, List.drop_zero, Nat.add_sub_cancel_left]
      rw [List.take_add]
    refine hv0 _ _ ?_
    rw [hj]
    refine hsub _ (T.data.toList.drop (M + k)) ?_
    rw [hpre (M + k) hMT]
    exact hzero h0 h1
/-- The next digit tells whether more or less than a half is behind. -/
theorem rounds_half (ds : ByteArray) (N : Nat) (hN : N < ds.size) (hg : good 10 ds.data.toList) (R : Nat) (hv : valN 10 ds.data.toList = valN 10 (padB ds N).data.toList * 10 ^ (ds.size - N) + R) :
    (roundsB ds (N : Int) = true → 10 ^ (ds.size - N) ≤ 2 * R) ∧ (roundsB ds (N : Int) = false → 2 * R ≤ 10 ^ (ds.size - N)) := by
  have hl : ds.data.toList.length = ds.size := data_len ds
  -- what is behind, by its first digit
  have hdrop : ds.data.toList.drop N = ds[N] :: ds.data.toList.drop (N + 1) := by
    rw [List.drop_eq_getElem_cons (by rw [hl]; exact hN)]
    rfl
  obtain ⟨_, R', hR', hv'⟩ := pad_val ds N hN hg
  have hRR : R = valN 10 (ds.data.toList.drop N) := by
    have e : (padB ds N).data.toList = ds.data.toList.take N := by
      unfold padB
      rw [if_pos hN, append_list, show N - ds.size = 0 by omega, Lib.extract_eq]
      show _ ++ List.replicate 0 48 = _
      simp
    have h1 := valN_append (ds.data.toList.take N) (ds.data.toList.drop N)
    rw [List.take_append_drop, List.length_drop, hl, ← e] at h1
    omega
  have hc := ten_digit ds[N] (hg ds[N] (by rw [← list_get ds N hN]; exact List.getElem_mem _))
  have hg2 : good 10 (ds.data.toList.drop (N + 1)) := fun c hc => hg c (List.mem_of_mem_drop hc)
  have hlt2 := valN_good_lt 10 _ hg2
  rw [List.length_drop, hl] at hlt2
  rw [hdrop, valN_cons, List.length_drop, hl] at hRR
  have hpow : 10 ^ (ds.size - N) = 10 * 10 ^ (ds.size - (N + 1)) := by rw [show ds.size - N = (ds.size - (N + 1)) + 1 by omega, Nat.pow_succ, Nat.mul_comm]
  obtain ⟨g, hgd⟩ : ∃ g : Nat, digN 99 (ds[N].toNat : Int) = (g : Int) ∧ ds[N].toNat = 48 + g ∧ g < 10 := ⟨ds[N].toNat - 48, by omega, by omega, by omega⟩
  rw [hgd.1, Int.toNat_natCast] at hRR
  unfold roundsB
  rw [dif_pos ⟨by omega, by omega⟩]
  simp only [Int.toNat_natCast]
  generalize hP : 10 ^ (ds.size - (N + 1)) = P at *
  generalize valN 10 (ds.data.toList.drop (N + 1)) = Z at *
  have hP0 : 0 < P := by rw [← hP]; exact Nat.pow_pos (by omega)
  by_cases h5 : ds[N].toNat ≠ 53 ∨ N + 1 < ds.size
  · rw [if_pos h5]
    refine ⟨fun h => ?_, fun h => ?_⟩
    · have h53 := of_decide_eq_true h
      have : 5 * P ≤ g * P := Nat.mul_le_mul_right _ (by omega)
      omega
    · have h53 := of_decide_eq_false h
      have : g * P ≤ 4 * P := Nat.mul_le_mul_right _ (by omega)
      omega
  · rw [if_neg h5]
    have hg5 : g = 5 := by omega
    have hs1 : ds.size - (N + 1) = 0 := by omega
    rw [hs1, Nat.pow_zero] at hP
    subst hP
    subst hg5
    exact ⟨fun _ => by omega, fun _ => by omega⟩
/-- The digits that Digits writes are those of the cut. -/
theorem cut_first (ds : ByteArray) (pow : Int) (N : Nat) (up : Bool) (d : ByteArray) (p' : Int) (hN : 1 ≤ N) (h : cutV ds pow N up d p') :
    ∃ W : Nat, (W = valN 10 (padB ds N).data.toList + if up then 1 else 0) ∧ decW 10 (valN 10 (d.extract 0 N).data.toList) (p' - (N : Int)) = decW 10 W (pow - (N : Int)) := by
  rcases h with ⟨rfl, rfl, rfl⟩ | ⟨rfl, more, ⟨hg, hv, hs, hm⟩, rfl⟩
  · refine ⟨_, rfl, ?_⟩
    have e : (padB ds N).extract 0 N = padB ds N := by
      apply ByteArray.ext; apply Array.toList_inj.1
      rw [Lib.extract_eq]
      simp only [Nat.sub_zero, List.drop_zero]
      exact List.take_of_length_le (by rw [data_len, padB_size]; exact Nat.le_refl _)
    rw [e]
    simp
  · rw [padB_size] at hs hm
    refine ⟨_, rfl, ?_⟩
    cases more
    · simp at hs
      have e : d.extract 0 N = d := by
        apply ByteArray.ext; apply Array.toList_inj.1
        rw [Lib.extract_eq]
        simp only [Nat.sub_zero, List.drop_zero]
        exact List.take_of_length_le (by rw [data_len, hs]; exact Nat.le_refl _)
      rw [e, hv]
      simp
    · simp at hs
      have hpow := hm rfl
      have hsplit : d.data.toList = (d.extract 0 N).data.toList ++ [d[N]] := by
        have h1 := extract_two d N (by omega)
        exact h1
      have hlast := ten_digit d[N] (hg d[N] (by rw [← list_get d N (by omega)]; exact List.getElem_mem _))
      have hval : valN 10 d.data.toList = valN 10 (d.extract 0 N).data.toList * 10 + (ds_dig d[N]) := by
        rw [hsplit, valN_append]
        show _ * 10 ^ 1 + _ = _
        rw [valN_cons, valN_nil]
        simp [ds_dig]
      have hdig : ds_dig d[N] < 10 := by unfold ds_dig; omega
      rw [hv, hpow] at hval
      have hNp : 10 ^ N = 10 ^ (N - 1) * 10 := by rw [← Nat.pow_succ]; congr 1; omega
      have hx : valN 10 (d.extract 0 N).data.toList = 10 ^ (N - 1) := by omega
      rw [hx]
      simp only [if_true]
      rw [hpow, hNp]
      have := dec_zeros (10 ^ (N - 1)) 1 (pow - (N : Int))
      rw [Nat.pow_one] at this
      rw [this]
      congr 1
      omega
theorem digits_back (n : Nat) (p : Int) (q k : Nat) (ds : ByteArray) (pow : Int) (hc : Canon n p) (hn : 0 < n) (hq : n = q * 2 ^ k) (hd : ExD ds pow q (p + k)) (N : Nat) (hN : 17 ≤ N) (d : ByteArray) (p' : Int) (h : cutV ds pow N (roundsB ds (N : Int)) d p') :
    decW 10 (valN 10 (d.extract 0 N).data.toList) (p' - (N : Int)) = fw false n p := by
  obtain ⟨W, hW, he⟩ := cut_first ds pow N _ d p' (by omega) h
  rw [he]
  by_cases hs : N < ds.size
  · obtain ⟨_, R, hR, hv⟩ := pad_val ds N hs hd.2.1
    obtain ⟨r1, r2⟩ := rounds_half ds N hs hd.2.1 R hv
    have hpos := pad_pos ds N hs (by omega) hd.2.1 hd.2.2.1
    refine digits_near n p q k ds pow hc hn hq hd N W hN (by omega) (by omega) ?_
    cases hr : roundsB ds (N : Int)
    · have := r2 hr
      rw [hr] at hW
      simp at hW
      left
      rw [hW]
      exact ⟨by omega, by omega⟩
    · have := r1 hr
      rw [hr] at hW
      simp at hW
      right
      rw [hW, Nat.add_mul, Nat.one_mul]
      exact ⟨by omega, by omega⟩
  · have hr : roundsB ds (N : Int) = false := by
      unfold roundsB
      rw [dif_neg (by omega)]
    rw [hr] at hW
    simp at hW
    have hq0 : 0 < q := by
      apply Nat.pos_of_ne_zero
      intro h
      rw [h, Nat.zero_mul] at hq
      omega
    have hv : valN 10 (padB ds N).data.toList = valN 10 ds.data.toList * 10 ^ (N - ds.size) := by
      unfold padB
      rw [if_neg hs, append_list, zerosB_list, zeros_behind]
    rw [hW, hv, dec_zeros, show pow - (N : Int) + ((N - ds.size : Nat) : Int) = pow - (ds.size : Int) by omega, exD_reads ds pow q (p + k) hq0 hd]
    have := fw_scale false q k (p + k)
    rw [show p + (k : Int) - (k : Int) = p by omega, ← hq] at this
    exact this.symm
end Go.Proofs.YtpmccbkhkaoccaaGreatDoor

