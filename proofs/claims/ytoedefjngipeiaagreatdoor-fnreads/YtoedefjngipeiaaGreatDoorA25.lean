import Derived.WalkKit
import Derived.Test.YtoedefjngipeiaaGreatDoorA24
import Derived.Test.YtoedefjngipeiaaGreatDoorA22
import Derived.Test.YtoedefjngipeiaaGreatDoorA20
import Derived.Test.YtoedefjngipeiaaGreatDoorA23
/- A number as an odd one times a power of two: plain. -/
namespace Go.Proofs.YtoedefjngipeiaaGreatDoor

theorem odd_some (n : Nat) : 0 < n → ∃ q t, n = q * 2 ^ t ∧ q % 2 = 1 := by
  induction n using Nat.strongRecOn with
  | ind n ih =>
    intro h
    by_cases h1 : n % 2 = 1
    · exact ⟨n, 0, by rw [Nat.pow_zero, Nat.mul_one], h1⟩
    · obtain ⟨q, t, hq, hq1⟩ := ih (n / 2) (by omega) (by omega)
      refine ⟨q, t + 1, ?_, hq1⟩
      rw [Nat.pow_succ, ← Nat.mul_assoc, ← hq]; omega
theorem odd_one (q t q' t' : Nat) (h : q * 2 ^ t = q' * 2 ^ t') (h1 : q % 2 = 1) (h2 : q' % 2 = 1) : q = q' ∧ t = t' := by
  have key : ∀ (q t q' t' : Nat), q * 2 ^ t = q' * 2 ^ t' → q % 2 = 1 → t < t' → False := by
    intro q t q' t' h h1 hlt
    obtain ⟨d, hd⟩ : ∃ d, t' = t + (d + 1) := ⟨t' - t - 1, by omega⟩
    rw [hd, Nat.pow_add, Nat.mul_comm (2 ^ t), ← Nat.mul_assoc] at h
    have h3 := Nat.eq_of_mul_eq_mul_right (Nat.two_pow_pos t) h
    rw [Nat.pow_succ, ← Nat.mul_assoc] at h3
    omega
  rcases Nat.lt_trichotomy t t' with hlt | rfl | hlt
  · exact (key q t q' t' h h1 hlt).elim
  · exact ⟨Nat.eq_of_mul_eq_mul_right (Nat.two_pow_pos t) h, rfl⟩
  · exact (key q' t' q t h.symm h2 hlt).elim
end Go.Proofs.YtoedefjngipeiaaGreatDoor

/- PartsOf of the specification at a number whose parts are known. -/
namespace Go.Proofs.YtoedefjngipeiaaGreatDoor
open Go.ChangeShapes Go.WideShapes Go.RowKit
open Ieee (double)

theorem parts_fixed (s : Bool) (n : Nat) (p : Int) (q k : Nat) (hc : Canon n p) (h0 : 0 < n) (hq : n = q * 2 ^ k) (hq1 : q % 2 = 1) (w : World) :
    Calls Tryz.prog 80 #[.float .f64 (fw s n p)] w fun e w' => e = .returned (.agg #[.int .i64 1, .bool s, .int .i64 q, .int .i64 (p + k)]) ∧ Below w.heap.size w w' := by
  refine (parts_number s n p hc h0 w).mono ?_
  rintro e w' ⟨q', t', h1, h2, rfl, hb⟩
  obtain ⟨rfl, rfl⟩ := odd_one q' t' q k (h1.symm.trans hq) h2 hq1
  exact ⟨rfl, hb⟩
theorem parts_none (w : World) :
    Calls Tryz.prog 80 #[.float .f64 0] w fun e w' => e = .returned (.agg #[.int .i64 0, .bool false, .int .i64 0, .int .i64 0]) ∧ Below w.heap.size w w' := by
  refine (parts_zero false w).mono ?_
  rintro e w' ⟨rfl, hb⟩
  exact ⟨rfl, hb⟩
end Go.Proofs.YtoedefjngipeiaaGreatDoor

/- l5exact of the specification, at whatever number. -/
namespace Go.Proofs.YtoedefjngipeiaaGreatDoor
open Go.ChangeShapes Go.WideShapes Go.RowKit
open Ieee (double)

/-- All digits of a number above 0. -/
theorem l5exact_any (n : Nat) (p : Int) (hc : Canon n p) (h0 : 0 < n) : ∃ q k : Nat, n = q * 2 ^ k ∧ q % 2 = 1 ∧ ∀ w, Calls Tryz.prog 81 #[.float .f64 (fw false n p)] w fun e w' =>
    ∃ ds pow, ExD ds pow q (p + k) ∧ ds.size ≤ 1100 ∧ -1100 ≤ pow ∧ pow ≤ 1100 ∧ e = .returned (.agg #[.string ds, .int .i64 pow]) ∧ Below w.heap.size w w' := by
  obtain ⟨q, k, hq, hq1⟩ := odd_some n h0
  refine ⟨q, k, hq, hq1, fun w => ?_⟩
  have hn : n < 9007199254740992 := by rcases hc with h | h <;> omega
  have hp1 : -1074 ≤ p := by rcases hc with h | h <;> omega
  have hp2 : p ≤ 971 := by rcases hc with h | h <;> omega
  have hqn : q ≤ n := by rw [hq]; exact Nat.le_mul_of_pos_right q (Nat.two_pow_pos k)
  have hk : k ≤ 52 := by
    have h1 : 2 ^ k ≤ n := by rw [hq]; exact Nat.le_mul_of_pos_left _ (by omega)
    have h2 : 2 ^ k < 2 ^ 53 := Nat.lt_of_le_of_lt h1 hn
    have := (Nat.pow_lt_pow_iff_right (a := 2) (by omega)).1 h2
    omega
  have hP := fun w => parts_fixed false n p q k hc h0 hq hq1 w
  by_cases hE : 0 ≤ p + (k : Int)
  · obtain ⟨E, hE'⟩ := Int.eq_ofNat_of_zero_le hE
    rw [hE'] at hP ⊢
    exact l5exact_up _ q E hP (by omega) (by omega) (by omega) w
  · obtain ⟨s, hs⟩ : ∃ s : Nat, p + (k : Int) = -(s : Int) := ⟨(-(p + (k : Int))).toNat, by omega⟩
    rw [hs] at hP ⊢
    exact l5exact_down _ q s hP (by omega) (by omega) (by omega) (by omega) w
end Go.Proofs.YtoedefjngipeiaaGreatDoor

/- Shortest of the specification. -/
namespace Go.Proofs.YtoedefjngipeiaaGreatDoor
open Go.ChangeShapes Go.WideShapes Go.RowKit
open Ieee (double)

/-- Digits as Shortest writes them. -/
def shortB (u : ByteArray) (p : Int) : ByteArray := if -5 ≤ p ∧ p ≤ 21 then plainB u p else sciB u p
theorem least_facts (ds : ByteArray) (pow : Int) (x : Nat) (t : ByteArray) (p' : Int) (hg : good 10 ds.data.toList) (hs : ds.size ≤ 1100) (h : LeastD ds pow x t p') : 0 < t.size ∧ t.size ≤ 1100 ∧ good 10 t.data.toList ∧ pow ≤ p' ∧ p' ≤ pow + 1 := by
  obtain ⟨n, t2, p2, h1, h2, hc, _, h⟩ := h
  have hz := cut5_size _ _ _ _ _ _ hc
  have hgd := cutV_good _ _ _ _ _ _ hg hc
  have hps := padB_size ds n
  rcases h with ⟨_, _, rfl, rfl⟩ | ⟨_, _, rfl, rfl⟩
  · exact ⟨by omega, by omega, padB_good ds n hg, by omega, by omega⟩
  · refine ⟨by omega, ?_, hgd, hz.2.2.1, hz.2.2.2⟩
    by_cases hn : n < ds.size
    · omega
    · rw [decide_eq_false hn] at hc
      rcases hc with ⟨_, rfl, _⟩ | ⟨h, _⟩
      · omega
      · cases h

set_option maxHeartbeats 1000000 in
theorem shortest_nan (x : Nat) (hx : IsNan x) (w : World) :
    Calls Tryz.prog 55 #[.float .f64 x] w fun e w' => e = .returned (.string ⟨#[110, 97, 110]⟩) ∧ Below w.heap.size w w' := by
  have H1 : Hid _ := fun w => l5size_nan x hx w
  have H2 : Hid _ := fun w => l5odd_nan x hx w
  clear hx
  go_enter Tryz.func55, Tryz.ntmps55
  go_wp2_with fail
  refine (H1.out _).mono ?_
  rintro e w1 ⟨rfl, rfl⟩
  go_wp2_with fail
  refine (H2.out _).mono ?_
  rintro e w1 ⟨rfl, rfl⟩
  go_wp2
  go_ret
  exact ⟨rfl, Below.refl _ _⟩
set_option maxHeartbeats 1000000 in
theorem shortest_odd (s : Bool) (r : Nat) (t : ByteArray) (hr : r ≤ 9218868437227405312) (ht : t.size ≤ 10) (hO : ∀ w, Calls Tryz.prog 75 #[.float .f64 r] w fun e w' => e = .returned (.tuple #[.string t, .bool true]) ∧ w' = w) (w : World) :
    Calls Tryz.prog 55 #[.float .f64 (signBit s + r)] w fun e w' => e = .returned (.string (sgnB s ++ t)) ∧ Below w.heap.size w w' := by
  have H1 : Hid _ := fun w => l5size_any s r hr w
  have H2 : Hid _ := hO
  have z3 := sgnB_size s
  generalize sgnB s = S at *
  generalize signBit s + r = X at *
  clear hO hr
  go_enter Tryz.func55, Tryz.ntmps55
  go_wp2_with fail
  refine (H1.out _).mono ?_
  rintro e w1 ⟨rfl, rfl⟩
  go_wp2_with fail
  refine (H2.out _).mono ?_
  rintro e w1 ⟨rfl, rfl⟩
  go_wp2
  go_ret
  exact ⟨rfl, Below.refl _ _⟩
set_option maxHeartbeats 2000000 in
set_option maxRecDepth 100000 in
theorem shortest_num (s : Bool) (r : Nat) (q : Nat) (E : Int) (hr : r < 9218868437227405312) (hr0 : r ≠ 0) (hL : ∀ w, Calls Tryz.prog 77 #[.float .f64 r] w fun e w' =>
    ∃ ds pow t p', ExD ds pow q E ∧ ds.size ≤ 1100 ∧ -1100 ≤ pow ∧ pow ≤ 1100 ∧ LeastD ds pow r t p' ∧ e = .returned (.agg #[.string t, .int .i64 p']) ∧ Below w.heap.size w w') (w : World) :
    Calls Tryz.prog 55 #[.float .f64 (signBit s + r)] w fun e w' => ∃ ds pow t p' u, ExD ds pow q E ∧ LeastD ds pow r t p' ∧ TrimD t u ∧ (sgnB s ++ shortB u p').size ≤ 3100 ∧ e = .returned (.string (sgnB s ++ shortB u p')) ∧ Below w.heap.size w w' := by
  have H1 : Hid _ := fun w => l5size_any s r (by omega) w
  have H2 : Hid (∀ w, Calls Tryz.prog 75 #[.float .f64 r] w fun e w' => e = .returned (.tuple #[.string ⟨#[48]⟩, .bool false]) ∧ w' = w) := fun w => by
    have := l5odd_num r hr w
    rw [decide_eq_false hr0] at this
    exact this
  have H3 : Hid _ := hL
  have z3 := sgnB_size s
  generalize sgnB s = S at *
  generalize signBit s + r = X at *
  clear hL hr hr0
  go_enter Tryz.func55, Tryz.ntmps55
  go_wp2_with fail
  refine (H1.out _).mono ?_
  rintro e w1 ⟨rfl, rfl⟩
  go_wp2_with fail
  refine (H2.out _).mono ?_
  rintro e w1 ⟨rfl, rfl⟩
  go_wp2_with fail
  refine (H3.out _).mono ?_
  rintro e w2 ⟨ds, pow, t, p', hd, hs, hp1, hp2, hle, rfl, hb2⟩
  obtain ⟨ht0, hts, htg, hq1, hq2⟩ := least_facts ds pow r t p' hd.2.1 hs hle
  have HD : Hid _ := fun (_ : Unit) => And.intro hd (And.intro hle hb2)
  have HT : Hid _ := fun w => l5trim_any t p' (by omega) ht0 htg w
  clear hd hle hb2 htg H1 H2 H3
  go_wp2_with fail
  refine (HT.out _).mono ?_
  rintro e w3 ⟨u, htu, rfl, hb3⟩
  have hus : u.size ≤ 1100 := by obtain ⟨_, _, j, _, h, _⟩ := htu; omega
  have hu0 : 0 < u.size := htu.1
  have HB3 : Hid (Below w1.heap.size w1 w3) := (HD.out ()).2.2.trans (hb3.mono (HD.out ()).2.2.size)
  have HTU : Hid _ := fun (_ : Unit) => htu
  clear htu hb3 HT
  by_cases hp : -5 ≤ p' ∧ p' ≤ 21
  · obtain ⟨hpa, hpb⟩ := hp
    have HS : Hid (shortB u p' = plainB u p') := by show _ = _; unfold shortB; rw [if_pos ⟨hpa, hpb⟩]
    have HPL : Hid _ := fun w => l5plain_any u p' hus (by omega) (by omega) w
    have hsz := plainB_size u p' hus (by omega) (by omega)
    obtain ⟨P, hP⟩ : ∃ P, P = plainB u p' := ⟨_, rfl⟩
    rw [← hP] at hsz HPL HS
    clear hP
    go_wp2_with fail
    refine (HPL.out _).mono ?_
    rintro e w4 ⟨rfl, hb4⟩
    have HB4 : Hid (Below w1.heap.size w1 w4) := (HB3.out.alloc HB3.out.size _).trans (hb4.mono (by have := HB3.out.size; simp; omega))
    clear hb4
    go_wp2
    go_ret
    exact ⟨ds, pow, t, p', u, (HD.out ()).1, (HD.out ()).2.1, HTU.out (), by rw [HS.out, append_size]; omega, by rw [HS.out]; rfl, HB4.out⟩
  · have HS : Hid (shortB u p' = sciB u p') := by show _ = _; unfold shortB; rw [if_neg hp]
    have HPL : Hid _ := fun w => l5science_any u p' (by omega) hu0 (by omega) (by omega) w
    have hsz := sciB_size u p'
    obtain ⟨P, hP⟩ : ∃ P, P = sciB u p' := ⟨_, rfl⟩
    rw [← hP] at hsz HPL HS
    clear hP
    have hpp : p' < -5 ∨ 21 < p' := by omega
    clear hp
    rcases hpp with hpp | hpp
    all_goals
      go_wp2_with fail
      refine (HPL.out _).mono ?_
      rintro e w4 ⟨rfl, hb4⟩
      have HB4 : Hid (Below w1.heap.size w1 w4) := (HB3.out.alloc HB3.out.size _).trans (hb4.mono (by have := HB3.out.size; simp; omega))
      clear hb4
      go_wp2
      go_ret
      exact ⟨ds, pow, t, p', u, (HD.out ()).1, (HD.out ()).2.1, HTU.out (), by rw [HS.out, append_size]; omega, by rw [HS.out]; rfl, HB4.out⟩
/-- What Shortest answers. -/
def shortV (x : Nat) (t : ByteArray) : Prop := (IsNan x ∧ t = ⟨#[110, 97, 110]⟩) ∨ (∃ s, x = iw s ∧ t = sgnB s ++ ⟨#[105, 110, 102]⟩) ∨ (∃ s, x = signBit s ∧ t = sgnB s ++ ⟨#[48]⟩)
  ∨ (∃ (s : Bool) (n : Nat) (p : Int) (q k : Nat) (ds : ByteArray) (pow : Int) (d : ByteArray) (p' : Int) (u : ByteArray), Canon n p ∧ 0 < n ∧ x = fw s n p ∧ n = q * 2 ^ k ∧ q % 2 = 1 ∧ ExD ds pow q (p + k) ∧ LeastD ds pow (fw false n p) d p' ∧ TrimD d u ∧ t = sgnB s ++ shortB u p')
theorem specShortest_any (x : Nat) (hx : x < 18446744073709551616) (w : World) :
    Calls Tryz.prog 55 #[.float .f64 x] w fun e w' => ∃ t, shortV x t ∧ t.size ≤ 3100 ∧ e = .returned (.string t) ∧ Below w.heap.size w w' := by
  rcases float_cases x hx with h | ⟨s, rfl⟩ | ⟨s, n, p, hc, rfl⟩
  · refine (shortest_nan x h w).mono ?_
    rintro e w' ⟨rfl, hb⟩
    exact ⟨_, .inl ⟨h, rfl⟩, by decide, rfl, hb⟩
  · refine (shortest_odd s 9218868437227405312 _ (by omega) (by decide) (fun w => l5odd_inf w) w).mono ?_
    rintro e w' ⟨rfl, hb⟩
    exact ⟨_, .inr (.inl ⟨s, rfl, rfl⟩), by cases s <;> decide, rfl, hb⟩
  · by_cases h0 : n = 0
    · subst h0
      rw [fw_zero]
      have := shortest_odd s 0 ⟨#[48]⟩ (by omega) (by decide) (fun w => l5odd_num 0 (by omega) w) w
      rw [Nat.add_zero] at this
      refine this.mono ?_
      rintro e w' ⟨rfl, hb⟩
      exact ⟨_, .inr (.inr (.inl ⟨s, rfl, rfl⟩)), by cases s <;> decide, rfl, hb⟩
    · obtain ⟨q, k, hq, hq1, hX⟩ := l5exact_any n p hc (by omega)
      have hfw : fw false n p = rung n p := by rw [fw_canon _ _ _ hc]; exact Nat.zero_add _
      have hfs : fw s n p = signBit s + rung n p := fw_canon _ _ _ hc
      have hqk : fw false n p = fw false q (p + k) := by
        have := fw_scale false q k (p + k)
        rw [show p + (k : Int) - (k : Int) = p by omega, ← hq] at this
        exact this
      have hL := fun w => l5least_any (fw false n p) q (p + k) (by rcases Nat.eq_zero_or_pos q with h | h; (subst h; omega); exact h) hqk (order_self_fw false n p hc) hX w
      rw [hfw] at hL
      have := shortest_num s (rung n p) q (p + k) (rung_lt n p hc) (fun h => h0 (rung_zero n p h)) hL w
      rw [← hfs] at this
      refine this.mono ?_
      rintro e w' ⟨ds, pow, d, p', u, hd, hle, htu, hz, rfl, hb⟩
      rw [← hfw] at hle
      exact ⟨_, .inr (.inr (.inr ⟨s, n, p, q, k, ds, pow, d, p', u, hc, by omega, rfl, hq, hq1, hd, hle, htu, rfl⟩)), hz, rfl, hb⟩
end Go.Proofs.YtoedefjngipeiaaGreatDoor

