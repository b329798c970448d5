import Derived.Test.YtaoccjaaopmfdaaGreatDoorB24
import Derived.Test.YtaoccjaaopmfdaaGreatDoorB18
import Derived.Test.YtaoccjaaopmfdaaGreatDoorB09
import Derived.Test.YtaoccjaaopmfdaaGreatDoorB17
import Derived.Test.YtaoccjaaopmfdaaGreatDoorB13
import Derived.Test.YtaoccjaaopmfdaaGreatDoorB14
import Derived.Test.YtaoccjaaopmfdaaGreatDoorB11
import Derived.Test.YtaoccjaaopmfdaaGreatDoorB06
import Derived.Test.YtaoccjaaopmfdaaGreatDoorB19
import Derived.Test.YtaoccjaaopmfdaaGreatDoorB20
import Derived.Test.YtaoccjaaopmfdaaGreatDoorB07
/- Shortest of the specification. -/
namespace Go.Proofs.YtaoccjaaopmfdaaGreatDoor
open Go.ChangeShapes Go.WideShapes Go.RowKit
open Ieee (double)

/-- Digits as Shortest writes them. -/
def shortB (u : ByteArray) (p : Int) : ByteArray := if -5 ≤ p ∧ p ≤ 21 then plainB u p else sciB u p
theorem least_facts (ds : ByteArray) (pow : Int) (x : Nat) (t : ByteArray) (p' : Int) (hg : good 10 ds.data.toList) (hs : ds.size ≤ 1100) (h : LeastD ds pow x t p') : 0 < t.size ∧ t.size ≤ 1100 ∧ good 10 t.data.toList ∧ pow ≤ p' ∧ p' ≤ pow + 1 := by
  obtain ⟨n, t2, p2, h1, h2, hc, _, h⟩ := h
  have hz := cut5_size _ _ _ _ _ _ hc
  have hgd := cutV_good _ _ _ _ _ _ hg hc
  have hps := padB_size ds n
  rcases h with ⟨_, _, rfl, rfl⟩ | ⟨_, _, rfl, rfl⟩
  · exact ⟨by omega, by omega, padB_good ds n hg, by omega, by omega⟩
  · refine ⟨by omega, ?_, hgd, hz.2.2.1, hz.2.2.2⟩
    by_cases hn : n < ds.size
    · omega
    · rw [decide_eq_false hn] at hc
      rcases hc with ⟨_, rfl, _⟩ | ⟨h, _⟩
      · omega
      · cases h

set_option maxHeartbeats 1000000 in
theorem shortest_nan (x : Nat) (hx : IsNan x) (w : World) :
    Calls Tryz.prog 11 #[.float .f64 x] w fun e w' => e = .returned (.string ⟨#[110, 97, 110]⟩) ∧ Below w.heap.size w w' := by
  have H1 : Hid _ := fun w => l5size_nan x hx w
  have H2 : Hid _ := fun w => l5odd_nan x hx w
  clear hx
  go_enter Tryz.func11, Tryz.ntmps11
  go_wp2_with fail
  refine (H1.out _).mono ?_
  rintro e w1 ⟨rfl, rfl⟩
  go_wp2_with fail
  refine (H2.out _).mono ?_
  rintro e w1 ⟨rfl, rfl⟩
  go_wp2
  go_ret
  exact ⟨rfl, Below.refl _ _⟩
set_option maxHeartbeats 1000000 in
theorem shortest_odd (s : Bool) (r : Nat) (t : ByteArray) (hr : r ≤ 9218868437227405312) (ht : t.size ≤ 10) (hO : ∀ w, Calls Tryz.prog 37 #[.float .f64 r] w fun e w' => e = .returned (.tuple #[.string t, .bool true]) ∧ w' = w) (w : World) :
    Calls Tryz.prog 11 #[.float .f64 (signBit s + r)] w fun e w' => e = .returned (.string (sgnB s ++ t)) ∧ Below w.heap.size w w' := by
  have H1 : Hid _ := fun w => l5size_any s r hr w
  have H2 : Hid _ := hO
  have z3 := sgnB_size s
  generalize sgnB s = S at *
  generalize signBit s + r = X at *
  clear hO hr
  go_enter Tryz.func11, Tryz.ntmps11
  go_wp2_with fail
  refine (H1.out _).mono ?_
  rintro e w1 ⟨rfl, rfl⟩
  go_wp2_with fail
  refine (H2.out _).mono ?_
  rintro e w1 ⟨rfl, rfl⟩
  go_wp2
  go_ret
  exact ⟨rfl, Below.refl _ _⟩
set_option maxHeartbeats 2000000 in
set_option maxRecDepth 100000 in
theorem shortest_num (s : Bool) (r : Nat) (q : Nat) (E : Int) (hr : r < 9218868437227405312) (hr0 : r ≠ 0) (hL : ∀ w, Calls Tryz.prog 39 #[.float .f64 r] w fun e w' =>
    ∃ ds pow t p', ExD ds pow q E ∧ ds.size ≤ 1100 ∧ -1100 ≤ pow ∧ pow ≤ 1100 ∧ LeastD ds pow r t p' ∧ e = .returned (.agg #[.string t, .int .i64 p']) ∧ Below w.heap.size w w') (w : World) :
    Calls Tryz.prog 11 #[.float .f64 (signBit s + r)] w fun e w' => ∃ ds pow t p' u, ExD ds pow q E ∧ LeastD ds pow r t p' ∧ TrimD t u ∧ (sgnB s ++ shortB u p').size ≤ 3100 ∧ e = .returned (.string (sgnB s ++ shortB u p')) ∧ Below w.heap.size w w' := by
  have H1 : Hid _ := fun w => l5size_any s r (by omega) w
  have H2 : Hid (∀ w, Calls Tryz.prog 37 #[.float .f64 r] w fun e w' => e = .returned (.tuple #[.string ⟨#[48]⟩, .bool false]) ∧ w' = w) := fun w => by
    have := l5odd_num r hr w
    rw [decide_eq_false hr0] at this
    exact this
  have H3 : Hid _ := hL
  have z3 := sgnB_size s
  generalize sgnB s = S at *
  generalize signBit s + r = X at *
  clear hL hr hr0
  go_enter Tryz.func11, Tryz.ntmps11
  go_wp2_with fail
  refine (H1.out _).mono ?_
  rintro e w1 ⟨rfl, rfl⟩
  go_wp2_with fail
  refine (H2.out _).mono ?_
  rintro e w1 ⟨rfl, rfl⟩
  go_wp2_with fail
  refine (H3.out _).mono ?_
  rintro e w2 ⟨ds, pow, t, p', hd, hs, hp1, hp2, hle, rfl, hb2⟩
  obtain ⟨ht0, hts, htg, hq1, hq2⟩ := least_facts ds pow r t p' hd.2.1 hs hle
  have HD : Hid _ := fun (_ : Unit) => And.intro hd (And.intro hle hb2)
  have HT : Hid _ := fun w => l5trim_any t p' (by omega) ht0 htg w
  clear hd hle hb2 htg H1 H2 H3
  go_wp2_with fail
  refine (HT.out _).mono ?_
  rintro e w3 ⟨u, htu, rfl, hb3⟩
  have hus : u.size ≤ 1100 := by obtain ⟨_, _, j, _, h, _⟩ := htu; omega
  have hu0 : 0 < u.size := htu.1
  have HB3 : Hid (Below w1.heap.size w1 w3) := (HD.out ()).2.2.trans (hb3.mono (HD.out ()).2.2.size)
  have HTU : Hid _ := fun (_ : Unit) => htu
  clear htu hb3 HT
  by_cases hp : -5 ≤ p' ∧ p' ≤ 21
  · obtain ⟨hpa, hpb⟩ := hp
    have HS : Hid (shortB u p' = plainB u p') := by show _ = _; unfold shortB; rw [if_pos ⟨hpa, hpb⟩]
    have HPL : Hid _ := fun w => l5plain_any u p' hus (by omega) (by omega) w
    have hsz := plainB_size u p' hus (by omega) (by omega)
    obtain ⟨P, hP⟩ : ∃ P, P = plainB u p' := ⟨_, rfl⟩
    rw [← hP] at hsz HPL HS
    clear hP
    go_wp2_with fail
    refine (HPL.out _).mono ?_
    rintro e w4 ⟨rfl, hb4⟩
    have HB4 : Hid (Below w1.heap.size w1 w4) := (HB3.out.alloc HB3.out.size _).trans (hb4.mono (by have := HB3.out.size; simp; omega))
    clear hb4
    go_wp2
    go_ret
    exact ⟨ds, pow, t, p', u, (HD.out ()).1, (HD.out ()).2.1, HTU.out (), by rw [HS.out, append_size]; omega, by rw [HS.out]; rfl, HB4.out⟩
  · have HS : Hid (shortB u p' = sciB u p') := by show _ = _; unfold shortB; rw [if_neg hp]
    have HPL : Hid _ := fun w => l5science_any u p' (by omega) hu0 (by omega) (by omega) w
    have hsz := sciB_size u p'
    obtain ⟨P, hP⟩ : ∃ P, P = sciB u p' := ⟨_, rfl⟩
    rw [← hP] at hsz HPL HS
    clear hP
    have hpp : p' < -5 ∨ 21 < p' := by omega
    clear hp
    rcases hpp with hpp | hpp
    all_goals
      go_wp2_with fail
      refine (HPL.out _).mono ?_
      rintro e w4 ⟨rfl, hb4⟩
      have HB4 : Hid (Below w1.heap.size w1 w4) := (HB3.out.alloc HB3.out.size _).trans (hb4.mono (by have := HB3.out.size; simp; omega))
      clear hb4
      go_wp2
      go_ret
      exact ⟨ds, pow, t, p', u, (HD.out ()).1, (HD.out ()).2.1, HTU.out (), by rw [HS.out, append_size]; omega, by rw [HS.out]; rfl, HB4.out⟩
/-- What Shortest answers. -/
def shortV (x : Nat) (t : ByteArray) : Prop := (IsNan x ∧ t = ⟨#[110, 97, 110]⟩) ∨ (∃ s, x = iw s ∧ t = sgnB s ++ ⟨#[105, 110, 102]⟩) ∨ (∃ s, x = signBit s ∧ t = sgnB s ++ ⟨#[48]⟩)
  ∨ (∃ (s : Bool) (n : Nat) (p : Int) (q k : Nat) (ds : ByteArray) (pow : Int) (d : ByteArray) (p' : Int) (u : ByteArray), Canon n p ∧ 0 < n ∧ x = fw s n p ∧ n = q * 2 ^ k ∧ q % 2 = 1 ∧ ExD ds pow q (p + k) ∧ LeastD ds pow (fw false n p) d p' ∧ TrimD d u ∧ t = sgnB s ++ shortB u p')
theorem specShortest_any (x : Nat) (hx : x < 18446744073709551616) (w : World) :
    Calls Tryz.prog 11 #[.float .f64 x] w fun e w' => ∃ t, shortV x t ∧ t.size ≤ 3100 ∧ e = .returned (.string t) ∧ Below w.heap.size w w' := by
  rcases float_cases x hx with h | ⟨s, rfl⟩ | ⟨s, n, p, hc, rfl⟩
  · refine (shortest_nan x h w).mono ?_
    rintro e w' ⟨rfl, hb⟩
    exact ⟨_, .inl ⟨h, rfl⟩, by decide, rfl, hb⟩
  · refine (shortest_odd s 9218868437227405312 _ (by omega) (by decide) (fun w => l5odd_inf w) w).mono ?_
    rintro e w' ⟨rfl, hb⟩
    exact ⟨_, .inr (.inl ⟨s, rfl, rfl⟩), by cases s <;> decide, rfl, hb⟩
  · by_cases h0 : n = 0
    · subst h0
      rw [fw_zero]
      have := shortest_odd s 0 ⟨#[48]⟩ (by omega) (by decide) (fun w => l5odd_num 0 (by omega) w) w
      rw [Nat.add_zero] at this
      refine this.mono ?_
      rintro e w' ⟨rfl, hb⟩
      exact ⟨_, .inr (.inr (.inl ⟨s, rfl, rfl⟩)), by cases s <;> decide, rfl, hb⟩
    · obtain ⟨q, k, hq, hq1, hX⟩ := l5exact_any n p hc (by omega)
      have hfw : fw false n p = rung n p := by rw [fw_canon _ _ _ hc]; exact Nat.zero_add _
      have hfs : fw s n p = signBit s + rung n p := fw_canon _ _ _ hc
      have hqk : fw false n p = fw false q (p + k) := by
        have := fw_scale false q k (p + k)
        rw [show p + (k : Int) - (k : Int) = p by omega, ← hq] at this
        exact this
      have hL := fun w => l5least_any (fw false n p) q (p + k) (by rcases Nat.eq_zero_or_pos q with h | h; (subst h; omega); exact h) hqk (order_self_fw false n p hc) hX w
      rw [hfw] at hL
      have := shortest_num s (rung n p) q (p + k) (rung_lt n p hc) (fun h => h0 (rung_zero n p h)) hL w
      rw [← hfs] at this
      refine this.mono ?_
      rintro e w' ⟨ds, pow, d, p', u, hd, hle, htu, hz, rfl, hb⟩
      rw [← hfw] at hle
      exact ⟨_, .inr (.inr (.inr ⟨s, n, p, q, k, ds, pow, d, p', u, hc, by omega, rfl, hq, hq1, hd, hle, htu, rfl⟩)), hz, rfl, hb⟩
end Go.Proofs.YtaoccjaaopmfdaaGreatDoor

/- What is written of a float is read as it: plain. -/
namespace Go.Proofs.YtaoccjaaopmfdaaGreatDoor
open Go.RowKit
open Ieee (double)

/-- A text is read as a float. -/
def Reads (t : ByteArray) (x : Nat) : Prop := ∃ fl, ReadA t true 0 fl ∧ fl x ∧ (fl = IsNan ∨ fl = (· = x))
theorem fw_le (m : Nat) (e : Int) : fw false m e ≤ 9218868437227405312 := by
  by_cases h0 : m = 0
  · subst h0; rw [fw_zero]; decide
  · rw [fw_place false m e (by omega)]
    have : min ((max (e + (m.log2 : Int) - 52) (-1074) + 1074).toNat * 4503599627370496 + roundN m (max (e + (m.log2 : Int) - 52) (-1074) - e)) 9218868437227405312 ≤ 9218868437227405312 := Nat.min_le_right _ _
    show 0 + _ ≤ _
    omega
theorem decW_le (b V : Nat) (e : Int) : decW b V e ≤ 9218868437227405312 := by
  unfold decW
  split
  · omega
  · unfold ratioW ratioAt
    split <;> exact fw_le _ _
theorem order_same (r q : Nat) (hr : r ≤ 9218868437227405312) (hq : q ≤ 9218868437227405312) : (double.order r q == some .eq) = decide (r = q) := by
  have h := order_rank false false r q hr hq
  have s0 : ∀ k, signBit false + k = k := fun k => Nat.zero_add k
  rw [s0, s0] at h
  rw [h]
  unfold rankI
  simp only [compare, compareOfLessAndEq]
  by_cases e : r = q
  · subst e
    simp
  · rw [decide_eq_false e]
    simp
    split
    · simp
    · split
      · omega
      · simp
theorem rds_is (x : Nat) (hx : x ≤ 9218868437227405312) (t : ByteArray) (p : Int) : Rds x t p = decide (decW 10 (valN 10 t.data.toList) (p - (t.size : Int)) = x) := by
  unfold Rds
  exact order_same _ _ (decW_le _ _ _) hx
/-- The size and the sign of a number's word. -/
theorem word_odd (s : Bool) (n : Nat) (p : Int) (q k : Nat) (hq : n = q * 2 ^ k) : signBit s + fw false q (p + k) = fw s n p := by
  have := fw_scale false q k (p + k)
  rw [show p + (k : Int) - (k : Int) = p by omega, ← hq] at this
  rw [← this, ← fw_sign]
theorem odd_bounds (n : Nat) (p : Int) (q k : Nat) (hc : Canon n p) (hn : 0 < n) (hq : n = q * 2 ^ k) : q < 9007199254740992 ∧ -1074 ≤ p + k ∧ p + k ≤ 1100 ∧ k ≤ 52 := by
  have hn2 : n < 9007199254740992 := by rcases hc with h | h <;> omega
  have hp : -1074 ≤ p ∧ p ≤ 971 := by rcases hc with h | h <;> omega
  have hk : 0 < 2 ^ k := Nat.two_pow_pos k
  have hq0 : 0 < q := by
    apply Nat.pos_of_ne_zero
    intro h
    rw [h, Nat.zero_mul] at hq
    omega
  have h1 : q ≤ n := by rw [hq]; exact Nat.le_mul_of_pos_right _ hk
  have h2 : 2 ^ k ≤ n := by rw [hq]; exact Nat.le_mul_of_pos_left _ hq0
  have h3 : k ≤ 52 := by
    apply Nat.le_of_not_lt
    intro hlt
    have : 2 ^ 53 ≤ 2 ^ k := Nat.pow_le_pow_right (by omega) (by omega)
    have e : (2 : Nat) ^ 53 = 9007199254740992 := by decide
    omega
  omega
theorem exact_sizes (n : Nat) (p : Int) (q k : Nat) (ds : ByteArray) (pow : Int) (hc : Canon n p) (hn : 0 < n) (hq : n = q * 2 ^ k) (hd : ExD ds pow q (p + k)) :
    (ds.size : Int) - pow ≤ 1074 ∧ pow ≤ 320 ∧ ds.size ≤ 1090 ∧ -1074 ≤ pow := by
  obtain ⟨h1, h2, _, _⟩ := odd_bounds n p q k hc hn hq
  have hn2 : n < 9007199254740992 := by rcases hc with h | h <;> omega
  have hp : -1074 ≤ p ∧ p ≤ 971 := by rcases hc with h | h <;> omega
  refine exD_sizes ds pow q (p + k) hd h1 h2 fun N hN => ?_
  have e53 : (2 : Nat) ^ 53 = 9007199254740992 := by decide
  have hle : q * 2 ^ (p + (k : Int)).toNat ≤ n * 2 ^ p.toNat := by
    rw [hq, Nat.mul_assoc, ← Nat.pow_add]
    exact Nat.mul_le_mul_left _ (Nat.pow_le_pow_right (by omega) (by omega))
  refine Nat.lt_of_le_of_lt hle ?_
  have e1 : n * 2 ^ p.toNat < 2 ^ 53 * 2 ^ p.toNat := Nat.mul_lt_mul_of_pos_right (by omega) (Nat.two_pow_pos _)
  have e2 : 2 ^ 53 * 2 ^ p.toNat ≤ 2 ^ 53 * 2 ^ N := Nat.mul_le_mul_left _ (Nat.pow_le_pow_right (by omega) (by omega))
  exact Nat.lt_of_lt_of_le e1 e2
theorem reads_exact (x : Nat) (t : ByteArray) (h : exactV x t) : Reads t x := by
  rcases h with ⟨hn, rfl⟩ | ⟨s, rfl, rfl⟩ | ⟨s, rfl, rfl⟩ | ⟨s, n, p, q, k, ds, pow, hc, hn, rfl, hq, _, hd, rfl⟩
  · exact ⟨_, read_nan, hn, .inl rfl⟩
  · exact ⟨_, read_inf s, rfl, .inr rfl⟩
  · exact ⟨_, read_naught s, rfl, .inr rfl⟩
  · obtain ⟨a1, a2, a3, a4⟩ := exact_sizes n p q k ds pow hc hn hq hd
    have hz := plain_len ds pow a1 a2 a3
    have hq0 : 0 < q := by
      apply Nat.pos_of_ne_zero
      intro h
      rw [h, Nat.zero_mul] at hq
      omega
    have hr := read_plain s ds pow hd.1 hd.2.1 (by rw [append_size]; have := sgnB_size s; omega)
    rw [exD_reads ds pow q (p + k) hq0 hd, word_odd s n p q k hq] at hr
    exact ⟨_, hr, rfl, .inr rfl⟩
theorem least_reads (ds : ByteArray) (pow : Int) (x : Nat) (hx : x ≤ 9218868437227405312) (t : ByteArray) (p' : Int) (h : LeastD ds pow x t p') : decW 10 (valN 10 t.data.toList) (p' - (t.size : Int)) = x := by
  obtain ⟨n, t2, p2, _, _, _, _, ⟨h, _, rfl, rfl⟩ | ⟨h, _, rfl, rfl⟩⟩ := h
  · rw [rds_is x hx] at h
    exact of_decide_eq_true h
  · rw [rds_is x hx] at h
    exact of_decide_eq_true h
theorem reads_short (x : Nat) (t : ByteArray) (h : shortV x t) : Reads t x := by
  rcases h with ⟨hn, rfl⟩ | ⟨s, rfl, rfl⟩ | ⟨s, rfl, rfl⟩ | ⟨s, n, p, q, k, ds, pow, d, p', u, hc, hn, rfl, hq, _, hd, hle, htu, rfl⟩
  · exact ⟨_, read_nan, hn, .inl rfl⟩
  · exact ⟨_, read_inf s, rfl, .inr rfl⟩
  · exact ⟨_, read_naught s, rfl, .inr rfl⟩
  · obtain ⟨a1, a2, a3, a4⟩ := exact_sizes n p q k ds pow hc hn hq hd
    obtain ⟨t0, ts, tg, q1, q2⟩ := least_facts ds pow _ d p' hd.2.1 (by omega) hle
    have hval := least_reads ds pow _ (fw_le n p) d p' hle
    obtain ⟨u0, ug, j, ue, uj, uv, _⟩ := htu
    have hu : decW 10 (valN 10 u.data.toList) (p' - (u.size : Int)) = fw false n p := by
      rw [← hval, uv, dec_zeros]
      congr 1
      omega
    have hsgn : signBit s + fw false n p = fw s n p := (fw_sign s n p).symm
    have hsz := sgnB_size s
    have hds : d.size ≤ 1091 := by
      obtain ⟨n', t2, p2, _, hn', hcut, _, ⟨_, _, rfl, _⟩ | ⟨_, _, rfl, _⟩⟩ := hle
      · rw [padB_size]; omega
      · have := cut5_size _ _ _ _ _ _ hcut
        omega
    unfold shortB
    by_cases hp : -5 ≤ p' ∧ p' ≤ 21
    · rw [if_pos hp]
      have hpl : (plainB u p').size ≤ 1150 := by
        have e2 : (⟨#[48, 46]⟩ : ByteArray).size = 2 := rfl
        have e3 : dotB.size = 1 := rfl
        unfold plainB
        split
        · rw [append_size, append_size, zerosB_size, e2]; omega
        · split
          · rw [append_size, zerosB_size]; omega
          · rw [append_size, append_size, e3, ByteArray.size_extract, ByteArray.size_extract]; omega
      have hr := read_plain s u p' u0 ug (by rw [append_size]; omega)
      rw [hu, hsgn] at hr
      exact ⟨_, hr, rfl, .inr rfl⟩
    · rw [if_neg hp]
      have hsc := sciB_size u p'
      have hr := read_sci s u p' u0 ug (by omega) (by omega) (by rw [append_size]; omega)
      rw [hu, hsgn] at hr
      exact ⟨_, hr, rfl, .inr rfl⟩
theorem reads_hex (x : Nat) (t : ByteArray) (h : hexV x t) : Reads t x := by
  rcases h with ⟨hn, rfl⟩ | ⟨s, rfl, rfl⟩ | ⟨s, rfl, rfl⟩ | ⟨s, n, p, q, k, hc, hn, rfl, hq, _, rfl⟩
  · exact ⟨_, read_nan, hn, .inl rfl⟩
  · exact ⟨_, read_inf s, rfl, .inr rfl⟩
  · have hr := read_hexB s 0 0 (by omega) (by omega) (by omega)
    rw [fw_zero] at hr
    exact ⟨_, hr, rfl, .inr rfl⟩
  · obtain ⟨h1, h2, h3, _⟩ := odd_bounds n p q k hc hn hq
    have hr := read_hexB s q (p + k) (by omega) (by omega) (by omega)
    rw [word_odd s n p q k hq] at hr
    exact ⟨_, hr, rfl, .inr rfl⟩
end Go.Proofs.YtaoccjaaopmfdaaGreatDoor

/- Seventeen digits are enough, and with fewer than the fewest nothing is read back: plain. -/
namespace Go.Proofs.YtaoccjaaopmfdaaGreatDoor
open Go.RowKit
open Ieee (double)

theorem dig_ex (k : Nat) : ∀ W : Nat, W < 10 ^ k → ∃ l : List UInt8, l.length = k ∧ good 10 l ∧ valN 10 l = W := by
  induction k with
  | zero =>
    intro W h
    rw [Nat.pow_zero] at h
    exact ⟨[], rfl, (fun c hc => by cases hc), by rw [valN_nil]; omega⟩
  | succ k ih =>
    intro W h
    obtain ⟨l, h1, h2, h3⟩ := ih (W / 10) (by rw [Nat.pow_succ] at h; omega)
    have hc : W % 10 < 10 := Nat.mod_lt _ (by omega)
    obtain ⟨c, hcv⟩ : ∃ c : UInt8, c.toNat = 48 + W % 10 := ⟨(48 + W % 10).toUInt8, by rw [Nat.toUInt8_eq, UInt8.toNat_ofNat']; omega⟩
    have hd : digN 99 (c.toNat : Int) = ((W % 10 : Nat) : Int) := by
      unfold digN
      rw [if_pos (by omega), hcv]
      omega
    refine ⟨l ++ [c], by rw [List.length_append, h1]; rfl, good_app h2 (fun d hd' => ?_), ?_⟩
    · have : d = c := by simpa using hd'
      rw [this, hd]; omega
    · rw [valN_append, h3]
      have e : valN 10 [c] = W % 10 := by
        rw [valN_cons, hd, valN_nil, List.length_nil, Nat.pow_zero, Nat.mul_one, Nat.add_zero]
        exact Int.toNat_natCast _
      rw [e]
      show W / 10 * 10 ^ 1 + W % 10 = W
      omega
theorem upD_ex (ds : ByteArray) (hg : good 10 ds.data.toList) : ∃ t more, UpD ds t more := by
  have hlt := valN_good_lt 10 ds.data.toList hg
  rw [data_len] at hlt
  by_cases h : valN 10 ds.data.toList + 1 = 10 ^ ds.size
  · obtain ⟨l, h1, h2, h3⟩ := dig_ex (ds.size + 1) (10 ^ ds.size) (by rw [Nat.pow_succ]; have : 0 < 10 ^ ds.size := Nat.pow_pos (by omega); omega)
    exact ⟨⟨l.toArray⟩, true, h2, by rw [h]; exact h3, by rw [← data_len]; exact h1, fun _ => h⟩
  · obtain ⟨l, h1, h2, h3⟩ := dig_ex ds.size (valN 10 ds.data.toList + 1) (by omega)
    exact ⟨⟨l.toArray⟩, false, h2, h3, by rw [← data_len]; exact h1, (fun h => by cases h)⟩
/-- The first digits, and what is behind them. -/
theorem pad_val (ds : ByteArray) (k : Nat) (hk : k < ds.size) (hg : good 10 ds.data.toList) : good 10 (padB ds k).data.toList ∧ ∃ R, R < 10 ^ (ds.size - k) ∧ valN 10 ds.data.toList = valN 10 (padB ds k).data.toList * 10 ^ (ds.size - k) + R := by
  have hl : ds.data.toList.length = ds.size := data_len ds
  have e : (padB ds k).data.toList = ds.data.toList.take k := by
    unfold padB
    rw [if_pos hk, append_list, show k - ds.size = 0 by omega, Lib.extract_eq]
    show _ ++ List.replicate 0 48 = _
    simp
  have hs : ds.data.toList = ds.data.toList.take k ++ ds.data.toList.drop k := (List.take_append_drop k _).symm
  have hg2 : good 10 (ds.data.toList.take k) := fun c hc => hg c (List.mem_of_mem_take hc)
  have hg3 : good 10 (ds.data.toList.drop k) := fun c hc => hg c (List.mem_of_mem_drop hc)
  rw [e]
  refine ⟨hg2, valN 10 (ds.data.toList.drop k), ?_, ?_⟩
  · have := valN_good_lt 10 _ hg3
    rwa [List.length_drop, hl] at this
  · have h1 := valN_append (ds.data.toList.take k) (ds.data.toList.drop k)
    rw [← hs, List.length_drop, hl] at h1
    exact h1
theorem pad_pos (ds : ByteArray) (k : Nat) (hk : k < ds.size) (h1 : 1 ≤ k) (hg : good 10 ds.data.toList) (hf : ∀ h : 0 < ds.size, ds[0].toNat ≠ 48) : 0 < valN 10 (padB ds k).data.toList := by
  obtain ⟨_, R, hR, hv⟩ := pad_val ds k hk hg
  have hge := first_ge ds (by omega) hf
  apply Nat.pos_of_ne_zero
  intro h0
  rw [h0, Nat.zero_mul, Nat.zero_add] at hv
  have : 10 ^ (ds.size - k) ≤ 10 ^ (ds.size - 1) := Nat.pow_le_pow_right (by omega) (by omega)
  omega
/-- The fewest digits are no more than seventeen. -/
theorem least_17 (n : Nat) (p : Int) (q k : Nat) (ds : ByteArray) (pow : Int) (hc : Canon n p) (hn : 0 < n) (hq : n = q * 2 ^ k) (hd : ExD ds pow q (p + k)) (N : Nat) (hNs : N ≤ ds.size)
    (h : ∀ j, 1 ≤ j → j < N → Rds (fw false n p) (padB ds j) pow = false ∧ ∀ u r, cutV ds pow j (decide (j < ds.size)) u r → Rds (fw false n p) u r = false) : N ≤ 17 := by
  apply Nat.le_of_not_lt
  intro hlt
  obtain ⟨h1, h2⟩ := h 17 (by omega) hlt
  have hs : 17 < ds.size := by omega
  obtain ⟨gp, R, hR, hv⟩ := pad_val ds 17 hs hd.2.1
  have hW := pad_pos ds 17 hs (by omega) hd.2.1 hd.2.2.1
  have hz := padB_size ds 17
  by_cases hr : 2 * R ≤ 10 ^ (ds.size - 17)
  · have := digits_near n p q k ds pow hc hn hq hd 17 (valN 10 (padB ds 17).data.toList) (by omega) (by omega) hW (.inl ⟨by omega, by omega⟩)
    rw [rds_is _ (fw_le _ _), hz] at h1
    exact of_decide_eq_false h1 this
  · obtain ⟨t, more, hup⟩ := upD_ex (padB ds 17) gp
    have hcut : cutV ds pow 17 (decide (17 < ds.size)) t (pow + (if more then 1 else 0)) := by
      rw [decide_eq_true hs]
      exact .inr ⟨rfl, more, hup, rfl⟩
    have h3 := h2 _ _ hcut
    obtain ⟨_, uv, us, _⟩ := hup
    have em : (valN 10 (padB ds 17).data.toList + 1) * 10 ^ (ds.size - 17) = valN 10 (padB ds 17).data.toList * 10 ^ (ds.size - 17) + 10 ^ (ds.size - 17) := by rw [Nat.add_mul, Nat.one_mul]
    have := digits_near n p q k ds pow hc hn hq hd 17 (valN 10 (padB ds 17).data.toList + 1) (by omega) (by omega) (by omega) (.inr ⟨by omega, by omega⟩)
    rw [rds_is _ (fw_le _ _), uv, us, hz] at h3
    refine of_decide_eq_false h3 ?_
    rw [← this]
    congr 1
    cases more <;> simp <;> omega
/-- What the law on the fewest digits asks. -/
theorem few_facts (n : Nat) (p : Int) (q k : Nat) (ds : ByteArray) (pow : Int) (d : ByteArray) (p' : Int) (u : ByteArray) (hc : Canon n p) (hn : 0 < n) (hq : n = q * 2 ^ k) (hd : ExD ds pow q (p + k)) (hle : LeastD ds pow (fw false n p) d p') (htu : TrimD d u) :
    u.size ≤ 17 ∧ ∀ j, 1 ≤ j → j < u.size → j < ds.size ∧ Rds (fw false n p) (padB ds j) pow = false ∧ ∀ t r, cutV ds pow j true t r → Rds (fw false n p) t r = false := by
  obtain ⟨N, t2, p2, hN1, hN2, hcut, hfew, hbest⟩ := hle
  have h17 := least_17 n p q k ds pow hc hn hq hd N hN2 hfew
  obtain ⟨u0, ug, i, ue, ui, uv, ul⟩ := htu
  have hkey : u.size ≤ N := by
    by_cases hsz : d.size ≤ N
    · omega
    · rcases hbest with ⟨_, _, rfl, _⟩ | ⟨_, _, rfl, _⟩
      · rw [padB_size] at hsz; omega
      · rcases hcut with ⟨_, rfl, _⟩ | ⟨_, more, ⟨_, hv, hs, hm⟩, _⟩
        · rw [padB_size] at hsz; omega
        · rw [padB_size] at hs hm
          cases more
          · simp at hs; omega
          · simp at hs
            have hpow := hm rfl
            rw [hpow] at hv
            rcases ul with h1 | h1
            · omega
            · apply Classical.byContradiction
              intro hbad
              have hlast := last_some u u0 ug h1
              rw [uv] at hv
              have hi : 10 ^ N = 10 ^ (u.size - 1) * 10 ^ i := by rw [← Nat.pow_add]; congr 1; omega
              rw [hi] at hv
              have h10 : 0 < 10 ^ i := Nat.pow_pos (by omega)
              have hu := Nat.eq_of_mul_eq_mul_right h10 hv
              apply hlast
              rw [hu, show u.size - 1 = (u.size - 2) + 1 by omega, Nat.pow_succ]
              exact Nat.mul_mod_left _ _
  refine ⟨by omega, fun j h1 h2 => ?_⟩
  obtain ⟨a1, a2⟩ := hfew j h1 (by omega)
  have hj : j < ds.size := by omega
  rw [decide_eq_true hj] at a2
  exact ⟨hj, a1, a2⟩
end Go.Proofs.YtaoccjaaopmfdaaGreatDoor

/- What Fixed answers: plain. -/
namespace Go.Proofs.YtaoccjaaopmfdaaGreatDoor
open Go.RowKit

/-- Zeros ahead of digits whose point stands ahead of them. -/
def fxD (ds : ByteArray) (p : Int) : ByteArray := if p < 1 then zerosB (1 - p).toNat ++ ds else ds
def fxP (p : Int) : Int := if p < 1 then 1 else p
/-- Zeros behind. -/
def fxE (ds : ByteArray) (p : Int) (k : Nat) : ByteArray := if (ds.size : Int) < p + k then ds ++ zerosB (p + k - (ds.size : Int)).toNat else ds
/-- The digits with so many places behind the point. -/
def fixB (ds : ByteArray) (p : Int) (k : Nat) : ByteArray :=
  if k = 0 then (fxE (fxD ds p) (fxP p) k).extract 0 (fxP p).toNat
  else (fxE (fxD ds p) (fxP p) k).extract 0 (fxP p).toNat ++ ⟨#[46]⟩ ++ (fxE (fxD ds p) (fxP p) k).extract (fxP p).toNat ((fxP p).toNat + k)
/-- The digits of a number, cut so far behind the point. -/
def FixD (ds : ByteArray) (pow : Int) (k : Nat) (t : ByteArray) (p : Int) : Prop :=
  (pow + k < 0 ∧ t = ⟨#[]⟩ ∧ p = 1) ∨ (0 ≤ pow + k ∧ cutV ds pow (pow + k).toNat (roundsB ds (pow + k)) t p)
theorem fixD_one {ds : ByteArray} {pow : Int} {k : Nat} {t t' : ByteArray} {p p' : Int} (h : FixD ds pow k t p) (h' : FixD ds pow k t' p') : t = t' ∧ p = p' := by
  rcases h with ⟨a, rfl, rfl⟩ | ⟨a, c⟩ <;> rcases h' with ⟨b, rfl, rfl⟩ | ⟨b, c'⟩
  · exact ⟨rfl, rfl⟩
  · omega
  · omega
  · exact cutV_one _ _ _ _ _ _ _ _ c c'
theorem fxD_size (ds : ByteArray) (p : Int) : (fxD ds p).size = (if p < 1 then (1 - p).toNat + ds.size else ds.size) := by
  unfold fxD
  split
  · rw [append_size, zerosB_size]
  · rfl
theorem fxE_size (ds : ByteArray) (p : Int) (k : Nat) : p + k ≤ ((fxE ds p k).size : Int) ∧ (fxE ds p k).size ≤ ds.size + (p + k).toNat := by
  unfold fxE
  split
  · rw [append_size, zerosB_size]; omega
  · omega
end Go.Proofs.YtaoccjaaopmfdaaGreatDoor

