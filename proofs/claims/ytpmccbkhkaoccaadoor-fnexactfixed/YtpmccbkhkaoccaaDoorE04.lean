import Derived.Test.YtpmccbkhkaoccaaDoorE03
import Derived.Test.YtpmccbkhkaoccaaDoorA22
import Derived.Test.YtpmccbkhkaoccaaDoorA23
import Derived.Test.YtpmccbkhkaoccaaDoorA36
/- Digits of the specification. -/
namespace Go.Proofs.YtpmccbkhkaoccaaDoor
open Go.ChangeShapes Go.WideShapes Go.RowKit
open Ieee (double)

set_option maxHeartbeats 400000 in
theorem digits_out (x : Nat) (n : Int) (h : n < 1 ∨ 400 < n) (w : World) :
    Calls Tryd.prog 9 #[.float .f64 x, .int .i64 n] w fun e w' => e = .returned (.string ⟨#[]⟩) ∧ Below w.heap.size w w' := by
  rcases h with h | h
  all_goals
    go_enter Tryd.func9, Tryd.ntmps9
    go_wp2
    go_ret
    exact ⟨rfl, Below.refl _ _⟩
set_option maxHeartbeats 400000 in
theorem digits_nan (x : Nat) (n : Int) (hn1 : 1 ≤ n) (hn2 : n ≤ 400) (hx : IsNan x) (w : World) :
    Calls Tryd.prog 9 #[.float .f64 x, .int .i64 n] w fun e w' => e = .returned (.string ⟨#[110, 97, 110]⟩) ∧ Below w.heap.size w w' := by
  have H1 : Hid _ := fun w => l5size_nan x hx w
  have H2 : Hid _ := fun w => l5odd_nan x hx w
  clear hx
  go_enter Tryd.func9, Tryd.ntmps9
  go_wp2_with fail
  refine (H1.out _).mono ?_
  rintro e w1 ⟨rfl, rfl⟩
  go_wp2_with fail
  refine (H2.out _).mono ?_
  rintro e w1 ⟨rfl, rfl⟩
  go_wp2
  go_ret
  exact ⟨rfl, Below.refl _ _⟩
set_option maxHeartbeats 400000 in
theorem digits_inf (s : Bool) (n : Int) (hn1 : 1 ≤ n) (hn2 : n ≤ 400) (w : World) :
    Calls Tryd.prog 9 #[.float .f64 (iw s), .int .i64 n] w fun e w' => e = .returned (.string (sgnB s ++ ⟨#[105, 110, 102]⟩)) ∧ Below w.heap.size w w' := by
  have H1 : Hid (∀ w, Calls Tryd.prog 15 #[.float .f64 (iw s)] w fun e w' => e = .returned (.tuple #[.float .f64 9218868437227405312, .string (sgnB s)]) ∧ w' = w) := fun w => l5size_any s 9218868437227405312 (by omega) w
  have H2 : Hid _ := fun w => l5odd_inf w
  have z3 := sgnB_size s
  generalize sgnB s = S at *
  generalize iw s = X at *
  go_enter Tryd.func9, Tryd.ntmps9
  go_wp2_with fail
  refine (H1.out _).mono ?_
  rintro e w1 ⟨rfl, rfl⟩
  go_wp2_with fail
  refine (H2.out _).mono ?_
  rintro e w1 ⟨rfl, rfl⟩
  go_wp2
  go_ret
  exact ⟨rfl, Below.refl _ _⟩
set_option maxHeartbeats 1000000 in
theorem digits_zero (s : Bool) (n : Nat) (hn1 : 1 ≤ n) (hn2 : n ≤ 400) (w : World) :
    Calls Tryd.prog 9 #[.float .f64 (signBit s), .int .i64 (n : Int)] w fun e w' => e = .returned (.string (sgnB s ++ sciB (zerosB n) 1)) ∧ Below w.heap.size w w' := by
  have H1 : Hid _ := fun w => l5size_zero s w
  have H2 : Hid (∀ w, Calls Tryd.prog 16 #[.float .f64 0] w fun e w' => e = .returned (.tuple #[.string ⟨#[48]⟩, .bool true]) ∧ w' = w) := fun w => l5odd_num 0 (by omega) w
  have z3 := sgnB_size s
  have HZ : Hid (∀ w, Calls Tryd.prog 24 #[.int .i64 (n : Int)] w fun e w' => e = .returned (.string (zerosB n)) ∧ Below w.heap.size w w') := fun w => l5zeros_any n (by omega) w
  have hz := zerosB_size n
  have HSC : Hid _ := fun w => l5science_any (zerosB n) 1 (by omega) (by omega) (by omega) (by omega) w
  have hsz := sciB_size (zerosB n) 1
  generalize sciB (zerosB n) 1 = Q at *
  generalize zerosB n = Z at *
  generalize sgnB s = S at *
  generalize signBit s = X at *
  go_enter Tryd.func9, Tryd.ntmps9
  go_wp2_with fail
  refine (H1.out _).mono ?_
  rintro e w1 ⟨rfl, rfl⟩
  go_wp2_with fail
  refine (H2.out _).mono ?_
  rintro e w1 ⟨rfl, rfl⟩
  go_wp2_with fail
  refine (HZ.out _).mono ?_
  rintro e w2 ⟨rfl, hb2⟩
  have HB2 : Hid _ := hb2
  clear hb2
  go_wp2_with fail
  refine (HSC.out _).mono ?_
  rintro e w3 ⟨rfl, hb3⟩
  have HB3 : Hid (Below w1.heap.size w1 w3) := HB2.out.trans (hb3.mono HB2.out.size)
  clear hb3
  go_wp2
  go_ret
  exact ⟨rfl, HB3.out⟩
/-- What Digits answers. -/
def digitsV (x : Nat) (n : Int) (t : ByteArray) : Prop :=
  ((n < 1 ∨ 400 < n) ∧ t = ⟨#[]⟩) ∨ ((1 ≤ n ∧ n ≤ 400) ∧ ((IsNan x ∧ t = ⟨#[110, 97, 110]⟩) ∨ (∃ s, x = iw s ∧ t = sgnB s ++ ⟨#[105, 110, 102]⟩) ∨ (∃ s, x = signBit s ∧ t = sgnB s ++ sciB (zerosB n.toNat) 1)
  ∨ (∃ (s : Bool) (m : Nat) (p : Int) (q k : Nat) (ds : ByteArray) (pow : Int) (d : ByteArray) (p' : Int), Canon m p ∧ 0 < m ∧ x = fw s m p ∧ m = q * 2 ^ k ∧ q % 2 = 1 ∧ ExD ds pow q (p + k) ∧ cutV ds pow n.toNat (roundsB ds n) d p' ∧ t = sgnB s ++ sciB (d.extract 0 n.toNat) p')))
theorem specDigits5_any (x : Nat) (hx : x < 18446744073709551616) (n : Int) (w : World) :
    Calls Tryd.prog 9 #[.float .f64 x, .int .i64 n] w fun e w' => ∃ t, digitsV x n t ∧ e = .returned (.string t) ∧ Below w.heap.size w w' := by
  by_cases ho : n < 1 ∨ 400 < n
  · refine (digits_out x n ho w).mono ?_
    rintro e w' ⟨rfl, hb⟩
    exact ⟨_, .inl ⟨ho, rfl⟩, rfl, hb⟩
  · have h1 : 1 ≤ n := by omega
    have h2 : n ≤ 400 := by omega
    obtain ⟨k, rfl⟩ := Int.eq_ofNat_of_zero_le (show 0 ≤ n by omega)
    rcases float_cases x hx with h | ⟨s, rfl⟩ | ⟨s, m, p, hc, rfl⟩
    · refine (digits_nan x _ h1 h2 h w).mono ?_
      rintro e w' ⟨rfl, hb⟩
      exact ⟨_, .inr ⟨⟨h1, h2⟩, .inl ⟨h, rfl⟩⟩, rfl, hb⟩
    · refine (digits_inf s _ h1 h2 w).mono ?_
      rintro e w' ⟨rfl, hb⟩
      exact ⟨_, .inr ⟨⟨h1, h2⟩, .inr (.inl ⟨s, rfl, rfl⟩)⟩, rfl, hb⟩
    · by_cases h0 : m = 0
      · subst h0
        rw [fw_zero]
        refine (digits_zero s k (by omega) (by omega) w).mono ?_
        rintro e w' ⟨rfl, hb⟩
        exact ⟨_, .inr ⟨⟨h1, h2⟩, .inr (.inr (.inl ⟨s, rfl, rfl⟩))⟩, rfl, hb⟩
      · obtain ⟨q, j, hq, hq1, hX⟩ := l5exact_any m p hc (by omega)
        have hfw : fw false m p = rung m p := by rw [fw_canon _ _ _ hc]; exact Nat.zero_add _
        have hfs : fw s m p = signBit s + rung m p := fw_canon _ _ _ hc
        rw [hfw] at hX
        have := digits_num s (rung m p) q (p + j) k (by omega) (by omega) (rung_lt m p hc) (fun h => h0 (rung_zero m p h)) hX w
        rw [← hfs] at this
        refine this.mono ?_
        rintro e w' ⟨ds, pow, d, p', hd, hcut, rfl, hb⟩
        exact ⟨_, .inr ⟨⟨h1, h2⟩, .inr (.inr (.inr ⟨s, m, p, q, j, ds, pow, d, p', hc, by omega, rfl, hq, hq1, hd, hcut, rfl⟩))⟩, rfl, hb⟩
end Go.Proofs.YtpmccbkhkaoccaaDoor

/- Digits's answer is fixed. -/
namespace Go.Proofs.YtpmccbkhkaoccaaDoor
open Ieee (double)

theorem digitsV_one (x : Nat) (n : Int) (t t' : ByteArray) (h : digitsV x n t) (h' : digitsV x n t') : t = t' := by
  rcases h with ⟨ho, rfl⟩ | ⟨ho, h⟩
  · rcases h' with ⟨_, rfl⟩ | ⟨ho', _⟩
    · rfl
    · exfalso; omega
  · rcases h' with ⟨ho', _⟩ | ⟨_, h'⟩
    · exfalso; omega
    · rcases h with ⟨a, rfl⟩ | ⟨s, rfl, rfl⟩ | ⟨s, rfl, rfl⟩ | ⟨s, m, p, q, k, ds, pow, d, r, hc, h0, rfl, hq, hq1, hd, hl, rfl⟩
      · rcases h' with ⟨_, rfl⟩ | ⟨s, rfl, rfl⟩ | ⟨s, rfl, rfl⟩ | ⟨s, m, p, q, k, ds, pow, d, r, hc, h0, rfl, hq, hq1, hd, hl, rfl⟩
        · rfl
        · exact (nan_not_iw s a).elim
        · exact (sign_nan s a).elim
        · exact (nan_not_fw s m p hc a).elim
      · rcases h' with ⟨a, _⟩ | ⟨t, e, rfl⟩ | ⟨t, e, rfl⟩ | ⟨t, m, p, q, k, ds, pow, d, r, hc, h0, e, hq, hq1, hd, hl, rfl⟩
        · exact (nan_not_iw s a).elim
        · rw [iw_one s t e]
        · exact (sign_iw t s e.symm).elim
        · exact (iw_fw s t m p hc e).elim
      · rcases h' with ⟨a, _⟩ | ⟨t, e, rfl⟩ | ⟨t, e, rfl⟩ | ⟨t, m, p, q, k, ds, pow, d, r, hc, h0, e, hq, hq1, hd, hl, rfl⟩
        · exact (sign_nan s a).elim
        · exact (sign_iw s t e).elim
        · rw [sign_one s t e]
        · exact (sign_fw s t m p hc h0 e).elim
      · rcases h' with ⟨a, _⟩ | ⟨t, e, rfl⟩ | ⟨t, e, rfl⟩ | ⟨t, m', p', q', k', ds', pow', d', r', hc', h0', e, hq', hq1', hd', hl', rfl⟩
        · exact (nan_not_fw s m p hc a).elim
        · exact (iw_fw t s m p hc e.symm).elim
        · exact (sign_fw t s m p hc h0 e.symm).elim
        · obtain ⟨rfl, rfl, rfl⟩ := fw_one s t m m' p p' hc hc' e
          obtain ⟨rfl, rfl⟩ := odd_one q k q' k' (hq.symm.trans hq') hq1 hq1'
          obtain ⟨rfl, rfl⟩ := exD_one ds ds' pow pow' q _ hd hd'
          obtain ⟨rfl, rfl⟩ := cutV_one _ _ _ _ _ _ _ _ hl hl'
          rfl
end Go.Proofs.YtpmccbkhkaoccaaDoor

/- Digits of the program. -/
namespace Go.Proofs.YtpmccbkhkaoccaaDoor
open Go.ChangeShapes Go.WideShapes Go.RowKit

theorem rnd_bounds (ds : ByteArray) (x n : Int) (t : ByteArray) (y : Int) (hg : good 10 ds.data.toList) (h : RndD ds x n t y) : t.size ≤ ds.size + 1 ∧ (y = 0 ∨ y = x ∨ y = x + 1) := by
  rcases h with ⟨_, rfl, rfl⟩ | ⟨_, _, rfl, rfl⟩ | ⟨h1, h2, ⟨_, hh⟩ | ⟨_, hl⟩⟩
  · exact ⟨Nat.zero_le _, .inl rfl⟩
  · exact ⟨by omega, .inr (.inl rfl)⟩
  · obtain ⟨j, more, _, hy, _, hj, _⟩ := high_pad ds x n.toNat t y (by omega) hg hh
    cases more
    · simp at hj hy
      exact ⟨by omega, .inr (.inl hy)⟩
    · simp at hj hy
      exact ⟨by omega, .inr (.inr hy)⟩
  · obtain ⟨u, ⟨⟨j, hj⟩, _⟩, h⟩ := hl
    have h3 := trim_size hj
    have h4 := take_size ds n.toNat (by omega)
    rcases h with ⟨_, rfl, rfl⟩ | ⟨_, rfl, rfl⟩
    · exact ⟨Nat.zero_le _, .inl rfl⟩
    · exact ⟨by omega, .inr (.inl rfl)⟩
theorem good_none : good 10 (⟨#[]⟩ : ByteArray).data.toList := fun c hc => by cases hc
theorem dof_good {q : Nat} {e : Int} {ds : ByteArray} {y : Int} (h : DofR q e ds y) : good 10 ds.data.toList := by
  rcases h.1 with ⟨_, rfl, _⟩ | ⟨_, hx⟩
  · exact good_none
  · exact hx.2.1
/-- What signed answers at a float's parts and its digits rounded. -/
theorem digits_signed (x : Nat) (k : Int) (s : Bool) (m e : Int) (hp : partsV x k s m e) (ds : ByteArray) (y : Int) (hd : DofR m.toNat e ds y) (n : Nat) (hn1 : 1 ≤ n) (hn2 : n ≤ 400) (t : ByteArray) (z : Int) (hr : RndD ds y (n : Int) t z) : ∃ u, digitsV x (n : Int) u ∧ ∀ W, WrG W → Calls Tryd.prog 20 #[.agg #[.int .i64 k, .bool s, .int .i64 m, .int .i64 e], .iface 50 (.agg #[.string t, .int .i64 z, .int .i64 (n : Int)])] W fun r w' => r = .returned (.string u) ∧ Below W.heap.size W w' := by
  obtain ⟨b1, b2⟩ := rnd_bounds ds y n t z (dof_good hd) hr
  obtain ⟨hd1, hd2, hd3, hd4⟩ := hd
  have key : ∀ (k : Int), (k = 0 ∨ k = 1) → ∀ W, WrG W → Calls Tryd.prog 20 #[.agg #[.int .i64 k, .bool s, .int .i64 m, .int .i64 e], .iface 50 (.agg #[.string t, .int .i64 z, .int .i64 (n : Int)])] W fun r w' => r = .returned (.string (sgnB s ++ sciB (padB t n) (z + 1))) ∧ Below W.heap.size W w' := fun k hk W hW =>
    signed_power _ k hk s m e _ (by have := sciB_size (padB t n) (z + 1); rw [padB_size] at this; omega) W fun W1 hb => powerWrite_any t z n (by omega) (by omega) (by omega) hn1 (by omega) W1 (hW.below hb).2.1 (hW.below hb).2.2.2
  have hin : (1 : Int) ≤ (n : Int) ∧ (n : Int) ≤ 400 := by omega
  rcases hp with ⟨hn, rfl, rfl, rfl, rfl⟩ | ⟨rfl, rfl, rfl, rfl⟩ | ⟨rfl, rfl, rfl, rfl⟩ | ⟨n', p, q, t', hc, h0, rfl, hn, hq, rfl, rfl, rfl⟩
  · exact ⟨_, .inr ⟨hin, .inl ⟨hn, rfl⟩⟩, fun W _ => signed_nan _ 0 0 W⟩
  · exact ⟨_, .inr ⟨hin, .inr (.inl ⟨s, rfl, rfl⟩)⟩, fun W _ => signed_inf _ s 0 0 W⟩
  · rcases hd1 with ⟨_, rfl, rfl⟩ | ⟨h, _⟩
    · have hz : t = ⟨#[]⟩ ∧ z = 0 := by
        rcases hr with ⟨h, _⟩ | ⟨_, _, rfl, rfl⟩ | ⟨_, h, _⟩
        · omega
        · exact ⟨rfl, rfl⟩
        · exact absurd h (by show ¬ ((n : Int) < ((0 : Nat) : Int)); omega)
      obtain ⟨rfl, rfl⟩ := hz
      have := key 0 (.inl rfl)
      have ez : padB ⟨#[]⟩ n = zerosB n := by
        rw [pad_long ⟨#[]⟩ n (Nat.zero_le _)]
        apply bytes_ext
        rw [append_list]
        rfl
      rw [ez] at this
      exact ⟨_, .inr ⟨hin, .inr (.inr (.inl ⟨s, rfl, rfl⟩))⟩, this⟩
    · exact absurd h (by decide)
  · rw [Int.toNat_natCast] at hd1
    obtain ⟨_, hq0, _, _⟩ := parts_bounds n' p q t' hc h0 hn
    rcases hd1 with ⟨h, _⟩ | ⟨_, hx⟩
    · omega
    · obtain ⟨d, p', hcut, htx⟩ := rnd_sci ds y n hn1 t z hx.2.1 hx.1 hx.2.2.1 hr
      have := key 1 (.inr rfl)
      rw [htx] at this
      exact ⟨_, .inr ⟨hin, .inr (.inr (.inr ⟨s, n', p, q, t', ds, y + 1, d, p', hc, h0, rfl, hn, hq, hx, hcut, rfl⟩))⟩, this⟩
set_option maxHeartbeats 1000000 in
set_option maxRecDepth 100000 in
theorem implDigits5_out (x : Nat) (n : Int) (hn : n < 1 ∨ 400 < n) (w : World) :
    Calls Tryd.prog 10 #[.float .f64 x, .int .i64 n] w fun e w' => e = .returned (.string ⟨#[]⟩) ∧ Below w.heap.size w w' := by
  rcases hn with h | h
  · go_enter Tryd.func10, Tryd.ntmps10
    go_wp2
    go_ret
    exact ⟨rfl, Below.refl _ _⟩
  · have h1 : ¬ n < 1 := by omega
    go_enter Tryd.func10, Tryd.ntmps10
    go_wp2
    go_ret
    exact ⟨rfl, Below.refl _ _⟩
set_option maxHeartbeats 1000000 in
set_option maxRecDepth 100000 in
theorem implDigits5_in (x : Nat) (hx : x < 18446744073709551616) (n : Nat) (hn1 : 1 ≤ n) (hn2 : n ≤ 400) (w : World) (hG : WrG w) :
    Calls Tryd.prog 10 #[.float .f64 x, .int .i64 (n : Int)] w fun e w' => ∃ t, digitsV x (n : Int) t ∧ e = .returned (.string t) ∧ Below w.heap.size w w' := by
  obtain ⟨k, s, m, e, hp⟩ := parts_ex x hx
  obtain ⟨q, rfl, hq, he1, he2⟩ := parts_mant x k s m e hp
  have HP : Hid _ := fun (_ : Unit) => implParts_of x hx k s q e hp w hG.1 hG.2.2.1
  have HG : Hid (WrG w) := hG
  have HS : Hid (∀ ds y t z, DofR q e ds y → RndD ds y (n : Int) t z → ∃ u, digitsV x (n : Int) u ∧ ∀ W, WrG W → Calls Tryd.prog 20 #[.agg #[.int .i64 k, .bool s, .int .i64 (q : Int), .int .i64 e], .iface 50 (.agg #[.string t, .int .i64 z, .int .i64 (n : Int)])] W fun r w' => r = .returned (.string u) ∧ Below W.heap.size W w') := fun ds y t z hd hr =>
    digits_signed x k s q e hp ds y (by rw [Int.toNat_natCast]; exact hd) n hn1 hn2 t z hr
  have hn1' : ¬ (n : Int) < 1 := by omega
  have hn2' : ¬ 400 < (n : Int) := by omega
  clear hp hG
  go_enter Tryd.func10, Tryd.ntmps10
  go_wp2_with fail
  refine (HP.out ()).mono ?_
  rintro r W1 ⟨rfl, hb1⟩
  obtain ⟨A, hA⟩ : ∃ A, W1.heap.size = A := ⟨_, rfl⟩
  obtain ⟨W2, hW2⟩ : ∃ W2, W1.alloc (.cells #[.int .i64 k, .bool s, .int .i64 (q : Int), .int .i64 e] 36) = W2 := ⟨_, rfl⟩
  have HX2 : Hid (Box4 w A k s (q : Int) e W2) := by rw [← hW2, ← hA]; exact Box4.new hb1
  have HD : Hid (∀ W, Box4 w A k s (q : Int) e W → Calls Tryd.prog 21 #[.agg #[.int .i64 k, .bool s, .int .i64 (q : Int), .int .i64 e]] W fun r w' => ∃ ds y, Hid (DofR q e ds y) ∧ r = .returned (.agg #[.string ds, .int .i64 y]) ∧ Hid (Box4 w A k s (q : Int) e w')) := fun W hW => by
    have hg := HG.out.below hW.1
    refine (decimalOf_any k s q e hq (by omega) (by omega) W hg.2.1 hg.2.2.2).mono ?_
    rintro r w' ⟨ds, y, h1, h2, h3, h4, rfl, hb⟩
    exact ⟨ds, y, ⟨h1, h2, h3, h4⟩, rfl, hW.next hb⟩
  have hc0 := HX2.out.2.1
  have hc1 := HX2.out.2.2.1
  have hc2 := HX2.out.2.2.2.1
  have hc3 := HX2.out.2.2.2.2
  clear hb1
  have HRN : Hid (∀ ds y, DofR q e ds y → ∀ W, Box4 w A k s (q : Int) e W → Calls Tryd.prog 27 #[.agg #[.string ds, .int .i64 y], .int .i64 (n : Int)] W fun r w' => ∃ t z, Hid (RndD ds y (n : Int) t z) ∧ r = .returned (.agg #[.string t, .int .i64 z]) ∧ Hid (Box4 w A k s (q : Int) e w')) := fun ds y hd W hW => by
    refine (round_any ds y (n : Int) (by have := hd.2.1; omega) (by have := hd.2.2.1; omega) (by have := hd.2.2.2; omega) (dof_good hd) W).mono ?_
    rintro r w' ⟨t, z, h1, rfl, hb⟩
    exact ⟨t, z, h1, rfl, hW.next hb⟩
  go_wp2
  refine wp_region_held_drew (S := fun X => Box4 w A k s (q : Int) e X) (by kernel_rfl) HX2.out.drew (fun hHeld => ?_)
  refine wpAnyH_take (i := 0) (oi := _) (v := ?v0) rfl (by kernel_rfl) (by kernel_rfl) (by kernel_rfl) (fun _ _ _ h => h) (Or.inl ⟨by rfl, ?y0⟩) (by assumption) ?_
  case y0 => (intro w' hSw; obtain ⟨_, y0, y1, y2, y3⟩ := hSw; go_simp; first | done | with_reducible rfl)
  try simp only [Act.put]
  try simp only [List.setIfInBounds_toArray]
  try simp only [List.set_cons_succ]
  try simp only [List.set_cons_zero]
  refine wpAnyH_take (i := 1) (oi := _) (v := ?v1) rfl (by kernel_rfl) (by kernel_rfl) (by kernel_rfl) (fun _ _ _ h => h) (Or.inl ⟨by rfl, ?y1⟩) (by assumption) ?_
  case y1 => (intro w' hSw; obtain ⟨_, y0, y1, y2, y3⟩ := hSw; go_simp; first | done | with_reducible rfl)
  try simp only [Act.put]
  try simp only [List.setIfInBounds_toArray]
  try simp only [List.set_cons_succ]
  try simp only [List.set_cons_zero]
  refine wpAnyH_take (i := 3) (oi := _) (v := ?v3) rfl (by kernel_rfl) (by kernel_rfl) (by kernel_rfl) (fun _ _ _ h => h) (Or.inl ⟨by rfl, ?y3⟩) (by assumption) ?_
  case y3 => (intro w' hSw; go_simp; first | done | with_reducible rfl)
  try simp only [Act.put]
  try simp only [List.setIfInBounds_toArray]
  try simp only [List.set_cons_succ]
  try simp only [List.set_cons_zero]
  refine wpAnyH_take (i := 5) (oi := _) (v := ?v5) rfl (by kernel_rfl) (by kernel_rfl) (by kernel_rfl) (fun _ _ _ h => h) (Or.inl ⟨by rfl, ?y5⟩) (by assumption) ?_
  case y5 => (intro w' hSw; go_simp; first | done | with_reducible rfl)
  try simp only [Act.put]
  try simp only [List.setIfInBounds_toArray]
  try simp only [List.set_cons_succ]
  try simp only [List.set_cons_zero]
  have HXd : Hid (Box4 w A k s (q : Int) e W2.drew) := HX2.out.drew
  generalize W2.drew = W3 at *
  refine wpAnyH_ready (rs := [2]) (by kernel_rfl) (by simp) ?_
  refine AllReadyH.cons (o := _) rfl (fun K hK => ?_) AllReadyH.nil
  go_simp
  refine (HD.out _ HXd.out).mono ?_
  rintro r W4 ⟨ds, y, HDR, rfl, HX4⟩
  dsimp only
  refine hK.out _ _ HX4.out (fun hHeld => ?_)
  clear hK K
  try simp only [Act.put]
  try simp only [List.setIfInBounds_toArray]
  try simp only [List.set_cons_succ]
  try simp only [List.set_cons_zero]
  refine wpAnyH_ready (rs := [4]) (by kernel_rfl) (by simp) ?_
  refine AllReadyH.cons (o := _) rfl (fun K hK => ?_) AllReadyH.nil
  go_simp
  refine (HRN.out ds y HDR.out _ HX4.out).mono ?_
  rintro r W5 ⟨t, z, HRD, rfl, HX5⟩
  dsimp only
  refine hK.out _ _ HX5.out (fun hHeld => ?_)
  clear hK K
  try simp only [Act.put]
  try simp only [List.setIfInBounds_toArray]
  try simp only [List.set_cons_succ]
  try simp only [List.set_cons_zero]
  refine wpAnyH_take (i := 6) (oi := _) (v := ?v6) rfl (by kernel_rfl) (by kernel_rfl) (by kernel_rfl) (fun _ _ _ h => h) (Or.inl ⟨by rfl, ?y6⟩) (by assumption) ?_
  case y6 => (intro w' hSw; go_simp; first | done | with_reducible rfl)
  try simp only [Act.put]
  try simp only [List.setIfInBounds_toArray]
  try simp only [List.set_cons_succ]
  try simp only [List.set_cons_zero]
  refine wpAnyH_take (i := 7) (oi := _) (v := ?v7) rfl (by kernel_rfl) (by kernel_rfl) (by kernel_rfl) (fun _ _ _ h => h) (Or.inl ⟨by rfl, ?y7⟩) (by assumption) ?_
  case y7 => (intro w' hSw; go_simp; first | done | with_reducible rfl)
  try simp only [Act.put]
  try simp only [List.setIfInBounds_toArray]
  try simp only [List.set_cons_succ]
  try simp only [List.set_cons_zero]
  obtain ⟨u, hu, hs⟩ := HS.out ds y t z HDR.out HRD.out
  have HV : Hid (digitsV x (n : Int) u) := hu
  have HSG : Hid _ := hs
  clear hu hs
  refine wpAnyH_ready (rs := [8]) (by kernel_rfl) (by simp) ?_
  refine AllReadyH.cons (o := _) rfl (fun K hK => ?_) AllReadyH.nil
  go_simp
  refine (HSG.out _ (HG.out.below HX5.out.1)).mono ?_
  rintro r W6 ⟨rfl, hb6⟩
  have HX6 : Hid (Box4 w A k s (q : Int) e W6) := HX5.out.next hb6
  clear hb6
  dsimp only
  refine hK.out _ _ HX6.out (fun hHeld => ?_)
  clear hK K
  try simp only [Act.put]
  try simp only [List.setIfInBounds_toArray]
  try simp only [List.set_cons_succ]
  try simp only [List.set_cons_zero]
  refine wpAnyH_ready (rs := [9]) (by kernel_rfl) (by simp) ?_
  refine AllReadyH.cons (o := _) rfl (fun K hK => ?_) AllReadyH.nil
  go_simp
  refine hK.out _ _ HX6.out (fun hHeld => ?_)
  clear hK K
  refine wpAnyH_done (by kernel_rfl) ?_ _
  go_wp2
  go_ret
  exact ⟨u, HV.out, rfl, HX6.out.1⟩
theorem implDigits5_any (x : Nat) (hx : x < 18446744073709551616) (n : Int) (w : World) (hG : WrG w) :
    Calls Tryd.prog 10 #[.float .f64 x, .int .i64 n] w fun e w' => ∃ t, digitsV x n t ∧ e = .returned (.string t) ∧ Below w.heap.size w w' := by
  by_cases ho : n < 1 ∨ 400 < n
  · refine (implDigits5_out x n ho w).mono ?_
    rintro e w' ⟨rfl, hb⟩
    exact ⟨_, .inl ⟨ho, rfl⟩, rfl, hb⟩
  · obtain ⟨j, rfl⟩ := Int.eq_ofNat_of_zero_le (show 0 ≤ n by omega)
    exact implDigits5_in x hx j (by omega) (by omega) w hG
end Go.Proofs.YtpmccbkhkaoccaaDoor

