import Derived.Test.YtoedefjngipeiaaGreatDoorA11
import Derived.Test.YtoedefjngipeiaaGreatDoorA36
import Derived.Test.YtoedefjngipeiaaGreatDoorA03
import Derived.Test.YtoedefjngipeiaaGreatDoorA37
/- What reading answers is one thing alone: plain. -/
namespace Go.Proofs.YtoedefjngipeiaaGreatDoor
open Go.RowKit

theorem sgn_one {s : ByteArray} {k j j' : Nat} {n n' : Bool} (h : Sgn s k n j) (h' : Sgn s k n' j') : n = n' ∧ j = j' := by
  rcases h with ⟨_, a, rfl, rfl⟩ | ⟨_, a, rfl, rfl⟩ | ⟨a, b, rfl, rfl⟩ <;> rcases h' with ⟨_, c, rfl, rfl⟩ | ⟨_, c, rfl, rfl⟩ | ⟨c, d, rfl, rfl⟩ <;> first | exact ⟨rfl, rfl⟩ | (exfalso; omega)
theorem bas_one {s : ByteArray} {k b j b' j' : Nat} (h : Bas s k b j) (h' : Bas s k b' j') : b = b' ∧ j = j' := by
  rcases h with ⟨a1, a2, a3, rfl, rfl⟩ | ⟨a, rfl, rfl⟩ <;> rcases h' with ⟨c1, c2, c3, rfl, rfl⟩ | ⟨c, rfl, rfl⟩
  · exact ⟨rfl, rfl⟩
  · exact absurd ⟨a1, a2, a3⟩ c
  · exact absurd ⟨c1, c2, c3⟩ a
  · exact ⟨rfl, rfl⟩
theorem frac_one {b : Nat} {s : ByteArray} {k j : Nat} {r r' : Option (ByteArray × Int × Nat)} (h : Frac b s k j r) (h' : Frac b s k j r') : r = r' := by
  rcases h with ⟨a, rfl⟩ | ⟨a, i, hi, h⟩ <;> rcases h' with ⟨c, rfl⟩ | ⟨c, i', hi', h'⟩
  · rfl
  · exact absurd c a
  · exact absurd a c
  · obtain rfl := run_one _ _ _ _ _ hi hi'
    rcases h with ⟨e, rfl⟩ | ⟨e, rfl⟩ <;> rcases h' with ⟨e', rfl⟩ | ⟨e', rfl⟩ <;> first | rfl | (exfalso; omega)
theorem expo_one {m : Int} {s : ByteArray} {j : Nat} {r r' : Sum (Int × Nat) Nat} (h : Expo m s j r) (h' : Expo m s j r') : r = r' := by
  rcases h with ⟨a, rfl⟩ | ⟨a, n, k, i, hs, hi, h⟩ <;> rcases h' with ⟨c, rfl⟩ | ⟨c, n', k', i', hs', hi', h'⟩
  · rfl
  · exact absurd c a
  · exact absurd a c
  · obtain ⟨rfl, rfl⟩ := sgn_one hs hs'
    obtain rfl := run_one _ _ _ _ _ hi hi'
    rcases h with ⟨e, rfl⟩ | ⟨e, rfl⟩ <;> rcases h' with ⟨e', rfl⟩ | ⟨e', rfl⟩ <;> first | rfl | (exfalso; omega)
theorem word_two (x : Int) (n n' : Bool) (h : x = wordC n 0) (h' : x = wordC n' 0) : n = n' := by
  cases n <;> cases n' <;> first | rfl | (exfalso; simp [wordC] at h h'; omega)
theorem word_not (x : Int) (n : Bool) (h : x = wordC n 0) (h1 : x ≠ 105) (h2 : x ≠ 110) : False := by
  cases n <;> simp [wordC] at h <;> omega
theorem readA_one {s : ByteArray} {ok ok' : Bool} {pl pl' : Int} {fl fl' : Nat → Prop} (h : ReadA s ok pl fl) (h' : ReadA s ok' pl' fl') : ok = ok' ∧ pl = pl' ∧ fl = fl' := by
  rcases h with ⟨hs, rfl, rfl, rfl⟩ | ⟨hs, neg, k, hg, h⟩ <;> rcases h' with ⟨hs', rfl, rfl, rfl⟩ | ⟨hs', neg', k', hg', h'⟩
  · exact ⟨rfl, rfl, rfl⟩
  · omega
  · omega
  obtain ⟨rfl, rfl⟩ := sgn_one hg hg'
  rcases h with ⟨nan, hw, i, hi, hm, h⟩ | ⟨n1, n2, b, k1, j, hb, hr, h⟩ <;> rcases h' with ⟨nan', hw', i', hi', hm', h'⟩ | ⟨n1', n2', b', k1', j', hb', hr', h'⟩
  · obtain rfl := word_two _ _ _ hw hw'
    have e : i = i' := by
      rcases Nat.lt_trichotomy i i' with hl | e | hl
      · exfalso
        have := hm' i hl
        rcases h with ⟨_, h, _⟩ | ⟨h, _⟩ | ⟨h, _⟩
        · exact h this
        · omega
        · omega
      · exact e
      · exfalso
        have := hm i' hl
        rcases h' with ⟨_, h, _⟩ | ⟨h, _⟩ | ⟨h, _⟩
        · exact h this
        · omega
        · omega
    subst e
    rcases h with ⟨a, _, rfl, rfl, rfl⟩ | ⟨a, c, rfl, rfl, rfl⟩ | ⟨a, c, rfl, rfl, rfl⟩ <;> rcases h' with ⟨a', _, rfl, rfl, rfl⟩ | ⟨a', c', rfl, rfl, rfl⟩ | ⟨a', c', rfl, rfl, rfl⟩ <;> first | exact ⟨rfl, rfl, rfl⟩ | (exfalso; omega)
  · exact (word_not _ _ hw n1' n2').elim
  · exact (word_not _ _ hw' n1 n2).elim
  · obtain ⟨rfl, rfl⟩ := bas_one hb hb'
    obtain rfl := run_one _ _ _ _ _ hr hr'
    rcases h with ⟨e, rfl, rfl, rfl⟩ | ⟨e, r, hf, h⟩ <;> rcases h' with ⟨e', rfl, rfl, rfl⟩ | ⟨e', r', hf', h'⟩
    · exact ⟨rfl, rfl, rfl⟩
    · omega
    · omega
    obtain rfl := frac_one hf hf'
    rcases h with ⟨rfl, rfl, rfl, rfl⟩ | ⟨ds, ex, i, x, hr1, hx, h⟩ <;> rcases h' with ⟨h2, rfl, rfl, rfl⟩ | ⟨ds', ex', i', x', hr2, hx', h'⟩
    · exact ⟨rfl, rfl, rfl⟩
    · cases hr2
    · rw [hr1] at h2; cases h2
    rw [hr1] at hr2
    obtain ⟨rfl, rfl, rfl⟩ : ds = ds' ∧ ex = ex' ∧ i = i' := by simpa using hr2
    obtain rfl := expo_one hx hx'
    rcases h with ⟨a, rfl, rfl, rfl, rfl⟩ | ⟨n, a, rfl, h⟩ <;> rcases h' with ⟨a', e', rfl, rfl, rfl⟩ | ⟨n', a', e', h'⟩
    · cases e'; exact ⟨rfl, rfl, rfl⟩
    · cases e'
    · cases e'
    · cases e'
      rcases h with ⟨a1, rfl, rfl, rfl⟩ | ⟨a1, rfl, rfl, rfl⟩ <;> rcases h' with ⟨a2, rfl, rfl, rfl⟩ | ⟨a2, rfl, rfl, rfl⟩ <;> first | exact ⟨rfl, rfl, rfl⟩ | exact absurd a1 a2 | exact absurd a2 a1
end Go.Proofs.YtoedefjngipeiaaGreatDoor

/- What is read behind zeros, or behind a minus: plain. -/
namespace Go.Proofs.YtoedefjngipeiaaGreatDoor
open Go.RowKit

theorem dig_shift (b : Int) (p s : ByteArray) (i : Nat) : Dig b (p ++ s) (p.size + i) ↔ Dig b s i := by
  unfold Dig
  rw [bAt_append_right, append_size]
  constructor <;> rintro ⟨h1, h2⟩ <;> exact ⟨by omega, h2⟩
theorem run_shift {b : Int} (p : ByteArray) {s : ByteArray} {k j : Nat} (h : Run b s k j) : Run b (p ++ s) (p.size + k) (p.size + j) := by
  obtain ⟨h1, h2, h3, h4⟩ := h
  refine ⟨by omega, by rw [append_size]; omega, fun i a c => ?_, fun h => h4 ((dig_shift b p s j).1 h)⟩
  have := (dig_shift b p s (i - p.size)).2 (h3 (i - p.size) (by omega) (by omega))
  rwa [show p.size + (i - p.size) = i by omega] at this
theorem sgn_shift (p : ByteArray) {s : ByteArray} {k j : Nat} {n : Bool} (h : Sgn s k n j) : Sgn (p ++ s) (p.size + k) n (p.size + j) := by
  unfold Sgn
  rw [bAt_append_right, append_size]
  rcases h with ⟨a, c, d, rfl⟩ | ⟨a, c, d, rfl⟩ | ⟨a, c, d, rfl⟩
  · exact .inl ⟨by omega, c, d, by omega⟩
  · exact .inr (.inl ⟨by omega, c, d, by omega⟩)
  · exact .inr (.inr ⟨a, c, d, rfl⟩)
theorem extract_shift (p s : ByteArray) (k j : Nat) : (p ++ s).extract (p.size + k) (p.size + j) = s.extract k j := by
  apply ByteArray.ext
  apply Array.toList_inj.1
  rw [Lib.extract_eq, Lib.extract_eq, append_list]
  have e1 : p.size + j - (p.size + k) = j - k := by omega
  have e2 : p.data.toList.length = p.size := data_len p
  simp only [e1, List.drop_append, e2]
  rw [List.drop_eq_nil_of_le (by omega), show p.size + k - p.size = k by omega, List.nil_append]
theorem extract_from (p s : ByteArray) (j : Nat) : (p ++ s).extract 0 (p.size + j) = p ++ s.extract 0 j := by
  apply ByteArray.ext
  apply Array.toList_inj.1
  rw [Lib.extract_eq, append_list, append_list, Lib.extract_eq]
  have e2 : p.data.toList.length = p.size := data_len p
  simp only [Nat.sub_zero, List.drop_zero]
  rw [List.take_append, List.take_of_length_le (by omega), e2, show p.size + j - p.size = j by omega]
theorem runV_shift (b : Nat) (p s : ByteArray) (k j : Nat) : runV b (p ++ s) (p.size + k) (p.size + j) = runV b s k j := by
  unfold runV; rw [extract_shift]
theorem expo_shift {m : Int} (p : ByteArray) {s : ByteArray} {j : Nat} {n : Int} {a : Nat} (h : Expo m s j (.inl (n, a))) : Expo m (p ++ s) (p.size + j) (.inl (n, p.size + a)) := by
  unfold Expo
  rw [bAt_append_right]
  rcases h with ⟨h1, h2⟩ | ⟨h1, neg, k, i, hs, hr, ⟨_, h2⟩ | ⟨hk, h2⟩⟩
  · obtain ⟨rfl, rfl⟩ : n = 0 ∧ a = j := by simpa using h2
    exact .inl ⟨h1, rfl⟩
  · cases h2
  · obtain ⟨rfl, rfl⟩ : n = expV neg (runV 10 s k i) ∧ a = i := by simpa using h2
    have hs' := sgn_shift p hs
    rw [show p.size + (j + 1) = p.size + j + 1 by omega] at hs'
    exact .inr ⟨h1, neg, p.size + k, p.size + a, hs', run_shift p hr, .inr ⟨by omega, by rw [runV_shift]⟩⟩
/-- The digits' part, behind a text: as it was. -/
theorem frac_shift {b : Nat} (p : ByteArray) {s : ByteArray} {k j i : Nat} {ds : ByteArray} {e : Int} (h : Frac b s k j (some (ds, e, i))) : Frac b (p ++ s) (p.size + k) (p.size + j) (some (ds, e, p.size + i)) := by
  unfold Frac
  rw [bAt_append_right]
  rcases h with ⟨h1, h2⟩ | ⟨h1, i', hr, ⟨_, h2⟩ | ⟨hk, h2⟩⟩
  · obtain ⟨rfl, rfl, rfl⟩ : ds = s.extract k j ∧ e = 0 ∧ i = j := by simpa using h2
    exact .inl ⟨h1, by rw [extract_shift]⟩
  · cases h2
  · obtain ⟨rfl, rfl, rfl⟩ : ds = s.extract k j ++ s.extract (j + 1) i' ∧ e = -((i' - (j + 1) : Nat) : Int) ∧ i = i' := by simpa using h2
    have hr' := run_shift p hr
    rw [show p.size + (j + 1) = p.size + j + 1 by omega] at hr'
    refine .inr ⟨h1, p.size + i, hr', .inr ⟨by omega, ?_⟩⟩
    have e1 := extract_shift p s (j + 1) i
    rw [show p.size + (j + 1) = p.size + j + 1 by omega] at e1
    rw [extract_shift, e1, show p.size + i - (p.size + j + 1) = i - (j + 1) by omega]
/-- The digits' part, zeros ahead of it. -/
theorem frac_zeros {b : Nat} (p : ByteArray) {s : ByteArray} {j i : Nat} {ds : ByteArray} {e : Int} (h : Frac b s 0 j (some (ds, e, i))) : Frac b (p ++ s) 0 (p.size + j) (some (p ++ ds, e, p.size + i)) := by
  unfold Frac
  rw [bAt_append_right]
  rcases h with ⟨h1, h2⟩ | ⟨h1, i', hr, ⟨_, h2⟩ | ⟨hk, h2⟩⟩
  · obtain ⟨rfl, rfl, rfl⟩ : ds = s.extract 0 j ∧ e = 0 ∧ i = j := by simpa using h2
    exact .inl ⟨h1, by rw [extract_from]⟩
  · cases h2
  · obtain ⟨rfl, rfl, rfl⟩ : ds = s.extract 0 j ++ s.extract (j + 1) i' ∧ e = -((i' - (j + 1) : Nat) : Int) ∧ i = i' := by simpa using h2
    have hr' := run_shift p hr
    rw [show p.size + (j + 1) = p.size + j + 1 by omega] at hr'
    refine .inr ⟨h1, p.size + i, hr', .inr ⟨by omega, ?_⟩⟩
    have e1 := extract_shift p s (j + 1) i
    rw [show p.size + (j + 1) = p.size + j + 1 by omega] at e1
    rw [extract_from, e1, show p.size + i - (p.size + j + 1) = i - (j + 1) by omega, ByteArray.append_assoc]
def zzzB : ByteArray := ⟨#[48, 48, 48]⟩
def minB : ByteArray := ⟨#[45]⟩
theorem zzz_at (i : Nat) (h : i < 3) (s : ByteArray) : bAt (zzzB ++ s) i = 48 := by
  rw [bAt_append_left _ _ _ (show i < zzzB.size from h)]
  have : i = 0 ∨ i = 1 ∨ i = 2 := by omega
  rcases this with rfl | rfl | rfl <;> decide
theorem zzz_val (ds : ByteArray) : valN 10 (zzzB ++ ds).data.toList = valN 10 ds.data.toList := by
  rw [append_list, show zzzB.data.toList = [48, 48, 48] from rfl]
  show valN 10 (48 :: 48 :: 48 :: ds.data.toList) = _
  rw [valN_zero _ _ _ rfl, valN_zero _ _ _ rfl, valN_zero _ _ _ rfl]
/-- A text that begins with a digit, and is no hex: read behind zeros, and behind a minus. -/
theorem read_ahead {s : ByteArray} {pl : Int} {fl : Nat → Prop} (h : ReadA s true pl fl) (h0 : 48 ≤ bAt s 0) (h9 : bAt s 0 ≤ 57) (hx : ¬ (1 < s.size ∧ bAt s 1 = 120)) (hs : s.size ≤ 1000) :
    ∃ X, X < 9223372036854775808 ∧ fl = (· = signBit false + X) ∧ pl = 0 ∧ ReadA (zzzB ++ s) true 0 (· = signBit false + X) ∧ ReadA (minB ++ s) true 0 (· = signBit true + X) := by
  have z3 : zzzB.size = 3 := rfl
  have z1 : minB.size = 1 := rfl
  rcases h with ⟨_, h, _⟩ | ⟨_, neg, k, hg, h⟩
  · cases h
  rcases hg with ⟨_, a, _⟩ | ⟨_, a, _⟩ | ⟨a1, a2, rfl, rfl⟩
  · omega
  · omega
  rcases h with ⟨nan, hw, _⟩ | ⟨n1, n2, b, k1, j, hb, hr, h⟩
  · exfalso; cases nan <;> simp [wordC] at hw <;> omega
  rcases hb with ⟨c1, c2, c3, _⟩ | ⟨_, rfl, rfl⟩
  · exact absurd ⟨by omega, by simpa using c3⟩ hx
  rcases h with ⟨_, h, _⟩ | ⟨hj, r, hf, h⟩
  · cases h
  rcases h with ⟨_, h, _⟩ | ⟨ds, e, i, x, rfl, hex, h⟩
  · cases h
  rcases h with ⟨_, _, h, _⟩ | ⟨n, a, rfl, ⟨_, h, _⟩ | ⟨ha, _, rfl, rfl⟩⟩
  · cases h
  · cases h
  refine ⟨decW 10 (valN 10 ds.data.toList) (e + n), decW_half _ _ _, ?_, rfl, .inr ⟨by rw [append_size]; omega, false, 0, ?_, .inr ⟨?_, ?_, 10, 0, 3 + j, ?_, ?_, .inr ⟨by omega, _, frac_zeros zzzB hf, .inr ⟨_, _, _, _, rfl, expo_shift zzzB hex, .inr ⟨n, _, rfl, .inr ⟨by rw [append_size]; omega, rfl, rfl, ?_⟩⟩⟩⟩⟩⟩,
    .inr ⟨by rw [append_size]; omega, true, 1, ?_, .inr ⟨?_, ?_, 10, 1, 1 + j, ?_, ?_, .inr ⟨by omega, _, frac_shift minB hf, .inr ⟨_, _, _, _, rfl, expo_shift minB hex, .inr ⟨n, _, rfl, .inr ⟨by rw [append_size]; omega, rfl, rfl, ?_⟩⟩⟩⟩⟩⟩⟩
  · unfold flW expOf; rw [if_neg (by omega), if_neg (by omega)]
  · have := zzz_at 0 (by omega) s
    exact .inr (.inr ⟨by omega, by omega, rfl, rfl⟩)
  · have := zzz_at 0 (by omega) s; omega
  · have := zzz_at 0 (by omega) s; omega
  · have := zzz_at 1 (by omega) s
    exact .inr ⟨fun h => by have h2 := h.2.2; rw [Nat.zero_add] at h2; omega, rfl, rfl⟩
  · have hr' := run_shift zzzB hr
    obtain ⟨r1, r2, r3, r4⟩ := hr'
    refine ⟨by omega, r2, fun i' _ hi => ?_, r4⟩
    by_cases h3 : i' < 3
    · refine ⟨by rw [append_size]; omega, ?_⟩
      rw [zzz_at i' h3]; decide
    · exact r3 i' (by omega) hi
  · unfold flW expOf; rw [if_neg (by omega), if_neg (by omega), zzz_val]
  · exact .inl ⟨by rw [append_size]; omega, by rw [bAt_append_left _ _ _ (by omega)]; decide, rfl, rfl⟩
  · have := bAt_append_right minB s 0; rw [z1, Nat.add_zero] at this; omega
  · have := bAt_append_right minB s 0; rw [z1, Nat.add_zero] at this; omega
  · refine .inr ⟨fun h => ?_, rfl, rfl⟩
    have e1 := bAt_append_right minB s 1
    rw [z1] at e1
    rw [append_size, z1] at h
    exact hx ⟨by omega, by omega⟩
  · have hr' := run_shift minB hr
    exact hr'
  · unfold flW expOf; rw [if_neg (by omega), if_neg (by omega)]
end Go.Proofs.YtoedefjngipeiaaGreatDoor

/- Floats held against each other, as the laws over drawn inputs do it. -/
namespace Go.Proofs.YtoedefjngipeiaaGreatDoor
open Go.ChangeShapes Go.WideShapes Go.RowKit
open Ieee (double)

set_option maxHeartbeats 400000 in
theorem wflt_nan (x y : Nat) (hx : IsNan x) (hy : IsNan y) (w : World) :
    Calls Tryz.prog 7 #[.float .f64 x, .float .f64 y] w fun e w' => e = .returned (.bool true) ∧ w' = w := by
  have h1 : (FloatKind.f64.format.order x x != some .eq) = true := nan_neq x hx
  have h2 : (FloatKind.f64.format.order y y != some .eq) = true := nan_neq y hy
  go_enter Tryz.func7, Tryz.ntmps7
  go_wp2
  go_ret
  exact ⟨rfl, rfl⟩
set_option maxHeartbeats 400000 in
theorem wflt_some (x : Nat) (h1 : FloatKind.f64.format.order x x = some .eq) (h2 : FloatKind.f64.format.order x 0 = some .lt ∨ FloatKind.f64.format.order x 0 = some .gt) (w : World) :
    Calls Tryz.prog 7 #[.float .f64 x, .float .f64 x] w fun e w' => e = .returned (.bool true) ∧ w' = w := by
  rcases h2 with h2 | h2
  all_goals
    go_enter Tryz.func7, Tryz.ntmps7
    go_wp2
    go_ret
    exact ⟨rfl, rfl⟩
set_option maxHeartbeats 400000 in
theorem wflt_zero (s : Bool) (w : World) :
    Calls Tryz.prog 7 #[.float .f64 (signBit s), .float .f64 (signBit s)] w fun e w' => e = .returned (.bool true) ∧ w' = w := by
  have hn : FloatKind.f64.format.order (signBit s) (signBit s) = some .eq := by
    have := order_self_fw s 0 (-1074) canon_zero
    rw [fw_zero] at this
    exact this
  have hz : FloatKind.f64.format.order (signBit s) 0 = some .eq := ord_zeros s
  have hd := run_valid (P := Tryz.prog) .quo 23 _ _ _ (one_by_zero s)
  have hi : FloatKind.f64.format.order (iw s) (iw s) = some .eq := order_self_iw s
  generalize iw s = I at *
  generalize signBit s = Z at *
  go_enter Tryz.func7, Tryz.ntmps7
  go_wp2
  go_ret
  exact ⟨rfl, rfl⟩
/-- One float is the same as itself. -/
theorem wflt_self (x : Nat) (hx : x < 18446744073709551616) (w : World) :
    Calls Tryz.prog 7 #[.float .f64 x, .float .f64 x] w fun e w' => e = .returned (.bool true) ∧ w' = w := by
  rcases float_cases x hx with h | ⟨s, rfl⟩ | ⟨s, n, p, hc, rfl⟩
  · exact wflt_nan x x h h w
  · refine wflt_some (iw s) (order_self_iw s) ?_ w
    have := ord_inf_zero s
    cases s
    · exact .inr this
    · exact .inl this
  · by_cases h0 : n = 0
    · subst h0; rw [fw_zero]; exact wflt_zero s w
    · refine wflt_some _ (order_self_fw s n p hc) ?_ w
      have := ord_zero s n p (canon_rep n p hc) (by omega)
      cases s
      · exact .inr this
      · exact .inl this
end Go.Proofs.YtoedefjngipeiaaGreatDoor

/- A text that is read as a float, as the laws over drawn inputs ask it. -/
namespace Go.Proofs.YtoedefjngipeiaaGreatDoor
open Go.ChangeShapes Go.WideShapes Go.RowKit
open Ieee (double)

attribute [local go_sem] run_store_float

set_option maxHeartbeats 400000 in
theorem wRead_is (s : ByteArray) (f : Nat) (hf : f < 18446744073709551616) (HR0 : ∀ w, Calls Tryz.prog 15 #[.string s] w fun e w' => ∃ pl : Int, e = .returned (.agg #[.bool true, .int .i64 pl, .float .f64 f]) ∧ Below w.heap.size w w') (w : World) :
    Calls Tryz.prog 12 #[.string s, .float .f64 f] w fun e w' => e = .returned (.bool true) ∧ Below w.heap.size w w' := by
  have HR : Hid _ := HR0
  have HW : Hid _ := fun w => wflt_self f hf w
  clear HR0 hf
  go_enter Tryz.func12, Tryz.ntmps12
  go_wp2_with fail
  refine (HR.out _).mono ?_
  rintro e w1 ⟨pl, rfl, hb⟩
  have HB : Hid (Below w.heap.size w w1) := hb
  clear hb HR
  go_wp2_with fail
  refine (HW.out _).mono ?_
  rintro e w2 ⟨rfl, rfl⟩
  go_wp2
  go_ret
  exact ⟨rfl, HB.out.alloc HB.out.size _⟩
end Go.Proofs.YtoedefjngipeiaaGreatDoor

