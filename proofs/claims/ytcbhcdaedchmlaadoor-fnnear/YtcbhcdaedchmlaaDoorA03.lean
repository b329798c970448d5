import Derived.Test.YtcbhcdaedchmlaaDoorA02
/- Floats of 64 bits: numbers of at most 53 digits, in whatever form. -/
namespace Go.Proofs.YtcbhcdaedchmlaaDoor
open Ieee

/-- A number that a float is. -/
def Rep (m : Nat) (p : Int) : Prop := m < 9007199254740992 ∧ -1074 ≤ p ∧ (m = 0 ∨ p + m.log2 ≤ 1023)
theorem sval_zero (s : Bool) (p : Int) : sval s 0 p = 0 := by unfold sval; rw [signed_eq, Nat.zero_mul]; simp
theorem sval_scale (s : Bool) (m k : Nat) (p : Int) (h : -2200 ≤ p - k) : sval s (m * 2 ^ k) (p - k) = sval s m p := by
  unfold sval
  rw [signed_eq, signed_eq, Nat.mul_assoc, ← Nat.pow_add, show k + (p - k + 2200).toNat = (p + 2200).toNat by omega]
theorem sval_le (m n : Nat) (p q : Int) (h : n ≤ m) (hp : q ≤ p) : sval false n q ≤ sval false m p := by
  unfold sval
  rw [signed_eq, signed_eq]
  have h1 : n * 2 ^ (q + 2200).toNat ≤ m * 2 ^ (p + 2200).toNat := Nat.mul_le_mul h (Nat.pow_le_pow_right (by omega) (by omega))
  simp only [Bool.false_eq_true, if_false, Int.one_mul]
  exact Int.ofNat_le.2 h1
theorem sval_lt (m n : Nat) (p q : Int) (h : m < n) (hp : p ≤ q) : sval false m p < sval false n q := by
  unfold sval
  rw [signed_eq, signed_eq]
  have h1 : m * 2 ^ (p + 2200).toNat < n * 2 ^ (p + 2200).toNat := Nat.mul_lt_mul_of_pos_right h (Nat.two_pow_pos _)
  have h2 : n * 2 ^ (p + 2200).toNat ≤ n * 2 ^ (q + 2200).toNat := Nat.mul_le_mul_left _ (Nat.pow_le_pow_right (by omega) (by omega))
  simp only [Bool.false_eq_true, if_false, Int.one_mul]
  exact Int.ofNat_lt.2 (Nat.lt_of_lt_of_le h1 h2)
theorem rep_canon (m : Nat) (p : Int) (h : Rep m p) : ∃ n q, Canon n q ∧ (∀ s, fw s m p = fw s n q) ∧ (∀ s, sval s m p = sval s n q) ∧ (0 < m → 0 < n) := by
  obtain ⟨h53, hp, hl⟩ := h
  by_cases h0 : m = 0
  · subst h0
    exact ⟨0, -1074, canon_zero, fun s => by rw [fw_zero, fw_zero], fun s => by rw [sval_zero, sval_zero], fun h => h⟩
  · obtain ⟨k, hk, hc, he⟩ := canon_of m p (by omega) h53 hp (by rcases hl with hl | hl <;> omega)
    exact ⟨_, _, hc, he, fun s => (sval_scale s m k p (by omega)).symm, fun h => Nat.mul_pos h (Nat.two_pow_pos k)⟩
theorem canon_rep (m : Nat) (p : Int) (h : Canon m p) : Rep m p := by
  rcases h with ⟨h1, h2, h3, h4⟩ | ⟨h1, rfl⟩
  · exact ⟨h2, h3, .inr (by rw [log2_53 m h1 h2]; omega)⟩
  · refine ⟨by omega, by omega, ?_⟩
    by_cases h0 : m = 0
    · exact .inl h0
    · have := log2_lt m h0 h1
      exact .inr (by omega)
theorem order_rep (s t : Bool) (m n : Nat) (i j : Int) (h : Rep m i) (k : Rep n j) : double.order (fw s m i) (fw t n j) = some (compare (sval s m i) (sval t n j)) := by
  obtain ⟨m', i', hc, hf, hv, _⟩ := rep_canon m i h
  obtain ⟨n', j', kc, kf, kv, _⟩ := rep_canon n j k
  rw [hf, kf, hv, kv]
  exact order_fw s t m' n' i' j' hc kc
theorem mul_rep (s : Bool) (m : Nat) (i : Int) (h : Rep m i) (e : Int) (he : -1022 ≤ e) (he' : e ≤ 1023) : double.mul (fw s m i) (fw false 4503599627370496 (e - 52)) = some (fw s m (i + e)) := by
  obtain ⟨h53, hp, hl⟩ := h
  by_cases h0 : m = 0
  · subst h0
    rw [fw_zero, ← fw_zero s (-1074), mul_pow s 0 (-1074) canon_zero e he he', fw_zero, fw_zero]
  · obtain ⟨k, hk, hc, hf⟩ := canon_of m i (by omega) h53 hp (by rcases hl with hl | hl <;> omega)
    rw [hf s, mul_pow s _ _ hc e he he']
    have := fw_scale s m k (i + e)
    rw [← this, show i + e - (k : Int) = i - k + e by omega]
theorem neg_rep (s : Bool) (m : Nat) (i : Int) (h : Rep m i) : Op.negFloat .f64 (fw s m i) = fw (!s) m i := by
  obtain ⟨m', i', hc, hf, _, _⟩ := rep_canon m i h
  rw [hf, hf]
  exact neg_fw s m' i' hc
/-- Doubling and halving. -/
theorem twice (s : Bool) (m : Nat) (i : Int) (h : Rep m i) : double.mul (fw s m i) (fw false 4503599627370496 (-51)) = some (fw s m (i + 1)) := by
  have e := mul_rep s m i h 1 (by omega) (by omega)
  rw [show (1 : Int) - 52 = -51 by omega] at e
  exact e
theorem half (s : Bool) (m : Nat) (i : Int) (h : Rep m i) : double.mul (fw s m i) (fw false 4503599627370496 (-53)) = some (fw s m (i - 1)) := by
  have e := mul_rep s m i h (-1) (by omega) (by omega)
  rw [show (-1 : Int) - 52 = -53 by omega, show i + -1 = i - 1 by omega] at e
  exact e
theorem up52 (s : Bool) (m : Nat) (i : Int) (h : Rep m i) : double.mul (fw s m i) (fw false 4503599627370496 0) = some (fw s m (i + 52)) := by
  have e := mul_rep s m i h 52 (by omega) (by omega)
  rw [show (52 : Int) - 52 = 0 by omega] at e
  exact e
/-- The floats that the texts name. -/
theorem bits_one : (4607182418800017408 : Nat) = fw false 4503599627370496 (-52) := by rw [fw_canon _ _ _ (.inl ⟨by omega, by omega, by omega, by omega⟩)]; decide
theorem bits_two : (4611686018427387904 : Nat) = fw false 4503599627370496 (-51) := by rw [fw_canon _ _ _ (.inl ⟨by omega, by omega, by omega, by omega⟩)]; decide
theorem bits_half : (4602678819172646912 : Nat) = fw false 4503599627370496 (-53) := by rw [fw_canon _ _ _ (.inl ⟨by omega, by omega, by omega, by omega⟩)]; decide
theorem bits_52 : (4841369599423283200 : Nat) = fw false 4503599627370496 0 := by rw [fw_canon _ _ _ (.inl ⟨by omega, by omega, by omega, by omega⟩)]; decide
theorem bits_most : (9218868437227405311 : Nat) = fw false 9007199254740991 971 := by rw [fw_canon _ _ _ (.inl ⟨by omega, by omega, by omega, by omega⟩)]; decide
theorem bits_zero : (0 : Nat) = fw false 0 (-1074) := by rw [fw_zero]; rfl
end Go.Proofs.YtcbhcdaedchmlaaDoor

/- Floats of 64 bits: NaNs, quotients by zero, what a walk is told of each operation. -/
namespace Go.Proofs.YtcbhcdaedchmlaaDoor
open Ieee

/-- A NaN's word. -/
def IsNan (x : Nat) : Prop := ∃ s n, double.read x = .nan s n
theorem nan_word (s : Bool) (r : Nat) (h : 9218868437227405312 < r) (h' : r < 9223372036854775808) : IsNan (signBit s + r) := by
  obtain ⟨s1, s2⟩ := sign_read s r h'
  refine ⟨s, r - 9218868437227405312, ?_⟩
  unfold Format.read
  simp only [weight_eq, binade_eq, infRung_eq, s1, s2]
  rw [if_neg (by omega), if_neg (by omega), if_neg (by omega)]
theorem nan_drawn (x y t : Nat) : IsNan (Question.cut (.nanBits .f64 x y) t) ∧ Question.cut (.nanBits .f64 x y) t < 18446744073709551616 := by
  have e : Question.cut (.nanBits .f64 x y) t = (t % 2) * 9223372036854775808 + 9218868437227405312 + 1 + (t / 2) % 4503599627370495 := rfl
  rw [e]
  have h1 := Nat.mod_lt (t / 2) (show 0 < 4503599627370495 by omega)
  generalize (t / 2) % 4503599627370495 = k at *
  rcases Nat.mod_two_eq_zero_or_one t with h | h
  · rw [h]
    have := nan_word false (9218868437227405313 + k) (by omega) (by omega)
    rw [show signBit false = 0 from rfl] at this
    refine ⟨?_, by omega⟩
    rw [show 0 * 9223372036854775808 + 9218868437227405312 + 1 + k = 0 + (9218868437227405313 + k) by omega]
    exact this
  · rw [h]
    have := nan_word true (9218868437227405313 + k) (by omega) (by omega)
    rw [show signBit true = 9223372036854775808 from rfl] at this
    refine ⟨?_, by omega⟩
    rw [show 1 * 9223372036854775808 + 9218868437227405312 + 1 + k = 9223372036854775808 + (9218868437227405313 + k) by omega]
    exact this
/-- A float is a NaN, or has a sign and a rung. -/
theorem float_cases (x : Nat) (hx : x < 18446744073709551616) : IsNan x ∨ (∃ s, x = iw s) ∨ (∃ s m p, Canon m p ∧ x = fw s m p) := by
  rcases word_cases x hx with h | ⟨s, h, _⟩ | h
  · exact .inl h
  · exact .inr (.inl ⟨s, h⟩)
  · exact .inr (.inr h)
theorem nan_neq (x : Nat) (h : IsNan x) : (double.order x x != some .eq) = true := by
  obtain ⟨s, n, h⟩ := h
  rw [(order_nan x x s n h).1]; rfl
theorem fw_eq_self (s : Bool) (m : Nat) (p : Int) (h : Canon m p) : (double.order (fw s m p) (fw s m p) != some .eq) = false := by rw [order_self_fw s m p h]; rfl
theorem iw_eq_self (s : Bool) : (double.order (iw s) (iw s) != some .eq) = false := by rw [order_self_iw s]; rfl
theorem read_zero (s : Bool) : double.read (signBit s) = .number s 0 (-1074) := by
  have := read_canon s 0 (-1074) canon_zero
  rw [fw_zero] at this
  exact this
/-- 1 by a zero. -/
theorem one_by_zero (s : Bool) : double.div 4607182418800017408 (signBit s) = some (iw s) := by cases s <;> decide
/-- 0 by 0. -/
theorem zero_by_zero : double.div 0 0 = none := by decide

section
variable {P : Program}
/-- What a walk is told: an operation that is valid. -/
theorem run_valid (op : BinOp) (t : TypeId) (x y r : Nat) (h : floatBits op .f64 x y = some r) (w : World) : (binOp op t (.float .f64 x) (.float .f64 y)).run P w = .ok (.float .f64 r) w := run_float_arith w op t .f64 x y r h
/-- 0 by 0: a NaN off the tape. -/
theorem run_nan (t : TypeId) (w : World) : ∃ b, IsNan b ∧ b < 18446744073709551616 ∧ (binOp .quo t (.float .f64 0) (.float .f64 0)).run P w = .ok (.float .f64 b) w.drew := by
  refine ⟨Question.cut (.nanBits .f64 0 0) (w.tape w.drawn (.nanBits .f64 0 0)), (nan_drawn _ _ _).1, (nan_drawn _ _ _).2, ?_⟩
  have e : FloatKind.f64.format.div 0 0 = none := zero_by_zero
  simp [binOp, Op.floatArith, e, Question.forced]
end
end Go.Proofs.YtcbhcdaedchmlaaDoor

/- A number of 64 digits times a power of two, rounded once: plain. -/
namespace Go.Proofs.YtcbhcdaedchmlaaDoor
open Ieee

theorem log2_64 (M : Nat) (h1 : 9223372036854775808 ≤ M) (h2 : M < 18446744073709551616) : M.log2 = 63 := by
  rw [Nat.log2_eq_iff (by omega)]
  exact ⟨h1, h2⟩
/-- The last place that is kept. -/
def lastOf (e : Int) : Int := max (e + 11) (-1074)
theorem fw_64 (s : Bool) (M : Nat) (e : Int) (h1 : 9223372036854775808 ≤ M) (h2 : M < 18446744073709551616) :
    fw s M e = signBit s + min ((lastOf e + 1074).toNat * 4503599627370496 + Toward.even.cut s M (lastOf e - e).toNat) 9218868437227405312 := by
  unfold fw Format.nearest
  rw [if_neg (by omega)]
  simp only [word_eq, infRung_eq, binade_eq, least_eq, frac_eq, log2_64 M h1 h2]
  have e1 : max (e + ((63 : Nat) : Int) - ((52 : Nat) : Int)) (-1074) = lastOf e := by unfold lastOf; omega
  rw [e1]
  have e2 : (e - lastOf e).toNat = 0 := by unfold lastOf; omega
  rw [e2, Nat.shiftLeft_zero, show (lastOf e - -1074).toNat = (lastOf e + 1074).toNat by omega]
/-- Rounding, as it is reckoned: what is kept, what is left, half a unit. -/
theorem cut_64 (s : Bool) (M d : Nat) (h1 : 9223372036854775808 ≤ M) (h2 : M < 18446744073709551616) (hd : 1 ≤ d) (hd' : d ≤ 64) :
    Toward.even.cut s M d = if 2 ^ (d - 1) < M % 2 ^ d ∨ (M % 2 ^ d = 2 ^ (d - 1) ∧ M / 2 ^ d % 2 = 1) then M / 2 ^ d + 1 else M / 2 ^ d := by
  unfold Toward.cut
  simp only [log2_64 M h1 h2, Nat.shiftLeft_eq, Nat.one_mul]
  rw [Nat.min_eq_left (by omega)]
  have hp : 2 ^ d = 2 * 2 ^ (d - 1) := by
    rw [← Nat.pow_succ']; congr 1; omega
  generalize hg : 2 ^ (d - 1) = g at *
  rw [hp]
  by_cases ha : g < M % (2 * g)
  · rw [if_pos (.inl ha)]
    have : (decide (2 * g < 2 * (M % (2 * g))) || (2 * g == 2 * (M % (2 * g)) && M / (2 * g) % 2 == 1)) = true := by
      rw [decide_eq_true (by omega), Bool.true_or]
    rw [this]; rfl
  · by_cases hb : M % (2 * g) = g ∧ M / (2 * g) % 2 = 1
    · rw [if_pos (.inr hb)]
      have : (decide (2 * g < 2 * (M % (2 * g))) || (2 * g == 2 * (M % (2 * g)) && M / (2 * g) % 2 == 1)) = true := by
        rw [hb.1, hb.2]; simp
      rw [this]; rfl
    · rw [if_neg (by rintro (h | h); exact ha h; exact hb h)]
      have : (decide (2 * g < 2 * (M % (2 * g))) || (2 * g == 2 * (M % (2 * g)) && M / (2 * g) % 2 == 1)) = false := by
        rw [Bool.or_eq_false_iff]
        refine ⟨decide_eq_false (by omega), ?_⟩
        rw [Bool.and_eq_false_iff]
        by_cases hc : M % (2 * g) = g
        · right
          have : ¬ M / (2 * g) % 2 = 1 := fun h => hb ⟨hc, h⟩
          simpa using this
        · left
          rw [beq_eq_false_iff_ne]; omega
      rw [this]; rfl
theorem cut_far (s : Bool) (M d : Nat) (h1 : 9223372036854775808 ≤ M) (h2 : M < 18446744073709551616) (hd : 65 ≤ d) : Toward.even.cut s M d = 0 := by
  unfold Toward.cut
  simp only [log2_64 M h1 h2, Nat.shiftLeft_eq, Nat.one_mul]
  rw [Nat.min_eq_right (by omega)]
  have e1 : M / 2 ^ (63 + 2) = 0 := Nat.div_eq_of_lt (by omega)
  have e2 : M % 2 ^ (63 + 2) = M := Nat.mod_eq_of_lt (by omega)
  rw [e1, e2]
  have e3 : (decide (2 ^ (63 + 2) < 2 * M) || (2 ^ (63 + 2) == 2 * M && 0 % 2 == 1)) = false := by
    rw [Bool.or_eq_false_iff]
    refine ⟨decide_eq_false (by omega), ?_⟩
    rw [Bool.and_eq_false_iff]
    right; rfl
  rw [e3]; rfl
theorem norm_64 (m : Nat) (hm : 0 < m) (h : m < 18446744073709551616) : 9223372036854775808 ≤ m * 2 ^ (63 - m.log2) ∧ m * 2 ^ (63 - m.log2) < 18446744073709551616 ∧ m.log2 ≤ 63 := by
  have hl : m.log2 ≤ 63 := by
    have hh : m.log2 < 64 ↔ m < 2 ^ 64 := Nat.log2_lt (by omega)
    have := hh.2 h
    omega
  have hlo := Nat.log2_self_le (Nat.ne_of_gt hm)
  have hhi := Nat.lt_log2_self (n := m)
  have a1 : 2 ^ m.log2 * 2 ^ (63 - m.log2) ≤ m * 2 ^ (63 - m.log2) := Nat.mul_le_mul_right _ hlo
  have a2 : m * 2 ^ (63 - m.log2) < 2 ^ (m.log2 + 1) * 2 ^ (63 - m.log2) := Nat.mul_lt_mul_of_pos_right hhi (Nat.two_pow_pos _)
  rw [← Nat.pow_add, show m.log2 + (63 - m.log2) = 63 by omega] at a1
  rw [← Nat.pow_add, show m.log2 + 1 + (63 - m.log2) = 64 by omega] at a2
  exact ⟨a1, a2, hl⟩
/-- Far below, and far above. -/
theorem fw_tiny (s : Bool) (m : Nat) (e : Int) (h : m < 18446744073709551616) (he : e ≤ -1139) : fw s m e = signBit s := by
  by_cases h0 : m = 0
  · subst h0; exact fw_zero s e
  · obtain ⟨a1, a2, a3⟩ := norm_64 m (by omega) h
    rw [← fw_scale s m (63 - m.log2) e, fw_64 s _ _ a1 a2, cut_far s _ _ a1 a2 (by unfold lastOf; omega)]
    have : (lastOf (e - ((63 - m.log2 : Nat) : Int)) + 1074).toNat = 0 := by unfold lastOf; omega
    rw [this]
    omega
theorem fw_huge (s : Bool) (M : Nat) (e : Int) (h1 : 9223372036854775808 ≤ M) (h2 : M < 18446744073709551616) (he : 961 ≤ e) : fw s M e = iw s := by
  rw [fw_64 s M e h1 h2]
  unfold iw
  have : 2047 ≤ (lastOf e + 1074).toNat + 1 := by unfold lastOf; omega
  have hl : (lastOf e - e).toNat = 11 := by unfold lastOf; omega
  rw [hl, cut_64 s M 11 h1 h2 (by omega) (by omega)]
  have hq : 4503599627370496 ≤ M / 2 ^ 11 := by
    rw [Nat.le_div_iff_mul_le (by omega)]; omega
  split
  · rw [Nat.min_eq_right]; omega
  · rw [Nat.min_eq_right]; omega
end Go.Proofs.YtcbhcdaedchmlaaDoor

