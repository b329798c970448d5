import Derived.Test.YtlmddccgkpmhcaaA05
/- Floats of 64 bits: NaNs, quotients by zero, what a walk is told of each operation. -/
namespace Go.Proofs.Ytlmddccgkpmhcaa
open Ieee

/-- A NaN's word. -/
def IsNan (x : Nat) : Prop := ∃ s n, double.read x = .nan s n
theorem nan_word (s : Bool) (r : Nat) (h : 9218868437227405312 < r) (h' : r < 9223372036854775808) : IsNan (signBit s + r) := by
  obtain ⟨s1, s2⟩ := sign_read s r h'
  refine ⟨s, r - 9218868437227405312, ?_⟩
  unfold Format.read
  simp only [weight_eq, binade_eq, infRung_eq, s1, s2]
  rw [if_neg (by omega), if_neg (by omega), if_neg (by omega)]
theorem nan_drawn (x y t : Nat) : IsNan (Question.cut (.nanBits .f64 x y) t) ∧ Question.cut (.nanBits .f64 x y) t < 18446744073709551616 := by
  have e : Question.cut (.nanBits .f64 x y) t = (t % 2) * 9223372036854775808 + 9218868437227405312 + 1 + (t / 2) % 4503599627370495 := rfl
  rw [e]
  have h1 := Nat.mod_lt (t / 2) (show 0 < 4503599627370495 by omega)
  generalize (t / 2) % 4503599627370495 = k at *
  rcases Nat.mod_two_eq_zero_or_one t with h | h
  · rw [h]
    have := nan_word false (9218868437227405313 + k) (by omega) (by omega)
    rw [show signBit false = 0 from rfl] at this
    refine ⟨?_, by omega⟩
    rw [show 0 * 9223372036854775808 + 9218868437227405312 + 1 + k = 0 + (9218868437227405313 + k) by omega]
    exact this
  · rw [h]
    have := nan_word true (9218868437227405313 + k) (by omega) (by omega)
    rw [show signBit true = 9223372036854775808 from rfl] at this
    refine ⟨?_, by omega⟩
    rw [show 1 * 9223372036854775808 + 9218868437227405312 + 1 + k = 9223372036854775808 + (9218868437227405313 + k) by omega]
    exact this
/-- A float is a NaN, or has a sign and a rung. -/
theorem float_cases (x : Nat) (hx : x < 18446744073709551616) : IsNan x ∨ (∃ s, x = iw s) ∨ (∃ s m p, Canon m p ∧ x = fw s m p) := by
  rcases word_cases x hx with h | ⟨s, h, _⟩ | h
  · exact .inl h
  · exact .inr (.inl ⟨s, h⟩)
  · exact .inr (.inr h)
theorem nan_neq (x : Nat) (h : IsNan x) : (double.order x x != some .eq) = true := by
  obtain ⟨s, n, h⟩ := h
  rw [(order_nan x x s n h).1]; rfl
theorem fw_eq_self (s : Bool) (m : Nat) (p : Int) (h : Canon m p) : (double.order (fw s m p) (fw s m p) != some .eq) = false := by rw [order_self_fw s m p h]; rfl
theorem iw_eq_self (s : Bool) : (double.order (iw s) (iw s) != some .eq) = false := by rw [order_self_iw s]; rfl
theorem read_zero (s : Bool) : double.read (signBit s) = .number s 0 (-1074) := by
  have := read_canon s 0 (-1074) canon_zero
  rw [fw_zero] at this
  exact this
/-- 1 by a zero. -/
theorem one_by_zero (s : Bool) : double.div 4607182418800017408 (signBit s) = some (iw s) := by cases s <;> decide
/-- 0 by 0. -/
theorem zero_by_zero : double.div 0 0 = none := by decide

section
variable {P : Program}
/-- What a walk is told: an operation that is valid. -/
theorem run_valid (op : BinOp) (t : TypeId) (x y r : Nat) (h : floatBits op .f64 x y = some r) (w : World) : (binOp op t (.float .f64 x) (.float .f64 y)).run P w = .ok (.float .f64 r) w := run_float_arith w op t .f64 x y r h
/-- 0 by 0: a NaN off the tape. -/
theorem run_nan (t : TypeId) (w : World) : ∃ b, IsNan b ∧ b < 18446744073709551616 ∧ (binOp .quo t (.float .f64 0) (.float .f64 0)).run P w = .ok (.float .f64 b) w.drew := by
  refine ⟨Question.cut (.nanBits .f64 0 0) (w.tape w.drawn (.nanBits .f64 0 0)), (nan_drawn _ _ _).1, (nan_drawn _ _ _).2, ?_⟩
  have e : FloatKind.f64.format.div 0 0 = none := zero_by_zero
  simp [binOp, Op.floatArith, e, Question.forced]
end
end Go.Proofs.Ytlmddccgkpmhcaa

