import Derived.Test.YtlmddccgkpmhcaaA09
/- A float's bits as the program lays them: plain facts. -/
namespace Go.Proofs.Ytlmddccgkpmhcaa
open Go.ChangeShapes Go.WideShapes Go.RowKit
open Ieee (double)

theorem and_top (U : Nat) (s : Bool) (r : Nat) (hr : r < 9223372036854775808) (hU : U = signBit s + r) : bits .and .u64 (U : Int) 9223372036854775808 = (signBit s : Int) := by
  have hlt : U < 18446744073709551616 := by cases s <;> simp only [signBit] at hU <;> simp at hU <;> omega
  have e := bits_and_u64_nat U 9223372036854775808 hlt (by omega)
  rw [show ((9223372036854775808 : Nat) : Int) = 9223372036854775808 from rfl] at e
  rw [e]
  congr 1
  have hb : r.testBit 63 = false := Nat.testBit_lt_two_pow hr
  apply Nat.eq_of_testBit_eq
  intro i
  rw [Nat.testBit_and, show (9223372036854775808 : Nat) = 2 ^ 63 from rfl, Nat.testBit_two_pow]
  cases s
  · rw [hU]
    show ((0 + r).testBit i && _) = (0 : Nat).testBit i
    rw [Nat.zero_add, Nat.zero_testBit]
    by_cases hi : 63 = i
    · subst hi; rw [hb]; rfl
    · rw [decide_eq_false hi, Bool.and_false]
  · rw [hU]
    show ((2 ^ 63 + r).testBit i && _) = (2 ^ 63 : Nat).testBit i
    rw [Nat.testBit_two_pow]
    by_cases hi : 63 = i
    · subst hi
      rw [Nat.testBit_two_pow_add_eq, hb]; rfl
    · rw [decide_eq_false hi, Bool.and_false]
/-- What a walk is told of a word. -/
def Lays (U : Nat) (s : Bool) (E M : Nat) : Prop :=
  (bits .and .u64 (U : Int) 9223372036854775808 != 0) = s ∧ bits .and .u64 ((U : Int) / 4503599627370496) 2047 = (E : Int) ∧ bits .and .u64 (U : Int) 4503599627370495 = (M : Int)
theorem lays_any (U : Nat) (s : Bool) (E M : Nat) (hE : E < 2048) (hM : M < 4503599627370496) (hU : U = signBit s + (E * 4503599627370496 + M)) : Lays U s E M := by
  have hlt : U < 18446744073709551616 := by cases s <;> simp only [signBit] at hU <;> simp at hU <;> omega
  have ha := mask11 ((U : Int) / 4503599627370496) (by omega) (by omega)
  have hb := mask52 (U : Int) (by omega) (by omega)
  have eE : (U : Int) / 4503599627370496 % 2048 = (E : Int) := by cases s <;> simp only [signBit] at hU <;> simp at hU <;> omega
  have eM : (U : Int) % 4503599627370496 = (M : Int) := by cases s <;> simp only [signBit] at hU <;> simp at hU <;> omega
  rw [eE] at ha
  rw [eM] at hb
  refine ⟨?_, ha, hb⟩
  rw [and_top U s _ (by omega) hU]
  cases s <;> rfl
end Go.Proofs.Ytlmddccgkpmhcaa

