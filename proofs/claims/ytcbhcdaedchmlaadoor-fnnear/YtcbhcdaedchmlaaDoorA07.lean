import Derived.Test.YtcbhcdaedchmlaaDoorA04
/- A float's bits as the program lays them: plain facts. -/
namespace Go.Proofs.YtcbhcdaedchmlaaDoor
open Go.ChangeShapes Go.WideShapes Go.RowKit
open Ieee (double)

theorem and_top (U : Nat) (s : Bool) (r : Nat) (hr : r < 9223372036854775808) (hU : U = signBit s + r) : bits .and .u64 (U : Int) 9223372036854775808 = (signBit s : Int) := by
  have hlt : U < 18446744073709551616 := by cases s <;> simp only [signBit] at hU <;> simp at hU <;> omega
  have e := bits_and_u64_nat U 9223372036854775808 hlt (by omega)
  rw [show ((9223372036854775808 : Nat) : Int) = 9223372036854775808 from rfl] at e
  rw [e]
  congr 1
  have hb : r.testBit 63 = false := Nat.testBit_lt_two_pow hr
  apply Nat.eq_of_testBit_eq
  intro i
  rw [Nat.testBit_and, show (9223372036854775808 : Nat) = 2 ^ 63 from rfl, Nat.testBit_two_pow]
  cases s
  · rw [hU]
    show ((0 + r).testBit i && _) = (0 : Nat).testBit i
    rw [Nat.zero_add, Nat.zero_testBit]
    by_cases hi : 63 = i
    · subst hi; rw [hb]; rfl
    · rw [decide_eq_false hi, Bool.and_false]
  · rw [hU]
    show ((2 ^ 63 + r).testBit i && _) = (2 ^ 63 : Nat).testBit i
    rw [Nat.testBit_two_pow]
    by_cases hi : 63 = i
    · subst hi
      rw [Nat.testBit_two_pow_add_eq, hb]; rfl
    · rw [decide_eq_false hi, Bool.and_false]
/-- What a walk is told of a word. -/
def Lays (U : Nat) (s : Bool) (E M : Nat) : Prop :=
  (bits .and .u64 (U : Int) 9223372036854775808 != 0) = s ∧ bits .and .u64 ((U : Int) / 4503599627370496) 2047 = (E : Int) ∧ bits .and .u64 (U : Int) 4503599627370495 = (M : Int)
theorem lays_any (U : Nat) (s : Bool) (E M : Nat) (hE : E < 2048) (hM : M < 4503599627370496) (hU : U = signBit s + (E * 4503599627370496 + M)) : Lays U s E M := by
  have hlt : U < 18446744073709551616 := by cases s <;> simp only [signBit] at hU <;> simp at hU <;> omega
  have ha := mask11 ((U : Int) / 4503599627370496) (by omega) (by omega)
  have hb := mask52 (U : Int) (by omega) (by omega)
  have eE : (U : Int) / 4503599627370496 % 2048 = (E : Int) := by cases s <;> simp only [signBit] at hU <;> simp at hU <;> omega
  have eM : (U : Int) % 4503599627370496 = (M : Int) := by cases s <;> simp only [signBit] at hU <;> simp at hU <;> omega
  rw [eE] at ha
  rw [eM] at hb
  refine ⟨?_, ha, hb⟩
  rw [and_top U s _ (by omega) hU]
  cases s <;> rfl
end Go.Proofs.YtcbhcdaedchmlaaDoor

/- A float's bits as the program lays them: word. -/
namespace Go.Proofs.YtcbhcdaedchmlaaDoor
open Go.ChangeShapes Go.WideShapes Go.RowKit
open Ieee (double)

set_option maxHeartbeats 400000 in
theorem word_any (s : Bool) (E M : Nat) (hE : E < 2048) (hM : M < 4503599627370496) (w : World) :
    Calls Tryd.prog 25 #[.agg #[.bool s, .int .u64 E, .int .u64 M]] w fun e w' => e = .returned (.int .u64 ((signBit s + (E * 4503599627370496 + M) : Nat) : Int)) ∧ w' = w.alloc (.cells #[.bool s, .int .u64 E, .int .u64 M] 40) := by
  have h1 := or_low E M hM (by omega)
  have HT : Hid _ := or_top (E * 4503599627370496 + M) (by omega)
  have e0 : ((E * 4503599627370496 + M : Nat) : Int) = (E : Int) * 4503599627370496 + (M : Int) := by omega
  rw [e0] at h1 HT
  cases s
  · have HE : Hid (Ending.returned (.int .u64 ((E : Int) * 4503599627370496 + (M : Int))) = .returned (.int .u64 ((signBit false + (E * 4503599627370496 + M) : Nat) : Int))) := by
      show Ending.returned _ = Ending.returned (.int .u64 ((0 + (E * 4503599627370496 + M) : Nat) : Int))
      rw [Nat.zero_add, e0]
    clear e0 HT
    go_enter Tryd.func25, Tryd.ntmps25
    go_wp2
    go_ret
    exact ⟨HE.out, rfl⟩
  · have h2 := HT.out
    clear e0 HT
    go_enter Tryd.func25, Tryd.ntmps25
    go_wp2
    go_ret
    exact ⟨congrArg (fun t => Ending.returned (.int .u64 t)) (show 9223372036854775808 + ((E : Int) * 4503599627370496 + (M : Int)) = ((9223372036854775808 + (E * 4503599627370496 + M) : Nat) : Int) by omega), rfl⟩

end Go.Proofs.YtcbhcdaedchmlaaDoor

/- A float's bits as the program lays them: float. -/
namespace Go.Proofs.YtcbhcdaedchmlaaDoor
open Go.ChangeShapes Go.WideShapes Go.RowKit
open Ieee (double)

theorem call_frombits (x : Int) (w : World) : (callFunc 24 #[.int .u64 x]).run Tryd.prog w = .ok (.value (.float .f64 x.toNat)) w := by kernel_rfl
set_option maxHeartbeats 400000 in
theorem float_any (s : Bool) (E M : Nat) (hE : E < 2048) (hM : M < 4503599627370496) (w : World) :
    Calls Tryd.prog 12 #[.agg #[.bool s, .int .u64 E, .int .u64 M]] w fun e w' => e = .returned (.float .f64 (signBit s + (E * 4503599627370496 + M))) ∧ w' = (w.alloc (.cells #[.bool s, .int .u64 E, .int .u64 M] 40)).alloc (.cells #[.bool s, .int .u64 E, .int .u64 M] 40) := by
  have HW : Hid _ := fun w => word_any s E M hE hM w
  have hc := call_frombits ((signBit s + (E * 4503599627370496 + M) : Nat) : Int)
  rw [Int.toNat_natCast] at hc
  generalize signBit s + (E * 4503599627370496 + M) = R at *
  clear hE hM
  go_enter Tryd.func12, Tryd.ntmps12
  go_wp2_with (go_at_call 25; refine (HW.out _).mono ?_; rintro e w' ⟨rfl, rfl⟩)
  go_ret
  exact ⟨rfl, rfl⟩
end Go.Proofs.YtcbhcdaedchmlaaDoor

