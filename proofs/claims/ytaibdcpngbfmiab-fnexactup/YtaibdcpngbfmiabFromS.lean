/- FromBits of the specification. -/
import Derived.Test.YtaibdcpngbfmiabMadeN
import Derived.Test.YtaibdcpngbfmiabMadeI
import Derived.Test.YtaibdcpngbfmiabMadeS
import Derived.Test.YtaibdcpngbfmiabMadeC
namespace Go.Proofs.Ytaibdcpngbfmiab
open Go.ChangeShapes Go.WideShapes Go.RowKit
open Ieee (double)

/-- What FromBits answers: the float of those bits, or a NaN where they are a NaN's. -/
def fromV (U b : Nat) : Prop := b < 18446744073709551616 ∧ ((IsNan U ∧ IsNan b) ∨ (¬ IsNan U ∧ b = U))
/-- What the walk is told of the bits U of n. -/
def Told (n : Int) (U : Nat) (s : Bool) (E M : Nat) : Prop :=
  IntKind.u64.wrap n = (U : Int) ∧ bits .and .u64 ((U : Int) / 4503599627370496) 2047 = (E : Int) ∧ bits .and .u64 (U : Int) 4503599627370495 = (M : Int) ∧ ((U : Int) / 9223372036854775808 == 1) = s
theorem told_any (n : Int) : ∃ s E M, E < 2048 ∧ M < 4503599627370496 ∧ u64n n = signBit s + (E * 4503599627370496 + M) ∧ Told n (u64n n) s E M := by
  have hu := u64n_cast n
  have hlt := u64n_lt n
  generalize u64n n = U at *
  obtain ⟨s, E, M, hE, hM, hU⟩ := word_parts U hlt
  have ha := mask11 ((U : Int) / 4503599627370496) (by omega) (by omega)
  have hb := mask52 (U : Int) (by omega) (by omega)
  have eE : (U : Int) / 4503599627370496 % 2048 = (E : Int) := by cases s <;> simp only [signBit] at hU <;> simp at hU <;> omega
  have eM : (U : Int) % 4503599627370496 = (M : Int) := by cases s <;> simp only [signBit] at hU <;> simp at hU <;> omega
  rw [eE] at ha
  rw [eM] at hb
  have es : ((U : Int) / 9223372036854775808 == 1) = s := by
    cases s
    · simp only [signBit] at hU; simp at hU; rw [beq_eq_false_iff_ne]; omega
    · simp only [signBit] at hU; simp at hU; rw [beq_iff_eq]; omega
  exact ⟨s, E, M, hE, hM, hU, hu, ha, hb, es⟩

set_option maxRecDepth 100000 in
set_option maxHeartbeats 400000 in
theorem from_inf (n : Int) (U : Nat) (s : Bool) (ht : Told n U s 2047 0) (w : World) :
    Calls Try.prog 19 #[.int .i64 n] w fun e w' => e = .returned (.float .f64 (iw s)) ∧ w' = w := by
  obtain ⟨hu, ha, hb, es⟩ := ht
  cases s
  all_goals
    go_enter Try.func19, Try.ntmps19
    go_wp2_with (first | (go_at_call 35; refine (l2inf_any _).mono ?_; rintro e w' ⟨rfl, rfl⟩) | (go_at_call 23; refine (l2signed_iw _ _).mono ?_; rintro e w' ⟨rfl, rfl⟩))
    go_ret
    exact ⟨rfl, rfl⟩
set_option maxRecDepth 100000 in
set_option maxHeartbeats 400000 in
theorem from_nan (n : Int) (U : Nat) (s : Bool) (M : Nat) (ht : Told n U s 2047 M) (hM : M ≠ 0) (w : World) :
    Calls Try.prog 19 #[.int .i64 n] w fun e w' => ∃ b, IsNan b ∧ b < 18446744073709551616 ∧ e = .returned (.float .f64 b) ∧ w' = w.drew := by
  obtain ⟨hu, ha, hb, es⟩ := ht
  have e2 : ((M : Int) != 0) = true := by rw [bne_iff_ne]; omega
  clear hM es
  go_enter Try.func19, Try.ntmps19
  go_wp2_with (go_at_call 34; refine (l2nan_any _).mono ?_; rintro e w' ⟨b, hnb, hbl, rfl, rfl⟩)
  go_ret
  exact ⟨b, hnb, hbl, rfl, rfl⟩
set_option maxRecDepth 100000 in
set_option maxHeartbeats 400000 in
theorem from_small (n : Int) (U : Nat) (s : Bool) (M : Nat) (ht : Told n U s 0 M) (hM : M < 4503599627370496) (w : World) :
    Calls Try.prog 19 #[.int .i64 n] w fun e w' => e = .returned (.float .f64 (fw s M (-1074))) ∧ w' = w := by
  obtain ⟨hu, ha, hb, es⟩ := ht
  have HR : Hid _ := fun (_ : Unit) => rep_at M (-1074) (by omega) (by omega) (by omega)
  cases s
  all_goals
    go_enter Try.func19, Try.ntmps19
    go_wp2_with (first | (go_at_call 36; refine (l2scaled_any M (-1074) (by omega) (by omega) (by omega) _).mono ?_; rintro e w' ⟨rfl, rfl⟩) | (go_at_call 23; refine (l2signed_fw _ _ _ (HR.out ()) _).mono ?_; rintro e w' ⟨rfl, rfl⟩))
    go_ret
    exact ⟨rfl, rfl⟩
set_option maxRecDepth 100000 in
set_option maxHeartbeats 400000 in
theorem from_normal (n : Int) (U : Nat) (s : Bool) (E M : Nat) (ht : Told n U s E M) (hE0 : 1 ≤ E) (hE1 : E ≤ 2046) (hM : M < 4503599627370496) (w : World) :
    Calls Try.prog 19 #[.int .i64 n] w fun e w' => e = .returned (.float .f64 (fw s (4503599627370496 + M) ((E : Int) - 1075))) ∧ w' = w := by
  obtain ⟨hu, ha, hb, es⟩ := ht
  have e1 : ((E : Int) == 2047) = false := by rw [beq_eq_false_iff_ne]; omega
  have e2 : ((E : Int) == 0) = false := by rw [beq_eq_false_iff_ne]; omega
  have ho := or_one M hM
  have HR : Hid _ := fun (_ : Unit) => rep_at (4503599627370496 + M) ((E : Int) - 1075) (by omega) (by omega) (by omega)
  cases s
  all_goals
    go_enter Try.func19, Try.ntmps19
    go_wp2_with (first | (go_at_call 36; refine (l2scaled_any (4503599627370496 + M) ((E : Int) - 1075) (by omega) (by omega) (by omega) _).mono ?_; rintro e w' ⟨rfl, rfl⟩) | (go_at_call 23; refine (l2signed_fw _ _ _ (HR.out ()) _).mono ?_; rintro e w' ⟨rfl, rfl⟩))
    go_ret
    exact ⟨rfl, rfl⟩

theorem specFrom_any (n : Int) (w : World) :
    Calls Try.prog 19 #[.int .i64 n] w fun e w' => ∃ b, fromV (u64n n) b ∧ e = .returned (.float .f64 b) ∧ ∃ k, w' = w.drewN k := by
  have hlt := u64n_lt n
  obtain ⟨s, E, M, hE, hM, hU, ht⟩ := told_any n
  by_cases hinf : E = 2047
  · subst hinf
    by_cases hz : M = 0
    · subst hz
      refine (from_inf n _ s ht w).mono ?_
      rintro e w' ⟨rfl, rfl⟩
      have hi : u64n n = iw s := by rw [hU]; unfold iw; omega
      exact ⟨iw s, ⟨by rw [← hi]; exact hlt, .inr ⟨by rw [hU]; exact not_nan s _ (by omega), hi.symm⟩⟩, rfl, 0, rfl⟩
    · refine (from_nan n _ s M ht hz w).mono ?_
      rintro e w' ⟨b, hb, hbl, rfl, rfl⟩
      exact ⟨b, ⟨hbl, .inl ⟨by rw [hU]; exact nan_word s _ (by omega) (by omega), hb⟩⟩, rfl, 1, rfl⟩
  · have hnn : ¬ IsNan (u64n n) := by rw [hU]; exact not_nan s _ (by omega)
    by_cases hz : E = 0
    · subst hz
      refine (from_small n _ s M ht hM w).mono ?_
      rintro e w' ⟨rfl, rfl⟩
      have hc : Canon M (-1074) := .inr ⟨hM, rfl⟩
      have hi : u64n n = fw s M (-1074) := by rw [hU, fw_canon s M _ hc]; unfold rung; omega
      exact ⟨_, ⟨fw_lt s M _ hc, .inr ⟨hnn, hi.symm⟩⟩, rfl, 0, rfl⟩
    · refine (from_normal n _ s E M ht (by omega) (by omega) hM w).mono ?_
      rintro e w' ⟨rfl, rfl⟩
      have hc : Canon (4503599627370496 + M) ((E : Int) - 1075) := .inl ⟨by omega, by omega, by omega, by omega⟩
      have hi : u64n n = fw s (4503599627370496 + M) ((E : Int) - 1075) := by rw [hU, fw_canon s _ _ hc]; unfold rung; omega
      exact ⟨_, ⟨fw_lt s _ _ hc, .inr ⟨hnn, hi.symm⟩⟩, rfl, 0, rfl⟩
end Go.Proofs.Ytaibdcpngbfmiab
