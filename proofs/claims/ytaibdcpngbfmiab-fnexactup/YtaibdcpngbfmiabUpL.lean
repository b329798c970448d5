/- The law on Up, walked. -/
import Derived.Test.YtaibdcpngbfmiabUpI
import Derived.Test.YtaibdcpngbfmiabUpJ
import Derived.Test.YtaibdcpngbfmiabSameS
namespace Go.Proofs.Ytaibdcpngbfmiab
open Go.ChangeShapes Go.WideShapes Go.RowKit
open Ieee (double)

/-- A number's place in the word. -/
theorem canon_parts (s : Bool) (m : Nat) (p : Int) (hc : Canon m p) (h0 : 0 < m) :
    (∃ M, M ≠ 0 ∧ M < 4503599627370496 ∧ fw s m p = signBit s + (0 * 4503599627370496 + M)) ∨ (∃ E M, 1 ≤ E ∧ E ≤ 2046 ∧ M < 4503599627370496 ∧ fw s m p = signBit s + (E * 4503599627370496 + M)) := by
  have hw := fw_canon s m p hc
  rcases hc with ⟨h1, h2, h3, h4⟩ | ⟨h1, rfl⟩
  · refine .inr ⟨(p + 1075).toNat, m - 4503599627370496, by omega, by omega, by omega, ?_⟩
    refine hw.trans ?_
    unfold rung
    obtain ⟨a, ha⟩ : ∃ a : Nat, (p + 1074).toNat = a := ⟨_, rfl⟩
    obtain ⟨b, hb⟩ : ∃ b : Nat, m = 4503599627370496 + b := ⟨m - 4503599627370496, by omega⟩
    rw [ha, show (p + 1075).toNat = a + 1 by omega, hb, Nat.add_sub_cancel_left, Nat.succ_mul]
    omega
  · refine .inl ⟨m, by omega, h1, ?_⟩
    refine hw.trans ?_
    unfold rung
    rw [show ((-1074 : Int) + 1074).toNat = 0 from rfl]
theorem implUp_of (x b : Nat) (hx : x < 18446744073709551616) (h : upV x b) (w : World) :
    Calls Try.prog 22 #[.float .f64 x] w fun e w' => e = .returned (.float .f64 b) ∧ Below w.heap.size w w' := by
  rcases h.2 with ⟨hn, rfl⟩ | ⟨rfl, rfl⟩ | ⟨s, rfl, rfl⟩ | ⟨m, p, hc, h0, rfl, rfl⟩ | ⟨m, p, hc, h0, rfl, rfl⟩ | ⟨rfl, rfl⟩
  · obtain ⟨s, E, M, hE, hM, hU⟩ := word_parts b hx
    have hL := lays_any b s E M hE hM hU
    have c : ¬ E * 4503599627370496 + M ≤ 9218868437227405312 := fun h' => not_nan s _ h' (by rw [← hU]; exact hn)
    obtain rfl : E = 2047 := by omega
    exact implUp_nan b s M (by omega) hL w
  · exact implUp_inf _ (lays_any _ false 2047 0 (by omega) (by omega) (by decide)) w
  · exact implUp_zero _ s (lays_any _ s 0 0 (by omega) (by omega) (by omega)) w
  · rcases canon_parts false m p hc h0 with ⟨M, h1, h2, e⟩ | ⟨E, M, h1, h2, h3, e⟩
    · exact implUp_small_plus _ M h1 h2 e (lays_any _ false 0 M (by omega) h2 e) w
    · exact implUp_normal_plus _ E M h1 h2 h3 e (lays_any _ false E M (by omega) h3 e) w
  · rcases canon_parts true m p hc h0 with ⟨M, h1, h2, e⟩ | ⟨E, M, h1, h2, h3, e⟩
    · exact implUp_small_minus _ M h1 h2 e (lays_any _ true 0 M (by omega) h2 e) w
    · exact implUp_normal_minus _ E M h1 h2 h3 e (lays_any _ true E M (by omega) h3 e) w
  · exact implUp_inf_minus _ (by decide) (lays_any _ true 2047 0 (by omega) (by omega) (by decide)) w
set_option maxHeartbeats 400000 in
theorem lawUp_any (x : Nat) (hx : x < 18446744073709551616) (w : World) :
    Calls Try.prog 8 #[.float .f64 x] w fun e w' => e = .returned (.bool true) ∧ Below w.heap.size w w' := by
  have H1 : Hid _ := fun w => specUp_any x hx w
  have H2 : Hid _ := fun b h w => implUp_of x b hx h w
  go_enter Try.func8, Try.ntmps8
  go_wp2_with fail
  refine (H1.out _).mono ?_
  rintro e w1 ⟨b, hb, rfl, k, rfl⟩
  have HU : Hid _ := fun w => H2.out b hb w
  have HS : Hid _ := fun w => same_self b hb.1 w
  clear hb H1 H2 hx
  go_wp2_with fail
  refine (HU.out _).mono ?_
  rintro e w2 ⟨rfl, hb⟩
  have HB : Hid _ := fun (_ : Unit) => Below.trans (below_drewN (Below.refl _ w) k) hb
  clear hb HU
  go_wp2_with (go_at_call 16; refine (HS.out _).mono ?_; rintro e w' ⟨rfl, rfl⟩)
  go_ret
  exact ⟨rfl, HB.out ()⟩
theorem f64_lt (x : Nat) (h : (Lit.float .f64 x).wf = true) : x < 18446744073709551616 := by
  simp only [Lit.wf, decide_eq_true_eq] at h
  exact h
end Go.Proofs.Ytaibdcpngbfmiab
