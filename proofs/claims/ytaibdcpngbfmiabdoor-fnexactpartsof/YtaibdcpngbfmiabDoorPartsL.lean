/- The law on PartsOf, walked. -/
import Derived.Test.YtaibdcpngbfmiabDoorPartsI
import Derived.Test.YtaibdcpngbfmiabDoorSmall
namespace Go.Proofs.YtaibdcpngbfmiabDoor
open Go.ChangeShapes Go.WideShapes Go.RowKit
open Ieee (double)

theorem implParts_of (x : Nat) (hx : x < 18446744073709551616) (k : Int) (s : Bool) (m e : Int) (h : partsV x k s m e) (w : World) (hT : DTab w) (hz : 0 < w.heap.size) :
    Calls Tryd.prog 5 #[.float .f64 x] w fun r w' => r = .returned (.agg #[.int .i64 k, .bool s, .int .i64 m, .int .i64 e]) ∧ Below w.heap.size w w' := by
  rcases h with ⟨hn, rfl, rfl, rfl, rfl⟩ | ⟨rfl, rfl, rfl, rfl⟩ | ⟨rfl, rfl, rfl, rfl⟩ | ⟨n, p, q, t, hc, h0, rfl, hn, hq, rfl, rfl, rfl⟩
  · obtain ⟨s, E, M, hE, hM, hU⟩ := word_parts x hx
    have hL := lays_any x s E M hE hM hU
    have c : ¬ E * 4503599627370496 + M ≤ 9218868437227405312 := fun h' => not_nan s _ h' (by rw [← hU]; exact hn)
    obtain rfl : E = 2047 := by omega
    exact implParts_nan x s M hL (by omega) w
  · exact implParts_inf _ s (lays_any _ s 2047 0 (by omega) (by omega) (by unfold iw; omega)) w
  · exact implParts_zero _ s (lays_any _ s 0 0 (by omega) (by omega) (by omega)) w
  · have hw := fw_canon s n p hc
    rcases hc with ⟨h1, h2, h3, h4⟩ | ⟨h1, rfl⟩
    · obtain ⟨M, rfl⟩ : ∃ M, n = 4503599627370496 + M := ⟨n - 4503599627370496, by omega⟩
      obtain ⟨E, hE⟩ : ∃ E : Nat, p = (E : Int) - 1 + -1074 := ⟨(p + 1075).toNat, by omega⟩
      have hU : fw s (4503599627370496 + M) p = signBit s + (E * 4503599627370496 + M) := by
        refine hw.trans ?_
        unfold rung
        obtain ⟨F, rfl⟩ : ∃ F, E = F + 1 := ⟨E - 1, by omega⟩
        rw [show (p + 1074).toNat = F by omega, Nat.succ_mul]
        omega
      refine implParts_normal _ s E M (lays_any _ s E M (by omega) (by omega) hU) (4503599627370496 + M) p q t hn hq h2 h3 h4 (fun w => kind_normal s E M (by omega) (by omega) w) (fun w => ?_) w hT hz
      rw [hE]
      exact size_normal s E M (by omega) (by omega) (by omega) w
    · have hU : fw s n (-1074) = signBit s + (0 * 4503599627370496 + n) := by
        refine hw.trans ?_
        unfold rung
        rw [show ((-1074 : Int) + 1074).toNat = 0 from rfl]
      exact implParts_small _ s n (lays_any _ s 0 n (by omega) h1 hU) n (-1074) q t hn hq (by omega) (by omega) (by omega) (fun w => kind_small s n (by omega) w) (fun w => size_small s n w) w hT hz
set_option maxHeartbeats 400000 in
theorem eqParts_same (k : Int) (s : Bool) (m e : Int) (w : World) :
    Calls Tryd.prog 6 #[.agg #[.int .i64 k, .bool s, .int .i64 m, .int .i64 e], .agg #[.int .i64 k, .bool s, .int .i64 m, .int .i64 e]] w fun r w' => r = .returned (.bool true) ∧ Below w.heap.size w w' := by
  go_enter Tryd.func6, Tryd.ntmps6
  go_wp2
  go_ret
  exact ⟨rfl, (by repeat (first | exact Below.refl _ _ | refine Below.drew ?_ | refine below_drewN ?_ _ | refine Below.setCell ?_ (by simp <;> omega) _ | refine Below.alloc ?_ (by simp <;> omega) _))⟩
set_option maxHeartbeats 400000 in
theorem lawParts_any (x : Nat) (hx : x < 18446744073709551616) (w : World) (hT : DTab w) (hz : 0 < w.heap.size) :
    Calls Tryd.prog 3 #[.float .f64 x] w fun r w' => r = .returned (.bool true) ∧ Below w.heap.size w w' := by
  have H1 : Hid _ := fun w => specParts_any x hx w
  have H2 : Hid _ := fun k s m e h w' (hb : Below w.heap.size w w') => implParts_of x hx k s m e h w' (DTab.below hT hz hb) (Nat.lt_of_lt_of_le hz hb.size)
  clear hT hz
  go_enter Tryd.func3, Tryd.ntmps3
  go_wp2_with fail
  refine (H1.out _).mono ?_
  rintro r w1 ⟨k, s, m, e, hv, rfl, hb1⟩
  have HI : Hid (∀ w', Below w.heap.size w w' → Calls Tryd.prog 5 #[.float .f64 x] w' fun r w'' => r = .returned (.agg #[.int .i64 k, .bool s, .int .i64 m, .int .i64 e]) ∧ Below w'.heap.size w' w'') := fun w' hb => H2.out k s m e hv w' hb
  have HB1 : Hid _ := fun (_ : Unit) => hb1
  clear H1 H2 hv hb1 hx
  go_wp2_with fail
  refine (HI.out _ ((HB1.out ()).alloc (HB1.out ()).size _)).mono ?_
  rintro r w2 ⟨rfl, hb2⟩
  obtain ⟨hc, hf⟩ := bcell hb2
  have hz : w1.heap.size < w2.heap.size := by have := hb2.size; simp at this; omega
  have HB2 : Hid _ := fun (_ : Unit) => hb2
  clear hb2 HI
  go_wp2_with fail
  refine (eqParts_same k s m e _).mono ?_
  rintro r w3 ⟨rfl, hb3⟩
  have HB3 : Hid _ := fun (_ : Unit) => hb3
  clear hb3
  go_wp2
  go_ret
  have h1 := HB1.out ()
  refine ⟨rfl, h1.trans ?_⟩
  refine Below.trans (b := w1.alloc (.cells #[.int .i64 k, .bool s, .int .i64 m, .int .i64 e] 24)) ((Below.refl _ _).alloc h1.size _) ?_
  refine ((HB2.out ()).mono (by have := h1.size; simp; omega)).trans ?_
  refine Below.trans (b := w2.alloc (.cells #[.int .i64 k, .bool s, .int .i64 m, .int .i64 e] 24)) ((Below.refl _ _).alloc (by have := h1.size; omega) _) ?_
  exact (HB3.out ()).mono (by have := h1.size; simp; omega)
theorem f64_lt (x : Nat) (h : (Lit.float .f64 x).wf = true) : x < 18446744073709551616 := by
  simp only [Lit.wf, decide_eq_true_eq] at h
  exact h
end Go.Proofs.YtaibdcpngbfmiabDoor
