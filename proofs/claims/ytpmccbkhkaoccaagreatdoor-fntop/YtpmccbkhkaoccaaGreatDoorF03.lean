import Derived.Test.YtpmccbkhkaoccaaGreatDoorB03
import Derived.Test.YtpmccbkhkaoccaaGreatDoorB04
import Derived.Test.YtpmccbkhkaoccaaGreatDoorB37
import Derived.Test.YtpmccbkhkaoccaaGreatDoorB30
import Derived.Test.YtpmccbkhkaoccaaGreatDoorB19
import Derived.Test.YtpmccbkhkaoccaaGreatDoorB33
import Derived.Test.YtpmccbkhkaoccaaGreatDoorF01
import Derived.OpenShut
/- What BitsOf answers: plain. -/
namespace Go.Proofs.YtpmccbkhkaoccaaGreatDoor
open Go.RowKit

/-- What BitsOf answers. -/
def bitsV (x : Nat) (v : Int) : Prop := (IsNan x ∧ v = 9221120237041090560) ∨ (¬ IsNan x ∧ v = wrap64 x)

theorem bitsV_one (x : Nat) (v v' : Int) (h : bitsV x v) (h' : bitsV x v') : v = v' := by
  rcases h with ⟨a, rfl⟩ | ⟨a, rfl⟩ <;> rcases h' with ⟨b, rfl⟩ | ⟨b, rfl⟩
  · rfl
  · exact absurd a b
  · exact absurd b a
  · rfl
end Go.Proofs.YtpmccbkhkaoccaaGreatDoor

/- BitsOf of the program. -/
namespace Go.Proofs.YtpmccbkhkaoccaaGreatDoor
open Go.ChangeShapes Go.WideShapes Go.RowKit
open Ieee (double)

set_option maxHeartbeats 400000 in
theorem implBits_nan (U : Nat) (s : Bool) (M : Nat) (hL : Lays U s 2047 M) (hM : M ≠ 0) (w : World) :
    Calls Tryz.prog 16 #[.float .f64 U] w fun e w' => e = .returned (.int .i64 9221120237041090560) ∧ Below w.heap.size w w' := by
  have HL : Hid _ := fun w => layoutOf_any U s 2047 M hL w
  have HK : Hid _ := fun w => kind_nan s M hM w
  have HW : Hid (∀ w, Calls Tryz.prog 47 #[.agg #[.bool false, .int .u64 ((2047 : Nat) : Int), .int .u64 ((2251799813685248 : Nat) : Int)]] w fun e w' => e = .returned (.int .u64 9221120237041090560) ∧ w' = w.alloc (.cells #[.bool false, .int .u64 ((2047 : Nat) : Int), .int .u64 ((2251799813685248 : Nat) : Int)] 77)) := fun w => by
    have h := word_any false 2047 2251799813685248 (by omega) (by omega) w
    rw [show ((signBit false + (2047 * 4503599627370496 + 2251799813685248) : Nat) : Int) = 9221120237041090560 by decide] at h
    exact h
  clear hL hM
  go_enter Tryz.func16, Tryz.ntmps16
  go_wp2_with (first | (go_at_call 45; refine (HL.out _).mono ?_; rintro e w' ⟨rfl, rfl⟩) | (go_at_call 46; refine (HK.out _).mono ?_; rintro e w' ⟨rfl, rfl⟩) | (go_at_call 47; refine (HW.out _).mono ?_; rintro e w' ⟨rfl, rfl⟩))
  go_ret
  exact ⟨rfl, (by repeat (first | exact Below.refl _ _ | refine Below.drew ?_ | refine below_drewN ?_ _ | refine Below.setCell ?_ (by simp <;> omega) _ | refine Below.alloc ?_ (by simp <;> omega) _))⟩
set_option maxHeartbeats 400000 in
theorem implBits_zero (U : Nat) (s : Bool) (hL : Lays U s 0 0) (hU : U = signBit s + (0 * 4503599627370496 + 0)) (w : World) :
    Calls Tryz.prog 16 #[.float .f64 U] w fun e w' => e = .returned (.int .i64 (wrap64 (U : Int))) ∧ Below w.heap.size w w' := by
  have HL : Hid _ := fun w => layoutOf_any U s 0 0 hL w
  have HK : Hid _ := fun w => kind_zero s w
  have HW : Hid (∀ w, Calls Tryz.prog 47 #[.agg #[.bool s, .int .u64 ((0 : Nat) : Int), .int .u64 ((0 : Nat) : Int)]] w fun e w' => e = .returned (.int .u64 (U : Int)) ∧ w' = w.alloc (.cells #[.bool s, .int .u64 ((0 : Nat) : Int), .int .u64 ((0 : Nat) : Int)] 77)) := fun w => by
    have h := word_any s 0 0 (by omega) (by omega) w
    rw [← hU] at h
    exact h
  clear hL hU
  go_enter Tryz.func16, Tryz.ntmps16
  go_wp2_with (first | (go_at_call 45; refine (HL.out _).mono ?_; rintro e w' ⟨rfl, rfl⟩) | (go_at_call 46; refine (HK.out _).mono ?_; rintro e w' ⟨rfl, rfl⟩) | (go_at_call 47; refine (HW.out _).mono ?_; rintro e w' ⟨rfl, rfl⟩))
  go_ret
  exact ⟨rfl, (by repeat (first | exact Below.refl _ _ | refine Below.drew ?_ | refine below_drewN ?_ _ | refine Below.setCell ?_ (by simp <;> omega) _ | refine Below.alloc ?_ (by simp <;> omega) _))⟩
set_option maxHeartbeats 400000 in
theorem implBits_inf (U : Nat) (s : Bool) (hL : Lays U s 2047 0) (hU : U = signBit s + (2047 * 4503599627370496 + 0)) (w : World) :
    Calls Tryz.prog 16 #[.float .f64 U] w fun e w' => e = .returned (.int .i64 (wrap64 (U : Int))) ∧ Below w.heap.size w w' := by
  have HL : Hid _ := fun w => layoutOf_any U s 2047 0 hL w
  have HK : Hid _ := fun w => kind_inf s w
  have HW : Hid (∀ w, Calls Tryz.prog 47 #[.agg #[.bool s, .int .u64 ((2047 : Nat) : Int), .int .u64 ((0 : Nat) : Int)]] w fun e w' => e = .returned (.int .u64 (U : Int)) ∧ w' = w.alloc (.cells #[.bool s, .int .u64 ((2047 : Nat) : Int), .int .u64 ((0 : Nat) : Int)] 77)) := fun w => by
    have h := word_any s 2047 0 (by omega) (by omega) w
    rw [← hU] at h
    exact h
  clear hL hU
  go_enter Tryz.func16, Tryz.ntmps16
  go_wp2_with (first | (go_at_call 45; refine (HL.out _).mono ?_; rintro e w' ⟨rfl, rfl⟩) | (go_at_call 46; refine (HK.out _).mono ?_; rintro e w' ⟨rfl, rfl⟩) | (go_at_call 47; refine (HW.out _).mono ?_; rintro e w' ⟨rfl, rfl⟩))
  go_ret
  exact ⟨rfl, (by repeat (first | exact Below.refl _ _ | refine Below.drew ?_ | refine below_drewN ?_ _ | refine Below.setCell ?_ (by simp <;> omega) _ | refine Below.alloc ?_ (by simp <;> omega) _))⟩
set_option maxHeartbeats 400000 in
theorem implBits_small (U : Nat) (s : Bool) (M : Nat) (hM : M ≠ 0) (hM' : M < 4503599627370496) (hL : Lays U s 0 M) (hU : U = signBit s + (0 * 4503599627370496 + M)) (w : World) :
    Calls Tryz.prog 16 #[.float .f64 U] w fun e w' => e = .returned (.int .i64 (wrap64 (U : Int))) ∧ Below w.heap.size w w' := by
  have HL : Hid _ := fun w => layoutOf_any U s 0 M hL w
  have HK : Hid _ := fun w => kind_small s M hM w
  have HW : Hid (∀ w, Calls Tryz.prog 47 #[.agg #[.bool s, .int .u64 ((0 : Nat) : Int), .int .u64 ((M : Nat) : Int)]] w fun e w' => e = .returned (.int .u64 (U : Int)) ∧ w' = w.alloc (.cells #[.bool s, .int .u64 ((0 : Nat) : Int), .int .u64 ((M : Nat) : Int)] 77)) := fun w => by
    have h := word_any s 0 M (by omega) (by omega) w
    rw [← hU] at h
    exact h
  clear hL hU
  go_enter Tryz.func16, Tryz.ntmps16
  go_wp2_with (first | (go_at_call 45; refine (HL.out _).mono ?_; rintro e w' ⟨rfl, rfl⟩) | (go_at_call 46; refine (HK.out _).mono ?_; rintro e w' ⟨rfl, rfl⟩) | (go_at_call 47; refine (HW.out _).mono ?_; rintro e w' ⟨rfl, rfl⟩))
  go_ret
  exact ⟨rfl, (by repeat (first | exact Below.refl _ _ | refine Below.drew ?_ | refine below_drewN ?_ _ | refine Below.setCell ?_ (by simp <;> omega) _ | refine Below.alloc ?_ (by simp <;> omega) _))⟩
set_option maxHeartbeats 400000 in
theorem implBits_normal (U : Nat) (s : Bool) (E M : Nat) (h1 : 1 ≤ E) (h2 : E ≤ 2046) (hM' : M < 4503599627370496) (hL : Lays U s E M) (hU : U = signBit s + (E * 4503599627370496 + M)) (w : World) :
    Calls Tryz.prog 16 #[.float .f64 U] w fun e w' => e = .returned (.int .i64 (wrap64 (U : Int))) ∧ Below w.heap.size w w' := by
  have HL : Hid _ := fun w => layoutOf_any U s E M hL w
  have HK : Hid _ := fun w => kind_normal s E M h1 h2 w
  have HW : Hid (∀ w, Calls Tryz.prog 47 #[.agg #[.bool s, .int .u64 ((E : Nat) : Int), .int .u64 ((M : Nat) : Int)]] w fun e w' => e = .returned (.int .u64 (U : Int)) ∧ w' = w.alloc (.cells #[.bool s, .int .u64 ((E : Nat) : Int), .int .u64 ((M : Nat) : Int)] 77)) := fun w => by
    have h := word_any s E M (by omega) (by omega) w
    rw [← hU] at h
    exact h
  clear hL hU
  go_enter Tryz.func16, Tryz.ntmps16
  go_wp2_with (first | (go_at_call 45; refine (HL.out _).mono ?_; rintro e w' ⟨rfl, rfl⟩) | (go_at_call 46; refine (HK.out _).mono ?_; rintro e w' ⟨rfl, rfl⟩) | (go_at_call 47; refine (HW.out _).mono ?_; rintro e w' ⟨rfl, rfl⟩))
  go_ret
  exact ⟨rfl, (by repeat (first | exact Below.refl _ _ | refine Below.drew ?_ | refine below_drewN ?_ _ | refine Below.setCell ?_ (by simp <;> omega) _ | refine Below.alloc ?_ (by simp <;> omega) _))⟩
theorem implBitsOf_any (x : Nat) (hx : x < 18446744073709551616) (w : World) :
    Calls Tryz.prog 16 #[.float .f64 x] w fun e w' => ∃ v, bitsV x v ∧ e = .returned (.int .i64 v) ∧ Below w.heap.size w w' := by
  obtain ⟨s, E, M, hE, hM, hU⟩ := word_parts x hx
  have hL := lays_any x s E M hE hM hU
  by_cases c1 : E = 2047
  · subst c1
    by_cases c2 : M = 0
    · subst c2
      refine (implBits_inf x s hL hU w).mono ?_
      rintro e w' ⟨rfl, hb⟩
      exact ⟨_, .inr ⟨by rw [hU]; exact not_nan s _ (by omega), rfl⟩, rfl, hb⟩
    · refine (implBits_nan x s M hL c2 w).mono ?_
      rintro e w' ⟨rfl, hb⟩
      exact ⟨_, .inl ⟨by rw [hU]; exact nan_word s _ (by omega) (by omega), rfl⟩, rfl, hb⟩
  · have hn : ¬ IsNan x := by rw [hU]; exact not_nan s _ (by omega)
    by_cases c3 : E = 0
    · subst c3
      by_cases c2 : M = 0
      · subst c2
        refine (implBits_zero x s hL hU w).mono ?_
        rintro e w' ⟨rfl, hb⟩
        exact ⟨_, .inr ⟨hn, rfl⟩, rfl, hb⟩
      · refine (implBits_small x s M c2 hM hL hU w).mono ?_
        rintro e w' ⟨rfl, hb⟩
        exact ⟨_, .inr ⟨hn, rfl⟩, rfl, hb⟩
    · refine (implBits_normal x s E M (by omega) (by omega) hM hL hU w).mono ?_
      rintro e w' ⟨rfl, hb⟩
      exact ⟨_, .inr ⟨hn, rfl⟩, rfl, hb⟩
end Go.Proofs.YtpmccbkhkaoccaaGreatDoor

/- FromBits of the program. -/
namespace Go.Proofs.YtpmccbkhkaoccaaGreatDoor
open Go.ChangeShapes Go.WideShapes Go.RowKit
open Ieee (double)

set_option maxHeartbeats 400000 in
theorem implFrom_any (n : Int) (w : World) :
    Calls Tryz.prog 15 #[.int .i64 n] w fun e w' => e = .returned (.float .f64 (u64n n)) ∧ w' = w := by
  have hu := u64n_cast n
  have hc := call_frombits (u64n n : Int)
  rw [Int.toNat_natCast] at hc
  go_enter Tryz.func15, Tryz.ntmps15
  go_wp2
  go_ret
  exact ⟨rfl, rfl⟩
end Go.Proofs.YtpmccbkhkaoccaaGreatDoor

/- Shortest's answer is fixed. -/
namespace Go.Proofs.YtpmccbkhkaoccaaGreatDoor
open Go.RowKit
open Ieee (double)

theorem leastD_one (ds : ByteArray) (pow : Int) (x : Nat) (t t' : ByteArray) (p p' : Int) (h : LeastD ds pow x t p) (h' : LeastD ds pow x t' p') : t = t' ∧ p = p' := by
  obtain ⟨n, t2, p2, a1, a2, a3, a4, a5⟩ := h
  obtain ⟨n', t2', p2', b1, b2, b3, b4, b5⟩ := h'
  have hn : n = n' := by
    rcases Nat.lt_trichotomy n n' with hlt | he | hlt
    · obtain ⟨c1, c2⟩ := b4 n a1 hlt
      have c3 := c2 t2 p2 a3
      rcases a5 with ⟨d, _⟩ | ⟨d, _⟩
      · rw [c1] at d; cases d
      · rw [c3] at d; cases d
    · exact he
    · obtain ⟨c1, c2⟩ := a4 n' b1 hlt
      have c3 := c2 t2' p2' b3
      rcases b5 with ⟨d, _⟩ | ⟨d, _⟩
      · rw [c1] at d; cases d
      · rw [c3] at d; cases d
  subst hn
  obtain ⟨rfl, rfl⟩ := cutV_one _ _ _ _ _ _ _ _ a3 b3
  rcases a5 with ⟨d1, d2, rfl, rfl⟩ | ⟨d1, d2, rfl, rfl⟩ <;> rcases b5 with ⟨e1, e2, rfl, rfl⟩ | ⟨e1, e2, rfl, rfl⟩
  · exact ⟨rfl, rfl⟩
  · have f1 := d2 e1
    rw [e2 d1] at f1
    cases f1
  · have f1 := e2 d1
    rw [d2 e1] at f1
    cases f1
  · exact ⟨rfl, rfl⟩
theorem trim_less (d t t' : ByteArray) (h : TrimD d t) (h' : TrimD d t') (hlt : t'.size < t.size) : False := by
  obtain ⟨a0, ag, j, a1, a2, a3, a4⟩ := h
  obtain ⟨b0, bg, j', b1, b2, b3, b4⟩ := h'
  obtain ⟨k, hk⟩ : ∃ k, j' = j + (k + 1) := ⟨j' - j - 1, by omega⟩
  have hv : valN 10 t.data.toList * 10 ^ j = valN 10 t'.data.toList * 10 ^ j' := a3.symm.trans b3
  rw [hk, Nat.pow_add, Nat.mul_comm (10 ^ j), ← Nat.mul_assoc] at hv
  have h3 := Nat.eq_of_mul_eq_mul_right (Nat.pow_pos (show 0 < 10 by omega)) hv
  rw [Nat.pow_succ, ← Nat.mul_assoc] at h3
  rcases a4 with h1 | h1
  · omega
  · exact last_some t a0 ag h1 (by omega)
theorem trimD_one (d t t' : ByteArray) (h : TrimD d t) (h' : TrimD d t') : t = t' := by
  rcases Nat.lt_trichotomy t.size t'.size with hlt | he | hlt
  · exact (trim_less d t' t h' h hlt).elim
  · obtain ⟨_, _, _, a1, _⟩ := h
    obtain ⟨_, _, _, b1, _⟩ := h'
    rw [a1, b1, he]
  · exact (trim_less d t t' h h' hlt).elim
theorem shortV_one (x : Nat) (t t' : ByteArray) (h : shortV x t) (h' : shortV x t') : t = t' := by
  rcases h with ⟨a, rfl⟩ | ⟨s, rfl, rfl⟩ | ⟨s, rfl, rfl⟩ | ⟨s, n, p, q, k, ds, pow, d, r, u, hc, h0, rfl, hq, hq1, hd, hl, hu, rfl⟩
  · rcases h' with ⟨_, rfl⟩ | ⟨s, rfl, rfl⟩ | ⟨s, rfl, rfl⟩ | ⟨s, n, p, q, k, ds, pow, d, r, u, hc, h0, rfl, hq, hq1, hd, hl, hu, rfl⟩
    · rfl
    · exact (nan_not_iw s a).elim
    · exact (sign_nan s a).elim
    · exact (nan_not_fw s n p hc a).elim
  · rcases h' with ⟨a, _⟩ | ⟨t, e, rfl⟩ | ⟨t, e, rfl⟩ | ⟨t, n, p, q, k, ds, pow, d, r, u, hc, h0, e, hq, hq1, hd, hl, hu, rfl⟩
    · exact (nan_not_iw s a).elim
    · rw [iw_one s t e]
    · exact (sign_iw t s e.symm).elim
    · exact (iw_fw s t n p hc e).elim
  · rcases h' with ⟨a, _⟩ | ⟨t, e, rfl⟩ | ⟨t, e, rfl⟩ | ⟨t, n, p, q, k, ds, pow, d, r, u, hc, h0, e, hq, hq1, hd, hl, hu, rfl⟩
    · exact (sign_nan s a).elim
    · exact (sign_iw s t e).elim
    · rw [sign_one s t e]
    · exact (sign_fw s t n p hc h0 e).elim
  · rcases h' with ⟨a, _⟩ | ⟨t, e, rfl⟩ | ⟨t, e, rfl⟩ | ⟨t, n', p', q', k', ds', pow', d', r', u', hc', h0', e, hq', hq1', hd', hl', hu', rfl⟩
    · exact (nan_not_fw s n p hc a).elim
    · exact (iw_fw t s n p hc e.symm).elim
    · exact (sign_fw t s n p hc h0 e.symm).elim
    · obtain ⟨rfl, rfl, rfl⟩ := fw_one s t n n' p p' hc hc' e
      obtain ⟨rfl, rfl⟩ := odd_one q k q' k' (hq.symm.trans hq') hq1 hq1'
      obtain ⟨rfl, rfl⟩ := exD_one ds ds' pow pow' q _ hd hd'
      obtain ⟨rfl, rfl⟩ := leastD_one _ _ _ _ _ _ _ hl hl'
      obtain rfl := trimD_one _ _ _ hu hu'
      rfl
end Go.Proofs.YtpmccbkhkaoccaaGreatDoor

/- HexOf's answer is fixed. -/
namespace Go.Proofs.YtpmccbkhkaoccaaGreatDoor
open Ieee (double)

theorem hexV_one (x : Nat) (t t' : ByteArray) (h : hexV x t) (h' : hexV x t') : t = t' := by
  rcases h with ⟨a, rfl⟩ | ⟨s, rfl, rfl⟩ | ⟨s, rfl, rfl⟩ | ⟨s, n, p, q, k, hc, h0, rfl, hq, hq1, rfl⟩
  · rcases h' with ⟨_, rfl⟩ | ⟨s, rfl, rfl⟩ | ⟨s, rfl, rfl⟩ | ⟨s, n, p, q, k, hc, h0, rfl, hq, hq1, rfl⟩
    · rfl
    · exact (nan_not_iw s a).elim
    · exact (sign_nan s a).elim
    · exact (nan_not_fw s n p hc a).elim
  · rcases h' with ⟨a, _⟩ | ⟨t, e, rfl⟩ | ⟨t, e, rfl⟩ | ⟨t, n, p, q, k, hc, h0, e, hq, hq1, rfl⟩
    · exact (nan_not_iw s a).elim
    · rw [iw_one s t e]
    · exact (sign_iw t s e.symm).elim
    · exact (iw_fw s t n p hc e).elim
  · rcases h' with ⟨a, _⟩ | ⟨t, e, rfl⟩ | ⟨t, e, rfl⟩ | ⟨t, n, p, q, k, hc, h0, e, hq, hq1, rfl⟩
    · exact (sign_nan s a).elim
    · exact (sign_iw s t e).elim
    · rw [sign_one s t e]
    · exact (sign_fw s t n p hc h0 e).elim
  · rcases h' with ⟨a, _⟩ | ⟨t, e, rfl⟩ | ⟨t, e, rfl⟩ | ⟨t, n', p', q', k', hc', h0', e, hq', hq1', rfl⟩
    · exact (nan_not_fw s n p hc a).elim
    · exact (iw_fw t s n p hc e.symm).elim
    · exact (sign_fw t s n p hc h0 e.symm).elim
    · obtain ⟨rfl, rfl, rfl⟩ := fw_one s t n n' p p' hc hc' e
      obtain ⟨rfl, rfl⟩ := odd_one q k q' k' (hq.symm.trans hq') hq1 hq1'
      rfl
end Go.Proofs.YtpmccbkhkaoccaaGreatDoor

/- The bytes of a slice that came in. -/
namespace Go.Proofs.YtpmccbkhkaoccaaGreatDoor
open Go.ChangeShapes Go.WideShapes Go.RowKit

/-- The bytes of a slice that came in. -/
def Bts (w : World) (a : Option Addr) (len : Nat) : Prop := len ≤ 1048576 ∧ ∀ i : Nat, i < len → ∃ x : Addr, a = some x ∧ ∃ z : Int, 0 ≤ z ∧ z ≤ 255 ∧ w.cell? (x.add i) = some (.int .u8 z)
theorem Bts.below {w w' : World} {a : Option Addr} {len : Nat} (h : Bts w a len) (hb : Below w.heap.size w w') : Bts w' a len :=
  ⟨h.1, fun i hi => by
    obtain ⟨x, hx, z, h0, h1, hc⟩ := h.2 i hi
    exact ⟨x, hx, z, h0, h1, by rw [hb.cell (cell_lt hc)]; exact hc⟩⟩
theorem Bts.code {w : World} {a : Option Addr} {len : Nat} (h : Bts w a len) : Code w.heap.size w a len :=
  ⟨h.1, fun i hi => by
    obtain ⟨x, hx, z, h0, h1, hc⟩ := h.2 i hi
    have hl := cell_lt hc
    refine ⟨x, hx, fun e => ?_, z, h0, h1, hc⟩
    have : (x.add i).block = x.block := by unfold Addr.add; split <;> rfl
    omega⟩
/-- A slice of bytes that came in: nil, or it leads to a row of cells that hold bytes. -/
def IsRow (w : World) (a : Option Addr) (len cap : Nat) (zs : List Int) : Prop :=
  (a = none ∧ len = 0 ∧ cap = 0 ∧ zs = []) ∨
  ∃ x, a = some x ∧ len ≤ cap ∧ cap ≤ maxLen ∧ zs.length = cap ∧ (∀ i, i < zs.length → w.cell? (x.add i) = some (.int .u8 (zs.getD i 0))) ∧ ∀ n ∈ zs, (Lit.int .u8 n).wf = true
theorem IsRow.bts {w : World} {a : Option Addr} {len cap : Nat} {zs : List Int} (h : IsRow w a len cap zs) (hl : len ≤ 1048576) : Bts w a len := by
  refine ⟨hl, fun i hi => ?_⟩
  rcases h with ⟨_, rfl, _, _⟩ | ⟨x, rfl, hlc, _, hz, hc, hw⟩
  · omega
  · have hi' : i < zs.length := by omega
    have hm : zs.getD i 0 ∈ zs := by
      have e : zs.getD i 0 = zs[i] := by simp [List.getD, List.getElem?_eq_getElem hi']
      rw [e]; exact List.getElem_mem hi'
    have hb := bounds_u8 (hw _ hm)
    exact ⟨x, rfl, zs.getD i 0, hb.1, hb.2, hc i hi'⟩
theorem IsRow.len {w : World} {a : Option Addr} {len cap : Nat} {zs : List Int} (h : IsRow w a len cap zs) : len ≤ maxLen := by
  rcases h with ⟨_, rfl, _, _⟩ | ⟨x, _, hlc, hm, _, _, _⟩
  · exact Nat.zero_le _
  · omega
end Go.Proofs.YtpmccbkhkaoccaaGreatDoor

