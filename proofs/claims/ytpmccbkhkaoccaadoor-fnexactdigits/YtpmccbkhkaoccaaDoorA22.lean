import Derived.Test.YtpmccbkhkaoccaaDoorA21
import Derived.Deep.RegionWith
import Derived.Test.YtpmccbkhkaoccaaDoorA20
import Derived.Test.YtpmccbkhkaoccaaDoorA17
/- l5plain of the specification. -/
namespace Go.Proofs.YtpmccbkhkaoccaaDoor
open Go.ChangeShapes Go.WideShapes Go.RowKit

theorem zeros_int (x : Int) (h0 : 0 ≤ x) (h1 : x ≤ 100000) (w : World) : Calls Tryd.prog 24 #[.int .i64 x] w fun e w' => e = .returned (.string (zerosB x.toNat)) ∧ w' = w.alloc (.cells (tcells (zerosL x.toNat) x.toNat).toArray 5) := by
  have := l5zeros_at x.toNat (by omega) w
  rw [Int.toNat_of_nonneg h0] at this
  exact this

set_option maxHeartbeats 4000000 in
set_option maxRecDepth 100000 in
theorem l5plain_low (ds : ByteArray) (p : Int) (hs : ds.size ≤ 1100) (hp : p ≤ 0) (hp2 : -1100 ≤ p) (w : World) :
    Calls Tryd.prog 17 #[.agg #[.string ds, .int .i64 p]] w fun e w' => e = .returned (.string (⟨#[48, 46]⟩ ++ zerosB (-p).toNat ++ ds)) ∧ Below w.heap.size w w' := by
  have HZ : Hid (∀ w, Calls Tryd.prog 24 #[.int .i64 (IntKind.i64.wrap (-p))] w fun e w' => e = .returned (.string (zerosB (-p).toNat)) ∧ w' = w.alloc (.cells (tcells (zerosL (-p).toNat) (-p).toNat).toArray 5)) := fun w => by
    rw [show IntKind.i64.wrap (-p) = -p by rw [IntKind.wrap_i64]; omega]
    exact zeros_int (-p) (by omega) (by omega) w
  have hzs : ((zerosB (-p).toNat).size : Int) ≤ 1100 := by rw [zerosB_size]; omega
  have hs' : (ds.size : Int) ≤ 1100 := by omega
  generalize zerosB (-p).toNat = Z at *
  generalize (tcells (zerosL (-p).toNat) (-p).toNat).toArray = C at *
  clear hs
  go_enter Tryd.func17, Tryd.ntmps17
  go_wp2
  go_region_with (go_at_call 24; refine (HZ.out _).mono ?_; rintro e w' ⟨rfl, rfl⟩)
  all_goals
    go_wp2
    go_ret
    exact ⟨rfl, (by repeat (first | with_reducible exact Below.refl _ _ | with_reducible refine Below.alloc ?_ (by simp <;> omega) _ | with_reducible refine Below.drew ?_ | with_reducible refine below_drewN ?_ _ | with_reducible refine Below.setCell ?_ (by simp <;> omega) _))⟩
set_option maxHeartbeats 4000000 in
set_option maxRecDepth 100000 in
theorem l5plain_high (ds : ByteArray) (p : Int) (hs : ds.size ≤ 1100) (hp : (ds.size : Int) ≤ p) (hp0 : 0 < p) (hp2 : p ≤ 1100) (w : World) :
    Calls Tryd.prog 17 #[.agg #[.string ds, .int .i64 p]] w fun e w' => e = .returned (.string (ds ++ zerosB (p.toNat - ds.size))) ∧ Below w.heap.size w w' := by
  have HZ : Hid (∀ w, Calls Tryd.prog 24 #[.int .i64 (IntKind.i64.wrap (p - (ds.size : Int)))] w fun e w' => e = .returned (.string (zerosB (p.toNat - ds.size))) ∧ w' = w.alloc (.cells (tcells (zerosL (p.toNat - ds.size)) (p.toNat - ds.size)).toArray 5)) := fun w => by
    rw [show IntKind.i64.wrap (p - (ds.size : Int)) = p - (ds.size : Int) by rw [IntKind.wrap_i64]; omega]
    have := zeros_int (p - (ds.size : Int)) (by omega) (by omega) w
    rw [show (p - (ds.size : Int)).toNat = p.toNat - ds.size by omega] at this
    exact this
  have hzs : ((zerosB (p.toNat - ds.size)).size : Int) ≤ 1100 := by rw [zerosB_size]; omega
  have hs' : (ds.size : Int) ≤ 1100 := by omega
  generalize zerosB (p.toNat - ds.size) = Z at *
  generalize (tcells (zerosL (p.toNat - ds.size)) (p.toNat - ds.size)).toArray = C at *
  clear hs
  go_enter Tryd.func17, Tryd.ntmps17
  go_wp2
  go_region_with (go_at_call 24; refine (HZ.out _).mono ?_; rintro e w' ⟨rfl, rfl⟩)
  all_goals
    go_wp2
    go_ret
    exact ⟨rfl, (by repeat (first | with_reducible exact Below.refl _ _ | with_reducible refine Below.alloc ?_ (by simp <;> omega) _ | with_reducible refine Below.drew ?_ | with_reducible refine below_drewN ?_ _ | with_reducible refine Below.setCell ?_ (by simp <;> omega) _))⟩
theorem l5plain_any (ds : ByteArray) (p : Int) (hs : ds.size ≤ 1100) (hp : -1100 ≤ p) (hp2 : p ≤ 1100) (w : World) :
    Calls Tryd.prog 17 #[.agg #[.string ds, .int .i64 p]] w fun e w' => e = .returned (.string (plainB ds p)) ∧ Below w.heap.size w w' := by
  unfold plainB
  by_cases h1 : p ≤ 0
  · rw [if_pos h1]; exact l5plain_low ds p hs h1 hp w
  · rw [if_neg h1]
    by_cases h2 : (ds.size : Int) ≤ p
    · rw [if_pos h2]; exact l5plain_high ds p hs h2 (by omega) hp2 w
    · rw [if_neg h2]
      have := l5plain_mid ds p.toNat hs (by omega) (by omega) w
      rw [Int.toNat_of_nonneg (by omega)] at this
      exact this
end Go.Proofs.YtpmccbkhkaoccaaDoor

/- What Exact answers: plain. -/
namespace Go.Proofs.YtpmccbkhkaoccaaDoor
open Go.RowKit
open Ieee (double)

/-- What Exact answers. -/
def exactV (x : Nat) (t : ByteArray) : Prop := (IsNan x ∧ t = ⟨#[110, 97, 110]⟩) ∨ (∃ s, x = iw s ∧ t = sgnB s ++ ⟨#[105, 110, 102]⟩) ∨ (∃ s, x = signBit s ∧ t = sgnB s ++ ⟨#[48]⟩)
  ∨ (∃ (s : Bool) (n : Nat) (p : Int) (q k : Nat) (ds : ByteArray) (pow : Int), Canon n p ∧ 0 < n ∧ x = fw s n p ∧ n = q * 2 ^ k ∧ q % 2 = 1 ∧ ExD ds pow q (p + k) ∧ t = sgnB s ++ plainB ds pow)
end Go.Proofs.YtpmccbkhkaoccaaDoor

/- All digits of a number are fixed by it: plain. -/
namespace Go.Proofs.YtpmccbkhkaoccaaDoor
open Go.RowKit

theorem last_mod (t : ByteArray) (h : 0 < t.size) (hg : good 10 t.data.toList) : valN 10 t.data.toList % 10 = t[t.size - 1].toNat - 48 := by
  have e := last_cut t h
  obtain ⟨d1, d2, d3⟩ := good_digit t[t.size - 1] (good_at 10 t hg (t.size - 1) (by omega))
  have h1 : valN 10 [t[t.size - 1]] = t[t.size - 1].toNat - 48 := by
    rw [valN_cons, valN_nil, d3]
    simp
    omega
  rw [e, valN_append, h1]
  show (_ * 10 ^ 1 + _) % 10 = _
  rw [Nat.pow_one]
  omega
theorem last_some (t : ByteArray) (h : 0 < t.size) (hg : good 10 t.data.toList) (hz : ∀ h : t.size - 1 < t.size, t[t.size - 1].toNat ≠ 48) : valN 10 t.data.toList % 10 ≠ 0 := by
  rw [last_mod t h hg]
  obtain ⟨d1, d2, d3⟩ := good_digit t[t.size - 1] (good_at 10 t hg (t.size - 1) (by omega))
  have := hz (by omega)
  omega
theorem pow_same (V W a b : Nat) (h : V * 10 ^ a = W * 10 ^ b) (hV : V % 10 ≠ 0) (hW : W % 10 ≠ 0) : V = W ∧ a = b := by
  have key : ∀ (V W a b : Nat), V * 10 ^ a = W * 10 ^ b → V % 10 ≠ 0 → a < b → False := by
    intro V W a b h hV hlt
    obtain ⟨d, hd⟩ : ∃ d, b = a + (d + 1) := ⟨b - a - 1, by omega⟩
    rw [hd, Nat.pow_add, Nat.mul_comm (10 ^ a), ← Nat.mul_assoc] at h
    have h3 := Nat.eq_of_mul_eq_mul_right (Nat.pow_pos (show 0 < 10 by omega)) h
    rw [Nat.pow_succ, ← Nat.mul_assoc] at h3
    omega
  rcases Nat.lt_trichotomy a b with hlt | rfl | hlt
  · exact (key V W a b h hV hlt).elim
  · exact ⟨Nat.eq_of_mul_eq_mul_right (Nat.pow_pos (by omega)) h, rfl⟩
  · exact (key W V b a h.symm hW hlt).elim
/-- A number's digits, and where their point is, are fixed by it. -/
theorem exD_one (ds ds' : ByteArray) (pow pow' : Int) (M : Nat) (E : Int) (h : ExD ds pow M E) (h' : ExD ds' pow' M E) : ds = ds' ∧ pow = pow' := by
  obtain ⟨a0, ag, af, al, av⟩ := h
  obtain ⟨b0, bg, bf, bl, bv⟩ := h'
  have hV := last_some ds a0 ag al
  have hW := last_some ds' b0 bg bl
  have hx : valN 10 ds.data.toList * 10 ^ ((pow - (ds.size : Int)).toNat + ((ds'.size : Int) - pow').toNat) = valN 10 ds'.data.toList * 10 ^ ((pow' - (ds'.size : Int)).toNat + ((ds.size : Int) - pow).toNat) := by
    apply Nat.eq_of_mul_eq_mul_right (Nat.two_pow_pos (-E).toNat)
    rw [Nat.pow_add, Nat.pow_add, ← Nat.mul_assoc, ← Nat.mul_assoc]
    rw [Nat.mul_right_comm (valN 10 ds.data.toList * 10 ^ (pow - (ds.size : Int)).toNat), av]
    rw [Nat.mul_right_comm (valN 10 ds'.data.toList * 10 ^ (pow' - (ds'.size : Int)).toNat), bv]
    rw [Nat.mul_right_comm]
  obtain ⟨e1, e2⟩ := pow_same _ _ _ _ hx hV hW
  have hd : ds = ds' := dec_one ds ds' _ ⟨ag, rfl, af⟩ ⟨bg, e1.symm, bf⟩
  subst hd
  exact ⟨rfl, by omega⟩
end Go.Proofs.YtpmccbkhkaoccaaDoor

