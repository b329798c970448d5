import Derived.Test.YtpmccbkhkaoccaaGreatDoorB05
import Derived.Laws.FloatBits
import Derived.Test.YtpmccbkhkaoccaaGreatDoorB03
/- Float operations that the drawing of floats makes: plain. -/
namespace Go.Proofs.YtpmccbkhkaoccaaGreatDoor
open Ieee (double)

theorem width_64 : (2 : Nat) ^ double.width = 18446744073709551616 := by decide
/-- A quotient of two numbers, the second not 0. -/
theorem div_rep (s t : Bool) (a b : Nat) (i j : Int) (ha : Rep a i) (hb : Rep b j) (h0 : 0 < b) : ∃ r, double.div (fw s a i) (fw t b j) = some r ∧ r < 18446744073709551616 := by
  obtain ⟨m, p, hc, hw, _, _⟩ := rep_canon a i ha
  obtain ⟨n, q, kc, kw, _, k0⟩ := rep_canon b j hb
  have hn := k0 h0
  have : ∃ r, double.div (fw s a i) (fw t b j) = some r := by
    rw [hw s, kw t]
    unfold Ieee.Format.div
    rw [read_canon s m p hc, read_canon t n q kc]
    obtain ⟨n', rfl⟩ : ∃ n', n = n' + 1 := ⟨n - 1, by omega⟩
    cases m <;> exact ⟨_, rfl⟩
  obtain ⟨r, hr⟩ := this
  exact ⟨r, hr, by rw [← width_64]; exact double.div_lt hr⟩
theorem bits_100 : (4636737291354636288 : Nat) = fw false 100 0 := by
  have e := fw_scale false 100 46 0
  rw [show (0 : Int) - ((46 : Nat) : Int) = -46 by omega, show 100 * 2 ^ 46 = 7036874417766400 by decide, fw_canon _ _ _ (.inl ⟨by omega, by omega, by omega, by omega⟩)] at e
  rw [← e]; decide
theorem bits_eighth : (4593671619917905920 : Nat) = fw false 4503599627370496 (-3 - 52) := by rw [fw_canon _ _ _ (.inl ⟨by omega, by omega, by omega, by omega⟩)]; decide
theorem minus_one_by_zero : double.div 13830554455654793216 0 = some (iw true) := by decide
theorem fw_word (s : Bool) (m : Nat) (e : Int) : fw s m e < 18446744073709551616 := by rw [← width_64]; exact double.nearest_lt s m e
/-- A minus ahead of a word. -/
theorem neg_lt (x : Nat) (h : x < 18446744073709551616) : Op.negFloat .f64 x < 18446744073709551616 := by
  rcases Nat.lt_or_ge x 9223372036854775808 with h1 | h1
  · have := neg_word false x h1
    rw [show signBit false + x = x from Nat.zero_add x] at this
    rw [this]
    show 9223372036854775808 + x < _
    omega
  · obtain ⟨r, rfl⟩ : ∃ r, x = signBit true + r := ⟨x - 9223372036854775808, by show x = 9223372036854775808 + _; omega⟩
    have hr : r < 9223372036854775808 := by have : signBit true = 9223372036854775808 := rfl; omega
    rw [neg_word true r hr]
    show 0 + r < _
    omega
end Go.Proofs.YtpmccbkhkaoccaaGreatDoor

/- The order of floats as that of their bits. -/
namespace Go.Proofs.YtpmccbkhkaoccaaGreatDoor
open Ieee (double)

/-- What a word without its sign bit counts, with the sign. -/
def rankI (s : Bool) (r : Nat) : Int := if s then -(r : Int) else (r : Int)
theorem rung_lt_sval (m n : Nat) (p q : Int) (h : Canon m p) (k : Canon n q) (hr : rung m p < rung n q) : sval false m p < sval false n q := by
  unfold rung at hr
  by_cases hpq : p = q
  · subst hpq
    exact sval_lt m n p p (by omega) (by omega)
  · have hlt : p < q := by
      rcases h with h | h <;> rcases k with k | k <;> omega
    have hn : 4503599627370496 ≤ n := by rcases k with k | k <;> rcases h with h | h <;> omega
    have hm : m < 9007199254740992 := by rcases h with h | h <;> omega
    have hp : -1074 ≤ p := by rcases h with h | h <;> omega
    have h1 := sval_lt m 9007199254740992 p p hm (by omega)
    have h2 : sval false 9007199254740992 p = sval false 4503599627370496 (p + 1) := by
      have := sval_scale false 4503599627370496 1 (p + 1) (by omega)
      rw [show (4503599627370496 * 2 ^ 1 : Nat) = 9007199254740992 by decide, show (p + 1 - ((1 : Nat) : Int)) = p by omega] at this
      exact this
    have h3 := sval_le n 4503599627370496 q (p + 1) hn (by omega)
    omega
theorem rung_eq_sval (m n : Nat) (p q : Int) (h : Canon m p) (k : Canon n q) (hr : rung m p = rung n q) : sval false m p = sval false n q := by
  have e : fw false m p = fw false n q := by rw [fw_canon _ _ _ h, fw_canon _ _ _ k, hr]
  have h1 := read_canon false m p h
  rw [e, read_canon false n q k] at h1
  cases h1; rfl
theorem sval_nonneg (m : Nat) (p : Int) : 0 ≤ sval false m p := by
  by_cases h : m = 0
  · subst h; rw [sval_zero]; omega
  · have := sval_pos m p (by omega); omega
theorem rung_zero (m : Nat) (p : Int) (hr : rung m p = 0) : m = 0 := by
  unfold rung at hr; omega
theorem cmp_rung (s t : Bool) (m n : Nat) (p q : Int) (h : Canon m p) (k : Canon n q) : compare (sval s m p) (sval t n q) = compare (rankI s (rung m p)) (rankI t (rung n q)) := by
  have a0 := sval_nonneg m p
  have b0 := sval_nonneg n q
  have am : 0 < rung m p → 0 < sval false m p := fun h' => sval_pos m p (by
    rcases Nat.eq_zero_or_pos m with h0 | h0
    · subst h0
      rcases h with h | h
      · omega
      · unfold rung at h'; rw [h.2] at h'; simp at h'
    · exact h0)
  have bm : 0 < rung n q → 0 < sval false n q := fun h' => sval_pos n q (by
    rcases Nat.eq_zero_or_pos n with h0 | h0
    · subst h0
      rcases k with k | k
      · omega
      · unfold rung at h'; rw [k.2] at h'; simp at h'
    · exact h0)
  have az : rung m p = 0 → sval false m p = 0 := fun h' => by rw [rung_zero m p h', sval_zero]
  have bz : rung n q = 0 → sval false n q = 0 := fun h' => by rw [rung_zero n q h', sval_zero]
  have l1 := rung_lt_sval m n p q h k
  have l2 := rung_lt_sval n m q p k h
  have l3 := rung_eq_sval m n p q h k
  have hsv : ∀ (s : Bool) (m : Nat) (p : Int), sval s m p = if s then - sval false m p else sval false m p := by
    intro s m p; cases s
    · rfl
    · rw [sval_neg]; rfl
  rw [hsv s m p, hsv t n q]
  unfold rankI
  generalize sval false m p = A at *
  generalize sval false n q = B at *
  generalize rung m p = a at *
  generalize rung n q = b at *
  have key : ∀ x y X Y : Int, (X < Y ↔ x < y) → (X = Y ↔ x = y) → compare X Y = compare x y := by
    intro x y X Y h1 h2
    simp only [compare, compareOfLessAndEq]
    by_cases c1 : x < y
    · rw [if_pos c1, if_pos (h1.2 c1)]
    · rw [if_neg c1, if_neg (fun c => c1 (h1.1 c))]
      by_cases c2 : x = y
      · rw [if_pos c2, if_pos (h2.2 c2)]
      · rw [if_neg c2, if_neg (fun c => c2 (h2.1 c))]
  apply key
  · rcases Nat.lt_trichotomy a b with c | c | c
    · have := l1 c
      cases s <;> cases t <;> simp <;> omega
    · have := l3 c
      cases s <;> cases t <;> simp <;> omega
    · have := l2 c
      cases s <;> cases t <;> simp <;> omega
  · rcases Nat.lt_trichotomy a b with c | c | c
    · have := l1 c
      cases s <;> cases t <;> simp <;> omega
    · have := l3 c
      cases s <;> cases t <;> simp <;> omega
    · have := l2 c
      cases s <;> cases t <;> simp <;> omega
/-- A number's own form, off its bits. -/
theorem canon_parts (E M : Nat) (hM : M < 4503599627370496) (hE : E ≤ 2046) : ∃ m p, Canon m p ∧ rung m p = E * 4503599627370496 + M ∧ ((E = 0 ∧ m = M ∧ p = -1074) ∨ (1 ≤ E ∧ m = 4503599627370496 + M ∧ p = (E : Int) - 1 + -1074)) := by
  by_cases h : E = 0
  · exact ⟨M, -1074, .inr ⟨hM, rfl⟩, by unfold rung; subst h; simp, .inl ⟨h, rfl, rfl⟩⟩
  · refine ⟨4503599627370496 + M, (E : Int) - 1 + -1074, .inl ⟨by omega, by omega, by omega, by omega⟩, ?_, .inr ⟨by omega, rfl, rfl⟩⟩
    unfold rung
    rw [show ((E : Int) - 1 + -1074 + 1074).toNat = E - 1 by omega]
    omega
theorem order_rank (s t : Bool) (r q : Nat) (hr : r ≤ 9218868437227405312) (hq : q ≤ 9218868437227405312) : double.order (signBit s + r) (signBit t + q) = some (compare (rankI s r) (rankI t q)) := by
  have form : ∀ r : Nat, r < 9218868437227405312 → ∃ m p, Canon m p ∧ rung m p = r := by
    intro r h
    obtain ⟨m, p, h1, h2, _⟩ := canon_parts (r / 4503599627370496) (r % 4503599627370496) (by omega) (by omega)
    exact ⟨m, p, h1, by omega⟩
  by_cases c1 : r = 9218868437227405312
  · by_cases c2 : q = 9218868437227405312
    · subst c1 c2
      cases s <;> cases t <;> decide
    · obtain ⟨n, q', k, hk⟩ := form q (by omega)
      have e : signBit t + q = fw t n q' := by rw [fw_canon _ _ _ k, hk]
      subst c1
      rw [e, show signBit s + 9218868437227405312 = iw s from rfl, order_iw_fw s t n q' k]
      unfold rankI
      cases s <;> cases t <;> simp only [if_true, Bool.false_eq_true, if_false] <;> first | rw [cmp_lt _ _ (by omega)] | rw [cmp_gt _ _ (by omega)]
  · obtain ⟨m, p, h, hh⟩ := form r (by omega)
    have e1 : signBit s + r = fw s m p := by rw [fw_canon _ _ _ h, hh]
    by_cases c2 : q = 9218868437227405312
    · subst c2
      rw [e1, show signBit t + 9218868437227405312 = iw t from rfl, order_fw_iw t s m p h]
      unfold rankI
      cases s <;> cases t <;> simp only [if_true, Bool.false_eq_true, if_false] <;> first | rw [cmp_lt _ _ (by omega)] | rw [cmp_gt _ _ (by omega)]
    · obtain ⟨n, q', k, hk⟩ := form q (by omega)
      have e2 : signBit t + q = fw t n q' := by rw [fw_canon _ _ _ k, hk]
      rw [e1, e2, order_fw s t m n p q' h k, cmp_rung s t m n p q' h k, hh, hk]
end Go.Proofs.YtpmccbkhkaoccaaGreatDoor

/- l5size and l5odd of the specification. -/
namespace Go.Proofs.YtpmccbkhkaoccaaGreatDoor
open Go.ChangeShapes Go.WideShapes Go.RowKit
open Ieee (double)

def sgnB (s : Bool) : ByteArray := if s then ⟨#[45]⟩ else ⟨#[]⟩
theorem sgnB_size (s : Bool) : (sgnB s).size ≤ 1 := by cases s <;> decide
set_option maxHeartbeats 400000 in
theorem l5size_nan (x : Nat) (h : IsNan x) (w : World) :
    Calls Tryz.prog 36 #[.float .f64 x] w fun e w' => e = .returned (.tuple #[.float .f64 x, .string ⟨#[]⟩]) ∧ w' = w := by
  obtain ⟨s, n, hn⟩ := h
  have h1 : FloatKind.f64.format.order x 0 = none := (order_nan x 0 s n hn).1
  go_enter Tryz.func36, Tryz.ntmps36
  go_wp2
  go_ret2
  exact ⟨rfl, rfl⟩
set_option maxHeartbeats 400000 in
theorem l5size_some (x y : Nat) (s : Bool) (h : FloatKind.f64.format.order x 0 = some (if s then .lt else .gt)) (hy : Op.negFloat .f64 x = y) (w : World) :
    Calls Tryz.prog 36 #[.float .f64 x] w fun e w' => e = .returned (.tuple #[.float .f64 (if s then y else x), .string (sgnB s)]) ∧ w' = w := by
  have hn := fun w => run_neg x w
  rw [hy] at hn
  cases s
  all_goals
    go_enter Tryz.func36, Tryz.ntmps36
    go_wp2
    go_ret2
    exact ⟨rfl, rfl⟩
set_option maxHeartbeats 400000 in
theorem l5size_zero (s : Bool) (w : World) :
    Calls Tryz.prog 36 #[.float .f64 (signBit s)] w fun e w' => e = .returned (.tuple #[.float .f64 0, .string (sgnB s)]) ∧ w' = w := by
  have hz : FloatKind.f64.format.order (signBit s) 0 = some .eq := ord_zeros s
  have hd := run_valid (P := Tryz.prog) .quo 23 _ _ _ (one_by_zero s)
  have hi : FloatKind.f64.format.order (iw s) 0 = some (if s then .lt else .gt) := ord_inf_zero s
  have hn := fun w => run_neg (signBit s) w
  have hneg : Op.negFloat .f64 (signBit s) = signBit (!s) := by
    have := neg_word s 0 (by omega)
    simpa using this
  rw [hneg] at hn
  cases s
  · have HE : Hid (signBit false = 0) := rfl
    go_enter Tryz.func36, Tryz.ntmps36
    go_wp2
    go_ret2
    exact ⟨rfl, rfl⟩
  · have e1 : signBit (!true) = 0 := rfl
    rw [e1] at hn
    generalize signBit true = Z at *
    go_enter Tryz.func36, Tryz.ntmps36
    go_wp2
    go_ret2
    exact ⟨rfl, rfl⟩
/-- A float that is no NaN, and its size. -/
theorem l5size_any (s : Bool) (r : Nat) (hr : r ≤ 9218868437227405312) (w : World) :
    Calls Tryz.prog 36 #[.float .f64 (signBit s + r)] w fun e w' => e = .returned (.tuple #[.float .f64 r, .string (sgnB s)]) ∧ w' = w := by
  by_cases h0 : r = 0
  · subst h0; exact l5size_zero s w
  · have hord : FloatKind.f64.format.order (signBit s + r) 0 = some (if s then .lt else .gt) := by
      have := order_rank s false r 0 hr (by omega)
      rw [show signBit false + 0 = 0 from rfl] at this
      show double.order (signBit s + r) 0 = _
      rw [this]
      unfold rankI
      cases s
      · rw [if_neg (by decide), if_neg (by decide), cmp_gt _ _ (by omega)]; rfl
      · rw [if_pos rfl, if_neg (by decide), cmp_lt _ _ (by omega)]; rfl
    refine (l5size_some (signBit s + r) _ s hord (neg_word s r (by omega)) w).mono ?_
    rintro e w' ⟨rfl, rfl⟩
    refine ⟨?_, rfl⟩
    cases s
    · rw [if_neg (by decide), show signBit false + r = r from Nat.zero_add r]
    · rw [if_pos rfl, show signBit (!true) + r = r from Nat.zero_add r]
set_option maxHeartbeats 400000 in
theorem l5odd_nan (x : Nat) (h : IsNan x) (w : World) :
    Calls Tryz.prog 37 #[.float .f64 x] w fun e w' => e = .returned (.tuple #[.string ⟨#[110, 97, 110]⟩, .bool true]) ∧ w' = w := by
  have h1 : (FloatKind.f64.format.order x x != some .eq) = true := nan_neq x h
  go_enter Tryz.func37, Tryz.ntmps37
  go_wp2
  go_ret2
  exact ⟨rfl, rfl⟩
set_option maxHeartbeats 400000 in
theorem l5odd_inf (w : World) :
    Calls Tryz.prog 37 #[.float .f64 9218868437227405312] w fun e w' => e = .returned (.tuple #[.string ⟨#[105, 110, 102]⟩, .bool true]) ∧ w' = w := by
  have h1 : FloatKind.f64.format.order 9218868437227405312 9218868437227405312 = some .eq := order_self_iw false
  have h2 : FloatKind.f64.format.order 9218868437227405312 9218868437227405311 = some .gt := ord_inf_most
  go_enter Tryz.func37, Tryz.ntmps37
  go_wp2
  go_ret2
  exact ⟨rfl, rfl⟩
set_option maxHeartbeats 400000 in
theorem l5odd_num (r : Nat) (hr : r < 9218868437227405312) (w : World) :
    Calls Tryz.prog 37 #[.float .f64 r] w fun e w' => e = .returned (.tuple #[.string ⟨#[48]⟩, .bool (decide (r = 0))]) ∧ w' = w := by
  have h1 : FloatKind.f64.format.order r r = some .eq := by
    have := order_rank false false r r (by omega) (by omega)
    rw [show signBit false + r = r from Nat.zero_add r, cmp_eq _ _ rfl] at this
    exact this
  have h2 : (FloatKind.f64.format.order r 9218868437227405311 == some .gt) = false := by
    have := order_rank false false r 9218868437227405311 (by omega) (by omega)
    rw [show signBit false + r = r from Nat.zero_add r, show signBit false + 9218868437227405311 = 9218868437227405311 from rfl] at this
    show (double.order r _ == _) = false
    rw [this]
    unfold rankI
    rw [if_neg (by decide), if_neg (by decide)]
    by_cases h : r = 9218868437227405311
    · rw [cmp_eq _ _ (by omega)]; rfl
    · rw [cmp_lt _ _ (by omega)]; rfl
  have h3 : (FloatKind.f64.format.order r 0 == some .eq) = decide (r = 0) := by
    have := order_rank false false r 0 (by omega) (by omega)
    rw [show signBit false + r = r from Nat.zero_add r, show signBit false + 0 = 0 from rfl] at this
    show (double.order r _ == _) = _
    rw [this]
    unfold rankI
    rw [if_neg (by decide), if_neg (by decide)]
    by_cases h : r = 0
    · rw [cmp_eq _ _ (by omega), decide_eq_true h]; rfl
    · rw [cmp_gt _ _ (by omega), decide_eq_false h]; rfl
  clear hr
  go_enter Tryz.func37, Tryz.ntmps37
  go_wp2
  go_ret2
  exact ⟨rfl, rfl⟩
end Go.Proofs.YtpmccbkhkaoccaaGreatDoor

/- l2raw of the specification: the bits of a float's size. -/
namespace Go.Proofs.YtpmccbkhkaoccaaGreatDoor
open Go.ChangeShapes Go.WideShapes Go.RowKit
open Ieee (double)

set_option maxHeartbeats 400000 in
theorem raw_nan (x : Nat) (h : IsNan x) (w : World) :
    Calls Tryz.prog 50 #[.float .f64 x] w fun e w' => e = .returned (.tuple #[.bool false, .int .u64 9221120237041090560]) ∧ w' = w := by
  have hn : (FloatKind.f64.format.order x x != some .eq) = true := nan_neq x h
  go_enter Tryz.func50, Tryz.ntmps50
  go_wp2
  go_ret2
  exact ⟨rfl, rfl⟩

set_option maxHeartbeats 400000 in
theorem raw_inf (s : Bool) (w : World) :
    Calls Tryz.prog 50 #[.float .f64 (iw s)] w fun e w' => e = .returned (.tuple #[.bool s, .int .u64 9218868437227405312]) ∧ w' = w := by
  have hn : FloatKind.f64.format.order (iw s) (iw s) = some .eq := order_self_iw s
  have hm : FloatKind.f64.format.order (iw false) 9218868437227405311 = some .gt := ord_inf_most
  have hf : FloatKind.f64.format.order (iw false) 0 = some .gt := ord_inf_zero false
  have hng := run_neg (iw true)
  rw [neg_iw true] at hng
  cases s
  · go_enter Tryz.func50, Tryz.ntmps50
    go_wp2
    go_ret2
    exact ⟨rfl, rfl⟩
  · have ht : FloatKind.f64.format.order (iw true) 0 = some .lt := ord_inf_zero true
    go_enter Tryz.func50, Tryz.ntmps50
    go_wp2
    go_ret2
    exact ⟨rfl, rfl⟩

set_option maxHeartbeats 400000 in
theorem raw_zero (s : Bool) (w : World) :
    Calls Tryz.prog 50 #[.float .f64 (signBit s)] w fun e w' => e = .returned (.tuple #[.bool s, .int .u64 0]) ∧ w' = w := by
  have hn : FloatKind.f64.format.order (signBit s) (signBit s) = some .eq := by
    have := order_self_fw s 0 (-1074) canon_zero
    rw [fw_zero] at this
    exact this
  have hz : FloatKind.f64.format.order (signBit s) 0 = some .eq := ord_zeros s
  have hz0 : FloatKind.f64.format.order (signBit false) 0 = some .eq := ord_zeros false
  have hd := run_valid (P := Tryz.prog) .quo 23 _ _ _ (one_by_zero s)
  have hi : FloatKind.f64.format.order (iw s) 0 = some (if s then .lt else .gt) := ord_inf_zero s
  have hng := run_neg (signBit true)
  rw [show Op.negFloat .f64 (signBit true) = signBit false from neg_word true 0 (by omega)] at hng
  cases s
  · go_enter Tryz.func50, Tryz.ntmps50
    go_wp2
    go_ret2
    exact ⟨rfl, rfl⟩
  · go_enter Tryz.func50, Tryz.ntmps50
    go_wp2
    go_ret2
    exact ⟨rfl, rfl⟩
end Go.Proofs.YtpmccbkhkaoccaaGreatDoor

