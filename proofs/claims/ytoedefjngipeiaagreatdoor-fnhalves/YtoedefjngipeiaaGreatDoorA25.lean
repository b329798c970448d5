import Derived.Test.YtoedefjngipeiaaGreatDoorA18
import Derived.Test.YtoedefjngipeiaaGreatDoorA06
import Derived.Test.YtoedefjngipeiaaGreatDoorA15
import Derived.Test.YtoedefjngipeiaaGreatDoorA24
/- The order of floats as that of their bits. -/
namespace Go.Proofs.YtoedefjngipeiaaGreatDoor
open Ieee (double)

/-- What a word without its sign bit counts, with the sign. -/
def rankI (s : Bool) (r : Nat) : Int := if s then -(r : Int) else (r : Int)
theorem rung_lt_sval (m n : Nat) (p q : Int) (h : Canon m p) (k : Canon n q) (hr : rung m p < rung n q) : sval false m p < sval false n q := by
  unfold rung at hr
  by_cases hpq : p = q
  · subst hpq
    exact sval_lt m n p p (by omega) (by omega)
  · have hlt : p < q := by
      rcases h with h | h <;> rcases k with k | k <;> omega
    have hn : 4503599627370496 ≤ n := by rcases k with k | k <;> rcases h with h | h <;> omega
    have hm : m < 9007199254740992 := by rcases h with h | h <;> omega
    have hp : -1074 ≤ p := by rcases h with h | h <;> omega
    have h1 := sval_lt m 9007199254740992 p p hm (by omega)
    have h2 : sval false 9007199254740992 p = sval false 4503599627370496 (p + 1) := by
      have := sval_scale false 4503599627370496 1 (p + 1) (by omega)
      rw [show (4503599627370496 * 2 ^ 1 : Nat) = 9007199254740992 by decide, show (p + 1 - ((1 : Nat) : Int)) = p by omega] at this
      exact this
    have h3 := sval_le n 4503599627370496 q (p + 1) hn (by omega)
    omega
theorem rung_eq_sval (m n : Nat) (p q : Int) (h : Canon m p) (k : Canon n q) (hr : rung m p = rung n q) : sval false m p = sval false n q := by
  have e : fw false m p = fw false n q := by rw [fw_canon _ _ _ h, fw_canon _ _ _ k, hr]
  have h1 := read_canon false m p h
  rw [e, read_canon false n q k] at h1
  cases h1; rfl
theorem sval_nonneg (m : Nat) (p : Int) : 0 ≤ sval false m p := by
  by_cases h : m = 0
  · subst h; rw [sval_zero]; omega
  · have := sval_pos m p (by omega); omega
theorem rung_zero (m : Nat) (p : Int) (hr : rung m p = 0) : m = 0 := by
  unfold rung at hr; omega
theorem cmp_rung (s t : Bool) (m n : Nat) (p q : Int) (h : Canon m p) (k : Canon n q) : compare (sval s m p) (sval t n q) = compare (rankI s (rung m p)) (rankI t (rung n q)) := by
  have a0 := sval_nonneg m p
  have b0 := sval_nonneg n q
  have am : 0 < rung m p → 0 < sval false m p := fun h' => sval_pos m p (by
    rcases Nat.eq_zero_or_pos m with h0 | h0
    · subst h0
      rcases h with h | h
      · omega
      · unfold rung at h'; rw [h.2] at h'; simp at h'
    · exact h0)
  have bm : 0 < rung n q → 0 < sval false n q := fun h' => sval_pos n q (by
    rcases Nat.eq_zero_or_pos n with h0 | h0
    · subst h0
      rcases k with k | k
      · omega
      · unfold rung at h'; rw [k.2] at h'; simp at h'
    · exact h0)
  have az : rung m p = 0 → sval false m p = 0 := fun h' => by rw [rung_zero m p h', sval_zero]
  have bz : rung n q = 0 → sval false n q = 0 := fun h' => by rw [rung_zero n q h', sval_zero]
  have l1 := rung_lt_sval m n p q h k
  have l2 := rung_lt_sval n m q p k h
  have l3 := rung_eq_sval m n p q h k
  have hsv : ∀ (s : Bool) (m : Nat) (p : Int), sval s m p = if s then - sval false m p else sval false m p := by
    intro s m p; cases s
    · rfl
    · rw [sval_neg]; rfl
  rw [hsv s m p, hsv t n q]
  unfold rankI
  generalize sval false m p = A at *
  generalize sval false n q = B at *
  generalize rung m p = a at *
  generalize rung n q = b at *
  have key : ∀ x y X Y : Int, (X < Y ↔ x < y) → (X = Y ↔ x = y) → compare X Y = compare x y := by
    intro x y X Y h1 h2
    simp only [compare, compareOfLessAndEq]
    by_cases c1 : x < y
    · rw [if_pos c1, if_pos (h1.2 c1)]
    · rw [if_neg c1, if_neg (fun c => c1 (h1.1 c))]
      by_cases c2 : x = y
      · rw [if_pos c2, if_pos (h2.2 c2)]
      · rw [if_neg c2, if_neg (fun c => c2 (h2.1 c))]
  apply key
  · rcases Nat.lt_trichotomy a b with c | c | c
    · have := l1 c
      cases s <;> cases t <;> simp <;> omega
    · have := l3 c
      cases s <;> cases t <;> simp <;> omega
    · have := l2 c
      cases s <;> cases t <;> simp <;> omega
  · rcases Nat.lt_trichotomy a b with c | c | c
    · have := l1 c
      cases s <;> cases t <;> simp <;> omega
    · have := l3 c
      cases s <;> cases t <;> simp <;> omega
    · have := l2 c
      cases s <;> cases t <;> simp <;> omega
/-- A number's own form, off its bits. -/
theorem canon_parts (E M : Nat) (hM : M < 4503599627370496) (hE : E ≤ 2046) : ∃ m p, Canon m p ∧ rung m p = E * 4503599627370496 + M ∧ ((E = 0 ∧ m = M ∧ p = -1074) ∨ (1 ≤ E ∧ m = 4503599627370496 + M ∧ p = (E : Int) - 1 + -1074)) := by
  by_cases h : E = 0
  · exact ⟨M, -1074, .inr ⟨hM, rfl⟩, by unfold rung; subst h; simp, .inl ⟨h, rfl, rfl⟩⟩
  · refine ⟨4503599627370496 + M, (E : Int) - 1 + -1074, .inl ⟨by omega, by omega, by omega, by omega⟩, ?_, .inr ⟨by omega, rfl, rfl⟩⟩
    unfold rung
    rw [show ((E : Int) - 1 + -1074 + 1074).toNat = E - 1 by omega]
    omega
theorem order_rank (s t : Bool) (r q : Nat) (hr : r ≤ 9218868437227405312) (hq : q ≤ 9218868437227405312) : double.order (signBit s + r) (signBit t + q) = some (compare (rankI s r) (rankI t q)) := by
  have form : ∀ r : Nat, r < 9218868437227405312 → ∃ m p, Canon m p ∧ rung m p = r := by
    intro r h
    obtain ⟨m, p, h1, h2, _⟩ := canon_parts (r / 4503599627370496) (r % 4503599627370496) (by omega) (by omega)
    exact ⟨m, p, h1, by omega⟩
  by_cases c1 : r = 9218868437227405312
  · by_cases c2 : q = 9218868437227405312
    · subst c1 c2
      cases s <;> cases t <;> decide
    · obtain ⟨n, q', k, hk⟩ := form q (by omega)
      have e : signBit t + q = fw t n q' := by rw [fw_canon _ _ _ k, hk]
      subst c1
      rw [e, show signBit s + 9218868437227405312 = iw s from rfl, order_iw_fw s t n q' k]
      unfold rankI
      cases s <;> cases t <;> simp only [if_true, Bool.false_eq_true, if_false] <;> first | rw [cmp_lt _ _ (by omega)] | rw [cmp_gt _ _ (by omega)]
  · obtain ⟨m, p, h, hh⟩ := form r (by omega)
    have e1 : signBit s + r = fw s m p := by rw [fw_canon _ _ _ h, hh]
    by_cases c2 : q = 9218868437227405312
    · subst c2
      rw [e1, show signBit t + 9218868437227405312 = iw t from rfl, order_fw_iw t s m p h]
      unfold rankI
      cases s <;> cases t <;> simp only [if_true, Bool.false_eq_true, if_false] <;> first | rw [cmp_lt _ _ (by omega)] | rw [cmp_gt _ _ (by omega)]
    · obtain ⟨n, q', k, hk⟩ := form q (by omega)
      have e2 : signBit t + q = fw t n q' := by rw [fw_canon _ _ _ k, hk]
      rw [e1, e2, order_fw s t m n p q' h k, cmp_rung s t m n p q' h k, hh, hk]
end Go.Proofs.YtoedefjngipeiaaGreatDoor

/- Midst and l7sized of the specification. -/
namespace Go.Proofs.YtoedefjngipeiaaGreatDoor
open Go.ChangeShapes Go.WideShapes Go.RowKit
open Ieee (double)

theorem bits_size (r : Nat) (hr : r < 9218868437227405312) (w : World) :
    Calls Tryz.prog 25 #[.float .f64 r] w fun e w' => e = .returned (.int .i64 (r : Int)) ∧ w' = w := by
  refine (specBitsOf_any r (by omega) w).mono ?_
  rintro e w' ⟨v, hv, rfl, rfl⟩
  have hn : ¬ IsNan r := by
    have := not_nan false r (by omega)
    rw [show signBit false + r = r from Nat.zero_add r] at this
    exact this
  rcases hv with ⟨h, _⟩ | ⟨_, rfl⟩
  · exact absurd h hn
  · exact ⟨by rw [show wrap64 (r : Int) = (r : Int) by unfold wrap64; omega], rfl⟩
set_option maxHeartbeats 1000000 in
theorem midst_any (m : Nat) (p : Int) (hc : Canon m p) (w : World) :
    Calls Tryz.prog 10 #[.float .f64 (fw false m p)] w fun e w' => ∃ t, Pointed t (2 * m + 1) (p - 1) ∧ e = .returned (.string t) ∧ Below w.heap.size w w' := by
  have hr := rung_lt m p hc
  have hfw : fw false m p = rung m p := by rw [fw_canon _ _ _ hc]; exact Nat.zero_add _
  rw [hfw]
  have HB : Hid _ := fun w => bits_size (rung m p) hr w
  obtain ⟨E, M, hE, hM, hEM⟩ : ∃ E M : Nat, E ≤ 2046 ∧ M < 4503599627370496 ∧ rung m p = E * 4503599627370496 + M := ⟨rung m p / 4503599627370496, rung m p % 4503599627370496, by omega, by omega, by omega⟩
  obtain ⟨m', p', hc', hr', hpar⟩ := canon_parts E M hM hE
  have hfw' : fw false m' p' = fw false m p := by rw [fw_canon _ _ _ hc', fw_canon _ _ _ hc, hr', hEM]
  have hone := read_canon false m' p' hc'
  rw [hfw', read_canon false m p hc] at hone
  cases hone
  have hm2 : m < 9007199254740992 := by rcases hc with h | h <;> omega
  have hp1 : -1074 ≤ p := by rcases hc with h | h <;> omega
  have hp2 : p ≤ 971 := by rcases hc with h | h <;> omega
  have HF : Hid _ := fun w => l0from_any (2 * m + 1) (by omega) w
  have HP : Hid _ := fun v w h => l7pointed_any v (2 * m + 1) (p - 1) w h (by omega) (by omega) (by omega)
  have hsh : (rung m p : Int) / 4503599627370496 = (E : Int) := by omega
  have hand : bits .and .u64 (rung m p : Int) 4503599627370495 = (M : Int) := by
    rw [mask52 _ (by omega) (by omega)]; omega
  have hor := or_one M hM
  obtain ⟨R, hR⟩ : ∃ R : Int, R = (rung m p : Int) := ⟨_, rfl⟩
  have hR0 : 0 ≤ R := by omega
  have hR1 : R < 9223372036854775808 := by omega
  rw [← hR] at hsh hand HB
  clear hEM hr' hfw hfw' hr hR hc hc'
  generalize rung m p = r at *
  rcases hpar with ⟨rfl, rfl, rfl⟩ | ⟨h1, rfl, rfl⟩
  · have hMi : (m : Int) < 4503599627370496 := by omega
    have hM0 : 0 ≤ (m : Int) := by omega
    have HF2 : Hid (∀ w, Calls Tryz.prog 29 #[.int .u64 (2 * (m : Int) + 1)] w fun e w' => ∃ v', e = .returned v' ∧ Below w.heap.size w w' ∧ Big w' v' (2 * m + 1)) := fun w => HF.out w
    clear HF hm2 hM hE hp1 hp2 hor
    go_enter Tryz.func10, Tryz.ntmps10
    go_wp2_with fail
    refine (HB.out _).mono ?_
    rintro e w1 ⟨rfl, rfl⟩
    go_wp2_with fail
    refine (HF2.out _).mono ?_
    rintro e w2 ⟨v, rfl, hb, hv⟩
    have HB2 : Hid _ := fun (_ : Unit) => And.intro hb hv
    clear hb hv
    go_wp2_with fail
    refine (HP.out _ _ (HB2.out ()).2).mono ?_
    rintro e w3 ⟨t, rfl, ht, hb3⟩
    have H3 : Hid _ := fun (_ : Unit) => And.intro ht ((HB2.out ()).1.trans (hb3.mono (HB2.out ()).1.size))
    clear ht hb3
    go_wp2
    go_ret
    exact ⟨t, (H3.out ()).1, rfl, (H3.out ()).2⟩
  · obtain ⟨Q, hQ⟩ : ∃ Q : Int, Q = ((4503599627370496 + M : Nat) : Int) := ⟨_, rfl⟩
    have hQ0 : 0 ≤ Q := by omega
    have hQ1 : Q < 9007199254740992 := by omega
    have HF2 : Hid (∀ w, Calls Tryz.prog 29 #[.int .u64 (2 * Q + 1)] w fun e w' => ∃ v', e = .returned v' ∧ Below w.heap.size w w' ∧ Big w' v' (2 * (4503599627370496 + M) + 1)) := fun w => by
      have := HF.out w
      rw [show ((2 * (4503599627370496 + M) + 1 : Nat) : Int) = 2 * Q + 1 by omega] at this
      exact this
    have HP2 : Hid (∀ v w, Big w v (2 * (4503599627370496 + M) + 1) → Calls Tryz.prog 28 #[v, .int .i64 ((E : Int) - 1 - 1075)] w fun e' w' => ∃ t : ByteArray, e' = .returned (.string t) ∧ Pointed t (2 * (4503599627370496 + M) + 1) ((E : Int) - 1 + -1074 - 1) ∧ Below w.heap.size w w') := fun v w h => by
      have := HP.out v w h
      rw [show (E : Int) - 1 + -1074 - 1 = (E : Int) - 1 - 1075 by omega] at this ⊢
      exact this
    have e0 : decide (0 < (E : Int)) = true := decide_eq_true (by omega)
    have hE0 : 1 ≤ (E : Int) := by omega
    have hE1 : (E : Int) ≤ 2046 := by omega
    rw [← hQ] at hor
    clear HF HP hm2 hM hE hp1 hp2 hQ h1
    go_enter Tryz.func10, Tryz.ntmps10
    go_wp2_with fail
    refine (HB.out _).mono ?_
    rintro e w1 ⟨rfl, rfl⟩
    go_wp2_with fail
    refine (HF2.out _).mono ?_
    rintro e w2 ⟨v, rfl, hb, hv⟩
    have HB2 : Hid _ := fun (_ : Unit) => And.intro hb hv
    clear hb hv
    go_wp2_with fail
    refine (HP2.out _ _ (HB2.out ()).2).mono ?_
    rintro e w3 ⟨t, rfl, ht, hb3⟩
    have H3 : Hid _ := fun (_ : Unit) => And.intro ht ((HB2.out ()).1.trans (hb3.mono (HB2.out ()).1.size))
    clear ht hb3
    go_wp2
    go_ret
    exact ⟨t, (H3.out ()).1, rfl, (H3.out ()).2⟩

theorem word_half : (4609434218613702656 : Nat) < 9218868437227405312 := by omega
set_option maxHeartbeats 1000000 in
theorem l7sized_ds (B : Nat) (w0 w : World) (a : Option Addr) (len cap : Nat) (m : Int) (h : DS B w0 w a len cap m) (hm : m ≤ 600000000) :
    Calls Tryz.prog 17 #[.pointer (some ⟨B, 0, none⟩)] w fun e w' => ∃ r : Nat, r < 9218868437227405312 ∧ e = .returned (.float .f64 r) ∧ DS B w0 w' a len cap (m + 50) := by
  have HF : Hid _ := fun (_ : Unit) => flt_ds B w0 w a len cap m h hm
  clear h
  go_enter Tryz.func17, Tryz.ntmps17
  go_wp2_with fail
  refine (HF.out ()).mono ?_
  rintro e w1 ⟨x, hx, rfl, hd⟩
  have HD : Hid _ := fun (_ : Unit) => hd
  clear hd HF
  obtain ⟨s, E, M, hE, hM, hU⟩ := word_parts x hx
  by_cases hn : E = 2047 ∧ M ≠ 0
  · have hnan : IsNan x := by obtain ⟨rfl, _⟩ := hn; rw [hU]; exact nan_word s _ (by omega) (by omega)
    have h1 : (FloatKind.f64.format.order x x != some .eq) = true := nan_neq x hnan
    have h2 : FloatKind.f64.format.order x 0 = none := by obtain ⟨c, d, hcd⟩ := hnan; exact (order_nan x 0 c d hcd).1
    clear hn hnan hU hM hE hx
    go_wp2
    go_ret
    exact ⟨_, word_half, rfl, HD.out ()⟩
  · have hr : E * 4503599627370496 + M ≤ 9218868437227405312 := by omega
    generalize hR : E * 4503599627370496 + M = r at *
    have hord : ∀ (t : Bool) (y : Nat), y ≤ 9218868437227405312 → double.order (signBit s + r) (signBit t + y) = some (compare (rankI s r) (rankI t y)) := fun t y hy => order_rank s t r y hr hy
    have hordp : ∀ (y : Nat), y ≤ 9218868437227405312 → double.order r y = some (compare (r : Int) (y : Int)) := fun y hy => by
      have := order_rank false false r y hr hy
      rw [show signBit false + r = r from Nat.zero_add r, show signBit false + y = y from Nat.zero_add y] at this
      exact this
    by_cases h0 : r = 0
    · subst h0
      have h1 : FloatKind.f64.format.order x x = some .eq := by rw [hU]; exact (hord s 0 (by omega)).trans (by rw [cmp_eq _ _ rfl])
      have h2 : FloatKind.f64.format.order x 0 = some .eq := by
        rw [hU]
        have := hord false 0 (by omega)
        rw [show signBit false + 0 = 0 from rfl] at this
        refine this.trans ?_
        unfold rankI
        rw [cmp_eq]; cases s <;> rfl
      have h3 : (FloatKind.f64.format.order x 9218868437227405311 == some .gt) = false := by
        have := hord false 9218868437227405311 (by omega)
        rw [show signBit false + 9218868437227405311 = 9218868437227405311 from rfl, ← hU] at this
        show (double.order x _ == _) = false
        rw [this, cmp_lt _ _ (by unfold rankI; cases s <;> simp)]
        rfl
      clear hU hM hE hx hord hordp hR hn hr
      go_wp2
      go_ret
      exact ⟨0, by omega, rfl, HD.out ()⟩
    · have hz : ∀ b : Bool, FloatKind.f64.format.order (signBit b + r) 0 = some (if b then .lt else .gt) := fun b => by
        have := order_rank b false r 0 hr (by omega)
        rw [show signBit false + 0 = 0 from rfl] at this
        show double.order _ _ = _
        rw [this]
        unfold rankI
        cases b
        · rw [if_neg (by decide), if_neg (by decide), cmp_gt _ _ (by omega)]; rfl
        · rw [if_pos rfl, if_neg (by decide), cmp_lt _ _ (by omega)]; rfl
      have e0 := hz false
      rw [show signBit false + r = r from Nat.zero_add r] at e0
      have p1 : FloatKind.f64.format.order r r = some .eq := (hordp r hr).trans (by rw [cmp_eq _ _ rfl])
      have hx0 := hz s
      rw [← hU] at hx0
      have hneg : Op.negFloat .f64 x = signBit (!s) + r := by rw [hU]; exact neg_word s r (by omega)
      have hrn := fun w => run_neg x w
      rw [hneg] at hrn
      by_cases hinf : r = 9218868437227405312
      · have h3 : FloatKind.f64.format.order r 9218868437227405311 = some .gt := (hordp _ (by omega)).trans (by rw [cmp_gt _ _ (by omega)])
        cases s
        · have hxr : x = r := by rw [hU]; exact Nat.zero_add r
          subst hxr
          clear hU hM hE hx hord hordp hR hn hr hz hneg hinf hrn hx0
          have e0' : FloatKind.f64.format.order x 0 = some .gt := e0
          clear e0
          go_wp2
          go_ret
          exact ⟨_, word_half, rfl, HD.out ()⟩
        · rw [show signBit (!true) + r = r from Nat.zero_add r] at hrn
          have hx0' : FloatKind.f64.format.order x 0 = some .lt := hx0
          have e0' : FloatKind.f64.format.order r 0 = some .gt := e0
          clear hU hM hE hx hord hordp hR hn hr hz hneg hinf hx0 e0
          go_wp2
          go_ret
          exact ⟨_, word_half, rfl, HD.out ()⟩
      · have h3 : (FloatKind.f64.format.order r 9218868437227405311 == some .gt) = false := by
          show (double.order r _ == _) = false
          rw [hordp _ (by omega)]
          by_cases h : r = 9218868437227405311
          · rw [cmp_eq _ _ (by omega)]; rfl
          · rw [cmp_lt _ _ (by omega)]; rfl
        have HRL : Hid (r < 9218868437227405312) := by show _ < _; omega
        cases s
        · have hxr : x = r := by rw [hU]; exact Nat.zero_add r
          subst hxr
          have e0' : FloatKind.f64.format.order x 0 = some .gt := e0
          clear hU hM hE hx hord hordp hR hn hr hz hneg hinf hrn hx0 e0
          go_wp2
          go_ret
          exact ⟨x, HRL.out, rfl, HD.out ()⟩
        · rw [show signBit (!true) + r = r from Nat.zero_add r] at hrn
          have hx0' : FloatKind.f64.format.order x 0 = some .lt := hx0
          have e0' : FloatKind.f64.format.order r 0 = some .gt := e0
          clear hU hM hE hx hord hordp hR hn hr hz hneg hinf hx0 e0
          go_wp2
          go_ret
          exact ⟨r, HRL.out, rfl, HD.out ()⟩
end Go.Proofs.YtoedefjngipeiaaGreatDoor

/- Sized of the specification. -/
namespace Go.Proofs.YtoedefjngipeiaaGreatDoor
open Go.ChangeShapes Go.WideShapes Go.RowKit

set_option maxHeartbeats 400000 in
theorem sized_any (w : World) (a : Option Addr) (len cap : Nat) (hk : Code w.heap.size w a len) :
    Calls Tryz.prog 5 #[.slice a len cap] w fun e w' => ∃ r : Nat, r < 9218868437227405312 ∧ e = .returned (.float .f64 r) ∧ Below w.heap.size w w' := by
  have HK : Hid _ := fun T => DS.start w a len cap T hk
  clear hk
  go_enter Tryz.func5, Tryz.ntmps5
  go_wp2_with fail
  refine (l7sized_ds w.heap.size w _ a len cap 0 (HK.out _) (by omega)).mono ?_
  rintro e w1 ⟨r, hr, rfl, hd⟩
  have H1 : Hid _ := fun (_ : Unit) => hd
  have HR : Hid (r < 9218868437227405312) := hr
  clear hd hr HK
  go_wp2
  go_ret
  exact ⟨r, HR.out, rfl, (H1.out ()).done⟩
end Go.Proofs.YtoedefjngipeiaaGreatDoor

