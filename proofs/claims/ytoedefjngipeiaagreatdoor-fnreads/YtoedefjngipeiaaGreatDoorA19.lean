import Derived.Test.YtoedefjngipeiaaGreatDoorA13
import Derived.Test.YtoedefjngipeiaaGreatDoorA04
import Derived.Test.YtoedefjngipeiaaGreatDoorA12
import Derived.Test.YtoedefjngipeiaaGreatDoorA18
import Derived.Test.YtoedefjngipeiaaGreatDoorA09
import Derived.Test.YtoedefjngipeiaaGreatDoorA08
/- The order of floats as that of their bits. -/
namespace Go.Proofs.YtoedefjngipeiaaGreatDoor
open Ieee (double)

/-- What a word without its sign bit counts, with the sign. -/
def rankI (s : Bool) (r : Nat) : Int := if s then -(r : Int) else (r : Int)
theorem rung_lt_sval (m n : Nat) (p q : Int) (h : Canon m p) (k : Canon n q) (hr : rung m p < rung n q) : sval false m p < sval false n q := by
  unfold rung at hr
  by_cases hpq : p = q
  · subst hpq
    exact sval_lt m n p p (by omega) (by omega)
  · have hlt : p < q := by
      rcases h with h | h <;> rcases k with k | k <;> omega
    have hn : 4503599627370496 ≤ n := by rcases k with k | k <;> rcases h with h | h <;> omega
    have hm : m < 9007199254740992 := by rcases h with h | h <;> omega
    have hp : -1074 ≤ p := by rcases h with h | h <;> omega
    have h1 := sval_lt m 9007199254740992 p p hm (by omega)
    have h2 : sval false 9007199254740992 p = sval false 4503599627370496 (p + 1) := by
      have := sval_scale false 4503599627370496 1 (p + 1) (by omega)
      rw [show (4503599627370496 * 2 ^ 1 : Nat) = 9007199254740992 by decide, show (p + 1 - ((1 : Nat) : Int)) = p by omega] at this
      exact this
    have h3 := sval_le n 4503599627370496 q (p + 1) hn (by omega)
    omega
theorem rung_eq_sval (m n : Nat) (p q : Int) (h : Canon m p) (k : Canon n q) (hr : rung m p = rung n q) : sval false m p = sval false n q := by
  have e : fw false m p = fw false n q := by rw [fw_canon _ _ _ h, fw_canon _ _ _ k, hr]
  have h1 := read_canon false m p h
  rw [e, read_canon false n q k] at h1
  cases h1; rfl
theorem sval_nonneg (m : Nat) (p : Int) : 0 ≤ sval false m p := by
  by_cases h : m = 0
  · subst h; rw [sval_zero]; omega
  · have := sval_pos m p (by omega); omega
theorem rung_zero (m : Nat) (p : Int) (hr : rung m p = 0) : m = 0 := by
  unfold rung at hr; omega
theorem cmp_rung (s t : Bool) (m n : Nat) (p q : Int) (h : Canon m p) (k : Canon n q) : compare (sval s m p) (sval t n q) = compare (rankI s (rung m p)) (rankI t (rung n q)) := by
  have a0 := sval_nonneg m p
  have b0 := sval_nonneg n q
  have am : 0 < rung m p → 0 < sval false m p := fun h' => sval_pos m p (by
    rcases Nat.eq_zero_or_pos m with h0 | h0
    · subst h0
      rcases h with h | h
      · omega
      · unfold rung at h'; rw [h.2] at h'; simp at h'
    · exact h0)
  have bm : 0 < rung n q → 0 < sval false n q := fun h' => sval_pos n q (by
    rcases Nat.eq_zero_or_pos n with h0 | h0
    · subst h0
      rcases k with k | k
      · omega
      · unfold rung at h'; rw [k.2] at h'; simp at h'
    · exact h0)
  have az : rung m p = 0 → sval false m p = 0 := fun h' => by rw [rung_zero m p h', sval_zero]
  have bz : rung n q = 0 → sval false n q = 0 := fun h' => by rw [rung_zero n q h', sval_zero]
  have l1 := rung_lt_sval m n p q h k
  have l2 := rung_lt_sval n m q p k h
  have l3 := rung_eq_sval m n p q h k
  have hsv : ∀ (s : Bool) (m : Nat) (p : Int), sval s m p = if s then - sval false m p else sval false m p := by
    intro s m p; cases s
    · rfl
    · rw [sval_neg]; rfl
  rw [hsv s m p, hsv t n q]
  unfold rankI
  generalize sval false m p = A at *
  generalize sval false n q = B at *
  generalize rung m p = a at *
  generalize rung n q = b at *
  have key : ∀ x y X Y : Int, (X < Y ↔ x < y) → (X = Y ↔ x = y) → compare X Y = compare x y := by
    intro x y X Y h1 h2
    simp only [compare, compareOfLessAndEq]
    by_cases c1 : x < y
    · rw [if_pos c1, if_pos (h1.2 c1)]
    · rw [if_neg c1, if_neg (fun c => c1 (h1.1 c))]
      by_cases c2 : x = y
      · rw [if_pos c2, if_pos (h2.2 c2)]
      · rw [if_neg c2, if_neg (fun c => c2 (h2.1 c))]
  apply key
  · rcases Nat.lt_trichotomy a b with c | c | c
    · have := l1 c
      cases s <;> cases t <;> simp <;> omega
    · have := l3 c
      cases s <;> cases t <;> simp <;> omega
    · have := l2 c
      cases s <;> cases t <;> simp <;> omega
  · rcases Nat.lt_trichotomy a b with c | c | c
    · have := l1 c
      cases s <;> cases t <;> simp <;> omega
    · have := l3 c
      cases s <;> cases t <;> simp <;> omega
    · have := l2 c
      cases s <;> cases t <;> simp <;> omega
/-- A number's own form, off its bits. -/
theorem canon_parts (E M : Nat) (hM : M < 4503599627370496) (hE : E ≤ 2046) : ∃ m p, Canon m p ∧ rung m p = E * 4503599627370496 + M ∧ ((E = 0 ∧ m = M ∧ p = -1074) ∨ (1 ≤ E ∧ m = 4503599627370496 + M ∧ p = (E : Int) - 1 + -1074)) := by
  by_cases h : E = 0
  · exact ⟨M, -1074, .inr ⟨hM, rfl⟩, by unfold rung; subst h; simp, .inl ⟨h, rfl, rfl⟩⟩
  · refine ⟨4503599627370496 + M, (E : Int) - 1 + -1074, .inl ⟨by omega, by omega, by omega, by omega⟩, ?_, .inr ⟨by omega, rfl, rfl⟩⟩
    unfold rung
    rw [show ((E : Int) - 1 + -1074 + 1074).toNat = E - 1 by omega]
    omega
theorem order_rank (s t : Bool) (r q : Nat) (hr : r ≤ 9218868437227405312) (hq : q ≤ 9218868437227405312) : double.order (signBit s + r) (signBit t + q) = some (compare (rankI s r) (rankI t q)) := by
  have form : ∀ r : Nat, r < 9218868437227405312 → ∃ m p, Canon m p ∧ rung m p = r := by
    intro r h
    obtain ⟨m, p, h1, h2, _⟩ := canon_parts (r / 4503599627370496) (r % 4503599627370496) (by omega) (by omega)
    exact ⟨m, p, h1, by omega⟩
  by_cases c1 : r = 9218868437227405312
  · by_cases c2 : q = 9218868437227405312
    · subst c1 c2
      cases s <;> cases t <;> decide
    · obtain ⟨n, q', k, hk⟩ := form q (by omega)
      have e : signBit t + q = fw t n q' := by rw [fw_canon _ _ _ k, hk]
      subst c1
      rw [e, show signBit s + 9218868437227405312 = iw s from rfl, order_iw_fw s t n q' k]
      unfold rankI
      cases s <;> cases t <;> simp only [if_true, Bool.false_eq_true, if_false] <;> first | rw [cmp_lt _ _ (by omega)] | rw [cmp_gt _ _ (by omega)]
  · obtain ⟨m, p, h, hh⟩ := form r (by omega)
    have e1 : signBit s + r = fw s m p := by rw [fw_canon _ _ _ h, hh]
    by_cases c2 : q = 9218868437227405312
    · subst c2
      rw [e1, show signBit t + 9218868437227405312 = iw t from rfl, order_fw_iw t s m p h]
      unfold rankI
      cases s <;> cases t <;> simp only [if_true, Bool.false_eq_true, if_false] <;> first | rw [cmp_lt _ _ (by omega)] | rw [cmp_gt _ _ (by omega)]
    · obtain ⟨n, q', k, hk⟩ := form q (by omega)
      have e2 : signBit t + q = fw t n q' := by rw [fw_canon _ _ _ k, hk]
      rw [e1, e2, order_fw s t m n p q' h k, cmp_rung s t m n p q' h k, hh, hk]
end Go.Proofs.YtoedefjngipeiaaGreatDoor

/- Midst and l7sized of the specification. -/
namespace Go.Proofs.YtoedefjngipeiaaGreatDoor
open Go.ChangeShapes Go.WideShapes Go.RowKit
open Ieee (double)

theorem bits_size (r : Nat) (hr : r < 9218868437227405312) (w : World) :
    Calls Tryz.prog 25 #[.float .f64 r] w fun e w' => e = .returned (.int .i64 (r : Int)) ∧ w' = w := by
  refine (specBitsOf_any r (by omega) w).mono ?_
  rintro e w' ⟨v, hv, rfl, rfl⟩
  have hn : ¬ IsNan r := by
    have := not_nan false r (by omega)
    rw [show signBit false + r = r from Nat.zero_add r] at this
    exact this
  rcases hv with ⟨h, _⟩ | ⟨_, rfl⟩
  · exact absurd h hn
  · exact ⟨by rw [show wrap64 (r : Int) = (r : Int) by unfold wrap64; omega], rfl⟩
set_option maxHeartbeats 1000000 in
theorem midst_any (m : Nat) (p : Int) (hc : Canon m p) (w : World) :
    Calls Tryz.prog 10 #[.float .f64 (fw false m p)] w fun e w' => ∃ t, Pointed t (2 * m + 1) (p - 1) ∧ e = .returned (.string t) ∧ Below w.heap.size w w' := by
  have hr := rung_lt m p hc
  have hfw : fw false m p = rung m p := by rw [fw_canon _ _ _ hc]; exact Nat.zero_add _
  rw [hfw]
  have HB : Hid _ := fun w => bits_size (rung m p) hr w
  obtain ⟨E, M, hE, hM, hEM⟩ : ∃ E M : Nat, E ≤ 2046 ∧ M < 4503599627370496 ∧ rung m p = E * 4503599627370496 + M := ⟨rung m p / 4503599627370496, rung m p % 4503599627370496, by omega, by omega, by omega⟩
  obtain ⟨m', p', hc', hr', hpar⟩ := canon_parts E M hM hE
  have hfw' : fw false m' p' = fw false m p := by rw [fw_canon _ _ _ hc', fw_canon _ _ _ hc, hr', hEM]
  have hone := read_canon false m' p' hc'
  rw [hfw', read_canon false m p hc] at hone
  cases hone
  have hm2 : m < 9007199254740992 := by rcases hc with h | h <;> omega
  have hp1 : -1074 ≤ p := by rcases hc with h | h <;> omega
  have hp2 : p ≤ 971 := by rcases hc with h | h <;> omega
  have HF : Hid _ := fun w => l0from_any (2 * m + 1) (by omega) w
  have HP : Hid _ := fun v w h => l7pointed_any v (2 * m + 1) (p - 1) w h (by omega) (by omega) (by omega)
  have hsh : (rung m p : Int) / 4503599627370496 = (E : Int) := by omega
  have hand : bits .and .u64 (rung m p : Int) 4503599627370495 = (M : Int) := by
    rw [mask52 _ (by omega) (by omega)]; omega
  have hor := or_one M hM
  obtain ⟨R, hR⟩ : ∃ R : Int, R = (rung m p : Int) := ⟨_, rfl⟩
  have hR0 : 0 ≤ R := by omega
  have hR1 : R < 9223372036854775808 := by omega
  rw [← hR] at hsh hand HB
  clear hEM hr' hfw hfw' hr hR hc hc'
  generalize rung m p = r at *
  rcases hpar with ⟨rfl, rfl, rfl⟩ | ⟨h1, rfl, rfl⟩
  · have hMi : (m : Int) < 4503599627370496 := by omega
    have hM0 : 0 ≤ (m : Int) := by omega
    have HF2 : Hid (∀ w, Calls Tryz.prog 29 #[.int .u64 (2 * (m : Int) + 1)] w fun e w' => ∃ v', e = .returned v' ∧ Below w.heap.size w w' ∧ Big w' v' (2 * m + 1)) := fun w => HF.out w
    clear HF hm2 hM hE hp1 hp2 hor
    go_enter Tryz.func10, Tryz.ntmps10
    go_wp2_with fail
    refine (HB.out _).mono ?_
    rintro e w1 ⟨rfl, rfl⟩
    go_wp2_with fail
    refine (HF2.out _).mono ?_
    rintro e w2 ⟨v, rfl, hb, hv⟩
    have HB2 : Hid _ := fun (_ : Unit) => And.intro hb hv
    clear hb hv
    go_wp2_with fail
    refine (HP.out _ _ (HB2.out ()).2).mono ?_
    rintro e w3 ⟨t, rfl, ht, hb3⟩
    have H3 : Hid _ := fun (_ : Unit) => And.intro ht ((HB2.out ()).1.trans (hb3.mono (HB2.out ()).1.size))
    clear ht hb3
    go_wp2
    go_ret
    exact ⟨t, (H3.out ()).1, rfl, (H3.out ()).2⟩
  · obtain ⟨Q, hQ⟩ : ∃ Q : Int, Q = ((4503599627370496 + M : Nat) : Int) := ⟨_, rfl⟩
    have hQ0 : 0 ≤ Q := by omega
    have hQ1 : Q < 9007199254740992 := by omega
    have HF2 : Hid (∀ w, Calls Tryz.prog 29 #[.int .u64 (2 * Q + 1)] w fun e w' => ∃ v', e = .returned v' ∧ Below w.heap.size w w' ∧ Big w' v' (2 * (4503599627370496 + M) + 1)) := fun w => by
      have := HF.out w
      rw [show ((2 * (4503599627370496 + M) + 1 : Nat) : Int) = 2 * Q + 1 by omega] at this
      exact this
    have HP2 : Hid (∀ v w, Big w v (2 * (4503599627370496 + M) + 1) → Calls Tryz.prog 28 #[v, .int .i64 ((E : Int) - 1 - 1075)] w fun e' w' => ∃ t : ByteArray, e' = .returned (.string t) ∧ Pointed t (2 * (4503599627370496 + M) + 1) ((E : Int) - 1 + -1074 - 1) ∧ Below w.heap.size w w') := fun v w h => by
      have := HP.out v w h
      rw [show (E : Int) - 1 + -1074 - 1 = (E : Int) - 1 - 1075 by omega] at this ⊢
      exact this
    have e0 : decide (0 < (E : Int)) = true := decide_eq_true (by omega)
    have hE0 : 1 ≤ (E : Int) := by omega
    have hE1 : (E : Int) ≤ 2046 := by omega
    rw [← hQ] at hor
    clear HF HP hm2 hM hE hp1 hp2 hQ h1
    go_enter Tryz.func10, Tryz.ntmps10
    go_wp2_with fail
    refine (HB.out _).mono ?_
    rintro e w1 ⟨rfl, rfl⟩
    go_wp2_with fail
    refine (HF2.out _).mono ?_
    rintro e w2 ⟨v, rfl, hb, hv⟩
    have HB2 : Hid _ := fun (_ : Unit) => And.intro hb hv
    clear hb hv
    go_wp2_with fail
    refine (HP2.out _ _ (HB2.out ()).2).mono ?_
    rintro e w3 ⟨t, rfl, ht, hb3⟩
    have H3 : Hid _ := fun (_ : Unit) => And.intro ht ((HB2.out ()).1.trans (hb3.mono (HB2.out ()).1.size))
    clear ht hb3
    go_wp2
    go_ret
    exact ⟨t, (H3.out ()).1, rfl, (H3.out ()).2⟩

theorem word_half : (4609434218613702656 : Nat) < 9218868437227405312 := by omega
set_option maxHeartbeats 1000000 in
theorem l7sized_ds (B : Nat) (w0 w : World) (a : Option Addr) (len cap : Nat) (m : Int) (h : DS B w0 w a len cap m) (hm : m ≤ 600000000) :
    Calls Tryz.prog 17 #[.pointer (some ⟨B, 0, none⟩)] w fun e w' => ∃ r : Nat, r < 9218868437227405312 ∧ e = .returned (.float .f64 r) ∧ DS B w0 w' a len cap (m + 50) := by
  have HF : Hid _ := fun (_ : Unit) => flt_ds B w0 w a len cap m h hm
  clear h
  go_enter Tryz.func17, Tryz.ntmps17
  go_wp2_with fail
  refine (HF.out ()).mono ?_
  rintro e w1 ⟨x, hx, rfl, hd⟩
  have HD : Hid _ := fun (_ : Unit) => hd
  clear hd HF
  obtain ⟨s, E, M, hE, hM, hU⟩ := word_parts x hx
  by_cases hn : E = 2047 ∧ M ≠ 0
  · have hnan : IsNan x := by obtain ⟨rfl, _⟩ := hn; rw [hU]; exact nan_word s _ (by omega) (by omega)
    have h1 : (FloatKind.f64.format.order x x != some .eq) = true := nan_neq x hnan
    have h2 : FloatKind.f64.format.order x 0 = none := by obtain ⟨c, d, hcd⟩ := hnan; exact (order_nan x 0 c d hcd).1
    clear hn hnan hU hM hE hx
    go_wp2
    go_ret
    exact ⟨_, word_half, rfl, HD.out ()⟩
  · have hr : E * 4503599627370496 + M ≤ 9218868437227405312 := by omega
    generalize hR : E * 4503599627370496 + M = r at *
    have hord : ∀ (t : Bool) (y : Nat), y ≤ 9218868437227405312 → double.order (signBit s + r) (signBit t + y) = some (compare (rankI s r) (rankI t y)) := fun t y hy => order_rank s t r y hr hy
    have hordp : ∀ (y : Nat), y ≤ 9218868437227405312 → double.order r y = some (compare (r : Int) (y : Int)) := fun y hy => by
      have := order_rank false false r y hr hy
      rw [show signBit false + r = r from Nat.zero_add r, show signBit false + y = y from Nat.zero_add y] at this
      exact this
    by_cases h0 : r = 0
    · subst h0
      have h1 : FloatKind.f64.format.order x x = some .eq := by rw [hU]; exact (hord s 0 (by omega)).trans (by rw [cmp_eq _ _ rfl])
      have h2 : FloatKind.f64.format.order x 0 = some .eq := by
        rw [hU]
        have := hord false 0 (by omega)
        rw [show signBit false + 0 = 0 from rfl] at this
        refine this.trans ?_
        unfold rankI
        rw [cmp_eq]; cases s <;> rfl
      have h3 : (FloatKind.f64.format.order x 9218868437227405311 == some .gt) = false := by
        have := hord false 9218868437227405311 (by omega)
        rw [show signBit false + 9218868437227405311 = 9218868437227405311 from rfl, ← hU] at this
        show (double.order x _ == _) = false
        rw [this, cmp_lt _ _ (by unfold rankI; cases s <;> simp)]
        rfl
      clear hU hM hE hx hord hordp hR hn hr
      go_wp2
      go_ret
      exact ⟨0, by omega, rfl, HD.out ()⟩
    · have hz : ∀ b : Bool, FloatKind.f64.format.order (signBit b + r) 0 = some (if b then .lt else .gt) := fun b => by
        have := order_rank b false r 0 hr (by omega)
        rw [show signBit false + 0 = 0 from rfl] at this
        show double.order _ _ = _
        rw [this]
        unfold rankI
        cases b
        · rw [if_neg (by decide), if_neg (by decide), cmp_gt _ _ (by omega)]; rfl
        · rw [if_pos rfl, if_neg (by decide), cmp_lt _ _ (by omega)]; rfl
      have e0 := hz false
      rw [show signBit false + r = r from Nat.zero_add r] at e0
      have p1 : FloatKind.f64.format.order r r = some .eq := (hordp r hr).trans (by rw [cmp_eq _ _ rfl])
      have hx0 := hz s
      rw [← hU] at hx0
      have hneg : Op.negFloat .f64 x = signBit (!s) + r := by rw [hU]; exact neg_word s r (by omega)
      have hrn := fun w => run_neg x w
      rw [hneg] at hrn
      by_cases hinf : r = 9218868437227405312
      · have h3 : FloatKind.f64.format.order r 9218868437227405311 = some .gt := (hordp _ (by omega)).trans (by rw [cmp_gt _ _ (by omega)])
        cases s
        · have hxr : x = r := by rw [hU]; exact Nat.zero_add r
          subst hxr
          clear hU hM hE hx hord hordp hR hn hr hz hneg hinf hrn hx0
          have e0' : FloatKind.f64.format.order x 0 = some .gt := e0
          clear e0
          go_wp2
          go_ret
          exact ⟨_, word_half, rfl, HD.out ()⟩
        · rw [show signBit (!true) + r = r from Nat.zero_add r] at hrn
          have hx0' : FloatKind.f64.format.order x 0 = some .lt := hx0
          have e0' : FloatKind.f64.format.order r 0 = some .gt := e0
          clear hU hM hE hx hord hordp hR hn hr hz hneg hinf hx0 e0
          go_wp2
          go_ret
          exact ⟨_, word_half, rfl, HD.out ()⟩
      · have h3 : (FloatKind.f64.format.order r 9218868437227405311 == some .gt) = false := by
          show (double.order r _ == _) = false
          rw [hordp _ (by omega)]
          by_cases h : r = 9218868437227405311
          · rw [cmp_eq _ _ (by omega)]; rfl
          · rw [cmp_lt _ _ (by omega)]; rfl
        have HRL : Hid (r < 9218868437227405312) := by show _ < _; omega
        cases s
        · have hxr : x = r := by rw [hU]; exact Nat.zero_add r
          subst hxr
          have e0' : FloatKind.f64.format.order x 0 = some .gt := e0
          clear hU hM hE hx hord hordp hR hn hr hz hneg hinf hrn hx0 e0
          go_wp2
          go_ret
          exact ⟨x, HRL.out, rfl, HD.out ()⟩
        · rw [show signBit (!true) + r = r from Nat.zero_add r] at hrn
          have hx0' : FloatKind.f64.format.order x 0 = some .lt := hx0
          have e0' : FloatKind.f64.format.order r 0 = some .gt := e0
          clear hU hM hE hx hord hordp hR hn hr hz hneg hinf hx0 e0
          go_wp2
          go_ret
          exact ⟨r, HRL.out, rfl, HD.out ()⟩
end Go.Proofs.YtoedefjngipeiaaGreatDoor

/- Digits with 1 more in the last place: plain. -/
namespace Go.Proofs.YtoedefjngipeiaaGreatDoor
open Go.RowKit

/-- What l5up answers. -/
def UpD (ds t : ByteArray) (more : Bool) : Prop := good 10 t.data.toList ∧ valN 10 t.data.toList = valN 10 ds.data.toList + 1 ∧ t.size = ds.size + (if more then 1 else 0) ∧ (more = true → valN 10 ds.data.toList + 1 = 10 ^ ds.size)
theorem valN_nines (k : Nat) : valN 10 (List.replicate k (57 : UInt8)) + 1 = 10 ^ k := by
  induction k with
  | zero => rw [List.replicate_zero, valN_nil]
  | succ k ih =>
    rw [List.replicate_succ', valN_append, Nat.pow_succ]
    have : valN 10 [(57 : UInt8)] = 9 := by decide
    rw [this]
    show valN 10 (List.replicate k 57) * 10 ^ 1 + 9 + 1 = 10 ^ k * 10
    omega
/-- Behind the place i all digits are nines. -/
def Nines (l : List UInt8) (i : Nat) : Prop := ∃ k, l = l.take i ++ List.replicate k 57
theorem nines_start (l : List UInt8) : Nines l l.length := ⟨0, by simp⟩
theorem nines_step (l : List UInt8) (i : Nat) (hi : i < l.length) (h : Nines l (i + 1)) (hc : l[i].toNat = 57) : Nines l i := by
  obtain ⟨k, hk⟩ := h
  refine ⟨k + 1, ?_⟩
  have e : l[i] = 57 := UInt8.toNat_inj.1 hc
  rw [List.take_succ_eq_append_getElem hi, e] at hk
  rw [List.replicate_succ]
  conv => lhs; rw [hk]
  simp
theorem up_found (l : List UInt8) (i : Nat) (hi : i < l.length) (hg : good 10 l) (h : Nines l (i + 1)) (hc : l[i].toNat ≠ 57) (c : UInt8) (hcc : c.toNat = l[i].toNat + 1) :
    good 10 (l.take i ++ [c] ++ List.replicate (l.length - (i + 1)) 48) ∧ valN 10 (l.take i ++ [c] ++ List.replicate (l.length - (i + 1)) 48) = valN 10 l + 1 := by
  obtain ⟨k, hk⟩ := h
  have hkl : k = l.length - (i + 1) := by
    have := congrArg List.length hk
    rw [List.length_append, List.length_take, List.length_replicate] at this
    omega
  rw [← hkl]
  obtain ⟨d1, d2, d3⟩ := good_digit l[i] (hg _ (List.getElem_mem hi))
  have hcg : digN 99 (c.toNat : Int) = (c.toNat : Int) - 48 := by unfold digN; rw [if_pos (by omega)]
  refine ⟨?_, ?_⟩
  · refine good_append _ _ (good_append _ _ (fun x hx => hg x (List.mem_of_mem_take hx)) ?_) (good_zeros k)
    intro x hx
    rw [List.mem_singleton.1 hx, hcg]; omega
  · have hv : valN 10 l = (valN 10 (l.take i) * 10 + (l[i].toNat - 48)) * 10 ^ k + (10 ^ k - 1) := by
      conv => lhs; rw [hk]
      rw [valN_append, List.length_replicate, List.take_succ_eq_append_getElem hi, valN_append]
      have h1 := valN_nines k
      have h2 : valN 10 [l[i]] = l[i].toNat - 48 := by
        rw [valN_cons, valN_nil, d3]
        simp
        omega
      rw [h2]
      show (valN 10 (l.take i) * 10 ^ 1 + (l[i].toNat - 48)) * 10 ^ k + _ = _
      rw [Nat.pow_one]
      omega
    have h3 : valN 10 [c] = c.toNat - 48 := by
      rw [valN_cons, valN_nil, hcg]
      simp
      omega
    rw [valN_append, valN_append, valN_zeros, List.length_replicate, h3, hv, hcc]
    have hp : 0 < 10 ^ k := Nat.pow_pos (by omega)
    show (valN 10 (l.take i) * 10 ^ 1 + (l[i].toNat + 1 - 48)) * 10 ^ k + 0 = _
    rw [show l[i].toNat + 1 - 48 = (l[i].toNat - 48) + 1 by omega, Nat.pow_one, ← Nat.add_assoc, Nat.add_mul _ 1, Nat.one_mul]
    omega
theorem nines_all (l : List UInt8) (h : Nines l 0) : valN 10 l + 1 = 10 ^ l.length := by
  obtain ⟨k, hk⟩ := h
  rw [List.take_zero, List.nil_append] at hk
  have hkl : l.length = k := by rw [hk, List.length_replicate]
  rw [hkl, hk, valN_nines]
theorem bytes_ext (s t : ByteArray) (h : s.data.toList = t.data.toList) : s = t := by
  have h' : s.data = t.data := by rw [← Array.toArray_toList (xs := s.data), h, Array.toArray_toList]
  cases s; cases t; cases h'; rfl
theorem upD_one (ds t t' : ByteArray) (m m' : Bool) (h : UpD ds t m) (h' : UpD ds t' m') : t = t' ∧ m = m' := by
  obtain ⟨a1, a2, a3, a4⟩ := h
  obtain ⟨b1, b2, b3, b4⟩ := h'
  have l1 := valN_good_lt 10 t.data.toList a1
  have l2 := valN_good_lt 10 t'.data.toList b1
  rw [data_len] at l1 l2
  have hm : m = m' := by
    cases m <;> cases m'
    · rfl
    · have := b4 rfl
      rw [if_neg (by decide), Nat.add_zero] at a3
      rw [a3] at l1
      omega
    · have := a4 rfl
      rw [if_neg (by decide), Nat.add_zero] at b3
      rw [b3] at l2
      omega
    · rfl
  subst hm
  exact ⟨bytes_ext _ _ (digits_one _ _ a1 b1 (by rw [data_len, data_len, a3, b3]) (a2.trans b2.symm)), rfl⟩
theorem up_none (l : List UInt8) (h : Nines l 0) : good 10 ((49 : UInt8) :: List.replicate l.length 48) ∧ valN 10 ((49 : UInt8) :: List.replicate l.length 48) = valN 10 l + 1 := by
  obtain ⟨k, hk⟩ := h
  rw [List.take_zero, List.nil_append] at hk
  have hkl : l.length = k := by rw [hk, List.length_replicate]
  refine ⟨?_, ?_⟩
  · intro x hx
    rcases List.mem_cons.1 hx with rfl | hx
    · decide
    · exact good_zeros _ x hx
  · rw [valN_cons, valN_zeros, List.length_replicate, hkl, hk, valN_nines]
    have : (digN 99 (((49 : UInt8).toNat : Nat) : Int)).toNat = 1 := by decide
    rw [this]; omega
end Go.Proofs.YtoedefjngipeiaaGreatDoor

/- l5up of the specification. -/
namespace Go.Proofs.YtoedefjngipeiaaGreatDoor
open Go.ChangeShapes Go.WideShapes Go.RowKit

/-- The bytes of a text, laid anew. -/
theorem bytes_new (w : World) (s : ByteArray) : ∃ cap W, (convert 9 22 (.string s)).run Tryz.prog w = .ok (.slice (some ⟨w.heap.size, 0, none⟩) s.size cap) W ∧ Below w.heap.size w W ∧ w.heap.size < W.heap.size
    ∧ (∀ j (h : j < s.size), W.cell? ⟨w.heap.size, j, none⟩ = some (.int .u8 (s[j].toNat : Int))) ∧ (∀ j, j < s.size → W.frozen? ⟨w.heap.size, j, none⟩ = false) := by
  refine ⟨_, _, run_bytes_of_string (P := Tryz.prog) w 9 22 5 s Tryz.underlying9 Tryz.underlying22 Tryz.underlying5, ((Below.refl _ _).drew).alloc (Nat.le_refl _) _, by simp, ?_, ?_⟩
  · intro j h
    have hb : (w.drew.alloc (.cells (bytesRow s (grownCap w s.size 0 5)) 5 ((bytesRow s (grownCap w s.size 0 5)).size, (bytesRow s (grownCap w s.size 0 5)).size + 1))).heap[w.heap.size]? = some (.cells (bytesRow s (grownCap w s.size 0 5)) 5 ((bytesRow s (grownCap w s.size 0 5)).size, (bytesRow s (grownCap w s.size 0 5)).size + 1)) := by
      show (w.heap.push _)[w.heap.size]? = _
      simp
    have hc : (bytesRow s (grownCap w s.size 0 5))[j]? = some (.int .u8 (s[j].toNat : Int)) := by
      unfold bytesRow
      have hl : j < (s.data.map fun b => Value.int .u8 (b.toNat : Int)).size := by simpa using h
      rw [Array.getElem?_append_left hl, Array.getElem?_eq_getElem hl]
      simp [ByteArray.getElem_eq_getElem_data]
    simp only [World.cell?, hb]
    simpa using hc
  · intro j h
    have hb : (w.drew.alloc (.cells (bytesRow s (grownCap w s.size 0 5)) 5 ((bytesRow s (grownCap w s.size 0 5)).size, (bytesRow s (grownCap w s.size 0 5)).size + 1))).heap[w.heap.size]? = some (.cells (bytesRow s (grownCap w s.size 0 5)) 5 ((bytesRow s (grownCap w s.size 0 5)).size, (bytesRow s (grownCap w s.size 0 5)).size + 1)) := by
      show (w.heap.push _)[w.heap.size]? = _
      simp
    have hsz : j < (bytesRow s (grownCap w s.size 0 5)).size := by
      unfold bytesRow
      simp
      have : s.data.size = s.size := rfl
      omega
    simp only [World.frozen?, hb]
    simp
    omega
/-- The bytes while nines are turned to zeros: those ahead of k as they were, those behind it zeros. -/
def UpSt (s : ByteArray) (B k : Nat) (W wr : World) : Prop := Only B W wr ∧ (∀ j (h : j < s.size), j < k → wr.cell? ⟨B, j, none⟩ = some (.int .u8 (s[j].toNat : Int))) ∧ (∀ j, j < s.size → k ≤ j → wr.cell? ⟨B, j, none⟩ = some (.int .u8 48)) ∧ (∀ j, j < s.size → wr.frozen? ⟨B, j, none⟩ = false)
theorem set_cell_at {w : World} {B k : Nat} {v u : Value} (h : w.cell? ⟨B, k, none⟩ = some u) (j : Nat) : (w.setCell ⟨B, k, none⟩ v).cell? ⟨B, j, none⟩ = if j = k then some v else w.cell? ⟨B, j, none⟩ := by
  by_cases hj : j = k
  · subst hj; rw [if_pos rfl]; simp [go_sem, h]
  · rw [if_neg hj]; simp [go_sem]
theorem set_frozen_at {w : World} {B k : Nat} {v : Value} (j : Nat) : (w.setCell ⟨B, k, none⟩ v).frozen? ⟨B, j, none⟩ = w.frozen? ⟨B, j, none⟩ := by simp [go_sem]
theorem UpSt.zero {s : ByteArray} {B k : Nat} {W wr : World} (h : UpSt s B (k + 1) W wr) (hk : k < s.size) : UpSt s B k W (wr.setCell ⟨B, k, none⟩ (.int .u8 48)) := by
  obtain ⟨h1, h2, h3, h4⟩ := h
  have hc := h2 k hk (by omega)
  refine ⟨h1.setCell _ _, fun j hj hjk => ?_, fun j hj hjk => ?_, fun j hj => ?_⟩
  · rw [set_cell_at hc, if_neg (by omega)]; exact h2 j hj (by omega)
  · rw [set_cell_at hc]
    split
    · rfl
    · exact h3 j hj (by omega)
  · rw [set_frozen_at]; exact h4 j hj
theorem UpSt.text {s : ByteArray} {B k : Nat} {W wr : World} (h : UpSt s B (k + 1) W wr) (hk : k < s.size) (c : UInt8) (cap : Nat) :
    (convert 22 9 (.slice (some ⟨B, 0, none⟩) s.size cap)).run Tryz.prog (wr.setCell ⟨B, k, none⟩ (.int .u8 (c.toNat : Int))) = .ok (.string ⟨(s.data.toList.take k ++ [c] ++ List.replicate (s.data.toList.length - (k + 1)) 48).toArray⟩) (wr.setCell ⟨B, k, none⟩ (.int .u8 (c.toNat : Int))) := by
  obtain ⟨h1, h2, h3, h4⟩ := h
  have hl : (s.data.toList.take k ++ [c] ++ List.replicate (s.data.toList.length - (k + 1)) 48).length = s.size := by
    rw [List.length_append, List.length_append, List.length_take, List.length_replicate, data_len, List.length_singleton]; omega
  have := run_convert_bytes_back (P := Tryz.prog) (wr.setCell ⟨B, k, none⟩ (.int .u8 (c.toNat : Int))) 22 9 5 ⟨B, 0, none⟩ cap (s.data.toList.take k ++ [c] ++ List.replicate (s.data.toList.length - (k + 1)) 48) Tryz.underlying22 Tryz.underlying5 Tryz.underlying9 (fun j hj => by
    rw [show (⟨B, 0, none⟩ : Addr).add j = ⟨B, j, none⟩ by (simp [Addr.add]; try omega), set_cell_at (h2 k hk (by omega))]
    have hjs : j < s.size := by omega
    by_cases e1 : j = k
    · rw [if_pos e1]
      subst e1
      have : (s.data.toList.take j ++ [c] ++ List.replicate (s.data.toList.length - (j + 1)) 48)[j] = c := by
        rw [List.getElem_append_left (by rw [List.length_append, List.length_take, data_len, List.length_singleton]; omega), List.getElem_append_right (by rw [List.length_take, data_len]; omega)]
        simp
      rw [this]
    · rw [if_neg e1]
      by_cases e2 : j < k
      · rw [h2 j hjs (by omega)]
        have : (s.data.toList.take k ++ [c] ++ List.replicate (s.data.toList.length - (k + 1)) 48)[j] = s[j] := by
          rw [List.getElem_append_left (by rw [List.length_append, List.length_take, data_len]; omega), List.getElem_append_left (by rw [List.length_take, data_len]; omega), List.getElem_take]
          rfl
        rw [this]
      · rw [h3 j hjs (by omega)]
        have : (s.data.toList.take k ++ [c] ++ List.replicate (s.data.toList.length - (k + 1)) 48)[j] = 48 := by
          rw [List.getElem_append_right (by rw [List.length_append, List.length_take, data_len, List.length_singleton]; omega), List.getElem_replicate]
        rw [this]; rfl)
  rw [hl] at this
  exact this
theorem UpSt.zeros {s : ByteArray} {B : Nat} {W wr : World} (h : UpSt s B 0 W wr) (cap : Nat) :
    (convert 22 9 (.slice (some ⟨B, 0, none⟩) s.size cap)).run Tryz.prog wr = .ok (.string ⟨(List.replicate s.size 48).toArray⟩) wr := by
  obtain ⟨h1, h2, h3, h4⟩ := h
  have := run_convert_bytes_back (P := Tryz.prog) wr 22 9 5 ⟨B, 0, none⟩ cap (List.replicate s.size 48) Tryz.underlying22 Tryz.underlying5 Tryz.underlying9 (fun j hj => by
    rw [show (⟨B, 0, none⟩ : Addr).add j = ⟨B, j, none⟩ by (simp [Addr.add]; try omega), h3 j (by simpa using hj) (by omega), List.getElem_replicate]
    rfl)
  rw [List.length_replicate] at this
  exact this
end Go.Proofs.YtoedefjngipeiaaGreatDoor

