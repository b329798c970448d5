import Derived.Test.YtoedefjngipeiaaGreatDoorA30
import Derived.Test.YtoedefjngipeiaaGreatDoorA43
import Derived.Test.YtoedefjngipeiaaGreatDoorA29
import Derived.Test.YtoedefjngipeiaaGreatDoorA40
import Derived.Test.YtoedefjngipeiaaGreatDoorA22
/- A size at its place, as the program lays it. -/
namespace Go.Proofs.YtoedefjngipeiaaGreatDoor
open Go.ChangeShapes Go.WideShapes Go.RowKit
open Ieee (double)

set_option maxHeartbeats 400000 in
theorem place_any (s : Bool) (k : Nat) (L : Int) (hk : k ≤ 9007199254740992) (h1 : -1074 ≤ L) (h2 : L ≤ 971) (w : World) :
    Calls Tryz.prog 116 #[.bool s, .int .u64 (k : Int), .int .i64 L] w fun e w' => e = .returned (.float .f64 (signBit s + ((L + 1074).toNat * 4503599627370496 + k))) ∧ w' = w := by
  obtain ⟨a, ha⟩ : ∃ a : Nat, L = (a : Int) - 1074 := ⟨(L + 1074).toNat, by omega⟩
  subst ha
  rw [show ((a : Int) - 1074 + 1074).toNat = a by omega]
  obtain ⟨A, hA⟩ : ∃ A : Int, A = (a : Int) := ⟨_, rfl⟩
  obtain ⟨K, hK⟩ : ∃ K : Int, K = (k : Int) := ⟨_, rfl⟩
  rw [← hA, ← hK]
  have eV : (A * 4503599627370496 + K).toNat = a * 4503599627370496 + k := by omega
  have HO : Hid (bits .or .u64 (A * 4503599627370496 + K) 9223372036854775808 = 9223372036854775808 + (A * 4503599627370496 + K)) := by
    show _ = _
    have h := or_top (a * 4503599627370496 + k) (by omega)
    rw [show ((a * 4503599627370496 + k : Nat) : Int) = A * 4503599627370496 + K by omega] at h
    rw [h]; omega
  have a0 : 0 ≤ A := by omega
  have a1 : A ≤ 2045 := by omega
  have k0 : 0 ≤ K := by omega
  have k1 : K ≤ 9007199254740992 := by omega
  cases s
  · have hc := call_frombits (A * 4503599627370496 + K)
    rw [eV] at hc
    clear hA hK eV HO hk h1 h2
    go_enter Tryz.func116, Tryz.ntmps116
    go_wp2
    go_ret
    exact ⟨by show Ending.returned (.float .f64 (a * 4503599627370496 + k)) = Ending.returned (.float .f64 (0 + (a * 4503599627370496 + k))); rw [Nat.zero_add], rfl⟩
  · have hc := call_frombits (9223372036854775808 + (A * 4503599627370496 + K))
    rw [show (9223372036854775808 + (A * 4503599627370496 + K)).toNat = 9223372036854775808 + (a * 4503599627370496 + k) by omega] at hc
    have ho := HO.out
    clear hA hK eV HO hk h1 h2
    go_enter Tryz.func116, Tryz.ntmps116
    go_wp2
    go_ret
    exact ⟨rfl, rfl⟩
end Go.Proofs.YtoedefjngipeiaaGreatDoor

/- Near of the program. -/
namespace Go.Proofs.YtoedefjngipeiaaGreatDoor
open Go.ChangeShapes Go.WideShapes Go.RowKit
open Ieee (double)

theorem bitLen_pos (m : Nat) (h : 0 < m) : bitLen m = m.log2 + 1 := by unfold bitLen; rw [if_neg (by omega)]
theorem float_zero (s : Bool) (w : World) :
    Calls Tryz.prog 21 #[.agg #[.bool s, .int .u64 0, .int .u64 0]] w fun e w' => e = .returned (.float .f64 (signBit s)) ∧ Below w.heap.size w w' := by
  refine (float_any s 0 0 (by omega) (by omega) w).mono ?_
  rintro e w' ⟨rfl, rfl⟩
  exact ⟨rfl, ((Below.refl _ w).alloc (by simp) _).alloc (by simp) _⟩
theorem float_inf (s : Bool) (w : World) :
    Calls Tryz.prog 21 #[.agg #[.bool s, .int .u64 2047, .int .u64 0]] w fun e w' => e = .returned (.float .f64 (iw s)) ∧ Below w.heap.size w w' := by
  refine (float_any s 2047 0 (by omega) (by omega) w).mono ?_
  rintro e w' ⟨rfl, rfl⟩
  exact ⟨rfl, ((Below.refl _ w).alloc (by simp) _).alloc (by simp) _⟩

set_option maxHeartbeats 400000 in
theorem near_nil (s : Bool) (n e x : Int) (hu : IntKind.u64.wrap n = x) (h : x = 0 ∨ e < -1138) (w : World) :
    Calls Tryz.prog 109 #[.bool s, .int .i64 n, .int .i64 e] w fun r w' => r = .returned (.float .f64 (signBit s)) ∧ Below w.heap.size w w' := by
  have HF : Hid _ := fun w => float_zero s w
  by_cases h0 : x = 0
  · subst h0
    clear h
    go_enter Tryz.func109, Tryz.ntmps109
    go_wp2_with (go_at_call 21; refine (HF.out _).mono ?_; rintro e w' ⟨rfl, hb⟩)
    go_ret
    exact ⟨rfl, hb⟩
  · have b0 : (x == 0) = false := beq_eq_false_iff_ne.2 h0
    have h1 : e < -1138 := by omega
    clear h h0
    go_enter Tryz.func109, Tryz.ntmps109
    go_wp2_with (go_at_call 21; refine (HF.out _).mono ?_; rintro e w' ⟨rfl, hb⟩)
    go_ret
    exact ⟨rfl, hb⟩
set_option maxHeartbeats 400000 in
theorem near_high (s : Bool) (n e x : Int) (hu : IntKind.u64.wrap n = x) (h0 : x ≠ 0) (h : 1023 < e) (w : World) :
    Calls Tryz.prog 109 #[.bool s, .int .i64 n, .int .i64 e] w fun r w' => r = .returned (.float .f64 (iw s)) ∧ Below w.heap.size w w' := by
  have HF : Hid _ := fun w => float_inf s w
  have b0 : (x == 0) = false := beq_eq_false_iff_ne.2 h0
  clear h0
  go_enter Tryz.func109, Tryz.ntmps109
  go_wp2_with (first | (go_at_call 19; refine (infinity_any _ _).mono ?_; rintro e w' ⟨rfl, rfl⟩) | (go_at_call 21; refine (HF.out _).mono ?_; rintro e w' ⟨rfl, hb⟩))
  go_ret
  exact ⟨rfl, Below.trans ((Below.refl _ w).alloc (by simp) _) (hb.mono (by simp))⟩
set_option maxHeartbeats 400000 in
theorem near_over (s : Bool) (n e x Ln : Int) (hu : IntKind.u64.wrap n = x) (h0 : x ≠ 0) (h : e ≤ 1023) (h' : -1138 ≤ e) (hl : 1 ≤ Ln) (hl' : Ln ≤ 64) (ho : 971 < e + Ln - 53)
    (hL : ∀ w, Calls Tryz.prog 115 #[.int .u64 x] w fun e w' => e = .returned (.int .i64 Ln) ∧ w' = w) (w : World) :
    Calls Tryz.prog 109 #[.bool s, .int .i64 n, .int .i64 e] w fun r w' => r = .returned (.float .f64 (iw s)) ∧ Below w.heap.size w w' := by
  have HL : Hid _ := hL
  have HF : Hid _ := fun w => float_inf s w
  have b0 : (x == 0) = false := beq_eq_false_iff_ne.2 h0
  clear h0 hL
  go_enter Tryz.func109, Tryz.ntmps109
  go_wp2_with (first | (go_at_call 115; refine (HL.out _).mono ?_; rintro e w' ⟨rfl, rfl⟩) | (go_at_call 19; refine (infinity_any _ _).mono ?_; rintro e w' ⟨rfl, rfl⟩) | (go_at_call 21; refine (HF.out _).mono ?_; rintro e w' ⟨rfl, hb⟩))
  go_ret
  exact ⟨rfl, Below.trans ((Below.refl _ _).alloc (by simp) _) (hb.mono (by simp))⟩
set_option maxHeartbeats 400000 in
theorem near_fits (s : Bool) (n e x Ln L : Int) (R : Nat) (hu : IntKind.u64.wrap n = x) (h0 : x ≠ 0) (h : e ≤ 1023) (h' : -1138 ≤ e) (hl : 1 ≤ Ln) (hl' : Ln ≤ 64) (hm : (-1074 ≤ e + Ln - 53 ∧ L = e + Ln - 53) ∨ (e + Ln - 53 < -1074 ∧ L = -1074)) (ho : L ≤ 971)
    (hL : ∀ w, Calls Tryz.prog 115 #[.int .u64 x] w fun e w' => e = .returned (.int .i64 Ln) ∧ w' = w)
    (hR : ∀ w, Calls Tryz.prog 117 #[.int .u64 x, .int .i64 (L - e)] w fun e w' => e = .returned (.int .u64 (R : Int)) ∧ w' = w) (hR' : R ≤ 9007199254740992) (w : World) :
    Calls Tryz.prog 109 #[.bool s, .int .i64 n, .int .i64 e] w fun r w' => r = .returned (.float .f64 (signBit s + ((L + 1074).toNat * 4503599627370496 + R))) ∧ Below w.heap.size w w' := by
  have HL : Hid _ := hL
  have b0 : (x == 0) = false := beq_eq_false_iff_ne.2 h0
  have HP : Hid _ := fun w => place_any s R L hR' (by omega) ho w
  clear h0 hL hR'
  rcases hm with ⟨m1, rfl⟩ | ⟨m1, rfl⟩
  · have HR : Hid _ := hR
    clear hR
    go_enter Tryz.func109, Tryz.ntmps109
    go_wp2_with (first | (go_at_call 115; refine (HL.out _).mono ?_; rintro e w' ⟨rfl, rfl⟩) | (go_at_call 117; refine (HR.out _).mono ?_; rintro e w' ⟨rfl, rfl⟩) | (go_at_call 116; refine (HP.out _).mono ?_; rintro e w' ⟨rfl, rfl⟩))
    go_ret
    exact ⟨rfl, Below.refl _ _⟩
  · have HR : Hid _ := hR
    clear hR
    go_enter Tryz.func109, Tryz.ntmps109
    go_wp2_with (first | (go_at_call 115; refine (HL.out _).mono ?_; rintro e w' ⟨rfl, rfl⟩) | (go_at_call 117; refine (HR.out _).mono ?_; rintro e w' ⟨rfl, rfl⟩) | (go_at_call 116; refine (HP.out _).mono ?_; rintro e w' ⟨rfl, rfl⟩))
    go_ret
    exact ⟨by rw [show ((-1074 : Int) + 1074).toNat = 0 from rfl, Nat.zero_mul, Nat.zero_add]; rfl, Below.refl _ _⟩
/-- At every argument. -/
theorem implNear_any (s : Bool) (n e : Int) (w : World) :
    Calls Tryz.prog 109 #[.bool s, .int .i64 n, .int .i64 e] w fun r w' => r = .returned (.float .f64 (fw s (u64n n) e)) ∧ Below w.heap.size w w' := by
  have hu := u64n_cast n
  have hlt := u64n_lt n
  generalize u64n n = U at *
  by_cases h0 : U = 0
  · subst h0
    rw [fw_zero]
    exact near_nil s n e _ hu (.inl rfl) w
  · by_cases h1 : e < -1138
    · rw [fw_tiny s U e hlt (by omega)]
      exact near_nil s n e _ hu (.inr h1) w
    · have hl63 := log_63 U (by omega) hlt
      by_cases h2 : 1023 < e
      · rw [fw_over s U e _ (by omega) rfl (by omega)]
        exact near_high s n e _ hu (by omega) h2 w
      · have hLen : ∀ w, Calls Tryz.prog 115 #[.int .u64 (U : Int)] w fun e w' => e = .returned (.int .i64 ((U.log2 : Int) + 1)) ∧ w' = w := fun w => by
          refine (len64_any (U : Int) (by omega) (by omega) w).mono ?_
          rintro e w' ⟨rfl, rfl⟩
          rw [Int.toNat_natCast, bitLen_pos U (by omega)]
          exact ⟨rfl, rfl⟩
        by_cases h3 : 971 < max (e + (U.log2 : Int) - 52) (-1074)
        · rw [fw_over s U e _ (by omega) rfl h3]
          exact near_over s n e U ((U.log2 : Int) + 1) hu (by omega) (by omega) (by omega) (by omega) (by omega) (by omega) hLen w
        · rw [fw_fits s U e _ (by omega) rfl (by omega)]
          have hle := roundN_le U e
          have hR : ∀ w, Calls Tryz.prog 117 #[.int .u64 (U : Int), .int .i64 (max (e + (U.log2 : Int) - 52) (-1074) - e)] w fun e' w' => e' = .returned (.int .u64 (roundN U (max (e + (U.log2 : Int) - 52) (-1074) - e) : Int)) ∧ w' = w := fun w => by
            have h := roundBits_any (U : Int) (max (e + (U.log2 : Int) - 52) (-1074) - e) (by omega) (by omega) (by omega) (by omega) (by rw [Int.toNat_natCast]; exact hle) w
            rw [Int.toNat_natCast] at h
            exact h
          generalize roundN U (max (e + (U.log2 : Int) - 52) (-1074) - e) = R at *
          exact near_fits s n e U ((U.log2 : Int) + 1) (max (e + (U.log2 : Int) - 52) (-1074)) R hu (by omega) (by omega) (by omega) (by omega) (by omega) (by omega) (by omega) hLen hR hle w
end Go.Proofs.YtoedefjngipeiaaGreatDoor

/- nearest of the program. -/
namespace Go.Proofs.YtoedefjngipeiaaGreatDoor
open Go.ChangeShapes Go.WideShapes Go.RowKit

theorem u64n_back (S : Nat) (h : S < 18446744073709551616) : u64n (IntKind.i64.wrap (S : Int)) = S := by
  unfold u64n
  rw [IntKind.wrap_u64, IntKind.wrap_i64]
  omega
theorem stk_lt {A B q t : Nat} (h : Lng A B 64 q t) : stk q t < 18446744073709551616 := by
  have h1 := h.2.2
  have h3 : (2 : Nat) ^ 64 = 18446744073709551616 := rfl
  unfold stk oddOf
  split <;> omega
/-- The word that comes of a quotient times a power of two. -/
def quoW (A C x y : Nat) : Nat := if A = 0 then 0 else ratioW (A * 2 ^ x) (C * 2 ^ y)
theorem quo_fw (neg : Bool) (A C a b la lb q t x y : Nat) (hC : 0 < C) (h1 : bitLen A = la) (h2 : bitLen C = lb) (ha : a = lb - la) (hb : b = la - lb) (h : Lng (A * 2 ^ a) (C * 2 ^ b) 64 q t) :
    fw neg (stk q t) ((x : Int) - y + ((la : Int) - lb - 63)) = signBit neg + quoW A C x y := by
  rw [fw_sgn]
  congr 1
  unfold quoW
  by_cases hA : A = 0
  · rw [if_pos hA]
    subst hA
    have hB : 0 < C * 2 ^ b := Nat.mul_pos hC (Nat.two_pow_pos b)
    obtain ⟨e, _, _⟩ := h
    rw [Nat.zero_mul, Nat.zero_mul] at e
    have e1 : 2 * q * (C * 2 ^ b) = 0 := by omega
    have e2 : t = 0 := by omega
    have e3 : q = 0 := by
      rcases Nat.mul_eq_zero.1 e1 with h | h <;> omega
    subst e2 e3
    show fw false (stk 0 0) _ = 0
    unfold stk
    rw [if_pos rfl, fw_zero]; rfl
  · rw [if_neg hA]
    have s1 := (bitLen_spec A).2 hA
    have s2 := (bitLen_spec C).1
    rw [h1] at s1
    rw [h2] at s2
    have hla : 1 ≤ la := by rw [← h1]; unfold bitLen; rw [if_neg hA]; omega
    refine quo_word A C a b q t x y (la - 1 + a) _ (by omega) hC h ?_ ?_ (by omega)
    · rw [Nat.pow_add]; exact Nat.mul_le_mul_right _ s1
    · have : C * 2 ^ b < 2 ^ lb * 2 ^ b := Nat.mul_lt_mul_of_pos_right s2 (Nat.two_pow_pos b)
      rw [← Nat.pow_add, show lb + b = la - 1 + a + 1 by omega] at this
      exact this
set_option maxHeartbeats 1000000 in
set_option maxRecDepth 100000 in
theorem nearest_any (neg : Bool) (A C c k x y : Nat) (P : Int) (w : World) (hA : cntOk c A) (hc : c ≤ 151) (hC : cntOk k C) (hk : k ≤ 151) (hC0 : 0 < C) (h1 : bitLen A ≤ 4798) (h2 : bitLen C ≤ 4798) (hP : P = (x : Int) - y) (hP1 : -20000000 ≤ P) (hP2 : P ≤ 20000000) :
    Calls Tryz.prog 101 #[.bool neg, lgV c A, lgV k C, .int .i64 P] w fun e w' => e = .returned (.float .f64 (signBit neg + quoW A C x y)) ∧ Below w.heap.size w w' := by
  have HQ : Hid (∀ w', Calls Tryz.prog 108 #[lgV c A, lgV k C] w' fun e w'' => ∃ q t, Lng (A * 2 ^ (bitLen C - bitLen A)) (C * 2 ^ (bitLen A - bitLen C)) 64 q t ∧ e = .returned (.tuple #[.int .u64 (stk q t : Int), .int .i64 ((bitLen A : Int) - (bitLen C : Int) - 63)]) ∧ Below w'.heap.size w' w'') :=
    fun w' => quo_any A C c k (bitLen A) (bitLen C) (bitLen C - bitLen A) (bitLen A - bitLen C) (max (bitLen A) (bitLen C)) w' hA hc hC hk hC0 rfl rfl rfl rfl rfl (by omega)
  have HF : Hid (∀ q t, Lng (A * 2 ^ (bitLen C - bitLen A)) (C * 2 ^ (bitLen A - bitLen C)) 64 q t → fw neg (stk q t) (P + ((bitLen A : Int) - (bitLen C : Int) - 63)) = signBit neg + quoW A C x y) := fun q t h => by
    rw [hP]; exact quo_fw neg A C (bitLen C - bitLen A) (bitLen A - bitLen C) (bitLen A) (bitLen C) q t x y hC0 rfl rfl rfl rfl h
  obtain ⟨E, hE⟩ : ∃ E : Int, (bitLen A : Int) - (bitLen C : Int) - 63 = E := ⟨_, rfl⟩
  have hE1 : -5000 ≤ E := by omega
  have hE2 : E ≤ 5000 := by omega
  rw [hE] at HQ HF
  obtain ⟨X, hX⟩ : ∃ X, (lgL c (dg A)).toArray = X := ⟨_, rfl⟩
  obtain ⟨Y, hY⟩ : ∃ Y, (lgL k (dg C)).toArray = Y := ⟨_, rfl⟩
  obtain ⟨H, hH⟩ : ∃ H, w.heap.size = H := ⟨_, rfl⟩
  obtain ⟨W, hW⟩ : ∃ W, (w.alloc (.cells X 156)).alloc (.cells Y 156) = W := ⟨_, rfl⟩
  have HL1 : Hid (LB W H c (dg A) [] 156) := by
    have h := (LB.new w c (dg A) [] 156).alloc (.cells Y 156)
    rw [← blk_nil, hX, hW, hH] at h; exact h
  have HL2 : Hid (LB W (H + 1) k (dg C) [] 156) := by
    have h := LB.new (w.alloc (.cells X 156)) k (dg C) [] 156
    rw [← blk_nil, hY, hW, show (w.alloc (.cells X 156)).heap.size = H + 1 by simp [hH]] at h; exact h
  have HBW : Hid (Below w.heap.size w W) := by rw [← hW]; exact ((Below.refl _ w).alloc (Nat.le_refl _) _).alloc (by simp) _
  unfold lgV
  rw [hX, hY]
  clear hX hY hA hC h1 h2 hC0 hP hE
  go_enter Tryz.func101, Tryz.ntmps101
  go_wp2_with fail
  clear hW
  refine HL1.out.wpLoad _ rfl rfl ?_
  go_at_K
  go_wp2_with fail
  refine HL2.out.wpLoad _ rfl rfl ?_
  go_at_K
  go_wp2_with fail
  refine (HQ.out _).mono ?_
  rintro e w1 ⟨q, t, hl, rfl, hb⟩
  have HN : Hid (∀ w', Calls Tryz.prog 109 #[.bool neg, .int .i64 (IntKind.i64.wrap (stk q t : Int)), .int .i64 (P + E)] w' fun r w'' => r = .returned (.float .f64 (signBit neg + quoW A C x y)) ∧ Below w'.heap.size w' w'') := fun w' => by
    have h := implNear_any neg (IntKind.i64.wrap (stk q t : Int)) (P + E) w'
    rw [u64n_back _ (stk_lt hl), HF.out q t hl] at h
    exact h
  have HB1 : Hid (Below w.heap.size w w1) := HBW.out.trans (hb.mono HBW.out.size)
  have hst : (stk q t : Int) < 18446744073709551616 := by have := stk_lt hl; omega
  obtain ⟨S, hS⟩ : ∃ S : Int, (stk q t : Int) = S := ⟨_, rfl⟩
  have hS0 : 0 ≤ S := by omega
  rw [hS] at HN hst ⊢
  clear hl hb hS
  have hw : IntKind.i64.wrap S = wrap64 S := by
    first | rfl | (rw [IntKind.wrap_i64]; rfl) | (rw [IntKind.wrap_i64]; unfold wrap64; omega)
  rw [hw] at HN
  clear hw
  go_wp2_with fail
  refine (HN.out _).mono ?_
  rintro e w2 ⟨rfl, hb2⟩
  go_wp2
  go_ret
  exact ⟨rfl, HB1.out.trans (hb2.mono HB1.out.size)⟩
end Go.Proofs.YtoedefjngipeiaaGreatDoor

