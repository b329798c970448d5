import Derived.Test.YtapiifeklimncaaDoorA15
import Derived.Test.YtapiifeklimncaaDoorA17
import Derived.Test.YtapiifeklimncaaDoorA11
import Derived.Test.YtapiifeklimncaaDoorA14
/- Near of the program. -/
namespace Go.Proofs.YtapiifeklimncaaDoor
open Go.ChangeShapes Go.WideShapes Go.RowKit
open Ieee (double)

theorem bitLen_pos (m : Nat) (h : 0 < m) : bitLen m = m.log2 + 1 := by unfold bitLen; rw [if_neg (by omega)]
theorem float_zero (s : Bool) (w : World) :
    Calls Tryd.prog 39 #[.agg #[.bool s, .int .u64 0, .int .u64 0]] w fun e w' => e = .returned (.float .f64 (signBit s)) ∧ Below w.heap.size w w' := by
  refine (float_any s 0 0 (by omega) (by omega) w).mono ?_
  rintro e w' ⟨rfl, rfl⟩
  exact ⟨rfl, ((Below.refl _ w).alloc (by simp) _).alloc (by simp) _⟩
theorem float_inf (s : Bool) (w : World) :
    Calls Tryd.prog 39 #[.agg #[.bool s, .int .u64 2047, .int .u64 0]] w fun e w' => e = .returned (.float .f64 (iw s)) ∧ Below w.heap.size w w' := by
  refine (float_any s 2047 0 (by omega) (by omega) w).mono ?_
  rintro e w' ⟨rfl, rfl⟩
  exact ⟨rfl, ((Below.refl _ w).alloc (by simp) _).alloc (by simp) _⟩

set_option maxHeartbeats 400000 in
theorem near_nil (s : Bool) (n e x : Int) (hu : IntKind.u64.wrap n = x) (h : x = 0 ∨ e < -1138) (w : World) :
    Calls Tryd.prog 61 #[.bool s, .int .i64 n, .int .i64 e] w fun r w' => r = .returned (.float .f64 (signBit s)) ∧ Below w.heap.size w w' := by
  have HF : Hid _ := fun w => float_zero s w
  by_cases h0 : x = 0
  · subst h0
    clear h
    go_enter Tryd.func61, Tryd.ntmps61
    go_wp2_with (go_at_call 39; refine (HF.out _).mono ?_; rintro e w' ⟨rfl, hb⟩)
    go_ret
    exact ⟨rfl, hb⟩
  · have b0 : (x == 0) = false := beq_eq_false_iff_ne.2 h0
    have h1 : e < -1138 := by omega
    clear h h0
    go_enter Tryd.func61, Tryd.ntmps61
    go_wp2_with (go_at_call 39; refine (HF.out _).mono ?_; rintro e w' ⟨rfl, hb⟩)
    go_ret
    exact ⟨rfl, hb⟩
set_option maxHeartbeats 400000 in
theorem near_high (s : Bool) (n e x : Int) (hu : IntKind.u64.wrap n = x) (h0 : x ≠ 0) (h : 1023 < e) (w : World) :
    Calls Tryd.prog 61 #[.bool s, .int .i64 n, .int .i64 e] w fun r w' => r = .returned (.float .f64 (iw s)) ∧ Below w.heap.size w w' := by
  have HF : Hid _ := fun w => float_inf s w
  have b0 : (x == 0) = false := beq_eq_false_iff_ne.2 h0
  clear h0
  go_enter Tryd.func61, Tryd.ntmps61
  go_wp2_with (first | (go_at_call 38; refine (infinity_any _ _).mono ?_; rintro e w' ⟨rfl, rfl⟩) | (go_at_call 39; refine (HF.out _).mono ?_; rintro e w' ⟨rfl, hb⟩))
  go_ret
  exact ⟨rfl, Below.trans ((Below.refl _ w).alloc (by simp) _) (hb.mono (by simp))⟩
set_option maxHeartbeats 400000 in
theorem near_over (s : Bool) (n e x Ln : Int) (hu : IntKind.u64.wrap n = x) (h0 : x ≠ 0) (h : e ≤ 1023) (h' : -1138 ≤ e) (hl : 1 ≤ Ln) (hl' : Ln ≤ 64) (ho : 971 < e + Ln - 53)
    (hL : ∀ w, Calls Tryd.prog 67 #[.int .u64 x] w fun e w' => e = .returned (.int .i64 Ln) ∧ w' = w) (w : World) :
    Calls Tryd.prog 61 #[.bool s, .int .i64 n, .int .i64 e] w fun r w' => r = .returned (.float .f64 (iw s)) ∧ Below w.heap.size w w' := by
  have HL : Hid _ := hL
  have HF : Hid _ := fun w => float_inf s w
  have b0 : (x == 0) = false := beq_eq_false_iff_ne.2 h0
  clear h0 hL
  go_enter Tryd.func61, Tryd.ntmps61
  go_wp2_with (first | (go_at_call 67; refine (HL.out _).mono ?_; rintro e w' ⟨rfl, rfl⟩) | (go_at_call 38; refine (infinity_any _ _).mono ?_; rintro e w' ⟨rfl, rfl⟩) | (go_at_call 39; refine (HF.out _).mono ?_; rintro e w' ⟨rfl, hb⟩))
  go_ret
  exact ⟨rfl, Below.trans ((Below.refl _ _).alloc (by simp) _) (hb.mono (by simp))⟩
set_option maxHeartbeats 400000 in
theorem near_fits (s : Bool) (n e x Ln L : Int) (R : Nat) (hu : IntKind.u64.wrap n = x) (h0 : x ≠ 0) (h : e ≤ 1023) (h' : -1138 ≤ e) (hl : 1 ≤ Ln) (hl' : Ln ≤ 64) (hm : (-1074 ≤ e + Ln - 53 ∧ L = e + Ln - 53) ∨ (e + Ln - 53 < -1074 ∧ L = -1074)) (ho : L ≤ 971)
    (hL : ∀ w, Calls Tryd.prog 67 #[.int .u64 x] w fun e w' => e = .returned (.int .i64 Ln) ∧ w' = w)
    (hR : ∀ w, Calls Tryd.prog 69 #[.int .u64 x, .int .i64 (L - e)] w fun e w' => e = .returned (.int .u64 (R : Int)) ∧ w' = w) (hR' : R ≤ 9007199254740992) (w : World) :
    Calls Tryd.prog 61 #[.bool s, .int .i64 n, .int .i64 e] w fun r w' => r = .returned (.float .f64 (signBit s + ((L + 1074).toNat * 4503599627370496 + R))) ∧ Below w.heap.size w w' := by
  have HL : Hid _ := hL
  have b0 : (x == 0) = false := beq_eq_false_iff_ne.2 h0
  have HP : Hid _ := fun w => place_any s R L hR' (by omega) ho w
  clear h0 hL hR'
  rcases hm with ⟨m1, rfl⟩ | ⟨m1, rfl⟩
  · have HR : Hid _ := hR
    clear hR
    go_enter Tryd.func61, Tryd.ntmps61
    go_wp2_with (first | (go_at_call 67; refine (HL.out _).mono ?_; rintro e w' ⟨rfl, rfl⟩) | (go_at_call 69; refine (HR.out _).mono ?_; rintro e w' ⟨rfl, rfl⟩) | (go_at_call 68; refine (HP.out _).mono ?_; rintro e w' ⟨rfl, rfl⟩))
    go_ret
    exact ⟨rfl, Below.refl _ _⟩
  · have HR : Hid _ := hR
    clear hR
    go_enter Tryd.func61, Tryd.ntmps61
    go_wp2_with (first | (go_at_call 67; refine (HL.out _).mono ?_; rintro e w' ⟨rfl, rfl⟩) | (go_at_call 69; refine (HR.out _).mono ?_; rintro e w' ⟨rfl, rfl⟩) | (go_at_call 68; refine (HP.out _).mono ?_; rintro e w' ⟨rfl, rfl⟩))
    go_ret
    exact ⟨by rw [show ((-1074 : Int) + 1074).toNat = 0 from rfl, Nat.zero_mul, Nat.zero_add]; rfl, Below.refl _ _⟩
/-- At every argument. -/
theorem implNear_any (s : Bool) (n e : Int) (w : World) :
    Calls Tryd.prog 61 #[.bool s, .int .i64 n, .int .i64 e] w fun r w' => r = .returned (.float .f64 (fw s (u64n n) e)) ∧ Below w.heap.size w w' := by
  have hu := u64n_cast n
  have hlt := u64n_lt n
  generalize u64n n = U at *
  by_cases h0 : U = 0
  · subst h0
    rw [fw_zero]
    exact near_nil s n e _ hu (.inl rfl) w
  · by_cases h1 : e < -1138
    · rw [fw_tiny s U e hlt (by omega)]
      exact near_nil s n e _ hu (.inr h1) w
    · have hl63 := log_63 U (by omega) hlt
      by_cases h2 : 1023 < e
      · rw [fw_over s U e _ (by omega) rfl (by omega)]
        exact near_high s n e _ hu (by omega) h2 w
      · have hLen : ∀ w, Calls Tryd.prog 67 #[.int .u64 (U : Int)] w fun e w' => e = .returned (.int .i64 ((U.log2 : Int) + 1)) ∧ w' = w := fun w => by
          refine (len64_any (U : Int) (by omega) (by omega) w).mono ?_
          rintro e w' ⟨rfl, rfl⟩
          rw [Int.toNat_natCast, bitLen_pos U (by omega)]
          exact ⟨rfl, rfl⟩
        by_cases h3 : 971 < max (e + (U.log2 : Int) - 52) (-1074)
        · rw [fw_over s U e _ (by omega) rfl h3]
          exact near_over s n e U ((U.log2 : Int) + 1) hu (by omega) (by omega) (by omega) (by omega) (by omega) (by omega) hLen w
        · rw [fw_fits s U e _ (by omega) rfl (by omega)]
          have hle := roundN_le U e
          have hR : ∀ w, Calls Tryd.prog 69 #[.int .u64 (U : Int), .int .i64 (max (e + (U.log2 : Int) - 52) (-1074) - e)] w fun e' w' => e' = .returned (.int .u64 (roundN U (max (e + (U.log2 : Int) - 52) (-1074) - e) : Int)) ∧ w' = w := fun w => by
            have h := roundBits_any (U : Int) (max (e + (U.log2 : Int) - 52) (-1074) - e) (by omega) (by omega) (by omega) (by omega) (by rw [Int.toNat_natCast]; exact hle) w
            rw [Int.toNat_natCast] at h
            exact h
          generalize roundN U (max (e + (U.log2 : Int) - 52) (-1074) - e) = R at *
          exact near_fits s n e U ((U.log2 : Int) + 1) (max (e + (U.log2 : Int) - 52) (-1074)) R hu (by omega) (by omega) (by omega) (by omega) (by omega) (by omega) (by omega) hLen hR hle w
end Go.Proofs.YtapiifeklimncaaDoor

/- nearest of the program. -/
namespace Go.Proofs.YtapiifeklimncaaDoor
open Go.ChangeShapes Go.WideShapes Go.RowKit

theorem u64n_back (S : Nat) (h : S < 18446744073709551616) : u64n (IntKind.i64.wrap (S : Int)) = S := by
  unfold u64n
  rw [IntKind.wrap_u64, IntKind.wrap_i64]
  omega
theorem stk_lt {A B q t : Nat} (h : Lng A B 64 q t) : stk q t < 18446744073709551616 := by
  have h1 := h.2.2
  have h3 : (2 : Nat) ^ 64 = 18446744073709551616 := rfl
  unfold stk oddOf
  split <;> omega
/-- The word that comes of a quotient times a power of two. -/
def quoW (A C x y : Nat) : Nat := if A = 0 then 0 else ratioW (A * 2 ^ x) (C * 2 ^ y)
theorem quo_fw (neg : Bool) (A C a b la lb q t x y : Nat) (hC : 0 < C) (h1 : bitLen A = la) (h2 : bitLen C = lb) (ha : a = lb - la) (hb : b = la - lb) (h : Lng (A * 2 ^ a) (C * 2 ^ b) 64 q t) :
    fw neg (stk q t) ((x : Int) - y + ((la : Int) - lb - 63)) = signBit neg + quoW A C x y := by
  rw [fw_sgn]
  congr 1
  unfold quoW
  by_cases hA : A = 0
  · rw [if_pos hA]
    subst hA
    have hB : 0 < C * 2 ^ b := Nat.mul_pos hC (Nat.two_pow_pos b)
    obtain ⟨e, _, _⟩ := h
    rw [Nat.zero_mul, Nat.zero_mul] at e
    have e1 : 2 * q * (C * 2 ^ b) = 0 := by omega
    have e2 : t = 0 := by omega
    have e3 : q = 0 := by
      rcases Nat.mul_eq_zero.1 e1 with h | h <;> omega
    subst e2 e3
    show fw false (stk 0 0) _ = 0
    unfold stk
    rw [if_pos rfl, fw_zero]; rfl
  · rw [if_neg hA]
    have s1 := (bitLen_spec A).2 hA
    have s2 := (bitLen_spec C).1
    rw [h1] at s1
    rw [h2] at s2
    have hla : 1 ≤ la := by rw [← h1]; unfold bitLen; rw [if_neg hA]; omega
    refine quo_word A C a b q t x y (la - 1 + a) _ (by omega) hC h ?_ ?_ (by omega)
    · rw [Nat.pow_add]; exact Nat.mul_le_mul_right _ s1
    · have : C * 2 ^ b < 2 ^ lb * 2 ^ b := Nat.mul_lt_mul_of_pos_right s2 (Nat.two_pow_pos b)
      rw [← Nat.pow_add, show lb + b = la - 1 + a + 1 by omega] at this
      exact this
set_option maxHeartbeats 1000000 in
set_option maxRecDepth 100000 in
theorem nearest_any (neg : Bool) (A C c k x y : Nat) (P : Int) (w : World) (hA : cntOk c A) (hc : c ≤ 151) (hC : cntOk k C) (hk : k ≤ 151) (hC0 : 0 < C) (h1 : bitLen A ≤ 4798) (h2 : bitLen C ≤ 4798) (hP : P = (x : Int) - y) (hP1 : -20000000 ≤ P) (hP2 : P ≤ 20000000) :
    Calls Tryd.prog 54 #[.bool neg, lgV c A, lgV k C, .int .i64 P] w fun e w' => e = .returned (.float .f64 (signBit neg + quoW A C x y)) ∧ Below w.heap.size w w' := by
  have HQ : Hid (∀ w', Calls Tryd.prog 60 #[lgV c A, lgV k C] w' fun e w'' => ∃ q t, Lng (A * 2 ^ (bitLen C - bitLen A)) (C * 2 ^ (bitLen A - bitLen C)) 64 q t ∧ e = .returned (.tuple #[.int .u64 (stk q t : Int), .int .i64 ((bitLen A : Int) - (bitLen C : Int) - 63)]) ∧ Below w'.heap.size w' w'') :=
    fun w' => quo_any A C c k (bitLen A) (bitLen C) (bitLen C - bitLen A) (bitLen A - bitLen C) (max (bitLen A) (bitLen C)) w' hA hc hC hk hC0 rfl rfl rfl rfl rfl (by omega)
  have HF : Hid (∀ q t, Lng (A * 2 ^ (bitLen C - bitLen A)) (C * 2 ^ (bitLen A - bitLen C)) 64 q t → fw neg (stk q t) (P + ((bitLen A : Int) - (bitLen C : Int) - 63)) = signBit neg + quoW A C x y) := fun q t h => by
    rw [hP]; exact quo_fw neg A C (bitLen C - bitLen A) (bitLen A - bitLen C) (bitLen A) (bitLen C) q t x y hC0 rfl rfl rfl rfl h
  obtain ⟨E, hE⟩ : ∃ E : Int, (bitLen A : Int) - (bitLen C : Int) - 63 = E := ⟨_, rfl⟩
  have hE1 : -5000 ≤ E := by omega
  have hE2 : E ≤ 5000 := by omega
  rw [hE] at HQ HF
  obtain ⟨X, hX⟩ : ∃ X, (lgL c (dg A)).toArray = X := ⟨_, rfl⟩
  obtain ⟨Y, hY⟩ : ∃ Y, (lgL k (dg C)).toArray = Y := ⟨_, rfl⟩
  obtain ⟨H, hH⟩ : ∃ H, w.heap.size = H := ⟨_, rfl⟩
  obtain ⟨W, hW⟩ : ∃ W, (w.alloc (.cells X 108)).alloc (.cells Y 108) = W := ⟨_, rfl⟩
  have HL1 : Hid (LB W H c (dg A) [] 108) := by
    have h := (LB.new w c (dg A) [] 108).alloc (.cells Y 108)
    rw [← blk_nil, hX, hW, hH] at h; exact h
  have HL2 : Hid (LB W (H + 1) k (dg C) [] 108) := by
    have h := LB.new (w.alloc (.cells X 108)) k (dg C) [] 108
    rw [← blk_nil, hY, hW, show (w.alloc (.cells X 108)).heap.size = H + 1 by simp [hH]] at h; exact h
  have HBW : Hid (Below w.heap.size w W) := by rw [← hW]; exact ((Below.refl _ w).alloc (Nat.le_refl _) _).alloc (by simp) _
  unfold lgV
  rw [hX, hY]
  clear hX hY hA hC h1 h2 hC0 hP hE
  go_enter Tryd.func54, Tryd.ntmps54
  go_wp2_with fail
  clear hW
  refine HL1.out.wpLoad _ rfl rfl ?_
  go_at_K
  go_wp2_with fail
  refine HL2.out.wpLoad _ rfl rfl ?_
  go_at_K
  go_wp2_with fail
  refine (HQ.out _).mono ?_
  rintro e w1 ⟨q, t, hl, rfl, hb⟩
  have HN : Hid (∀ w', Calls Tryd.prog 61 #[.bool neg, .int .i64 (IntKind.i64.wrap (stk q t : Int)), .int .i64 (P + E)] w' fun r w'' => r = .returned (.float .f64 (signBit neg + quoW A C x y)) ∧ Below w'.heap.size w' w'') := fun w' => by
    have h := implNear_any neg (IntKind.i64.wrap (stk q t : Int)) (P + E) w'
    rw [u64n_back _ (stk_lt hl), HF.out q t hl] at h
    exact h
  have HB1 : Hid (Below w.heap.size w w1) := HBW.out.trans (hb.mono HBW.out.size)
  have hst : (stk q t : Int) < 18446744073709551616 := by have := stk_lt hl; omega
  obtain ⟨S, hS⟩ : ∃ S : Int, (stk q t : Int) = S := ⟨_, rfl⟩
  have hS0 : 0 ≤ S := by omega
  rw [hS] at HN hst ⊢
  clear hl hb hS
  have hw : IntKind.i64.wrap S = wrap64 S := by
    first | rfl | (rw [IntKind.wrap_i64]; rfl) | (rw [IntKind.wrap_i64]; unfold wrap64; omega)
  rw [hw] at HN
  clear hw
  go_wp2_with fail
  refine (HN.out _).mono ?_
  rintro e w2 ⟨rfl, hb2⟩
  go_wp2
  go_ret
  exact ⟨rfl, HB1.out.trans (hb2.mono HB1.out.size)⟩
end Go.Proofs.YtapiifeklimncaaDoor

/- largeOf, raise of the program's numbers. -/
namespace Go.Proofs.YtapiifeklimncaaDoor
open Go.ChangeShapes Go.WideShapes Go.RowKit

set_option maxHeartbeats 1000000 in
set_option maxRecDepth 100000 in
theorem raise_any (B N F T : Nat) (R : List Value) (t : TypeId) (w : World) (h : Lg w B N R t) (hF1 : 1 ≤ F) (hF : F ≤ 16) (hT : T ≤ 4000) (hN : N * F ^ T < be ^ 151) :
    Calls Tryd.prog 56 #[.pointer (some ⟨B, 0, none⟩), .int .u64 (F : Int), .int .i64 (T : Int)] w fun e w' => e = .returned (.tuple #[]) ∧ Mod B w w' ∧ Lg w' B (N * F ^ T) R t := by
  have HL : Hid (Lg w B N R t) := h
  have HN : Hid (N * F ^ T < be ^ 151) := hN
  clear h hN
  go_enter Tryd.func56, Tryd.ntmps56
  go_wp2
  go_loopw [7] (fun iv wl => ∃ i : Nat, iv = .int .i64 (i : Int) ∧ i ≤ T ∧ Hid (Lg wl B (N * F ^ i) R t) ∧ Hid (Mod B w wl)) (fun iv _ => T - (intOf iv).toNat)
  case atStart => exact ⟨0, rfl, Nat.zero_le _, by show Lg w B (N * F ^ 0) R t; rw [Nat.pow_zero, Nat.mul_one]; exact HL.out, Mod.refl B w⟩
  case round =>
    obtain ⟨i, rfl, hi, HG, HMd⟩ := hrel
    by_cases hlt : i < T
    · have hlt' : (i : Int) < (T : Int) := by omega
      have hbd : N * F ^ i * F + 0 < be ^ 151 := by
        have h1 : F ^ (i + 1) ≤ F ^ T := Nat.pow_le_pow_right hF1 (by omega)
        have h2 : N * F ^ (i + 1) ≤ N * F ^ T := Nat.mul_le_mul_left _ h1
        rw [Nat.add_zero, Nat.mul_assoc, ← Nat.pow_succ]
        exact Nat.lt_of_le_of_lt h2 HN.out
      have HC : Hid (Calls Tryd.prog 59 #[.pointer (some ⟨B, 0, none⟩), .int .u64 (F : Int), .int .u64 0] wr fun e w' => e = .returned (.tuple #[]) ∧ Mod B wr w' ∧ Lg w' B (N * F ^ (i + 1)) R t) := by
        have h := mul_any B (N * F ^ i) F 0 R t wr HG.out hF1 hF (by omega) hbd
        rw [Nat.add_zero, Nat.mul_assoc, ← Nat.pow_succ] at h
        exact h
      clear hbd
      go_wp2_with (go_at_call 59; refine HC.out.mono ?_; rintro e w' ⟨rfl, hm, hg⟩)
      exact ⟨⟨i + 1, rfl, by omega, hg, HMd.out.trans hm⟩, by show T - ((i : Int) + 1).toNat < T - (i : Int).toNat; omega⟩
    · have hlt' : decide ((i : Int) < (T : Int)) = false := decide_eq_false (by omega)
      obtain rfl : i = T := by omega
      go_wp2
      go_end0
      exact ⟨rfl, HMd.out, HG.out⟩
end Go.Proofs.YtapiifeklimncaaDoor

