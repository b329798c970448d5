import Derived.Test.YtaoccjaaopmfdaaGreatDoorB36
import Derived.Test.YtaoccjaaopmfdaaGreatDoorB37
import Derived.Test.YtaoccjaaopmfdaaGreatDoorB33
import Derived.Test.YtaoccjaaopmfdaaGreatDoorB22
import Derived.Test.YtaoccjaaopmfdaaGreatDoorB34
/- Near of the program. -/
namespace Go.Proofs.YtaoccjaaopmfdaaGreatDoor
open Go.ChangeShapes Go.WideShapes Go.RowKit
open Ieee (double)

theorem bitLen_pos (m : Nat) (h : 0 < m) : bitLen m = m.log2 + 1 := by unfold bitLen; rw [if_neg (by omega)]
theorem float_zero (s : Bool) (w : World) :
    Calls Tryz.prog 62 #[.agg #[.bool s, .int .u64 0, .int .u64 0]] w fun e w' => e = .returned (.float .f64 (signBit s)) ∧ Below w.heap.size w w' := by
  refine (float_any s 0 0 (by omega) (by omega) w).mono ?_
  rintro e w' ⟨rfl, rfl⟩
  exact ⟨rfl, ((Below.refl _ w).alloc (by simp) _).alloc (by simp) _⟩
theorem float_inf (s : Bool) (w : World) :
    Calls Tryz.prog 62 #[.agg #[.bool s, .int .u64 2047, .int .u64 0]] w fun e w' => e = .returned (.float .f64 (iw s)) ∧ Below w.heap.size w w' := by
  refine (float_any s 2047 0 (by omega) (by omega) w).mono ?_
  rintro e w' ⟨rfl, rfl⟩
  exact ⟨rfl, ((Below.refl _ w).alloc (by simp) _).alloc (by simp) _⟩

set_option maxHeartbeats 400000 in
theorem near_nil (s : Bool) (n e x : Int) (hu : IntKind.u64.wrap n = x) (h : x = 0 ∨ e < -1138) (w : World) :
    Calls Tryz.prog 29 #[.bool s, .int .i64 n, .int .i64 e] w fun r w' => r = .returned (.float .f64 (signBit s)) ∧ Below w.heap.size w w' := by
  have HF : Hid _ := fun w => float_zero s w
  by_cases h0 : x = 0
  · subst h0
    clear h
    go_enter Tryz.func29, Tryz.ntmps29
    go_wp2_with (go_at_call 62; refine (HF.out _).mono ?_; rintro e w' ⟨rfl, hb⟩)
    go_ret
    exact ⟨rfl, hb⟩
  · have b0 : (x == 0) = false := beq_eq_false_iff_ne.2 h0
    have h1 : e < -1138 := by omega
    clear h h0
    go_enter Tryz.func29, Tryz.ntmps29
    go_wp2_with (go_at_call 62; refine (HF.out _).mono ?_; rintro e w' ⟨rfl, hb⟩)
    go_ret
    exact ⟨rfl, hb⟩
set_option maxHeartbeats 400000 in
theorem near_high (s : Bool) (n e x : Int) (hu : IntKind.u64.wrap n = x) (h0 : x ≠ 0) (h : 1023 < e) (w : World) :
    Calls Tryz.prog 29 #[.bool s, .int .i64 n, .int .i64 e] w fun r w' => r = .returned (.float .f64 (iw s)) ∧ Below w.heap.size w w' := by
  have HF : Hid _ := fun w => float_inf s w
  have b0 : (x == 0) = false := beq_eq_false_iff_ne.2 h0
  clear h0
  go_enter Tryz.func29, Tryz.ntmps29
  go_wp2_with (first | (go_at_call 63; refine (infinity_any _ _).mono ?_; rintro e w' ⟨rfl, rfl⟩) | (go_at_call 62; refine (HF.out _).mono ?_; rintro e w' ⟨rfl, hb⟩))
  go_ret
  exact ⟨rfl, Below.trans ((Below.refl _ w).alloc (by simp) _) (hb.mono (by simp))⟩
set_option maxHeartbeats 400000 in
theorem near_over (s : Bool) (n e x Ln : Int) (hu : IntKind.u64.wrap n = x) (h0 : x ≠ 0) (h : e ≤ 1023) (h' : -1138 ≤ e) (hl : 1 ≤ Ln) (hl' : Ln ≤ 64) (ho : 971 < e + Ln - 53)
    (hL : ∀ w, Calls Tryz.prog 64 #[.int .u64 x] w fun e w' => e = .returned (.int .i64 Ln) ∧ w' = w) (w : World) :
    Calls Tryz.prog 29 #[.bool s, .int .i64 n, .int .i64 e] w fun r w' => r = .returned (.float .f64 (iw s)) ∧ Below w.heap.size w w' := by
  have HL : Hid _ := hL
  have HF : Hid _ := fun w => float_inf s w
  have b0 : (x == 0) = false := beq_eq_false_iff_ne.2 h0
  clear h0 hL
  go_enter Tryz.func29, Tryz.ntmps29
  go_wp2_with (first | (go_at_call 64; refine (HL.out _).mono ?_; rintro e w' ⟨rfl, rfl⟩) | (go_at_call 63; refine (infinity_any _ _).mono ?_; rintro e w' ⟨rfl, rfl⟩) | (go_at_call 62; refine (HF.out _).mono ?_; rintro e w' ⟨rfl, hb⟩))
  go_ret
  exact ⟨rfl, Below.trans ((Below.refl _ _).alloc (by simp) _) (hb.mono (by simp))⟩
set_option maxHeartbeats 400000 in
theorem near_fits (s : Bool) (n e x Ln L : Int) (R : Nat) (hu : IntKind.u64.wrap n = x) (h0 : x ≠ 0) (h : e ≤ 1023) (h' : -1138 ≤ e) (hl : 1 ≤ Ln) (hl' : Ln ≤ 64) (hm : (-1074 ≤ e + Ln - 53 ∧ L = e + Ln - 53) ∨ (e + Ln - 53 < -1074 ∧ L = -1074)) (ho : L ≤ 971)
    (hL : ∀ w, Calls Tryz.prog 64 #[.int .u64 x] w fun e w' => e = .returned (.int .i64 Ln) ∧ w' = w)
    (hR : ∀ w, Calls Tryz.prog 66 #[.int .u64 x, .int .i64 (L - e)] w fun e w' => e = .returned (.int .u64 (R : Int)) ∧ w' = w) (hR' : R ≤ 9007199254740992) (w : World) :
    Calls Tryz.prog 29 #[.bool s, .int .i64 n, .int .i64 e] w fun r w' => r = .returned (.float .f64 (signBit s + ((L + 1074).toNat * 4503599627370496 + R))) ∧ Below w.heap.size w w' := by
  have HL : Hid _ := hL
  have b0 : (x == 0) = false := beq_eq_false_iff_ne.2 h0
  have HP : Hid _ := fun w => place_any s R L hR' (by omega) ho w
  clear h0 hL hR'
  rcases hm with ⟨m1, rfl⟩ | ⟨m1, rfl⟩
  · have HR : Hid _ := hR
    clear hR
    go_enter Tryz.func29, Tryz.ntmps29
    go_wp2_with (first | (go_at_call 64; refine (HL.out _).mono ?_; rintro e w' ⟨rfl, rfl⟩) | (go_at_call 66; refine (HR.out _).mono ?_; rintro e w' ⟨rfl, rfl⟩) | (go_at_call 65; refine (HP.out _).mono ?_; rintro e w' ⟨rfl, rfl⟩))
    go_ret
    exact ⟨rfl, Below.refl _ _⟩
  · have HR : Hid _ := hR
    clear hR
    go_enter Tryz.func29, Tryz.ntmps29
    go_wp2_with (first | (go_at_call 64; refine (HL.out _).mono ?_; rintro e w' ⟨rfl, rfl⟩) | (go_at_call 66; refine (HR.out _).mono ?_; rintro e w' ⟨rfl, rfl⟩) | (go_at_call 65; refine (HP.out _).mono ?_; rintro e w' ⟨rfl, rfl⟩))
    go_ret
    exact ⟨by rw [show ((-1074 : Int) + 1074).toNat = 0 from rfl, Nat.zero_mul, Nat.zero_add]; rfl, Below.refl _ _⟩
/-- At every argument. -/
theorem implNear_any (s : Bool) (n e : Int) (w : World) :
    Calls Tryz.prog 29 #[.bool s, .int .i64 n, .int .i64 e] w fun r w' => r = .returned (.float .f64 (fw s (u64n n) e)) ∧ Below w.heap.size w w' := by
  have hu := u64n_cast n
  have hlt := u64n_lt n
  generalize u64n n = U at *
  by_cases h0 : U = 0
  · subst h0
    rw [fw_zero]
    exact near_nil s n e _ hu (.inl rfl) w
  · by_cases h1 : e < -1138
    · rw [fw_tiny s U e hlt (by omega)]
      exact near_nil s n e _ hu (.inr h1) w
    · have hl63 := log_63 U (by omega) hlt
      by_cases h2 : 1023 < e
      · rw [fw_over s U e _ (by omega) rfl (by omega)]
        exact near_high s n e _ hu (by omega) h2 w
      · have hLen : ∀ w, Calls Tryz.prog 64 #[.int .u64 (U : Int)] w fun e w' => e = .returned (.int .i64 ((U.log2 : Int) + 1)) ∧ w' = w := fun w => by
          refine (len64_any (U : Int) (by omega) (by omega) w).mono ?_
          rintro e w' ⟨rfl, rfl⟩
          rw [Int.toNat_natCast, bitLen_pos U (by omega)]
          exact ⟨rfl, rfl⟩
        by_cases h3 : 971 < max (e + (U.log2 : Int) - 52) (-1074)
        · rw [fw_over s U e _ (by omega) rfl h3]
          exact near_over s n e U ((U.log2 : Int) + 1) hu (by omega) (by omega) (by omega) (by omega) (by omega) (by omega) hLen w
        · rw [fw_fits s U e _ (by omega) rfl (by omega)]
          have hle := roundN_le U e
          have hR : ∀ w, Calls Tryz.prog 66 #[.int .u64 (U : Int), .int .i64 (max (e + (U.log2 : Int) - 52) (-1074) - e)] w fun e' w' => e' = .returned (.int .u64 (roundN U (max (e + (U.log2 : Int) - 52) (-1074) - e) : Int)) ∧ w' = w := fun w => by
            have h := roundBits_any (U : Int) (max (e + (U.log2 : Int) - 52) (-1074) - e) (by omega) (by omega) (by omega) (by omega) (by rw [Int.toNat_natCast]; exact hle) w
            rw [Int.toNat_natCast] at h
            exact h
          generalize roundN U (max (e + (U.log2 : Int) - 52) (-1074) - e) = R at *
          exact near_fits s n e U ((U.log2 : Int) + 1) (max (e + (U.log2 : Int) - 52) (-1074)) R hu (by omega) (by omega) (by omega) (by omega) (by omega) (by omega) (by omega) hLen hR hle w
end Go.Proofs.YtaoccjaaopmfdaaGreatDoor

/- nearest of the program. -/
namespace Go.Proofs.YtaoccjaaopmfdaaGreatDoor
open Go.ChangeShapes Go.WideShapes Go.RowKit

theorem u64n_back (S : Nat) (h : S < 18446744073709551616) : u64n (IntKind.i64.wrap (S : Int)) = S := by
  unfold u64n
  rw [IntKind.wrap_u64, IntKind.wrap_i64]
  omega
theorem stk_lt {A B q t : Nat} (h : Lng A B 64 q t) : stk q t < 18446744073709551616 := by
  have h1 := h.2.2
  have h3 : (2 : Nat) ^ 64 = 18446744073709551616 := rfl
  unfold stk oddOf
  split <;> omega
/-- The word that comes of a quotient times a power of two. -/
def quoW (A C x y : Nat) : Nat := if A = 0 then 0 else ratioW (A * 2 ^ x) (C * 2 ^ y)
theorem quo_fw (neg : Bool) (A C a b la lb q t x y : Nat) (hC : 0 < C) (h1 : bitLen A = la) (h2 : bitLen C = lb) (ha : a = lb - la) (hb : b = la - lb) (h : Lng (A * 2 ^ a) (C * 2 ^ b) 64 q t) :
    fw neg (stk q t) ((x : Int) - y + ((la : Int) - lb - 63)) = signBit neg + quoW A C x y := by
  rw [fw_sgn]
  congr 1
  unfold quoW
  by_cases hA : A = 0
  · rw [if_pos hA]
    subst hA
    have hB : 0 < C * 2 ^ b := Nat.mul_pos hC (Nat.two_pow_pos b)
    obtain ⟨e, _, _⟩ := h
    rw [Nat.zero_mul, Nat.zero_mul] at e
    have e1 : 2 * q * (C * 2 ^ b) = 0 := by omega
    have e2 : t = 0 := by omega
    have e3 : q = 0 := by
      rcases Nat.mul_eq_zero.1 e1 with h | h <;> omega
    subst e2 e3
    show fw false (stk 0 0) _ = 0
    unfold stk
    rw [if_pos rfl, fw_zero]; rfl
  · rw [if_neg hA]
    have s1 := (bitLen_spec A).2 hA
    have s2 := (bitLen_spec C).1
    rw [h1] at s1
    rw [h2] at s2
    have hla : 1 ≤ la := by rw [← h1]; unfold bitLen; rw [if_neg hA]; omega
    refine quo_word A C a b q t x y (la - 1 + a) _ (by omega) hC h ?_ ?_ (by omega)
    · rw [Nat.pow_add]; exact Nat.mul_le_mul_right _ s1
    · have : C * 2 ^ b < 2 ^ lb * 2 ^ b := Nat.mul_lt_mul_of_pos_right s2 (Nat.two_pow_pos b)
      rw [← Nat.pow_add, show lb + b = la - 1 + a + 1 by omega] at this
      exact this
set_option maxHeartbeats 1000000 in
set_option maxRecDepth 100000 in
theorem nearest_any (neg : Bool) (A C c k x y : Nat) (P : Int) (w : World) (hA : cntOk c A) (hc : c ≤ 151) (hC : cntOk k C) (hk : k ≤ 151) (hC0 : 0 < C) (h1 : bitLen A ≤ 4798) (h2 : bitLen C ≤ 4798) (hP : P = (x : Int) - y) (hP1 : -20000000 ≤ P) (hP2 : P ≤ 20000000) :
    Calls Tryz.prog 127 #[.bool neg, lgV c A, lgV k C, .int .i64 P] w fun e w' => e = .returned (.float .f64 (signBit neg + quoW A C x y)) ∧ Below w.heap.size w w' := by
  have HQ : Hid (∀ w', Calls Tryz.prog 133 #[lgV c A, lgV k C] w' fun e w'' => ∃ q t, Lng (A * 2 ^ (bitLen C - bitLen A)) (C * 2 ^ (bitLen A - bitLen C)) 64 q t ∧ e = .returned (.tuple #[.int .u64 (stk q t : Int), .int .i64 ((bitLen A : Int) - (bitLen C : Int) - 63)]) ∧ Below w'.heap.size w' w'') :=
    fun w' => quo_any A C c k (bitLen A) (bitLen C) (bitLen C - bitLen A) (bitLen A - bitLen C) (max (bitLen A) (bitLen C)) w' hA hc hC hk hC0 rfl rfl rfl rfl rfl (by omega)
  have HF : Hid (∀ q t, Lng (A * 2 ^ (bitLen C - bitLen A)) (C * 2 ^ (bitLen A - bitLen C)) 64 q t → fw neg (stk q t) (P + ((bitLen A : Int) - (bitLen C : Int) - 63)) = signBit neg + quoW A C x y) := fun q t h => by
    rw [hP]; exact quo_fw neg A C (bitLen C - bitLen A) (bitLen A - bitLen C) (bitLen A) (bitLen C) q t x y hC0 rfl rfl rfl rfl h
  obtain ⟨E, hE⟩ : ∃ E : Int, (bitLen A : Int) - (bitLen C : Int) - 63 = E := ⟨_, rfl⟩
  have hE1 : -5000 ≤ E := by omega
  have hE2 : E ≤ 5000 := by omega
  rw [hE] at HQ HF
  obtain ⟨X, hX⟩ : ∃ X, (lgL c (dg A)).toArray = X := ⟨_, rfl⟩
  obtain ⟨Y, hY⟩ : ∃ Y, (lgL k (dg C)).toArray = Y := ⟨_, rfl⟩
  obtain ⟨H, hH⟩ : ∃ H, w.heap.size = H := ⟨_, rfl⟩
  obtain ⟨W, hW⟩ : ∃ W, (w.alloc (.cells X 112)).alloc (.cells Y 112) = W := ⟨_, rfl⟩
  have HL1 : Hid (LB W H c (dg A) [] 112) := by
    have h := (LB.new w c (dg A) [] 112).alloc (.cells Y 112)
    rw [← blk_nil, hX, hW, hH] at h; exact h
  have HL2 : Hid (LB W (H + 1) k (dg C) [] 112) := by
    have h := LB.new (w.alloc (.cells X 112)) k (dg C) [] 112
    rw [← blk_nil, hY, hW, show (w.alloc (.cells X 112)).heap.size = H + 1 by simp [hH]] at h; exact h
  have HBW : Hid (Below w.heap.size w W) := by rw [← hW]; exact ((Below.refl _ w).alloc (Nat.le_refl _) _).alloc (by simp) _
  unfold lgV
  rw [hX, hY]
  clear hX hY hA hC h1 h2 hC0 hP hE
  go_enter Tryz.func127, Tryz.ntmps127
  go_wp2_with fail
  clear hW
  refine HL1.out.wpLoad _ rfl rfl ?_
  go_at_K
  go_wp2_with fail
  refine HL2.out.wpLoad _ rfl rfl ?_
  go_at_K
  go_wp2_with fail
  refine (HQ.out _).mono ?_
  rintro e w1 ⟨q, t, hl, rfl, hb⟩
  have HN : Hid (∀ w', Calls Tryz.prog 29 #[.bool neg, .int .i64 (IntKind.i64.wrap (stk q t : Int)), .int .i64 (P + E)] w' fun r w'' => r = .returned (.float .f64 (signBit neg + quoW A C x y)) ∧ Below w'.heap.size w' w'') := fun w' => by
    have h := implNear_any neg (IntKind.i64.wrap (stk q t : Int)) (P + E) w'
    rw [u64n_back _ (stk_lt hl), HF.out q t hl] at h
    exact h
  have HB1 : Hid (Below w.heap.size w w1) := HBW.out.trans (hb.mono HBW.out.size)
  have hst : (stk q t : Int) < 18446744073709551616 := by have := stk_lt hl; omega
  obtain ⟨S, hS⟩ : ∃ S : Int, (stk q t : Int) = S := ⟨_, rfl⟩
  have hS0 : 0 ≤ S := by omega
  rw [hS] at HN hst ⊢
  clear hl hb hS
  have hw : IntKind.i64.wrap S = wrap64 S := by
    first | rfl | (rw [IntKind.wrap_i64]; rfl) | (rw [IntKind.wrap_i64]; unfold wrap64; omega)
  rw [hw] at HN
  clear hw
  go_wp2_with fail
  refine (HN.out _).mono ?_
  rintro e w2 ⟨rfl, hb2⟩
  go_wp2
  go_ret
  exact ⟨rfl, HB1.out.trans (hb2.mono HB1.out.size)⟩
end Go.Proofs.YtaoccjaaopmfdaaGreatDoor

/- largeOf, raise of the program's numbers. -/
namespace Go.Proofs.YtaoccjaaopmfdaaGreatDoor
open Go.ChangeShapes Go.WideShapes Go.RowKit

set_option maxHeartbeats 1000000 in
set_option maxRecDepth 100000 in
theorem raise_any (B N F T : Nat) (R : List Value) (t : TypeId) (w : World) (h : Lg w B N R t) (hF1 : 1 ≤ F) (hF : F ≤ 16) (hT : T ≤ 4000) (hN : N * F ^ T < be ^ 151) :
    Calls Tryz.prog 68 #[.pointer (some ⟨B, 0, none⟩), .int .u64 (F : Int), .int .i64 (T : Int)] w fun e w' => e = .returned (.tuple #[]) ∧ Mod B w w' ∧ Lg w' B (N * F ^ T) R t := by
  have HL : Hid (Lg w B N R t) := h
  have HN : Hid (N * F ^ T < be ^ 151) := hN
  clear h hN
  go_enter Tryz.func68, Tryz.ntmps68
  go_wp2
  go_loopw [7] (fun iv wl => ∃ i : Nat, iv = .int .i64 (i : Int) ∧ i ≤ T ∧ Hid (Lg wl B (N * F ^ i) R t) ∧ Hid (Mod B w wl)) (fun iv _ => T - (intOf iv).toNat)
  case atStart => exact ⟨0, rfl, Nat.zero_le _, by show Lg w B (N * F ^ 0) R t; rw [Nat.pow_zero, Nat.mul_one]; exact HL.out, Mod.refl B w⟩
  case round =>
    obtain ⟨i, rfl, hi, HG, HMd⟩ := hrel
    by_cases hlt : i < T
    · have hlt' : (i : Int) < (T : Int) := by omega
      have hbd : N * F ^ i * F + 0 < be ^ 151 := by
        have h1 : F ^ (i + 1) ≤ F ^ T := Nat.pow_le_pow_right hF1 (by omega)
        have h2 : N * F ^ (i + 1) ≤ N * F ^ T := Nat.mul_le_mul_left _ h1
        rw [Nat.add_zero, Nat.mul_assoc, ← Nat.pow_succ]
        exact Nat.lt_of_le_of_lt h2 HN.out
      have HC : Hid (Calls Tryz.prog 95 #[.pointer (some ⟨B, 0, none⟩), .int .u64 (F : Int), .int .u64 0] wr fun e w' => e = .returned (.tuple #[]) ∧ Mod B wr w' ∧ Lg w' B (N * F ^ (i + 1)) R t) := by
        have h := mul_any B (N * F ^ i) F 0 R t wr HG.out hF1 hF (by omega) hbd
        rw [Nat.add_zero, Nat.mul_assoc, ← Nat.pow_succ] at h
        exact h
      clear hbd
      go_wp2_with (go_at_call 95; refine HC.out.mono ?_; rintro e w' ⟨rfl, hm, hg⟩)
      exact ⟨⟨i + 1, rfl, by omega, hg, HMd.out.trans hm⟩, by show T - ((i : Int) + 1).toNat < T - (i : Int).toNat; omega⟩
    · have hlt' : decide ((i : Int) < (T : Int)) = false := decide_eq_false (by omega)
      obtain rfl : i = T := by omega
      go_wp2
      go_end0
      exact ⟨rfl, HMd.out, HG.out⟩
end Go.Proofs.YtaoccjaaopmfdaaGreatDoor

/- Hexes of the program. -/
namespace Go.Proofs.YtaoccjaaopmfdaaGreatDoor
open Go.ChangeShapes Go.WideShapes Go.RowKit

/-- What a decimal or a hex is read as: a word and the end, or the place where it breaks off. -/
def Fin (b : Nat) (m : Int) (s : ByteArray) (k : Nat) (neg : Bool) (x : Nat) (r : Option Nat) (j : Nat) : Prop :=
  ∃ V beh r1 j1, DgR b s k V beh r1 j1 ∧ ((∃ a, r1 = some a ∧ r = some a ∧ j = j1) ∨ (r1 = none ∧ ∃ P r2, Pow m s j1 P r2 j ∧ ((∃ a, r2 = some a ∧ r = some a) ∨
    (r2 = none ∧ r = none ∧ x = signBit neg + (if b = 16 then quoW V 1 (P - 4 * (beh : Int)).toNat (-(P - 4 * (beh : Int))).toNat else decW 10 V (P - (beh : Int)))))))
theorem err_none : errV none = .nilIface := rfl
theorem err_some (k : Nat) : errV (some k) = .iface 98 (.agg #[.int .i64 (k : Int)]) := rfl
theorem pow_range {m : Int} {s : ByteArray} {j i : Nat} {P : Int} {r : Option Nat} (h : Pow m s j P r i) : -10000000 < P ∧ P < 10000000 := by
  rcases h with ⟨_, rfl, _, _⟩ | ⟨_, neg, k, _, _, ⟨_, rfl, _⟩ | ⟨_, _, N, hc, rfl⟩⟩
  · omega
  · omega
  · have := capM_lt hc
    split <;> omega
/-- As the walk leaves a load. -/
theorem LB.cellsFrom {w : World} {B c : Nat} {f : Nat → Nat} {R : List Value} {t : TypeId} (h : LB w B c f R t) : (loadCellsFrom ⟨B, 0, none⟩ 0 152 #[]).run Tryz.prog w = .ok (lgL c f).toArray w := by
  have := run_loadCells_list (P := Tryz.prog) w ⟨B, 0, none⟩ (lgL c f) (fun j v hv => by rw [Addr.add_mid]; exact h.range j v hv)
  rw [lgL_length] at this
  exact this
theorem cnt_one1 : cntOk 1 1 := ⟨by rw [be_eq]; omega, fun _ => by rw [Nat.sub_self, Nat.pow_zero]; omega⟩
theorem len_of {V n : Nat} (h : V < 2 ^ n) : bitLen V ≤ n := by
  rcases Nat.lt_or_ge n (bitLen V) with hlt | hge
  · have h0 : V ≠ 0 := by rintro rfl; simp [bitLen] at hlt
    have h1 := (bitLen_spec V).2 h0
    have h2 : 2 ^ n ≤ 2 ^ (bitLen V - 1) := Nat.pow_le_pow_right (by omega) (by omega)
    omega
  · exact hge
set_option maxHeartbeats 2000000 in
set_option maxRecDepth 100000 in
theorem hex_any (neg : Bool) (G k : Nat) (s : ByteArray) (w : World) (h : Rr w G s k) (hk : k ≤ s.size) (hs : s.size ≤ 1200) (hk2 : 2 ≤ k) :
    Calls Tryz.prog 109 #[.pointer (some ⟨G, 0, none⟩), .bool neg] w fun e w' => ∃ x r j, Fin 16 112 s k neg x r j ∧ j ≤ s.size ∧ e = .returned (.tuple #[.float .f64 (if r = none then x else 0), errV r]) ∧ Rr w' G s j ∧ Mod G w w' := by
  have HDG : Hid _ := fun (_ : Unit) => digits_walk 16 G k s w (by omega) (by omega) h hk hs
  have hGw := h.lt
  have hz := num_zero
  rw [dg_nil] at hz
  obtain ⟨C, hC⟩ : ∃ C, blk 0 (dg 0) [.int .i64 0] = C := ⟨_, rfl⟩
  have HC : Hid (blk 0 (dg 0) [.int .i64 0] = C) := hC
  rw [hC] at hz
  clear hC h
  go_enter Tryz.func109, Tryz.ntmps109
  go_wp2_with fail
  refine (HDG.out ()).mono ?_
  rintro e w1 ⟨V, beh, r1, j1, c, hdg, hj1, hcn, hc, hbe, hV, rfl, hr1, hm1⟩
  have HDR : Hid (DgR 16 s k V beh r1 j1) := hdg
  have HR1 : Hid (Rr w1 G s j1) := hr1
  have HM1 : Hid (Mod G w w1) := hm1
  have HCN : Hid (cntOk c V) := hcn
  have HV : Hid (V < 16 ^ (s.size - k)) := hV
  have HN2 : Hid (LB (w1.alloc (.cells C 196)) w1.heap.size 0 (dg 0) [.int .i64 0] 196) := by
    have h := LB.new w1 0 (dg 0) [.int .i64 0] 196
    rw [HC.out] at h; exact h
  have hst := LB.cellsNum HN2.out (blk c (dg V) [.int .i64 (beh : Int)]) (by rw [blk_size]; rfl) (blk_one _ _ _ rfl)
  have hsz : (blk c (dg V) [.int .i64 (beh : Int)]).size = 153 := by rw [blk_size]; rfl
  have HX2 : Hid _ := fun (_ : Unit) => LB.storedNum (c' := c) (f' := dg V) (R' := [.int .i64 (beh : Int)]) HN2.out
  clear hdg hr1 hm1 hcn hV HDG
  cases r1 with
  | some a =>
    rw [err_some]
    go_wp2_with fail
    go_ret2
    have hma := (Mod.refl w1.heap.size (w1.alloc (.cells C 196))).setRow (blk c (dg V) [.int .i64 (beh : Int)])
    exact ⟨0, some a, j1, ⟨V, beh, some a, j1, HDR.out, .inl ⟨a, rfl, rfl, rfl⟩⟩, hj1, rfl, (HR1.out.alloc _).other hma (by have := HR1.out.lt; omega), (HM1.out.alloc _).late hma HM1.out.size⟩
  | none =>
    rw [err_none]
    obtain ⟨N, hN⟩ : ∃ N, w1.heap.size = N := ⟨_, rfl⟩
    have HNN : Hid (w1.heap.size = N) := hN
    obtain ⟨w2, hw2⟩ : ∃ w2, (w1.alloc (.cells C 196)).setRow N (blk c (dg V) [.int .i64 (beh : Int)]) = w2 := ⟨_, rfl⟩
    have HX : Hid (LB w2 N c (dg V) [.int .i64 (beh : Int)] 196) := by
      have h := HX2.out (); rw [hN, hw2] at h; exact h
    have HR2 : Hid (Rr w2 G s j1) := by
      have hma := (Mod.refl w1.heap.size (w1.alloc (.cells C 196))).setRow (blk c (dg V) [.int .i64 (beh : Int)])
      have h := (HR1.out.alloc (.cells C 196)).other hma (by have := HR1.out.lt; omega)
      rw [hN, hw2] at h; exact h
    have HM2 : Hid (Mod G w w2) := by
      have hma := (Mod.refl w1.heap.size (w1.alloc (.cells C 196))).setRow (blk c (dg V) [.int .i64 (beh : Int)])
      have h := (HM1.out.alloc (.cells C 196)).late hma HM1.out.size
      rw [hN, hw2] at h; exact h
    have hGN : G < N := by rw [← hN]; exact HR1.out.lt
    have HNW : Hid (w.heap.size ≤ N) := by rw [← hN]; exact HM1.out.size
    rw [hN] at hst
    have HPW : Hid _ := fun (_ : Unit) => power_any 112 (by decide) G j1 s w2 HR2.out hj1 hs
    clear HX2 HN2 HR1 HM1
    go_wp2_with fail
    clear hw2 hN hst
    refine (HPW.out ()).mono ?_
    rintro e w3 ⟨P, r2, j2, hpw, hj2, rfl, hr3, hm3⟩
    have HPW2 : Hid (Pow 112 s j1 P r2 j2) := hpw
    obtain ⟨p1, p2⟩ := pow_range hpw
    have HR3 : Hid (Rr w3 G s j2) := hr3
    have HM3 : Hid (Mod G w w3) := HM2.out.trans hm3
    have HX3 : Hid (LB w3 N c (dg V) [.int .i64 (beh : Int)] 196) := HX.out.other hm3 (by omega)
    clear hpw hr3 hm3 HPW HX HR2 HM2
    cases r2 with
    | some a =>
      rw [err_some]
      go_wp2_with fail
      go_ret2
      exact ⟨0, some a, j2, ⟨V, beh, none, j1, HDR.out, .inr ⟨rfl, P, some a, HPW2.out, .inl ⟨a, rfl, rfl⟩⟩⟩, hj2, rfl, HR3.out, HM3.out⟩
    | none =>
      rw [err_none]
      obtain ⟨Q, hQ⟩ : ∃ Q : Int, P - 4 * (beh : Int) = Q := ⟨_, rfl⟩
      have w1' : IntKind.i64.wrap (P - IntKind.i64.wrap (4 * (beh : Int))) = Q := by
        rw [show IntKind.i64.wrap (4 * (beh : Int)) = 4 * (beh : Int) by rw [IntKind.wrap_i64]; omega, IntKind.wrap_i64]; omega
      have hbl : bitLen V ≤ 4798 := by
        have h1 := HV.out
        rw [show (16 : Nat) = 2 ^ 4 from rfl, ← Nat.pow_mul] at h1
        have := len_of h1
        omega
      have HNE : Hid (∀ W', Calls Tryz.prog 127 #[.bool neg, .agg (lgL c (dg V)).toArray, lgV 1 1, .int .i64 (IntKind.i64.wrap (P - IntKind.i64.wrap (4 * (beh : Int))))] W' fun e w'' => e = .returned (.float .f64 (signBit neg + quoW V 1 Q.toNat (-Q).toNat)) ∧ Below W'.heap.size W' w'') := fun W' => by
        rw [w1']
        exact nearest_any neg V 1 c 1 Q.toNat (-Q).toNat Q W' HCN.out hc cnt_one1 (by omega) (by omega) hbl (by decide) (by omega) (by omega) (by omega)
      have HQ : Hid (P - 4 * (beh : Int) = Q) := hQ
      have hN3 := HX3.out.lt
      have hbh := HX3.out.beh
      obtain ⟨d9, hd9, hr9⟩ := lg_desc
      have hi9 : (Tryz.prog.info? 112).map (·.size) = some (lgL c (dg V)).length := by rw [lgL_length]; exact lg_size
      clear hQ w1' hbl
      go_wp2_with fail
      refine wp_region_held_drew (S := fun w' => LB w' N c (dg V) [.int .i64 (beh : Int)] 196 ∧ Below w3.heap.size w3 w') (by kernel_rfl) ⟨HX3.out, (Below.refl _ w3).drew⟩ (fun hHeld => ?_)
      refine wpAnyH_take (i := 0) (oi := _) (v := ?v0) rfl (by kernel_rfl) (by kernel_rfl) (by kernel_rfl) (fun _ _ _ h => h) (Or.inl ⟨by rfl, ?y0⟩) (by assumption) ?_
      case y0 => (intro w hSw; go_simp; first | done | with_reducible rfl)
      try simp only [Act.put]
      try simp only [List.setIfInBounds_toArray]
      try simp only [List.set_cons_succ]
      try simp only [List.set_cons_zero]
      refine wpAnyH_take (i := 1) (oi := _) (v := ?v1) rfl (by kernel_rfl) (by kernel_rfl) (by kernel_rfl) (fun _ _ _ h => h) (Or.inl ⟨by rfl, ?y1⟩) (by assumption) ?_
      case y1 => (intro w hSw; go_simp; first | done | with_reducible rfl)
      try simp only [Act.put]
      try simp only [List.setIfInBounds_toArray]
      try simp only [List.set_cons_succ]
      try simp only [List.set_cons_zero]
      refine wpAnyH_take (i := 2) (oi := _) (v := _) rfl (by kernel_rfl) (by kernel_rfl) (by kernel_rfl) (fun _ _ _ h => h) (yieldsIf_load_mid (by rfl) _ _ rfl _ _ rfl (lgL c (dg V)) d9 (fun w h => h.1.range) hd9 hr9 hi9) (by assumption) ?_
      try simp only [Act.put]
      try simp only [List.setIfInBounds_toArray]
      try simp only [List.set_cons_succ]
      try simp only [List.set_cons_zero]
      refine wpAnyH_take (i := 4) (oi := _) (v := ?v4) rfl (by kernel_rfl) (by kernel_rfl) (by kernel_rfl) (fun _ _ _ h => h) (Or.inl ⟨by rfl, ?y4⟩) (by assumption) ?_
      case y4 => (intro w hSw; go_simp; first | done | with_reducible rfl)
      try simp only [Act.put]
      try simp only [List.setIfInBounds_toArray]
      try simp only [List.set_cons_succ]
      try simp only [List.set_cons_zero]
      refine wpAnyH_take (i := 5) (oi := _) (v := ?v5) rfl (by kernel_rfl) (by kernel_rfl) (by kernel_rfl) (fun _ _ _ h => h) (Or.inl ⟨by rfl, ?y5⟩) (by assumption) ?_
      case y5 => (intro w hSw; go_simp; first | done | with_reducible rfl)
      try simp only [Act.put]
      try simp only [List.setIfInBounds_toArray]
      try simp only [List.set_cons_succ]
      try simp only [List.set_cons_zero]
      refine wpAnyH_take (i := 6) (oi := _) (v := ?v6) rfl (by kernel_rfl) (by kernel_rfl) (by kernel_rfl) (fun _ _ _ h => h) (Or.inl ⟨by rfl, ?y6⟩) (by assumption) ?_
      case y6 => (intro w hSw; have hbw := hSw.1.beh; clear hSw; go_simp; first | done | with_reducible rfl)
      try simp only [Act.put]
      try simp only [List.setIfInBounds_toArray]
      try simp only [List.set_cons_succ]
      try simp only [List.set_cons_zero]
      refine wpAnyH_take (i := 7) (oi := _) (v := ?v7) rfl (by kernel_rfl) (by kernel_rfl) (by kernel_rfl) (fun _ _ _ h => h) (Or.inl ⟨by rfl, ?y7⟩) (by assumption) ?_
      case y7 => (intro w hSw; go_simp; first | done | with_reducible rfl)
      try simp only [Act.put]
      try simp only [List.setIfInBounds_toArray]
      try simp only [List.set_cons_succ]
      try simp only [List.set_cons_zero]
      refine wpAnyH_take (i := 8) (oi := _) (v := ?v8) rfl (by kernel_rfl) (by kernel_rfl) (by kernel_rfl) (fun _ _ _ h => h) (Or.inl ⟨by rfl, ?y8⟩) (by assumption) ?_
      case y8 => (intro w hSw; go_simp; first | done | with_reducible rfl)
      try simp only [Act.put]
      try simp only [List.setIfInBounds_toArray]
      try simp only [List.set_cons_succ]
      try simp only [List.set_cons_zero]
      refine wpAnyH_ready (rs := [3]) (by kernel_rfl) (by simp) ?_
      refine AllReadyH.cons (o := _) rfl (fun K hK => ?_) AllReadyH.nil
      go_simp
      refine (largeOf_one _).mono ?_
      rintro e w7 ⟨rfl, hb7⟩
      have HX7 : LB w7 N c (dg V) [.int .i64 (beh : Int)] 196 := (hb7.block N hN3).trans HX3.out
      have HB7 : Below w3.heap.size w3 w7 := ((Below.refl _ w3).drew).trans hb7
      dsimp only
      refine hK.out _ _ ⟨HX7, HB7⟩ (fun hHeld => ?_)
      clear hK K hb7
      try simp only [Act.put]
      try simp only [List.setIfInBounds_toArray]
      try simp only [List.set_cons_succ]
      try simp only [List.set_cons_zero]
      refine wpAnyH_ready (rs := [9]) (by kernel_rfl) (by simp) ?_
      refine AllReadyH.cons (o := _) rfl (fun K hK => ?_) AllReadyH.nil
      go_simp
      refine (HNE.out _).mono ?_
      rintro e w8 ⟨rfl, hb8⟩
      have HX8 : LB w8 N c (dg V) [.int .i64 (beh : Int)] 196 := (hb8.block N HX7.lt).trans HX7
      have HB8 : Below w3.heap.size w3 w8 := HB7.trans (hb8.mono HB7.size)
      dsimp only
      refine hK.out _ _ ⟨HX8, HB8⟩ (fun hHeld => ?_)
      clear hK K hb8
      try simp only [Act.put]
      try simp only [List.setIfInBounds_toArray]
      try simp only [List.set_cons_succ]
      try simp only [List.set_cons_zero]
      refine wpAnyH_ready (rs := [10]) (by kernel_rfl) (by simp) ?_
      refine AllReadyH.cons (o := _) rfl (fun K hK => ?_) AllReadyH.nil
      go_simp
      refine hK.out _ _ ⟨HX8, HB8⟩ (fun hHeld => ?_)
      clear hK K
      try simp only [Act.put]
      try simp only [List.setIfInBounds_toArray]
      try simp only [List.set_cons_succ]
      try simp only [List.set_cons_zero]
      refine wpAnyH_ready (rs := [11]) (by kernel_rfl) (by simp) ?_
      refine AllReadyH.cons (o := _) rfl (fun K hK => ?_) AllReadyH.nil
      go_simp
      refine hK.out _ _ ⟨HX8, HB8⟩ (fun hHeld => ?_)
      clear hK K
      try simp only [Act.put]
      try simp only [List.setIfInBounds_toArray]
      try simp only [List.set_cons_succ]
      try simp only [List.set_cons_zero]
      refine wpAnyH_done (by kernel_rfl) ?_ _
      have HR8 : Hid (Rr w8 G s j2) := HR3.out.below HB8
      have HM8 : Hid (Mod G w w8) := HM3.out.trans (Mod.of_below HB8)
      clear hHeld HX8 HB8 HX7 HB7
      go_wp2
      go_ret2
      exact ⟨_, none, j2, ⟨V, beh, none, j1, HDR.out, .inr ⟨rfl, P, none, HPW2.out, .inr ⟨rfl, rfl, by rw [if_pos rfl, HQ.out]⟩⟩⟩, hj2, rfl, HR8.out, HM8.out⟩
end Go.Proofs.YtaoccjaaopmfdaaGreatDoor

