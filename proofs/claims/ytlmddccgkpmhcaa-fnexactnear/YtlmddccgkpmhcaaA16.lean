import Derived.Test.YtlmddccgkpmhcaaA13
import Derived.Test.YtlmddccgkpmhcaaA15
/- Rounding, as the program does it. -/
namespace Go.Proofs.Ytlmddccgkpmhcaa
open Go.ChangeShapes Go.WideShapes Go.RowKit
open Ieee (double)

theorem and_one (K : Int) (h0 : 0 ≤ K) (h1 : K < 18446744073709551616) : bits .and .u64 K 1 = K % 2 := by
  have h := bits_mask .u64 64 (by decide) (fun n a b => by rw [IntKind.wrap_u64]; omega) 1 (by decide) K h0 (by omega)
  exact h
/-- The numbers that the rounding reckons with. -/
theorem round_vars (x : Int) (k : Nat) (h0 : 0 ≤ x) (hx : x < 18446744073709551616) (hk : 1 ≤ k) (hk' : k ≤ 63) : ∃ K R H : Int,
    x / 2 ^ k = K ∧ IntKind.u64.wrap (2 ^ (k - 1)) = H ∧ bits .and .u64 x (H * 2 - 1) = R ∧ 0 < H ∧ H ≤ 4611686018427387904 ∧ 0 ≤ K ∧ K < 9223372036854775808 ∧ bits .and .u64 K 1 = K % 2
    ∧ K = ((x.toNat / 2 ^ k : Nat) : Int) ∧ R = ((x.toNat % 2 ^ k : Nat) : Int) ∧ H = ((2 ^ (k - 1) : Nat) : Int) := by
  obtain ⟨M, rfl⟩ := Int.eq_ofNat_of_zero_le h0
  rw [Int.toNat_natCast]
  have hq : M / 2 ^ k < 9223372036854775808 := by
    have e : (2 : Nat) ^ 1 ≤ 2 ^ k := Nat.pow_le_pow_right (by omega) hk
    rw [Nat.div_lt_iff_lt_mul (Nat.two_pow_pos k)]
    have e2 : 9223372036854775808 * 2 ^ 1 ≤ 9223372036854775808 * 2 ^ k := Nat.mul_le_mul_left _ e
    omega
  have hH1 : 2 ^ (k - 1) ≤ 2 ^ 62 := Nat.pow_le_pow_right (by omega) (by omega)
  have hH0 : 0 < 2 ^ (k - 1) := Nat.two_pow_pos _
  have e62 : (2 : Nat) ^ 62 = 4611686018427387904 := rfl
  have c1 : (M : Int) / 2 ^ k = ((M / 2 ^ k : Nat) : Int) := by
    rw [Int.natCast_ediv]; congr 1
  have c3 : (2 : Int) ^ (k - 1) = ((2 ^ (k - 1) : Nat) : Int) := (Int.natCast_pow 2 (k - 1)).symm
  have c4 : ((2 ^ (k - 1) : Nat) : Int) * 2 - 1 = 2 ^ k - 1 := by
    rw [← c3, ← Int.pow_succ, show (k - 1).succ = k by omega]
  have hr : bits .and .u64 (M : Int) (2 ^ k - 1) = ((M % 2 ^ k : Nat) : Int) := by
    rw [bits_mask .u64 64 (by decide) (fun n a b => by rw [IntKind.wrap_u64]; omega) k (by omega) (M : Int) h0 (by omega), Int.natCast_emod]
    congr 1
  generalize M / 2 ^ k = q at *
  generalize M % 2 ^ k = r at *
  generalize 2 ^ (k - 1) = h at *
  refine ⟨q, r, h, c1, ?_, by rw [c4]; exact hr, by omega, by omega, by omega, by omega, and_one _ (by omega) (by omega), rfl, rfl, rfl⟩
  rw [c3, IntKind.wrap_u64]; omega

theorem round_neg (m k : Nat) : roundN m (-(k : Int)) = m * 2 ^ k := by
  unfold roundN
  rw [if_pos (by omega), Int.neg_neg, Int.toNat_natCast]
theorem round_pos (m k : Nat) (h : 1 ≤ k) : roundN m (k : Int) = keptOf m k := by
  unfold roundN
  rw [if_neg (by omega), Int.toNat_natCast]

set_option maxHeartbeats 400000 in
/-- Zeros are brought in. -/
theorem roundBits_neg (x : Int) (k : Nat) (h0 : 0 ≤ x) (hk : k ≤ 52) (hm : x.toNat * 2 ^ k ≤ 9007199254740992) (w : World) :
    Calls Try.prog 13 #[.int .u64 x, .int .i64 (-(k : Int))] w fun e w' => e = .returned (.int .u64 (roundN x.toNat (-(k : Int)) : Int)) ∧ w' = w := by
  obtain ⟨R, hR, HR⟩ : ∃ R : Int, IntKind.u64.wrap (x * 2 ^ k) = R ∧ Hid (R = ((roundN x.toNat (-(k : Int)) : Nat) : Int)) := by
    refine ⟨_, rfl, ?_⟩
    show IntKind.u64.wrap (x * 2 ^ k) = _
    rw [round_neg]
    obtain ⟨M, rfl⟩ := Int.eq_ofNat_of_zero_le h0
    rw [Int.toNat_natCast] at hm ⊢
    rw [show (M : Int) * 2 ^ k = ((M * 2 ^ k : Nat) : Int) by rw [Int.natCast_mul]; congr 1]
    rw [IntKind.wrap_u64]; omega
  clear hm
  go_enter Try.func13, Try.ntmps13
  go_wp2
  go_ret
  exact ⟨by rw [← HR.out]; rfl, rfl⟩
set_option maxHeartbeats 400000 in
theorem roundBits_64 (x : Int) (h0 : 0 ≤ x) (hx : x < 18446744073709551616) (w : World) :
    Calls Try.prog 13 #[.int .u64 x, .int .i64 64] w fun e w' => e = .returned (.int .u64 (roundN x.toNat 64 : Int)) ∧ w' = w := by
  have hA : bits .and .u64 x 18446744073709551615 = x := by
    have h := bits_mask .u64 64 (by decide) (fun n a b => by rw [IntKind.wrap_u64]; omega) 64 (by decide) x h0 (by omega)
    rw [show (2 : Int) ^ 64 - 1 = 18446744073709551615 by decide] at h
    rw [h]; omega
  have hK : x / 18446744073709551616 = 0 := by omega
  have w1 : IntKind.u64.wrap 18446744073709551616 = 0 := by decide
  have w2 : IntKind.u64.wrap (-1) = 18446744073709551615 := by decide
  have e1 : roundN x.toNat 64 = keptOf x.toNat 64 := round_pos x.toNat 64 (by omega)
  by_cases d1 : 9223372036854775808 < x
  · have HX : Hid (Ending.returned (.int .u64 1) = Ending.returned (.int .u64 (roundN x.toNat 64 : Int))) := by show _ = _; rw [e1, kept_64_up x hx d1]; rfl
    clear e1
    go_enter Try.func13, Try.ntmps13
    go_wp2
    go_ret
    exact ⟨HX.out, rfl⟩
  · have e2 : keptOf x.toNat 64 = 0 := by
      unfold keptOf
      have e : x.toNat % 2 ^ 64 = x.toNat := Nat.mod_eq_of_lt (by omega)
      have e2 : x.toNat / 2 ^ 64 = 0 := Nat.div_eq_of_lt (by omega)
      rw [e, e2, if_neg (by omega)]
    have HX : Hid (Ending.returned (.int .u64 0) = Ending.returned (.int .u64 (roundN x.toNat 64 : Int))) := by show _ = _; rw [e1, e2]; rfl
    have h10 := and_one 0 (by omega) (by omega)
    clear e1 e2
    by_cases d2 : x = 9223372036854775808
    · subst d2
      have HY : Hid (Ending.returned (.int .u64 0) = Ending.returned (.int .u64 (roundN 9223372036854775808 64 : Int))) := HX.out
      go_enter Try.func13, Try.ntmps13
      go_wp2
      go_ret
      exact ⟨HY.out, rfl⟩
    · have b2 : (x == 9223372036854775808) = false := beq_eq_false_iff_ne.2 d2
      clear d2
      go_enter Try.func13, Try.ntmps13
      go_wp2
      go_ret
      exact ⟨HX.out, rfl⟩
set_option maxHeartbeats 400000 in
theorem roundBits_pos (x : Int) (k : Nat) (h0 : 0 ≤ x) (hx : x < 18446744073709551616) (hk : 1 ≤ k) (hk' : k ≤ 63) (w : World) :
    Calls Try.prog 13 #[.int .u64 x, .int .i64 (k : Int)] w fun e w' => e = .returned (.int .u64 (roundN x.toNat (k : Int) : Int)) ∧ w' = w := by
  obtain ⟨K, R, H, hK, hH, hR, g0, g1, k0, k1, ho, F1, F2, F3⟩ := round_vars x k h0 hx hk hk'
  have HU : Hid _ := fun h => (round_pos x.toNat k hk).trans (kept_up x.toNat k K R H F1 F2 F3 h)
  have HD : Hid _ := fun h => (round_pos x.toNat k hk).trans (kept_down x.toNat k K R H F1 F2 F3 h)
  clear F1 F2 F3
  have c1 : (k : Int) ≤ 63 := by omega
  have c2 : 1 ≤ (k : Int) := by omega
  by_cases d1 : H < R
  · have HX : Hid (K + 1 = ((roundN x.toNat (k : Int) : Nat) : Int)) := by show _ = _; rw [HU.out (.inl d1)]; omega
    clear HU HD
    go_enter Try.func13, Try.ntmps13
    go_wp2
    go_ret
    exact ⟨by rw [← HX.out]; rfl, rfl⟩
  · by_cases d2 : R = H
    · have b2 : (R == H) = true := beq_iff_eq.2 d2
      by_cases d3 : K % 2 = 1
      · have b3 : (K % 2 == 1) = true := beq_iff_eq.2 d3
        have HX : Hid (K + 1 = ((roundN x.toNat (k : Int) : Nat) : Int)) := by show _ = _; rw [HU.out (.inr ⟨d2, d3⟩)]; omega
        clear HU HD d2 d3
        go_enter Try.func13, Try.ntmps13
        go_wp2
        go_ret
        exact ⟨by rw [← HX.out]; rfl, rfl⟩
      · have b3 : (K % 2 == 1) = false := beq_eq_false_iff_ne.2 d3
        have HX : Hid (K = ((roundN x.toNat (k : Int) : Nat) : Int)) := by show _ = _; rw [HD.out (.inr ⟨d2, d3⟩)]; omega
        clear HU HD d2 d3
        go_enter Try.func13, Try.ntmps13
        go_wp2
        go_ret
        exact ⟨by rw [← HX.out]; rfl, rfl⟩
    · have b2 : (R == H) = false := beq_eq_false_iff_ne.2 d2
      have HX : Hid (K = ((roundN x.toNat (k : Int) : Nat) : Int)) := by show _ = _; rw [HD.out (.inl (by omega))]; omega
      clear HU HD d2
      go_enter Try.func13, Try.ntmps13
      go_wp2
      go_ret
      exact ⟨by rw [← HX.out]; rfl, rfl⟩
theorem roundBits_any (x d : Int) (h0 : 0 ≤ x) (hx : x < 18446744073709551616) (h1 : -52 ≤ d) (h2 : d ≤ 64) (hle : roundN x.toNat d ≤ 9007199254740992) (w : World) :
    Calls Try.prog 13 #[.int .u64 x, .int .i64 d] w fun e w' => e = .returned (.int .u64 (roundN x.toNat d : Int)) ∧ w' = w := by
  by_cases c : d ≤ 0
  · obtain ⟨k, rfl⟩ : ∃ k : Nat, d = -(k : Int) := ⟨(-d).toNat, by omega⟩
    rw [round_neg] at hle
    exact roundBits_neg x k h0 (by omega) hle w
  · obtain ⟨k, rfl⟩ : ∃ k : Nat, d = (k : Int) := ⟨d.toNat, by omega⟩
    by_cases c2 : k = 64
    · subst c2
      exact roundBits_64 x h0 hx w
    · exact roundBits_pos x k h0 hx (by omega) (by omega) w
end Go.Proofs.Ytlmddccgkpmhcaa

