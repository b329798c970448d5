import Derived.Test.YtmcjehjpblkfoaaGreatDoorS11
import Derived.Test.YtmcjehjpblkfoaaGreatDoorS07
import Derived.Test.YtmcjehjpblkfoaaGreatDoorS02
/- Rounding, as the program does it. -/
namespace Go.Proofs.YtmcjehjpblkfoaaGreatDoor
open Go.ChangeShapes Go.WideShapes Go.RowKit
open Ieee (double)

theorem and_one (K : Int) (h0 : 0 ≤ K) (h1 : K < 18446744073709551616) : bits .and .u64 K 1 = K % 2 := by
  have h := bits_mask .u64 64 (by decide) (fun n a b => by rw [IntKind.wrap_u64]; omega) 1 (by decide) K h0 (by omega)
  exact h
/-- The numbers that the rounding reckons with. -/
theorem round_vars (x : Int) (k : Nat) (h0 : 0 ≤ x) (hx : x < 18446744073709551616) (hk : 1 ≤ k) (hk' : k ≤ 63) : ∃ K R H : Int,
    x / 2 ^ k = K ∧ IntKind.u64.wrap (2 ^ (k - 1)) = H ∧ bits .and .u64 x (H * 2 - 1) = R ∧ 0 < H ∧ H ≤ 4611686018427387904 ∧ 0 ≤ K ∧ K < 9223372036854775808 ∧ bits .and .u64 K 1 = K % 2
    ∧ K = ((x.toNat / 2 ^ k : Nat) : Int) ∧ R = ((x.toNat % 2 ^ k : Nat) : Int) ∧ H = ((2 ^ (k - 1) : Nat) : Int) := by
  obtain ⟨M, rfl⟩ := Int.eq_ofNat_of_zero_le h0
  rw [Int.toNat_natCast]
  have hq : M / 2 ^ k < 9223372036854775808 := by
    have e : (2 : Nat) ^ 1 ≤ 2 ^ k := Nat.pow_le_pow_right (by omega) hk
    rw [Nat.div_lt_iff_lt_mul (Nat.two_pow_pos k)]
    have e2 : 9223372036854775808 * 2 ^ 1 ≤ 9223372036854775808 * 2 ^ k := Nat.mul_le_mul_left _ e
    omega
  have hH1 : 2 ^ (k - 1) ≤ 2 ^ 62 := Nat.pow_le_pow_right (by omega) (by omega)
  have hH0 : 0 < 2 ^ (k - 1) := Nat.two_pow_pos _
  have e62 : (2 : Nat) ^ 62 = 4611686018427387904 := rfl
  have c1 : (M : Int) / 2 ^ k = ((M / 2 ^ k : Nat) : Int) := by
    rw [Int.natCast_ediv]; congr 1
  have c3 : (2 : Int) ^ (k - 1) = ((2 ^ (k - 1) : Nat) : Int) := (Int.natCast_pow 2 (k - 1)).symm
  have c4 : ((2 ^ (k - 1) : Nat) : Int) * 2 - 1 = 2 ^ k - 1 := by
    rw [← c3, ← Int.pow_succ, show (k - 1).succ = k by omega]
  have hr : bits .and .u64 (M : Int) (2 ^ k - 1) = ((M % 2 ^ k : Nat) : Int) := by
    rw [bits_mask .u64 64 (by decide) (fun n a b => by rw [IntKind.wrap_u64]; omega) k (by omega) (M : Int) h0 (by omega), Int.natCast_emod]
    congr 1
  generalize M / 2 ^ k = q at *
  generalize M % 2 ^ k = r at *
  generalize 2 ^ (k - 1) = h at *
  refine ⟨q, r, h, c1, ?_, by rw [c4]; exact hr, by omega, by omega, by omega, by omega, and_one _ (by omega) (by omega), rfl, rfl, rfl⟩
  rw [c3, IntKind.wrap_u64]; omega

theorem round_neg (m k : Nat) : roundN m (-(k : Int)) = m * 2 ^ k := by
  unfold roundN
  rw [if_pos (by omega), Int.neg_neg, Int.toNat_natCast]
theorem round_pos (m k : Nat) (h : 1 ≤ k) : roundN m (k : Int) = keptOf m k := by
  unfold roundN
  rw [if_neg (by omega), Int.toNat_natCast]

set_option maxHeartbeats 400000 in
/-- Zeros are brought in. -/
theorem roundBits_neg (x : Int) (k : Nat) (h0 : 0 ≤ x) (hk : k ≤ 52) (hm : x.toNat * 2 ^ k ≤ 9007199254740992) (w : World) :
    Calls Tryz.prog 117 #[.int .u64 x, .int .i64 (-(k : Int))] w fun e w' => e = .returned (.int .u64 (roundN x.toNat (-(k : Int)) : Int)) ∧ w' = w := by
  obtain ⟨R, hR, HR⟩ : ∃ R : Int, IntKind.u64.wrap (x * 2 ^ k) = R ∧ Hid (R = ((roundN x.toNat (-(k : Int)) : Nat) : Int)) := by
    refine ⟨_, rfl, ?_⟩
    show IntKind.u64.wrap (x * 2 ^ k) = _
    rw [round_neg]
    obtain ⟨M, rfl⟩ := Int.eq_ofNat_of_zero_le h0
    rw [Int.toNat_natCast] at hm ⊢
    rw [show (M : Int) * 2 ^ k = ((M * 2 ^ k : Nat) : Int) by rw [Int.natCast_mul]; congr 1]
    rw [IntKind.wrap_u64]; omega
  clear hm
  go_enter Tryz.func117, Tryz.ntmps117
  go_wp2
  go_ret
  exact ⟨by rw [← HR.out]; rfl, rfl⟩
set_option maxHeartbeats 400000 in
theorem roundBits_64 (x : Int) (h0 : 0 ≤ x) (hx : x < 18446744073709551616) (w : World) :
    Calls Tryz.prog 117 #[.int .u64 x, .int .i64 64] w fun e w' => e = .returned (.int .u64 (roundN x.toNat 64 : Int)) ∧ w' = w := by
  have hA : bits .and .u64 x 18446744073709551615 = x := by
    have h := bits_mask .u64 64 (by decide) (fun n a b => by rw [IntKind.wrap_u64]; omega) 64 (by decide) x h0 (by omega)
    rw [show (2 : Int) ^ 64 - 1 = 18446744073709551615 by decide] at h
    rw [h]; omega
  have hK : x / 18446744073709551616 = 0 := by omega
  have w1 : IntKind.u64.wrap 18446744073709551616 = 0 := by decide
  have w2 : IntKind.u64.wrap (-1) = 18446744073709551615 := by decide
  have e1 : roundN x.toNat 64 = keptOf x.toNat 64 := round_pos x.toNat 64 (by omega)
  by_cases d1 : 9223372036854775808 < x
  · have HX : Hid (Ending.returned (.int .u64 1) = Ending.returned (.int .u64 (roundN x.toNat 64 : Int))) := by show _ = _; rw [e1, kept_64_up x hx d1]; rfl
    clear e1
    go_enter Tryz.func117, Tryz.ntmps117
    go_wp2
    go_ret
    exact ⟨HX.out, rfl⟩
  · have e2 : keptOf x.toNat 64 = 0 := by
      unfold keptOf
      have e : x.toNat % 2 ^ 64 = x.toNat := Nat.mod_eq_of_lt (by omega)
      have e2 : x.toNat / 2 ^ 64 = 0 := Nat.div_eq_of_lt (by omega)
      rw [e, e2, if_neg (by omega)]
    have HX : Hid (Ending.returned (.int .u64 0) = Ending.returned (.int .u64 (roundN x.toNat 64 : Int))) := by show _ = _; rw [e1, e2]; rfl
    have h10 := and_one 0 (by omega) (by omega)
    clear e1 e2
    by_cases d2 : x = 9223372036854775808
    · subst d2
      have HY : Hid (Ending.returned (.int .u64 0) = Ending.returned (.int .u64 (roundN 9223372036854775808 64 : Int))) := HX.out
      go_enter Tryz.func117, Tryz.ntmps117
      go_wp2
      go_ret
      exact ⟨HY.out, rfl⟩
    · have b2 : (x == 9223372036854775808) = false := beq_eq_false_iff_ne.2 d2
      clear d2
      go_enter Tryz.func117, Tryz.ntmps117
      go_wp2
      go_ret
      exact ⟨HX.out, rfl⟩
set_option maxHeartbeats 400000 in
theorem roundBits_pos (x : Int) (k : Nat) (h0 : 0 ≤ x) (hx : x < 18446744073709551616) (hk : 1 ≤ k) (hk' : k ≤ 63) (w : World) :
    Calls Tryz.prog 117 #[.int .u64 x, .int .i64 (k : Int)] w fun e w' => e = .returned (.int .u64 (roundN x.toNat (k : Int) : Int)) ∧ w' = w := by
  obtain ⟨K, R, H, hK, hH, hR, g0, g1, k0, k1, ho, F1, F2, F3⟩ := round_vars x k h0 hx hk hk'
  have HU : Hid _ := fun h => (round_pos x.toNat k hk).trans (kept_up x.toNat k K R H F1 F2 F3 h)
  have HD : Hid _ := fun h => (round_pos x.toNat k hk).trans (kept_down x.toNat k K R H F1 F2 F3 h)
  clear F1 F2 F3
  have c1 : (k : Int) ≤ 63 := by omega
  have c2 : 1 ≤ (k : Int) := by omega
  by_cases d1 : H < R
  · have HX : Hid (K + 1 = ((roundN x.toNat (k : Int) : Nat) : Int)) := by show _ = _; rw [HU.out (.inl d1)]; omega
    clear HU HD
    go_enter Tryz.func117, Tryz.ntmps117
    go_wp2
    go_ret
    exact ⟨by rw [← HX.out]; rfl, rfl⟩
  · by_cases d2 : R = H
    · have b2 : (R == H) = true := beq_iff_eq.2 d2
      by_cases d3 : K % 2 = 1
      · have b3 : (K % 2 == 1) = true := beq_iff_eq.2 d3
        have HX : Hid (K + 1 = ((roundN x.toNat (k : Int) : Nat) : Int)) := by show _ = _; rw [HU.out (.inr ⟨d2, d3⟩)]; omega
        clear HU HD d2 d3
        go_enter Tryz.func117, Tryz.ntmps117
        go_wp2
        go_ret
        exact ⟨by rw [← HX.out]; rfl, rfl⟩
      · have b3 : (K % 2 == 1) = false := beq_eq_false_iff_ne.2 d3
        have HX : Hid (K = ((roundN x.toNat (k : Int) : Nat) : Int)) := by show _ = _; rw [HD.out (.inr ⟨d2, d3⟩)]; omega
        clear HU HD d2 d3
        go_enter Tryz.func117, Tryz.ntmps117
        go_wp2
        go_ret
        exact ⟨by rw [← HX.out]; rfl, rfl⟩
    · have b2 : (R == H) = false := beq_eq_false_iff_ne.2 d2
      have HX : Hid (K = ((roundN x.toNat (k : Int) : Nat) : Int)) := by show _ = _; rw [HD.out (.inl (by omega))]; omega
      clear HU HD d2
      go_enter Tryz.func117, Tryz.ntmps117
      go_wp2
      go_ret
      exact ⟨by rw [← HX.out]; rfl, rfl⟩
theorem roundBits_any (x d : Int) (h0 : 0 ≤ x) (hx : x < 18446744073709551616) (h1 : -52 ≤ d) (h2 : d ≤ 64) (hle : roundN x.toNat d ≤ 9007199254740992) (w : World) :
    Calls Tryz.prog 117 #[.int .u64 x, .int .i64 d] w fun e w' => e = .returned (.int .u64 (roundN x.toNat d : Int)) ∧ w' = w := by
  by_cases c : d ≤ 0
  · obtain ⟨k, rfl⟩ : ∃ k : Nat, d = -(k : Int) := ⟨(-d).toNat, by omega⟩
    rw [round_neg] at hle
    exact roundBits_neg x k h0 (by omega) hle w
  · obtain ⟨k, rfl⟩ : ∃ k : Nat, d = (k : Int) := ⟨d.toNat, by omega⟩
    by_cases c2 : k = 64
    · subst c2
      exact roundBits_64 x h0 hx w
    · exact roundBits_pos x k h0 hx (by omega) (by omega) w
end Go.Proofs.YtmcjehjpblkfoaaGreatDoor

/- A float's bits as the program lays them: plain facts. -/
namespace Go.Proofs.YtmcjehjpblkfoaaGreatDoor
open Go.ChangeShapes Go.WideShapes Go.RowKit
open Ieee (double)

theorem and_top (U : Nat) (s : Bool) (r : Nat) (hr : r < 9223372036854775808) (hU : U = signBit s + r) : bits .and .u64 (U : Int) 9223372036854775808 = (signBit s : Int) := by
  have hlt : U < 18446744073709551616 := by cases s <;> simp only [signBit] at hU <;> simp at hU <;> omega
  have e := bits_and_u64_nat U 9223372036854775808 hlt (by omega)
  rw [show ((9223372036854775808 : Nat) : Int) = 9223372036854775808 from rfl] at e
  rw [e]
  congr 1
  have hb : r.testBit 63 = false := Nat.testBit_lt_two_pow hr
  apply Nat.eq_of_testBit_eq
  intro i
  rw [Nat.testBit_and, show (9223372036854775808 : Nat) = 2 ^ 63 from rfl, Nat.testBit_two_pow]
  cases s
  · rw [hU]
    show ((0 + r).testBit i && _) = (0 : Nat).testBit i
    rw [Nat.zero_add, Nat.zero_testBit]
    by_cases hi : 63 = i
    · subst hi; rw [hb]; rfl
    · rw [decide_eq_false hi, Bool.and_false]
  · rw [hU]
    show ((2 ^ 63 + r).testBit i && _) = (2 ^ 63 : Nat).testBit i
    rw [Nat.testBit_two_pow]
    by_cases hi : 63 = i
    · subst hi
      rw [Nat.testBit_two_pow_add_eq, hb]; rfl
    · rw [decide_eq_false hi, Bool.and_false]
/-- What a walk is told of a word. -/
def Lays (U : Nat) (s : Bool) (E M : Nat) : Prop :=
  (bits .and .u64 (U : Int) 9223372036854775808 != 0) = s ∧ bits .and .u64 ((U : Int) / 4503599627370496) 2047 = (E : Int) ∧ bits .and .u64 (U : Int) 4503599627370495 = (M : Int)
theorem lays_any (U : Nat) (s : Bool) (E M : Nat) (hE : E < 2048) (hM : M < 4503599627370496) (hU : U = signBit s + (E * 4503599627370496 + M)) : Lays U s E M := by
  have hlt : U < 18446744073709551616 := by cases s <;> simp only [signBit] at hU <;> simp at hU <;> omega
  have ha := mask11 ((U : Int) / 4503599627370496) (by omega) (by omega)
  have hb := mask52 (U : Int) (by omega) (by omega)
  have eE : (U : Int) / 4503599627370496 % 2048 = (E : Int) := by cases s <;> simp only [signBit] at hU <;> simp at hU <;> omega
  have eM : (U : Int) % 4503599627370496 = (M : Int) := by cases s <;> simp only [signBit] at hU <;> simp at hU <;> omega
  rw [eE] at ha
  rw [eM] at hb
  refine ⟨?_, ha, hb⟩
  rw [and_top U s _ (by omega) hU]
  cases s <;> rfl
end Go.Proofs.YtmcjehjpblkfoaaGreatDoor

/- A float's bits as the program lays them: word. -/
namespace Go.Proofs.YtmcjehjpblkfoaaGreatDoor
open Go.ChangeShapes Go.WideShapes Go.RowKit
open Ieee (double)

set_option maxHeartbeats 400000 in
theorem word_any (s : Bool) (E M : Nat) (hE : E < 2048) (hM : M < 4503599627370496) (w : World) :
    Calls Tryz.prog 23 #[.agg #[.bool s, .int .u64 E, .int .u64 M]] w fun e w' => e = .returned (.int .u64 ((signBit s + (E * 4503599627370496 + M) : Nat) : Int)) ∧ w' = w.alloc (.cells #[.bool s, .int .u64 E, .int .u64 M] 45) := by
  have h1 := or_low E M hM (by omega)
  have HT : Hid _ := or_top (E * 4503599627370496 + M) (by omega)
  have e0 : ((E * 4503599627370496 + M : Nat) : Int) = (E : Int) * 4503599627370496 + (M : Int) := by omega
  rw [e0] at h1 HT
  cases s
  · have HE : Hid (Ending.returned (.int .u64 ((E : Int) * 4503599627370496 + (M : Int))) = .returned (.int .u64 ((signBit false + (E * 4503599627370496 + M) : Nat) : Int))) := by
      show Ending.returned _ = Ending.returned (.int .u64 ((0 + (E * 4503599627370496 + M) : Nat) : Int))
      rw [Nat.zero_add, e0]
    clear e0 HT
    go_enter Tryz.func23, Tryz.ntmps23
    go_wp2
    go_ret
    exact ⟨HE.out, rfl⟩
  · have h2 := HT.out
    clear e0 HT
    go_enter Tryz.func23, Tryz.ntmps23
    go_wp2
    go_ret
    exact ⟨congrArg (fun t => Ending.returned (.int .u64 t)) (show 9223372036854775808 + ((E : Int) * 4503599627370496 + (M : Int)) = ((9223372036854775808 + (E * 4503599627370496 + M) : Nat) : Int) by omega), rfl⟩

end Go.Proofs.YtmcjehjpblkfoaaGreatDoor

/- A float's bits as the program lays them: float. -/
namespace Go.Proofs.YtmcjehjpblkfoaaGreatDoor
open Go.ChangeShapes Go.WideShapes Go.RowKit
open Ieee (double)

theorem call_frombits (x : Int) (w : World) : (callFunc 22 #[.int .u64 x]).run Tryz.prog w = .ok (.value (.float .f64 x.toNat)) w := by kernel_rfl
set_option maxHeartbeats 400000 in
theorem float_any (s : Bool) (E M : Nat) (hE : E < 2048) (hM : M < 4503599627370496) (w : World) :
    Calls Tryz.prog 21 #[.agg #[.bool s, .int .u64 E, .int .u64 M]] w fun e w' => e = .returned (.float .f64 (signBit s + (E * 4503599627370496 + M))) ∧ w' = (w.alloc (.cells #[.bool s, .int .u64 E, .int .u64 M] 45)).alloc (.cells #[.bool s, .int .u64 E, .int .u64 M] 45) := by
  have HW : Hid _ := fun w => word_any s E M hE hM w
  have hc := call_frombits ((signBit s + (E * 4503599627370496 + M) : Nat) : Int)
  rw [Int.toNat_natCast] at hc
  generalize signBit s + (E * 4503599627370496 + M) = R at *
  clear hE hM
  go_enter Tryz.func21, Tryz.ntmps21
  go_wp2_with (go_at_call 23; refine (HW.out _).mono ?_; rintro e w' ⟨rfl, rfl⟩)
  go_ret
  exact ⟨rfl, rfl⟩
end Go.Proofs.YtmcjehjpblkfoaaGreatDoor

/- A size at its place, as the program lays it. -/
namespace Go.Proofs.YtmcjehjpblkfoaaGreatDoor
open Go.ChangeShapes Go.WideShapes Go.RowKit
open Ieee (double)

set_option maxHeartbeats 400000 in
theorem place_any (s : Bool) (k : Nat) (L : Int) (hk : k ≤ 9007199254740992) (h1 : -1074 ≤ L) (h2 : L ≤ 971) (w : World) :
    Calls Tryz.prog 116 #[.bool s, .int .u64 (k : Int), .int .i64 L] w fun e w' => e = .returned (.float .f64 (signBit s + ((L + 1074).toNat * 4503599627370496 + k))) ∧ w' = w := by
  obtain ⟨a, ha⟩ : ∃ a : Nat, L = (a : Int) - 1074 := ⟨(L + 1074).toNat, by omega⟩
  subst ha
  rw [show ((a : Int) - 1074 + 1074).toNat = a by omega]
  obtain ⟨A, hA⟩ : ∃ A : Int, A = (a : Int) := ⟨_, rfl⟩
  obtain ⟨K, hK⟩ : ∃ K : Int, K = (k : Int) := ⟨_, rfl⟩
  rw [← hA, ← hK]
  have eV : (A * 4503599627370496 + K).toNat = a * 4503599627370496 + k := by omega
  have HO : Hid (bits .or .u64 (A * 4503599627370496 + K) 9223372036854775808 = 9223372036854775808 + (A * 4503599627370496 + K)) := by
    show _ = _
    have h := or_top (a * 4503599627370496 + k) (by omega)
    rw [show ((a * 4503599627370496 + k : Nat) : Int) = A * 4503599627370496 + K by omega] at h
    rw [h]; omega
  have a0 : 0 ≤ A := by omega
  have a1 : A ≤ 2045 := by omega
  have k0 : 0 ≤ K := by omega
  have k1 : K ≤ 9007199254740992 := by omega
  cases s
  · have hc := call_frombits (A * 4503599627370496 + K)
    rw [eV] at hc
    clear hA hK eV HO hk h1 h2
    go_enter Tryz.func116, Tryz.ntmps116
    go_wp2
    go_ret
    exact ⟨by show Ending.returned (.float .f64 (a * 4503599627370496 + k)) = Ending.returned (.float .f64 (0 + (a * 4503599627370496 + k))); rw [Nat.zero_add], rfl⟩
  · have hc := call_frombits (9223372036854775808 + (A * 4503599627370496 + K))
    rw [show (9223372036854775808 + (A * 4503599627370496 + K)).toNat = 9223372036854775808 + (a * 4503599627370496 + k) by omega] at hc
    have ho := HO.out
    clear hA hK eV HO hk h1 h2
    go_enter Tryz.func116, Tryz.ntmps116
    go_wp2
    go_ret
    exact ⟨rfl, rfl⟩
end Go.Proofs.YtmcjehjpblkfoaaGreatDoor

/- A float's bits as the program lays them: infinity. -/
namespace Go.Proofs.YtmcjehjpblkfoaaGreatDoor
open Go.ChangeShapes Go.WideShapes Go.RowKit
open Ieee (double)

set_option maxHeartbeats 400000 in
theorem infinity_any (s : Bool) (w : World) :
    Calls Tryz.prog 19 #[.bool s] w fun e w' => e = .returned (.agg #[.bool s, .int .u64 2047, .int .u64 0]) ∧ w' = w.alloc (.cells #[.bool s, .int .u64 2047, .int .u64 0] 45) := by
  go_enter Tryz.func19, Tryz.ntmps19
  go_wp2
  exact bodyPost_ret (v := .agg #[.bool s, .int .u64 2047, .int .u64 0]) (by simp [results, Tryz.results19, go_sem]) rfl ⟨rfl, rfl⟩
end Go.Proofs.YtmcjehjpblkfoaaGreatDoor

