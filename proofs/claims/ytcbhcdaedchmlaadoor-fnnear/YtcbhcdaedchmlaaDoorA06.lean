import Derived.Test.YtcbhcdaedchmlaaDoorA05
/- Rounding where something lies below a number: it hangs on that alone; plain. -/
namespace Go.Proofs.YtcbhcdaedchmlaaDoor
open Ieee

/-- The number with its lowest bit set: it stands for whatever lies between it and the next. -/
def oddOf (m : Nat) : Nat := m / 2 * 2 + 1
theorem odd_parts (M d : Nat) : M / 2 ^ (d + 1) = M / 2 / 2 ^ d ∧ M % 2 ^ (d + 1) = 2 * (M / 2 % 2 ^ d) + M % 2 := by
  have e1 : M / 2 ^ (d + 1) = M / 2 / 2 ^ d := by rw [Nat.pow_succ, Nat.mul_comm, ← Nat.div_div_eq_div_mul]
  refine ⟨e1, ?_⟩
  have h1 := Nat.div_add_mod M (2 ^ (d + 1))
  have h2 := Nat.div_add_mod (M / 2) (2 ^ d)
  rw [e1, Nat.pow_succ] at h1
  generalize M / 2 / 2 ^ d = q at *
  generalize M / 2 % 2 ^ d = r at *
  rw [Nat.pow_succ]
  generalize M % (2 ^ d * 2) = z at *
  have e3 : 2 ^ d * 2 * q = 2 * (2 ^ d * q) := by rw [Nat.mul_comm (2 ^ d) 2, Nat.mul_assoc]
  rw [e3] at h1
  generalize 2 ^ d * q = g at *
  omega
theorem odd_half (M : Nat) : oddOf M / 2 = M / 2 ∧ oddOf M % 2 = 1 := by unfold oddOf; omega
theorem odd_kept (M d : Nat) (hd : 2 ≤ d) : keptOf (oddOf M) d = if 2 ^ (d - 1) ≤ M % 2 ^ d then M / 2 ^ d + 1 else M / 2 ^ d := by
  obtain ⟨k, rfl⟩ : ∃ k, d = k + 2 := ⟨d - 2, by omega⟩
  unfold keptOf
  obtain ⟨a1, a2⟩ := odd_parts M (k + 1)
  obtain ⟨b1, b2⟩ := odd_parts (oddOf M) (k + 1)
  obtain ⟨c1, c2⟩ := odd_half M
  rw [show k + 2 = k + 1 + 1 from rfl, b1, b2, a1, a2, c1, c2, Nat.add_sub_cancel, Nat.pow_succ]
  generalize M / 2 / (2 ^ k * 2) = q at *
  generalize M / 2 % (2 ^ k * 2) = r at *
  generalize 2 ^ k = h at *
  by_cases hc : h * 2 ≤ 2 * r + M % 2
  · rw [if_pos (.inl (by omega)), if_pos hc]
  · rw [if_neg (by omega), if_neg hc]
/-- Rounding, as it is reckoned, for every number. -/
theorem cut_kept (s : Bool) (n d : Nat) (hn : 0 < n) (hd : 1 ≤ d) : Toward.even.cut s n d = keptOf n d := by
  obtain ⟨k, rfl⟩ : ∃ k, d = k + 1 := ⟨d - 1, by omega⟩
  have hlt : n < 2 ^ (n.log2 + 1) := Nat.lt_log2_self
  by_cases hl : k + 1 ≤ n.log2 + 2
  · unfold Toward.cut keptOf
    simp only [Nat.shiftLeft_eq, Nat.one_mul]
    rw [Nat.min_eq_left hl, Nat.add_sub_cancel]
    have hp : 2 ^ (k + 1) = 2 * 2 ^ k := by rw [Nat.pow_succ, Nat.mul_comm]
    rw [hp]
    generalize 2 ^ k = g at *
    by_cases hc : g < n % (2 * g) ∨ (n % (2 * g) = g ∧ n / (2 * g) % 2 = 1)
    · rw [if_pos hc]
      have : (decide (2 * g < 2 * (n % (2 * g))) || (2 * g == 2 * (n % (2 * g)) && n / (2 * g) % 2 == 1)) = true := by
        rcases hc with h | ⟨h1, h2⟩
        · rw [decide_eq_true (by omega), Bool.true_or]
        · rw [h1, h2]; simp
      rw [this]; rfl
    · rw [if_neg hc]
      have : (decide (2 * g < 2 * (n % (2 * g))) || (2 * g == 2 * (n % (2 * g)) && n / (2 * g) % 2 == 1)) = false := by
        rw [Bool.or_eq_false_iff]
        refine ⟨decide_eq_false (by omega), ?_⟩
        rw [Bool.and_eq_false_iff]
        by_cases h1 : n % (2 * g) = g
        · right
          have : ¬ n / (2 * g) % 2 = 1 := fun h => hc (.inr ⟨h1, h⟩)
          simpa using this
        · left
          rw [beq_eq_false_iff_ne]; omega
      rw [this]; rfl
  · have hk : 2 ^ (n.log2 + 1) ≤ 2 ^ k := Nat.pow_le_pow_right (by omega) (by omega)
    have hp : 2 ^ (k + 1) = 2 * 2 ^ k := by rw [Nat.pow_succ, Nat.mul_comm]
    have e0 : keptOf n (k + 1) = 0 := by
      unfold keptOf
      rw [Nat.add_sub_cancel, Nat.mod_eq_of_lt (by omega), Nat.div_eq_of_lt (by omega), if_neg (by omega)]
    rw [e0]
    unfold Toward.cut
    simp only [Nat.shiftLeft_eq, Nat.one_mul]
    rw [Nat.min_eq_right (by omega)]
    have hp2 : 2 ^ (n.log2 + 2) = 2 * 2 ^ (n.log2 + 1) := by rw [show n.log2 + 2 = n.log2 + 1 + 1 from rfl, Nat.pow_succ, Nat.mul_comm]
    rw [hp2]
    generalize 2 ^ (n.log2 + 1) = g at *
    have e1 : n / (2 * g) = 0 := Nat.div_eq_of_lt (by omega)
    have e2 : n % (2 * g) = n := Nat.mod_eq_of_lt (by omega)
    rw [e1, e2]
    have : (decide (2 * g < 2 * n) || (2 * g == 2 * n && 0 % 2 == 1)) = false := by
      rw [Bool.or_eq_false_iff]
      exact ⟨decide_eq_false (by omega), by simp⟩
    rw [this]; rfl
theorem odd_log2 (m : Nat) (h : 2 ≤ m) : (oddOf m).log2 = m.log2 ∧ (2 * m + 1).log2 = m.log2 + 1 := by
  have h1 : 2 ^ m.log2 ≤ m := Nat.log2_self_le (by omega)
  have h2 : m < 2 ^ (m.log2 + 1) := Nat.lt_log2_self
  obtain ⟨k, hk⟩ : ∃ k, m.log2 = k + 1 := by
    have : 1 ≤ m.log2 := (Nat.le_log2 (by omega)).2 (by simpa using h)
    exact ⟨m.log2 - 1, by omega⟩
  rw [hk] at h1 h2
  have e1 : 2 ^ (k + 1) = 2 * 2 ^ k := by rw [Nat.pow_succ, Nat.mul_comm]
  have e2 : 2 ^ (k + 1 + 1) = 2 * (2 * 2 ^ k) := by rw [Nat.pow_succ, e1, Nat.mul_comm]
  have e3 : 2 ^ (k + 1 + 1 + 1) = 2 * (2 * (2 * 2 ^ k)) := by rw [Nat.pow_succ, e2, Nat.mul_comm]
  rw [hk]
  constructor
  · rw [Nat.log2_eq_iff (by unfold oddOf; omega), e1, e2]
    rw [e1] at h1; rw [e2] at h2
    unfold oddOf
    generalize 2 ^ k = g at *
    omega
  · rw [Nat.log2_eq_iff (by omega), e2, e3]
    rw [e1] at h1; rw [e2] at h2
    generalize 2 ^ k = g at *
    omega
theorem odd_twice (m : Nat) : oddOf (2 * m) = 2 * m + 1 := by unfold oddOf; omega
/-- Something below a number of 55 digits or more: one place further down it is still that. -/
theorem fw_stick (s : Bool) (m : Nat) (p : Int) (h : 18014398509481984 ≤ m) : fw s (2 * m + 1) (p - 1) = fw s (oddOf m) p := by
  obtain ⟨l1, l2⟩ := odd_log2 m (by omega)
  have hL : 54 ≤ m.log2 := (Nat.le_log2 (by omega)).2 h
  unfold fw Format.nearest
  rw [if_neg (by omega), if_neg (by unfold oddOf; omega)]
  simp only [word_eq, infRung_eq, binade_eq, least_eq, frac_eq, l1, l2]
  generalize m.log2 = L at *
  have e1 : max (p - 1 + ((L + 1 : Nat) : Int) - ((52 : Nat) : Int)) (-1074) = max (p + (L : Int) - ((52 : Nat) : Int)) (-1074) := by omega
  rw [e1]
  generalize hl : max (p + (L : Int) - ((52 : Nat) : Int)) (-1074) = last at *
  obtain ⟨d, hd, hd2⟩ : ∃ d : Nat, last - p = d ∧ 2 ≤ d := ⟨(last - p).toNat, by omega, by omega⟩
  have f1 : (last - p).toNat = d := by omega
  have f2 : (last - (p - 1)).toNat = d + 1 := by omega
  have f3 : (p - last).toNat = 0 := by omega
  have f4 : (p - 1 - last).toNat = 0 := by omega
  rw [f1, f2, f3, f4, Nat.shiftLeft_zero, Nat.shiftLeft_zero, cut_kept s _ _ (by omega) (by omega), cut_kept s _ _ (by unfold oddOf; omega) (by omega), ← odd_twice, odd_kept _ _ (by omega), odd_kept _ _ (by omega)]
  have g1 := odd_parts (2 * m) d
  have g2 : 2 * m / 2 = m := by omega
  rw [g2] at g1
  rw [g1.1, g1.2, Nat.add_sub_cancel]
  obtain ⟨k, rfl⟩ : ∃ k, d = k + 1 := ⟨d - 1, by omega⟩
  rw [Nat.add_sub_cancel]
  have e2 : 2 ^ (k + 1) = 2 * 2 ^ k := by rw [Nat.pow_succ, Nat.mul_comm]
  generalize m / 2 ^ (k + 1) = q at *
  generalize m % 2 ^ (k + 1) = r at *
  rw [e2]
  generalize 2 ^ k = g at *
  have e3 : (2 * m) % 2 = 0 := by omega
  rw [e3]
  by_cases hc : g ≤ r
  · rw [if_pos (by omega), if_pos hc]
  · rw [if_neg (by omega), if_neg hc]
end Go.Proofs.YtcbhcdaedchmlaaDoor

/- The nearest word of a number in whatever form, reckoned as rounding at a place: plain. -/
namespace Go.Proofs.YtcbhcdaedchmlaaDoor
open Ieee

/-- A number with its lowest digits left out, rounded; or with zeros brought in. -/
def roundN (m : Nat) (d : Int) : Nat := if d ≤ 0 then m * 2 ^ (-d).toNat else keptOf m d.toNat
theorem fw_place (s : Bool) (m : Nat) (e : Int) (h0 : 0 < m) :
    fw s m e = signBit s + min ((max (e + (m.log2 : Int) - 52) (-1074) + 1074).toNat * 4503599627370496 + roundN m (max (e + (m.log2 : Int) - 52) (-1074) - e)) 9218868437227405312 := by
  unfold fw Format.nearest
  rw [if_neg (by omega)]
  simp only [word_eq, infRung_eq, binade_eq, least_eq, frac_eq]
  rw [show e + (m.log2 : Int) - ((52 : Nat) : Int) = e + (m.log2 : Int) - 52 from rfl]
  generalize max (e + (m.log2 : Int) - 52) (-1074) = l
  rw [show (l - -1074).toNat = (l + 1074).toNat by omega]
  unfold roundN
  by_cases hd : l - e ≤ 0
  · rw [if_pos hd, show (l - e).toNat = 0 by omega, cut_zero, Nat.shiftLeft_eq, show (e - l).toNat = (-(l - e)).toNat by omega]
  · rw [if_neg hd, show (e - l).toNat = 0 by omega, Nat.shiftLeft_zero, cut_kept s m _ h0 (by omega)]
/-- What a place far below holds: nothing. -/
theorem log_63 (m : Nat) (h0 : 0 < m) (h : m < 18446744073709551616) : m.log2 ≤ 63 := (norm_64 m h0 h).2.2
theorem kept_small (m L d : Nat) (hm : m < 2 ^ (L + 1)) (hL : L ≤ d + 52) : keptOf m d ≤ 9007199254740992 := by
  have h : m / 2 ^ d < 2 ^ 53 := by
    rw [Nat.div_lt_iff_lt_mul (Nat.two_pow_pos d), ← Nat.pow_add]
    exact Nat.lt_of_lt_of_le hm (Nat.pow_le_pow_right (by omega) (by omega))
  have e : (2 : Nat) ^ 53 = 9007199254740992 := rfl
  unfold keptOf
  split <;> omega
/-- A number of at most 64 digits rounded at the place that a float has for it: at most 53 digits, or one more with zeros. -/
theorem roundN_le (m : Nat) (e : Int) : roundN m (max (e + (m.log2 : Int) - 52) (-1074) - e) ≤ 9007199254740992 := by
  have hlt : m < 2 ^ (m.log2 + 1) := Nat.lt_log2_self
  generalize m.log2 = L at *
  unfold roundN
  by_cases hd : max (e + (L : Int) - 52) (-1074) - e ≤ 0
  · rw [if_pos hd]
    have h1 : m * 2 ^ (-(max (e + (L : Int) - 52) (-1074) - e)).toNat < 2 ^ (L + 1) * 2 ^ (-(max (e + (L : Int) - 52) (-1074) - e)).toNat := Nat.mul_lt_mul_of_pos_right hlt (Nat.two_pow_pos _)
    rw [← Nat.pow_add] at h1
    have h2 : 2 ^ (L + 1 + (-(max (e + (L : Int) - 52) (-1074) - e)).toNat) ≤ 2 ^ 53 := Nat.pow_le_pow_right (by omega) (by omega)
    have e53 : (2 : Nat) ^ 53 = 9007199254740992 := rfl
    omega
  · rw [if_neg hd]
    exact kept_small m L _ hlt (by omega)
/-- The places of a float's number. -/
theorem fw_fits (s : Bool) (m : Nat) (e l : Int) (h0 : 0 < m) (hl : l = max (e + (m.log2 : Int) - 52) (-1074)) (h : l ≤ 971) : fw s m e = signBit s + ((l + 1074).toNat * 4503599627370496 + roundN m (l - e)) := by
  have h1 := fw_place s m e h0
  have h2 := roundN_le m e
  rw [← hl] at h1 h2
  rw [h1, Nat.min_eq_left (by omega)]
theorem fw_over (s : Bool) (m : Nat) (e l : Int) (h0 : 0 < m) (hl : l = max (e + (m.log2 : Int) - 52) (-1074)) (h : 971 < l) : fw s m e = iw s := by
  have h1 := fw_place s m e h0
  rw [← hl] at h1
  have hge : 2 ^ m.log2 ≤ m := Nat.log2_self_le (by omega)
  have hk : 4503599627370496 ≤ roundN m (l - e) := by
    have el : l = e + (m.log2 : Int) - 52 := by omega
    unfold roundN
    have e52 : (2 : Nat) ^ 52 = 4503599627370496 := rfl
    generalize m.log2 = L at *
    by_cases hd : l - e ≤ 0
    · rw [if_pos hd]
      have h3 : 2 ^ L * 2 ^ (-(l - e)).toNat ≤ m * 2 ^ (-(l - e)).toNat := Nat.mul_le_mul_right _ hge
      rw [← Nat.pow_add, show L + (-(l - e)).toNat = 52 by omega] at h3
      omega
    · rw [if_neg hd]
      have h3 : 2 ^ 52 ≤ m / 2 ^ (l - e).toNat := by
        rw [Nat.le_div_iff_mul_le (Nat.two_pow_pos _), ← Nat.pow_add, show 52 + (l - e).toNat = L by omega]
        exact hge
      unfold keptOf
      split <;> omega
  rw [h1]
  unfold iw
  rw [Nat.min_eq_right (by omega)]
end Go.Proofs.YtcbhcdaedchmlaaDoor

/- Rounding, as the program does it. -/
namespace Go.Proofs.YtcbhcdaedchmlaaDoor
open Go.ChangeShapes Go.WideShapes Go.RowKit
open Ieee (double)

theorem and_one (K : Int) (h0 : 0 ≤ K) (h1 : K < 18446744073709551616) : bits .and .u64 K 1 = K % 2 := by
  have h := bits_mask .u64 64 (by decide) (fun n a b => by rw [IntKind.wrap_u64]; omega) 1 (by decide) K h0 (by omega)
  exact h
/-- The numbers that the rounding reckons with. -/
theorem round_vars (x : Int) (k : Nat) (h0 : 0 ≤ x) (hx : x < 18446744073709551616) (hk : 1 ≤ k) (hk' : k ≤ 63) : ∃ K R H : Int,
    x / 2 ^ k = K ∧ IntKind.u64.wrap (2 ^ (k - 1)) = H ∧ bits .and .u64 x (H * 2 - 1) = R ∧ 0 < H ∧ H ≤ 4611686018427387904 ∧ 0 ≤ K ∧ K < 9223372036854775808 ∧ bits .and .u64 K 1 = K % 2
    ∧ K = ((x.toNat / 2 ^ k : Nat) : Int) ∧ R = ((x.toNat % 2 ^ k : Nat) : Int) ∧ H = ((2 ^ (k - 1) : Nat) : Int) := by
  obtain ⟨M, rfl⟩ := Int.eq_ofNat_of_zero_le h0
  rw [Int.toNat_natCast]
  have hq : M / 2 ^ k < 9223372036854775808 := by
    have e : (2 : Nat) ^ 1 ≤ 2 ^ k := Nat.pow_le_pow_right (by omega) hk
    rw [Nat.div_lt_iff_lt_mul (Nat.two_pow_pos k)]
    have e2 : 9223372036854775808 * 2 ^ 1 ≤ 9223372036854775808 * 2 ^ k := Nat.mul_le_mul_left _ e
    omega
  have hH1 : 2 ^ (k - 1) ≤ 2 ^ 62 := Nat.pow_le_pow_right (by omega) (by omega)
  have hH0 : 0 < 2 ^ (k - 1) := Nat.two_pow_pos _
  have e62 : (2 : Nat) ^ 62 = 4611686018427387904 := rfl
  have c1 : (M : Int) / 2 ^ k = ((M / 2 ^ k : Nat) : Int) := by
    rw [Int.natCast_ediv]; congr 1
  have c3 : (2 : Int) ^ (k - 1) = ((2 ^ (k - 1) : Nat) : Int) := (Int.natCast_pow 2 (k - 1)).symm
  have c4 : ((2 ^ (k - 1) : Nat) : Int) * 2 - 1 = 2 ^ k - 1 := by
    rw [← c3, ← Int.pow_succ, show (k - 1).succ = k by omega]
  have hr : bits .and .u64 (M : Int) (2 ^ k - 1) = ((M % 2 ^ k : Nat) : Int) := by
    rw [bits_mask .u64 64 (by decide) (fun n a b => by rw [IntKind.wrap_u64]; omega) k (by omega) (M : Int) h0 (by omega), Int.natCast_emod]
    congr 1
  generalize M / 2 ^ k = q at *
  generalize M % 2 ^ k = r at *
  generalize 2 ^ (k - 1) = h at *
  refine ⟨q, r, h, c1, ?_, by rw [c4]; exact hr, by omega, by omega, by omega, by omega, and_one _ (by omega) (by omega), rfl, rfl, rfl⟩
  rw [c3, IntKind.wrap_u64]; omega

theorem round_neg (m k : Nat) : roundN m (-(k : Int)) = m * 2 ^ k := by
  unfold roundN
  rw [if_pos (by omega), Int.neg_neg, Int.toNat_natCast]
theorem round_pos (m k : Nat) (h : 1 ≤ k) : roundN m (k : Int) = keptOf m k := by
  unfold roundN
  rw [if_neg (by omega), Int.toNat_natCast]

set_option maxHeartbeats 400000 in
/-- Zeros are brought in. -/
theorem roundBits_neg (x : Int) (k : Nat) (h0 : 0 ≤ x) (hk : k ≤ 52) (hm : x.toNat * 2 ^ k ≤ 9007199254740992) (w : World) :
    Calls Tryd.prog 16 #[.int .u64 x, .int .i64 (-(k : Int))] w fun e w' => e = .returned (.int .u64 (roundN x.toNat (-(k : Int)) : Int)) ∧ w' = w := by
  obtain ⟨R, hR, HR⟩ : ∃ R : Int, IntKind.u64.wrap (x * 2 ^ k) = R ∧ Hid (R = ((roundN x.toNat (-(k : Int)) : Nat) : Int)) := by
    refine ⟨_, rfl, ?_⟩
    show IntKind.u64.wrap (x * 2 ^ k) = _
    rw [round_neg]
    obtain ⟨M, rfl⟩ := Int.eq_ofNat_of_zero_le h0
    rw [Int.toNat_natCast] at hm ⊢
    rw [show (M : Int) * 2 ^ k = ((M * 2 ^ k : Nat) : Int) by rw [Int.natCast_mul]; congr 1]
    rw [IntKind.wrap_u64]; omega
  clear hm
  go_enter Tryd.func16, Tryd.ntmps16
  go_wp2
  go_ret
  exact ⟨by rw [← HR.out]; rfl, rfl⟩
set_option maxHeartbeats 400000 in
theorem roundBits_64 (x : Int) (h0 : 0 ≤ x) (hx : x < 18446744073709551616) (w : World) :
    Calls Tryd.prog 16 #[.int .u64 x, .int .i64 64] w fun e w' => e = .returned (.int .u64 (roundN x.toNat 64 : Int)) ∧ w' = w := by
  have hA : bits .and .u64 x 18446744073709551615 = x := by
    have h := bits_mask .u64 64 (by decide) (fun n a b => by rw [IntKind.wrap_u64]; omega) 64 (by decide) x h0 (by omega)
    rw [show (2 : Int) ^ 64 - 1 = 18446744073709551615 by decide] at h
    rw [h]; omega
  have hK : x / 18446744073709551616 = 0 := by omega
  have w1 : IntKind.u64.wrap 18446744073709551616 = 0 := by decide
  have w2 : IntKind.u64.wrap (-1) = 18446744073709551615 := by decide
  have e1 : roundN x.toNat 64 = keptOf x.toNat 64 := round_pos x.toNat 64 (by omega)
  by_cases d1 : 9223372036854775808 < x
  · have HX : Hid (Ending.returned (.int .u64 1) = Ending.returned (.int .u64 (roundN x.toNat 64 : Int))) := by show _ = _; rw [e1, kept_64_up x hx d1]; rfl
    clear e1
    go_enter Tryd.func16, Tryd.ntmps16
    go_wp2
    go_ret
    exact ⟨HX.out, rfl⟩
  · have e2 : keptOf x.toNat 64 = 0 := by
      unfold keptOf
      have e : x.toNat % 2 ^ 64 = x.toNat := Nat.mod_eq_of_lt (by omega)
      have e2 : x.toNat / 2 ^ 64 = 0 := Nat.div_eq_of_lt (by omega)
      rw [e, e2, if_neg (by omega)]
    have HX : Hid (Ending.returned (.int .u64 0) = Ending.returned (.int .u64 (roundN x.toNat 64 : Int))) := by show _ = _; rw [e1, e2]; rfl
    have h10 := and_one 0 (by omega) (by omega)
    clear e1 e2
    by_cases d2 : x = 9223372036854775808
    · subst d2
      have HY : Hid (Ending.returned (.int .u64 0) = Ending.returned (.int .u64 (roundN 9223372036854775808 64 : Int))) := HX.out
      go_enter Tryd.func16, Tryd.ntmps16
      go_wp2
      go_ret
      exact ⟨HY.out, rfl⟩
    · have b2 : (x == 9223372036854775808) = false := beq_eq_false_iff_ne.2 d2
      clear d2
      go_enter Tryd.func16, Tryd.ntmps16
      go_wp2
      go_ret
      exact ⟨HX.out, rfl⟩
set_option maxHeartbeats 400000 in
theorem roundBits_pos (x : Int) (k : Nat) (h0 : 0 ≤ x) (hx : x < 18446744073709551616) (hk : 1 ≤ k) (hk' : k ≤ 63) (w : World) :
    Calls Tryd.prog 16 #[.int .u64 x, .int .i64 (k : Int)] w fun e w' => e = .returned (.int .u64 (roundN x.toNat (k : Int) : Int)) ∧ w' = w := by
  obtain ⟨K, R, H, hK, hH, hR, g0, g1, k0, k1, ho, F1, F2, F3⟩ := round_vars x k h0 hx hk hk'
  have HU : Hid _ := fun h => (round_pos x.toNat k hk).trans (kept_up x.toNat k K R H F1 F2 F3 h)
  have HD : Hid _ := fun h => (round_pos x.toNat k hk).trans (kept_down x.toNat k K R H F1 F2 F3 h)
  clear F1 F2 F3
  have c1 : (k : Int) ≤ 63 := by omega
  have c2 : 1 ≤ (k : Int) := by omega
  by_cases d1 : H < R
  · have HX : Hid (K + 1 = ((roundN x.toNat (k : Int) : Nat) : Int)) := by show _ = _; rw [HU.out (.inl d1)]; omega
    clear HU HD
    go_enter Tryd.func16, Tryd.ntmps16
    go_wp2
    go_ret
    exact ⟨by rw [← HX.out]; rfl, rfl⟩
  · by_cases d2 : R = H
    · have b2 : (R == H) = true := beq_iff_eq.2 d2
      by_cases d3 : K % 2 = 1
      · have b3 : (K % 2 == 1) = true := beq_iff_eq.2 d3
        have HX : Hid (K + 1 = ((roundN x.toNat (k : Int) : Nat) : Int)) := by show _ = _; rw [HU.out (.inr ⟨d2, d3⟩)]; omega
        clear HU HD d2 d3
        go_enter Tryd.func16, Tryd.ntmps16
        go_wp2
        go_ret
        exact ⟨by rw [← HX.out]; rfl, rfl⟩
      · have b3 : (K % 2 == 1) = false := beq_eq_false_iff_ne.2 d3
        have HX : Hid (K = ((roundN x.toNat (k : Int) : Nat) : Int)) := by show _ = _; rw [HD.out (.inr ⟨d2, d3⟩)]; omega
        clear HU HD d2 d3
        go_enter Tryd.func16, Tryd.ntmps16
        go_wp2
        go_ret
        exact ⟨by rw [← HX.out]; rfl, rfl⟩
    · have b2 : (R == H) = false := beq_eq_false_iff_ne.2 d2
      have HX : Hid (K = ((roundN x.toNat (k : Int) : Nat) : Int)) := by show _ = _; rw [HD.out (.inl (by omega))]; omega
      clear HU HD d2
      go_enter Tryd.func16, Tryd.ntmps16
      go_wp2
      go_ret
      exact ⟨by rw [← HX.out]; rfl, rfl⟩
theorem roundBits_any (x d : Int) (h0 : 0 ≤ x) (hx : x < 18446744073709551616) (h1 : -52 ≤ d) (h2 : d ≤ 64) (hle : roundN x.toNat d ≤ 9007199254740992) (w : World) :
    Calls Tryd.prog 16 #[.int .u64 x, .int .i64 d] w fun e w' => e = .returned (.int .u64 (roundN x.toNat d : Int)) ∧ w' = w := by
  by_cases c : d ≤ 0
  · obtain ⟨k, rfl⟩ : ∃ k : Nat, d = -(k : Int) := ⟨(-d).toNat, by omega⟩
    rw [round_neg] at hle
    exact roundBits_neg x k h0 (by omega) hle w
  · obtain ⟨k, rfl⟩ : ∃ k : Nat, d = (k : Int) := ⟨d.toNat, by omega⟩
    by_cases c2 : k = 64
    · subst c2
      exact roundBits_64 x h0 hx w
    · exact roundBits_pos x k h0 hx (by omega) (by omega) w
end Go.Proofs.YtcbhcdaedchmlaaDoor

