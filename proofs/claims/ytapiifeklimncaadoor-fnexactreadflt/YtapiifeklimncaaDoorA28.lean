import Derived.Test.YtapiifeklimncaaDoorA27
import Derived.Test.YtapiifeklimncaaDoorA15
import Derived.Test.YtapiifeklimncaaDoorA07
/- l0times of the specification. -/
namespace Go.Proofs.YtapiifeklimncaaDoor
open Go.ChangeShapes Go.WideShapes Go.RowKit

theorem bval_drop (a : List Nat) (k : Nat) (h : k < a.length) : bval (a.drop k) = a.getD k 0 + 4294967296 * bval (a.drop (k + 1)) := by
  rw [List.drop_eq_getElem_cons h]
  simp [bval, List.getElem?_eq_getElem h]
theorem drop_lt {a : List Nat} (hl : Lim a) (k n : Nat) (h : a.length ≤ n) : bval (a.drop k) < 4294967296 ^ n := by
  have h1 := bval_lt (a := a.drop k) fun x hx => hl x (List.mem_of_mem_drop hx)
  have h2 : 4294967296 ^ (a.drop k).length ≤ 4294967296 ^ n := Nat.pow_le_pow_right (by omega) (by rw [List.length_drop]; omega)
  omega
theorem mul_bound {a b n m : Nat} (ha : a < 4294967296 ^ n) (hb : b < 4294967296 ^ m) : a * b < 4294967296 ^ (n + m) := by
  rw [Nat.pow_add]
  exact Nat.mul_lt_mul_of_lt_of_le ha (Nat.le_of_lt hb) (Nat.pow_pos (by omega))
theorem times_round (A y d : Nat) : A * d * 2 ^ 32 + (A * y + 0) = A * (y + 4294967296 * d) := by
  have e : (2 : Nat) ^ 32 = 4294967296 := rfl
  rw [e, Nat.mul_add, Nat.add_zero, Nat.mul_comm 4294967296 d, ← Nat.mul_assoc]
  omega
theorem shl_bound {x n : Nat} (h : x < 4294967296 ^ n) : x * 2 ^ 32 < 4294967296 ^ (n + 1) := by
  have e : (2 : Nat) ^ 32 = 4294967296 := rfl
  rw [e, Nat.pow_succ]
  exact Nat.mul_lt_mul_of_pos_right h (by omega)
theorem part_bound {A y n : Nat} (h : A < 4294967296 ^ n) (hy : y < 4294967296) : A * y + 0 < 4294967296 ^ (n + n + 1) := by
  have h1 := mul_bound h (m := 1) (b := y) (by omega)
  have h2 : 4294967296 ^ (n + 1) ≤ 4294967296 ^ (n + n + 1) := Nat.pow_le_pow_right (by omega) (by omega)
  omega

set_option maxHeartbeats 3200000 in
set_option maxRecDepth 100000 in
theorem l0times_any (v u : Value) (A C n : Nat) (w : World) (h : Big w v A) (h' : Big w u C) (hA : A < 4294967296 ^ n) (hC : C < 4294967296 ^ n) (hn : n < 200000) :
    Calls Tryd.prog 24 #[v, u] w fun e w' => ∃ v', e = .returned v' ∧ Below w.heap.size w w' ∧ Big w' v' (A * C) := by
  obtain ⟨ms, b1, b2, b3, rfl⟩ := h'
  have hlen := trim_len b3 hC
  obtain ⟨bo, bcap, rfl, bc, bm, bh⟩ := b1
  have bm' : bcap ≤ 9223372036854775807 := bm
  have HA : Hid (Big w v A) := h
  have HB : Hid _ := bh
  have LB : Hid _ := b2
  have HP : Hid _ := fun k => mul_bound hA (drop_lt b2 k n hlen)
  have HQ : Hid (A < 4294967296 ^ n) := hA
  clear h bh bm b2 b3 hC hA
  go_enter Tryd.func24, Tryd.ntmps24
  go_wp2
  go_loopw [5, 6] (fun v i wr => ∃ k : Nat, i = .int .i64 ((k : Int) - 1) ∧ k ≤ ms.length ∧ Hid (Big wr v (A * bval (ms.drop k))) ∧ Below w.heap.size w wr) (fun _ i _ => (intOf i + 1).toNat)
  case atStart => exact ⟨ms.length, rfl, Nat.le_refl _, by show Big _ _ _; rw [List.drop_length]; exact ⟨[], Row.nil w, fun _ h => absurd h (by simp), rfl, by simp [bval]⟩, Below.refl _ _⟩
  case round =>
    obtain ⟨k, rfl, hk, HD, hbe⟩ := hrel
    have hsz := hbe.size
    cases k with
    | zero =>
      go_wp2
      go_ret
      exact ⟨_, rfl, hbe, HD.out⟩
    | succ k =>
      obtain ⟨g, rfl, hg, hcl⟩ := Row.block bc HB.out (t := k) (by omega)
      have hyl := lim_get LB.out k
      have HS : Hid _ := bval_drop ms k (by omega)
      have hcy := hcl k (by omega)
      clear hcl
      generalize ms.getD k 0 = y at *
      have HN1 : Hid _ := shl_bound (HP.out (k + 1))
      have HN2 : Hid _ := part_bound HQ.out hyl
      go_wp2_with (first
        | (go_at_call 23; refine (l0shl_big _ _ (n + n) 32 _ HD.out (HP.out (k + 1)) (by omega) (by omega)).mono ?_; rintro e w2 ⟨v2, rfl, hb2, hv2⟩; have hbe2 := hbe.trans (hb2.mono hsz); have hy2 : w2.cell? ⟨g, k, none⟩ = some (.int .u64 (y : Nat)) := (hbe2.cell hg).trans hcy)
        | (go_at_call 31; refine (l0mul_big _ A y 0 n _ (HA.out.below hbe2 (Nat.le_refl _)) HQ.out (by omega) hyl (by omega)).mono ?_; rintro e w3 ⟨v3, rfl, hb3, hv3⟩)
        | (go_at_call 35; refine (l0add_any _ _ _ _ (n + n + 1) _ (hv2.below hb3 (Nat.le_refl _)) hv3 HN1.out HN2.out (by omega)).mono ?_; rintro e w4 ⟨v4, rfl, hb4, hv4⟩))
      go_roundw
      case rel => exact ⟨k, rfl, by omega, by show Big _ _ _; rw [HS.out, ← times_round]; exact hv4, hbe2.trans ((hb3.mono hbe2.size).trans (hb4.mono (Nat.le_trans hbe2.size hb3.size)))⟩
      case measure => simp only [intOf]; omega
end Go.Proofs.YtapiifeklimncaaDoor

/- l4ratio of the specification: long division, plain part. -/
namespace Go.Proofs.YtapiifeklimncaaDoor
open Go.ChangeShapes Go.WideShapes Go.RowKit

theorem bits_pos {A n : Nat} (h : Bits A n) (h0 : 0 < A) : 0 < n ∧ 2 ^ (n - 1) ≤ A ∧ A < 2 ^ n := by
  rcases h with ⟨h, _⟩ | h
  · omega
  · exact h
theorem bits_shl {A n k : Nat} (h : Bits A n) (h0 : 0 < A) : 0 < n + k ∧ 2 ^ (n + k - 1) ≤ A * 2 ^ k ∧ A * 2 ^ k < 2 ^ (n + k) := by
  obtain ⟨h1, h2, h3⟩ := bits_pos h h0
  refine ⟨by omega, ?_, ?_⟩
  · rw [show n + k - 1 = n - 1 + k by omega, Nat.pow_add]
    exact Nat.mul_le_mul_right _ h2
  · rw [Nat.pow_add]
    exact Nat.mul_lt_mul_of_pos_right h3 (Nat.two_pow_pos k)
/-- The two numbers that are divided: 63 bits apart. -/
theorem apart {A C a c : Nat} (hA : 0 < a ∧ 2 ^ (a - 1) ≤ A ∧ A < 2 ^ a) (hC : 0 < c ∧ 2 ^ (c - 1) ≤ C ∧ C < 2 ^ c) (h : a = c + 63) :
    A < C * 18446744073709551616 ∧ C * 4611686018427387904 ≤ A := by
  obtain ⟨a0, a1, a2⟩ := hA
  obtain ⟨c0, c1, c2⟩ := hC
  subst h
  constructor
  · have : 2 ^ (c + 63) = 2 ^ (c - 1) * 18446744073709551616 := by
      rw [show (18446744073709551616 : Nat) = 2 ^ 64 from rfl, ← Nat.pow_add]; congr 1; omega
    have h2 := Nat.mul_le_mul_right 18446744073709551616 c1
    omega
  · have : 2 ^ (c + 63 - 1) = 2 ^ c * 4611686018427387904 := by
      rw [show (4611686018427387904 : Nat) = 2 ^ 62 from rfl, ← Nat.pow_add]
      congr 1
    have h2 := Nat.mul_le_mul_right 4611686018427387904 (Nat.le_of_lt c2)
    omega
/-- What holds between the rounds of the division: k places are still to come. -/
def Div (A C R q k : Nat) : Prop := A = q * C + R ∧ R < C * 2 ^ k ∧ q % 2 ^ k = 0 ∧ q < 18446744073709551616
theorem div_start {A C : Nat} (h : A < C * 18446744073709551616) : Div A C A 0 64 := ⟨by omega, h, by simp, by omega⟩
theorem div_no {A C R q k : Nat} (h : Div A C R q (k + 1)) (hlt : R < C * 2 ^ k) : Div A C R q k := by
  obtain ⟨h1, _, h3, h4⟩ := h
  refine ⟨h1, hlt, ?_, h4⟩
  have hd : 2 ^ k ∣ 2 ^ (k + 1) := ⟨2, Nat.pow_succ _ _⟩
  exact Nat.mod_eq_zero_of_dvd (Nat.dvd_trans hd (Nat.dvd_of_mod_eq_zero h3))
theorem or_bit (q k : Nat) (hk : k ≤ 63) (hq : q < 18446744073709551616) (h : q % 2 ^ (k + 1) = 0) : q ||| 2 ^ k = q + 2 ^ k ∧ q + 2 ^ k < 18446744073709551616 := by
  obtain ⟨t, rfl⟩ := Nat.dvd_of_mod_eq_zero h
  have hlt : 2 ^ k < 2 ^ (k + 1) := Nat.pow_lt_pow_right (by omega) (by omega)
  refine ⟨(Nat.two_pow_add_eq_or_of_lt hlt t).symm, ?_⟩
  have e : (18446744073709551616 : Nat) = 2 ^ (k + 1) * 2 ^ (63 - k) := by
    rw [← Nat.pow_add, show k + 1 + (63 - k) = 64 by omega]
  rw [e] at hq ⊢
  have ht : t < 2 ^ (63 - k) := Nat.lt_of_mul_lt_mul_left hq
  have h2 := Nat.mul_le_mul_left (2 ^ (k + 1)) (show t + 1 ≤ 2 ^ (63 - k) from ht)
  rw [Nat.mul_add, Nat.mul_one] at h2
  omega
theorem div_yes {A C R q k : Nat} (h : Div A C R q (k + 1)) (hk : k ≤ 63) (hge : C * 2 ^ k ≤ R) : Div A C (R - C * 2 ^ k) (q ||| 2 ^ k) k := by
  obtain ⟨h1, h2, h3, h4⟩ := h
  obtain ⟨e1, e2⟩ := or_bit q k hk h4 h3
  rw [e1]
  refine ⟨?_, ?_, ?_, e2⟩
  · rw [Nat.add_mul, Nat.mul_comm (2 ^ k) C]; omega
  · rw [Nat.pow_succ, ← Nat.mul_assoc] at h2; omega
  · have hd : 2 ^ k ∣ 2 ^ (k + 1) := ⟨2, Nat.pow_succ _ _⟩
    have := Nat.dvd_trans hd (Nat.dvd_of_mod_eq_zero h3)
    exact Nat.mod_eq_zero_of_dvd (Nat.dvd_add this (Nat.dvd_refl _))
theorem div_end {A C R q : Nat} (h : Div A C R q 0) (hC : 0 < C) : q = A / C ∧ R = A % C := by
  obtain ⟨h1, h2, _, _⟩ := h
  rw [Nat.pow_zero, Nat.mul_one] at h2
  subst h1
  constructor
  · rw [Nat.mul_comm, Nat.mul_add_div hC, Nat.div_eq_of_lt h2, Nat.add_zero]
  · rw [Nat.mul_comm, Nat.mul_add_mod, Nat.mod_eq_of_lt h2]
theorem div_rest {A C R q k : Nat} (h : Div A C R q k) : R ≤ A := by have := h.1; omega
theorem or_cast (q k : Nat) (hq : q < 18446744073709551616) (hk : k ≤ 63) : bits .or .u64 (q : Int) (((2 ^ k : Nat) : Int)) = ((q ||| 2 ^ k : Nat) : Int) ∧ IntKind.u64.wrap (2 ^ k) = ((2 ^ k : Nat) : Int) := by
  have h1 : 2 ^ k < 2 ^ 64 := Nat.pow_lt_pow_right (by omega) (by omega)
  have c : (2 : Int) ^ k = ((2 ^ k : Nat) : Int) := (Int.natCast_pow 2 k).symm
  refine ⟨u64_or_nat q (2 ^ k) hq h1, ?_⟩
  rw [c, IntKind.wrap_u64]
  generalize 2 ^ k = z at *
  have : (2 : Nat) ^ 64 = 18446744073709551616 := rfl
  omega
end Go.Proofs.YtapiifeklimncaaDoor

/- l2near of the specification where something lies below the number: rounded as the odd number beside. -/
namespace Go.Proofs.YtapiifeklimncaaDoor
open Go.ChangeShapes Go.WideShapes Go.RowKit
open Ieee (double)

theorem odd_up (M d : Nat) (K R H : Int) (hd : 2 ≤ d) (F1 : K = ((M / 2 ^ d : Nat) : Int)) (F2 : R = ((M % 2 ^ d : Nat) : Int)) (F3 : H = ((2 ^ (d - 1) : Nat) : Int)) (h : H ≤ R) : keptOf (oddOf M) d = (K + 1).toNat := by
  rw [odd_kept M d hd]
  generalize M / 2 ^ d = q at *
  generalize M % 2 ^ d = r at *
  generalize 2 ^ (d - 1) = g at *
  rw [if_pos (by omega)]
  omega
theorem odd_down (M d : Nat) (K R H : Int) (hd : 2 ≤ d) (F1 : K = ((M / 2 ^ d : Nat) : Int)) (F2 : R = ((M % 2 ^ d : Nat) : Int)) (F3 : H = ((2 ^ (d - 1) : Nat) : Int)) (h : R < H) : keptOf (oddOf M) d = K.toNat := by
  rw [odd_kept M d hd]
  generalize M / 2 ^ d = q at *
  generalize M % 2 ^ d = r at *
  generalize 2 ^ (d - 1) = g at *
  rw [if_neg (by omega)]
  omega
theorem odd_64 (x : Int) (h1 : x < 18446744073709551616) (h : 9223372036854775808 ≤ x) : keptOf (oddOf x.toNat) 64 = (1 : Int).toNat := by
  rw [odd_kept _ _ (by omega)]
  have e : x.toNat % 2 ^ 64 = x.toNat := Nat.mod_eq_of_lt (by omega)
  have e2 : x.toNat / 2 ^ 64 = 0 := Nat.div_eq_of_lt (by omega)
  rw [e, e2, if_pos (by omega)]
  rfl

set_option maxRecDepth 100000 in
set_option maxHeartbeats 1000000 in
theorem l2near_some (W : Nat) (y e : Int) (hW : ∀ (j : Nat), 9223372036854775808 ≤ y.toNat * 2 ^ j → y.toNat * 2 ^ j < 18446744073709551616 → W = fw false (oddOf (y.toNat * 2 ^ j)) (e - j)) (h0 : 0 < y) (hm : y < 18446744073709551616) (h1 : -2000 ≤ e) (h2 : e ≤ 2000) (w : World) :
    Calls Tryd.prog 34 #[.int .u64 y, .int .i64 e, .bool true] w fun r w' => r = .returned (.float .f64 W) ∧ w' = w := by
  have HW : Hid _ := hW
  clear hW
  have e0 : (y == 0) = false := beq_eq_false_iff_ne.2 (by omega)
  go_enter Tryd.func34, Tryd.ntmps34
  go_wp2
  go_loop [0, 1] (fun a b => ∃ (j : Nat) (x : Int), a = .int .u64 x ∧ b = .int .i64 (e - j) ∧ 0 < x ∧ x < 18446744073709551616 ∧ Hid (x = ((y.toNat * 2 ^ j : Nat) : Int)) ∧ j ≤ 63) (fun a _ => (18446744073709551616 - intOf a).toNat)
  case atStart => exact ⟨0, y, rfl, by simp, h0, hm, by show y = ((y.toNat * 2 ^ 0 : Nat) : Int); rw [Nat.pow_zero, Nat.mul_one]; omega, by omega⟩
  case round =>
    obtain ⟨j, x, rfl, rfl, hM0, hM1, HM, hj⟩ := hrel
    by_cases hlt : x < 9223372036854775808
    · have hj2 := few_times y.toNat j x (by omega) HM.out hlt
      go_wp2
      refine ⟨⟨j + 1, x * 2, rfl, ?_, by omega, by omega, two_times y.toNat j x HM.out, hj2⟩, ?_⟩
      · rw [show e - ((j + 1 : Nat) : Int) = e - j - 1 by omega]
      · simp only [intOf]; omega
    · have HF : Hid (W = fw false (oddOf x.toNat) (e - j)) := by
        show W = fw false (oddOf x.toNat) (e - j)
        have hx : x.toNat = y.toNat * 2 ^ j := by rw [HM.out]; exact Int.toNat_natCast _
        rw [hx]
        exact HW.out j (by rw [← hx]; omega) (by rw [← hx]; omega)
      clear HW
      clear HM e0
      have hb : 9223372036854775808 ≤ x := by omega
      have he1 : -2063 ≤ e - j := by omega
      have he2 : e - j ≤ 2000 := by omega
      have HB : Hid _ := fun (_ : Unit) => And.intro (show 9223372036854775808 ≤ oddOf x.toNat by unfold oddOf; omega) (show oddOf x.toNat < 18446744073709551616 by unfold oddOf; omega)
      generalize e - (j : Int) = p at *
      clear hlt hM0 hj
      by_cases c1 : 1024 < p
      · have HX : Hid (W = iw false) := HF.out.trans (fw_huge false _ p (HB.out ()).1 (HB.out ()).2 (by omega))
        go_wp2_with (go_at_call 11; refine (l2inf_any _).mono ?_; rintro e w' ⟨rfl, rfl⟩)
        go_ret
        exact ⟨by rw [HX.out]; rfl, rfl⟩
      · by_cases c2 : p < -1200
        · have HX : Hid (W = 0) := HF.out.trans (near_far _ p (HB.out ()).2 (by omega))
          go_wp2
          go_ret
          exact ⟨by rw [HX.out]; rfl, rfl⟩
        · by_cases c3 : p + 11 < -1074
          · by_cases c4 : 64 < -1074 - p
            · have HX : Hid (W = 0) := HF.out.trans (near_far _ p (HB.out ()).2 (by omega))
              go_wp2
              go_ret
              exact ⟨by rw [HX.out]; rfl, rfl⟩
            · have HN : Hid (W = fw false (keptOf (oddOf x.toNat) (-1074 - p).toNat) (-1074)) := HF.out.trans (near_b _ p (HB.out ()).1 (HB.out ()).2 (by omega) (by omega))
              by_cases c5 : -1074 - p = 64
              · obtain rfl : p = -1138 := by omega
                have e64 : (-1074 - (-1138 : Int)).toNat = 64 := by omega
                have HM : Hid _ := fun (_ : Unit) => HN.out
                rw [e64] at HM
                clear HN HF he1 he2 c1 c2 c3 c4 c5 e64
                have HX : Hid (W = fw false (1 : Int).toNat (-1074)) := (HM.out ()).trans (congrArg (fun t => fw false t (-1074)) (odd_64 x hM1 hb))
                clear HM HB
                by_cases d1 : 9223372036854775808 < x
                · go_wp2_with (go_at_call 47; refine (l2scaled_int _ _ (by omega) (by omega) (by omega) (by omega) _).mono ?_; rintro e w' ⟨rfl, rfl⟩)
                  go_ret
                  exact ⟨by rw [HX.out]; rfl, rfl⟩
                · have d2 : (x == 9223372036854775808) = true := beq_iff_eq.2 (by omega)
                  go_wp2_with (go_at_call 47; refine (l2scaled_int _ _ (by omega) (by omega) (by omega) (by omega) _).mono ?_; rintro e w' ⟨rfl, rfl⟩)
                  go_ret
                  exact ⟨by rw [HX.out]; rfl, rfl⟩
              · have c6 : -1074 - p < 64 := by omega
                have e64 : (-1074 - p == 64) = false := beq_eq_false_iff_ne.2 c5
                obtain ⟨K, Q, H, hK, hQ, hH, q0, q1, g0, g1, k0, k1, FK, FR, FH⟩ := near_vars x (-1074 - p).toNat hb hM1 (by omega) (by omega)
                have F1 : Hid _ := FK
                have F2 : Hid _ := FR
                have F3 : Hid _ := FH
                have k2 : K < 4503599627370496 := by have := (kept_more x.toNat (-1074 - p).toNat (by omega) (by omega)).1; omega
                clear FK FR FH c5
                have HU : Hid _ := fun h => HN.out.trans (congrArg (fun t => fw false t (-1074)) (odd_up x.toNat _ K (x - Q) H (by omega) F1.out F2.out F3.out h))
                have HD : Hid _ := fun h => HN.out.trans (congrArg (fun t => fw false t (-1074)) (odd_down x.toNat _ K (x - Q) H (by omega) F1.out F2.out F3.out h))
                clear F1 F2 F3 HN HF
                by_cases d1 : H < x - Q
                · have HX : Hid _ := HU.out (by omega)
                  clear HU HD
                  go_wp2_with (go_at_call 47; refine (l2scaled_int _ _ (by omega) (by omega) (by omega) (by omega) _).mono ?_; rintro e w' ⟨rfl, rfl⟩)
                  go_ret
                  exact ⟨by rw [HX.out]; rfl, rfl⟩
                · by_cases d2 : x - Q = H
                  · have b2 : (x - Q == H) = true := beq_iff_eq.2 d2
                    have HX : Hid _ := HU.out (by omega)
                    clear HU HD d2
                    go_wp2_with (go_at_call 47; refine (l2scaled_int _ _ (by omega) (by omega) (by omega) (by omega) _).mono ?_; rintro e w' ⟨rfl, rfl⟩)
                    go_ret
                    exact ⟨by rw [HX.out]; rfl, rfl⟩
                  · have b2 : (x - Q == H) = false := beq_eq_false_iff_ne.2 d2
                    have HX : Hid _ := HD.out (by omega)
                    clear HU HD d2
                    go_wp2_with (go_at_call 47; refine (l2scaled_int _ _ (by omega) (by omega) (by omega) (by omega) _).mono ?_; rintro e w' ⟨rfl, rfl⟩)
                    go_ret
                    exact ⟨by rw [HX.out]; rfl, rfl⟩
          · have e11 : (p + 11 - p).toNat = 11 := by omega
            have n64 : (p + 11 - p == 64) = false := beq_eq_false_iff_ne.2 (by omega)
            obtain ⟨K, Q, H, hK, hQ, hH, q0, q1, g0, g1', k0, k1, FK, FR, FH⟩ := near_vars x (p + 11 - p).toNat hb hM1 (by omega) (by omega)
            have F1 : Hid _ := FK
            have F2 : Hid _ := FR
            have F3 : Hid _ := FH
            have HU : Hid _ := fun h => odd_up x.toNat _ K (x - Q) H (by omega) FK FR FH h
            have HD : Hid _ := fun h => odd_down x.toNat _ K (x - Q) H (by omega) FK FR FH h
            rw [e11] at HU HD
            have HA : Hid _ := fun h1 h2 => HF.out.trans (near_a_fits (oddOf x.toNat) p (HB.out ()).1 (HB.out ()).2 (by omega) h1 h2)
            have HC : Hid _ := fun h1 h2 => HF.out.trans (near_a_carry (oddOf x.toNat) p (HB.out ()).1 (HB.out ()).2 (by omega) h1 h2)
            have HI : Hid _ := fun h => HF.out.trans (near_a_inf (oddOf x.toNat) p (HB.out ()).1 (HB.out ()).2 (by omega) h)
            clear FK FR FH HF HB e11
            by_cases d1 : H < x - Q
            · skip
              have hk := HU.out (by omega)
              by_cases f1 : K + 1 = 9007199254740992
              · have g1 : (K + 1 == 9007199254740992) = true := beq_iff_eq.2 f1
                by_cases f2 : 971 < p + 11 + 1
                · have HX : Hid _ := HI.out (.inr ⟨by rw [hk]; omega, f2⟩)
                  clear f1 hk
                  clear HU HD HA HC HI F1 F2 F3
                  go_wp2_with (go_at_call 11; refine (l2inf_any _).mono ?_; rintro e w' ⟨rfl, rfl⟩)
                  go_ret
                  exact ⟨by rw [HX.out]; rfl, rfl⟩
                · have HX : Hid _ := HC.out (by omega) (by rw [hk]; omega)
                  clear f1 hk
                  clear HU HD HA HC HI F1 F2 F3
                  go_wp2_with (go_at_call 47; refine (l2scaled_int _ _ (by omega) (by omega) (by omega) (by omega) _).mono ?_; rintro e w' ⟨rfl, rfl⟩)
                  go_ret
                  exact ⟨by rw [HX.out]; rfl, rfl⟩
              · have g1 : (K + 1 == 9007199254740992) = false := beq_eq_false_iff_ne.2 f1
                have f3 : K + 1 < 9007199254740992 := by omega
                by_cases f2 : 971 < p + 11
                · have HX : Hid _ := HI.out (.inl f2)
                  clear f1 hk
                  clear HU HD HA HC HI F1 F2 F3
                  go_wp2_with (go_at_call 11; refine (l2inf_any _).mono ?_; rintro e w' ⟨rfl, rfl⟩)
                  go_ret
                  exact ⟨by rw [HX.out]; rfl, rfl⟩
                · have HX : Hid _ := (HA.out (by omega) (by rw [hk]; omega)).trans (congrArg (fun t => fw false t (p + 11)) hk)
                  clear f1 hk
                  clear HU HD HA HC HI F1 F2 F3
                  go_wp2_with (go_at_call 47; refine (l2scaled_int _ _ (by omega) (by omega) (by omega) (by omega) _).mono ?_; rintro e w' ⟨rfl, rfl⟩)
                  go_ret
                  exact ⟨by rw [HX.out]; rfl, rfl⟩
            · by_cases d2 : x - Q = H
              · have b2 : (x - Q == H) = true := beq_iff_eq.2 d2
                have hk := HU.out (by omega)
                by_cases f1 : K + 1 = 9007199254740992
                · have g1 : (K + 1 == 9007199254740992) = true := beq_iff_eq.2 f1
                  by_cases f2 : 971 < p + 11 + 1
                  · have HX : Hid _ := HI.out (.inr ⟨by rw [hk]; omega, f2⟩)
                    clear f1 hk d2
                    clear HU HD HA HC HI F1 F2 F3
                    go_wp2_with (go_at_call 11; refine (l2inf_any _).mono ?_; rintro e w' ⟨rfl, rfl⟩)
                    go_ret
                    exact ⟨by rw [HX.out]; rfl, rfl⟩
                  · have HX : Hid _ := HC.out (by omega) (by rw [hk]; omega)
                    clear f1 hk d2
                    clear HU HD HA HC HI F1 F2 F3
                    go_wp2_with (go_at_call 47; refine (l2scaled_int _ _ (by omega) (by omega) (by omega) (by omega) _).mono ?_; rintro e w' ⟨rfl, rfl⟩)
                    go_ret
                    exact ⟨by rw [HX.out]; rfl, rfl⟩
                · have g1 : (K + 1 == 9007199254740992) = false := beq_eq_false_iff_ne.2 f1
                  have f3 : K + 1 < 9007199254740992 := by omega
                  by_cases f2 : 971 < p + 11
                  · have HX : Hid _ := HI.out (.inl f2)
                    clear f1 hk d2
                    clear HU HD HA HC HI F1 F2 F3
                    go_wp2_with (go_at_call 11; refine (l2inf_any _).mono ?_; rintro e w' ⟨rfl, rfl⟩)
                    go_ret
                    exact ⟨by rw [HX.out]; rfl, rfl⟩
                  · have HX : Hid _ := (HA.out (by omega) (by rw [hk]; omega)).trans (congrArg (fun t => fw false t (p + 11)) hk)
                    clear f1 hk d2
                    clear HU HD HA HC HI F1 F2 F3
                    go_wp2_with (go_at_call 47; refine (l2scaled_int _ _ (by omega) (by omega) (by omega) (by omega) _).mono ?_; rintro e w' ⟨rfl, rfl⟩)
                    go_ret
                    exact ⟨by rw [HX.out]; rfl, rfl⟩
              · have b2 : (x - Q == H) = false := beq_eq_false_iff_ne.2 d2
                have hk := HD.out (by omega)
                have g1 : (K == 9007199254740992) = false := beq_eq_false_iff_ne.2 (by omega)
                by_cases f2 : 971 < p + 11
                · have HX : Hid _ := HI.out (.inl f2)
                  clear hk d2
                  clear HU HD HA HC HI F1 F2 F3
                  go_wp2_with (go_at_call 11; refine (l2inf_any _).mono ?_; rintro e w' ⟨rfl, rfl⟩)
                  go_ret
                  exact ⟨by rw [HX.out]; rfl, rfl⟩
                · have HX : Hid _ := (HA.out (by omega) (by rw [hk]; omega)).trans (congrArg (fun t => fw false t (p + 11)) hk)
                  clear hk d2
                  clear HU HD HA HC HI F1 F2 F3
                  go_wp2_with (go_at_call 47; refine (l2scaled_int _ _ (by omega) (by omega) (by omega) (by omega) _).mono ?_; rintro e w' ⟨rfl, rfl⟩)
                  go_ret
                  exact ⟨by rw [HX.out]; rfl, rfl⟩
end Go.Proofs.YtapiifeklimncaaDoor

