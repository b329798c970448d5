import Derived.Test.YtoedefjngipeiaaGreatDoorA21
import Derived.Test.YtoedefjngipeiaaGreatDoorA13
import Derived.Test.YtoedefjngipeiaaGreatDoorA22
import Derived.Test.YtoedefjngipeiaaGreatDoorA07
/- What l4ratio of the specification answers: plain. -/
namespace Go.Proofs.YtoedefjngipeiaaGreatDoor
open Go.ChangeShapes Go.WideShapes Go.RowKit

theorem bits_log {A n : Nat} (h : Bits A n) (h0 : 0 < A) : n = A.log2 + 1 := by
  obtain ⟨h1, h2, h3⟩ := bits_pos h h0
  have := (Nat.log2_eq_iff (by omega)).2 ⟨h2, by rw [show n - 1 + 1 = n by omega]; exact h3⟩
  omega
theorem log_bits {A : Nat} (h0 : 0 < A) : Bits A (A.log2 + 1) :=
  .inr ⟨by omega, by rw [Nat.add_sub_cancel]; exact Nat.log2_self_le (by omega), Nat.lt_log2_self⟩
theorem pow_bound (k : Nat) (h : k ≤ 64) : 2 ^ k < 4294967296 ^ 3 := by
  have h1 : 2 ^ k ≤ 2 ^ 64 := Nat.pow_le_pow_right (by omega) h
  have : (2 : Nat) ^ 64 < 4294967296 ^ 3 := by decide
  omega

end Go.Proofs.YtoedefjngipeiaaGreatDoor

/- l0bits of the specification. -/
namespace Go.Proofs.YtoedefjngipeiaaGreatDoor
open Go.ChangeShapes Go.WideShapes Go.RowKit

set_option maxHeartbeats 1600000 in
set_option maxRecDepth 100000 in
theorem l0bits_any (v : Value) (A n : Nat) (w : World) (h : Big w v A) (hA : A < 4294967296 ^ n) (hn : n < 1000000) :
    Calls Tryz.prog 69 #[v] w fun e w' => w' = w ∧ ∃ n : Nat, e = .returned (.int .i64 n) ∧ Bits A n ∧ n ≤ 32000000 := by
  obtain ⟨ls, h1, h2, h3, rfl⟩ := h
  have hlen := Nat.lt_of_le_of_lt (trim_len h3 hA) hn
  obtain ⟨ao, cap, rfl, hcap, hmx, h4⟩ := h1
  by_cases hnil : ls = []
  · subst hnil
    go_enter Tryz.func69, Tryz.ntmps69
    go_wp2
    go_ret
    exact ⟨rfl, 0, rfl, .inl ⟨rfl, rfl⟩, by omega⟩
  · have hpos : 0 < ls.length := List.length_pos_iff.2 hnil
    rcases h4 with ⟨_, h4⟩ | ⟨g, rfl, hg, hcl⟩
    · omega
    have hx := hcl (ls.length - 1) (by omega)
    have htop := (trim_last h3 hnil).2
    have hlim : ls.getD (ls.length - 1) 0 < 4294967296 := by
      have hlt : ls.length - 1 < ls.length := by omega
      have : ls.getD (ls.length - 1) 0 = ls[ls.length - 1] := by simp [List.getElem?_eq_getElem hlt]
      rw [this]; exact h2 _ (List.getElem_mem hlt)
    have HT : Hid _ := bits_top ls h2 hnil
    have e0 : ((ls.length : Int) == 0) = false := beq_eq_false_iff_ne.2 (by omega)
    generalize ls.getD (ls.length - 1) 0 = t at *
    clear hcl h3 h2 hA hnil
    generalize bval ls = A at *
    generalize ls.length = L at *
    obtain ⟨l, rfl⟩ : ∃ l, L = l + 1 := ⟨L - 1, by omega⟩
    rw [Nat.add_sub_cancel] at *
    go_enter Tryz.func69, Tryz.ntmps69
    go_wp2
    go_loop [3, 4] (fun nv xv => ∃ j : Nat, nv = .int .i64 (32 * (l : Int) + j) ∧ xv = .int .u64 ((t / 2 ^ j : Nat) : Int) ∧ j ≤ 32 ∧ Hid (0 < j → 2 ^ (j - 1) ≤ t)) (fun _ xv => (intOf xv).toNat)
    case atStart => exact ⟨0, by simp, by simp, by omega, fun h => absurd h (by omega)⟩
    case round =>
      obtain ⟨j, rfl, rfl, hj, HJ⟩ := hrel
      by_cases hp : 0 < t / 2 ^ j
      · have hj2 := few_halves32 t j hlim hp
        have hh := half_cast t j
        have HJ2 : Hid (2 ^ j ≤ t) := by
          show _ ≤ _
          apply Classical.byContradiction; intro hc
          rw [Nat.div_eq_of_lt (by omega)] at hp; omega
        have HL : Hid (t / 2 ^ (j + 1) < t / 2 ^ j) := by show _ < _; rw [← half_again]; omega
        have hb : t / 2 ^ j ≤ t := Nat.div_le_self _ _
        generalize hy : t / 2 ^ (j + 1) = y at *
        generalize hz : t / 2 ^ j = z at *
        go_wp2
        exact ⟨⟨j + 1, by rw [show 32 * (l : Int) + ((j + 1 : Nat) : Int) = 32 * (l : Int) + j + 1 by omega], by rw [hy], by omega, fun _ => HJ2.out⟩, by simp only [intOf]; have := HL.out; omega⟩
      · have h0 : t / 2 ^ j = 0 := Nat.eq_zero_of_not_pos hp
        have ht2 : Hid (t < 2 ^ j) := by
          have := Nat.div_eq_zero_iff.1 h0
          have h2 := Nat.two_pow_pos j
          show _ < _
          omega
        rw [h0]
        go_wp2
        go_ret
        have hj0 : 0 < j := by
          apply Classical.byContradiction; intro hc
          obtain rfl : j = 0 := by omega
          have := ht2.out
          simp at this; omega
        exact ⟨rfl, 32 * l + j, by simp, HT.out j hj0 (HJ.out hj0) ht2.out, by omega⟩
end Go.Proofs.YtoedefjngipeiaaGreatDoor

/- What l4ratio's walk wants. -/
namespace Go.Proofs.YtoedefjngipeiaaGreatDoor
open Go.ChangeShapes Go.WideShapes Go.RowKit

/-- A big number's slice. -/
theorem Big.slice {w : World} {v : Value} {A : Nat} (h : Big w v A) : ∃ ao n cap, v = .slice ao n cap ∧ n ≤ cap ∧ cap ≤ maxLen ∧ (n = 0 ↔ A = 0) := by
  obtain ⟨ls, ⟨ao, cap, hv, h1, h2, _⟩, _, h3, rfl⟩ := h
  refine ⟨ao, ls.length, cap, hv, h1, h2, ?_⟩
  rw [← trim_nil_iff h3]
  exact List.length_eq_zero_iff
theorem bits_only {A n m : Nat} (h : Bits A n) (k : Bits A m) (h0 : 0 < A) : n = m := by rw [bits_log h h0, bits_log k h0]
/-- l0bits at a number whose digits are counted. -/
theorem l0bits_is (v : Value) (A n a : Nat) (w : World) (h : Big w v A) (hA : A < 4294967296 ^ n) (hn : n < 1000000) (h0 : 0 < A) (ha : Bits A a) :
    Calls Tryz.prog 69 #[v] w fun e w' => e = .returned (.int .i64 (a : Int)) ∧ w' = w := by
  refine (l0bits_any v A n w h hA hn).mono ?_
  rintro e w' ⟨rfl, m, rfl, hm, _⟩
  rw [bits_only hm ha h0]
  exact ⟨rfl, rfl⟩
theorem shl_more {A n k m : Nat} (h : A < 4294967296 ^ n) (hk : k ≤ 32 * m) : A * 2 ^ k < 4294967296 ^ (n + m) := by
  have h2 : 2 ^ k ≤ 4294967296 ^ m := by rw [pow32]; exact Nat.pow_le_pow_right (by omega) hk
  rw [Nat.pow_add]
  exact Nat.mul_lt_mul_of_lt_of_le h h2 (Nat.pow_pos (by omega))
/-- The end of the division, rounded. -/
theorem near_ratio (A C R q : Nat) (e : Int) (hd : Div A C R q 0) (hC : 0 < C) (hlo : C * 4611686018427387904 ≤ A) (h1 : -2000 ≤ e) (h2 : e ≤ 2000) (some : Bool) (hs : some = decide (0 < R)) (w : World) :
    Calls Tryz.prog 93 #[.int .u64 (q : Int), .int .i64 e, .bool some] w fun r w' => r = .returned (.float .f64 (ratioAt A C e)) ∧ w' = w := by
  have hq := hd.2.2.2
  obtain ⟨e1, e2⟩ := div_end hd hC
  have hq2 : 4611686018427387904 ≤ q := by
    rw [e1, Nat.le_div_iff_mul_le hC, Nat.mul_comm]; exact hlo
  unfold ratioAt
  rw [← e1, ← e2]
  by_cases h0 : R = 0
  · subst hs
    rw [if_pos h0, decide_eq_false (by omega)]
    have h := l2near_any (q : Int) e (by omega) (by omega) w
    rw [Int.toNat_natCast] at h
    exact h
  · subst hs
    rw [if_neg h0, decide_eq_true (by omega)]
    refine l2near_some _ (q : Int) e ?_ (by omega) (by omega) h1 h2 w
    intro j hj hj'
    rw [Int.toNat_natCast] at hj hj' ⊢
    have hj1 : j ≤ 1 := by
      apply Nat.le_of_not_lt
      intro h
      have : 2 ^ 2 ≤ 2 ^ j := Nat.pow_le_pow_right (by omega) h
      have : q * 2 ^ 2 ≤ q * 2 ^ j := Nat.mul_le_mul_left _ this
      omega
    have hst := fw_stick false q e (by omega)
    rcases (show j = 0 ∨ j = 1 by omega) with rfl | rfl
    · rw [Nat.pow_zero, Nat.mul_one, hst]
      congr 1
      omega
    · rw [Nat.pow_one, Nat.mul_comm q 2, odd_twice]
      rfl
end Go.Proofs.YtoedefjngipeiaaGreatDoor

