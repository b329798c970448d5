import Derived.Test.YtoedefjngipeiaaGreatDoorA11
import Derived.Test.YtoedefjngipeiaaGreatDoorA10
import Derived.Test.YtoedefjngipeiaaGreatDoorA03
/- Texts of digits: plain. -/
namespace Go.Proofs.YtoedefjngipeiaaGreatDoor
open Go.RowKit

def zerosL (n : Nat) : List UInt8 := List.replicate n 48
theorem zerosL_length (n : Nat) : (zerosL n).length = n := by simp [zerosL]
def zerosB (n : Nat) : ByteArray := ⟨(zerosL n).toArray⟩
theorem zerosB_size (n : Nat) : (zerosB n).size = n := by rw [← data_len]; exact zerosL_length n
/-- Digits with a point and no exponent. -/
def plainB (ds : ByteArray) (pow : Int) : ByteArray :=
  if pow ≤ 0 then ⟨#[48, 46]⟩ ++ zerosB (-pow).toNat ++ ds
  else if (ds.size : Int) ≤ pow then ds ++ zerosB (pow.toNat - ds.size)
  else ds.extract 0 pow.toNat ++ dotB ++ ds.extract pow.toNat ds.size
theorem plainB_size (ds : ByteArray) (pow : Int) (h : ds.size ≤ 1100) (h1 : -1100 ≤ pow) (h2 : pow ≤ 1100) : (plainB ds pow).size ≤ 3000 := by
  unfold plainB
  have e2 : (⟨#[48, 46]⟩ : ByteArray).size = 2 := rfl
  have e3 : dotB.size = 1 := rfl
  split
  · rw [append_size, append_size, zerosB_size]; omega
  · split
    · rw [append_size, zerosB_size]; omega
    · rw [append_size, append_size]
      have a1 : (ds.extract 0 pow.toNat).size ≤ ds.size := by simp; omega
      have a2 : (ds.extract pow.toNat ds.size).size ≤ ds.size := by simp
      omega
end Go.Proofs.YtoedefjngipeiaaGreatDoor

/- l5zeros of the specification. -/
namespace Go.Proofs.YtoedefjngipeiaaGreatDoor
open Go.ChangeShapes Go.WideShapes Go.RowKit

set_option maxHeartbeats 400000 in
theorem l5zeros_at (n : Nat) (hn : n ≤ 1000000) (w : World) :
    Calls Tryz.prog 52 #[.int .i64 (n : Int)] w fun e w' => e = .returned (.string ⟨(zerosL n).toArray⟩) ∧ w' = w.alloc (.cells (tcells (zerosL n) n).toArray 5) := by
  have hmk := make_u8 n (by omega)
  have hl := zerosL_length n
  have HFR : Hid (∀ i, i < n → (tcells (zerosL n) i)[i]? = some (.int .u8 0)) := fun i h => tcells_free _ i (by omega)
  have HST : Hid (∀ i, i < n → (tcells (zerosL n) i).set i (.int .u8 48) = tcells (zerosL n) (i + 1)) := fun i h => by
    have := tcells_set (zerosL n) i (by omega)
    rw [show ((zerosL n)[i]'(by omega)).toNat = 48 by simp [zerosL]] at this
    exact this
  have hcv := text_end w (zerosL n) 5
  rw [hl] at hcv
  rw [show List.replicate n (Value.int .u8 0) = tcells (zerosL n) 0 by rw [tcells_zero, hl]] at hmk
  generalize zerosL n = tl at *
  clear hl
  go_enter Tryz.func52, Tryz.ntmps52
  go_wp2
  go_loopw [9] (fun vi wl => ∃ i : Nat, vi = .int .i64 (i : Int) ∧ i ≤ n ∧ wl = w.alloc (.cells (tcells tl i).toArray 5)) (fun vi _ => n - (intOf vi).toNat)
  case atStart => exact ⟨0, rfl, by omega, rfl⟩
  case round =>
    obtain ⟨i, rfl, hi, rfl⟩ := hrel
    by_cases hlt : i < n
    · have hfr := HFR.out i hlt
      have HS : Hid _ := HST.out i hlt
      clear hcv
      go_wp2
      rw [HS.out]
      exact ⟨⟨i + 1, rfl, by omega, rfl⟩, by simp only [intOf]; omega⟩
    · obtain rfl : i = n := by omega
      go_wp2
      go_ret
      exact ⟨rfl, rfl⟩
theorem l5zeros_any (n : Nat) (hn : n ≤ 1000000) (w : World) :
    Calls Tryz.prog 52 #[.int .i64 (n : Int)] w fun e w' => e = .returned (.string ⟨(zerosL n).toArray⟩) ∧ Below w.heap.size w w' := by
  refine (l5zeros_at n hn w).mono ?_
  rintro e w' ⟨rfl, rfl⟩
  exact ⟨rfl, (Below.refl _ _).alloc (Nat.le_refl _) _⟩
end Go.Proofs.YtoedefjngipeiaaGreatDoor

/- Rounding as the specification reckons it: plain. -/
namespace Go.Proofs.YtoedefjngipeiaaGreatDoor
open Ieee

/-- What is kept of M where d digits are dropped. -/
def keptOf (M d : Nat) : Nat := if 2 ^ (d - 1) < M % 2 ^ d ∨ (M % 2 ^ d = 2 ^ (d - 1) ∧ M / 2 ^ d % 2 = 1) then M / 2 ^ d + 1 else M / 2 ^ d
theorem kept_11 (M : Nat) (h1 : 9223372036854775808 ≤ M) (h2 : M < 18446744073709551616) : 4503599627370496 ≤ M / 2 ^ 11 ∧ M / 2 ^ 11 < 9007199254740992 ∧ 4503599627370496 ≤ keptOf M 11 ∧ keptOf M 11 ≤ 9007199254740992 := by
  have a : 4503599627370496 ≤ M / 2 ^ 11 := by rw [Nat.le_div_iff_mul_le (by omega)]; omega
  have b : M / 2 ^ 11 < 9007199254740992 := by rw [Nat.div_lt_iff_lt_mul (by omega)]; omega
  unfold keptOf
  split <;> omega
theorem kept_more (M d : Nat) (h2 : M < 18446744073709551616) (hd : 12 ≤ d) : M / 2 ^ d < 4503599627370496 ∧ keptOf M d ≤ 4503599627370496 := by
  have e : (2 : Nat) ^ 12 ≤ 2 ^ d := Nat.pow_le_pow_right (by omega) hd
  have b : M / 2 ^ d < 4503599627370496 := by
    rw [Nat.div_lt_iff_lt_mul (Nat.two_pow_pos d)]
    have : (2 : Nat) ^ 12 = 4096 := rfl
    have e2 : 4503599627370496 * 4096 ≤ 4503599627370496 * 2 ^ d := Nat.mul_le_mul_left _ (by omega)
    omega
  unfold keptOf
  split <;> omega
theorem near_a (M : Nat) (p : Int) (h1 : 9223372036854775808 ≤ M) (h2 : M < 18446744073709551616) (hp : -1085 ≤ p) :
    fw false M p = min ((p + 11 + 1074).toNat * 4503599627370496 + keptOf M 11) 9218868437227405312 := by
  have hl : lastOf p = p + 11 := by unfold lastOf; omega
  rw [fw_64 false M p h1 h2, hl, show (p + 11 - p).toNat = 11 by omega, cut_64 false M 11 h1 h2 (by omega) (by omega)]
  show 0 + _ = _
  rw [Nat.zero_add]
  rfl
theorem near_b (M : Nat) (p : Int) (h1 : 9223372036854775808 ≤ M) (h2 : M < 18446744073709551616) (hp : p ≤ -1086) (hq : -1138 ≤ p) :
    fw false M p = fw false (keptOf M (-1074 - p).toNat) (-1074) := by
  have hl : lastOf p = -1074 := by unfold lastOf; omega
  have hk := kept_more M (-1074 - p).toNat h2 (by omega)
  rw [fw_64 false M p h1 h2, hl, cut_64 false M _ h1 h2 (by omega) (by omega)]
  show 0 + min (_ + keptOf M _) _ = _
  have hc : Canon (keptOf M (-1074 - p).toNat) (-1074) := by
    by_cases h : keptOf M (-1074 - p).toNat < 4503599627370496
    · exact .inr ⟨h, rfl⟩
    · exact .inl ⟨by omega, by omega, by omega, by omega⟩
  rw [fw_canon false _ _ hc]
  unfold rung
  show 0 + _ = 0 + _
  rw [Nat.min_eq_left (by omega)]
/-- 53 digits kept, no carry. -/
theorem near_a_fits (M : Nat) (p : Int) (h1 : 9223372036854775808 ≤ M) (h2 : M < 18446744073709551616) (hp : -1085 ≤ p) (hq : p + 11 ≤ 971) (hk : keptOf M 11 < 9007199254740992) : fw false M p = fw false (keptOf M 11) (p + 11) := by
  obtain ⟨_, _, k1, _⟩ := kept_11 M h1 h2
  have hc : Canon (keptOf M 11) (p + 11) := .inl ⟨k1, hk, by omega, hq⟩
  have := rung_lt _ _ hc
  rw [near_a M p h1 h2 hp, fw_canon false _ _ hc]
  unfold rung at this ⊢
  show _ = 0 + _
  rw [Nat.min_eq_left (by omega), Nat.zero_add]
/-- A carry into the next place. -/
theorem near_a_carry (M : Nat) (p : Int) (h1 : 9223372036854775808 ≤ M) (h2 : M < 18446744073709551616) (hp : -1085 ≤ p) (hq : p + 11 + 1 ≤ 971) (hk : keptOf M 11 = 9007199254740992) : fw false M p = fw false 4503599627370496 (p + 11 + 1) := by
  have hc : Canon 4503599627370496 (p + 11 + 1) := .inl ⟨by omega, by omega, by omega, hq⟩
  have := rung_lt _ _ hc
  rw [near_a M p h1 h2 hp, fw_canon false _ _ hc, hk]
  unfold rung at this ⊢
  show _ = 0 + _
  rw [Nat.min_eq_left (by omega)]
  omega
/-- Beyond the greatest. -/
theorem near_a_inf (M : Nat) (p : Int) (h1 : 9223372036854775808 ≤ M) (h2 : M < 18446744073709551616) (hp : -1085 ≤ p) (hq : 971 < p + 11 ∨ (keptOf M 11 = 9007199254740992 ∧ 971 < p + 11 + 1)) : fw false M p = iw false := by
  obtain ⟨_, _, k1, _⟩ := kept_11 M h1 h2
  rw [near_a M p h1 h2 hp]
  show _ = 0 + _
  rw [Nat.min_eq_right (by rcases hq with hq | ⟨hk, hq⟩ <;> omega)]
theorem near_far (M : Nat) (p : Int) (h2 : M < 18446744073709551616) (hp : p < -1138) : fw false M p = 0 := by
  rw [fw_tiny false M p h2 (by omega)]; rfl
end Go.Proofs.YtoedefjngipeiaaGreatDoor

