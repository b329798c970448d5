/- Digits written, as plain functions; no program is spoken of here. -/
import Derived.WalkKit
import Derived.Lib.Strings
namespace Go.Proofs.YtpldpgdjdplbgaaDoor
open Go.RowKit

/-- The byte of a digit. -/
def dch (d : Nat) : UInt8 := if d < 10 then UInt8.ofNat (48 + d) else UInt8.ofNat (87 + d)
/-- The digits of n in a base ahead of what is written already; the first number bounds how many. -/
def wr : Nat → Nat → Nat → List UInt8 → List UInt8
  | 0, _, _, acc => acc
  | f + 1, b, n, acc => if n = 0 then acc else wr f b (n / b) (dch (n % b) :: acc)
/-- A number's text. -/
def textOf (b n : Nat) : List UInt8 := wr 63 b (n / b) [dch (n % b)]
theorem wr_zero (f b : Nat) (acc : List UInt8) : wr f b 0 acc = acc := by cases f <;> simp [wr]
theorem wr_step (f b n : Nat) (acc : List UInt8) (hn : 0 < n) (hf : n < 2 ^ f) : ∃ g, f = g + 1 ∧ wr f b n acc = wr g b (n / b) (dch (n % b) :: acc) := by
  cases f with
  | zero => simp at hf; omega
  | succ g => exact ⟨g, rfl, by simp [wr]; omega⟩
theorem wr_bound (g b n : Nat) (hb : 2 ≤ b) (hf : n < 2 ^ (g + 1)) : n / b < 2 ^ g := by
  rw [Nat.div_lt_iff_lt_mul (by omega)]
  have h1 : 2 ^ g * 2 ≤ 2 ^ g * b := Nat.mul_le_mul_left _ hb
  rw [Nat.pow_succ] at hf
  omega
theorem wr_length (b : Nat) : ∀ (f n : Nat) (acc : List UInt8), (wr f b n acc).length ≤ acc.length + f := by
  intro f
  induction f with
  | zero => intro n acc; exact Nat.le_refl _
  | succ f ih =>
    intro n acc
    unfold wr
    split
    · omega
    · have := ih (n / b) (dch (n % b) :: acc)
      simp at this
      omega
theorem textOf_length (b n : Nat) : (textOf b n).length ≤ 64 := wr_length b 63 _ _
theorem textOf_pos (b n : Nat) (hn : 0 < n) : wr 64 b n [] = textOf b n := by
  have e : (64 : Nat) = 63 + 1 := rfl
  rw [e]; unfold wr; rw [if_neg (by omega)]; rfl
theorem textOf_zero (b : Nat) : textOf b 0 = [48] := by
  unfold textOf; rw [Nat.zero_div, wr_zero, Nat.zero_mod]; rfl
def digitText : ByteArray := ⟨#[48, 49, 50, 51, 52, 53, 54, 55, 56, 57, 97, 98, 99, 100, 101, 102, 103, 104, 105, 106, 107, 108, 109, 110, 111, 112, 113, 114, 115, 116, 117, 118, 119, 120, 121, 122]⟩
theorem digitText_all : ∀ d : Fin 36, ((digitText.data.toList.drop d.val).take 1) = [dch d.val] := by decide
theorem digitText_at (d : Nat) (h : d < 36) : digitText.extract d (d + 1) = ⟨#[dch d]⟩ := by
  rw [Lib.extract_eq, show d + 1 - d = 1 by omega, digitText_all ⟨d, h⟩]
theorem mod_lo (m b : Nat) : 0 ≤ (m : Int) % (b : Int) := by rw [← Int.natCast_emod]; omega
theorem mod_hi (m b : Nat) (h2 : 2 ≤ b) (h36 : b ≤ 36) : (m : Int) % (b : Int) < 36 := by
  have := Int.emod_lt_of_pos (m : Int) (b := (b : Int)) (by omega); omega
theorem div_lo (m b : Nat) : 0 ≤ (m : Int) / (b : Int) := by rw [← Int.natCast_ediv]; exact Int.natCast_nonneg _
theorem div_hi (m b : Nat) : (m : Int) / (b : Int) ≤ m := by rw [← Int.natCast_ediv]; exact Int.ofNat_le.2 (Nat.div_le_self m b)
theorem div_less (m b : Nat) (h : 0 < m) (h2 : 2 ≤ b) : m / b < m := Nat.div_lt_self h (by omega)
theorem push_front (c : UInt8) (l : List UInt8) : (⟨#[c]⟩ : ByteArray) ++ ⟨l.toArray⟩ = ⟨(c :: l).toArray⟩ := by
  apply ByteArray.ext
  rw [ByteArray.data_append]
  simp
end Go.Proofs.YtpldpgdjdplbgaaDoor
