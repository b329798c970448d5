/- Numbers in a base, as plain functions: no program is spoken of here. -/
import Derived.WalkKit
namespace Go.Proofs.YtpldpgdjdplbgaaDoor
open Go.RowKit

/-- A byte's digit; 'none' for a byte that is none. -/
def digN (none c : Int) : Int := if 48 ≤ c ∧ c ≤ 57 then c - 48 else if 97 ≤ c ∧ c ≤ 122 then c - 97 + 10 else none
theorem digN_lo (none c : Int) (h : 0 ≤ none) : 0 ≤ digN none c := by unfold digN; split <;> (try split) <;> omega
theorem digN_hi (none c : Int) (h : 36 ≤ none) : digN none c ≤ none := by unfold digN; split <;> (try split) <;> omega
theorem digN_same (a b c base : Int) (ha : base ≤ a) (hb : base ≤ b) : (digN a c < base ↔ digN b c < base) ∧ (digN a c < base → digN a c = digN b c) := by
  unfold digN; split <;> (try split) <;> omega

/-- The number that digits tell. -/
def val (b : Int) (l : List UInt8) : Int := l.foldl (fun n c => n * b + digN 99 c.toNat) 0
/-- Every byte is a digit of the base. -/
def good (b : Int) (l : List UInt8) : Prop := ∀ c ∈ l, digN 99 (c.toNat : Int) < b
theorem val_snoc (b : Int) (l : List UInt8) (c : UInt8) : val b (l ++ [c]) = val b l * b + digN 99 c.toNat := by simp [val, List.foldl_append]
theorem le_mul (n b : Int) (hn : 0 ≤ n) (hb : 1 ≤ b) : n ≤ n * b := by
  have h := Int.mul_nonneg hn (show (0 : Int) ≤ b - 1 by omega)
  rw [Int.mul_sub, Int.mul_one] at h
  omega
theorem fold_nonneg (b : Int) (hb : 0 ≤ b) (l : List UInt8) : ∀ n : Int, 0 ≤ n → 0 ≤ l.foldl (fun n c => n * b + digN 99 c.toNat) n := by
  induction l with
  | nil => intro n h; exact h
  | cons c l ih =>
    intro n h
    have hd := digN_lo 99 c.toNat (by omega)
    have hm : 0 ≤ n * b := Int.mul_nonneg h hb
    exact ih _ (show 0 ≤ n * b + digN 99 c.toNat by omega)
theorem val_nonneg (b : Int) (hb : 0 ≤ b) (l : List UInt8) : 0 ≤ val b l := fold_nonneg b hb l 0 (by omega)
theorem val_more (b : Int) (hb : 1 ≤ b) (m : List UInt8) : ∀ l, val b l ≤ val b (l ++ m) := by
  induction m with
  | nil => intro l; simp
  | cons c m ih =>
    intro l
    have h := ih (l ++ [c])
    rw [List.append_assoc] at h
    have hs := val_snoc b l c
    have hd := digN_lo 99 c.toNat (by omega)
    have hm := le_mul (val b l) b (val_nonneg b (by omega) l) hb
    show val b l ≤ val b (l ++ ([c] ++ m))
    omega
theorem val_take (b : Int) (hb : 1 ≤ b) (l : List UInt8) (k : Nat) : val b (l.take k) ≤ val b l := by
  have h := val_more b hb (l.drop k) (l.take k)
  rw [List.take_append_drop] at h
  exact h
theorem take_snoc (s : ByteArray) (k : Nat) (h : k < s.size) : s.data.toList.take (k + 1) = s.data.toList.take k ++ [s[k]] := by
  rw [List.take_succ_eq_append_getElem (by simpa using h)]; rfl
theorem val_step (b : Int) (s : ByteArray) (k : Nat) (h : k < s.size) : val b (s.data.toList.take (k + 1)) = val b (s.data.toList.take k) * b + digN 99 (s[k].toNat : Int) := by
  rw [take_snoc s k h, val_snoc]
theorem good_at (b : Int) (s : ByteArray) (hg : good b s.data.toList) (k : Nat) (h : k < s.size) : digN 99 (s[k].toNat : Int) < b :=
  hg _ (List.getElem_mem (l := s.data.toList) (n := k) (by simpa using h))
theorem bad_at (b : Int) (s : ByteArray) (k : Nat) (h : k < s.size) (hb : b ≤ digN 99 (s[k].toNat : Int)) : ¬ good b s.data.toList :=
  fun hg => by have := good_at b s hg k h; omega
theorem good_of (b : Int) (s : ByteArray) (h : ∀ k (hk : k < s.size), digN 99 (s[k].toNat : Int) < b) : good b s.data.toList := by
  intro c hc
  obtain ⟨i, hi, rfl⟩ := List.getElem_of_mem hc
  exact h i (by simpa using hi)

/-- What the test ahead of a product says: 'n > (limit - d) / b' just where the next number passes the limit. -/
theorem passes (n b d limit : Int) (hb : 0 < b) : (limit - d) / b < n ↔ limit < n * b + d := by
  have h := Int.ediv_lt_iff_lt_mul (a := limit - d) (b := n) hb
  omega
theorem passes0 (n b limit : Int) (hb : 0 < b) : limit / b < n ↔ limit < n * b := by
  have h := passes n b 0 limit hb
  simp only [Int.sub_zero, Int.add_zero] at h
  exact h
end Go.Proofs.YtpldpgdjdplbgaaDoor
