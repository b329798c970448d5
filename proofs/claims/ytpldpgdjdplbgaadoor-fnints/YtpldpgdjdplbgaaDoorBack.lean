/- A number's text tells that number: plain, no program is spoken of here. -/
import Derived.Test.YtpldpgdjdplbgaaDoorDigits
import Derived.Test.YtpldpgdjdplbgaaDoorReadP
import Derived.Test.YtpldpgdjdplbgaaDoorWriteA
namespace Go.Proofs.YtpldpgdjdplbgaaDoor
open Go.RowKit

theorem dch_all : ∀ d : Fin 36, digN 99 ((dch d.val).toNat : Int) = (d.val : Int) := by decide
theorem dch_dig (d : Nat) (h : d < 36) : digN 99 ((dch d).toNat : Int) = (d : Int) := dch_all ⟨d, h⟩
theorem fold_from (b : Int) (l : List UInt8) : ∀ n : Int, l.foldl (fun n c => n * b + digN 99 c.toNat) n = n * b ^ l.length + val b l := by
  induction l with
  | nil => intro n; simp [val]
  | cons c l ih =>
    intro n
    have h1 := ih (n * b + digN 99 c.toNat)
    have h2 := ih (0 * b + digN 99 c.toNat)
    show l.foldl _ (n * b + digN 99 c.toNat) = n * b ^ (l.length + 1) + l.foldl _ (0 * b + digN 99 c.toNat)
    rw [h1, h2, Int.zero_mul, Int.zero_add, Int.add_mul, Int.pow_succ, Int.mul_assoc, Int.mul_comm b, Int.add_assoc]
theorem val_cons (b : Int) (c : UInt8) (l : List UInt8) : val b (c :: l) = digN 99 c.toNat * b ^ l.length + val b l := by
  have h := fold_from b l (0 * b + digN 99 c.toNat)
  rw [Int.zero_mul, Int.zero_add] at h
  show l.foldl _ (0 * b + digN 99 c.toNat) = _
  rw [Int.zero_mul, Int.zero_add, h]
theorem good_cons (b : Int) (c : UInt8) (l : List UInt8) (h : digN 99 (c.toNat : Int) < b) (hl : good b l) : good b (c :: l) := by
  intro d hd
  rcases List.mem_cons.1 hd with rfl | hd
  · exact h
  · exact hl d hd
theorem wr_val (b : Nat) (h2 : 2 ≤ b) (h36 : b ≤ 36) : ∀ (f n : Nat) (acc : List UInt8), n < 2 ^ f → val b (wr f b n acc) = (n : Int) * (b : Int) ^ acc.length + val b acc := by
  intro f
  induction f with
  | zero => intro n acc h; simp at h; subst h; simp [wr]
  | succ f ih =>
    intro n acc h
    by_cases hn : n = 0
    · subst hn; rw [wr_zero]; simp
    · have e : wr (f + 1) b n acc = wr f b (n / b) (dch (n % b) :: acc) := by show (if n = 0 then _ else _) = _; rw [if_neg hn]
      have hm : n % b < b := Nat.mod_lt _ (by omega)
      rw [e, ih (n / b) _ (wr_bound f b n h2 h), val_cons, dch_dig (n % b) (by omega), List.length_cons, Int.pow_succ]
      have hd : ((n / b : Nat) : Int) * (b : Int) + ((n % b : Nat) : Int) = (n : Int) := by
        have := Nat.div_add_mod n b
        rw [Nat.mul_comm] at this
        exact_mod_cast this
      rw [← Int.add_assoc, Int.mul_comm ((b : Int) ^ acc.length), ← Int.mul_assoc, ← Int.add_mul, hd]
theorem wr_good (b : Nat) (h2 : 2 ≤ b) (h36 : b ≤ 36) : ∀ (f n : Nat) (acc : List UInt8), good b acc → good b (wr f b n acc) := by
  intro f
  induction f with
  | zero => intro n acc h; exact h
  | succ f ih =>
    intro n acc h
    by_cases hn : n = 0
    · subst hn; rw [wr_zero]; exact h
    · have e : wr (f + 1) b n acc = wr f b (n / b) (dch (n % b) :: acc) := by show (if n = 0 then _ else _) = _; rw [if_neg hn]
      have hm : n % b < b := Nat.mod_lt _ (by omega)
      rw [e]
      exact ih _ _ (good_cons b _ _ (by rw [dch_dig (n % b) (by omega)]; omega) h)
theorem wr_long (b : Nat) : ∀ (f n : Nat) (acc : List UInt8), acc.length ≤ (wr f b n acc).length := by
  intro f
  induction f with
  | zero => intro n acc; exact Nat.le_refl _
  | succ f ih =>
    intro n acc
    unfold wr
    split
    · exact Nat.le_refl _
    · have := ih (n / b) (dch (n % b) :: acc)
      simp at this
      omega
theorem text_val (b n : Nat) (h2 : 2 ≤ b) (h36 : b ≤ 36) (hn : n < 18446744073709551616) : val b (textOf b n) = n := by
  have hm : n % b < b := Nat.mod_lt _ (by omega)
  unfold textOf
  rw [wr_val b h2 h36 63 _ _ (wr_bound 63 b n h2 (by show n < 2 ^ 64; omega)), val_cons, dch_dig (n % b) (by omega)]
  have hd : ((n / b : Nat) : Int) * (b : Int) + ((n % b : Nat) : Int) = (n : Int) := by
    have := Nat.div_add_mod n b
    rw [Nat.mul_comm] at this
    exact_mod_cast this
  have e1 : (b : Int) ^ [dch (n % b)].length = b := by show (b : Int) ^ (0 + 1) = b; rw [Int.pow_succ, Int.pow_zero, Int.one_mul]
  rw [e1]
  simp [val] at hd ⊢
  exact hd
theorem text_good (b n : Nat) (h2 : 2 ≤ b) (h36 : b ≤ 36) : good b (textOf b n) := by
  have hm : n % b < b := Nat.mod_lt _ (by omega)
  exact wr_good b h2 h36 63 _ _ (good_cons b _ _ (by rw [dch_dig (n % b) (by omega)]; omega) (fun c hc => by cases hc))
theorem text_pos (b n : Nat) : 1 ≤ (textOf b n).length := wr_long b 63 (n / b) [dch (n % b)]
theorem text_ne (b n : Nat) : textOf b n ≠ [] := fun h => by have := text_pos b n; rw [h] at this; simp at this

/-- A text of digits bears no sign. -/
theorem cut_bare (b : Int) (l : List UInt8) (h36 : b ≤ 36) (hg : good b l) (hl : l ≠ []) : Cut ⟨l.toArray⟩ false ⟨l.toArray⟩ := by
  have hs : (⟨l.toArray⟩ : ByteArray).size = l.length := rfl
  have hp : 0 < (⟨l.toArray⟩ : ByteArray).size := by rw [hs]; exact List.length_pos_iff.2 hl
  have hd := good_at b ⟨l.toArray⟩ hg 0 hp
  refine .inr (.inr (.inr ⟨hp, fun h => ?_, fun h => ?_, rfl, rfl⟩))
  · rw [h] at hd; simp [digN] at hd; omega
  · rw [h] at hd; simp [digN] at hd; omega
theorem signed_tail (c : UInt8) (l : List UInt8) : (⟨(c :: l).toArray⟩ : ByteArray).extract 1 (⟨(c :: l).toArray⟩ : ByteArray).size = ⟨l.toArray⟩ := by
  rw [Lib.extract_eq]
  have hs : (⟨(c :: l).toArray⟩ : ByteArray).size = l.length + 1 := rfl
  rw [hs]
  simp
theorem cut_minus (l : List UInt8) : Cut ⟨(45 :: l).toArray⟩ true ⟨l.toArray⟩ :=
  .inr (.inl ⟨Nat.succ_pos _, rfl, rfl, (signed_tail 45 l).symm⟩)
theorem cut_plus (l : List UInt8) : Cut ⟨(43 :: l).toArray⟩ false ⟨l.toArray⟩ :=
  .inr (.inr (.inl ⟨Nat.succ_pos _, rfl, rfl, (signed_tail 43 l).symm⟩))
/-- Zeros ahead change nothing. -/
theorem zeros_val (b : Int) (l : List UInt8) : val b (48 :: 48 :: l) = val b l := by
  rw [val_cons, val_cons]
  have e : digN 99 (((48 : UInt8).toNat : Nat) : Int) = 0 := by decide
  rw [e, Int.zero_mul, Int.zero_mul, Int.zero_add, Int.zero_add]
theorem zeros_good (b : Int) (l : List UInt8) (h2 : 2 ≤ b) (h : good b l) : good b (48 :: 48 :: l) := by
  have e : digN 99 (((48 : UInt8).toNat : Nat) : Int) < b := by
    have e0 : digN 99 (((48 : UInt8).toNat : Nat) : Int) = 0 := by decide
    omega
  exact good_cons b _ _ e (good_cons b _ _ e h)
end Go.Proofs.YtpldpgdjdplbgaaDoor
