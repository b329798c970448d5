import Derived.WalkKit
import Derived.Lib.Strings
import Derived.Test.YtaoccjaaopmfdaaGreatDoorB05
import Derived.Test.YtaoccjaaopmfdaaGreatDoorB06
import Derived.Test.YtaoccjaaopmfdaaGreatDoorB04
import Derived.Test.YtaoccjaaopmfdaaGreatDoorRows
import Derived.WalkSpells
import Derived.WalkLawsBesides
import Derived.Outline
import Derived.BigQuiet
import Derived.Deep.QuietTactic
/- Digits written, as plain functions; no program is spoken of here. -/
namespace Go.Proofs.YtaoccjaaopmfdaaGreatDoor
open Go.RowKit

/-- The byte of a digit. -/
def dch (d : Nat) : UInt8 := if d < 10 then UInt8.ofNat (48 + d) else UInt8.ofNat (87 + d)
/-- The digits of n in a base ahead of what is written already; the first number bounds how many. -/
def wr : Nat → Nat → Nat → List UInt8 → List UInt8
  | 0, _, _, acc => acc
  | f + 1, b, n, acc => if n = 0 then acc else wr f b (n / b) (dch (n % b) :: acc)
/-- A number's text. -/
def textOf (b n : Nat) : List UInt8 := wr 63 b (n / b) [dch (n % b)]
theorem wr_zero (f b : Nat) (acc : List UInt8) : wr f b 0 acc = acc := by cases f <;> simp [wr]
theorem wr_step (f b n : Nat) (acc : List UInt8) (hn : 0 < n) (hf : n < 2 ^ f) : ∃ g, f = g + 1 ∧ wr f b n acc = wr g b (n / b) (dch (n % b) :: acc) := by
  cases f with
  | zero => simp at hf; omega
  | succ g => exact ⟨g, rfl, by simp [wr]; omega⟩
theorem wr_bound (g b n : Nat) (hb : 2 ≤ b) (hf : n < 2 ^ (g + 1)) : n / b < 2 ^ g := by
  rw [Nat.div_lt_iff_lt_mul (by omega)]
  have h1 : 2 ^ g * 2 ≤ 2 ^ g * b := Nat.mul_le_mul_left _ hb
  rw [Nat.pow_succ] at hf
  omega
theorem wr_length (b : Nat) : ∀ (f n : Nat) (acc : List UInt8), (wr f b n acc).length ≤ acc.length + f := by
  intro f
  induction f with
  | zero => intro n acc; exact Nat.le_refl _
  | succ f ih =>
    intro n acc
    unfold wr
    split
    · omega
    · have := ih (n / b) (dch (n % b) :: acc)
      simp at this
      omega
theorem textOf_length (b n : Nat) : (textOf b n).length ≤ 64 := wr_length b 63 _ _
theorem textOf_pos (b n : Nat) (hn : 0 < n) : wr 64 b n [] = textOf b n := by
  have e : (64 : Nat) = 63 + 1 := rfl
  rw [e]; unfold wr; rw [if_neg (by omega)]; rfl
theorem textOf_zero (b : Nat) : textOf b 0 = [48] := by
  unfold textOf; rw [Nat.zero_div, wr_zero, Nat.zero_mod]; rfl
def digitText : ByteArray := ⟨#[48, 49, 50, 51, 52, 53, 54, 55, 56, 57, 97, 98, 99, 100, 101, 102, 103, 104, 105, 106, 107, 108, 109, 110, 111, 112, 113, 114, 115, 116, 117, 118, 119, 120, 121, 122]⟩
theorem digitText_all : ∀ d : Fin 36, ((digitText.data.toList.drop d.val).take 1) = [dch d.val] := by decide
theorem digitText_at (d : Nat) (h : d < 36) : digitText.extract d (d + 1) = ⟨#[dch d]⟩ := by
  rw [Lib.extract_eq, show d + 1 - d = 1 by omega, digitText_all ⟨d, h⟩]
theorem mod_lo (m b : Nat) : 0 ≤ (m : Int) % (b : Int) := by rw [← Int.natCast_emod]; omega
theorem mod_hi (m b : Nat) (h2 : 2 ≤ b) (h36 : b ≤ 36) : (m : Int) % (b : Int) < 36 := by
  have := Int.emod_lt_of_pos (m : Int) (b := (b : Int)) (by omega); omega
theorem div_lo (m b : Nat) : 0 ≤ (m : Int) / (b : Int) := by rw [← Int.natCast_ediv]; exact Int.natCast_nonneg _
theorem div_hi (m b : Nat) : (m : Int) / (b : Int) ≤ m := by rw [← Int.natCast_ediv]; exact Int.ofNat_le.2 (Nat.div_le_self m b)
theorem div_less (m b : Nat) (h : 0 < m) (h2 : 2 ≤ b) : m / b < m := Nat.div_lt_self h (by omega)
theorem push_front (c : UInt8) (l : List UInt8) : (⟨#[c]⟩ : ByteArray) ++ ⟨l.toArray⟩ = ⟨(c :: l).toArray⟩ := by
  apply ByteArray.ext
  rw [ByteArray.data_append]
  simp
end Go.Proofs.YtaoccjaaopmfdaaGreatDoor

/- The digits that are written of a number tell that number: plain. -/
namespace Go.Proofs.YtaoccjaaopmfdaaGreatDoor
open Go.RowKit

theorem dch_all : ∀ d : Fin 36, digN 99 ((dch d.val).toNat : Int) = (d.val : Int) := by decide
theorem dch_dig (d : Nat) (h : d < 36) : digN 99 ((dch d).toNat : Int) = (d : Int) := dch_all ⟨d, h⟩
theorem good_cons (b : Int) (c : UInt8) (l : List UInt8) (h : digN 99 (c.toNat : Int) < b) (hl : good b l) : good b (c :: l) := by
  intro d hd
  rcases List.mem_cons.1 hd with rfl | hd
  · exact h
  · exact hl d hd
theorem wr_val (b : Nat) (h2 : 2 ≤ b) (h36 : b ≤ 36) : ∀ (f n : Nat) (acc : List UInt8), n < 2 ^ f → val b (wr f b n acc) = (n : Int) * (b : Int) ^ acc.length + val b acc := by
  intro f
  induction f with
  | zero => intro n acc h; simp at h; subst h; simp [wr]
  | succ f ih =>
    intro n acc h
    by_cases hn : n = 0
    · subst hn; rw [wr_zero]; simp
    · have e : wr (f + 1) b n acc = wr f b (n / b) (dch (n % b) :: acc) := by show (if n = 0 then _ else _) = _; rw [if_neg hn]
      have hm : n % b < b := Nat.mod_lt _ (by omega)
      rw [e, ih (n / b) _ (wr_bound f b n h2 h), val_cons, dch_dig (n % b) (by omega), List.length_cons, Int.pow_succ]
      have hd : ((n / b : Nat) : Int) * (b : Int) + ((n % b : Nat) : Int) = (n : Int) := by
        have := Nat.div_add_mod n b
        rw [Nat.mul_comm] at this
        exact_mod_cast this
      rw [← Int.add_assoc, Int.mul_comm ((b : Int) ^ acc.length), ← Int.mul_assoc, ← Int.add_mul, hd]
theorem wr_good (b : Nat) (h2 : 2 ≤ b) (h36 : b ≤ 36) : ∀ (f n : Nat) (acc : List UInt8), good b acc → good b (wr f b n acc) := by
  intro f
  induction f with
  | zero => intro n acc h; exact h
  | succ f ih =>
    intro n acc h
    by_cases hn : n = 0
    · subst hn; rw [wr_zero]; exact h
    · have e : wr (f + 1) b n acc = wr f b (n / b) (dch (n % b) :: acc) := by show (if n = 0 then _ else _) = _; rw [if_neg hn]
      have hm : n % b < b := Nat.mod_lt _ (by omega)
      rw [e]
      exact ih _ _ (good_cons b _ _ (by rw [dch_dig (n % b) (by omega)]; omega) h)
theorem wr_long (b : Nat) : ∀ (f n : Nat) (acc : List UInt8), acc.length ≤ (wr f b n acc).length := by
  intro f
  induction f with
  | zero => intro n acc; exact Nat.le_refl _
  | succ f ih =>
    intro n acc
    unfold wr
    split
    · exact Nat.le_refl _
    · have := ih (n / b) (dch (n % b) :: acc)
      simp at this
      omega
theorem text_val (b n : Nat) (h2 : 2 ≤ b) (h36 : b ≤ 36) (hn : n < 18446744073709551616) : val b (textOf b n) = n := by
  have hm : n % b < b := Nat.mod_lt _ (by omega)
  unfold textOf
  rw [wr_val b h2 h36 63 _ _ (wr_bound 63 b n h2 (by show n < 2 ^ 64; omega)), val_cons, dch_dig (n % b) (by omega)]
  have hd : ((n / b : Nat) : Int) * (b : Int) + ((n % b : Nat) : Int) = (n : Int) := by
    have := Nat.div_add_mod n b
    rw [Nat.mul_comm] at this
    exact_mod_cast this
  have e1 : (b : Int) ^ [dch (n % b)].length = b := by show (b : Int) ^ (0 + 1) = b; rw [Int.pow_succ, Int.pow_zero, Int.one_mul]
  rw [e1]
  simp [val] at hd ⊢
  exact hd
theorem text_good (b n : Nat) (h2 : 2 ≤ b) (h36 : b ≤ 36) : good b (textOf b n) := by
  have hm : n % b < b := Nat.mod_lt _ (by omega)
  exact wr_good b h2 h36 63 _ _ (good_cons b _ _ (by rw [dch_dig (n % b) (by omega)]; omega) (fun c hc => by cases hc))
theorem text_pos (b n : Nat) : 1 ≤ (textOf b n).length := wr_long b 63 (n / b) [dch (n % b)]
theorem text_ne (b n : Nat) : textOf b n ≠ [] := fun h => by have := text_pos b n; rw [h] at this; simp at this
end Go.Proofs.YtaoccjaaopmfdaaGreatDoor

/- The fewest digits that are read as a float, as the specification finds them: plain. -/
namespace Go.Proofs.YtaoccjaaopmfdaaGreatDoor
open Ieee (double)

theorem dec_exact (V q : Nat) (e E : Int) (hV : 0 < V) (hq : 0 < q) (h : V * 10 ^ e.toNat * 2 ^ (-E).toNat = q * 2 ^ E.toNat * 10 ^ (-e).toNat) : decW 10 V e = fw false q E := by
  unfold decW
  have p2 : ∀ k, 0 < 2 ^ k := fun k => Nat.two_pow_pos k
  have p10 : ∀ k, 0 < 10 ^ k := fun k => Nat.pow_pos (by omega)
  rw [if_neg (by omega), ratioW_eq (V * 10 ^ e.toNat) (10 ^ (-e).toNat) (q * 2 ^ E.toNat) (2 ^ (-E).toNat) (Nat.mul_pos hV (p10 _)) (p10 _) (Nat.mul_pos hq (p2 _)) (p2 _) h, ratioW_fw q _ _ hq]
  rw [show ((E.toNat : Int) - ((-E).toNat : Int)) = E by omega]
/-- All digits are read as the float. -/
theorem exD_reads (ds : ByteArray) (pow : Int) (q : Nat) (E : Int) (hq : 0 < q) (h : ExD ds pow q E) : decW 10 (valN 10 ds.data.toList) (pow - (ds.size : Int)) = fw false q E := by
  obtain ⟨h0, hg, hf, _, hv⟩ := h
  have hV : 0 < valN 10 ds.data.toList := by
    have := (dec_bounds ds _ ⟨hg, rfl, hf⟩ h0).1
    have h2 : 0 < 10 ^ (ds.size - 1) := Nat.pow_pos (by omega)
    omega
  refine dec_exact _ q _ E hV hq ?_
  rw [show (-(pow - (ds.size : Int))).toNat = ((ds.size : Int) - pow).toNat by omega]
  exact hv
end Go.Proofs.YtaoccjaaopmfdaaGreatDoor

namespace Go.Proofs.YtaoccjaaopmfdaaGreatDoor
open Go.ChangeShapes Go.WideShapes Go.RowKit

set_option maxHeartbeats 400000 in
theorem specDigits_any (n b : Nat) (w : World) (hn : n < 18446744073709551616) (h2 : 2 ≤ b) (h36 : b ≤ 36) :
    Calls Tryz.prog 80 #[.int .u64 n, .int .i64 b] w fun e w' => e = .returned (.string ⟨(textOf b n).toArray⟩) ∧ w' = w := by
  by_cases hz : n = 0
  · subst hz
    rw [textOf_zero b]
    go_enter Tryz.func80, Tryz.ntmps80
    go_wp2
    go_ret
    exact ⟨rfl, rfl⟩
  · have hb : ((n : Int) == 0) = false := beq_eq_false_iff_ne.2 (by omega)
    go_enter Tryz.func80, Tryz.ntmps80
    go_wp2
    go_loop [0, 6] (fun t o => ∃ (m f : Nat) (acc : List UInt8), t = .int .u64 m ∧ o = .string ⟨acc.toArray⟩ ∧ m < 18446744073709551616 ∧ Hid (m < 2 ^ f) ∧ Hid (wr f b m acc = wr 64 b n []) ∧ acc.length + f = 64) (fun t _ => (intOf t).toNat)
    case atStart => exact ⟨n, 64, [], rfl, rfl, hn, by show n < 2 ^ 64; omega, rfl, rfl⟩
    case round =>
      obtain ⟨m, f, acc, rfl, rfl, hm, HF, HW, hl⟩ := hrel
      by_cases hlt : 0 < m
      · obtain ⟨g, rfl, hg⟩ := wr_step f b m acc hlt HF.out
        have HG : Hid (m / b < 2 ^ g) := wr_bound g b m h2 HF.out
        have HW2 : Hid (wr g b (m / b) (dch (m % b) :: acc) = wr 64 b n []) := hg.symm.trans HW.out
        have HX : Hid _ := digitText_at (m % b) (Nat.lt_of_lt_of_le (Nat.mod_lt m (by omega)) h36)
        have hr0 := mod_lo m b
        have hr1 := mod_hi m b h2 h36
        have hq0 := div_lo m b
        have hq1 := div_hi m b
        clear hg
        go_wp2
        have e := HX.out
        unfold digitText at e
        rw [e, push_front, ← Int.natCast_ediv]
        have hless := div_less m b hlt h2
        exact ⟨⟨m / b, g, _, rfl, rfl, by omega, HG, HW2, by simp; omega⟩, by show Int.toNat ((m / b : Nat) : Int) < Int.toNat (m : Int); rw [Int.toNat_natCast, Int.toNat_natCast]; exact hless⟩
      · have HE : Hid (textOf b n = acc) := by
          have h0 : m = 0 := by omega
          have := HW.out
          rw [h0, wr_zero] at this
          exact (textOf_pos b n (by omega)).symm.trans this.symm
        go_wp2
        go_ret
        exact ⟨by rw [HE.out]; rfl, rfl⟩
end Go.Proofs.YtaoccjaaopmfdaaGreatDoor

