import Derived.Test.YtmcjehjpblkfoaaGreatDoorS05
import Derived.Test.YtmcjehjpblkfoaaGreatDoorS03
import Derived.Lib.Strings
import Derived.Test.YtmcjehjpblkfoaaGreatDoorS02
/- A number times a power of two, written out with a point: plain. -/
namespace Go.Proofs.YtmcjehjpblkfoaaGreatDoor
open Go.RowKit

def dotB : ByteArray := ⟨#[46]⟩
/-- Digits, a point, digits: the number A times 2 to the e, exactly. -/
def Pointed (t : ByteArray) (A : Nat) (e : Int) : Prop := ∃ a b : ByteArray, t = a ++ dotB ++ b ∧ 0 < a.size ∧ b.size = (if 0 ≤ e ∨ A = 0 then 1 else (-e).toNat) ∧ good 10 (a ++ b).data.toList
  ∧ valN 10 (a ++ b).data.toList * 2 ^ (-e).toNat = A * 2 ^ e.toNat * 10 ^ b.size ∧ (a.size = 1 ∨ 10 ^ (a.size - 1) * 10 ^ b.size ≤ valN 10 (a ++ b).data.toList)
theorem valN_append (l m : List UInt8) : valN 10 (l ++ m) = valN 10 l * 10 ^ m.length + valN 10 m := by
  have h := fold_split 10 m (val 10 l)
  have e : val 10 (l ++ m) = val 10 l * 10 ^ m.length + val 10 m := by
    unfold val at h ⊢
    rw [List.foldl_append]
    exact h
  have h1 := valN_cast 10 (l ++ m)
  have h2 := valN_cast 10 l
  have h3 := valN_cast 10 m
  rw [show ((10 : Nat) : Int) = 10 from rfl] at h1 h2 h3
  rw [e, ← h2, ← h3] at h1
  have h4 : ((valN 10 l * 10 ^ m.length + valN 10 m : Nat) : Int) = (valN 10 l : Int) * 10 ^ m.length + (valN 10 m : Int) := by
    rw [Int.natCast_add, Int.natCast_mul, Int.natCast_pow]; rfl
  omega
theorem append_list (a b : ByteArray) : (a ++ b).data.toList = a.data.toList ++ b.data.toList := by simp [ByteArray.data_append]
theorem append_size (a b : ByteArray) : (a ++ b).size = a.size + b.size := by simp
theorem extract_join (s : ByteArray) (k : Nat) : (s.extract 0 k ++ s.extract k s.size).data.toList = s.data.toList := by
  rw [append_list, Lib.extract_eq, Lib.extract_eq]
  simp
  have h1 : (s.data.toList.drop k).take (s.size - k) = s.data.toList.drop k := List.take_of_length_le (by rw [List.length_drop, data_len]; omega)
  rw [h1, List.take_append_drop]
theorem good_append (l m : List UInt8) (h : good 10 l) (h' : good 10 m) : good 10 (l ++ m) := fun c hc => by
  rcases List.mem_append.1 hc with h1 | h1
  · exact h c h1
  · exact h' c h1
theorem good_zeros (n : Nat) : good 10 (List.replicate n (48 : UInt8)) := fun c hc => by rw [List.eq_of_mem_replicate hc]; decide
theorem valN_zeros (n : Nat) : valN 10 (List.replicate n (48 : UInt8)) = 0 := by
  induction n with
  | zero => exact valN_nil 10
  | succ n ih => rw [List.replicate_succ, valN_zero 10 48 _ rfl]; exact ih
theorem dec_pos (ds : ByteArray) (A : Nat) (h : IsDec ds A) (hp : 0 < A) : 0 < ds.size := by
  apply Nat.pos_of_ne_zero
  intro h0
  have e : ds.data.toList = [] := List.length_eq_zero_iff.1 (by rw [data_len]; exact h0)
  have := h.2.1
  rw [e, valN_nil] at this
  omega
/-- Above: nothing is behind the point but a zero. -/
theorem pointed_up (ds : ByteArray) (A E : Nat) (hA : 0 < A) (h : IsDec ds (A * 2 ^ E)) : Pointed (ds ++ dotB ++ ⟨#[48]⟩) A (E : Int) := by
  have hp : 0 < A * 2 ^ E := Nat.mul_pos hA (Nat.two_pow_pos E)
  have h0 : 0 < ds.size := dec_pos ds _ h hp
  have hv : valN 10 (ds ++ (⟨#[48]⟩ : ByteArray)).data.toList = A * 2 ^ E * 10 := by
    rw [append_list, valN_append, h.2.1]; rfl
  refine ⟨ds, ⟨#[48]⟩, rfl, h0, ?_, ?_, ?_, ?_⟩
  · rw [if_pos (.inl (by omega))]; rfl
  · rw [append_list]; exact good_append _ _ h.1 (good_zeros 1)
  · rw [hv, show (-(E : Int)).toNat = 0 by omega, show ((E : Int)).toNat = E by omega]
    show A * 2 ^ E * 10 * 2 ^ 0 = A * 2 ^ E * 10 ^ 1
    omega
  · right
    rw [hv]
    have := (dec_bounds ds _ h h0).1
    show 10 ^ (ds.size - 1) * 10 ^ 1 ≤ A * 2 ^ E * 10
    omega
/-- Below: as many digits behind the point as the power asks. -/
theorem pointed_down (ds : ByteArray) (A s k : Nat) (z : Nat) (hA : 0 < A) (hs : 0 < s) (l : List UInt8) (hl : ds.data.toList = List.replicate z 48 ++ l) (hg : good 10 l) (hv : valN 10 l = A * 5 ^ s) (hk : ds.size = k + s) (hk0 : 0 < k)
    (hz : k = 1 ∨ 10 ^ (ds.size - 1) ≤ A * 5 ^ s) : Pointed (ds.extract 0 k ++ dotB ++ ds.extract k ds.size) A (-(s : Int)) := by
  have hj := extract_join ds k
  have hvd : valN 10 ds.data.toList = A * 5 ^ s := by rw [hl, valN_append, valN_zeros, Nat.zero_mul, Nat.zero_add, hv]
  have sa : (ds.extract 0 k).size = k := by simp; omega
  have sb : (ds.extract k ds.size).size = s := by simp; omega
  refine ⟨_, _, rfl, by omega, ?_, ?_, ?_, ?_⟩
  · rw [sb, if_neg (by omega)]; omega
  · rw [hj, hl]; exact good_append _ _ (good_zeros z) hg
  · rw [hj, hvd, sb, show (-(-(s : Int))).toNat = s by omega, show (-(s : Int)).toNat = 0 by omega, Nat.pow_zero, Nat.mul_one, show (10 : Nat) = 5 * 2 from rfl, Nat.mul_pow, Nat.mul_assoc]
  · rw [hj, hvd, sa, sb]
    rcases hz with h | h
    · exact .inl h
    · right
      rw [← Nat.pow_add, show k - 1 + s = ds.size - 1 by omega]
      exact h
theorem pointed_zero (e : Int) : Pointed ⟨#[48, 46, 48]⟩ 0 e := by
  refine ⟨⟨#[48]⟩, ⟨#[48]⟩, rfl, by decide, by rw [if_pos (.inr rfl)]; rfl, good_zeros 2, ?_, .inl rfl⟩
  rw [show valN 10 ((⟨#[48]⟩ : ByteArray) ++ ⟨#[48]⟩).data.toList = 0 from valN_zeros 2]
  omega
theorem dec_few (s : ByteArray) (A n : Nat) (h : IsDec s A) (hA : A < 4294967296 ^ n) : s.size ≤ 32 * n + 1 := by
  by_cases h0 : s.size = 0
  · omega
  · have h1 := (dec_bounds s A h (by omega)).1
    have h2 : 2 ^ (s.size - 1) ≤ 10 ^ (s.size - 1) := Nat.pow_le_pow_left (by omega) _
    have e : 4294967296 ^ n = 2 ^ (32 * n) := by rw [Nat.pow_mul]
    rw [e] at hA
    have := (Nat.pow_lt_pow_iff_right (a := 2) (by omega)).1 (Nat.lt_of_le_of_lt h2 (Nat.lt_of_le_of_lt h1 hA))
    omega
/-- How long such a text is. -/
theorem pointed_size (t : ByteArray) (A : Nat) (e : Int) (h : Pointed t A e) (hA : A < 18446744073709551616) : t.size ≤ 2 + (64 + e.toNat - (-e).toNat) / 3 + (if 0 ≤ e ∨ A = 0 then 1 else (-e).toNat) := by
  obtain ⟨a, b, rfl, h0, hb, _, hv, hz⟩ := h
  rw [← hb, append_size, append_size, show dotB.size = 1 from rfl]
  have key : a.size - 1 ≤ (64 + e.toNat - (-e).toNat) / 3 := by
    rcases hz with hz | hz
    · omega
    · have h1 : 10 ^ (a.size - 1) * 10 ^ b.size * 2 ^ (-e).toNat ≤ A * 2 ^ e.toNat * 10 ^ b.size := by
        rw [← hv]; exact Nat.mul_le_mul_right _ hz
      have h2 : 10 ^ (a.size - 1) * 2 ^ (-e).toNat ≤ A * 2 ^ e.toNat := by
        apply Nat.le_of_mul_le_mul_right _ (Nat.pow_pos (show 0 < 10 by omega) (n := b.size))
        rw [Nat.mul_right_comm]; exact h1
      have h3 : 2 ^ (3 * (a.size - 1)) ≤ 10 ^ (a.size - 1) := by rw [Nat.pow_mul]; exact Nat.pow_le_pow_left (by omega) _
      have h4 : 2 ^ (3 * (a.size - 1) + (-e).toNat) ≤ A * 2 ^ e.toNat := by
        rw [Nat.pow_add]; exact Nat.le_trans (Nat.mul_le_mul_right _ h3) h2
      have h5 : A * 2 ^ e.toNat < 2 ^ (64 + e.toNat) := by
        rw [Nat.pow_add]
        exact Nat.mul_lt_mul_of_pos_right (show A < 2 ^ 64 from hA) (Nat.two_pow_pos _)
      have h6 := (Nat.pow_lt_pow_iff_right (a := 2) (by omega)).1 (Nat.lt_of_le_of_lt h4 h5)
      omega
  omega
end Go.Proofs.YtmcjehjpblkfoaaGreatDoor

/- All digits of a number: plain. -/
namespace Go.Proofs.YtmcjehjpblkfoaaGreatDoor
open Go.RowKit

/-- 0.DIGITS times 10 to the pow is M times 2 to the E; the first and the last digit are not 0. -/
def ExD (ds : ByteArray) (pow : Int) (M : Nat) (E : Int) : Prop := 0 < ds.size ∧ good 10 ds.data.toList ∧ (∀ h : 0 < ds.size, ds[0].toNat ≠ 48) ∧ (∀ h : ds.size - 1 < ds.size, ds[ds.size - 1].toNat ≠ 48)
  ∧ valN 10 ds.data.toList * 10 ^ (pow - (ds.size : Int)).toNat * 2 ^ (-E).toNat = M * 2 ^ E.toNat * 10 ^ ((ds.size : Int) - pow).toNat
/-- While zeros at the end are left out. -/
def Stp (d0 t : ByteArray) (j : Nat) : Prop := 0 < t.size ∧ good 10 t.data.toList ∧ (∀ h : 0 < t.size, t[0].toNat ≠ 48) ∧ valN 10 d0.data.toList = valN 10 t.data.toList * 10 ^ j ∧ t.size + j = d0.size
theorem stp_start (d0 : ByteArray) (A : Nat) (h : IsDec d0 A) (hA : 0 < A) : Stp d0 d0 0 := ⟨dec_pos d0 A h hA, h.1, h.2.2, by rw [Nat.pow_zero, Nat.mul_one], rfl⟩
theorem last_cut (t : ByteArray) (h : 0 < t.size) : t.data.toList = (t.extract 0 (t.size - 1)).data.toList ++ [t[t.size - 1]] := by
  have e : (t.extract 0 (t.size - 1)).data.toList = t.data.toList.take (t.size - 1) := by rw [Lib.extract_eq]; simp
  rw [e]
  have := List.take_append_getLast t.data.toList
  have h1 : t.data.toList.take (t.size - 1 + 1) = t.data.toList.take (t.size - 1) ++ [t.data.toList[t.size - 1]'(by rw [data_len]; omega)] := List.take_succ_eq_append_getElem (by rw [data_len]; omega)
  rw [show t.size - 1 + 1 = t.size by omega, List.take_of_length_le (by rw [data_len]; omega)] at h1
  exact h1
theorem valN_last (t : ByteArray) (h : 0 < t.size) (hz : t[t.size - 1].toNat = 48) : valN 10 t.data.toList = valN 10 (t.extract 0 (t.size - 1)).data.toList * 10 := by
  have e := last_cut t h
  have h1 : valN 10 [t[t.size - 1]] = 0 := by rw [valN_zero 10 _ _ hz, valN_nil]
  rw [e, valN_append, h1]
  rfl
theorem stp_next (d0 t : ByteArray) (j : Nat) (hp : 0 < valN 10 d0.data.toList) (h : Stp d0 t j) (hz : ∀ h : t.size - 1 < t.size, t[t.size - 1].toNat = 48) : Stp d0 (t.extract 0 (t.size - 1)) (j + 1) := by
  obtain ⟨h1, h2, h3, h4, h5⟩ := h
  have hv := valN_last t h1 (hz (by omega))
  have hs : (t.extract 0 (t.size - 1)).size = t.size - 1 := by simp
  have h0 : 0 < t.size - 1 := by
    apply Nat.pos_of_ne_zero
    intro h0
    have e : (t.extract 0 (t.size - 1)).data.toList = [] := List.length_eq_zero_iff.1 (by rw [data_len, hs]; exact h0)
    rw [hv, e, valN_nil] at h4
    omega
  refine ⟨by omega, ?_, ?_, ?_, by omega⟩
  · intro c hc
    exact h2 c (by rw [last_cut t h1]; exact List.mem_append_left _ hc)
  · intro h
    have := h3 h1
    rw [ByteArray.getElem_extract]
    simpa using this
  · rw [h4, hv, Nat.pow_succ, Nat.mul_assoc, Nat.mul_comm 10]
theorem stp_end (d0 t : ByteArray) (j M s : Nat) (E : Int) (h : Stp d0 t j) (hz : ∀ h : t.size - 1 < t.size, t[t.size - 1].toNat ≠ 48) (hA : valN 10 d0.data.toList = M * 2 ^ E.toNat * 5 ^ s) (hs : s = (-E).toNat) : ExD t ((d0.size : Int) - (s : Int)) M E := by
  obtain ⟨h1, h2, h3, h4, h5⟩ := h
  refine ⟨h1, h2, h3, hz, ?_⟩
  rw [show ((d0.size : Int) - (s : Int) - (t.size : Int)).toNat = j - s by omega, show ((t.size : Int) - ((d0.size : Int) - (s : Int))).toNat = s - j by omega, ← hs]
  apply Nat.eq_of_mul_eq_mul_right (Nat.pow_pos (show 0 < 10 by omega) (n := min j s))
  have e1 : 10 ^ (j - s) * 10 ^ min j s = 10 ^ j := by rw [← Nat.pow_add]; congr 1; omega
  have e2 : 10 ^ (s - j) * 10 ^ min j s = 10 ^ s := by rw [← Nat.pow_add]; congr 1; omega
  have e3 : (10 : Nat) ^ s = 5 ^ s * 2 ^ s := by rw [← Nat.mul_pow]
  rw [Nat.mul_assoc (M * 2 ^ E.toNat), e2, e3, ← Nat.mul_assoc, ← hA, h4]
  rw [Nat.mul_right_comm, Nat.mul_assoc (valN 10 t.data.toList), e1]
end Go.Proofs.YtmcjehjpblkfoaaGreatDoor

/- Texts of digits: plain. -/
namespace Go.Proofs.YtmcjehjpblkfoaaGreatDoor
open Go.RowKit

def zerosL (n : Nat) : List UInt8 := List.replicate n 48
theorem zerosL_length (n : Nat) : (zerosL n).length = n := by simp [zerosL]
def zerosB (n : Nat) : ByteArray := ⟨(zerosL n).toArray⟩
theorem zerosB_size (n : Nat) : (zerosB n).size = n := by rw [← data_len]; exact zerosL_length n
/-- Digits with a point and no exponent. -/
def plainB (ds : ByteArray) (pow : Int) : ByteArray :=
  if pow ≤ 0 then ⟨#[48, 46]⟩ ++ zerosB (-pow).toNat ++ ds
  else if (ds.size : Int) ≤ pow then ds ++ zerosB (pow.toNat - ds.size)
  else ds.extract 0 pow.toNat ++ dotB ++ ds.extract pow.toNat ds.size
theorem plainB_size (ds : ByteArray) (pow : Int) (h : ds.size ≤ 1100) (h1 : -1100 ≤ pow) (h2 : pow ≤ 1100) : (plainB ds pow).size ≤ 3000 := by
  unfold plainB
  have e2 : (⟨#[48, 46]⟩ : ByteArray).size = 2 := rfl
  have e3 : dotB.size = 1 := rfl
  split
  · rw [append_size, append_size, zerosB_size]; omega
  · split
    · rw [append_size, zerosB_size]; omega
    · rw [append_size, append_size]
      have a1 : (ds.extract 0 pow.toNat).size ≤ ds.size := by simp; omega
      have a2 : (ds.extract pow.toNat ds.size).size ≤ ds.size := by simp
      omega
end Go.Proofs.YtmcjehjpblkfoaaGreatDoor

/- l5zeros of the specification. -/
namespace Go.Proofs.YtmcjehjpblkfoaaGreatDoor
open Go.ChangeShapes Go.WideShapes Go.RowKit

set_option maxHeartbeats 400000 in
theorem l5zeros_at (n : Nat) (hn : n ≤ 1000000) (w : World) :
    Calls Tryz.prog 52 #[.int .i64 (n : Int)] w fun e w' => e = .returned (.string ⟨(zerosL n).toArray⟩) ∧ w' = w.alloc (.cells (tcells (zerosL n) n).toArray 5) := by
  have hmk := make_u8 n (by omega)
  have hl := zerosL_length n
  have HFR : Hid (∀ i, i < n → (tcells (zerosL n) i)[i]? = some (.int .u8 0)) := fun i h => tcells_free _ i (by omega)
  have HST : Hid (∀ i, i < n → (tcells (zerosL n) i).set i (.int .u8 48) = tcells (zerosL n) (i + 1)) := fun i h => by
    have := tcells_set (zerosL n) i (by omega)
    rw [show ((zerosL n)[i]'(by omega)).toNat = 48 by simp [zerosL]] at this
    exact this
  have hcv := text_end w (zerosL n) 5
  rw [hl] at hcv
  rw [show List.replicate n (Value.int .u8 0) = tcells (zerosL n) 0 by rw [tcells_zero, hl]] at hmk
  generalize zerosL n = tl at *
  clear hl
  go_enter Tryz.func52, Tryz.ntmps52
  go_wp2
  go_loopw [9] (fun vi wl => ∃ i : Nat, vi = .int .i64 (i : Int) ∧ i ≤ n ∧ wl = w.alloc (.cells (tcells tl i).toArray 5)) (fun vi _ => n - (intOf vi).toNat)
  case atStart => exact ⟨0, rfl, by omega, rfl⟩
  case round =>
    obtain ⟨i, rfl, hi, rfl⟩ := hrel
    by_cases hlt : i < n
    · have hfr := HFR.out i hlt
      have HS : Hid _ := HST.out i hlt
      clear hcv
      go_wp2
      rw [HS.out]
      exact ⟨⟨i + 1, rfl, by omega, rfl⟩, by simp only [intOf]; omega⟩
    · obtain rfl : i = n := by omega
      go_wp2
      go_ret
      exact ⟨rfl, rfl⟩
theorem l5zeros_any (n : Nat) (hn : n ≤ 1000000) (w : World) :
    Calls Tryz.prog 52 #[.int .i64 (n : Int)] w fun e w' => e = .returned (.string ⟨(zerosL n).toArray⟩) ∧ Below w.heap.size w w' := by
  refine (l5zeros_at n hn w).mono ?_
  rintro e w' ⟨rfl, rfl⟩
  exact ⟨rfl, (Below.refl _ _).alloc (Nat.le_refl _) _⟩
end Go.Proofs.YtmcjehjpblkfoaaGreatDoor

/- Rounding as the specification reckons it: plain. -/
namespace Go.Proofs.YtmcjehjpblkfoaaGreatDoor
open Ieee

/-- What is kept of M where d digits are dropped. -/
def keptOf (M d : Nat) : Nat := if 2 ^ (d - 1) < M % 2 ^ d ∨ (M % 2 ^ d = 2 ^ (d - 1) ∧ M / 2 ^ d % 2 = 1) then M / 2 ^ d + 1 else M / 2 ^ d
theorem kept_11 (M : Nat) (h1 : 9223372036854775808 ≤ M) (h2 : M < 18446744073709551616) : 4503599627370496 ≤ M / 2 ^ 11 ∧ M / 2 ^ 11 < 9007199254740992 ∧ 4503599627370496 ≤ keptOf M 11 ∧ keptOf M 11 ≤ 9007199254740992 := by
  have a : 4503599627370496 ≤ M / 2 ^ 11 := by rw [Nat.le_div_iff_mul_le (by omega)]; omega
  have b : M / 2 ^ 11 < 9007199254740992 := by rw [Nat.div_lt_iff_lt_mul (by omega)]; omega
  unfold keptOf
  split <;> omega
theorem kept_more (M d : Nat) (h2 : M < 18446744073709551616) (hd : 12 ≤ d) : M / 2 ^ d < 4503599627370496 ∧ keptOf M d ≤ 4503599627370496 := by
  have e : (2 : Nat) ^ 12 ≤ 2 ^ d := Nat.pow_le_pow_right (by omega) hd
  have b : M / 2 ^ d < 4503599627370496 := by
    rw [Nat.div_lt_iff_lt_mul (Nat.two_pow_pos d)]
    have : (2 : Nat) ^ 12 = 4096 := rfl
    have e2 : 4503599627370496 * 4096 ≤ 4503599627370496 * 2 ^ d := Nat.mul_le_mul_left _ (by omega)
    omega
  unfold keptOf
  split <;> omega
theorem near_a (M : Nat) (p : Int) (h1 : 9223372036854775808 ≤ M) (h2 : M < 18446744073709551616) (hp : -1085 ≤ p) :
    fw false M p = min ((p + 11 + 1074).toNat * 4503599627370496 + keptOf M 11) 9218868437227405312 := by
  have hl : lastOf p = p + 11 := by unfold lastOf; omega
  rw [fw_64 false M p h1 h2, hl, show (p + 11 - p).toNat = 11 by omega, cut_64 false M 11 h1 h2 (by omega) (by omega)]
  show 0 + _ = _
  rw [Nat.zero_add]
  rfl
theorem near_b (M : Nat) (p : Int) (h1 : 9223372036854775808 ≤ M) (h2 : M < 18446744073709551616) (hp : p ≤ -1086) (hq : -1138 ≤ p) :
    fw false M p = fw false (keptOf M (-1074 - p).toNat) (-1074) := by
  have hl : lastOf p = -1074 := by unfold lastOf; omega
  have hk := kept_more M (-1074 - p).toNat h2 (by omega)
  rw [fw_64 false M p h1 h2, hl, cut_64 false M _ h1 h2 (by omega) (by omega)]
  show 0 + min (_ + keptOf M _) _ = _
  have hc : Canon (keptOf M (-1074 - p).toNat) (-1074) := by
    by_cases h : keptOf M (-1074 - p).toNat < 4503599627370496
    · exact .inr ⟨h, rfl⟩
    · exact .inl ⟨by omega, by omega, by omega, by omega⟩
  rw [fw_canon false _ _ hc]
  unfold rung
  show 0 + _ = 0 + _
  rw [Nat.min_eq_left (by omega)]
/-- 53 digits kept, no carry. -/
theorem near_a_fits (M : Nat) (p : Int) (h1 : 9223372036854775808 ≤ M) (h2 : M < 18446744073709551616) (hp : -1085 ≤ p) (hq : p + 11 ≤ 971) (hk : keptOf M 11 < 9007199254740992) : fw false M p = fw false (keptOf M 11) (p + 11) := by
  obtain ⟨_, _, k1, _⟩ := kept_11 M h1 h2
  have hc : Canon (keptOf M 11) (p + 11) := .inl ⟨k1, hk, by omega, hq⟩
  have := rung_lt _ _ hc
  rw [near_a M p h1 h2 hp, fw_canon false _ _ hc]
  unfold rung at this ⊢
  show _ = 0 + _
  rw [Nat.min_eq_left (by omega), Nat.zero_add]
/-- A carry into the next place. -/
theorem near_a_carry (M : Nat) (p : Int) (h1 : 9223372036854775808 ≤ M) (h2 : M < 18446744073709551616) (hp : -1085 ≤ p) (hq : p + 11 + 1 ≤ 971) (hk : keptOf M 11 = 9007199254740992) : fw false M p = fw false 4503599627370496 (p + 11 + 1) := by
  have hc : Canon 4503599627370496 (p + 11 + 1) := .inl ⟨by omega, by omega, by omega, hq⟩
  have := rung_lt _ _ hc
  rw [near_a M p h1 h2 hp, fw_canon false _ _ hc, hk]
  unfold rung at this ⊢
  show _ = 0 + _
  rw [Nat.min_eq_left (by omega)]
  omega
/-- Beyond the greatest. -/
theorem near_a_inf (M : Nat) (p : Int) (h1 : 9223372036854775808 ≤ M) (h2 : M < 18446744073709551616) (hp : -1085 ≤ p) (hq : 971 < p + 11 ∨ (keptOf M 11 = 9007199254740992 ∧ 971 < p + 11 + 1)) : fw false M p = iw false := by
  obtain ⟨_, _, k1, _⟩ := kept_11 M h1 h2
  rw [near_a M p h1 h2 hp]
  show _ = 0 + _
  rw [Nat.min_eq_right (by rcases hq with hq | ⟨hk, hq⟩ <;> omega)]
theorem near_far (M : Nat) (p : Int) (h2 : M < 18446744073709551616) (hp : p < -1138) : fw false M p = 0 := by
  rw [fw_tiny false M p h2 (by omega)]; rfl
end Go.Proofs.YtmcjehjpblkfoaaGreatDoor

/- Rounding where something lies below a number: it hangs on that alone; plain. -/
namespace Go.Proofs.YtmcjehjpblkfoaaGreatDoor
open Ieee

/-- The number with its lowest bit set: it stands for whatever lies between it and the next. -/
def oddOf (m : Nat) : Nat := m / 2 * 2 + 1
theorem odd_parts (M d : Nat) : M / 2 ^ (d + 1) = M / 2 / 2 ^ d ∧ M % 2 ^ (d + 1) = 2 * (M / 2 % 2 ^ d) + M % 2 := by
  have e1 : M / 2 ^ (d + 1) = M / 2 / 2 ^ d := by rw [Nat.pow_succ, Nat.mul_comm, ← Nat.div_div_eq_div_mul]
  refine ⟨e1, ?_⟩
  have h1 := Nat.div_add_mod M (2 ^ (d + 1))
  have h2 := Nat.div_add_mod (M / 2) (2 ^ d)
  rw [e1, Nat.pow_succ] at h1
  generalize M / 2 / 2 ^ d = q at *
  generalize M / 2 % 2 ^ d = r at *
  rw [Nat.pow_succ]
  generalize M % (2 ^ d * 2) = z at *
  have e3 : 2 ^ d * 2 * q = 2 * (2 ^ d * q) := by rw [Nat.mul_comm (2 ^ d) 2, Nat.mul_assoc]
  rw [e3] at h1
  generalize 2 ^ d * q = g at *
  omega
theorem odd_half (M : Nat) : oddOf M / 2 = M / 2 ∧ oddOf M % 2 = 1 := by unfold oddOf; omega
theorem odd_kept (M d : Nat) (hd : 2 ≤ d) : keptOf (oddOf M) d = if 2 ^ (d - 1) ≤ M % 2 ^ d then M / 2 ^ d + 1 else M / 2 ^ d := by
  obtain ⟨k, rfl⟩ : ∃ k, d = k + 2 := ⟨d - 2, by omega⟩
  unfold keptOf
  obtain ⟨a1, a2⟩ := odd_parts M (k + 1)
  obtain ⟨b1, b2⟩ := odd_parts (oddOf M) (k + 1)
  obtain ⟨c1, c2⟩ := odd_half M
  rw [show k + 2 = k + 1 + 1 from rfl, b1, b2, a1, a2, c1, c2, Nat.add_sub_cancel, Nat.pow_succ]
  generalize M / 2 / (2 ^ k * 2) = q at *
  generalize M / 2 % (2 ^ k * 2) = r at *
  generalize 2 ^ k = h at *
  by_cases hc : h * 2 ≤ 2 * r + M % 2
  · rw [if_pos (.inl (by omega)), if_pos hc]
  · rw [if_neg (by omega), if_neg hc]
/-- Rounding, as it is reckoned, for every number. -/
theorem cut_kept (s : Bool) (n d : Nat) (hn : 0 < n) (hd : 1 ≤ d) : Toward.even.cut s n d = keptOf n d := by
  obtain ⟨k, rfl⟩ : ∃ k, d = k + 1 := ⟨d - 1, by omega⟩
  have hlt : n < 2 ^ (n.log2 + 1) := Nat.lt_log2_self
  by_cases hl : k + 1 ≤ n.log2 + 2
  · unfold Toward.cut keptOf
    simp only [Nat.shiftLeft_eq, Nat.one_mul]
    rw [Nat.min_eq_left hl, Nat.add_sub_cancel]
    have hp : 2 ^ (k + 1) = 2 * 2 ^ k := by rw [Nat.pow_succ, Nat.mul_comm]
    rw [hp]
    generalize 2 ^ k = g at *
    by_cases hc : g < n % (2 * g) ∨ (n % (2 * g) = g ∧ n / (2 * g) % 2 = 1)
    · rw [if_pos hc]
      have : (decide (2 * g < 2 * (n % (2 * g))) || (2 * g == 2 * (n % (2 * g)) && n / (2 * g) % 2 == 1)) = true := by
        rcases hc with h | ⟨h1, h2⟩
        · rw [decide_eq_true (by omega), Bool.true_or]
        · rw [h1, h2]; simp
      rw [this]; rfl
    · rw [if_neg hc]
      have : (decide (2 * g < 2 * (n % (2 * g))) || (2 * g == 2 * (n % (2 * g)) && n / (2 * g) % 2 == 1)) = false := by
        rw [Bool.or_eq_false_iff]
        refine ⟨decide_eq_false (by omega), ?_⟩
        rw [Bool.and_eq_false_iff]
        by_cases h1 : n % (2 * g) = g
        · right
          have : ¬ n / (2 * g) % 2 = 1 := fun h => hc (.inr ⟨h1, h⟩)
          simpa using this
        · left
          rw [beq_eq_false_iff_ne]; omega
      rw [this]; rfl
  · have hk : 2 ^ (n.log2 + 1) ≤ 2 ^ k := Nat.pow_le_pow_right (by omega) (by omega)
    have hp : 2 ^ (k + 1) = 2 * 2 ^ k := by rw [Nat.pow_succ, Nat.mul_comm]
    have e0 : keptOf n (k + 1) = 0 := by
      unfold keptOf
      rw [Nat.add_sub_cancel, Nat.mod_eq_of_lt (by omega), Nat.div_eq_of_lt (by omega), if_neg (by omega)]
    rw [e0]
    unfold Toward.cut
    simp only [Nat.shiftLeft_eq, Nat.one_mul]
    rw [Nat.min_eq_right (by omega)]
    have hp2 : 2 ^ (n.log2 + 2) = 2 * 2 ^ (n.log2 + 1) := by rw [show n.log2 + 2 = n.log2 + 1 + 1 from rfl, Nat.pow_succ, Nat.mul_comm]
    rw [hp2]
    generalize 2 ^ (n.log2 + 1) = g at *
    have e1 : n / (2 * g) = 0 := Nat.div_eq_of_lt (by omega)
    have e2 : n % (2 * g) = n := Nat.mod_eq_of_lt (by omega)
    rw [e1, e2]
    have : (decide (2 * g < 2 * n) || (2 * g == 2 * n && 0 % 2 == 1)) = false := by
      rw [Bool.or_eq_false_iff]
      exact ⟨decide_eq_false (by omega), by simp⟩
    rw [this]; rfl
theorem odd_log2 (m : Nat) (h : 2 ≤ m) : (oddOf m).log2 = m.log2 ∧ (2 * m + 1).log2 = m.log2 + 1 := by
  have h1 : 2 ^ m.log2 ≤ m := Nat.log2_self_le (by omega)
  have h2 : m < 2 ^ (m.log2 + 1) := Nat.lt_log2_self
  obtain ⟨k, hk⟩ : ∃ k, m.log2 = k + 1 := by
    have : 1 ≤ m.log2 := (Nat.le_log2 (by omega)).2 (by simpa using h)
    exact ⟨m.log2 - 1, by omega⟩
  rw [hk] at h1 h2
  have e1 : 2 ^ (k + 1) = 2 * 2 ^ k := by rw [Nat.pow_succ, Nat.mul_comm]
  have e2 : 2 ^ (k + 1 + 1) = 2 * (2 * 2 ^ k) := by rw [Nat.pow_succ, e1, Nat.mul_comm]
  have e3 : 2 ^ (k + 1 + 1 + 1) = 2 * (2 * (2 * 2 ^ k)) := by rw [Nat.pow_succ, e2, Nat.mul_comm]
  rw [hk]
  constructor
  · rw [Nat.log2_eq_iff (by unfold oddOf; omega), e1, e2]
    rw [e1] at h1; rw [e2] at h2
    unfold oddOf
    generalize 2 ^ k = g at *
    omega
  · rw [Nat.log2_eq_iff (by omega), e2, e3]
    rw [e1] at h1; rw [e2] at h2
    generalize 2 ^ k = g at *
    omega
theorem odd_twice (m : Nat) : oddOf (2 * m) = 2 * m + 1 := by unfold oddOf; omega
/-- Something below a number of 55 digits or more: one place further down it is still that. -/
theorem fw_stick (s : Bool) (m : Nat) (p : Int) (h : 18014398509481984 ≤ m) : fw s (2 * m + 1) (p - 1) = fw s (oddOf m) p := by
  obtain ⟨l1, l2⟩ := odd_log2 m (by omega)
  have hL : 54 ≤ m.log2 := (Nat.le_log2 (by omega)).2 h
  unfold fw Format.nearest
  rw [if_neg (by omega), if_neg (by unfold oddOf; omega)]
  simp only [word_eq, infRung_eq, binade_eq, least_eq, frac_eq, l1, l2]
  generalize m.log2 = L at *
  have e1 : max (p - 1 + ((L + 1 : Nat) : Int) - ((52 : Nat) : Int)) (-1074) = max (p + (L : Int) - ((52 : Nat) : Int)) (-1074) := by omega
  rw [e1]
  generalize hl : max (p + (L : Int) - ((52 : Nat) : Int)) (-1074) = last at *
  obtain ⟨d, hd, hd2⟩ : ∃ d : Nat, last - p = d ∧ 2 ≤ d := ⟨(last - p).toNat, by omega, by omega⟩
  have f1 : (last - p).toNat = d := by omega
  have f2 : (last - (p - 1)).toNat = d + 1 := by omega
  have f3 : (p - last).toNat = 0 := by omega
  have f4 : (p - 1 - last).toNat = 0 := by omega
  rw [f1, f2, f3, f4, Nat.shiftLeft_zero, Nat.shiftLeft_zero, cut_kept s _ _ (by omega) (by omega), cut_kept s _ _ (by unfold oddOf; omega) (by omega), ← odd_twice, odd_kept _ _ (by omega), odd_kept _ _ (by omega)]
  have g1 := odd_parts (2 * m) d
  have g2 : 2 * m / 2 = m := by omega
  rw [g2] at g1
  rw [g1.1, g1.2, Nat.add_sub_cancel]
  obtain ⟨k, rfl⟩ : ∃ k, d = k + 1 := ⟨d - 1, by omega⟩
  rw [Nat.add_sub_cancel]
  have e2 : 2 ^ (k + 1) = 2 * 2 ^ k := by rw [Nat.pow_succ, Nat.mul_comm]
  generalize m / 2 ^ (k + 1) = q at *
  generalize m % 2 ^ (k + 1) = r at *
  rw [e2]
  generalize 2 ^ k = g at *
  have e3 : (2 * m) % 2 = 0 := by omega
  rw [e3]
  by_cases hc : g ≤ r
  · rw [if_pos (by omega), if_pos hc]
  · rw [if_neg (by omega), if_neg hc]
end Go.Proofs.YtmcjehjpblkfoaaGreatDoor

