import Derived.Test.YtcbhcdaedchmlaaDoorA17
/- All digits of a number: plain. -/
namespace Go.Proofs.YtcbhcdaedchmlaaDoor
open Go.RowKit

/-- 0.DIGITS times 10 to the pow is M times 2 to the E; the first and the last digit are not 0. -/
def ExD (ds : ByteArray) (pow : Int) (M : Nat) (E : Int) : Prop := 0 < ds.size ∧ good 10 ds.data.toList ∧ (∀ h : 0 < ds.size, ds[0].toNat ≠ 48) ∧ (∀ h : ds.size - 1 < ds.size, ds[ds.size - 1].toNat ≠ 48)
  ∧ valN 10 ds.data.toList * 10 ^ (pow - (ds.size : Int)).toNat * 2 ^ (-E).toNat = M * 2 ^ E.toNat * 10 ^ ((ds.size : Int) - pow).toNat
/-- While zeros at the end are left out. -/
def Stp (d0 t : ByteArray) (j : Nat) : Prop := 0 < t.size ∧ good 10 t.data.toList ∧ (∀ h : 0 < t.size, t[0].toNat ≠ 48) ∧ valN 10 d0.data.toList = valN 10 t.data.toList * 10 ^ j ∧ t.size + j = d0.size
theorem stp_start (d0 : ByteArray) (A : Nat) (h : IsDec d0 A) (hA : 0 < A) : Stp d0 d0 0 := ⟨dec_pos d0 A h hA, h.1, h.2.2, by rw [Nat.pow_zero, Nat.mul_one], rfl⟩
theorem last_cut (t : ByteArray) (h : 0 < t.size) : t.data.toList = (t.extract 0 (t.size - 1)).data.toList ++ [t[t.size - 1]] := by
  have e : (t.extract 0 (t.size - 1)).data.toList = t.data.toList.take (t.size - 1) := by rw [Lib.extract_eq]; simp
  rw [e]
  have := List.take_append_getLast t.data.toList
  have h1 : t.data.toList.take (t.size - 1 + 1) = t.data.toList.take (t.size - 1) ++ [t.data.toList[t.size - 1]'(by rw [data_len]; omega)] := List.take_succ_eq_append_getElem (by rw [data_len]; omega)
  rw [show t.size - 1 + 1 = t.size by omega, List.take_of_length_le (by rw [data_len]; omega)] at h1
  exact h1
theorem valN_last (t : ByteArray) (h : 0 < t.size) (hz : t[t.size - 1].toNat = 48) : valN 10 t.data.toList = valN 10 (t.extract 0 (t.size - 1)).data.toList * 10 := by
  have e := last_cut t h
  have h1 : valN 10 [t[t.size - 1]] = 0 := by rw [valN_zero 10 _ _ hz, valN_nil]
  rw [e, valN_append, h1]
  rfl
theorem stp_next (d0 t : ByteArray) (j : Nat) (hp : 0 < valN 10 d0.data.toList) (h : Stp d0 t j) (hz : ∀ h : t.size - 1 < t.size, t[t.size - 1].toNat = 48) : Stp d0 (t.extract 0 (t.size - 1)) (j + 1) := by
  obtain ⟨h1, h2, h3, h4, h5⟩ := h
  have hv := valN_last t h1 (hz (by omega))
  have hs : (t.extract 0 (t.size - 1)).size = t.size - 1 := by simp
  have h0 : 0 < t.size - 1 := by
    apply Nat.pos_of_ne_zero
    intro h0
    have e : (t.extract 0 (t.size - 1)).data.toList = [] := List.length_eq_zero_iff.1 (by rw [data_len, hs]; exact h0)
    rw [hv, e, valN_nil] at h4
    omega
  refine ⟨by omega, ?_, ?_, ?_, by omega⟩
  · intro c hc
    exact h2 c (by rw [last_cut t h1]; exact List.mem_append_left _ hc)
  · intro h
    have := h3 h1
    rw [ByteArray.getElem_extract]
    simpa using this
  · rw [h4, hv, Nat.pow_succ, Nat.mul_assoc, Nat.mul_comm 10]
theorem stp_end (d0 t : ByteArray) (j M s : Nat) (E : Int) (h : Stp d0 t j) (hz : ∀ h : t.size - 1 < t.size, t[t.size - 1].toNat ≠ 48) (hA : valN 10 d0.data.toList = M * 2 ^ E.toNat * 5 ^ s) (hs : s = (-E).toNat) : ExD t ((d0.size : Int) - (s : Int)) M E := by
  obtain ⟨h1, h2, h3, h4, h5⟩ := h
  refine ⟨h1, h2, h3, hz, ?_⟩
  rw [show ((d0.size : Int) - (s : Int) - (t.size : Int)).toNat = j - s by omega, show ((t.size : Int) - ((d0.size : Int) - (s : Int))).toNat = s - j by omega, ← hs]
  apply Nat.eq_of_mul_eq_mul_right (Nat.pow_pos (show 0 < 10 by omega) (n := min j s))
  have e1 : 10 ^ (j - s) * 10 ^ min j s = 10 ^ j := by rw [← Nat.pow_add]; congr 1; omega
  have e2 : 10 ^ (s - j) * 10 ^ min j s = 10 ^ s := by rw [← Nat.pow_add]; congr 1; omega
  have e3 : (10 : Nat) ^ s = 5 ^ s * 2 ^ s := by rw [← Nat.mul_pow]
  rw [Nat.mul_assoc (M * 2 ^ E.toNat), e2, e3, ← Nat.mul_assoc, ← hA, h4]
  rw [Nat.mul_right_comm, Nat.mul_assoc (valN 10 t.data.toList), e1]
end Go.Proofs.YtcbhcdaedchmlaaDoor

/- Texts of digits: plain. -/
namespace Go.Proofs.YtcbhcdaedchmlaaDoor
open Go.RowKit

def zerosL (n : Nat) : List UInt8 := List.replicate n 48
theorem zerosL_length (n : Nat) : (zerosL n).length = n := by simp [zerosL]
def zerosB (n : Nat) : ByteArray := ⟨(zerosL n).toArray⟩
theorem zerosB_size (n : Nat) : (zerosB n).size = n := by rw [← data_len]; exact zerosL_length n
/-- Digits with a point and no exponent. -/
def plainB (ds : ByteArray) (pow : Int) : ByteArray :=
  if pow ≤ 0 then ⟨#[48, 46]⟩ ++ zerosB (-pow).toNat ++ ds
  else if (ds.size : Int) ≤ pow then ds ++ zerosB (pow.toNat - ds.size)
  else ds.extract 0 pow.toNat ++ dotB ++ ds.extract pow.toNat ds.size
theorem plainB_size (ds : ByteArray) (pow : Int) (h : ds.size ≤ 1100) (h1 : -1100 ≤ pow) (h2 : pow ≤ 1100) : (plainB ds pow).size ≤ 3000 := by
  unfold plainB
  have e2 : (⟨#[48, 46]⟩ : ByteArray).size = 2 := rfl
  have e3 : dotB.size = 1 := rfl
  split
  · rw [append_size, append_size, zerosB_size]; omega
  · split
    · rw [append_size, zerosB_size]; omega
    · rw [append_size, append_size]
      have a1 : (ds.extract 0 pow.toNat).size ≤ ds.size := by simp; omega
      have a2 : (ds.extract pow.toNat ds.size).size ≤ ds.size := by simp
      omega
end Go.Proofs.YtcbhcdaedchmlaaDoor

/- l5zeros of the specification. -/
namespace Go.Proofs.YtcbhcdaedchmlaaDoor
open Go.ChangeShapes Go.WideShapes Go.RowKit

set_option maxHeartbeats 400000 in
theorem l5zeros_at (n : Nat) (hn : n ≤ 1000000) (w : World) :
    Calls Tryd.prog 34 #[.int .i64 (n : Int)] w fun e w' => e = .returned (.string ⟨(zerosL n).toArray⟩) ∧ w' = w.alloc (.cells (tcells (zerosL n) n).toArray 5) := by
  have hmk := make_u8 n (by omega)
  have hl := zerosL_length n
  have HFR : Hid (∀ i, i < n → (tcells (zerosL n) i)[i]? = some (.int .u8 0)) := fun i h => tcells_free _ i (by omega)
  have HST : Hid (∀ i, i < n → (tcells (zerosL n) i).set i (.int .u8 48) = tcells (zerosL n) (i + 1)) := fun i h => by
    have := tcells_set (zerosL n) i (by omega)
    rw [show ((zerosL n)[i]'(by omega)).toNat = 48 by simp [zerosL]] at this
    exact this
  have hcv := text_end w (zerosL n) 5
  rw [hl] at hcv
  rw [show List.replicate n (Value.int .u8 0) = tcells (zerosL n) 0 by rw [tcells_zero, hl]] at hmk
  generalize zerosL n = tl at *
  clear hl
  go_enter Tryd.func34, Tryd.ntmps34
  go_wp2
  go_loopw [9] (fun vi wl => ∃ i : Nat, vi = .int .i64 (i : Int) ∧ i ≤ n ∧ wl = w.alloc (.cells (tcells tl i).toArray 5)) (fun vi _ => n - (intOf vi).toNat)
  case atStart => exact ⟨0, rfl, by omega, rfl⟩
  case round =>
    obtain ⟨i, rfl, hi, rfl⟩ := hrel
    by_cases hlt : i < n
    · have hfr := HFR.out i hlt
      have HS : Hid _ := HST.out i hlt
      clear hcv
      go_wp2
      rw [HS.out]
      exact ⟨⟨i + 1, rfl, by omega, rfl⟩, by simp only [intOf]; omega⟩
    · obtain rfl : i = n := by omega
      go_wp2
      go_ret
      exact ⟨rfl, rfl⟩
theorem l5zeros_any (n : Nat) (hn : n ≤ 1000000) (w : World) :
    Calls Tryd.prog 34 #[.int .i64 (n : Int)] w fun e w' => e = .returned (.string ⟨(zerosL n).toArray⟩) ∧ Below w.heap.size w w' := by
  refine (l5zeros_at n hn w).mono ?_
  rintro e w' ⟨rfl, rfl⟩
  exact ⟨rfl, (Below.refl _ _).alloc (Nat.le_refl _) _⟩
end Go.Proofs.YtcbhcdaedchmlaaDoor

