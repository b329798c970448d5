import Derived.Test.YtpmccbkhkaoccaaDoorA17
import Derived.Test.YtpmccbkhkaoccaaDoorA16
import Derived.Test.YtpmccbkhkaoccaaDoorA03
/- Texts of digits: plain. -/
namespace Go.Proofs.YtpmccbkhkaoccaaDoor
open Go.RowKit

def zerosL (n : Nat) : List UInt8 := List.replicate n 48
theorem zerosL_length (n : Nat) : (zerosL n).length = n := by simp [zerosL]
def zerosB (n : Nat) : ByteArray := ⟨(zerosL n).toArray⟩
theorem zerosB_size (n : Nat) : (zerosB n).size = n := by rw [← data_len]; exact zerosL_length n
/-- Digits with a point and no exponent. -/
def plainB (ds : ByteArray) (pow : Int) : ByteArray :=
  if pow ≤ 0 then ⟨#[48, 46]⟩ ++ zerosB (-pow).toNat ++ ds
  else if (ds.size : Int) ≤ pow then ds ++ zerosB (pow.toNat - ds.size)
  else ds.extract 0 pow.toNat ++ dotB ++ ds.extract pow.toNat ds.size
theorem plainB_size (ds : ByteArray) (pow : Int) (h : ds.size ≤ 1100) (h1 : -1100 ≤ pow) (h2 : pow ≤ 1100) : (plainB ds pow).size ≤ 3000 := by
  unfold plainB
  have e2 : (⟨#[48, 46]⟩ : ByteArray).size = 2 := rfl
  have e3 : dotB.size = 1 := rfl
  split
  · rw [append_size, append_size, zerosB_size]; omega
  · split
    · rw [append_size, zerosB_size]; omega
    · rw [append_size, append_size]
      have a1 : (ds.extract 0 pow.toNat).size ≤ ds.size := by simp; omega
      have a2 : (ds.extract pow.toNat ds.size).size ≤ ds.size := by simp
      omega
end Go.Proofs.YtpmccbkhkaoccaaDoor

/- l5zeros of the specification. -/
namespace Go.Proofs.YtpmccbkhkaoccaaDoor
open Go.ChangeShapes Go.WideShapes Go.RowKit

set_option maxHeartbeats 400000 in
theorem l5zeros_at (n : Nat) (hn : n ≤ 1000000) (w : World) :
    Calls Tryd.prog 24 #[.int .i64 (n : Int)] w fun e w' => e = .returned (.string ⟨(zerosL n).toArray⟩) ∧ w' = w.alloc (.cells (tcells (zerosL n) n).toArray 5) := by
  have hmk := make_u8 n (by omega)
  have hl := zerosL_length n
  have HFR : Hid (∀ i, i < n → (tcells (zerosL n) i)[i]? = some (.int .u8 0)) := fun i h => tcells_free _ i (by omega)
  have HST : Hid (∀ i, i < n → (tcells (zerosL n) i).set i (.int .u8 48) = tcells (zerosL n) (i + 1)) := fun i h => by
    have := tcells_set (zerosL n) i (by omega)
    rw [show ((zerosL n)[i]'(by omega)).toNat = 48 by simp [zerosL]] at this
    exact this
  have hcv := text_end w (zerosL n) 5
  rw [hl] at hcv
  rw [show List.replicate n (Value.int .u8 0) = tcells (zerosL n) 0 by rw [tcells_zero, hl]] at hmk
  generalize zerosL n = tl at *
  clear hl
  go_enter Tryd.func24, Tryd.ntmps24
  go_wp2
  go_loopw [9] (fun vi wl => ∃ i : Nat, vi = .int .i64 (i : Int) ∧ i ≤ n ∧ wl = w.alloc (.cells (tcells tl i).toArray 5)) (fun vi _ => n - (intOf vi).toNat)
  case atStart => exact ⟨0, rfl, by omega, rfl⟩
  case round =>
    obtain ⟨i, rfl, hi, rfl⟩ := hrel
    by_cases hlt : i < n
    · have hfr := HFR.out i hlt
      have HS : Hid _ := HST.out i hlt
      clear hcv
      go_wp2
      rw [HS.out]
      exact ⟨⟨i + 1, rfl, by omega, rfl⟩, by simp only [intOf]; omega⟩
    · obtain rfl : i = n := by omega
      go_wp2
      go_ret
      exact ⟨rfl, rfl⟩
theorem l5zeros_any (n : Nat) (hn : n ≤ 1000000) (w : World) :
    Calls Tryd.prog 24 #[.int .i64 (n : Int)] w fun e w' => e = .returned (.string ⟨(zerosL n).toArray⟩) ∧ Below w.heap.size w w' := by
  refine (l5zeros_at n hn w).mono ?_
  rintro e w' ⟨rfl, rfl⟩
  exact ⟨rfl, (Below.refl _ _).alloc (Nat.le_refl _) _⟩
end Go.Proofs.YtpmccbkhkaoccaaDoor

/- l5plain of the specification: with a point inside. -/
namespace Go.Proofs.YtpmccbkhkaoccaaDoor
open Go.ChangeShapes Go.WideShapes Go.RowKit

set_option maxHeartbeats 1000000 in
set_option maxRecDepth 100000 in
theorem l5plain_mid (ds : ByteArray) (k : Nat) (hs : ds.size ≤ 1100) (hk : 0 < k) (hk2 : k < ds.size) (w : World) :
    Calls Tryd.prog 17 #[.agg #[.string ds, .int .i64 (k : Int)]] w fun e w' => e = .returned (.string (ds.extract 0 k ++ dotB ++ ds.extract k ds.size)) ∧ Below w.heap.size w w' := by
  have hs' : (ds.size : Int) ≤ 1100 := by omega
  go_enter Tryd.func17, Tryd.ntmps17
  go_wp2
  go_quiet (fail)
  go_wp2
  go_ret
  exact ⟨rfl, below_drewN ((Below.refl _ _).alloc (Nat.le_refl _) _) _⟩
end Go.Proofs.YtpmccbkhkaoccaaDoor

