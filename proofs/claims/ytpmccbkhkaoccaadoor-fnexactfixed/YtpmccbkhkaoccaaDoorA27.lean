import Derived.Test.YtpmccbkhkaoccaaDoorA21
import Derived.Test.YtpmccbkhkaoccaaDoorA03
import Derived.Test.YtpmccbkhkaoccaaDoorA26
import Derived.Test.YtpmccbkhkaoccaaDoorA17
import Derived.Test.YtpmccbkhkaoccaaDoorA08
import Derived.Test.YtpmccbkhkaoccaaDoorA09
/- l5rounds of the specification. -/
namespace Go.Proofs.YtpmccbkhkaoccaaDoor
open Go.ChangeShapes Go.WideShapes Go.RowKit

/-- Whether the digits behind the first n round up. -/
def roundsB (ds : ByteArray) (n : Int) : Bool :=
  if h : 0 ≤ n ∧ n < (ds.size : Int) then
    (if ds[n.toNat].toNat ≠ 53 ∨ n.toNat + 1 < ds.size then decide (53 ≤ ds[n.toNat].toNat) else if h2 : 0 < n.toNat then decide ((ds[n.toNat - 1].toNat - 48) % 2 = 1) else false)
  else false
set_option maxHeartbeats 1000000 in
set_option maxRecDepth 100000 in
theorem l5rounds_out (ds : ByteArray) (p n : Int) (hs : ds.size ≤ 3000) (hn : ¬ (0 ≤ n ∧ n < (ds.size : Int))) (w : World) :
    Calls Tryd.prog 26 #[.agg #[.string ds, .int .i64 p], .int .i64 n] w fun e w' => e = .returned (.bool false) ∧ w' = w.alloc (.cells #[.string ds, .int .i64 p] 33) := by
  have hs' : (ds.size : Int) ≤ 3000 := by omega
  by_cases h : n < 0
  · go_enter Tryd.func26, Tryd.ntmps26
    go_wp2
    go_ret
    exact ⟨rfl, rfl⟩
  · have h2 : (ds.size : Int) ≤ n := by omega
    clear hn
    go_enter Tryd.func26, Tryd.ntmps26
    go_wp2
    go_ret
    exact ⟨rfl, rfl⟩
set_option maxHeartbeats 1000000 in
set_option maxRecDepth 100000 in
theorem l5rounds_in (ds : ByteArray) (p : Int) (k : Nat) (hs : ds.size ≤ 3000) (hk : k < ds.size) (hg : good 10 ds.data.toList) (w : World) :
    Calls Tryd.prog 26 #[.agg #[.string ds, .int .i64 p], .int .i64 (k : Int)] w fun e w' => e = .returned (.bool (roundsB ds (k : Int))) ∧ w' = w.alloc (.cells #[.string ds, .int .i64 p] 33) := by
  have hs' : (ds.size : Int) ≤ 3000 := by omega
  have HR : Hid (roundsB ds (k : Int) = if ds[k].toNat ≠ 53 ∨ k + 1 < ds.size then decide (53 ≤ ds[k].toNat) else if h2 : 0 < k then decide ((ds[k - 1].toNat - 48) % 2 = 1) else false) := by
    show _ = _
    unfold roundsB
    rw [dif_pos ⟨by omega, by omega⟩]
    rfl
  by_cases h1 : ds[k].toNat = 53
  · by_cases h2 : k + 1 < ds.size
    · have HV : Hid (roundsB ds (k : Int) = true) := by show _ = _; rw [HR.out, if_pos (.inr h2), decide_eq_true (by omega)]
      have h1' : (ds[k].toNat : Int) = 53 := by omega
      rw [HV.out]
      clear hg HR HV
      go_enter Tryd.func26, Tryd.ntmps26
      go_wp2
      go_ret
      exact ⟨rfl, rfl⟩
    · have h1' : (ds[k].toNat : Int) = 53 := by omega
      have h2' : ¬ ((k : Int) + 1 < (ds.size : Int)) := by omega
      by_cases h3 : 0 < k
      · obtain ⟨j, rfl⟩ : ∃ j, k = j + 1 := ⟨k - 1, by omega⟩
        have hj : j < ds.size := by omega
        obtain ⟨d1, d2, _⟩ := good_digit ds[j] (good_at 10 ds hg j hj)
        have HV : Hid (roundsB ds ((j + 1 : Nat) : Int) = ((((ds[j].toNat : Int) - 48) % 2) == 1)) := by
          show _ = _
          rw [HR.out, if_neg (by intro h; rcases h with h | h <;> omega), dif_pos (by omega)]
          simp only [Nat.add_sub_cancel]
          by_cases h4 : (ds[j].toNat - 48) % 2 = 1
          · rw [decide_eq_true h4]; symm; exact beq_iff_eq.2 (by omega)
          · rw [decide_eq_false h4]; symm; exact beq_eq_false_iff_ne.2 (by omega)
        have d1' : 48 ≤ (ds[j].toNat : Int) := by omega
        have d2' : (ds[j].toNat : Int) ≤ 57 := by omega
        rw [HV.out]
        clear hg HR h2 HV
        go_enter Tryd.func26, Tryd.ntmps26
        go_wp2
        go_ret
        exact ⟨rfl, rfl⟩
      · obtain rfl : k = 0 := by omega
        have HV : Hid (roundsB ds ((0 : Nat) : Int) = false) := by
          show _ = _
          rw [HR.out, if_neg (by intro h; rcases h with h | h <;> omega), dif_neg (by omega)]
        rw [HV.out]
        have hne : decide (ds = ByteArray.empty) = false := decide_eq_false (fun h => by rw [h] at hk; exact absurd hk (by decide))
        have hs1 : (ds.size : Int) = 1 := by omega
        clear hg HR h2 h3 HV h2'
        go_enter Tryd.func26, Tryd.ntmps26
        go_wp2
        go_ret
        exact ⟨rfl, rfl⟩
  · have HV : Hid (roundsB ds (k : Int) = decide (53 ≤ (ds[k].toNat : Int))) := by
      show _ = _
      rw [HR.out, if_pos (.inl h1)]
      by_cases h4 : 53 ≤ ds[k].toNat
      · rw [decide_eq_true h4, decide_eq_true (by omega)]
      · rw [decide_eq_false h4, decide_eq_false (by omega)]
    have h1' : ((ds[k].toNat : Int) == 53) = false := beq_eq_false_iff_ne.2 (by omega)
    have h1x : ¬ (ds[k].toNat : Int) = 53 := by omega
    rw [HV.out]
    clear hg HR h1 HV
    go_enter Tryd.func26, Tryd.ntmps26
    go_wp2
    go_ret
    exact ⟨rfl, rfl⟩
theorem l5rounds_any (ds : ByteArray) (p n : Int) (hs : ds.size ≤ 3000) (hg : good 10 ds.data.toList) (w : World) :
    Calls Tryd.prog 26 #[.agg #[.string ds, .int .i64 p], .int .i64 n] w fun e w' => e = .returned (.bool (roundsB ds n)) ∧ w' = w.alloc (.cells #[.string ds, .int .i64 p] 33) := by
  by_cases h : 0 ≤ n ∧ n < (ds.size : Int)
  · obtain ⟨k, rfl⟩ := Int.eq_ofNat_of_zero_le h.1
    exact l5rounds_in ds p k hs (by omega) hg w
  · have e : roundsB ds n = false := by unfold roundsB; rw [dif_neg h]
    rw [e]
    exact l5rounds_out ds p n hs h w
end Go.Proofs.YtpmccbkhkaoccaaDoor

/- What Fixed answers: plain. -/
namespace Go.Proofs.YtpmccbkhkaoccaaDoor
open Go.RowKit

/-- Zeros ahead of digits whose point stands ahead of them. -/
def fxD (ds : ByteArray) (p : Int) : ByteArray := if p < 1 then zerosB (1 - p).toNat ++ ds else ds
def fxP (p : Int) : Int := if p < 1 then 1 else p
/-- Zeros behind. -/
def fxE (ds : ByteArray) (p : Int) (k : Nat) : ByteArray := if (ds.size : Int) < p + k then ds ++ zerosB (p + k - (ds.size : Int)).toNat else ds
/-- The digits with so many places behind the point. -/
def fixB (ds : ByteArray) (p : Int) (k : Nat) : ByteArray :=
  if k = 0 then (fxE (fxD ds p) (fxP p) k).extract 0 (fxP p).toNat
  else (fxE (fxD ds p) (fxP p) k).extract 0 (fxP p).toNat ++ ⟨#[46]⟩ ++ (fxE (fxD ds p) (fxP p) k).extract (fxP p).toNat ((fxP p).toNat + k)
/-- The digits of a number, cut so far behind the point. -/
def FixD (ds : ByteArray) (pow : Int) (k : Nat) (t : ByteArray) (p : Int) : Prop :=
  (pow + k < 0 ∧ t = ⟨#[]⟩ ∧ p = 1) ∨ (0 ≤ pow + k ∧ cutV ds pow (pow + k).toNat (roundsB ds (pow + k)) t p)
theorem fixD_one {ds : ByteArray} {pow : Int} {k : Nat} {t t' : ByteArray} {p p' : Int} (h : FixD ds pow k t p) (h' : FixD ds pow k t' p') : t = t' ∧ p = p' := by
  rcases h with ⟨a, rfl, rfl⟩ | ⟨a, c⟩ <;> rcases h' with ⟨b, rfl, rfl⟩ | ⟨b, c'⟩
  · exact ⟨rfl, rfl⟩
  · omega
  · omega
  · exact cutV_one _ _ _ _ _ _ _ _ c c'
theorem fxD_size (ds : ByteArray) (p : Int) : (fxD ds p).size = (if p < 1 then (1 - p).toNat + ds.size else ds.size) := by
  unfold fxD
  split
  · rw [append_size, zerosB_size]
  · rfl
theorem fxE_size (ds : ByteArray) (p : Int) (k : Nat) : p + k ≤ ((fxE ds p k).size : Int) ∧ (fxE ds p k).size ≤ ds.size + (p + k).toNat := by
  unfold fxE
  split
  · rw [append_size, zerosB_size]; omega
  · omega
end Go.Proofs.YtpmccbkhkaoccaaDoor

/- l1write of the specification, at a number. -/
namespace Go.Proofs.YtpmccbkhkaoccaaDoor
open Go.ChangeShapes Go.WideShapes Go.RowKit

theorem specDigits_at (m b : Int) (k : Nat) (hm : m = (k : Int)) (w : World) (hn : k < 18446744073709551616) (h2 : 2 ≤ b) (h36 : b ≤ 36) :
    Calls Tryd.prog 48 #[.int .u64 m, .int .i64 b] w fun e w' => e = .returned (.string ⟨(textOf b.toNat k).toArray⟩) ∧ w' = w := by
  obtain ⟨c, rfl⟩ := Int.eq_ofNat_of_zero_le (show 0 ≤ b by omega)
  subst hm
  exact specDigits_any k c w hn (by omega) (by omega)
end Go.Proofs.YtpmccbkhkaoccaaDoor

