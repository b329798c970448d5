import Derived.Test.YtaoccjaaopmfdaaDoorA03
import Derived.Test.YtaoccjaaopmfdaaDoorA25
import Derived.Test.YtaoccjaaopmfdaaDoorA32
import Derived.Test.YtaoccjaaopmfdaaDoorA30
/- slices.Reverse of bytes. -/
namespace Go.Proofs.YtaoccjaaopmfdaaDoor
open Go.ChangeShapes Go.WideShapes Go.RowKit

/-- The bytes of a row while it is turned: the first i and the last i have changed places. -/
def RevSt (B : Nat) (l : List UInt8) (i : Nat) (w wr : World) : Prop := Only B w wr ∧ (∀ j (h : j < l.length), wr.cell? ⟨B, j, none⟩ = some (.int .u8 ((if j < i ∨ l.length - i ≤ j then l[l.length - 1 - j]'(by omega) else l[j]).toNat : Int))) ∧ (∀ j, j < l.length → wr.frozen? ⟨B, j, none⟩ = false)
theorem RevSt.step {B : Nat} {l : List UInt8} {i : Nat} {w wr : World} (h : RevSt B l i w wr) (hi : i + i + 1 < l.length) :
    RevSt B l (i + 1) w ((wr.setCell ⟨B, i, none⟩ (.int .u8 (l[l.length - 1 - i]'(by omega)).toNat)).setCell ⟨B, l.length - 1 - i, none⟩ (.int .u8 (l[i]'(by omega)).toNat)) := by
  obtain ⟨h1, h2, h3⟩ := h
  have c1 := h2 i (by omega)
  have hlt : l.length - 1 - i < l.length := by omega
  have c2 := (set_cell_at (v := .int .u8 ((l[l.length - 1 - i]'(by omega)).toNat : Int)) c1 (l.length - 1 - i)).trans ((if_neg (by omega)).trans (h2 (l.length - 1 - i) hlt))
  refine ⟨(h1.setCell _ _).setCell _ _, fun j hj => ?_, fun j hj => ?_⟩
  · rw [set_cell_at c2]
    by_cases e1 : j = l.length - 1 - i
    · rw [if_pos e1]
      subst e1
      simp only [if_pos (show l.length - 1 - i < i + 1 ∨ l.length - (i + 1) ≤ l.length - 1 - i from .inr (by omega)), show l.length - 1 - (l.length - 1 - i) = i by omega]
    · rw [if_neg e1, set_cell_at c1]
      by_cases e2 : j = i
      · rw [if_pos e2]
        subst e2
        simp only [if_pos (show j < j + 1 ∨ l.length - (j + 1) ≤ j from .inl (by omega))]
      · rw [if_neg e2, h2 j hj]
        by_cases e3 : j < i ∨ l.length - i ≤ j
        · simp only [if_pos e3, if_pos (show j < i + 1 ∨ l.length - (i + 1) ≤ j by omega)]
        · simp only [if_neg e3, if_neg (show ¬ (j < i + 1 ∨ l.length - (i + 1) ≤ j) by omega)]
  · rw [set_frozen_at, set_frozen_at]
    exact h3 j hj
theorem RevSt.drew {B : Nat} {l : List UInt8} {i : Nat} {w wr : World} (h : RevSt B l i w wr) : RevSt B l i w wr.drew := ⟨⟨h.1.1, h.1.2.1, h.1.2.2.1, h.1.2.2.2.1, h.1.2.2.2.2⟩, h.2.1, h.2.2⟩
set_option maxHeartbeats 2000000 in
set_option maxRecDepth 100000 in
theorem reverse_any (B cap m : Nat) (l : List UInt8) (hm : l.length = m) (w : World) (hl : l.length ≤ 100000) (hc : ∀ j (h : j < l.length), w.cell? ⟨B, j, none⟩ = some (.int .u8 (l[j].toNat : Int))) (hf : ∀ j, j < l.length → w.frozen? ⟨B, j, none⟩ = false) :
    Calls Tryd.prog 43 #[.slice (some ⟨B, 0, none⟩) m cap] w fun e w' => e = .returned (.tuple #[]) ∧ Only B w w' ∧ (∀ j (h : j < l.length), w'.cell? ⟨B, j, none⟩ = some (.int .u8 ((l[l.length - 1 - j]'(by omega)).toNat : Int))) := by
  have HS : Hid (RevSt B l 0 w w) := ⟨Only.refl _ _, fun j h => by rw [hc j h]; simp only [if_neg (show ¬ (j < 0 ∨ l.length - 0 ≤ j) by omega)], hf⟩
  have hm' : (m : Int) ≤ 100000 := by omega
  clear hc hf
  go_enter Tryd.func43, Tryd.ntmps43
  go_wp2
  go_loopw [2, 3] (fun iv jv wl => ∃ i : Nat, iv = .int .i64 (i : Int) ∧ jv = .int .i64 ((m : Int) - 1 - (i : Int)) ∧ i + i ≤ m + 1 ∧ Hid (RevSt B l i w wl)) (fun iv _ _ => m - (intOf iv).toNat)
  case atStart => exact ⟨0, rfl, by simp, by omega, HS.out⟩
  case round =>
    clear HS
    obtain ⟨i, rfl, rfl, hi, HS⟩ := hrel
    by_cases hlt : i + i + 1 < m
    · obtain ⟨j, hj⟩ : ∃ j : Nat, j = m - 1 - i := ⟨_, rfl⟩
      have hji : (m : Int) - 1 - (i : Int) = (j : Int) := by omega
      have hij : (i : Int) < (j : Int) := by omega
      have hjm : (j : Int) < (m : Int) := by omega
      have him : (i : Int) < (m : Int) := by omega
      have HN : Hid (RevSt B l (i + 1) w ((wr.setCell ⟨B, i, none⟩ (.int .u8 ((l[l.length - 1 - i]'(by omega)).toNat : Int))).setCell ⟨B, l.length - 1 - i, none⟩ (.int .u8 ((l[i]'(by omega)).toNat : Int)))) := HS.out.step (by omega)
      have ci := HS.out.2.1 i (by omega)
      have cj := HS.out.2.1 (l.length - 1 - i) (by omega)
      simp only [if_neg (show ¬ (i < i ∨ l.length - i ≤ i) by omega)] at ci
      simp only [if_neg (show ¬ (l.length - 1 - i < i ∨ l.length - i ≤ l.length - 1 - i) by omega)] at cj
      have fi := HS.out.2.2 i (by omega)
      have fj := HS.out.2.2 (l.length - 1 - i) (by omega)
      generalize (l[l.length - 1 - i]'(by omega)) = x at *
      generalize (l[i]'(by omega)) = y at *
      rw [show l.length - 1 - i = j by omega] at HN cj fj
      rw [hji]
      have hne : ¬ i = j := by omega
      clear hj
      go_wp2
      go_region
      all_goals
        go_wp2
        exact ⟨⟨i + 1, rfl, by congr 1; omega, by omega, HN.out.drew⟩, by show m - ((i : Int) + 1).toNat < m - (i : Int).toNat; omega⟩
    · have hnl : ¬ (i : Int) < (m : Int) - 1 - (i : Int) := by omega
      have HF : Hid (∀ j (h : j < l.length), wr.cell? ⟨B, j, none⟩ = some (.int .u8 ((l[l.length - 1 - j]'(by omega)).toNat : Int))) := fun j h => by
        rw [HS.out.2.1 j h]
        split
        · rfl
        · have : l.length - 1 - j = j := by omega
          simp only [this]
      go_wp2
      go_end0
      subst hm
      exact ⟨rfl, HS.out.1, HF.out⟩
end Go.Proofs.YtaoccjaaopmfdaaDoor

/- largeOf of the program's numbers. -/
namespace Go.Proofs.YtaoccjaaopmfdaaDoor
open Go.ChangeShapes Go.WideShapes Go.RowKit

set_option maxHeartbeats 1000000 in
set_option maxRecDepth 100000 in
theorem largeOf_any (m : Nat) (hm53 : m ≤ 9007199254740992) (w : World) : Calls Tryd.prog 39 #[.int .u64 (m : Int)] w fun e w' => ∃ c, c ≤ 2 ∧ cntOk c m ∧ e = .returned (lgV c m) ∧ Below w.heap.size w w' := by
  have hm0 : 0 * 1 + m = m := by omega
  have hz := lg_zero
  rw [dg_nil] at hz
  obtain ⟨C, hC⟩ : ∃ C, blk 0 (dg 0) [] = C := ⟨_, rfl⟩
  have HC : Hid (blk 0 (dg 0) [] = C) := hC
  rw [hC] at hz
  clear hC
  obtain ⟨W, hW⟩ : ∃ W, (w.alloc (.cells C 74)).alloc (.cells C 74) = W := ⟨_, rfl⟩
  have HW : Hid ((w.alloc (.cells C 74)).alloc (.cells C 74) = W) := hW
  go_enter Tryd.func39, Tryd.ntmps39
  go_wp2_with fail
  have HA : Hid (LB W w.heap.size 0 (dg 0) [] 74) := by
    have h := ((LB.new w 0 (dg 0) [] 74).alloc (.cells C 74))
    rw [HC.out] at h; rw [← HW.out]; exact h
  have HB : Hid (Lg W (w.heap.size + 1) 0 [] 74) := by
    refine ⟨0, by omega, cnt_zero, ?_⟩
    have h := LB.new (w.alloc (.cells C 74)) 0 (dg 0) [] 74
    rw [HC.out] at h
    rw [← HW.out, show w.heap.size + 1 = (w.alloc (.cells C 74)).heap.size by simp]
    exact h
  have HM : Hid (Below w.heap.size w W) := by rw [← HW.out]; exact ((Below.refl _ w).alloc (Nat.le_refl _) _).alloc (by simp) _
  clear hW hz
  refine (mul_any (w.heap.size + 1) 0 1 m [] 74 W HB.out (by omega) (by omega) hm53 (Nat.lt_of_lt_of_le (by rw [be_eq]; omega : 0 * 1 + m < be ^ 2) (bpow_le (by omega)))).mono ?_
  rintro e w1 ⟨rfl, hm, hg⟩
  have HA1 : Hid (LB w1 w.heap.size 0 (dg 0) [] 74) := HA.out.other hm (by omega)
  obtain ⟨c, hc, hk, hl⟩ := hg
  rw [hm0] at hl hk
  have hc2 : c ≤ 2 := cnt_le hk (by rw [be_eq]; omega)
  have HCK : Hid (cntOk c m) := hk
  have HM1 : Hid (Below w.heap.size w (w1.setRow w.heap.size (lgL c (dg m)).toArray)) := by
    have h1 := (Mod.refl w.heap.size w1).setRow (lgL c (dg m)).toArray
    exact (HM.out.trans (hm.below (by omega) HM.out.size)).trans (h1.below (Nat.le_refl _) (Nat.le_trans HM.out.size hm.size))
  have HS : Hid (LB (w1.setRow w.heap.size (lgL c (dg m)).toArray) w.heap.size c (dg m) [] 74) := HA1.out.stored
  have HL : Hid (LB w1 (w.heap.size + 1) c (dg m) [] 74) := hl
  have hst := HA1.out.cells c (dg m)
  have hln := lgL_length c (dg m)
  clear hm hl hk hc
  go_wp2
  refine HL.out.wpLoad _ rfl rfl ?_
  go_at_K
  go_wp2
  obtain ⟨d, hd, hr⟩ := lg_desc
  have hs := HS.out
  unfold LB at hs
  rw [← blk_nil] at hs
  refine bodyPost_ret (v := lgV c m) (results_cell_row (P := Tryd.prog) rfl _ _ w.heap.size _ (lgL c (dg m)).toArray (0, 0) d rfl hs hd (by cases d <;> simp_all [TypeDesc.isRow]) (by rw [List.size_toArray, lgL_length]; exact lg_size)) rfl ?_
  exact ⟨c, hc2, HCK.out, rfl, HM1.out⟩
end Go.Proofs.YtaoccjaaopmfdaaDoor

/- largeOf, raise of the program's numbers. -/
namespace Go.Proofs.YtaoccjaaopmfdaaDoor
open Go.ChangeShapes Go.WideShapes Go.RowKit

set_option maxHeartbeats 1000000 in
set_option maxRecDepth 100000 in
theorem raise_any (B N F T : Nat) (R : List Value) (t : TypeId) (w : World) (h : Lg w B N R t) (hF1 : 1 ≤ F) (hF : F ≤ 16) (hT : T ≤ 4000) (hN : N * F ^ T < be ^ 151) :
    Calls Tryd.prog 40 #[.pointer (some ⟨B, 0, none⟩), .int .u64 (F : Int), .int .i64 (T : Int)] w fun e w' => e = .returned (.tuple #[]) ∧ Mod B w w' ∧ Lg w' B (N * F ^ T) R t := by
  have HL : Hid (Lg w B N R t) := h
  have HN : Hid (N * F ^ T < be ^ 151) := hN
  clear h hN
  go_enter Tryd.func40, Tryd.ntmps40
  go_wp2
  go_loopw [7] (fun iv wl => ∃ i : Nat, iv = .int .i64 (i : Int) ∧ i ≤ T ∧ Hid (Lg wl B (N * F ^ i) R t) ∧ Hid (Mod B w wl)) (fun iv _ => T - (intOf iv).toNat)
  case atStart => exact ⟨0, rfl, Nat.zero_le _, by show Lg w B (N * F ^ 0) R t; rw [Nat.pow_zero, Nat.mul_one]; exact HL.out, Mod.refl B w⟩
  case round =>
    obtain ⟨i, rfl, hi, HG, HMd⟩ := hrel
    by_cases hlt : i < T
    · have hlt' : (i : Int) < (T : Int) := by omega
      have hbd : N * F ^ i * F + 0 < be ^ 151 := by
        have h1 : F ^ (i + 1) ≤ F ^ T := Nat.pow_le_pow_right hF1 (by omega)
        have h2 : N * F ^ (i + 1) ≤ N * F ^ T := Nat.mul_le_mul_left _ h1
        rw [Nat.add_zero, Nat.mul_assoc, ← Nat.pow_succ]
        exact Nat.lt_of_le_of_lt h2 HN.out
      have HC : Hid (Calls Tryd.prog 54 #[.pointer (some ⟨B, 0, none⟩), .int .u64 (F : Int), .int .u64 0] wr fun e w' => e = .returned (.tuple #[]) ∧ Mod B wr w' ∧ Lg w' B (N * F ^ (i + 1)) R t) := by
        have h := mul_any B (N * F ^ i) F 0 R t wr HG.out hF1 hF (by omega) hbd
        rw [Nat.add_zero, Nat.mul_assoc, ← Nat.pow_succ] at h
        exact h
      clear hbd
      go_wp2_with (go_at_call 54; refine HC.out.mono ?_; rintro e w' ⟨rfl, hm, hg⟩)
      exact ⟨⟨i + 1, rfl, by omega, hg, HMd.out.trans hm⟩, by show T - ((i : Int) + 1).toNat < T - (i : Int).toNat; omega⟩
    · have hlt' : decide ((i : Int) < (T : Int)) = false := decide_eq_false (by omega)
      obtain rfl : i = T := by omega
      go_wp2
      go_end0
      exact ⟨rfl, HMd.out, HG.out⟩
end Go.Proofs.YtaoccjaaopmfdaaDoor

