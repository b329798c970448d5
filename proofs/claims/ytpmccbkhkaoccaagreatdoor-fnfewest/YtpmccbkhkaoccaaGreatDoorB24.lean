import Derived.Test.YtpmccbkhkaoccaaGreatDoorB23
import Derived.Deep.RegionWith
import Derived.Test.YtpmccbkhkaoccaaGreatDoorB15
import Derived.Test.YtpmccbkhkaoccaaGreatDoorB22
import Derived.Test.YtpmccbkhkaoccaaGreatDoorB09
/- l5plain of the specification. -/
namespace Go.Proofs.YtpmccbkhkaoccaaGreatDoor
open Go.ChangeShapes Go.WideShapes Go.RowKit

theorem zeros_int (x : Int) (h0 : 0 ≤ x) (h1 : x ≤ 100000) (w : World) : Calls Tryz.prog 54 #[.int .i64 x] w fun e w' => e = .returned (.string (zerosB x.toNat)) ∧ w' = w.alloc (.cells (tcells (zerosL x.toNat) x.toNat).toArray 5) := by
  have := l5zeros_at x.toNat (by omega) w
  rw [Int.toNat_of_nonneg h0] at this
  exact this

set_option maxHeartbeats 4000000 in
set_option maxRecDepth 100000 in
theorem l5plain_low (ds : ByteArray) (p : Int) (hs : ds.size ≤ 1100) (hp : p ≤ 0) (hp2 : -1100 ≤ p) (w : World) :
    Calls Tryz.prog 40 #[.agg #[.string ds, .int .i64 p]] w fun e w' => e = .returned (.string (⟨#[48, 46]⟩ ++ zerosB (-p).toNat ++ ds)) ∧ Below w.heap.size w w' := by
  have HZ : Hid (∀ w, Calls Tryz.prog 54 #[.int .i64 (IntKind.i64.wrap (-p))] w fun e w' => e = .returned (.string (zerosB (-p).toNat)) ∧ w' = w.alloc (.cells (tcells (zerosL (-p).toNat) (-p).toNat).toArray 5)) := fun w => by
    rw [show IntKind.i64.wrap (-p) = -p by rw [IntKind.wrap_i64]; omega]
    exact zeros_int (-p) (by omega) (by omega) w
  have hzs : ((zerosB (-p).toNat).size : Int) ≤ 1100 := by rw [zerosB_size]; omega
  have hs' : (ds.size : Int) ≤ 1100 := by omega
  generalize zerosB (-p).toNat = Z at *
  generalize (tcells (zerosL (-p).toNat) (-p).toNat).toArray = C at *
  clear hs
  go_enter Tryz.func40, Tryz.ntmps40
  go_wp2
  go_region_with (go_at_call 54; refine (HZ.out _).mono ?_; rintro e w' ⟨rfl, rfl⟩)
  all_goals
    go_wp2
    go_ret
    exact ⟨rfl, (by repeat (first | with_reducible exact Below.refl _ _ | with_reducible refine Below.alloc ?_ (by simp <;> omega) _ | with_reducible refine Below.drew ?_ | with_reducible refine below_drewN ?_ _ | with_reducible refine Below.setCell ?_ (by simp <;> omega) _))⟩
set_option maxHeartbeats 4000000 in
set_option maxRecDepth 100000 in
theorem l5plain_high (ds : ByteArray) (p : Int) (hs : ds.size ≤ 1100) (hp : (ds.size : Int) ≤ p) (hp0 : 0 < p) (hp2 : p ≤ 1100) (w : World) :
    Calls Tryz.prog 40 #[.agg #[.string ds, .int .i64 p]] w fun e w' => e = .returned (.string (ds ++ zerosB (p.toNat - ds.size))) ∧ Below w.heap.size w w' := by
  have HZ : Hid (∀ w, Calls Tryz.prog 54 #[.int .i64 (IntKind.i64.wrap (p - (ds.size : Int)))] w fun e w' => e = .returned (.string (zerosB (p.toNat - ds.size))) ∧ w' = w.alloc (.cells (tcells (zerosL (p.toNat - ds.size)) (p.toNat - ds.size)).toArray 5)) := fun w => by
    rw [show IntKind.i64.wrap (p - (ds.size : Int)) = p - (ds.size : Int) by rw [IntKind.wrap_i64]; omega]
    have := zeros_int (p - (ds.size : Int)) (by omega) (by omega) w
    rw [show (p - (ds.size : Int)).toNat = p.toNat - ds.size by omega] at this
    exact this
  have hzs : ((zerosB (p.toNat - ds.size)).size : Int) ≤ 1100 := by rw [zerosB_size]; omega
  have hs' : (ds.size : Int) ≤ 1100 := by omega
  generalize zerosB (p.toNat - ds.size) = Z at *
  generalize (tcells (zerosL (p.toNat - ds.size)) (p.toNat - ds.size)).toArray = C at *
  clear hs
  go_enter Tryz.func40, Tryz.ntmps40
  go_wp2
  go_region_with (go_at_call 54; refine (HZ.out _).mono ?_; rintro e w' ⟨rfl, rfl⟩)
  all_goals
    go_wp2
    go_ret
    exact ⟨rfl, (by repeat (first | with_reducible exact Below.refl _ _ | with_reducible refine Below.alloc ?_ (by simp <;> omega) _ | with_reducible refine Below.drew ?_ | with_reducible refine below_drewN ?_ _ | with_reducible refine Below.setCell ?_ (by simp <;> omega) _))⟩
theorem l5plain_any (ds : ByteArray) (p : Int) (hs : ds.size ≤ 1100) (hp : -1100 ≤ p) (hp2 : p ≤ 1100) (w : World) :
    Calls Tryz.prog 40 #[.agg #[.string ds, .int .i64 p]] w fun e w' => e = .returned (.string (plainB ds p)) ∧ Below w.heap.size w w' := by
  unfold plainB
  by_cases h1 : p ≤ 0
  · rw [if_pos h1]; exact l5plain_low ds p hs h1 hp w
  · rw [if_neg h1]
    by_cases h2 : (ds.size : Int) ≤ p
    · rw [if_pos h2]; exact l5plain_high ds p hs h2 (by omega) hp2 w
    · rw [if_neg h2]
      have := l5plain_mid ds p.toNat hs (by omega) (by omega) w
      rw [Int.toNat_of_nonneg (by omega)] at this
      exact this
end Go.Proofs.YtpmccbkhkaoccaaGreatDoor

/- What Exact answers: plain. -/
namespace Go.Proofs.YtpmccbkhkaoccaaGreatDoor
open Go.RowKit
open Ieee (double)

/-- What Exact answers. -/
def exactV (x : Nat) (t : ByteArray) : Prop := (IsNan x ∧ t = ⟨#[110, 97, 110]⟩) ∨ (∃ s, x = iw s ∧ t = sgnB s ++ ⟨#[105, 110, 102]⟩) ∨ (∃ s, x = signBit s ∧ t = sgnB s ++ ⟨#[48]⟩)
  ∨ (∃ (s : Bool) (n : Nat) (p : Int) (q k : Nat) (ds : ByteArray) (pow : Int), Canon n p ∧ 0 < n ∧ x = fw s n p ∧ n = q * 2 ^ k ∧ q % 2 = 1 ∧ ExD ds pow q (p + k) ∧ t = sgnB s ++ plainB ds pow)
end Go.Proofs.YtpmccbkhkaoccaaGreatDoor

/- Digits with 1 more in the last place: plain. -/
namespace Go.Proofs.YtpmccbkhkaoccaaGreatDoor
open Go.RowKit

/-- What l5up answers. -/
def UpD (ds t : ByteArray) (more : Bool) : Prop := good 10 t.data.toList ∧ valN 10 t.data.toList = valN 10 ds.data.toList + 1 ∧ t.size = ds.size + (if more then 1 else 0) ∧ (more = true → valN 10 ds.data.toList + 1 = 10 ^ ds.size)
theorem valN_nines (k : Nat) : valN 10 (List.replicate k (57 : UInt8)) + 1 = 10 ^ k := by
  induction k with
  | zero => rw [List.replicate_zero, valN_nil]
  | succ k ih =>
    rw [List.replicate_succ', valN_append, Nat.pow_succ]
    have : valN 10 [(57 : UInt8)] = 9 := by decide
    rw [this]
    show valN 10 (List.replicate k 57) * 10 ^ 1 + 9 + 1 = 10 ^ k * 10
    omega
/-- Behind the place i all digits are nines. -/
def Nines (l : List UInt8) (i : Nat) : Prop := ∃ k, l = l.take i ++ List.replicate k 57
theorem nines_start (l : List UInt8) : Nines l l.length := ⟨0, by simp⟩
theorem nines_step (l : List UInt8) (i : Nat) (hi : i < l.length) (h : Nines l (i + 1)) (hc : l[i].toNat = 57) : Nines l i := by
  obtain ⟨k, hk⟩ := h
  refine ⟨k + 1, ?_⟩
  have e : l[i] = 57 := UInt8.toNat_inj.1 hc
  rw [List.take_succ_eq_append_getElem hi, e] at hk
  rw [List.replicate_succ]
  conv => lhs; rw [hk]
  simp
theorem up_found (l : List UInt8) (i : Nat) (hi : i < l.length) (hg : good 10 l) (h : Nines l (i + 1)) (hc : l[i].toNat ≠ 57) (c : UInt8) (hcc : c.toNat = l[i].toNat + 1) :
    good 10 (l.take i ++ [c] ++ List.replicate (l.length - (i + 1)) 48) ∧ valN 10 (l.take i ++ [c] ++ List.replicate (l.length - (i + 1)) 48) = valN 10 l + 1 := by
  obtain ⟨k, hk⟩ := h
  have hkl : k = l.length - (i + 1) := by
    have := congrArg List.length hk
    rw [List.length_append, List.length_take, List.length_replicate] at this
    omega
  rw [← hkl]
  obtain ⟨d1, d2, d3⟩ := good_digit l[i] (hg _ (List.getElem_mem hi))
  have hcg : digN 99 (c.toNat : Int) = (c.toNat : Int) - 48 := by unfold digN; rw [if_pos (by omega)]
  refine ⟨?_, ?_⟩
  · refine good_append _ _ (good_append _ _ (fun x hx => hg x (List.mem_of_mem_take hx)) ?_) (good_zeros k)
    intro x hx
    rw [List.mem_singleton.1 hx, hcg]; omega
  · have hv : valN 10 l = (valN 10 (l.take i) * 10 + (l[i].toNat - 48)) * 10 ^ k + (10 ^ k - 1) := by
      conv => lhs; rw [hk]
      rw [valN_append, List.length_replicate, List.take_succ_eq_append_getElem hi, valN_append]
      have h1 := valN_nines k
      have h2 : valN 10 [l[i]] = l[i].toNat - 48 := by
        rw [valN_cons, valN_nil, d3]
        simp
        omega
      rw [h2]
      show (valN 10 (l.take i) * 10 ^ 1 + (l[i].toNat - 48)) * 10 ^ k + _ = _
      rw [Nat.pow_one]
      omega
    have h3 : valN 10 [c] = c.toNat - 48 := by
      rw [valN_cons, valN_nil, hcg]
      simp
      omega
    rw [valN_append, valN_append, valN_zeros, List.length_replicate, h3, hv, hcc]
    have hp : 0 < 10 ^ k := Nat.pow_pos (by omega)
    show (valN 10 (l.take i) * 10 ^ 1 + (l[i].toNat + 1 - 48)) * 10 ^ k + 0 = _
    rw [show l[i].toNat + 1 - 48 = (l[i].toNat - 48) + 1 by omega, Nat.pow_one, ← Nat.add_assoc, Nat.add_mul _ 1, Nat.one_mul]
    omega
theorem nines_all (l : List UInt8) (h : Nines l 0) : valN 10 l + 1 = 10 ^ l.length := by
  obtain ⟨k, hk⟩ := h
  rw [List.take_zero, List.nil_append] at hk
  have hkl : l.length = k := by rw [hk, List.length_replicate]
  rw [hkl, hk, valN_nines]
theorem bytes_ext (s t : ByteArray) (h : s.data.toList = t.data.toList) : s = t := by
  have h' : s.data = t.data := by rw [← Array.toArray_toList (xs := s.data), h, Array.toArray_toList]
  cases s; cases t; cases h'; rfl
theorem upD_one (ds t t' : ByteArray) (m m' : Bool) (h : UpD ds t m) (h' : UpD ds t' m') : t = t' ∧ m = m' := by
  obtain ⟨a1, a2, a3, a4⟩ := h
  obtain ⟨b1, b2, b3, b4⟩ := h'
  have l1 := valN_good_lt 10 t.data.toList a1
  have l2 := valN_good_lt 10 t'.data.toList b1
  rw [data_len] at l1 l2
  have hm : m = m' := by
    cases m <;> cases m'
    · rfl
    · have := b4 rfl
      rw [if_neg (by decide), Nat.add_zero] at a3
      rw [a3] at l1
      omega
    · have := a4 rfl
      rw [if_neg (by decide), Nat.add_zero] at b3
      rw [b3] at l2
      omega
    · rfl
  subst hm
  exact ⟨bytes_ext _ _ (digits_one _ _ a1 b1 (by rw [data_len, data_len, a3, b3]) (a2.trans b2.symm)), rfl⟩
theorem up_none (l : List UInt8) (h : Nines l 0) : good 10 ((49 : UInt8) :: List.replicate l.length 48) ∧ valN 10 ((49 : UInt8) :: List.replicate l.length 48) = valN 10 l + 1 := by
  obtain ⟨k, hk⟩ := h
  rw [List.take_zero, List.nil_append] at hk
  have hkl : l.length = k := by rw [hk, List.length_replicate]
  refine ⟨?_, ?_⟩
  · intro x hx
    rcases List.mem_cons.1 hx with rfl | hx
    · decide
    · exact good_zeros _ x hx
  · rw [valN_cons, valN_zeros, List.length_replicate, hkl, hk, valN_nines]
    have : (digN 99 (((49 : UInt8).toNat : Nat) : Int)).toNat = 1 := by decide
    rw [this]; omega
end Go.Proofs.YtpmccbkhkaoccaaGreatDoor

/- l5up of the specification. -/
namespace Go.Proofs.YtpmccbkhkaoccaaGreatDoor
open Go.ChangeShapes Go.WideShapes Go.RowKit

/-- The bytes of a text, laid anew. -/
theorem bytes_new (w : World) (s : ByteArray) : ∃ cap W, (convert 9 22 (.string s)).run Tryz.prog w = .ok (.slice (some ⟨w.heap.size, 0, none⟩) s.size cap) W ∧ Below w.heap.size w W ∧ w.heap.size < W.heap.size
    ∧ (∀ j (h : j < s.size), W.cell? ⟨w.heap.size, j, none⟩ = some (.int .u8 (s[j].toNat : Int))) ∧ (∀ j, j < s.size → W.frozen? ⟨w.heap.size, j, none⟩ = false) := by
  refine ⟨_, _, run_bytes_of_string (P := Tryz.prog) w 9 22 5 s Tryz.underlying9 Tryz.underlying22 Tryz.underlying5, ((Below.refl _ _).drew).alloc (Nat.le_refl _) _, by simp, ?_, ?_⟩
  · intro j h
    have hb : (w.drew.alloc (.cells (bytesRow s (grownCap w s.size 0 5)) 5 ((bytesRow s (grownCap w s.size 0 5)).size, (bytesRow s (grownCap w s.size 0 5)).size + 1))).heap[w.heap.size]? = some (.cells (bytesRow s (grownCap w s.size 0 5)) 5 ((bytesRow s (grownCap w s.size 0 5)).size, (bytesRow s (grownCap w s.size 0 5)).size + 1)) := by
      show (w.heap.push _)[w.heap.size]? = _
      simp
    have hc : (bytesRow s (grownCap w s.size 0 5))[j]? = some (.int .u8 (s[j].toNat : Int)) := by
      unfold bytesRow
      have hl : j < (s.data.map fun b => Value.int .u8 (b.toNat : Int)).size := by simpa using h
      rw [Array.getElem?_append_left hl, Array.getElem?_eq_getElem hl]
      simp [ByteArray.getElem_eq_getElem_data]
    simp only [World.cell?, hb]
    simpa using hc
  · intro j h
    have hb : (w.drew.alloc (.cells (bytesRow s (grownCap w s.size 0 5)) 5 ((bytesRow s (grownCap w s.size 0 5)).size, (bytesRow s (grownCap w s.size 0 5)).size + 1))).heap[w.heap.size]? = some (.cells (bytesRow s (grownCap w s.size 0 5)) 5 ((bytesRow s (grownCap w s.size 0 5)).size, (bytesRow s (grownCap w s.size 0 5)).size + 1)) := by
      show (w.heap.push _)[w.heap.size]? = _
      simp
    have hsz : j < (bytesRow s (grownCap w s.size 0 5)).size := by
      unfold bytesRow
      simp
      have : s.data.size = s.size := rfl
      omega
    simp only [World.frozen?, hb]
    simp
    omega
/-- The bytes while nines are turned to zeros: those ahead of k as they were, those behind it zeros. -/
def UpSt (s : ByteArray) (B k : Nat) (W wr : World) : Prop := Only B W wr ∧ (∀ j (h : j < s.size), j < k → wr.cell? ⟨B, j, none⟩ = some (.int .u8 (s[j].toNat : Int))) ∧ (∀ j, j < s.size → k ≤ j → wr.cell? ⟨B, j, none⟩ = some (.int .u8 48)) ∧ (∀ j, j < s.size → wr.frozen? ⟨B, j, none⟩ = false)
theorem set_cell_at {w : World} {B k : Nat} {v u : Value} (h : w.cell? ⟨B, k, none⟩ = some u) (j : Nat) : (w.setCell ⟨B, k, none⟩ v).cell? ⟨B, j, none⟩ = if j = k then some v else w.cell? ⟨B, j, none⟩ := by
  by_cases hj : j = k
  · subst hj; rw [if_pos rfl]; simp [go_sem, h]
  · rw [if_neg hj]; simp [go_sem]
theorem set_frozen_at {w : World} {B k : Nat} {v : Value} (j : Nat) : (w.setCell ⟨B, k, none⟩ v).frozen? ⟨B, j, none⟩ = w.frozen? ⟨B, j, none⟩ := by simp [go_sem]
theorem UpSt.zero {s : ByteArray} {B k : Nat} {W wr : World} (h : UpSt s B (k + 1) W wr) (hk : k < s.size) : UpSt s B k W (wr.setCell ⟨B, k, none⟩ (.int .u8 48)) := by
  obtain ⟨h1, h2, h3, h4⟩ := h
  have hc := h2 k hk (by omega)
  refine ⟨h1.setCell _ _, fun j hj hjk => ?_, fun j hj hjk => ?_, fun j hj => ?_⟩
  · rw [set_cell_at hc, if_neg (by omega)]; exact h2 j hj (by omega)
  · rw [set_cell_at hc]
    split
    · rfl
    · exact h3 j hj (by omega)
  · rw [set_frozen_at]; exact h4 j hj
theorem UpSt.text {s : ByteArray} {B k : Nat} {W wr : World} (h : UpSt s B (k + 1) W wr) (hk : k < s.size) (c : UInt8) (cap : Nat) :
    (convert 22 9 (.slice (some ⟨B, 0, none⟩) s.size cap)).run Tryz.prog (wr.setCell ⟨B, k, none⟩ (.int .u8 (c.toNat : Int))) = .ok (.string ⟨(s.data.toList.take k ++ [c] ++ List.replicate (s.data.toList.length - (k + 1)) 48).toArray⟩) (wr.setCell ⟨B, k, none⟩ (.int .u8 (c.toNat : Int))) := by
  obtain ⟨h1, h2, h3, h4⟩ := h
  have hl : (s.data.toList.take k ++ [c] ++ List.replicate (s.data.toList.length - (k + 1)) 48).length = s.size := by
    rw [List.length_append, List.length_append, List.length_take, List.length_replicate, data_len, List.length_singleton]; omega
  have := run_convert_bytes_back (P := Tryz.prog) (wr.setCell ⟨B, k, none⟩ (.int .u8 (c.toNat : Int))) 22 9 5 ⟨B, 0, none⟩ cap (s.data.toList.take k ++ [c] ++ List.replicate (s.data.toList.length - (k + 1)) 48) Tryz.underlying22 Tryz.underlying5 Tryz.underlying9 (fun j hj => by
    rw [show (⟨B, 0, none⟩ : Addr).add j = ⟨B, j, none⟩ by (simp [Addr.add]; try omega), set_cell_at (h2 k hk (by omega))]
    have hjs : j < s.size := by omega
    by_cases e1 : j = k
    · rw [if_pos e1]
      subst e1
      have : (s.data.toList.take j ++ [c] ++ List.replicate (s.data.toList.length - (j + 1)) 48)[j] = c := by
        rw [List.getElem_append_left (by rw [List.length_append, List.length_take, data_len, List.length_singleton]; omega), List.getElem_append_right (by rw [List.length_take, data_len]; omega)]
        simp
      rw [this]
    · rw [if_neg e1]
      by_cases e2 : j < k
      · rw [h2 j hjs (by omega)]
        have : (s.data.toList.take k ++ [c] ++ List.replicate (s.data.toList.length - (k + 1)) 48)[j] = s[j] := by
          rw [List.getElem_append_left (by rw [List.length_append, List.length_take, data_len]; omega), List.getElem_append_left (by rw [List.length_take, data_len]; omega), List.getElem_take]
          rfl
        rw [this]
      · rw [h3 j hjs (by omega)]
        have : (s.data.toList.take k ++ [c] ++ List.replicate (s.data.toList.length - (k + 1)) 48)[j] = 48 := by
          rw [List.getElem_append_right (by rw [List.length_append, List.length_take, data_len, List.length_singleton]; omega), List.getElem_replicate]
        rw [this]; rfl)
  rw [hl] at this
  exact this
theorem UpSt.zeros {s : ByteArray} {B : Nat} {W wr : World} (h : UpSt s B 0 W wr) (cap : Nat) :
    (convert 22 9 (.slice (some ⟨B, 0, none⟩) s.size cap)).run Tryz.prog wr = .ok (.string ⟨(List.replicate s.size 48).toArray⟩) wr := by
  obtain ⟨h1, h2, h3, h4⟩ := h
  have := run_convert_bytes_back (P := Tryz.prog) wr 22 9 5 ⟨B, 0, none⟩ cap (List.replicate s.size 48) Tryz.underlying22 Tryz.underlying5 Tryz.underlying9 (fun j hj => by
    rw [show (⟨B, 0, none⟩ : Addr).add j = ⟨B, j, none⟩ by (simp [Addr.add]; try omega), h3 j (by simpa using hj) (by omega), List.getElem_replicate]
    rfl)
  rw [List.length_replicate] at this
  exact this
end Go.Proofs.YtpmccbkhkaoccaaGreatDoor

