import Derived.Test.YtoedefjngipeiaaGreatDoorA12
import Derived.Test.YtoedefjngipeiaaGreatDoorA10
import Derived.Test.YtoedefjngipeiaaGreatDoorA16
/- Digits with 1 more in the last place: plain. -/
namespace Go.Proofs.YtoedefjngipeiaaGreatDoor
open Go.RowKit

/-- What l5up answers. -/
def UpD (ds t : ByteArray) (more : Bool) : Prop := good 10 t.data.toList ∧ valN 10 t.data.toList = valN 10 ds.data.toList + 1 ∧ t.size = ds.size + (if more then 1 else 0) ∧ (more = true → valN 10 ds.data.toList + 1 = 10 ^ ds.size)
theorem valN_nines (k : Nat) : valN 10 (List.replicate k (57 : UInt8)) + 1 = 10 ^ k := by
  induction k with
  | zero => rw [List.replicate_zero, valN_nil]
  | succ k ih =>
    rw [List.replicate_succ', valN_append, Nat.pow_succ]
    have : valN 10 [(57 : UInt8)] = 9 := by decide
    rw [this]
    show valN 10 (List.replicate k 57) * 10 ^ 1 + 9 + 1 = 10 ^ k * 10
    omega
/-- Behind the place i all digits are nines. -/
def Nines (l : List UInt8) (i : Nat) : Prop := ∃ k, l = l.take i ++ List.replicate k 57
theorem nines_start (l : List UInt8) : Nines l l.length := ⟨0, by simp⟩
theorem nines_step (l : List UInt8) (i : Nat) (hi : i < l.length) (h : Nines l (i + 1)) (hc : l[i].toNat = 57) : Nines l i := by
  obtain ⟨k, hk⟩ := h
  refine ⟨k + 1, ?_⟩
  have e : l[i] = 57 := UInt8.toNat_inj.1 hc
  rw [List.take_succ_eq_append_getElem hi, e] at hk
  rw [List.replicate_succ]
  conv => lhs; rw [hk]
  simp
theorem up_found (l : List UInt8) (i : Nat) (hi : i < l.length) (hg : good 10 l) (h : Nines l (i + 1)) (hc : l[i].toNat ≠ 57) (c : UInt8) (hcc : c.toNat = l[i].toNat + 1) :
    good 10 (l.take i ++ [c] ++ List.replicate (l.length - (i + 1)) 48) ∧ valN 10 (l.take i ++ [c] ++ List.replicate (l.length - (i + 1)) 48) = valN 10 l + 1 := by
  obtain ⟨k, hk⟩ := h
  have hkl : k = l.length - (i + 1) := by
    have := congrArg List.length hk
    rw [List.length_append, List.length_take, List.length_replicate] at this
    omega
  rw [← hkl]
  obtain ⟨d1, d2, d3⟩ := good_digit l[i] (hg _ (List.getElem_mem hi))
  have hcg : digN 99 (c.toNat : Int) = (c.toNat : Int) - 48 := by unfold digN; rw [if_pos (by omega)]
  refine ⟨?_, ?_⟩
  · refine good_append _ _ (good_append _ _ (fun x hx => hg x (List.mem_of_mem_take hx)) ?_) (good_zeros k)
    intro x hx
    rw [List.mem_singleton.1 hx, hcg]; omega
  · have hv : valN 10 l = (valN 10 (l.take i) * 10 + (l[i].toNat - 48)) * 10 ^ k + (10 ^ k - 1) := by
      conv => lhs; rw [hk]
      rw [valN_append, List.length_replicate, List.take_succ_eq_append_getElem hi, valN_append]
      have h1 := valN_nines k
      have h2 : valN 10 [l[i]] = l[i].toNat - 48 := by
        rw [valN_cons, valN_nil, d3]
        simp
        omega
      rw [h2]
      show (valN 10 (l.take i) * 10 ^ 1 + (l[i].toNat - 48)) * 10 ^ k + _ = _
      rw [Nat.pow_one]
      omega
    have h3 : valN 10 [c] = c.toNat - 48 := by
      rw [valN_cons, valN_nil, hcg]
      simp
      omega
    rw [valN_append, valN_append, valN_zeros, List.length_replicate, h3, hv, hcc]
    have hp : 0 < 10 ^ k := Nat.pow_pos (by omega)
    show (valN 10 (l.take i) * 10 ^ 1 + (l[i].toNat + 1 - 48)) * 10 ^ k + 0 = _
    rw [show l[i].toNat + 1 - 48 = (l[i].toNat - 48) + 1 by omega, Nat.pow_one, ← Nat.add_assoc, Nat.add_mul _ 1, Nat.one_mul]
    omega
theorem nines_all (l : List UInt8) (h : Nines l 0) : valN 10 l + 1 = 10 ^ l.length := by
  obtain ⟨k, hk⟩ := h
  rw [List.take_zero, List.nil_append] at hk
  have hkl : l.length = k := by rw [hk, List.length_replicate]
  rw [hkl, hk, valN_nines]
theorem bytes_ext (s t : ByteArray) (h : s.data.toList = t.data.toList) : s = t := by
  have h' : s.data = t.data := by rw [← Array.toArray_toList (xs := s.data), h, Array.toArray_toList]
  cases s; cases t; cases h'; rfl
theorem upD_one (ds t t' : ByteArray) (m m' : Bool) (h : UpD ds t m) (h' : UpD ds t' m') : t = t' ∧ m = m' := by
  obtain ⟨a1, a2, a3, a4⟩ := h
  obtain ⟨b1, b2, b3, b4⟩ := h'
  have l1 := valN_good_lt 10 t.data.toList a1
  have l2 := valN_good_lt 10 t'.data.toList b1
  rw [data_len] at l1 l2
  have hm : m = m' := by
    cases m <;> cases m'
    · rfl
    · have := b4 rfl
      rw [if_neg (by decide), Nat.add_zero] at a3
      rw [a3] at l1
      omega
    · have := a4 rfl
      rw [if_neg (by decide), Nat.add_zero] at b3
      rw [b3] at l2
      omega
    · rfl
  subst hm
  exact ⟨bytes_ext _ _ (digits_one _ _ a1 b1 (by rw [data_len, data_len, a3, b3]) (a2.trans b2.symm)), rfl⟩
theorem up_none (l : List UInt8) (h : Nines l 0) : good 10 ((49 : UInt8) :: List.replicate l.length 48) ∧ valN 10 ((49 : UInt8) :: List.replicate l.length 48) = valN 10 l + 1 := by
  obtain ⟨k, hk⟩ := h
  rw [List.take_zero, List.nil_append] at hk
  have hkl : l.length = k := by rw [hk, List.length_replicate]
  refine ⟨?_, ?_⟩
  · intro x hx
    rcases List.mem_cons.1 hx with rfl | hx
    · decide
    · exact good_zeros _ x hx
  · rw [valN_cons, valN_zeros, List.length_replicate, hkl, hk, valN_nines]
    have : (digN 99 (((49 : UInt8).toNat : Nat) : Int)).toNat = 1 := by decide
    rw [this]; omega
end Go.Proofs.YtoedefjngipeiaaGreatDoor

/- l5up of the specification. -/
namespace Go.Proofs.YtoedefjngipeiaaGreatDoor
open Go.ChangeShapes Go.WideShapes Go.RowKit

/-- The bytes of a text, laid anew. -/
theorem bytes_new (w : World) (s : ByteArray) : ∃ cap W, (convert 9 22 (.string s)).run Tryz.prog w = .ok (.slice (some ⟨w.heap.size, 0, none⟩) s.size cap) W ∧ Below w.heap.size w W ∧ w.heap.size < W.heap.size
    ∧ (∀ j (h : j < s.size), W.cell? ⟨w.heap.size, j, none⟩ = some (.int .u8 (s[j].toNat : Int))) ∧ (∀ j, j < s.size → W.frozen? ⟨w.heap.size, j, none⟩ = false) := by
  refine ⟨_, _, run_bytes_of_string (P := Tryz.prog) w 9 22 5 s Tryz.underlying9 Tryz.underlying22 Tryz.underlying5, ((Below.refl _ _).drew).alloc (Nat.le_refl _) _, by simp, ?_, ?_⟩
  · intro j h
    have hb : (w.drew.alloc (.cells (bytesRow s (grownCap w s.size 0 5)) 5 ((bytesRow s (grownCap w s.size 0 5)).size, (bytesRow s (grownCap w s.size 0 5)).size + 1))).heap[w.heap.size]? = some (.cells (bytesRow s (grownCap w s.size 0 5)) 5 ((bytesRow s (grownCap w s.size 0 5)).size, (bytesRow s (grownCap w s.size 0 5)).size + 1)) := by
      show (w.heap.push _)[w.heap.size]? = _
      simp
    have hc : (bytesRow s (grownCap w s.size 0 5))[j]? = some (.int .u8 (s[j].toNat : Int)) := by
      unfold bytesRow
      have hl : j < (s.data.map fun b => Value.int .u8 (b.toNat : Int)).size := by simpa using h
      rw [Array.getElem?_append_left hl, Array.getElem?_eq_getElem hl]
      simp [ByteArray.getElem_eq_getElem_data]
    simp only [World.cell?, hb]
    simpa using hc
  · intro j h
    have hb : (w.drew.alloc (.cells (bytesRow s (grownCap w s.size 0 5)) 5 ((bytesRow s (grownCap w s.size 0 5)).size, (bytesRow s (grownCap w s.size 0 5)).size + 1))).heap[w.heap.size]? = some (.cells (bytesRow s (grownCap w s.size 0 5)) 5 ((bytesRow s (grownCap w s.size 0 5)).size, (bytesRow s (grownCap w s.size 0 5)).size + 1)) := by
      show (w.heap.push _)[w.heap.size]? = _
      simp
    have hsz : j < (bytesRow s (grownCap w s.size 0 5)).size := by
      unfold bytesRow
      simp
      have : s.data.size = s.size := rfl
      omega
    simp only [World.frozen?, hb]
    simp
    omega
/-- The bytes while nines are turned to zeros: those ahead of k as they were, those behind it zeros. -/
def UpSt (s : ByteArray) (B k : Nat) (W wr : World) : Prop := Only B W wr ∧ (∀ j (h : j < s.size), j < k → wr.cell? ⟨B, j, none⟩ = some (.int .u8 (s[j].toNat : Int))) ∧ (∀ j, j < s.size → k ≤ j → wr.cell? ⟨B, j, none⟩ = some (.int .u8 48)) ∧ (∀ j, j < s.size → wr.frozen? ⟨B, j, none⟩ = false)
theorem set_cell_at {w : World} {B k : Nat} {v u : Value} (h : w.cell? ⟨B, k, none⟩ = some u) (j : Nat) : (w.setCell ⟨B, k, none⟩ v).cell? ⟨B, j, none⟩ = if j = k then some v else w.cell? ⟨B, j, none⟩ := by
  by_cases hj : j = k
  · subst hj; rw [if_pos rfl]; simp [go_sem, h]
  · rw [if_neg hj]; simp [go_sem]
theorem set_frozen_at {w : World} {B k : Nat} {v : Value} (j : Nat) : (w.setCell ⟨B, k, none⟩ v).frozen? ⟨B, j, none⟩ = w.frozen? ⟨B, j, none⟩ := by simp [go_sem]
theorem UpSt.zero {s : ByteArray} {B k : Nat} {W wr : World} (h : UpSt s B (k + 1) W wr) (hk : k < s.size) : UpSt s B k W (wr.setCell ⟨B, k, none⟩ (.int .u8 48)) := by
  obtain ⟨h1, h2, h3, h4⟩ := h
  have hc := h2 k hk (by omega)
  refine ⟨h1.setCell _ _, fun j hj hjk => ?_, fun j hj hjk => ?_, fun j hj => ?_⟩
  · rw [set_cell_at hc, if_neg (by omega)]; exact h2 j hj (by omega)
  · rw [set_cell_at hc]
    split
    · rfl
    · exact h3 j hj (by omega)
  · rw [set_frozen_at]; exact h4 j hj
theorem UpSt.text {s : ByteArray} {B k : Nat} {W wr : World} (h : UpSt s B (k + 1) W wr) (hk : k < s.size) (c : UInt8) (cap : Nat) :
    (convert 22 9 (.slice (some ⟨B, 0, none⟩) s.size cap)).run Tryz.prog (wr.setCell ⟨B, k, none⟩ (.int .u8 (c.toNat : Int))) = .ok (.string ⟨(s.data.toList.take k ++ [c] ++ List.replicate (s.data.toList.length - (k + 1)) 48).toArray⟩) (wr.setCell ⟨B, k, none⟩ (.int .u8 (c.toNat : Int))) := by
  obtain ⟨h1, h2, h3, h4⟩ := h
  have hl : (s.data.toList.take k ++ [c] ++ List.replicate (s.data.toList.length - (k + 1)) 48).length = s.size := by
    rw [List.length_append, List.length_append, List.length_take, List.length_replicate, data_len, List.length_singleton]; omega
  have := run_convert_bytes_back (P := Tryz.prog) (wr.setCell ⟨B, k, none⟩ (.int .u8 (c.toNat : Int))) 22 9 5 ⟨B, 0, none⟩ cap (s.data.toList.take k ++ [c] ++ List.replicate (s.data.toList.length - (k + 1)) 48) Tryz.underlying22 Tryz.underlying5 Tryz.underlying9 (fun j hj => by
    rw [show (⟨B, 0, none⟩ : Addr).add j = ⟨B, j, none⟩ by (simp [Addr.add]; try omega), set_cell_at (h2 k hk (by omega))]
    have hjs : j < s.size := by omega
    by_cases e1 : j = k
    · rw [if_pos e1]
      subst e1
      have : (s.data.toList.take j ++ [c] ++ List.replicate (s.data.toList.length - (j + 1)) 48)[j] = c := by
        rw [List.getElem_append_left (by rw [List.length_append, List.length_take, data_len, List.length_singleton]; omega), List.getElem_append_right (by rw [List.length_take, data_len]; omega)]
        simp
      rw [this]
    · rw [if_neg e1]
      by_cases e2 : j < k
      · rw [h2 j hjs (by omega)]
        have : (s.data.toList.take k ++ [c] ++ List.replicate (s.data.toList.length - (k + 1)) 48)[j] = s[j] := by
          rw [List.getElem_append_left (by rw [List.length_append, List.length_take, data_len]; omega), List.getElem_append_left (by rw [List.length_take, data_len]; omega), List.getElem_take]
          rfl
        rw [this]
      · rw [h3 j hjs (by omega)]
        have : (s.data.toList.take k ++ [c] ++ List.replicate (s.data.toList.length - (k + 1)) 48)[j] = 48 := by
          rw [List.getElem_append_right (by rw [List.length_append, List.length_take, data_len, List.length_singleton]; omega), List.getElem_replicate]
        rw [this]; rfl)
  rw [hl] at this
  exact this
theorem UpSt.zeros {s : ByteArray} {B : Nat} {W wr : World} (h : UpSt s B 0 W wr) (cap : Nat) :
    (convert 22 9 (.slice (some ⟨B, 0, none⟩) s.size cap)).run Tryz.prog wr = .ok (.string ⟨(List.replicate s.size 48).toArray⟩) wr := by
  obtain ⟨h1, h2, h3, h4⟩ := h
  have := run_convert_bytes_back (P := Tryz.prog) wr 22 9 5 ⟨B, 0, none⟩ cap (List.replicate s.size 48) Tryz.underlying22 Tryz.underlying5 Tryz.underlying9 (fun j hj => by
    rw [show (⟨B, 0, none⟩ : Addr).add j = ⟨B, j, none⟩ by (simp [Addr.add]; try omega), h3 j (by simpa using hj) (by omega), List.getElem_replicate]
    rfl)
  rw [List.length_replicate] at this
  exact this
end Go.Proofs.YtoedefjngipeiaaGreatDoor

/- A text with a point, of a number that is a little less: plain. -/
namespace Go.Proofs.YtoedefjngipeiaaGreatDoor
open Go.RowKit

/-- A byte that is neither a zero nor a point. -/
def nz (c : UInt8) : Bool := c != 48 && c != 46
def nine (c : UInt8) : UInt8 := if c = 48 then 57 else c
/-- The last such byte one less, nines for the zeros behind it. -/
def les : List UInt8 → List UInt8
  | [] => []
  | x :: r => if r.any nz then x :: les r else (x - 1) :: r.map nine
theorem les_length (l : List UInt8) : (les l).length = l.length := by
  induction l with
  | nil => rfl
  | cons x r ih => unfold les; split <;> simp [ih]
theorem les_at (l : List UInt8) (i : Nat) (hi : i < l.length) (h1 : nz l[i] = true) (h2 : (l.drop (i + 1)).any nz = false) : les l = l.take i ++ [l[i] - 1] ++ (l.drop (i + 1)).map nine := by
  induction l generalizing i with
  | nil => simp at hi
  | cons x r ih =>
    cases i with
    | zero =>
      simp only [List.drop_succ_cons, List.drop_zero] at h2
      unfold les
      rw [if_neg (by rw [h2]; decide)]
      simp
    | succ i =>
      have hi' : i < r.length := by simpa using hi
      have h1' : nz r[i] = true := by simpa using h1
      have h2' : (r.drop (i + 1)).any nz = false := by simpa using h2
      have hany : r.any nz = true := List.any_eq_true.2 ⟨r[i], List.getElem_mem hi', h1'⟩
      unfold les
      rw [if_pos hany, ih i hi' h1' h2']
      simp
theorem les_dot (a b : List UInt8) (h : (a ++ b).any nz = true) : ∃ a' b', les (a ++ [46] ++ b) = a' ++ [46] ++ b' ∧ les (a ++ b) = a' ++ b' ∧ a'.length = a.length ∧ b'.length = b.length := by
  induction a with
  | nil =>
    refine ⟨[], les b, ?_, rfl, rfl, les_length b⟩
    show les (46 :: b) = 46 :: les b
    unfold les
    rw [if_pos (by simpa using h)]
    cases b <;> rfl
  | cons x a ih =>
    by_cases hr : (a ++ b).any nz = true
    · obtain ⟨a', b', e1, e2, e3, e4⟩ := ih hr
      have hr2 : (a ++ [46] ++ b).any nz = true := by
        rw [List.any_append, List.any_append]
        rw [List.any_append] at hr
        cases h1 : a.any nz <;> cases h2 : b.any nz <;> simp_all
      refine ⟨x :: a', b', ?_, ?_, by simp [e3], e4⟩
      · show les (x :: (a ++ [46] ++ b)) = _
        unfold les
        rw [if_pos hr2]
        conv => lhs; rw [e1]
        rfl
      · show les (x :: (a ++ b)) = _
        unfold les
        rw [if_pos hr]
        conv => lhs; rw [e2]
        rfl
    · have hr' : (a ++ b).any nz = false := by simpa using hr
      have hr2 : (a ++ [46] ++ b).any nz = false := by
        rw [List.any_append, List.any_append]
        rw [List.any_append] at hr'
        cases h1 : a.any nz <;> cases h2 : b.any nz <;> simp_all [nz]
      refine ⟨(x - 1) :: a.map nine, b.map nine, ?_, ?_, by simp, by simp⟩
      · show les (x :: (a ++ [46] ++ b)) = _
        unfold les
        rw [if_neg (by rw [hr2]; decide)]
        simp [nine]
      · show les (x :: (a ++ b)) = _
        unfold les
        rw [if_neg (by rw [hr']; decide)]
        simp
theorem zeros_of (l : List UInt8) (hg : good 10 l) (h : l.any nz = false) : l = List.replicate l.length 48 := by
  induction l with
  | nil => rfl
  | cons x r ih =>
    rw [List.any_cons, Bool.or_eq_false_iff] at h
    obtain ⟨d1, d2, _⟩ := good_digit x (hg x (by simp))
    have hx : x = 48 := by
      apply Classical.byContradiction
      intro hne
      have h46 : x ≠ 46 := by intro he; rw [he] at d1; revert d1; decide
      have : nz x = true := by unfold nz; simp [hne, h46]
      rw [this] at h
      cases h.1
    rw [List.length_cons, List.replicate_succ, ← ih (fun c hc => hg c (by simp [hc])) h.2, hx]
theorem les_value (l : List UInt8) (hg : good 10 l) (h : l.any nz = true) : good 10 (les l) ∧ valN 10 (les l) + 1 = valN 10 l := by
  induction l with
  | nil => simp at h
  | cons x r ih =>
    have hgr : good 10 r := fun c hc => hg c (by simp [hc])
    obtain ⟨d1, d2, d3⟩ := good_digit x (hg x (by simp))
    unfold les
    by_cases hr : r.any nz = true
    · obtain ⟨i1, i2⟩ := ih hgr hr
      rw [if_pos hr]
      refine ⟨fun c hc => ?_, ?_⟩
      · rcases List.mem_cons.1 hc with rfl | hc
        · exact hg _ (by simp)
        · exact i1 c hc
      · rw [valN_cons, valN_cons, les_length]; omega
    · have hr' : r.any nz = false := by simpa using hr
      rw [if_neg hr]
      have hz := zeros_of r hgr hr'
      have hx : nz x = true := by
        rw [List.any_cons, hr', Bool.or_false] at h
        exact h
      have hx48 : x.toNat ≠ 48 := by
        intro he
        have : x = 48 := UInt8.toNat_inj.1 he
        rw [this] at hx
        revert hx; decide
      have hxm : (x - 1).toNat = x.toNat - 1 := by
        rw [UInt8.toNat_sub_of_le _ _ (by rw [UInt8.le_iff_toNat_le]; show 1 ≤ x.toNat; omega)]; rfl
      have hxd : digN 99 (((x - 1).toNat : Nat) : Int) = (x.toNat : Int) - 49 := by rw [hxm]; unfold digN; rw [if_pos (by omega)]; omega
      have hmap : r.map nine = List.replicate r.length 57 := by
        conv => lhs; rw [hz]
        rw [List.map_replicate]
        rfl
      refine ⟨fun c hc => ?_, ?_⟩
      · rcases List.mem_cons.1 hc with rfl | hc
        · rw [hxd]; omega
        · rw [hmap] at hc
          rw [List.eq_of_mem_replicate hc]; decide
      · have hn := valN_nines r.length
        rw [valN_cons, valN_cons, hmap, List.length_replicate, hxd, d3]
        conv => rhs; rw [show valN 10 r = 0 by rw [hz]; exact valN_zeros _]
        rw [show ((x.toNat : Int) - 49).toNat = x.toNat - 49 by omega, show ((x.toNat : Int) - 48).toNat = (x.toNat - 49) + 1 by omega, Nat.add_mul, Nat.one_mul]
        omega
end Go.Proofs.YtoedefjngipeiaaGreatDoor

