import Derived.Test.YtaoccjaaopmfdaaDoorA20
import Derived.Test.YtaoccjaaopmfdaaDoorA22
import Derived.Test.YtaoccjaaopmfdaaDoorA14
import Derived.Test.YtaoccjaaopmfdaaDoorA15
/- What the program's writers want of the world. -/
namespace Go.Proofs.YtaoccjaaopmfdaaDoor
open Go.RowKit

def WrG (w : World) : Prop := DTab w ∧ Tab w ∧ 0 < w.heap.size ∧ 1 < w.heap.size
theorem WrG.below {w w' : World} (h : WrG w) (hb : Below w.heap.size w w') : WrG w' :=
  ⟨h.1.below h.2.2.1 hb, fun i hi => by rw [hb.cell (p := ⟨1, i, none⟩) h.2.2.2]; exact h.2.1 i hi, Nat.lt_of_lt_of_le h.2.2.1 hb.size, Nat.lt_of_lt_of_le h.2.2.2 hb.size⟩
/-- Every float has its parts. -/
theorem parts_ex (x : Nat) (hx : x < 18446744073709551616) : ∃ k s m e, partsV x k s m e := by
  rcases float_cases x hx with h | ⟨s, rfl⟩ | ⟨s, n, p, hc, rfl⟩
  · exact ⟨3, false, 0, 0, .inl ⟨h, rfl, rfl, rfl, rfl⟩⟩
  · exact ⟨2, s, 0, 0, .inr (.inl ⟨rfl, rfl, rfl, rfl⟩)⟩
  · by_cases h0 : n = 0
    · subst h0
      rw [fw_zero]
      exact ⟨0, s, 0, 0, .inr (.inr (.inl ⟨rfl, rfl, rfl, rfl⟩))⟩
    · obtain ⟨q, t, hq, hq1⟩ := odd_some n (by omega)
      exact ⟨1, s, q, p + t, .inr (.inr (.inr ⟨n, p, q, t, hc, by omega, rfl, hq, hq1, rfl, rfl, rfl⟩))⟩
theorem parts_bounds (n : Nat) (p : Int) (q t : Nat) (hc : Canon n p) (h0 : 0 < n) (hq : n = q * 2 ^ t) : q ≤ 9007199254740992 ∧ 0 < q ∧ -1074 ≤ p + t ∧ p + t ≤ 1023 := by
  have h1 : n < 9007199254740992 := by rcases hc with h | h <;> omega
  have hq0 : 0 < q := Nat.pos_of_ne_zero fun h => by rw [h, Nat.zero_mul] at hq; omega
  have ht : t ≤ 52 := few_halves n t (q : Int) (by rw [Int.toNat_natCast]; exact hq) (by omega) h1
  have hqn : q ≤ n := by rw [hq]; exact Nat.le_mul_of_pos_right _ (Nat.two_pow_pos t)
  rcases hc with h | h <;> omega
end Go.Proofs.YtaoccjaaopmfdaaDoor

/- A box of a float's parts in later worlds. -/
namespace Go.Proofs.YtaoccjaaopmfdaaDoor
open Go.RowKit

/-- Worlds behind w in which the box of a float's parts still lies. -/
def Box4 (w : World) (H : Nat) (k : Int) (s : Bool) (m e : Int) (W : World) : Prop := Below w.heap.size w W ∧ W.cell? ⟨H, 0, none⟩ = some (.int .i64 k) ∧ W.cell? ⟨H, 1, none⟩ = some (.bool s) ∧ W.cell? ⟨H, 2, none⟩ = some (.int .i64 m) ∧ W.cell? ⟨H, 3, none⟩ = some (.int .i64 e)
theorem Box4.drew {w W : World} {H : Nat} {k : Int} {s : Bool} {m e : Int} (h : Box4 w H k s m e W) : Box4 w H k s m e W.drew := ⟨h.1.drew, h.2⟩
theorem lt_cell {w : World} {p : Addr} {v : Value} (h : w.cell? p = some v) : p.block < w.heap.size := by
  by_cases hp : p.block < w.heap.size
  · exact hp
  · have e : w.heap[p.block]? = Option.none := Array.getElem?_eq_none (by omega)
    simp [World.cell?, e] at h
theorem Box4.next {w W W' : World} {H : Nat} {k : Int} {s : Bool} {m e : Int} (h : Box4 w H k s m e W) (hb : Below W.heap.size W W') : Box4 w H k s m e W' := by
  obtain ⟨h1, h2, h3, h4, h5⟩ := h
  exact ⟨h1.trans (hb.mono h1.size), (hb.cell (lt_cell h2)).trans h2, (hb.cell (lt_cell h3)).trans h3, (hb.cell (lt_cell h4)).trans h4, (hb.cell (lt_cell h5)).trans h5⟩
theorem Box4.new {w W1 : World} {k : Int} {s : Bool} {m e : Int} (hb : Below w.heap.size w W1) : Box4 w W1.heap.size k s m e (W1.alloc (.cells #[.int .i64 k, .bool s, .int .i64 m, .int .i64 e] 36)) :=
  ⟨hb.alloc hb.size _, by simp [go_sem], by simp [go_sem], by simp [go_sem], by simp [go_sem]⟩
end Go.Proofs.YtaoccjaaopmfdaaDoor

/- Digits with 1 more in the last place: plain. -/
namespace Go.Proofs.YtaoccjaaopmfdaaDoor
open Go.RowKit

/-- What l5up answers. -/
def UpD (ds t : ByteArray) (more : Bool) : Prop := good 10 t.data.toList ∧ valN 10 t.data.toList = valN 10 ds.data.toList + 1 ∧ t.size = ds.size + (if more then 1 else 0) ∧ (more = true → valN 10 ds.data.toList + 1 = 10 ^ ds.size)
theorem valN_nines (k : Nat) : valN 10 (List.replicate k (57 : UInt8)) + 1 = 10 ^ k := by
  induction k with
  | zero => rw [List.replicate_zero, valN_nil]
  | succ k ih =>
    rw [List.replicate_succ', valN_append, Nat.pow_succ]
    have : valN 10 [(57 : UInt8)] = 9 := by decide
    rw [this]
    show valN 10 (List.replicate k 57) * 10 ^ 1 + 9 + 1 = 10 ^ k * 10
    omega
/-- Behind the place i all digits are nines. -/
def Nines (l : List UInt8) (i : Nat) : Prop := ∃ k, l = l.take i ++ List.replicate k 57
theorem nines_start (l : List UInt8) : Nines l l.length := ⟨0, by simp⟩
theorem nines_step (l : List UInt8) (i : Nat) (hi : i < l.length) (h : Nines l (i + 1)) (hc : l[i].toNat = 57) : Nines l i := by
  obtain ⟨k, hk⟩ := h
  refine ⟨k + 1, ?_⟩
  have e : l[i] = 57 := UInt8.toNat_inj.1 hc
  rw [List.take_succ_eq_append_getElem hi, e] at hk
  rw [List.replicate_succ]
  conv => lhs; rw [hk]
  simp
theorem up_found (l : List UInt8) (i : Nat) (hi : i < l.length) (hg : good 10 l) (h : Nines l (i + 1)) (hc : l[i].toNat ≠ 57) (c : UInt8) (hcc : c.toNat = l[i].toNat + 1) :
    good 10 (l.take i ++ [c] ++ List.replicate (l.length - (i + 1)) 48) ∧ valN 10 (l.take i ++ [c] ++ List.replicate (l.length - (i + 1)) 48) = valN 10 l + 1 := by
  obtain ⟨k, hk⟩ := h
  have hkl : k = l.length - (i + 1) := by
    have := congrArg List.length hk
    rw [List.length_append, List.length_take, List.length_replicate] at this
    omega
  rw [← hkl]
  obtain ⟨d1, d2, d3⟩ := good_digit l[i] (hg _ (List.getElem_mem hi))
  have hcg : digN 99 (c.toNat : Int) = (c.toNat : Int) - 48 := by unfold digN; rw [if_pos (by omega)]
  refine ⟨?_, ?_⟩
  · refine good_append _ _ (good_append _ _ (fun x hx => hg x (List.mem_of_mem_take hx)) ?_) (good_zeros k)
    intro x hx
    rw [List.mem_singleton.1 hx, hcg]; omega
  · have hv : valN 10 l = (valN 10 (l.take i) * 10 + (l[i].toNat - 48)) * 10 ^ k + (10 ^ k - 1) := by
      conv => lhs; rw [hk]
      rw [valN_append, List.length_replicate, List.take_succ_eq_append_getElem hi, valN_append]
      have h1 := valN_nines k
      have h2 : valN 10 [l[i]] = l[i].toNat - 48 := by
        rw [valN_cons, valN_nil, d3]
        simp
        omega
      rw [h2]
      show (valN 10 (l.take i) * 10 ^ 1 + (l[i].toNat - 48)) * 10 ^ k + _ = _
      rw [Nat.pow_one]
      omega
    have h3 : valN 10 [c] = c.toNat - 48 := by
      rw [valN_cons, valN_nil, hcg]
      simp
      omega
    rw [valN_append, valN_append, valN_zeros, List.length_replicate, h3, hv, hcc]
    have hp : 0 < 10 ^ k := Nat.pow_pos (by omega)
    show (valN 10 (l.take i) * 10 ^ 1 + (l[i].toNat + 1 - 48)) * 10 ^ k + 0 = _
    rw [show l[i].toNat + 1 - 48 = (l[i].toNat - 48) + 1 by omega, Nat.pow_one, ← Nat.add_assoc, Nat.add_mul _ 1, Nat.one_mul]
    omega
theorem nines_all (l : List UInt8) (h : Nines l 0) : valN 10 l + 1 = 10 ^ l.length := by
  obtain ⟨k, hk⟩ := h
  rw [List.take_zero, List.nil_append] at hk
  have hkl : l.length = k := by rw [hk, List.length_replicate]
  rw [hkl, hk, valN_nines]
theorem bytes_ext (s t : ByteArray) (h : s.data.toList = t.data.toList) : s = t := by
  have h' : s.data = t.data := by rw [← Array.toArray_toList (xs := s.data), h, Array.toArray_toList]
  cases s; cases t; cases h'; rfl
theorem upD_one (ds t t' : ByteArray) (m m' : Bool) (h : UpD ds t m) (h' : UpD ds t' m') : t = t' ∧ m = m' := by
  obtain ⟨a1, a2, a3, a4⟩ := h
  obtain ⟨b1, b2, b3, b4⟩ := h'
  have l1 := valN_good_lt 10 t.data.toList a1
  have l2 := valN_good_lt 10 t'.data.toList b1
  rw [data_len] at l1 l2
  have hm : m = m' := by
    cases m <;> cases m'
    · rfl
    · have := b4 rfl
      rw [if_neg (by decide), Nat.add_zero] at a3
      rw [a3] at l1
      omega
    · have := a4 rfl
      rw [if_neg (by decide), Nat.add_zero] at b3
      rw [b3] at l2
      omega
    · rfl
  subst hm
  exact ⟨bytes_ext _ _ (digits_one _ _ a1 b1 (by rw [data_len, data_len, a3, b3]) (a2.trans b2.symm)), rfl⟩
theorem up_none (l : List UInt8) (h : Nines l 0) : good 10 ((49 : UInt8) :: List.replicate l.length 48) ∧ valN 10 ((49 : UInt8) :: List.replicate l.length 48) = valN 10 l + 1 := by
  obtain ⟨k, hk⟩ := h
  rw [List.take_zero, List.nil_append] at hk
  have hkl : l.length = k := by rw [hk, List.length_replicate]
  refine ⟨?_, ?_⟩
  · intro x hx
    rcases List.mem_cons.1 hx with rfl | hx
    · decide
    · exact good_zeros _ x hx
  · rw [valN_cons, valN_zeros, List.length_replicate, hkl, hk, valN_nines]
    have : (digN 99 (((49 : UInt8).toNat : Nat) : Int)).toNat = 1 := by decide
    rw [this]; omega
end Go.Proofs.YtaoccjaaopmfdaaDoor

