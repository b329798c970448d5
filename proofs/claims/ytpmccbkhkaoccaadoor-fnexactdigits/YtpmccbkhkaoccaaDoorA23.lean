import Derived.Test.YtpmccbkhkaoccaaDoorA03
import Derived.Test.YtpmccbkhkaoccaaDoorA22
import Derived.Test.YtpmccbkhkaoccaaDoorA10
/- A word is one thing alone: plain. -/
namespace Go.Proofs.YtpmccbkhkaoccaaDoor
open Ieee (double)

theorem fw_one (s t : Bool) (m n : Nat) (p q : Int) (h : Canon m p) (k : Canon n q) (e : fw s m p = fw t n q) : s = t ∧ m = n ∧ p = q := by
  have h1 := read_canon s m p h
  have h2 := read_canon t n q k
  rw [e, h2] at h1
  cases h1
  exact ⟨rfl, rfl, rfl⟩
theorem iw_fw (s t : Bool) (m : Nat) (p : Int) (h : Canon m p) (e : iw s = fw t m p) : False := by
  have h1 := read_canon t m p h
  rw [← e, read_iw] at h1
  cases h1
theorem nan_not_fw (s : Bool) (m : Nat) (p : Int) (h : Canon m p) (hn : IsNan (fw s m p)) : False := by
  have h2 := fw_eq_self s m p h
  rw [nan_neq _ hn] at h2
  cases h2
theorem nan_not_iw (s : Bool) (hn : IsNan (iw s)) : False := by
  have h2 := iw_eq_self s
  rw [nan_neq _ hn] at h2
  cases h2
theorem iw_one (s t : Bool) (h : iw s = iw t) : s = t := by
  have h1 := read_iw s
  rw [h, read_iw] at h1
  cases h1; rfl
theorem sign_one (s t : Bool) (h : signBit s = signBit t) : s = t := by cases s <;> cases t <;> first | rfl | (exact absurd h (by decide))
theorem sign_fw (s t : Bool) (m : Nat) (p : Int) (hc : Canon m p) (h0 : 0 < m) (h : signBit s = fw t m p) : False := by
  have h1 := fw_one s t 0 m (-1074) p canon_zero hc (by rw [fw_zero]; exact h)
  omega
theorem sign_iw (s t : Bool) (h : signBit s = iw t) : False := by cases s <;> cases t <;> exact absurd h (by decide)
theorem sign_nan (s : Bool) (h : IsNan (signBit s)) : False := nan_not_fw s 0 (-1074) canon_zero (by rw [fw_zero]; exact h)
end Go.Proofs.YtpmccbkhkaoccaaDoor

/- Exact's, HexOf's and Digits's answers are fixed: plain but for their names. -/
namespace Go.Proofs.YtpmccbkhkaoccaaDoor
open Ieee (double)

theorem exactV_one (x : Nat) (t t' : ByteArray) (h : exactV x t) (h' : exactV x t') : t = t' := by
  rcases h with ⟨a, rfl⟩ | ⟨s, rfl, rfl⟩ | ⟨s, rfl, rfl⟩ | ⟨s, n, p, q, k, ds, pow, hc, h0, rfl, hq, hq1, hd, rfl⟩
  · rcases h' with ⟨_, rfl⟩ | ⟨s, rfl, rfl⟩ | ⟨s, rfl, rfl⟩ | ⟨s, n, p, q, k, ds, pow, hc, h0, rfl, hq, hq1, hd, rfl⟩
    · rfl
    · exact (nan_not_iw s a).elim
    · exact (sign_nan s a).elim
    · exact (nan_not_fw s n p hc a).elim
  · rcases h' with ⟨a, _⟩ | ⟨t, e, rfl⟩ | ⟨t, e, rfl⟩ | ⟨t, n, p, q, k, ds, pow, hc, h0, e, hq, hq1, hd, rfl⟩
    · exact (nan_not_iw s a).elim
    · rw [iw_one s t e]
    · exact (sign_iw t s e.symm).elim
    · exact (iw_fw s t n p hc e).elim
  · rcases h' with ⟨a, _⟩ | ⟨t, e, rfl⟩ | ⟨t, e, rfl⟩ | ⟨t, n, p, q, k, ds, pow, hc, h0, e, hq, hq1, hd, rfl⟩
    · exact (sign_nan s a).elim
    · exact (sign_iw s t e).elim
    · rw [sign_one s t e]
    · exact (sign_fw s t n p hc h0 e).elim
  · rcases h' with ⟨a, _⟩ | ⟨t, e, rfl⟩ | ⟨t, e, rfl⟩ | ⟨t, n', p', q', k', ds', pow', hc', h0', e, hq', hq1', hd', rfl⟩
    · exact (nan_not_fw s n p hc a).elim
    · exact (iw_fw t s n p hc e.symm).elim
    · exact (sign_fw t s n p hc h0 e.symm).elim
    · obtain ⟨rfl, rfl, rfl⟩ := fw_one s t n n' p p' hc hc' e
      obtain ⟨rfl, rfl⟩ := odd_one q k q' k' (hq.symm.trans hq') hq1 hq1'
      obtain ⟨rfl, rfl⟩ := exD_one ds ds' pow pow' q _ hd hd'
      rfl
end Go.Proofs.YtpmccbkhkaoccaaDoor

/- A box of a float's parts in later worlds. -/
namespace Go.Proofs.YtpmccbkhkaoccaaDoor
open Go.RowKit

/-- Worlds behind w in which the box of a float's parts still lies. -/
def Box4 (w : World) (H : Nat) (k : Int) (s : Bool) (m e : Int) (W : World) : Prop := Below w.heap.size w W ∧ W.cell? ⟨H, 0, none⟩ = some (.int .i64 k) ∧ W.cell? ⟨H, 1, none⟩ = some (.bool s) ∧ W.cell? ⟨H, 2, none⟩ = some (.int .i64 m) ∧ W.cell? ⟨H, 3, none⟩ = some (.int .i64 e)
theorem Box4.drew {w W : World} {H : Nat} {k : Int} {s : Bool} {m e : Int} (h : Box4 w H k s m e W) : Box4 w H k s m e W.drew := ⟨h.1.drew, h.2⟩
theorem lt_cell {w : World} {p : Addr} {v : Value} (h : w.cell? p = some v) : p.block < w.heap.size := by
  by_cases hp : p.block < w.heap.size
  · exact hp
  · have e : w.heap[p.block]? = Option.none := Array.getElem?_eq_none (by omega)
    simp [World.cell?, e] at h
theorem Box4.next {w W W' : World} {H : Nat} {k : Int} {s : Bool} {m e : Int} (h : Box4 w H k s m e W) (hb : Below W.heap.size W W') : Box4 w H k s m e W' := by
  obtain ⟨h1, h2, h3, h4, h5⟩ := h
  exact ⟨h1.trans (hb.mono h1.size), (hb.cell (lt_cell h2)).trans h2, (hb.cell (lt_cell h3)).trans h3, (hb.cell (lt_cell h4)).trans h4, (hb.cell (lt_cell h5)).trans h5⟩
theorem Box4.new {w W1 : World} {k : Int} {s : Bool} {m e : Int} (hb : Below w.heap.size w W1) : Box4 w W1.heap.size k s m e (W1.alloc (.cells #[.int .i64 k, .bool s, .int .i64 m, .int .i64 e] 36)) :=
  ⟨hb.alloc hb.size _, by simp [go_sem], by simp [go_sem], by simp [go_sem], by simp [go_sem]⟩
end Go.Proofs.YtpmccbkhkaoccaaDoor

