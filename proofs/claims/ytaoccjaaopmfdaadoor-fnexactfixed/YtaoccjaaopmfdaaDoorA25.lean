import Derived.Test.YtaoccjaaopmfdaaDoorA24
import Derived.Test.YtaoccjaaopmfdaaDoorRows
import Derived.WalkKit
import Derived.WalkSpells
import Derived.WalkLawsBesides
import Derived.Outline
import Derived.BigQuiet
import Derived.Deep.QuietTactic
import Derived.Laws.BitsAllLaws
import Derived.Test.YtaoccjaaopmfdaaDoorA10
import Derived.Test.YtaoccjaaopmfdaaDoorA23
/- A builder and the iterators. -/
namespace Go.Proofs.YtaoccjaaopmfdaaDoor
open Go.RowKit Go.Shelf

theorem below_chg {T : TypeId} {B N H : Nat} {w W W' : World} (h : Below H w W) (hc : Chg T B N W W') (hH : H ≤ B) (hw : H ≤ w.heap.size) : Below H w W' :=
  ⟨hc.1.trans h.os, hc.2.1.trans h.tape, hc.2.2.1.trans h.output, Nat.le_trans h.size hc.2.2.2.1, fun k hk => by
    have h1 := h.block k hk
    obtain ⟨o, ho⟩ : ∃ o, w.heap[k]? = some o := ⟨_, Array.getElem?_eq_getElem (Nat.lt_of_lt_of_le hk hw)⟩
    rw [ho] at h1 ⊢
    exact hc.2.2.2.2 k o h1 (.inl (by omega))⟩
theorem isBuilder_chg {T : TypeId} {B N P b : Nat} {bs : List Value} {W W' : World} (h : Lib.IsBuilderF 138 5 P b bs W) (hc : Chg T B N W W') (h1 : T ≠ 138) (h2 : T ≠ 5) : Lib.IsBuilderF 138 5 P b bs W' := by
  have key : ∀ p, Lib.BuilderAtF 138 5 P b p bs W → Lib.BuilderAtF 138 5 P b p bs W' := fun p h => by
    obtain ⟨hB, v, hb, hown, hne⟩ := h
    refine ⟨hB, v, hc.2.2.2.2 b _ hb (.inr ⟨_, _, _, rfl, .inl fun e => h1 e.symm⟩), ⟨hown.1, ?_⟩, hne⟩
    rcases hown.2 with hn | ⟨g, cap, cur, fz, hv, hbg, hg, rest⟩
    · exact .inl hn
    · exact .inr ⟨g, cap, cur, fz, hv, hbg, hc.2.2.2.2 g _ hg (.inr ⟨_, _, _, rfl, .inl fun e => h2 e.symm⟩), rest⟩
  exact h.elim (fun x => .inl (key _ x)) (fun x => .inr (key _ x))
theorem rnd_of_kept {b : Nat} {W W' : World} (h : Lib.OthersKept 5 (some b) W W') (hB : Below b W W') : Rnd b W W' :=
  ⟨hB.size, fun k c t fz hk hb ht => h k _ hk (fun e => hb (Option.some.inj e)) (fun c' fz' e => by cases e; exact ht rfl), hB.block⟩
theorem keeps_of_kept {b B : Nat} {W W' : World} (h : Lib.OthersKept 5 (some b) W W') (hs : W.heap.size ≤ W'.heap.size) (hb : ∃ c t fz, W.heap[b]? = some (.cells c t fz)) : KeepsFrom B W W' :=
  ⟨hs, fun k o _ hk ho => h k o hk (fun e => by
    cases e
    obtain ⟨c, t, fz, hb⟩ := hb
    rw [hb] at hk
    cases hk
    cases ho) (fun c fz e => by subst e; cases ho)⟩
theorem builder_cells {P b : Nat} {bs : List Value} {W : World} (h : Lib.IsBuilderF 138 5 P b bs W) : ∃ c t fz, W.heap[b]? = some (.cells c t fz) := by
  rcases h with ⟨_, v, hb, _⟩ | ⟨_, v, hb, _⟩
  · exact ⟨_, _, _, hb⟩
  · exact ⟨_, _, _, hb⟩
theorem below_put {H l : Nat} {w W : World} (h : Below H w W) (o : Obj) (hl : H ≤ l) : Below H w (W.putObj l o) :=
  h.trans ⟨rfl, rfl, rfl, by simp, fun k hk => World.putObj_heap_other (by omega)⟩
end Go.Proofs.YtaoccjaaopmfdaaDoor

/- A callee that writes into one block alone. -/
namespace Go.Proofs.YtaoccjaaopmfdaaDoor
open Go.ChangeShapes Go.WideShapes Go.RowKit

/-- Of what was there nothing has turned but block B. -/
def Only (B : Nat) (w w' : World) : Prop := w'.os = w.os ∧ w'.tape = w.tape ∧ w'.output = w.output ∧ w'.heap.size = w.heap.size ∧ ∀ k, k ≠ B → w'.heap[k]? = w.heap[k]?
theorem Only.refl (B : Nat) (w : World) : Only B w w := ⟨rfl, rfl, rfl, rfl, fun _ _ => rfl⟩
theorem Only.trans {B : Nat} {a b c : World} (h : Only B a b) (k : Only B b c) : Only B a c :=
  ⟨k.1.trans h.1, k.2.1.trans h.2.1, k.2.2.1.trans h.2.2.1, k.2.2.2.1.trans h.2.2.2.1, fun i hi => (k.2.2.2.2 i hi).trans (h.2.2.2.2 i hi)⟩
theorem Only.drewN {B : Nat} {a w : World} (h : Only B a w) (n : Nat) : Only B a (w.drewN n) := h.trans ⟨rfl, rfl, rfl, rfl, fun _ _ => rfl⟩
theorem Only.setCell {B : Nat} {a w : World} (h : Only B a w) (o : Nat) (u : Value) : Only B a (w.setCell ⟨B, o, none⟩ u) :=
  h.trans ⟨rfl, rfl, rfl, by simp [World.setCell], fun k hk => Below.heap_setCell _ _ _ _ hk⟩
theorem Only.cell {B : Nat} {w w' : World} (h : Only B w w') {p : Addr} (hp : p.block ≠ B) : w'.cell? p = w.cell? p := World.cell?_of_block (w := w) (h.2.2.2.2 p.block hp)
theorem Only.frozen {B : Nat} {w w' : World} (h : Only B w w') {p : Addr} (hp : p.block ≠ B) : w'.frozen? p = w.frozen? p := World.frozen?_of_block (w := w) (h.2.2.2.2 p.block hp)
theorem Only.below {B C : Nat} {w w' : World} (h : Only B w w') (hC : C ≤ B) : Below C w w' :=
  ⟨h.1, h.2.1, h.2.2.1, by rw [h.2.2.2.1]; exact Nat.le_refl _, fun k hk => h.2.2.2.2 k (by omega)⟩

theorem cell_lt {w : World} {p : Addr} {v : Value} (h : w.cell? p = some v) : p.block < w.heap.size := by
  by_cases hp : p.block < w.heap.size
  · exact hp
  · have e : w.heap[p.block]? = Option.none := Array.getElem?_eq_none (by omega)
    simp [World.cell?, e] at h
end Go.Proofs.YtaoccjaaopmfdaaDoor

/- l5up of the specification. -/
namespace Go.Proofs.YtaoccjaaopmfdaaDoor
open Go.ChangeShapes Go.WideShapes Go.RowKit

/-- The bytes of a text, laid anew. -/
theorem bytes_new (w : World) (s : ByteArray) : ∃ cap W, (convert 9 78 (.string s)).run Tryd.prog w = .ok (.slice (some ⟨w.heap.size, 0, none⟩) s.size cap) W ∧ Below w.heap.size w W ∧ w.heap.size < W.heap.size
    ∧ (∀ j (h : j < s.size), W.cell? ⟨w.heap.size, j, none⟩ = some (.int .u8 (s[j].toNat : Int))) ∧ (∀ j, j < s.size → W.frozen? ⟨w.heap.size, j, none⟩ = false) := by
  refine ⟨_, _, run_bytes_of_string (P := Tryd.prog) w 9 78 5 s Tryd.underlying9 Tryd.underlying78 Tryd.underlying5, ((Below.refl _ _).drew).alloc (Nat.le_refl _) _, by simp, ?_, ?_⟩
  · intro j h
    have hb : (w.drew.alloc (.cells (bytesRow s (grownCap w s.size 0 5)) 5 ((bytesRow s (grownCap w s.size 0 5)).size, (bytesRow s (grownCap w s.size 0 5)).size + 1))).heap[w.heap.size]? = some (.cells (bytesRow s (grownCap w s.size 0 5)) 5 ((bytesRow s (grownCap w s.size 0 5)).size, (bytesRow s (grownCap w s.size 0 5)).size + 1)) := by
      show (w.heap.push _)[w.heap.size]? = _
      simp
    have hc : (bytesRow s (grownCap w s.size 0 5))[j]? = some (.int .u8 (s[j].toNat : Int)) := by
      unfold bytesRow
      have hl : j < (s.data.map fun b => Value.int .u8 (b.toNat : Int)).size := by simpa using h
      rw [Array.getElem?_append_left hl, Array.getElem?_eq_getElem hl]
      simp [ByteArray.getElem_eq_getElem_data]
    simp only [World.cell?, hb]
    simpa using hc
  · intro j h
    have hb : (w.drew.alloc (.cells (bytesRow s (grownCap w s.size 0 5)) 5 ((bytesRow s (grownCap w s.size 0 5)).size, (bytesRow s (grownCap w s.size 0 5)).size + 1))).heap[w.heap.size]? = some (.cells (bytesRow s (grownCap w s.size 0 5)) 5 ((bytesRow s (grownCap w s.size 0 5)).size, (bytesRow s (grownCap w s.size 0 5)).size + 1)) := by
      show (w.heap.push _)[w.heap.size]? = _
      simp
    have hsz : j < (bytesRow s (grownCap w s.size 0 5)).size := by
      unfold bytesRow
      simp
      have : s.data.size = s.size := rfl
      omega
    simp only [World.frozen?, hb]
    simp
    omega
/-- The bytes while nines are turned to zeros: those ahead of k as they were, those behind it zeros. -/
def UpSt (s : ByteArray) (B k : Nat) (W wr : World) : Prop := Only B W wr ∧ (∀ j (h : j < s.size), j < k → wr.cell? ⟨B, j, none⟩ = some (.int .u8 (s[j].toNat : Int))) ∧ (∀ j, j < s.size → k ≤ j → wr.cell? ⟨B, j, none⟩ = some (.int .u8 48)) ∧ (∀ j, j < s.size → wr.frozen? ⟨B, j, none⟩ = false)
theorem set_cell_at {w : World} {B k : Nat} {v u : Value} (h : w.cell? ⟨B, k, none⟩ = some u) (j : Nat) : (w.setCell ⟨B, k, none⟩ v).cell? ⟨B, j, none⟩ = if j = k then some v else w.cell? ⟨B, j, none⟩ := by
  by_cases hj : j = k
  · subst hj; rw [if_pos rfl]; simp [go_sem, h]
  · rw [if_neg hj]; simp [go_sem]
theorem set_frozen_at {w : World} {B k : Nat} {v : Value} (j : Nat) : (w.setCell ⟨B, k, none⟩ v).frozen? ⟨B, j, none⟩ = w.frozen? ⟨B, j, none⟩ := by simp [go_sem]
theorem UpSt.zero {s : ByteArray} {B k : Nat} {W wr : World} (h : UpSt s B (k + 1) W wr) (hk : k < s.size) : UpSt s B k W (wr.setCell ⟨B, k, none⟩ (.int .u8 48)) := by
  obtain ⟨h1, h2, h3, h4⟩ := h
  have hc := h2 k hk (by omega)
  refine ⟨h1.setCell _ _, fun j hj hjk => ?_, fun j hj hjk => ?_, fun j hj => ?_⟩
  · rw [set_cell_at hc, if_neg (by omega)]; exact h2 j hj (by omega)
  · rw [set_cell_at hc]
    split
    · rfl
    · exact h3 j hj (by omega)
  · rw [set_frozen_at]; exact h4 j hj
theorem UpSt.text {s : ByteArray} {B k : Nat} {W wr : World} (h : UpSt s B (k + 1) W wr) (hk : k < s.size) (c : UInt8) (cap : Nat) :
    (convert 78 9 (.slice (some ⟨B, 0, none⟩) s.size cap)).run Tryd.prog (wr.setCell ⟨B, k, none⟩ (.int .u8 (c.toNat : Int))) = .ok (.string ⟨(s.data.toList.take k ++ [c] ++ List.replicate (s.data.toList.length - (k + 1)) 48).toArray⟩) (wr.setCell ⟨B, k, none⟩ (.int .u8 (c.toNat : Int))) := by
  obtain ⟨h1, h2, h3, h4⟩ := h
  have hl : (s.data.toList.take k ++ [c] ++ List.replicate (s.data.toList.length - (k + 1)) 48).length = s.size := by
    rw [List.length_append, List.length_append, List.length_take, List.length_replicate, data_len, List.length_singleton]; omega
  have := run_convert_bytes_back (P := Tryd.prog) (wr.setCell ⟨B, k, none⟩ (.int .u8 (c.toNat : Int))) 78 9 5 ⟨B, 0, none⟩ cap (s.data.toList.take k ++ [c] ++ List.replicate (s.data.toList.length - (k + 1)) 48) Tryd.underlying78 Tryd.underlying5 Tryd.underlying9 (fun j hj => by
    rw [show (⟨B, 0, none⟩ : Addr).add j = ⟨B, j, none⟩ by (simp [Addr.add]; try omega), set_cell_at (h2 k hk (by omega))]
    have hjs : j < s.size := by omega
    by_cases e1 : j = k
    · rw [if_pos e1]
      subst e1
      have : (s.data.toList.take j ++ [c] ++ List.replicate (s.data.toList.length - (j + 1)) 48)[j] = c := by
        rw [List.getElem_append_left (by rw [List.length_append, List.length_take, data_len, List.length_singleton]; omega), List.getElem_append_right (by rw [List.length_take, data_len]; omega)]
        simp
      rw [this]
    · rw [if_neg e1]
      by_cases e2 : j < k
      · rw [h2 j hjs (by omega)]
        have : (s.data.toList.take k ++ [c] ++ List.replicate (s.data.toList.length - (k + 1)) 48)[j] = s[j] := by
          rw [List.getElem_append_left (by rw [List.length_append, List.length_take, data_len]; omega), List.getElem_append_left (by rw [List.length_take, data_len]; omega), List.getElem_take]
          rfl
        rw [this]
      · rw [h3 j hjs (by omega)]
        have : (s.data.toList.take k ++ [c] ++ List.replicate (s.data.toList.length - (k + 1)) 48)[j] = 48 := by
          rw [List.getElem_append_right (by rw [List.length_append, List.length_take, data_len, List.length_singleton]; omega), List.getElem_replicate]
        rw [this]; rfl)
  rw [hl] at this
  exact this
theorem UpSt.zeros {s : ByteArray} {B : Nat} {W wr : World} (h : UpSt s B 0 W wr) (cap : Nat) :
    (convert 78 9 (.slice (some ⟨B, 0, none⟩) s.size cap)).run Tryd.prog wr = .ok (.string ⟨(List.replicate s.size 48).toArray⟩) wr := by
  obtain ⟨h1, h2, h3, h4⟩ := h
  have := run_convert_bytes_back (P := Tryd.prog) wr 78 9 5 ⟨B, 0, none⟩ cap (List.replicate s.size 48) Tryd.underlying78 Tryd.underlying5 Tryd.underlying9 (fun j hj => by
    rw [show (⟨B, 0, none⟩ : Addr).add j = ⟨B, j, none⟩ by (simp [Addr.add]; try omega), h3 j (by simpa using hj) (by omega), List.getElem_replicate]
    rfl)
  rw [List.length_replicate] at this
  exact this
end Go.Proofs.YtaoccjaaopmfdaaDoor

