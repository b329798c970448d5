import Derived.Test.YtpmccbkhkaoccaaDoorA21
import Derived.Test.YtpmccbkhkaoccaaDoorA03
import Derived.Test.YtpmccbkhkaoccaaDoorA12
import Derived.Test.YtpmccbkhkaoccaaDoorRows
import Derived.RangeFuncNested
import Derived.RangeFuncBound
import Derived.RangeFuncCalls
import Derived.RangeFuncLeaves
import Derived.RangeFuncBox
import Derived.Shelf.Abstract
import Derived.Shelf.RegionOpen
import Derived.WalkKit
import Derived.OwnWalkIn
import Derived.TacticsInMore
import Derived.LoopNIn
import Derived.LoopIn
import Derived.Lib.OthersKept
/- Digits with 1 more in the last place: plain. -/
namespace Go.Proofs.YtpmccbkhkaoccaaDoor
open Go.RowKit

/-- What l5up answers. -/
def UpD (ds t : ByteArray) (more : Bool) : Prop := good 10 t.data.toList ∧ valN 10 t.data.toList = valN 10 ds.data.toList + 1 ∧ t.size = ds.size + (if more then 1 else 0) ∧ (more = true → valN 10 ds.data.toList + 1 = 10 ^ ds.size)
theorem valN_nines (k : Nat) : valN 10 (List.replicate k (57 : UInt8)) + 1 = 10 ^ k := by
  induction k with
  | zero => rw [List.replicate_zero, valN_nil]
  | succ k ih =>
    rw [List.replicate_succ', valN_append, Nat.pow_succ]
    have : valN 10 [(57 : UInt8)] = 9 := by decide
    rw [this]
    show valN 10 (List.replicate k 57) * 10 ^ 1 + 9 + 1 = 10 ^ k * 10
    omega
/-- Behind the place i all digits are nines. -/
def Nines (l : List UInt8) (i : Nat) : Prop := ∃ k, l = l.take i ++ List.replicate k 57
theorem nines_start (l : List UInt8) : Nines l l.length := ⟨0, by simp⟩
theorem nines_step (l : List UInt8) (i : Nat) (hi : i < l.length) (h : Nines l (i + 1)) (hc : l[i].toNat = 57) : Nines l i := by
  obtain ⟨k, hk⟩ := h
  refine ⟨k + 1, ?_⟩
  have e : l[i] = 57 := UInt8.toNat_inj.1 hc
  rw [List.take_succ_eq_append_getElem hi, e] at hk
  rw [List.replicate_succ]
  conv => lhs; rw [hk]
  simp
theorem up_found (l : List UInt8) (i : Nat) (hi : i < l.length) (hg : good 10 l) (h : Nines l (i + 1)) (hc : l[i].toNat ≠ 57) (c : UInt8) (hcc : c.toNat = l[i].toNat + 1) :
    good 10 (l.take i ++ [c] ++ List.replicate (l.length - (i + 1)) 48) ∧ valN 10 (l.take i ++ [c] ++ List.replicate (l.length - (i + 1)) 48) = valN 10 l + 1 := by
  obtain ⟨k, hk⟩ := h
  have hkl : k = l.length - (i + 1) := by
    have := congrArg List.length hk
    rw [List.length_append, List.length_take, List.length_replicate] at this
    omega
  rw [← hkl]
  obtain ⟨d1, d2, d3⟩ := good_digit l[i] (hg _ (List.getElem_mem hi))
  have hcg : digN 99 (c.toNat : Int) = (c.toNat : Int) - 48 := by unfold digN; rw [if_pos (by omega)]
  refine ⟨?_, ?_⟩
  · refine good_append _ _ (good_append _ _ (fun x hx => hg x (List.mem_of_mem_take hx)) ?_) (good_zeros k)
    intro x hx
    rw [List.mem_singleton.1 hx, hcg]; omega
  · have hv : valN 10 l = (valN 10 (l.take i) * 10 + (l[i].toNat - 48)) * 10 ^ k + (10 ^ k - 1) := by
      conv => lhs; rw [hk]
      rw [valN_append, List.length_replicate, List.take_succ_eq_append_getElem hi, valN_append]
      have h1 := valN_nines k
      have h2 : valN 10 [l[i]] = l[i].toNat - 48 := by
        rw [valN_cons, valN_nil, d3]
        simp
        omega
      rw [h2]
      show (valN 10 (l.take i) * 10 ^ 1 + (l[i].toNat - 48)) * 10 ^ k + _ = _
      rw [Nat.pow_one]
      omega
    have h3 : valN 10 [c] = c.toNat - 48 := by
      rw [valN_cons, valN_nil, hcg]
      simp
      omega
    rw [valN_append, valN_append, valN_zeros, List.length_replicate, h3, hv, hcc]
    have hp : 0 < 10 ^ k := Nat.pow_pos (by omega)
    show (valN 10 (l.take i) * 10 ^ 1 + (l[i].toNat + 1 - 48)) * 10 ^ k + 0 = _
    rw [show l[i].toNat + 1 - 48 = (l[i].toNat - 48) + 1 by omega, Nat.pow_one, ← Nat.add_assoc, Nat.add_mul _ 1, Nat.one_mul]
    omega
theorem nines_all (l : List UInt8) (h : Nines l 0) : valN 10 l + 1 = 10 ^ l.length := by
  obtain ⟨k, hk⟩ := h
  rw [List.take_zero, List.nil_append] at hk
  have hkl : l.length = k := by rw [hk, List.length_replicate]
  rw [hkl, hk, valN_nines]
theorem bytes_ext (s t : ByteArray) (h : s.data.toList = t.data.toList) : s = t := by
  have h' : s.data = t.data := by rw [← Array.toArray_toList (xs := s.data), h, Array.toArray_toList]
  cases s; cases t; cases h'; rfl
theorem upD_one (ds t t' : ByteArray) (m m' : Bool) (h : UpD ds t m) (h' : UpD ds t' m') : t = t' ∧ m = m' := by
  obtain ⟨a1, a2, a3, a4⟩ := h
  obtain ⟨b1, b2, b3, b4⟩ := h'
  have l1 := valN_good_lt 10 t.data.toList a1
  have l2 := valN_good_lt 10 t'.data.toList b1
  rw [data_len] at l1 l2
  have hm : m = m' := by
    cases m <;> cases m'
    · rfl
    · have := b4 rfl
      rw [if_neg (by decide), Nat.add_zero] at a3
      rw [a3] at l1
      omega
    · have := a4 rfl
      rw [if_neg (by decide), Nat.add_zero] at b3
      rw [b3] at l2
      omega
    · rfl
  subst hm
  exact ⟨bytes_ext _ _ (digits_one _ _ a1 b1 (by rw [data_len, data_len, a3, b3]) (a2.trans b2.symm)), rfl⟩
theorem up_none (l : List UInt8) (h : Nines l 0) : good 10 ((49 : UInt8) :: List.replicate l.length 48) ∧ valN 10 ((49 : UInt8) :: List.replicate l.length 48) = valN 10 l + 1 := by
  obtain ⟨k, hk⟩ := h
  rw [List.take_zero, List.nil_append] at hk
  have hkl : l.length = k := by rw [hk, List.length_replicate]
  refine ⟨?_, ?_⟩
  · intro x hx
    rcases List.mem_cons.1 hx with rfl | hx
    · decide
    · exact good_zeros _ x hx
  · rw [valN_cons, valN_zeros, List.length_replicate, hkl, hk, valN_nines]
    have : (digN 99 (((49 : UInt8).toNat : Nat) : Int)).toNat = 1 := by decide
    rw [this]; omega
end Go.Proofs.YtpmccbkhkaoccaaDoor

/- signed of the program. -/
namespace Go.Proofs.YtpmccbkhkaoccaaDoor
open Go.ChangeShapes Go.WideShapes Go.RowKit

set_option maxHeartbeats 2000000 in
set_option maxRecDepth 100000 in
theorem signed_nan (v : Value) (m e : Int) (w : World) :
    Calls Tryd.prog 20 #[.agg #[.int .i64 3, .bool false, .int .i64 m, .int .i64 e], v] w fun r w' => r = .returned (.string ⟨#[110, 97, 110]⟩) ∧ Below w.heap.size w w' := by
  go_enter Tryd.func20, Tryd.ntmps20
  go_wp2
  go_ret
  exact ⟨rfl, (Below.refl _ _).alloc (Nat.le_refl _) _⟩
set_option maxHeartbeats 2000000 in
set_option maxRecDepth 100000 in
theorem signed_inf (v : Value) (s : Bool) (m e : Int) (w : World) :
    Calls Tryd.prog 20 #[.agg #[.int .i64 2, .bool s, .int .i64 m, .int .i64 e], v] w fun r w' => r = .returned (.string (sgnB s ++ ⟨#[105, 110, 102]⟩)) ∧ Below w.heap.size w w' := by
  cases s
  · go_enter Tryd.func20, Tryd.ntmps20
    go_wp2
    go_ret
    exact ⟨rfl, (Below.refl _ _).alloc (Nat.le_refl _) _⟩
  · go_enter Tryd.func20, Tryd.ntmps20
    go_wp2
    go_ret
    exact ⟨rfl, (Below.refl _ _).alloc (Nat.le_refl _) _⟩
theorem meth_plain (v : Value) (w : World) : (Go.method 251 44 v "loop.example/grain/impl.write").run Tryd.prog w = .ok (96, v) w := by kernel_rfl
set_option maxHeartbeats 2000000 in
set_option maxRecDepth 100000 in
theorem signed_plain (v : Value) (k : Int) (hk : k = 0 ∨ k = 1) (s : Bool) (m e : Int) (T : ByteArray) (hT : T.size ≤ 100000) (w : World) (h : ∀ W, Below w.heap.size w W → Calls Tryd.prog 96 #[v] W fun r w' => r = .returned (.string T) ∧ Below W.heap.size W w') :
    Calls Tryd.prog 20 #[.agg #[.int .i64 k, .bool s, .int .i64 m, .int .i64 e], .iface 44 v] w fun r w' => r = .returned (.string (sgnB s ++ T)) ∧ Below w.heap.size w w' := by
  have hm := fun w => meth_plain v w
  have hk3 : (k == 3) = false := beq_eq_false_iff_ne.2 (by omega)
  have hk2 : (k == 2) = false := beq_eq_false_iff_ne.2 (by omega)
  have hk3' : ¬ k = 3 := by omega
  have hk2' : ¬ k = 2 := by omega
  have HS : Hid (w.heap.size < (w.alloc (.cells #[.int .i64 k, .bool s, .int .i64 m, .int .i64 e] 36)).heap.size ∧ Below w.heap.size w (w.alloc (.cells #[.int .i64 k, .bool s, .int .i64 m, .int .i64 e] 36))) := ⟨by simp, (Below.refl _ _).alloc (Nat.le_refl _) _⟩
  have HC : Hid ((w.alloc (.cells #[.int .i64 k, .bool s, .int .i64 m, .int .i64 e] 36)).cell? ⟨w.heap.size, 1, none⟩ = some (.bool s)) := by
    show _ = _
    simp [go_sem]
  have HW : Hid _ := h (w.alloc (.cells #[.int .i64 k, .bool s, .int .i64 m, .int .i64 e] 36)) HS.out.2
  clear h hk
  go_enter Tryd.func20, Tryd.ntmps20
  go_wp2_with fail
  refine Calls.mono HW.out ?_
  rintro r W1 ⟨rfl, hb⟩
  have hc1 : W1.cell? ⟨w.heap.size, 1, none⟩ = some (.bool s) := (hb.cell (p := ⟨w.heap.size, 1, none⟩) HS.out.1).trans HC.out
  have HB : Hid (Below w.heap.size w W1) := HS.out.2.trans (hb.mono (Nat.le_of_lt HS.out.1))
  clear hb hm
  cases s
  · have E0 : Hid (sgnB false ++ T = T) := bytes_ext _ _ (by rw [append_list]; rfl)
    go_wp2
    go_ret
    exact ⟨by rw [E0.out]; rfl, HB.out⟩
  · go_wp2
    go_ret
    exact ⟨rfl, HB.out⟩
theorem meth_power (v : Value) (w : World) : (Go.method 251 50 v "loop.example/grain/impl.write").run Tryd.prog w = .ok (103, v) w := by kernel_rfl
set_option maxHeartbeats 2000000 in
set_option maxRecDepth 100000 in
theorem signed_power (v : Value) (k : Int) (hk : k = 0 ∨ k = 1) (s : Bool) (m e : Int) (T : ByteArray) (hT : T.size ≤ 100000) (w : World) (h : ∀ W, Below w.heap.size w W → Calls Tryd.prog 103 #[v] W fun r w' => r = .returned (.string T) ∧ Below W.heap.size W w') :
    Calls Tryd.prog 20 #[.agg #[.int .i64 k, .bool s, .int .i64 m, .int .i64 e], .iface 50 v] w fun r w' => r = .returned (.string (sgnB s ++ T)) ∧ Below w.heap.size w w' := by
  have hm := fun w => meth_power v w
  have hk3 : (k == 3) = false := beq_eq_false_iff_ne.2 (by omega)
  have hk2 : (k == 2) = false := beq_eq_false_iff_ne.2 (by omega)
  have hk3' : ¬ k = 3 := by omega
  have hk2' : ¬ k = 2 := by omega
  have HS : Hid (w.heap.size < (w.alloc (.cells #[.int .i64 k, .bool s, .int .i64 m, .int .i64 e] 36)).heap.size ∧ Below w.heap.size w (w.alloc (.cells #[.int .i64 k, .bool s, .int .i64 m, .int .i64 e] 36))) := ⟨by simp, (Below.refl _ _).alloc (Nat.le_refl _) _⟩
  have HC : Hid ((w.alloc (.cells #[.int .i64 k, .bool s, .int .i64 m, .int .i64 e] 36)).cell? ⟨w.heap.size, 1, none⟩ = some (.bool s)) := by
    show _ = _
    simp [go_sem]
  have HW : Hid _ := h (w.alloc (.cells #[.int .i64 k, .bool s, .int .i64 m, .int .i64 e] 36)) HS.out.2
  clear h hk
  go_enter Tryd.func20, Tryd.ntmps20
  go_wp2_with fail
  refine Calls.mono HW.out ?_
  rintro r W1 ⟨rfl, hb⟩
  have hc1 : W1.cell? ⟨w.heap.size, 1, none⟩ = some (.bool s) := (hb.cell (p := ⟨w.heap.size, 1, none⟩) HS.out.1).trans HC.out
  have HB : Hid (Below w.heap.size w W1) := HS.out.2.trans (hb.mono (Nat.le_of_lt HS.out.1))
  clear hb hm
  cases s
  · have E0 : Hid (sgnB false ++ T = T) := bytes_ext _ _ (by rw [append_list]; rfl)
    go_wp2
    go_ret
    exact ⟨by rw [E0.out]; rfl, HB.out⟩
  · go_wp2
    go_ret
    exact ⟨rfl, HB.out⟩
theorem meth_hex (v : Value) (w : World) : (Go.method 251 53 v "loop.example/grain/impl.write").run Tryd.prog w = .ok (107, v) w := by kernel_rfl
set_option maxHeartbeats 2000000 in
set_option maxRecDepth 100000 in
theorem signed_hex (v : Value) (k : Int) (hk : k = 0 ∨ k = 1) (s : Bool) (m e : Int) (T : ByteArray) (hT : T.size ≤ 100000) (w : World) (h : ∀ W, Below w.heap.size w W → Calls Tryd.prog 107 #[v] W fun r w' => r = .returned (.string T) ∧ Below W.heap.size W w') :
    Calls Tryd.prog 20 #[.agg #[.int .i64 k, .bool s, .int .i64 m, .int .i64 e], .iface 53 v] w fun r w' => r = .returned (.string (sgnB s ++ T)) ∧ Below w.heap.size w w' := by
  have hm := fun w => meth_hex v w
  have hk3 : (k == 3) = false := beq_eq_false_iff_ne.2 (by omega)
  have hk2 : (k == 2) = false := beq_eq_false_iff_ne.2 (by omega)
  have hk3' : ¬ k = 3 := by omega
  have hk2' : ¬ k = 2 := by omega
  have HS : Hid (w.heap.size < (w.alloc (.cells #[.int .i64 k, .bool s, .int .i64 m, .int .i64 e] 36)).heap.size ∧ Below w.heap.size w (w.alloc (.cells #[.int .i64 k, .bool s, .int .i64 m, .int .i64 e] 36))) := ⟨by simp, (Below.refl _ _).alloc (Nat.le_refl _) _⟩
  have HC : Hid ((w.alloc (.cells #[.int .i64 k, .bool s, .int .i64 m, .int .i64 e] 36)).cell? ⟨w.heap.size, 1, none⟩ = some (.bool s)) := by
    show _ = _
    simp [go_sem]
  have HW : Hid _ := h (w.alloc (.cells #[.int .i64 k, .bool s, .int .i64 m, .int .i64 e] 36)) HS.out.2
  clear h hk
  go_enter Tryd.func20, Tryd.ntmps20
  go_wp2_with fail
  refine Calls.mono HW.out ?_
  rintro r W1 ⟨rfl, hb⟩
  have hc1 : W1.cell? ⟨w.heap.size, 1, none⟩ = some (.bool s) := (hb.cell (p := ⟨w.heap.size, 1, none⟩) HS.out.1).trans HC.out
  have HB : Hid (Below w.heap.size w W1) := HS.out.2.trans (hb.mono (Nat.le_of_lt HS.out.1))
  clear hb hm
  cases s
  · have E0 : Hid (sgnB false ++ T = T) := bytes_ext _ _ (by rw [append_list]; rfl)
    go_wp2
    go_ret
    exact ⟨by rw [E0.out]; rfl, HB.out⟩
  · go_wp2
    go_ret
    exact ⟨rfl, HB.out⟩
end Go.Proofs.YtpmccbkhkaoccaaDoor

/- A range over a function all of whose rounds go on. -/
namespace Go.Proofs.YtpmccbkhkaoccaaDoor
open Go.RowKit Go.Shelf

/-- All rows of cells stand, but those of one type from a place on; and all blocks below another place. -/
def Chg (T : TypeId) (B N : Nat) (W W' : World) : Prop := W'.os = W.os ∧ W'.tape = W.tape ∧ W'.output = W.output ∧ W.heap.size ≤ W'.heap.size
  ∧ ∀ k o, W.heap[k]? = some o → (k < B ∨ ∃ c t fz, o = .cells c t fz ∧ (t ≠ T ∨ k < N)) → W'.heap[k]? = some o
/-- All blocks stand, but the rows of one type from a place on: what an iterator does for itself. -/
def Own1 (T : TypeId) (N : Nat) (W W' : World) : Prop := W'.os = W.os ∧ W'.tape = W.tape ∧ W'.output = W.output ∧ W.heap.size ≤ W'.heap.size
  ∧ ∀ k o, W.heap[k]? = some o → (k < N ∨ ∀ c fz, o ≠ .cells c T fz) → W'.heap[k]? = some o
/-- What a round keeps for the iterator: all rows of cells but one block and the rows of bytes; all below that block. -/
def Rnd (b : Nat) (W W' : World) : Prop := W.heap.size ≤ W'.heap.size ∧ (∀ k c t fz, W.heap[k]? = some (.cells c t fz) → k ≠ b → t ≠ 5 → W'.heap[k]? = some (.cells c t fz)) ∧ ∀ k, k < b → W'.heap[k]? = W.heap[k]?
theorem Own1.chg {T : TypeId} {B N : Nat} {W W' : World} (h : Own1 T N W W') (hB : B ≤ N) : Chg T B N W W' :=
  ⟨h.1, h.2.1, h.2.2.1, h.2.2.2.1, fun k o hk hc => h.2.2.2.2 k o hk (by
    rcases hc with hc | ⟨c, t, fz, rfl, ht | hk⟩
    · exact .inl (by omega)
    · exact .inr fun c' fz' e => by cases e; exact ht rfl
    · exact .inl hk)⟩
theorem Own1.below {T : TypeId} {N : Nat} {W W' : World} (h : Below W.heap.size W W') : Own1 T N W W' :=
  ⟨h.os, h.tape, h.output, h.size, fun k o hk _ => by rw [h.block k (Array.getElem?_eq_some_iff.1 hk).1]; exact hk⟩
theorem Own1.trans {T : TypeId} {N : Nat} {A B C : World} (h : Own1 T N A B) (k : Own1 T N B C) : Own1 T N A C :=
  ⟨k.1.trans h.1, k.2.1.trans h.2.1, k.2.2.1.trans h.2.2.1, Nat.le_trans h.2.2.2.1 k.2.2.2.1, fun i o hi hc => k.2.2.2.2 i o (h.2.2.2.2 i o hi hc) hc⟩
theorem Rnd.trans {b : Nat} {A B C : World} (h : Rnd b A B) (k : Rnd b B C) : Rnd b A C :=
  ⟨Nat.le_trans h.1 k.1, fun i c t fz hi hb ht => k.2.1 i c t fz (h.2.1 i c t fz hi hb ht) hb ht, fun i hi => (k.2.2 i hi).trans (h.2.2 i hi)⟩
theorem Rnd.put (b : Nat) (W : World) (l : Nat) (o o' : Obj) (hl : W.heap[l]? = some o) (ho : o.isCells = false) (hb : b ≤ l) : Rnd b W (W.putObj l o') :=
  ⟨by simp, (fun k c t fz hk _ _ => by
    rw [World.putObj_heap_other]
    · exact hk
    · intro e
      subst e
      rw [hl] at hk
      cases hk
      cases ho), fun k hk => World.putObj_heap_other (by omega)⟩
theorem Chg.put {T : TypeId} {B N : Nat} (W : World) (l : Nat) (o o' : Obj) (hl : W.heap[l]? = some o) (ho : o.isCells = false) (hB : B ≤ l) : Chg T B N W (W.putObj l o') :=
  ⟨rfl, rfl, rfl, by simp, fun k o₂ hk hc => by
    rw [World.putObj_heap_other]
    · exact hk
    · intro e
      subst e
      rcases hc with hc | ⟨c, t, fz, rfl, _⟩
      · omega
      · rw [hl] at hk
        cases hk
        cases ho⟩
theorem Chg.alloc {T : TypeId} {B N : Nat} (W : World) (o : Obj) : Chg T B N W (W.alloc o) :=
  ⟨rfl, rfl, rfl, by simp, fun k o₂ hk _ => (Below.heap_alloc _ _ _ (Array.getElem?_eq_some_iff.1 hk).1).trans hk⟩

/-- What an iterator's value owes: it goes n rounds, hands them enc 0, enc 1 .., and ends. -/
def Gives (T : TypeId) (b : Nat) (gf : Nat) (lb : Array Value) (enc : Nat → Array Value) (n : Nat) (w : World) : Prop :=
  ∀ (l : Nat) (J : Nat → World → Prop) (W : World), Below w.heap.size w W → (∀ i A A', J i A → Own1 T W.heap.size A A' → J i A') →
    (∀ (i : Nat) (_ : i < n) (W1 : World), J i W1 → YieldAt Fence.wide 0 Tryd.prog l (enc i) W1 fun e W' => e = .returned (.bool true) ∧ J (i + 1) W' ∧ Rnd b W1 W') →
    J 0 W → CallsIn Fence.wide 0 Tryd.prog gf (#[.func (.yield l) #[] #[]] ++ lb) W fun e W' => (∃ v, e = .returned v) ∧ J n W'
/-- How a round's body ends. -/
def bodyEnd (B b : Nat) (I : World → Prop) (W : World) : Exit → Act → World → Prop
  | .normal, _, W' => KeepsFrom B W W' ∧ Rnd b W W' ∧ I W'
  | _, _, _ => False

theorem range_all {g : Operand} {ps : Array Tmp} {assign body : Go.Code} {Q : Exit → Act → World → Prop} {a : Act} {w : World} {T : TypeId} {b : Nat}
    {gf : Nat} {lb : Array Value} (hg : a.eval g = .func (.func gf) #[] lb) (eg : ∀ args w, (callFunc gf args).run Tryd.prog w = .ok (.enter gf args) w)
    {enc : Nat → Array Value} {n : Nat} (hseq : Gives T b gf lb enc n w) (hps : ∀ i, (enc i).size = ps.size) (hbw : b ≤ w.heap.size)
    (I : Nat → World → Prop) (hI : ∀ i A A', I i A → Chg T w.heap.size (w.heap.size + 2) A A' → I i A') (h0 : I 0 w) (a₁ : Nat → Act)
    (hassign : ∀ (l i : Nat) (W : World) (K : Act → World → Prop), K (a₁ i) W →
      assign.wpIn (Fence.wide.inRound l) 0 Tryd.prog (Exit.then K (fun _ _ _ => False)) { tmps := (ps.zip (enc i)).foldl (fun t (p, v) => t.setIfInBounds p v) a.tmps, defers := [] } W)
    (hbody : ∀ (l i : Nat) (_ : i < n) (W : World), I i W → w.heap.size < W.heap.size → body.wpIn (Fence.wide.inRound l) 0 Tryd.prog (bodyEnd w.heap.size b (I (i + 1)) W) (a₁ i) W)
    (hdone : ∀ (W : World), I n W → w.heap.size < W.heap.size → W.heap[w.heap.size]? = some (.deferred (some [])) → Q .normal { a with defers := { target := .collected w.heap.size, args := #[] } :: a.defers } W) :
    (Code.rangeFunc g ps assign body).wpIn Fence.wide 0 Tryd.prog Q a w := by
  refine wpIn_rangeFunc ?_
  intro fn hfn
  show ∃ l mark w₁ d w₁' f args w₂, (Instr.enterLoop fn a.tmps ps assign body none).run Tryd.prog w = _ ∧ _
  obtain ⟨rec, hrec⟩ : ∃ rec : LoopState → Loop, rec = fun st => { state := st, pending := none, fn, tmps := a.tmps, params := ps, assign, body, defers := w.heap.size } := ⟨_, rfl⟩
  obtain ⟨W1, hW1⟩ : ∃ W1, (w.alloc (.deferred (some []))).alloc (.loop (rec .ready)) = W1 := ⟨_, rfl⟩
  have hsz : W1.heap.size = w.heap.size + 2 := by rw [← hW1]; simp
  have hL1 : W1.heap[w.heap.size + 1]? = some (.loop (rec .ready)) := by
    rw [← hW1]
    have := World.alloc_heap_new (w.alloc (.deferred (some []))) (.loop (rec .ready))
    rwa [World.size_alloc] at this
  have hK1 : W1.heap[w.heap.size]? = some (.deferred (some [])) := by
    rw [← hW1]
    exact (Below.heap_alloc _ _ _ (by simp)).trans (World.alloc_heap_new w _)
  have hI1 : I 0 W1 := by
    rw [← hW1]
    exact hI 0 _ _ (hI 0 _ _ h0 (Chg.alloc _ _)) (Chg.alloc _ _)
  have hb1 : Below w.heap.size w W1 := by
    rw [← hW1]
    exact ((Below.refl _ w).alloc (Nat.le_refl _) _).alloc (by simp) _
  refine ⟨w.heap.size + 1, [{ target := .collected w.heap.size, args := #[] }], W1, { target := .fn (.func gf) lb, args := #[.func (.yield (w.heap.size + 1)) #[] #[]] }, W1, gf,
    #[.func (.yield (w.heap.size + 1)) #[] #[]] ++ lb, W1, ?_, ?_, ?_, ?_, (fun h => by cases h), ?_⟩
  · rw [← hW1, hrec]
    exact run_enterLoop_outer _ _ _ _ _
  · simp only [resolve, hg]
    simp [go_sem]
  · intro f' _
    trivial
  · simp [invoke, go_sem, eg]
  · refine (hseq (w.heap.size + 1) (fun i W => I i W ∧ w.heap.size + 1 < W.heap.size ∧ W.heap[w.heap.size + 1]? = some (.loop (rec .ready)) ∧ W.heap[w.heap.size]? = some (.deferred (some []))) W1 hb1 ?_ ?_ ⟨hI1, by omega, hL1, hK1⟩).mono ?_
    · rintro i A A' ⟨h1, h2, h3, h4⟩ hk
      rw [hsz] at hk
      exact ⟨hI i A A' h1 (hk.chg (by omega)), Nat.lt_of_lt_of_le h2 hk.2.2.2.1, hk.2.2.2.2 _ _ h3 (.inl (by omega)), hk.2.2.2.2 _ _ h4 (.inl (by omega))⟩
    · rintro i hi W ⟨h1, h2, h3, h4⟩
      have hy := run_yield (P := Tryd.prog) (args := enc i) h3 (by rw [hrec]; exact hps _)
      rw [hrec] at hy
      refine ⟨fn, _, assign, body, hy, roundIn_of_wpIn hfn (hassign _ i W _ ⟨_, run_beginRound h3 (by rw [hrec]), ?_⟩)⟩
      obtain ⟨Wb, hWb⟩ : ∃ Wb, W.putObj (w.heap.size + 1) (.loop { rec .ready with state := .busy }) = Wb := ⟨_, rfl⟩
      rw [hWb]
      have hl2 : Wb.heap[w.heap.size + 1]? = some (.loop { rec .ready with state := .busy }) := by rw [← hWb]; exact World.putObj_heap_same h2
      have hk2 : Wb.heap[w.heap.size]? = some (.deferred (some [])) := by rw [← hWb]; exact (World.putObj_heap_other (by omega)).trans h4
      have hr2 : Rnd b W Wb := by rw [← hWb]; exact Rnd.put b W _ _ _ h3 rfl (by omega)
      have hi2 : I i Wb := by rw [← hWb]; exact hI i _ _ h1 (Chg.put W _ _ _ h3 rfl (by omega))
      have hs2 : w.heap.size < Wb.heap.size := by rw [← hWb]; simp; omega
      refine wpIn_mono (hbody _ i hi Wb hi2 hs2) ?_
      rintro e a3 W3 hp
      cases e with
      | normal =>
        obtain ⟨hk3, hr3, hi3⟩ := hp
        have hl3 := hk3.same _ _ (by omega) hl2 rfl
        have hd3 := hk3.same _ _ (Nat.le_refl _) hk2 rfl
        have hlt3 : w.heap.size + 1 < W3.heap.size := (Array.getElem?_eq_some_iff.1 hl3).1
        have hrun := run_endRound (P := Tryd.prog) none hl3
        refine ⟨_, _, hrun, rfl, ⟨hI _ _ _ hi3 (Chg.put W3 _ _ _ hl3 rfl (by omega)), ?_, ?_, ?_⟩, (hr2.trans hr3).trans (Rnd.put b W3 _ _ _ hl3 rfl (by omega))⟩
        · simp; omega
        · rw [World.putObj_heap_same hlt3, hrec]
          rfl
        · exact (World.putObj_heap_other (by omega)).trans hd3
      | ret => exact hp.elim
      | exit id => exact hp.elim
      | goto t => exact hp.elim
      | panic ch => exact hp.elim
      | outgrown => exact hp.elim
    · rintro e W2 ⟨⟨v, rfl⟩, h1, h2, h3, h4⟩
      have hrun := run_endLoop (P := Tryd.prog) h3 (by rw [hrec]; simp)
      have hpe : (rec .ready).pending = none := by rw [hrec]
      rw [hpe] at hrun
      exact ⟨none, _, hrun, hdone _ (hI _ _ _ h1 (Chg.put W2 _ _ _ h3 rfl (by omega))) (by simp; omega) ((World.putObj_heap_other (by omega)).trans h4)⟩
/-- Of a statement that only goes on. -/
def normalOnly (Q : Exit → Act → World → Prop) : Exit → Act → World → Prop
  | .normal, a, w => Q .normal a w
  | _, _, _ => False
theorem wpIn_normal {F : Fence} {n : Nat} {P : Program} {c : Go.Code} {Q : Exit → Act → World → Prop} {a : Act} {w : World} (h : c.wpIn F n P (normalOnly Q) a w) : c.wpIn F n P Q a w :=
  wpIn_mono h (fun e a w h => by
    cases e
    · exact h
    all_goals exact h.elim)
end Go.Proofs.YtpmccbkhkaoccaaDoor

