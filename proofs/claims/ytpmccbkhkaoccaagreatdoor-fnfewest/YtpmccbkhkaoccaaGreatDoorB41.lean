import Derived.Test.YtpmccbkhkaoccaaGreatDoorB08
import Derived.Test.YtpmccbkhkaoccaaGreatDoorB03
import Derived.Test.YtpmccbkhkaoccaaGreatDoorB15
import Derived.Test.YtpmccbkhkaoccaaGreatDoorB24
import Derived.Test.YtpmccbkhkaoccaaGreatDoorB17
import Derived.Test.YtpmccbkhkaoccaaGreatDoorRows
import Derived.RangeFuncNested
import Derived.RangeFuncBound
import Derived.RangeFuncCalls
import Derived.RangeFuncLeaves
import Derived.RangeFuncBox
import Derived.Shelf.Abstract
import Derived.Shelf.RegionOpen
import Derived.WalkKit
import Derived.OwnWalkIn
import Derived.TacticsInMore
import Derived.LoopNIn
import Derived.LoopIn
import Derived.Lib.OthersKept
import Derived.Shelf.Strings.BuilderK
import Derived.BigCall
/- A box of a float's parts in later worlds. -/
namespace Go.Proofs.YtpmccbkhkaoccaaGreatDoor
open Go.RowKit

/-- Worlds behind w in which the box of a float's parts still lies. -/
def Box4 (w : World) (H : Nat) (k : Int) (s : Bool) (m e : Int) (W : World) : Prop := Below w.heap.size w W ∧ W.cell? ⟨H, 0, none⟩ = some (.int .i64 k) ∧ W.cell? ⟨H, 1, none⟩ = some (.bool s) ∧ W.cell? ⟨H, 2, none⟩ = some (.int .i64 m) ∧ W.cell? ⟨H, 3, none⟩ = some (.int .i64 e)
theorem Box4.drew {w W : World} {H : Nat} {k : Int} {s : Bool} {m e : Int} (h : Box4 w H k s m e W) : Box4 w H k s m e W.drew := ⟨h.1.drew, h.2⟩
theorem lt_cell {w : World} {p : Addr} {v : Value} (h : w.cell? p = some v) : p.block < w.heap.size := by
  by_cases hp : p.block < w.heap.size
  · exact hp
  · have e : w.heap[p.block]? = Option.none := Array.getElem?_eq_none (by omega)
    simp [World.cell?, e] at h
theorem Box4.next {w W W' : World} {H : Nat} {k : Int} {s : Bool} {m e : Int} (h : Box4 w H k s m e W) (hb : Below W.heap.size W W') : Box4 w H k s m e W' := by
  obtain ⟨h1, h2, h3, h4, h5⟩ := h
  exact ⟨h1.trans (hb.mono h1.size), (hb.cell (lt_cell h2)).trans h2, (hb.cell (lt_cell h3)).trans h3, (hb.cell (lt_cell h4)).trans h4, (hb.cell (lt_cell h5)).trans h5⟩
theorem Box4.new {w W1 : World} {k : Int} {s : Bool} {m e : Int} (hb : Below w.heap.size w W1) : Box4 w W1.heap.size k s m e (W1.alloc (.cells #[.int .i64 k, .bool s, .int .i64 m, .int .i64 e] 32)) :=
  ⟨hb.alloc hb.size _, by simp [go_sem], by simp [go_sem], by simp [go_sem], by simp [go_sem]⟩
end Go.Proofs.YtpmccbkhkaoccaaGreatDoor

/- signed of the program. -/
namespace Go.Proofs.YtpmccbkhkaoccaaGreatDoor
open Go.ChangeShapes Go.WideShapes Go.RowKit

set_option maxHeartbeats 2000000 in
set_option maxRecDepth 100000 in
theorem signed_nan (v : Value) (m e : Int) (w : World) :
    Calls Tryz.prog 34 #[.agg #[.int .i64 3, .bool false, .int .i64 m, .int .i64 e], v] w fun r w' => r = .returned (.string ⟨#[110, 97, 110]⟩) ∧ Below w.heap.size w w' := by
  go_enter Tryz.func34, Tryz.ntmps34
  go_wp2
  go_ret
  exact ⟨rfl, (Below.refl _ _).alloc (Nat.le_refl _) _⟩
set_option maxHeartbeats 2000000 in
set_option maxRecDepth 100000 in
theorem signed_inf (v : Value) (s : Bool) (m e : Int) (w : World) :
    Calls Tryz.prog 34 #[.agg #[.int .i64 2, .bool s, .int .i64 m, .int .i64 e], v] w fun r w' => r = .returned (.string (sgnB s ++ ⟨#[105, 110, 102]⟩)) ∧ Below w.heap.size w w' := by
  cases s
  · go_enter Tryz.func34, Tryz.ntmps34
    go_wp2
    go_ret
    exact ⟨rfl, (Below.refl _ _).alloc (Nat.le_refl _) _⟩
  · go_enter Tryz.func34, Tryz.ntmps34
    go_wp2
    go_ret
    exact ⟨rfl, (Below.refl _ _).alloc (Nat.le_refl _) _⟩
theorem meth_plain (v : Value) (w : World) : (Go.method 358 62 v "loop.example/grain/impl.write").run Tryz.prog w = .ok (167, v) w := by kernel_rfl
set_option maxHeartbeats 2000000 in
set_option maxRecDepth 100000 in
theorem signed_plain (v : Value) (k : Int) (hk : k = 0 ∨ k = 1) (s : Bool) (m e : Int) (T : ByteArray) (hT : T.size ≤ 100000) (w : World) (h : ∀ W, Below w.heap.size w W → Calls Tryz.prog 167 #[v] W fun r w' => r = .returned (.string T) ∧ Below W.heap.size W w') :
    Calls Tryz.prog 34 #[.agg #[.int .i64 k, .bool s, .int .i64 m, .int .i64 e], .iface 62 v] w fun r w' => r = .returned (.string (sgnB s ++ T)) ∧ Below w.heap.size w w' := by
  have hm := fun w => meth_plain v w
  have hk3 : (k == 3) = false := beq_eq_false_iff_ne.2 (by omega)
  have hk2 : (k == 2) = false := beq_eq_false_iff_ne.2 (by omega)
  have hk3' : ¬ k = 3 := by omega
  have hk2' : ¬ k = 2 := by omega
  have HS : Hid (w.heap.size < (w.alloc (.cells #[.int .i64 k, .bool s, .int .i64 m, .int .i64 e] 32)).heap.size ∧ Below w.heap.size w (w.alloc (.cells #[.int .i64 k, .bool s, .int .i64 m, .int .i64 e] 32))) := ⟨by simp, (Below.refl _ _).alloc (Nat.le_refl _) _⟩
  have HC : Hid ((w.alloc (.cells #[.int .i64 k, .bool s, .int .i64 m, .int .i64 e] 32)).cell? ⟨w.heap.size, 1, none⟩ = some (.bool s)) := by
    show _ = _
    simp [go_sem]
  have HW : Hid _ := h (w.alloc (.cells #[.int .i64 k, .bool s, .int .i64 m, .int .i64 e] 32)) HS.out.2
  clear h hk
  go_enter Tryz.func34, Tryz.ntmps34
  go_wp2_with fail
  refine Calls.mono HW.out ?_
  rintro r W1 ⟨rfl, hb⟩
  have hc1 : W1.cell? ⟨w.heap.size, 1, none⟩ = some (.bool s) := (hb.cell (p := ⟨w.heap.size, 1, none⟩) HS.out.1).trans HC.out
  have HB : Hid (Below w.heap.size w W1) := HS.out.2.trans (hb.mono (Nat.le_of_lt HS.out.1))
  clear hb hm
  cases s
  · have E0 : Hid (sgnB false ++ T = T) := bytes_ext _ _ (by rw [append_list]; rfl)
    go_wp2
    go_ret
    exact ⟨by rw [E0.out]; rfl, HB.out⟩
  · go_wp2
    go_ret
    exact ⟨rfl, HB.out⟩
theorem meth_power (v : Value) (w : World) : (Go.method 358 90 v "loop.example/grain/impl.write").run Tryz.prog w = .ok (178, v) w := by kernel_rfl
set_option maxHeartbeats 2000000 in
set_option maxRecDepth 100000 in
theorem signed_power (v : Value) (k : Int) (hk : k = 0 ∨ k = 1) (s : Bool) (m e : Int) (T : ByteArray) (hT : T.size ≤ 100000) (w : World) (h : ∀ W, Below w.heap.size w W → Calls Tryz.prog 178 #[v] W fun r w' => r = .returned (.string T) ∧ Below W.heap.size W w') :
    Calls Tryz.prog 34 #[.agg #[.int .i64 k, .bool s, .int .i64 m, .int .i64 e], .iface 90 v] w fun r w' => r = .returned (.string (sgnB s ++ T)) ∧ Below w.heap.size w w' := by
  have hm := fun w => meth_power v w
  have hk3 : (k == 3) = false := beq_eq_false_iff_ne.2 (by omega)
  have hk2 : (k == 2) = false := beq_eq_false_iff_ne.2 (by omega)
  have hk3' : ¬ k = 3 := by omega
  have hk2' : ¬ k = 2 := by omega
  have HS : Hid (w.heap.size < (w.alloc (.cells #[.int .i64 k, .bool s, .int .i64 m, .int .i64 e] 32)).heap.size ∧ Below w.heap.size w (w.alloc (.cells #[.int .i64 k, .bool s, .int .i64 m, .int .i64 e] 32))) := ⟨by simp, (Below.refl _ _).alloc (Nat.le_refl _) _⟩
  have HC : Hid ((w.alloc (.cells #[.int .i64 k, .bool s, .int .i64 m, .int .i64 e] 32)).cell? ⟨w.heap.size, 1, none⟩ = some (.bool s)) := by
    show _ = _
    simp [go_sem]
  have HW : Hid _ := h (w.alloc (.cells #[.int .i64 k, .bool s, .int .i64 m, .int .i64 e] 32)) HS.out.2
  clear h hk
  go_enter Tryz.func34, Tryz.ntmps34
  go_wp2_with fail
  refine Calls.mono HW.out ?_
  rintro r W1 ⟨rfl, hb⟩
  have hc1 : W1.cell? ⟨w.heap.size, 1, none⟩ = some (.bool s) := (hb.cell (p := ⟨w.heap.size, 1, none⟩) HS.out.1).trans HC.out
  have HB : Hid (Below w.heap.size w W1) := HS.out.2.trans (hb.mono (Nat.le_of_lt HS.out.1))
  clear hb hm
  cases s
  · have E0 : Hid (sgnB false ++ T = T) := bytes_ext _ _ (by rw [append_list]; rfl)
    go_wp2
    go_ret
    exact ⟨by rw [E0.out]; rfl, HB.out⟩
  · go_wp2
    go_ret
    exact ⟨rfl, HB.out⟩
theorem meth_hex (v : Value) (w : World) : (Go.method 358 64 v "loop.example/grain/impl.write").run Tryz.prog w = .ok (174, v) w := by kernel_rfl
set_option maxHeartbeats 2000000 in
set_option maxRecDepth 100000 in
theorem signed_hex (v : Value) (k : Int) (hk : k = 0 ∨ k = 1) (s : Bool) (m e : Int) (T : ByteArray) (hT : T.size ≤ 100000) (w : World) (h : ∀ W, Below w.heap.size w W → Calls Tryz.prog 174 #[v] W fun r w' => r = .returned (.string T) ∧ Below W.heap.size W w') :
    Calls Tryz.prog 34 #[.agg #[.int .i64 k, .bool s, .int .i64 m, .int .i64 e], .iface 64 v] w fun r w' => r = .returned (.string (sgnB s ++ T)) ∧ Below w.heap.size w w' := by
  have hm := fun w => meth_hex v w
  have hk3 : (k == 3) = false := beq_eq_false_iff_ne.2 (by omega)
  have hk2 : (k == 2) = false := beq_eq_false_iff_ne.2 (by omega)
  have hk3' : ¬ k = 3 := by omega
  have hk2' : ¬ k = 2 := by omega
  have HS : Hid (w.heap.size < (w.alloc (.cells #[.int .i64 k, .bool s, .int .i64 m, .int .i64 e] 32)).heap.size ∧ Below w.heap.size w (w.alloc (.cells #[.int .i64 k, .bool s, .int .i64 m, .int .i64 e] 32))) := ⟨by simp, (Below.refl _ _).alloc (Nat.le_refl _) _⟩
  have HC : Hid ((w.alloc (.cells #[.int .i64 k, .bool s, .int .i64 m, .int .i64 e] 32)).cell? ⟨w.heap.size, 1, none⟩ = some (.bool s)) := by
    show _ = _
    simp [go_sem]
  have HW : Hid _ := h (w.alloc (.cells #[.int .i64 k, .bool s, .int .i64 m, .int .i64 e] 32)) HS.out.2
  clear h hk
  go_enter Tryz.func34, Tryz.ntmps34
  go_wp2_with fail
  refine Calls.mono HW.out ?_
  rintro r W1 ⟨rfl, hb⟩
  have hc1 : W1.cell? ⟨w.heap.size, 1, none⟩ = some (.bool s) := (hb.cell (p := ⟨w.heap.size, 1, none⟩) HS.out.1).trans HC.out
  have HB : Hid (Below w.heap.size w W1) := HS.out.2.trans (hb.mono (Nat.le_of_lt HS.out.1))
  clear hb hm
  cases s
  · have E0 : Hid (sgnB false ++ T = T) := bytes_ext _ _ (by rw [append_list]; rfl)
    go_wp2
    go_ret
    exact ⟨by rw [E0.out]; rfl, HB.out⟩
  · go_wp2
    go_ret
    exact ⟨rfl, HB.out⟩
end Go.Proofs.YtpmccbkhkaoccaaGreatDoor

/- A range over a function all of whose rounds go on. -/
namespace Go.Proofs.YtpmccbkhkaoccaaGreatDoor
open Go.RowKit Go.Shelf

/-- All rows of cells stand, but those of one type from a place on; and all blocks below another place. -/
def Chg (T : TypeId) (B N : Nat) (W W' : World) : Prop := W'.os = W.os ∧ W'.tape = W.tape ∧ W'.output = W.output ∧ W.heap.size ≤ W'.heap.size
  ∧ ∀ k o, W.heap[k]? = some o → (k < B ∨ ∃ c t fz, o = .cells c t fz ∧ (t ≠ T ∨ k < N)) → W'.heap[k]? = some o
/-- All blocks stand, but the rows of one type from a place on: what an iterator does for itself. -/
def Own1 (T : TypeId) (N : Nat) (W W' : World) : Prop := W'.os = W.os ∧ W'.tape = W.tape ∧ W'.output = W.output ∧ W.heap.size ≤ W'.heap.size
  ∧ ∀ k o, W.heap[k]? = some o → (k < N ∨ ∀ c fz, o ≠ .cells c T fz) → W'.heap[k]? = some o
/-- What a round keeps for the iterator: all rows of cells but one block and the rows of bytes; all below that block. -/
def Rnd (b : Nat) (W W' : World) : Prop := W.heap.size ≤ W'.heap.size ∧ (∀ k c t fz, W.heap[k]? = some (.cells c t fz) → k ≠ b → t ≠ 5 → W'.heap[k]? = some (.cells c t fz)) ∧ ∀ k, k < b → W'.heap[k]? = W.heap[k]?
theorem Own1.chg {T : TypeId} {B N : Nat} {W W' : World} (h : Own1 T N W W') (hB : B ≤ N) : Chg T B N W W' :=
  ⟨h.1, h.2.1, h.2.2.1, h.2.2.2.1, fun k o hk hc => h.2.2.2.2 k o hk (by
    rcases hc with hc | ⟨c, t, fz, rfl, ht | hk⟩
    · exact .inl (by omega)
    · exact .inr fun c' fz' e => by cases e; exact ht rfl
    · exact .inl hk)⟩
theorem Own1.below {T : TypeId} {N : Nat} {W W' : World} (h : Below W.heap.size W W') : Own1 T N W W' :=
  ⟨h.os, h.tape, h.output, h.size, fun k o hk _ => by rw [h.block k (Array.getElem?_eq_some_iff.1 hk).1]; exact hk⟩
theorem Own1.trans {T : TypeId} {N : Nat} {A B C : World} (h : Own1 T N A B) (k : Own1 T N B C) : Own1 T N A C :=
  ⟨k.1.trans h.1, k.2.1.trans h.2.1, k.2.2.1.trans h.2.2.1, Nat.le_trans h.2.2.2.1 k.2.2.2.1, fun i o hi hc => k.2.2.2.2 i o (h.2.2.2.2 i o hi hc) hc⟩
theorem Rnd.trans {b : Nat} {A B C : World} (h : Rnd b A B) (k : Rnd b B C) : Rnd b A C :=
  ⟨Nat.le_trans h.1 k.1, fun i c t fz hi hb ht => k.2.1 i c t fz (h.2.1 i c t fz hi hb ht) hb ht, fun i hi => (k.2.2 i hi).trans (h.2.2 i hi)⟩
theorem Rnd.put (b : Nat) (W : World) (l : Nat) (o o' : Obj) (hl : W.heap[l]? = some o) (ho : o.isCells = false) (hb : b ≤ l) : Rnd b W (W.putObj l o') :=
  ⟨by simp, (fun k c t fz hk _ _ => by
    rw [World.putObj_heap_other]
    · exact hk
    · intro e
      subst e
      rw [hl] at hk
      cases hk
      cases ho), fun k hk => World.putObj_heap_other (by omega)⟩
theorem Chg.put {T : TypeId} {B N : Nat} (W : World) (l : Nat) (o o' : Obj) (hl : W.heap[l]? = some o) (ho : o.isCells = false) (hB : B ≤ l) : Chg T B N W (W.putObj l o') :=
  ⟨rfl, rfl, rfl, by simp, fun k o₂ hk hc => by
    rw [World.putObj_heap_other]
    · exact hk
    · intro e
      subst e
      rcases hc with hc | ⟨c, t, fz, rfl, _⟩
      · omega
      · rw [hl] at hk
        cases hk
        cases ho⟩
theorem Chg.alloc {T : TypeId} {B N : Nat} (W : World) (o : Obj) : Chg T B N W (W.alloc o) :=
  ⟨rfl, rfl, rfl, by simp, fun k o₂ hk _ => (Below.heap_alloc _ _ _ (Array.getElem?_eq_some_iff.1 hk).1).trans hk⟩

/-- What an iterator's value owes: it goes n rounds, hands them enc 0, enc 1 .., and ends. -/
def Gives (T : TypeId) (b : Nat) (gf : Nat) (lb : Array Value) (enc : Nat → Array Value) (n : Nat) (w : World) : Prop :=
  ∀ (l : Nat) (J : Nat → World → Prop) (W : World), Below w.heap.size w W → (∀ i A A', J i A → Own1 T W.heap.size A A' → J i A') →
    (∀ (i : Nat) (_ : i < n) (W1 : World), J i W1 → YieldAt Fence.wide 0 Tryz.prog l (enc i) W1 fun e W' => e = .returned (.bool true) ∧ J (i + 1) W' ∧ Rnd b W1 W') →
    J 0 W → CallsIn Fence.wide 0 Tryz.prog gf (#[.func (.yield l) #[] #[]] ++ lb) W fun e W' => (∃ v, e = .returned v) ∧ J n W'
/-- How a round's body ends. -/
def bodyEnd (B b : Nat) (I : World → Prop) (W : World) : Exit → Act → World → Prop
  | .normal, _, W' => KeepsFrom B W W' ∧ Rnd b W W' ∧ I W'
  | _, _, _ => False

theorem range_all {g : Operand} {ps : Array Tmp} {assign body : Go.Code} {Q : Exit → Act → World → Prop} {a : Act} {w : World} {T : TypeId} {b : Nat}
    {gf : Nat} {lb : Array Value} (hg : a.eval g = .func (.func gf) #[] lb) (eg : ∀ args w, (callFunc gf args).run Tryz.prog w = .ok (.enter gf args) w)
    {enc : Nat → Array Value} {n : Nat} (hseq : Gives T b gf lb enc n w) (hps : ∀ i, (enc i).size = ps.size) (hbw : b ≤ w.heap.size)
    (I : Nat → World → Prop) (hI : ∀ i A A', I i A → Chg T w.heap.size (w.heap.size + 2) A A' → I i A') (h0 : I 0 w) (a₁ : Nat → Act)
    (hassign : ∀ (l i : Nat) (W : World) (K : Act → World → Prop), K (a₁ i) W →
      assign.wpIn (Fence.wide.inRound l) 0 Tryz.prog (Exit.then K (fun _ _ _ => False)) { tmps := (ps.zip (enc i)).foldl (fun t (p, v) => t.setIfInBounds p v) a.tmps, defers := [] } W)
    (hbody : ∀ (l i : Nat) (_ : i < n) (W : World), I i W → w.heap.size < W.heap.size → body.wpIn (Fence.wide.inRound l) 0 Tryz.prog (bodyEnd w.heap.size b (I (i + 1)) W) (a₁ i) W)
    (hdone : ∀ (W : World), I n W → w.heap.size < W.heap.size → W.heap[w.heap.size]? = some (.deferred (some [])) → Q .normal { a with defers := { target := .collected w.heap.size, args := #[] } :: a.defers } W) :
    (Code.rangeFunc g ps assign body).wpIn Fence.wide 0 Tryz.prog Q a w := by
  refine wpIn_rangeFunc ?_
  intro fn hfn
  show ∃ l mark w₁ d w₁' f args w₂, (Instr.enterLoop fn a.tmps ps assign body none).run Tryz.prog w = _ ∧ _
  obtain ⟨rec, hrec⟩ : ∃ rec : LoopState → Loop, rec = fun st => { state := st, pending := none, fn, tmps := a.tmps, params := ps, assign, body, defers := w.heap.size } := ⟨_, rfl⟩
  obtain ⟨W1, hW1⟩ : ∃ W1, (w.alloc (.deferred (some []))).alloc (.loop (rec .ready)) = W1 := ⟨_, rfl⟩
  have hsz : W1.heap.size = w.heap.size + 2 := by rw [← hW1]; simp
  have hL1 : W1.heap[w.heap.size + 1]? = some (.loop (rec .ready)) := by
    rw [← hW1]
    have := World.alloc_heap_new (w.alloc (.deferred (some []))) (.loop (rec .ready))
    rwa [World.size_alloc] at this
  have hK1 : W1.heap[w.heap.size]? = some (.deferred (some [])) := by
    rw [← hW1]
    exact (Below.heap_alloc _ _ _ (by simp)).trans (World.alloc_heap_new w _)
  have hI1 : I 0 W1 := by
    rw [← hW1]
    exact hI 0 _ _ (hI 0 _ _ h0 (Chg.alloc _ _)) (Chg.alloc _ _)
  have hb1 : Below w.heap.size w W1 := by
    rw [← hW1]
    exact ((Below.refl _ w).alloc (Nat.le_refl _) _).alloc (by simp) _
  refine ⟨w.heap.size + 1, [{ target := .collected w.heap.size, args := #[] }], W1, { target := .fn (.func gf) lb, args := #[.func (.yield (w.heap.size + 1)) #[] #[]] }, W1, gf,
    #[.func (.yield (w.heap.size + 1)) #[] #[]] ++ lb, W1, ?_, ?_, ?_, ?_, (fun h => by cases h), ?_⟩
  · rw [← hW1, hrec]
    exact run_enterLoop_outer _ _ _ _ _
  · simp only [resolve, hg]
    simp [go_sem]
  · intro f' _
    trivial
  · simp [invoke, go_sem, eg]
  · refine (hseq (w.heap.size + 1) (fun i W => I i W ∧ w.heap.size + 1 < W.heap.size ∧ W.heap[w.heap.size + 1]? = some (.loop (rec .ready)) ∧ W.heap[w.heap.size]? = some (.deferred (some []))) W1 hb1 ?_ ?_ ⟨hI1, by omega, hL1, hK1⟩).mono ?_
    · rintro i A A' ⟨h1, h2, h3, h4⟩ hk
      rw [hsz] at hk
      exact ⟨hI i A A' h1 (hk.chg (by omega)), Nat.lt_of_lt_of_le h2 hk.2.2.2.1, hk.2.2.2.2 _ _ h3 (.inl (by omega)), hk.2.2.2.2 _ _ h4 (.inl (by omega))⟩
    · rintro i hi W ⟨h1, h2, h3, h4⟩
      have hy := run_yield (P := Tryz.prog) (args := enc i) h3 (by rw [hrec]; exact hps _)
      rw [hrec] at hy
      refine ⟨fn, _, assign, body, hy, roundIn_of_wpIn hfn (hassign _ i W _ ⟨_, run_beginRound h3 (by rw [hrec]), ?_⟩)⟩
      obtain ⟨Wb, hWb⟩ : ∃ Wb, W.putObj (w.heap.size + 1) (.loop { rec .ready with state := .busy }) = Wb := ⟨_, rfl⟩
      rw [hWb]
      have hl2 : Wb.heap[w.heap.size + 1]? = some (.loop { rec .ready with state := .busy }) := by rw [← hWb]; exact World.putObj_heap_same h2
      have hk2 : Wb.heap[w.heap.size]? = some (.deferred (some [])) := by rw [← hWb]; exact (World.putObj_heap_other (by omega)).trans h4
      have hr2 : Rnd b W Wb := by rw [← hWb]; exact Rnd.put b W _ _ _ h3 rfl (by omega)
      have hi2 : I i Wb := by rw [← hWb]; exact hI i _ _ h1 (Chg.put W _ _ _ h3 rfl (by omega))
      have hs2 : w.heap.size < Wb.heap.size := by rw [← hWb]; simp; omega
      refine wpIn_mono (hbody _ i hi Wb hi2 hs2) ?_
      rintro e a3 W3 hp
      cases e with
      | normal =>
        obtain ⟨hk3, hr3, hi3⟩ := hp
        have hl3 := hk3.same _ _ (by omega) hl2 rfl
        have hd3 := hk3.same _ _ (Nat.le_refl _) hk2 rfl
        have hlt3 : w.heap.size + 1 < W3.heap.size := (Array.getElem?_eq_some_iff.1 hl3).1
        have hrun := run_endRound (P := Tryz.prog) none hl3
        refine ⟨_, _, hrun, rfl, ⟨hI _ _ _ hi3 (Chg.put W3 _ _ _ hl3 rfl (by omega)), ?_, ?_, ?_⟩, (hr2.trans hr3).trans (Rnd.put b W3 _ _ _ hl3 rfl (by omega))⟩
        · simp; omega
        · rw [World.putObj_heap_same hlt3, hrec]
          rfl
        · exact (World.putObj_heap_other (by omega)).trans hd3
      | ret => exact hp.elim
      | exit id => exact hp.elim
      | goto t => exact hp.elim
      | panic ch => exact hp.elim
      | outgrown => exact hp.elim
    · rintro e W2 ⟨⟨v, rfl⟩, h1, h2, h3, h4⟩
      have hrun := run_endLoop (P := Tryz.prog) h3 (by rw [hrec]; simp)
      have hpe : (rec .ready).pending = none := by rw [hrec]
      rw [hpe] at hrun
      exact ⟨none, _, hrun, hdone _ (hI _ _ _ h1 (Chg.put W2 _ _ _ h3 rfl (by omega))) (by simp; omega) ((World.putObj_heap_other (by omega)).trans h4)⟩
/-- Of a statement that only goes on. -/
def normalOnly (Q : Exit → Act → World → Prop) : Exit → Act → World → Prop
  | .normal, a, w => Q .normal a w
  | _, _, _ => False
theorem wpIn_normal {F : Fence} {n : Nat} {P : Program} {c : Go.Code} {Q : Exit → Act → World → Prop} {a : Act} {w : World} (h : c.wpIn F n P (normalOnly Q) a w) : c.wpIn F n P Q a w :=
  wpIn_mono h (fun e a w h => by
    cases e
    · exact h
    all_goals exact h.elim)
end Go.Proofs.YtpmccbkhkaoccaaGreatDoor

/- strings.Builder: WriteByte and String. -/
namespace Go.Proofs.YtpmccbkhkaoccaaGreatDoor
open Go.RowKit Go.Shelf

def strRen : Go.Shelf.Ren := ⟨fun | 169 => 170 | n => n, fun | 70 => 233 | 9 => 9 | 0 => 0 | 72 => 235 | 37 => 22 | 127 => 227 | 3 => 3 | 5 => 5 | n => n, fun | n => n⟩
theorem strLays : Go.Proofs.Lays.n169 Tryz.prog strRen := {
  mixed := by kernel_rfl
  f169 := Tryz.func170.trans (congrArg some (by kernel_rfl))
  t0 := Tryz.underlying0
  a0 := Tryz.isAgg0
  z0 := Tryz.sizeOf0
  v0 := Tryz.zeroValue0
  t3 := Tryz.underlying3
  a3 := Tryz.isAgg3
  z3 := Tryz.sizeOf3
  v3 := Tryz.zeroValue3
  t9 := Tryz.underlying9
  a9 := Tryz.isAgg9
  z9 := Tryz.sizeOf9
  v9 := Tryz.zeroValue9
  t37 := Tryz.underlying22
  a37 := Tryz.isAgg22
  z37 := Tryz.sizeOf22
  v37 := Tryz.zeroValue22
  t70 := Tryz.underlying233
  a70 := Tryz.isAgg233
  z70 := Tryz.sizeOf233
  v70 := Tryz.zeroValue233
  t72 := Tryz.underlying235
  a72 := Tryz.isAgg235
  z72 := Tryz.sizeOf235
  v72 := Tryz.zeroValue235
  t127 := Tryz.underlying227
  a127 := Tryz.isAgg227
  z127 := Tryz.sizeOf227
  v127 := Tryz.zeroValue227 }
theorem strExtra : Builder.Extra Tryz.prog strRen := {
  sizeBuilder := by kernel_rfl
  liesBuilder := by kernel_rfl
  t5 := Tryz.underlying5
  a5 := Tryz.isAgg5
  z5 := Tryz.sizeOf5
  v5 := Tryz.zeroValue5
  infoByte := by kernel_rfl
  cellsByte := by kernel_rfl
  sizeByte := by kernel_rfl
  neB5 := by decide }
theorem bldString_any (B b : Nat) (l : List UInt8) (w : World) (h : Lib.IsBuilderF 235 5 B b (Lib.byteCells l) w) (hBw : B ≤ w.heap.size) :
    Calls Tryz.prog 170 #[.pointer (some ⟨b, 0, none⟩)] w fun e w' => e = .returned (.string ⟨l.toArray⟩) ∧ (Lib.IsBuilderF 235 5 B b (Lib.byteCells l) w' ∧ Below B w w' ∧ Lib.OthersKept 5 (some b) w w') :=
  Any.Builder_String_any_k strLays strExtra B b l w h hBw

set_option maxHeartbeats 2000000 in
set_option maxRecDepth 100000 in
theorem copyCheck_fresh (b : Nat) (w : World) (h0 : w.cell? ⟨b, 0, none⟩ = some (.pointer none)) (hsh : w.shape? b = some (235, 2)) (hfz : w.frozen? ⟨b, 0, none⟩ = false) :
    Calls Tryz.prog 172 #[.pointer (some ⟨b, 0, none⟩)] w fun e w' => e = .returned (.tuple #[]) ∧ w' = w.setCell ⟨b, 0, none⟩ (.pointer (some ⟨b, 0, none⟩)) := by
  obtain ⟨j, hj, hjs⟩ := Option.map_eq_some_iff.1 strExtra.sizeBuilder
  go_enter Tryz.func172, Tryz.ntmps172
  go_wp2
  rw [Lib.run_to_unsafe w ⟨b, 0, none⟩ Tryz.underlying233 Tryz.underlying137 hj (by rw [hjs]; decide) hsh (Nat.zero_lt_succ 1)]
  simp only [Result.andThen]
  rw [Oper.upon_value]
  go_wp2
  rw [run_callFunc_extern Tryz.func173 (by kernel_rfl) (by kernel_rfl) (by kernel_rfl) (e := Extern.AbiNoEscape.same) (by kernel_rfl)]
  rw [Lib.run_noEscape]
  simp only [Result.andThen]
  rw [Oper.upon_value]
  go_wp2
  rw [Lib.run_from_unsafe w ⟨b, 0, none⟩ Tryz.underlying137 Tryz.underlying233 hj hsh strExtra.liesBuilder]
  simp only [Result.andThen]
  rw [Oper.upon_value]
  have hc : (w.setCell ⟨b, 0, none⟩ (.pointer (some ⟨b, 0, none⟩))).cell? ⟨b, 0, none⟩ = some (.pointer (some ⟨b, 0, none⟩)) := World.cell?_setCell_same' _ _ _ (by rw [h0]; rfl)
  go_wp2
  go_end0
  exact ⟨rfl, rfl⟩
set_option maxHeartbeats 2000000 in
set_option maxRecDepth 100000 in
theorem copyCheck_used (b : Nat) (w : World) (h0 : w.cell? ⟨b, 0, none⟩ = some (.pointer (some ⟨b, 0, none⟩))) :
    Calls Tryz.prog 172 #[.pointer (some ⟨b, 0, none⟩)] w fun e w' => e = .returned (.tuple #[]) ∧ w' = w := by
  go_enter Tryz.func172, Tryz.ntmps172
  obtain ⟨j, hj, _⟩ := Option.map_eq_some_iff.1 strExtra.sizeBuilder
  go_wp2
  rw [Lib.run_neq_ptr_same w _ Tryz.underlying233 hj]
  go_wp2
  go_end0
  exact ⟨rfl, rfl⟩
theorem copyCheck_any (B b : Nat) (bs : List Value) (w : World) (h : Lib.IsBuilderF 235 5 B b bs w) :
    Calls Tryz.prog 172 #[.pointer (some ⟨b, 0, none⟩)] w fun e w' => e = .returned (.tuple #[]) ∧ (Lib.BuilderAtF 235 5 B b (.pointer (some ⟨b, 0, none⟩)) bs w' ∧ Below B w w' ∧ Lib.OthersKept 5 (some b) w w') := by
  rcases h with h | h
  · refine (copyCheck_fresh b w h.cell0 h.shape h.frozen0).mono ?_
    rintro e w' ⟨rfl, rfl⟩
    exact ⟨rfl, h.used _, (Below.refl B w).setCell (p := ⟨b, 0, none⟩) h.1 _, (Lib.OthersKept.refl _ _ w).setCell ⟨b, 0, none⟩ rfl _⟩
  · refine (copyCheck_used b w h.cell0).mono ?_
    rintro e w' ⟨rfl, rfl⟩
    exact ⟨rfl, h, Below.refl B _, Lib.OthersKept.refl _ _ _⟩
set_option maxHeartbeats 2000000 in
set_option maxRecDepth 100000 in
theorem writeByte_any (B b : Nat) (bs : List Value) (c : Int) (w : World) (h : Lib.IsBuilderF 235 5 B b bs w) (hlen : bs.length + 1 ≤ 1000000) (hBw : B ≤ w.heap.size) :
    Calls Tryz.prog 169 #[.pointer (some ⟨b, 0, none⟩), .int .u8 c] w fun e w' => e = .returned .nilIface ∧ (Lib.BuilderAtF 235 5 B b (.pointer (some ⟨b, 0, none⟩)) (bs ++ [.int .u8 c]) w' ∧ Below B w w' ∧ Lib.OthersKept 5 (some b) w w') := by
  obtain ⟨i0, hi, hz0, hz1, hz2⟩ := info_parts strExtra.infoByte
  go_enter Tryz.func169, Tryz.ntmps169
  go_wp2_with (go_at_call 172; refine (copyCheck_any B b bs _ h).mono ?_)
  rintro e w1 ⟨rfl, h1, hb1, hk1⟩
  obtain ⟨hB, v, hbk, hown, hne⟩ := h1
  have c0 : w1.cell? ⟨b, 0, none⟩ = some (.pointer (some ⟨b, 0, none⟩)) := by rw [Lib.cell_of_heap hbk]; rfl
  have c1 : w1.cell? ⟨b, 1, none⟩ = some v := by rw [Lib.cell_of_heap hbk]; rfl
  go_wp2_with (at_builtin; refine wpList_append_ownF _ rfl _ _ 22 rfl B 5 i0 (.int .u8 0) 1 1 Tryz.underlying22 hi hz0 hz1 hz2 rfl (by decide) _ _ _ rfl (hown.alloc _) ⟨w1.heap.size, 0, none⟩ 1 1 [.int .u8 c] rfl rfl ?c1 ?c2 ?c3 ?c4 ?c5 ?_)
  case c1 =>
    intro j u hj
    match j, hj with
    | 0, hj => simp at hj; subst hj; simp [Addr.add]
  case c2 => intro u hu; simp at hu; subst hu; rfl
  case c3 => unfold maxLen; omega
  case c4 => omega
  case c5 => have := hb1.size; simp; omega
  intro v' w2 hown' hgrow _
  have hlt : b < w1.heap.size := (Array.getElem?_eq_some_iff.1 hbk).1
  have hb2 : w2.heap[b]? = some (.cells #[.pointer (some ⟨b, 0, none⟩), v] 235 (0, 0)) := by
    rw [hgrow.block b (by simp; omega) (fun e => hne e.symm), Lib.alloc_old w1 _ b hlt]
    exact hbk
  have d1 : w2.cell? ⟨b, 1, none⟩ = some v := by rw [Lib.cell_of_heap hb2]; rfl
  have f1 : w2.frozen? ⟨b, 1, none⟩ = false := Lib.frozen_of_heap hb2 1
  obtain ⟨g, cap, rfl⟩ : ∃ g cap, v' = .slice (some ⟨g, 0, none⟩) (bs.length + 1) cap := by
    rcases hown'.2 with ⟨_, h0⟩ | ⟨g, cap, cur, fz, hv, _⟩
    · omega
    · exact ⟨g, cap, hv⟩
  go_wp2
  go_ret
  refine ⟨rfl, ?_, ?_, ((hk1.alloc _).grown hgrow (Lib.ownsRowF_kind (hown.alloc _))).setCell ⟨b, 1, none⟩ rfl _⟩
  · exact Lib.BuilderAtF.put (T := 235) (e := 5) hB hb2 (bs' := bs ++ [.int .u8 c]) (by simpa using hown') (by decide)
  · exact ((hb1.alloc (by have := hb1.size; omega) _).grown hgrow (by have := hb1.size; simp; omega) (fun k hk => (hown.lt k hk).1)).setCell (p := ⟨b, 1, none⟩) hB _
end Go.Proofs.YtpmccbkhkaoccaaGreatDoor

