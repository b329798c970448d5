import Derived.Test.YtaoccjaaopmfdaaGreatDoorB06
import Derived.Below
import Derived.WalkKit
import Derived.Test.YtaoccjaaopmfdaaGreatDoorB39
import Derived.Test.YtaoccjaaopmfdaaGreatDoorChecked
import Derived.LaidEql
import Derived.Stop.Asserts
import Derived.RowKitTokens
import Derived.Test.YtaoccjaaopmfdaaGreatDoorB32
/- What is said of a call that reads a float. -/
namespace Go.Proofs.YtaoccjaaopmfdaaGreatDoor
open Go.ChangeShapes Go.WideShapes Go.RowKit

/-- What is said of the answer. -/
def ReadQ (s : ByteArray) (w : World) (e : Ending) (w' : World) : Prop := ∃ ok pl fl x, ReadA s ok pl fl ∧ fl x ∧ x < 18446744073709551616 ∧ e = .returned (.agg #[.bool ok, .int .i64 pl, .float .f64 x]) ∧ Below w.heap.size w w'
end Go.Proofs.YtaoccjaaopmfdaaGreatDoor

/- The program's reader: a whole text. -/
namespace Go.Proofs.YtaoccjaaopmfdaaGreatDoor
open Go.ChangeShapes Go.WideShapes Go.RowKit

/-- What is said of a text that is read whole: a place where it breaks off, or a float. -/
def AllQ (s : ByteArray) (r : Option Nat) (x : Nat) : Prop :=
  (∃ a : Nat, r = some a ∧ ReadA s false (a : Int) (· = 0)) ∨ (r = none ∧ ∃ fl, ReadA s true 0 fl ∧ fl x ∧ x < 18446744073709551616)
theorem nil_eq (w : World) : (binOp .eql 94 .nilIface .nilIface).run Tryz.prog w = .ok (.bool true) w := by kernel_rfl
theorem bo_eq (v : Value) (w : World) : (binOp .eql 94 (.iface 98 v) .nilIface).run Tryz.prog w = .ok (.bool false) w := by kernel_rfl
set_option maxHeartbeats 2000000 in
set_option maxRecDepth 100000 in
theorem readAll_any (s : ByteArray) (w : World) :
    Calls Tryz.prog 55 #[.string s] w fun e w' => ∃ r x, AllQ s r x ∧ e = .returned (.tuple #[.float .f64 x, errV r]) ∧ Below w.heap.size w w' := by
  by_cases hs : 1200 < s.size
  · have hs' : (1200 : Int) < (s.size : Int) := by omega
    go_enter Tryz.func55, Tryz.ntmps55
    go_wp2
    go_ret2
    exact ⟨some 1200, 0, .inl ⟨1200, rfl, .inl ⟨hs, rfl, rfl, rfl⟩⟩, rfl, Below.refl _ _⟩
  · have hs' : (s.size : Int) ≤ 1200 := by omega
    have HS : Hid (s.size ≤ 1200) := Nat.le_of_not_lt hs
    clear hs
    have HB : Hid (Below w.heap.size w (w.alloc (.cells #[.string s, .int .i64 0] 135))) := (Below.refl _ w).alloc (by simp) _
    have HF : Hid _ := fun (_ : Unit) => rfloat_any w.heap.size s (w.alloc (.cells #[.string s, .int .i64 0] 135)) (by show (w.heap.push _)[w.heap.size]? = some _; simp) HS.out
    go_enter Tryz.func55, Tryz.ntmps55
    go_wp2_with fail
    refine (HF.out ()).mono ?_
    rintro e w1 ⟨fl, r, j, x, hflo, hx, hnn, hj, rfl, hr, hm⟩
    have HM : Hid (Below w.heap.size w w1) := HB.out.trans (hm.below (Nat.le_refl _) (by simp))
    have hc := hr.at_
    have hl := hr.lt
    clear hr hm HF HB
    cases r with
    | some a =>
      have HA : Hid (ReadA s false (a : Int) (· = 0)) := flo_some HS.out hflo
      have he := bo_eq (.agg #[.int .i64 (a : Int)])
      clear hflo hx hnn hj
      rw [err_some]
      go_wp2
      go_ret2
      exact ⟨some a, x, .inl ⟨a, rfl, HA.out⟩, rfl, HM.out⟩
    | none =>
      have he := nil_eq
      have hx := hx rfl
      have HL : Hid (x < 18446744073709551616) := flo_lt HS.out hflo hx hnn
      obtain ⟨h1, h2⟩ := flo_none HS.out hflo
      have HX : Hid (fl x) := hx
      clear hx hnn hflo
      rw [err_none]
      by_cases hl : j < s.size
      · have hl' : (j : Int) < (s.size : Int) := by omega
        have HA : Hid (ReadA s false (j : Int) (· = 0)) := h1 hl
        clear h1 h2 hl
        go_wp2
        go_quiet (fail)
        go_wp2
        go_ret2
        exact ⟨some j, 0, .inl ⟨j, rfl, HA.out⟩, rfl, below_drewN HM.out _⟩
      · have hl' : decide (j < s.size) = false := decide_eq_false hl
        have HA : Hid (ReadA s true 0 fl) := h2 hl
        clear h1 h2 hl
        go_wp2
        go_ret2
        exact ⟨none, x, .inr ⟨rfl, fl, HA.out, HX.out, HL.out⟩, rfl, HM.out⟩
end Go.Proofs.YtaoccjaaopmfdaaGreatDoor

/- errors.As at a struct that is an error. -/
namespace Go.Proofs.YtaoccjaaopmfdaaGreatDoor
open Go.ChangeShapes Go.WideShapes Go.RowKit Go.Extern.Stop Go.Stop Go.Extern

/-- No error, no answer. -/
theorem as_none (t : Value) (w : World) : Calls Tryz.prog 56 #[.nilIface, t] w fun e w' => e = .returned (.bool false) ∧ w' = w := by
  go_enter Tryz.func56, Tryz.ntmps56
  go_wp2
  go_ret
  exact ⟨rfl, rfl⟩
/-- The handle of the type error lies in its variable. -/
def Handle (w : World) : Prop := w.cell? ⟨2, 0, none⟩ = some (.iface 168 (.agg #[.pointer (some ⟨7, 94, none⟩)]))
/-! Closed facts: the pointer's type, the struct's type. -/
theorem bo_valueOf (t : Addr) (w : World) : (ReflectliteValue.unpack (.iface 100 (.pointer (some t)))).run Tryz.prog w
    = .ok (.agg #[.pointer (some ⟨7, 100, none⟩), .pointer (some ⟨w.heap.size, 0, none⟩), .int .u64 150]) (w.alloc (.cells #[.pointer (some t)] 100)) := by kernel_rfl
theorem bo_type (a : Addr) (w : World) : (ReflectliteValue.methodAny (ReflectliteValue.valueError "reflectlite.Value.Type" 0) (fun t _ _ _ => ReflectliteType.toType t) #[.agg #[.pointer (some ⟨7, 100, none⟩), .pointer (some a), .int .u64 150]]).run Tryz.prog w
    = .ok (.iface 168 (.agg #[.pointer (some ⟨7, 100, none⟩)])) w := by kernel_rfl
theorem bo_kindP (w : World) : ((ReflectliteType.abiMethod fun t => (fun a : Nat => Value.int IntKind.u8 (a : Int)) <$> Rtype.kind t) #[.pointer (some ⟨7, 100, none⟩)]).run Tryz.prog w = .ok (.int .u8 22) w := by kernel_rfl
theorem bo_kindS (w : World) : ((ReflectliteType.abiMethod fun t => (fun a : Nat => Value.int IntKind.u8 (a : Int)) <$> Rtype.kind t) #[.pointer (some ⟨7, 98, none⟩)]).run Tryz.prog w = .ok (.int .u8 25) w := by kernel_rfl
theorem rl_method (z : Sem Value) (f : TypeId → Addr → Nat → Nat → Sem Value) (v : Value) :
    ReflectliteValue.method z f #[v] = (do match ← ReflectliteValue.parts v with | none => z | some (t, a, fl) => f t a fl (fl % 32)) := rfl
theorem bo_partsP (a : Addr) (w : World) : (ReflectliteValue.parts (.agg #[.pointer (some ⟨7, 100, none⟩), .pointer (some a), .int .u64 150])).run Tryz.prog w = .ok (some (100, a, 150)) w := by kernel_rfl
theorem bo_isNil (a p : Addr) (W : World) (ha : W.cell? a = some (.pointer (some p))) :
    (ReflectliteValue.method (ReflectliteValue.valueError "reflectlite.Value.IsNil" 0) ReflectliteValue.isNil #[.agg #[.pointer (some ⟨7, 100, none⟩), .pointer (some a), .int .u64 150]]).run Tryz.prog W = .ok (.bool false) W := by
  rw [rl_method]
  simp only [Sem.run_bind, bo_partsP, Result.andThen]
  simp [ReflectliteValue.isNil, loadVar, isAgg, underlying, Tryz.underlying100, ha, Result.andThen]
theorem bo_elemT (w : World) : (ReflectliteType.method ReflectliteType.elem #[.agg #[.pointer (some ⟨7, 100, none⟩)]]).run Tryz.prog w = .ok (.iface 168 (.agg #[.pointer (some ⟨7, 98, none⟩)])) w := by kernel_rfl
theorem bo_implements (w : World) : (ReflectliteType.relation "Implements" ReflectliteType.implements_ #[.agg #[.pointer (some ⟨7, 98, none⟩)], .iface 168 (.agg #[.pointer (some ⟨7, 94, none⟩)])]).run Tryz.prog w = .ok (.bool true) w := by kernel_rfl
theorem bo_typeOf (v : Value) (w : World) : (ReflectliteType.typeOf #[.iface 98 v]).run Tryz.prog w = .ok (.iface 168 (.agg #[.pointer (some ⟨7, 98, none⟩)])) w := by kernel_rfl
theorem bo_assignable (w : World) : (ReflectliteType.relation "AssignableTo" ReflectliteType.assignableTo #[.agg #[.pointer (some ⟨7, 98, none⟩)], .iface 168 (.agg #[.pointer (some ⟨7, 98, none⟩)])]).run Tryz.prog w = .ok (.bool true) w := by kernel_rfl
theorem bo_valueOfS (x : Value) (w : World) : (ReflectliteValue.unpack (.iface 98 (.agg #[x]))).run Tryz.prog w
    = .ok (.agg #[.pointer (some ⟨7, 98, none⟩), .pointer (some ⟨w.heap.size, 0, none⟩), .int .u64 153]) (w.alloc (.cells #[x] 98)) := by kernel_rfl
theorem bo_elemOf (w : World) : (Rtype.elem? 100).run Tryz.prog w = .ok (some 98) w := by kernel_rfl
theorem bo_mk (p : Addr) (w : World) : (ReflectliteValue.mk 98 p ReflectliteValue.flagAddr).run Tryz.prog w = .ok (.agg #[.pointer (some ⟨7, 98, none⟩), .pointer (some p), .int .u64 409]) w := by kernel_rfl
theorem bo_elemV (a p : Addr) (W : World) (ha : W.cell? a = some (.pointer (some p))) :
    (ReflectliteValue.method (ReflectliteValue.valueError "reflectlite.Value.Elem" 0) ReflectliteValue.elem #[.agg #[.pointer (some ⟨7, 100, none⟩), .pointer (some a), .int .u64 150]]).run Tryz.prog W
      = .ok (.agg #[.pointer (some ⟨7, 98, none⟩), .pointer (some p), .int .u64 409]) W := by
  rw [rl_method]
  simp only [Sem.run_bind, bo_partsP, Result.andThen]
  simp [ReflectliteValue.elem, loadVar, isAgg, underlying, Tryz.underlying100, ha, Result.andThen, bo_elemOf, bo_mk]
theorem bo_partsA (a : Addr) (w : World) : (ReflectliteValue.parts (.agg #[.pointer (some ⟨7, 98, none⟩), .pointer (some a), .int .u64 409])).run Tryz.prog w = .ok (some (98, a, 409)) w := by kernel_rfl
theorem bo_partsS (a : Addr) (w : World) : (ReflectliteValue.parts (.agg #[.pointer (some ⟨7, 98, none⟩), .pointer (some a), .int .u64 153])).run Tryz.prog w = .ok (some (98, a, 153)) w := by kernel_rfl
theorem bo_direct (w : World) : (Rtype.directlyAssignable 98 98).run Tryz.prog w = .ok true w := by kernel_rfl
theorem bo_size (w : World) : (sizeOf 98).run Tryz.prog w = .ok 1 w := by kernel_rfl
theorem bo_agg (w : World) : (isAgg 98).run Tryz.prog w = .ok true w := by kernel_rfl
theorem rl_set (v x : Value) : ReflectliteValue.set #[v, x] = (do
    let (some (dst, a, fl), some (src, b, _)) := (← ReflectliteValue.parts v, ← ReflectliteValue.parts x)
      | unsupported (.noEntry "extern/(internal/reflectlite.Value).Set.zeroValue")
    if fl / ReflectliteValue.flagAddr % 2 == 0 then unsupported (.noEntry "extern/(internal/reflectlite.Value).Set.unaddressable")
    let val ← loadVar src b
    if ← Rtype.directlyAssignable dst src then storeVar dst a val
    else if ← Rtype.implements dst src then
      if (← Rtype.kind src) == 20 then
        match val with
        | .nilIface => unsupported (.noEntry "extern/reflectlite: a nil value of one interface type handed on as a value of another")
        | _ => storeVar dst a val
      else storeVar dst a (.iface src val)
    else panicString ("reflectlite.Set: value of type " ++ (← Rtype.spelt src) ++ " is not assignable to type " ++ (← Rtype.spelt dst))
    pure (.tuple #[])) := rfl
theorem bo_set (ta b : Addr) (k : Int) (old : Value) (W : World) (hb : W.cell? b = some (.int .i64 k)) (ht : W.cell? ta = some old) (hf : W.frozen? ta = false) :
    (ReflectliteValue.set #[.agg #[.pointer (some ⟨7, 98, none⟩), .pointer (some ta), .int .u64 409], .agg #[.pointer (some ⟨7, 98, none⟩), .pointer (some b), .int .u64 153]]).run Tryz.prog W
      = .ok (.tuple #[]) (W.setCell ta (.int .i64 k)) := by
  rw [rl_set]
  simp only [Sem.run_bind, bo_partsA, bo_partsS, Result.andThen]
  simp [ReflectliteValue.flagAddr, loadVar, loadCells, loadCellsFrom, hb, Result.andThen, bo_direct, storeVar, Value.cells, storeCells, Addr.add]
  rw [run_store Tryz.prog W ta _ _ (by rfl)]
  simp [ht, hf]
theorem bo_mKind (h : Value) (w : World) : (Go.method 358 168 (.agg #[h]) "Kind").run Tryz.prog w = .ok (163, h) w := by kernel_rfl
theorem bo_mElem (h : Value) (w : World) : (Go.method 358 168 (.agg #[h]) "Elem").run Tryz.prog w = .ok (186, .agg #[h]) w := by kernel_rfl
theorem bo_mImpl (h : Value) (w : World) : (Go.method 358 168 (.agg #[h]) "Implements").run Tryz.prog w = .ok (187, .agg #[h]) w := by kernel_rfl
theorem bo_mAssign (h : Value) (w : World) : (Go.method 358 168 (.agg #[h]) "AssignableTo").run Tryz.prog w = .ok (184, .agg #[h]) w := by kernel_rfl
set_option maxHeartbeats 4000000 in
set_option maxRecDepth 100000 in
theorem as_hit (k : Int) (t : Addr) (old : Value) (w : World) (hg : Handle w) (hlt : 2 < w.heap.size) (ht0 : w.cell? t = some old) (hf0 : w.frozen? t = false) :
    Calls Tryz.prog 56 #[.iface 98 (.agg #[.int .i64 k]), .iface 100 (.pointer (some t))] w fun ev w' => ev = .returned (.bool true) ∧ w' = ((((w.alloc (.cells #[.pointer (some t)] 100)).alloc (.cells #[.pointer (some ⟨7, 100, none⟩), .pointer (some ⟨w.heap.size, 0, none⟩), .int .u64 150] 140)).alloc (.cells #[.pointer (some ⟨7, 100, none⟩), .pointer (some ⟨w.heap.size, 0, none⟩), .int .u64 150] 140)).alloc (.cells #[.int .i64 k] 98)).setCell t (.int .i64 k) := by
  have h6 := @run_callFunc_extern Tryz.prog 84 _ (fun args => ReflectliteValue.unpack (args.getD 0 (.tuple #[]))) Tryz.func84 (by kernel_rfl) (by kernel_rfl) (by kernel_rfl) (by kernel_rfl)
  have h7 := @run_callFunc_extern Tryz.prog 85 _ (ReflectliteValue.methodAny (ReflectliteValue.valueError "reflectlite.Value.Type" 0) (fun t _ _ _ => ReflectliteType.toType t)) Tryz.func85 (by kernel_rfl) (by kernel_rfl) (by kernel_rfl) (by kernel_rfl)
  have h8 := @run_callFunc_extern Tryz.prog 86 _ (ReflectliteValue.method (ReflectliteValue.valueError "reflectlite.Value.IsNil" 0) ReflectliteValue.isNil) Tryz.func86 (by kernel_rfl) (by kernel_rfl) (by kernel_rfl) (by kernel_rfl)
  have h27 := @run_callFunc_extern Tryz.prog 163 _ (ReflectliteType.abiMethod fun t => do pure (.int .u8 (← Rtype.kind t))) Tryz.func163 (by kernel_rfl) (by kernel_rfl) (by kernel_rfl) (by kernel_rfl)
  have h37 := @run_callFunc_extern Tryz.prog 186 _ (ReflectliteType.method ReflectliteType.elem) Tryz.func186 (by kernel_rfl) (by kernel_rfl) (by kernel_rfl) (by kernel_rfl)
  have h38 := @run_callFunc_extern Tryz.prog 187 _ (ReflectliteType.relation "Implements" ReflectliteType.implements_) Tryz.func187 (by kernel_rfl) (by kernel_rfl) (by kernel_rfl) (by kernel_rfl)
  have h10 := @run_callFunc_extern Tryz.prog 111 _ ReflectliteType.typeOf Tryz.func111 (by kernel_rfl) (by kernel_rfl) (by kernel_rfl) (by kernel_rfl)
  have h35 := @run_callFunc_extern Tryz.prog 184 _ (ReflectliteType.relation "AssignableTo" ReflectliteType.assignableTo) Tryz.func184 (by kernel_rfl) (by kernel_rfl) (by kernel_rfl) (by kernel_rfl)
  have h11 := @run_callFunc_extern Tryz.prog 112 _ (ReflectliteValue.method (ReflectliteValue.valueError "reflectlite.Value.Elem" 0) ReflectliteValue.elem) Tryz.func112 (by kernel_rfl) (by kernel_rfl) (by kernel_rfl) (by kernel_rfl)
  have h12 := @run_callFunc_extern Tryz.prog 113 _ ReflectliteValue.set Tryz.func113 (by kernel_rfl) (by kernel_rfl) (by kernel_rfl) (by kernel_rfl)
  have tO := bo_typeOf
  have mA := bo_mAssign
  have a25 := bo_assignable
  have v25 := bo_valueOfS
  have f6 := bo_valueOf
  have f7 := bo_type
  have mK := bo_mKind
  have mE := bo_mElem
  have mI := bo_mImpl
  have k27 := bo_kindP
  have k25 := bo_kindS
  have e27 := bo_elemT
  have i25 := bo_implements
  have n8 := bo_isNil ⟨w.heap.size, 0, none⟩ t ((w.alloc (.cells #[.pointer (some t)] 100)).alloc (.cells #[.pointer (some ⟨7, 100, none⟩), .pointer (some ⟨w.heap.size, 0, none⟩), .int .u64 150] 140)) (by simp)
  have hg2 : ((w.alloc (.cells #[.pointer (some t)] 100)).alloc (.cells #[.pointer (some ⟨7, 100, none⟩), .pointer (some ⟨w.heap.size, 0, none⟩), .int .u64 150] 140)).cell? ⟨2, 0, none⟩ = some (.iface 168 (.agg #[.pointer (some ⟨7, 94, none⟩)])) := by
    rw [World.cell?_alloc_lt _ _ ⟨2, 0, none⟩ (by simp <;> omega), World.cell?_alloc_lt _ _ ⟨2, 0, none⟩ hlt]; exact hg
  have htl : t.block < w.heap.size := by
    rcases Nat.lt_or_ge t.block w.heap.size with h | h
    · exact h
    · simp [World.cell?, Array.getElem?_eq_none h] at ht0
  have el := bo_elemV ⟨w.heap.size, 0, none⟩ t (((w.alloc (.cells #[.pointer (some t)] 100)).alloc (.cells #[.pointer (some ⟨7, 100, none⟩), .pointer (some ⟨w.heap.size, 0, none⟩), .int .u64 150] 140)).alloc (.cells #[.pointer (some ⟨7, 100, none⟩), .pointer (some ⟨w.heap.size, 0, none⟩), .int .u64 150] 140)) (by rw [World.cell?_alloc_lt _ _ ⟨w.heap.size, 0, none⟩ (by simp; omega)]; simp)
  have st := bo_set t ⟨w.heap.size + 1 + 1 + 1, 0, none⟩ k old ((((w.alloc (.cells #[.pointer (some t)] 100)).alloc (.cells #[.pointer (some ⟨7, 100, none⟩), .pointer (some ⟨w.heap.size, 0, none⟩), .int .u64 150] 140)).alloc (.cells #[.pointer (some ⟨7, 100, none⟩), .pointer (some ⟨w.heap.size, 0, none⟩), .int .u64 150] 140)).alloc (.cells #[.int .i64 k] 98))
    (by rw [World.cell?_alloc_at _ _ _ _ (by simp)]; rfl)
    (by rw [World.cell?_alloc_lt _ _ t (by simp; omega), World.cell?_alloc_lt _ _ t (by simp; omega), World.cell?_alloc_lt _ _ t (by simp; omega), World.cell?_alloc_lt _ _ t htl]; exact ht0)
    (by rw [World.frozen?_alloc_old _ _ t (by simp; omega), World.frozen?_alloc_old _ _ t (by simp; omega), World.frozen?_alloc_old _ _ t (by simp; omega), World.frozen?_alloc_old _ _ t (Nat.ne_of_lt htl)]; exact hf0)
  clear hg ht0 hf0
  go_enter Tryz.func56, Tryz.ntmps56
  go_wp2
  refine wp_loop_rounds 1 ?_
  rw [rounds_succ]
  go_wp2
  go_ret
  exact ⟨rfl, rfl⟩
end Go.Proofs.YtaoccjaaopmfdaaGreatDoor

/- errors.As at the program's own error: what a caller is told. -/
namespace Go.Proofs.YtaoccjaaopmfdaaGreatDoor
open Go.ChangeShapes Go.WideShapes Go.RowKit

theorem Handle.below {w w' : World} (h : Handle w) (hl : 2 < w.heap.size) (hb : Below w.heap.size w w') : Handle w' := by
  unfold Handle at h ⊢
  rw [← h]
  exact World.cell?_of_block (w := w) (hb.block _ hl)
theorem Handle.alloc {w : World} (h : Handle w) (hl : 2 < w.heap.size) (b : Obj) : Handle (w.alloc b) :=
  h.below hl ((Below.refl _ w).alloc (Nat.le_refl _) b)
theorem as_place (k : Int) (B : Nat) (old : Value) (w : World) (hg : Handle w) (hlt : 2 < w.heap.size) (h0 : w.cell? ⟨B, 0, none⟩ = some old) (hf : w.frozen? ⟨B, 0, none⟩ = false) :
    Calls Tryz.prog 56 #[.iface 98 (.agg #[.int .i64 k]), .iface 100 (.pointer (some ⟨B, 0, none⟩))] w fun e w' => e = .returned (.bool true) ∧ w'.cell? ⟨B, 0, none⟩ = some (.int .i64 k) ∧ Mod B w w' := by
  have hl : B < w.heap.size := by
    rcases Nat.lt_or_ge B w.heap.size with h | h
    · exact h
    · simp [World.cell?, Array.getElem?_eq_none h] at h0
  refine (as_hit k ⟨B, 0, none⟩ old w hg hlt h0 hf).mono ?_
  rintro e w' ⟨rfl, rfl⟩
  refine ⟨rfl, ?_, ((((Mod.refl B w).alloc _).alloc _).alloc _).alloc _ |>.setCell 0 _⟩
  refine World.cell?_setCell_same _ _ _ (u := old) ?_
  rw [World.cell?_alloc_lt _ _ _ (by simp; omega), World.cell?_alloc_lt _ _ _ (by simp; omega), World.cell?_alloc_lt _ _ _ (by simp; omega), World.cell?_alloc_lt _ _ _ hl]
  exact h0
end Go.Proofs.YtaoccjaaopmfdaaGreatDoor

