import Derived.Test.YtoedefjngipeiaaGreatDoorChecked
import Derived.WalkKit
import Derived.LaidEql
import Derived.Stop.Asserts
import Derived.RowKitTokens
import Derived.Test.YtoedefjngipeiaaGreatDoorRows
import Derived.ProofKit
import Derived.LaidMore
import Derived.LaidHandle
import Derived.OpenShut
import Derived.OpenVars
import Derived.Stop.Joined
import Derived.SevenTiedAt
import Derived.Laws.FloatArith
/- errors.As at a struct that is an error. -/
namespace Go.Proofs.YtoedefjngipeiaaGreatDoor
open Go.ChangeShapes Go.WideShapes Go.RowKit Go.Extern.Stop Go.Stop Go.Extern

/-- No error, no answer. -/
theorem as_none (t : Value) (w : World) : Calls Tryz.prog 34 #[.nilIface, t] w fun e w' => e = .returned (.bool false) ∧ w' = w := by
  go_enter Tryz.func34, Tryz.ntmps34
  go_wp2
  go_ret
  exact ⟨rfl, rfl⟩
/-- The handle of the type error lies in its variable. -/
def Handle (w : World) : Prop := w.cell? ⟨2, 0, none⟩ = some (.iface 132 (.agg #[.pointer (some ⟨3, 63, none⟩)]))
/-! Closed facts: the pointer's type, the struct's type. -/
theorem bo_valueOf (t : Addr) (w : World) : (ReflectliteValue.unpack (.iface 69 (.pointer (some t)))).run Tryz.prog w
    = .ok (.agg #[.pointer (some ⟨3, 69, none⟩), .pointer (some ⟨w.heap.size, 0, none⟩), .int .u64 150]) (w.alloc (.cells #[.pointer (some t)] 69)) := by kernel_rfl
theorem bo_type (a : Addr) (w : World) : (ReflectliteValue.methodAny (ReflectliteValue.valueError "reflectlite.Value.Type" 0) (fun t _ _ _ => ReflectliteType.toType t) #[.agg #[.pointer (some ⟨3, 69, none⟩), .pointer (some a), .int .u64 150]]).run Tryz.prog w
    = .ok (.iface 132 (.agg #[.pointer (some ⟨3, 69, none⟩)])) w := by kernel_rfl
theorem bo_kindP (w : World) : ((ReflectliteType.abiMethod fun t => (fun a : Nat => Value.int IntKind.u8 (a : Int)) <$> Rtype.kind t) #[.pointer (some ⟨3, 69, none⟩)]).run Tryz.prog w = .ok (.int .u8 22) w := by kernel_rfl
theorem bo_kindS (w : World) : ((ReflectliteType.abiMethod fun t => (fun a : Nat => Value.int IntKind.u8 (a : Int)) <$> Rtype.kind t) #[.pointer (some ⟨3, 67, none⟩)]).run Tryz.prog w = .ok (.int .u8 25) w := by kernel_rfl
theorem rl_method (z : Sem Value) (f : TypeId → Addr → Nat → Nat → Sem Value) (v : Value) :
    ReflectliteValue.method z f #[v] = (do match ← ReflectliteValue.parts v with | none => z | some (t, a, fl) => f t a fl (fl % 32)) := rfl
theorem bo_partsP (a : Addr) (w : World) : (ReflectliteValue.parts (.agg #[.pointer (some ⟨3, 69, none⟩), .pointer (some a), .int .u64 150])).run Tryz.prog w = .ok (some (69, a, 150)) w := by kernel_rfl
theorem bo_isNil (a p : Addr) (W : World) (ha : W.cell? a = some (.pointer (some p))) :
    (ReflectliteValue.method (ReflectliteValue.valueError "reflectlite.Value.IsNil" 0) ReflectliteValue.isNil #[.agg #[.pointer (some ⟨3, 69, none⟩), .pointer (some a), .int .u64 150]]).run Tryz.prog W = .ok (.bool false) W := by
  rw [rl_method]
  simp only [Sem.run_bind, bo_partsP, Result.andThen]
  simp [ReflectliteValue.isNil, loadVar, isAgg, underlying, Tryz.underlying69, ha, Result.andThen]
theorem bo_elemT (w : World) : (ReflectliteType.method ReflectliteType.elem #[.agg #[.pointer (some ⟨3, 69, none⟩)]]).run Tryz.prog w = .ok (.iface 132 (.agg #[.pointer (some ⟨3, 67, none⟩)])) w := by kernel_rfl
theorem bo_implements (w : World) : (ReflectliteType.relation "Implements" ReflectliteType.implements_ #[.agg #[.pointer (some ⟨3, 67, none⟩)], .iface 132 (.agg #[.pointer (some ⟨3, 63, none⟩)])]).run Tryz.prog w = .ok (.bool true) w := by kernel_rfl
theorem bo_typeOf (v : Value) (w : World) : (ReflectliteType.typeOf #[.iface 67 v]).run Tryz.prog w = .ok (.iface 132 (.agg #[.pointer (some ⟨3, 67, none⟩)])) w := by kernel_rfl
theorem bo_assignable (w : World) : (ReflectliteType.relation "AssignableTo" ReflectliteType.assignableTo #[.agg #[.pointer (some ⟨3, 67, none⟩)], .iface 132 (.agg #[.pointer (some ⟨3, 67, none⟩)])]).run Tryz.prog w = .ok (.bool true) w := by kernel_rfl
theorem bo_valueOfS (x : Value) (w : World) : (ReflectliteValue.unpack (.iface 67 (.agg #[x]))).run Tryz.prog w
    = .ok (.agg #[.pointer (some ⟨3, 67, none⟩), .pointer (some ⟨w.heap.size, 0, none⟩), .int .u64 153]) (w.alloc (.cells #[x] 67)) := by kernel_rfl
theorem bo_elemOf (w : World) : (Rtype.elem? 69).run Tryz.prog w = .ok (some 67) w := by kernel_rfl
theorem bo_mk (p : Addr) (w : World) : (ReflectliteValue.mk 67 p ReflectliteValue.flagAddr).run Tryz.prog w = .ok (.agg #[.pointer (some ⟨3, 67, none⟩), .pointer (some p), .int .u64 409]) w := by kernel_rfl
theorem bo_elemV (a p : Addr) (W : World) (ha : W.cell? a = some (.pointer (some p))) :
    (ReflectliteValue.method (ReflectliteValue.valueError "reflectlite.Value.Elem" 0) ReflectliteValue.elem #[.agg #[.pointer (some ⟨3, 69, none⟩), .pointer (some a), .int .u64 150]]).run Tryz.prog W
      = .ok (.agg #[.pointer (some ⟨3, 67, none⟩), .pointer (some p), .int .u64 409]) W := by
  rw [rl_method]
  simp only [Sem.run_bind, bo_partsP, Result.andThen]
  simp [ReflectliteValue.elem, loadVar, isAgg, underlying, Tryz.underlying69, ha, Result.andThen, bo_elemOf, bo_mk]
theorem bo_partsA (a : Addr) (w : World) : (ReflectliteValue.parts (.agg #[.pointer (some ⟨3, 67, none⟩), .pointer (some a), .int .u64 409])).run Tryz.prog w = .ok (some (67, a, 409)) w := by kernel_rfl
theorem bo_partsS (a : Addr) (w : World) : (ReflectliteValue.parts (.agg #[.pointer (some ⟨3, 67, none⟩), .pointer (some a), .int .u64 153])).run Tryz.prog w = .ok (some (67, a, 153)) w := by kernel_rfl
theorem bo_direct (w : World) : (Rtype.directlyAssignable 67 67).run Tryz.prog w = .ok true w := by kernel_rfl
theorem bo_size (w : World) : (sizeOf 67).run Tryz.prog w = .ok 1 w := by kernel_rfl
theorem bo_agg (w : World) : (isAgg 67).run Tryz.prog w = .ok true w := by kernel_rfl
theorem rl_set (v x : Value) : ReflectliteValue.set #[v, x] = (do
    let (some (dst, a, fl), some (src, b, _)) := (← ReflectliteValue.parts v, ← ReflectliteValue.parts x)
      | unsupported (.noEntry "extern/(internal/reflectlite.Value).Set.zeroValue")
    if fl / ReflectliteValue.flagAddr % 2 == 0 then unsupported (.noEntry "extern/(internal/reflectlite.Value).Set.unaddressable")
    let val ← loadVar src b
    if ← Rtype.directlyAssignable dst src then storeVar dst a val
    else if ← Rtype.implements dst src then
      if (← Rtype.kind src) == 20 then
        match val with
        | .nilIface => unsupported (.noEntry "extern/reflectlite: a nil value of one interface type handed on as a value of another")
        | _ => storeVar dst a val
      else storeVar dst a (.iface src val)
    else panicString ("reflectlite.Set: value of type " ++ (← Rtype.spelt src) ++ " is not assignable to type " ++ (← Rtype.spelt dst))
    pure (.tuple #[])) := rfl
theorem bo_set (ta b : Addr) (k : Int) (old : Value) (W : World) (hb : W.cell? b = some (.int .i64 k)) (ht : W.cell? ta = some old) (hf : W.frozen? ta = false) :
    (ReflectliteValue.set #[.agg #[.pointer (some ⟨3, 67, none⟩), .pointer (some ta), .int .u64 409], .agg #[.pointer (some ⟨3, 67, none⟩), .pointer (some b), .int .u64 153]]).run Tryz.prog W
      = .ok (.tuple #[]) (W.setCell ta (.int .i64 k)) := by
  rw [rl_set]
  simp only [Sem.run_bind, bo_partsA, bo_partsS, Result.andThen]
  simp [ReflectliteValue.flagAddr, loadVar, loadCells, loadCellsFrom, hb, Result.andThen, bo_direct, storeVar, Value.cells, storeCells, Addr.add]
  rw [run_store Tryz.prog W ta _ _ (by rfl)]
  simp [ht, hf]
theorem bo_mKind (h : Value) (w : World) : (Go.method 310 132 (.agg #[h]) "Kind").run Tryz.prog w = .ok (136, h) w := by kernel_rfl
theorem bo_mElem (h : Value) (w : World) : (Go.method 310 132 (.agg #[h]) "Elem").run Tryz.prog w = .ok (146, .agg #[h]) w := by kernel_rfl
theorem bo_mImpl (h : Value) (w : World) : (Go.method 310 132 (.agg #[h]) "Implements").run Tryz.prog w = .ok (147, .agg #[h]) w := by kernel_rfl
theorem bo_mAssign (h : Value) (w : World) : (Go.method 310 132 (.agg #[h]) "AssignableTo").run Tryz.prog w = .ok (144, .agg #[h]) w := by kernel_rfl
set_option maxHeartbeats 4000000 in
set_option maxRecDepth 100000 in
theorem as_hit (k : Int) (t : Addr) (old : Value) (w : World) (hg : Handle w) (hlt : 2 < w.heap.size) (ht0 : w.cell? t = some old) (hf0 : w.frozen? t = false) :
    Calls Tryz.prog 34 #[.iface 67 (.agg #[.int .i64 k]), .iface 69 (.pointer (some t))] w fun ev w' => ev = .returned (.bool true) ∧ w' = ((((w.alloc (.cells #[.pointer (some t)] 69)).alloc (.cells #[.pointer (some ⟨3, 69, none⟩), .pointer (some ⟨w.heap.size, 0, none⟩), .int .u64 150] 100)).alloc (.cells #[.pointer (some ⟨3, 69, none⟩), .pointer (some ⟨w.heap.size, 0, none⟩), .int .u64 150] 100)).alloc (.cells #[.int .i64 k] 67)).setCell t (.int .i64 k) := by
  have h6 := @run_callFunc_extern Tryz.prog 63 _ (fun args => ReflectliteValue.unpack (args.getD 0 (.tuple #[]))) Tryz.func63 (by kernel_rfl) (by kernel_rfl) (by kernel_rfl) (by kernel_rfl)
  have h7 := @run_callFunc_extern Tryz.prog 64 _ (ReflectliteValue.methodAny (ReflectliteValue.valueError "reflectlite.Value.Type" 0) (fun t _ _ _ => ReflectliteType.toType t)) Tryz.func64 (by kernel_rfl) (by kernel_rfl) (by kernel_rfl) (by kernel_rfl)
  have h8 := @run_callFunc_extern Tryz.prog 65 _ (ReflectliteValue.method (ReflectliteValue.valueError "reflectlite.Value.IsNil" 0) ReflectliteValue.isNil) Tryz.func65 (by kernel_rfl) (by kernel_rfl) (by kernel_rfl) (by kernel_rfl)
  have h27 := @run_callFunc_extern Tryz.prog 136 _ (ReflectliteType.abiMethod fun t => do pure (.int .u8 (← Rtype.kind t))) Tryz.func136 (by kernel_rfl) (by kernel_rfl) (by kernel_rfl) (by kernel_rfl)
  have h37 := @run_callFunc_extern Tryz.prog 146 _ (ReflectliteType.method ReflectliteType.elem) Tryz.func146 (by kernel_rfl) (by kernel_rfl) (by kernel_rfl) (by kernel_rfl)
  have h38 := @run_callFunc_extern Tryz.prog 147 _ (ReflectliteType.relation "Implements" ReflectliteType.implements_) Tryz.func147 (by kernel_rfl) (by kernel_rfl) (by kernel_rfl) (by kernel_rfl)
  have h10 := @run_callFunc_extern Tryz.prog 88 _ ReflectliteType.typeOf Tryz.func88 (by kernel_rfl) (by kernel_rfl) (by kernel_rfl) (by kernel_rfl)
  have h35 := @run_callFunc_extern Tryz.prog 144 _ (ReflectliteType.relation "AssignableTo" ReflectliteType.assignableTo) Tryz.func144 (by kernel_rfl) (by kernel_rfl) (by kernel_rfl) (by kernel_rfl)
  have h11 := @run_callFunc_extern Tryz.prog 89 _ (ReflectliteValue.method (ReflectliteValue.valueError "reflectlite.Value.Elem" 0) ReflectliteValue.elem) Tryz.func89 (by kernel_rfl) (by kernel_rfl) (by kernel_rfl) (by kernel_rfl)
  have h12 := @run_callFunc_extern Tryz.prog 90 _ ReflectliteValue.set Tryz.func90 (by kernel_rfl) (by kernel_rfl) (by kernel_rfl) (by kernel_rfl)
  have tO := bo_typeOf
  have mA := bo_mAssign
  have a25 := bo_assignable
  have v25 := bo_valueOfS
  have f6 := bo_valueOf
  have f7 := bo_type
  have mK := bo_mKind
  have mE := bo_mElem
  have mI := bo_mImpl
  have k27 := bo_kindP
  have k25 := bo_kindS
  have e27 := bo_elemT
  have i25 := bo_implements
  have n8 := bo_isNil ⟨w.heap.size, 0, none⟩ t ((w.alloc (.cells #[.pointer (some t)] 69)).alloc (.cells #[.pointer (some ⟨3, 69, none⟩), .pointer (some ⟨w.heap.size, 0, none⟩), .int .u64 150] 100)) (by simp)
  have hg2 : ((w.alloc (.cells #[.pointer (some t)] 69)).alloc (.cells #[.pointer (some ⟨3, 69, none⟩), .pointer (some ⟨w.heap.size, 0, none⟩), .int .u64 150] 100)).cell? ⟨2, 0, none⟩ = some (.iface 132 (.agg #[.pointer (some ⟨3, 63, none⟩)])) := by
    rw [World.cell?_alloc_lt _ _ ⟨2, 0, none⟩ (by simp <;> omega), World.cell?_alloc_lt _ _ ⟨2, 0, none⟩ hlt]; exact hg
  have htl : t.block < w.heap.size := by
    rcases Nat.lt_or_ge t.block w.heap.size with h | h
    · exact h
    · simp [World.cell?, Array.getElem?_eq_none h] at ht0
  have el := bo_elemV ⟨w.heap.size, 0, none⟩ t (((w.alloc (.cells #[.pointer (some t)] 69)).alloc (.cells #[.pointer (some ⟨3, 69, none⟩), .pointer (some ⟨w.heap.size, 0, none⟩), .int .u64 150] 100)).alloc (.cells #[.pointer (some ⟨3, 69, none⟩), .pointer (some ⟨w.heap.size, 0, none⟩), .int .u64 150] 100)) (by rw [World.cell?_alloc_lt _ _ ⟨w.heap.size, 0, none⟩ (by simp; omega)]; simp)
  have st := bo_set t ⟨w.heap.size + 1 + 1 + 1, 0, none⟩ k old ((((w.alloc (.cells #[.pointer (some t)] 69)).alloc (.cells #[.pointer (some ⟨3, 69, none⟩), .pointer (some ⟨w.heap.size, 0, none⟩), .int .u64 150] 100)).alloc (.cells #[.pointer (some ⟨3, 69, none⟩), .pointer (some ⟨w.heap.size, 0, none⟩), .int .u64 150] 100)).alloc (.cells #[.int .i64 k] 67))
    (by rw [World.cell?_alloc_at _ _ _ _ (by simp)]; rfl)
    (by rw [World.cell?_alloc_lt _ _ t (by simp; omega), World.cell?_alloc_lt _ _ t (by simp; omega), World.cell?_alloc_lt _ _ t (by simp; omega), World.cell?_alloc_lt _ _ t htl]; exact ht0)
    (by rw [World.frozen?_alloc_old _ _ t (by simp; omega), World.frozen?_alloc_old _ _ t (by simp; omega), World.frozen?_alloc_old _ _ t (by simp; omega), World.frozen?_alloc_old _ _ t (Nat.ne_of_lt htl)]; exact hf0)
  clear hg ht0 hf0
  go_enter Tryz.func34, Tryz.ntmps34
  go_wp2
  refine wp_loop_rounds 1 ?_
  rw [rounds_succ]
  go_wp2
  go_ret
  exact ⟨rfl, rfl⟩
end Go.Proofs.YtoedefjngipeiaaGreatDoor

/- What the listed handle of the type error gives. -/
namespace Go.Proofs.YtoedefjngipeiaaGreatDoor
open Go.ChangeShapes Go.WideShapes Go.ChangeAt Go.WideMaps Go.WideElems Go.RowKit

theorem own : ownKnob Tryz.prog.godebug = none := by kernel_rfl
theorem laidOut : laidOutB Tryz.prog = true := by kernel_rfl
theorem gErr : Tryz.prog.globalNamed "errors.errorType" = some 2 := by kernel_rfl
theorem rtErr : (Tryz.prog.cutTypes.find? (·.1 == "internal/reflectlite.rtype")).map (·.2) = some 132 := by kernel_rfl
theorem rowErr : ((List.range Tryz.prog.types.size).filter fun t => Tryz.prog.rowNamed t [101, 114, 114, 111, 114]) = [63] := by kernel_rfl
def laidList : List (String × DataW Unit) := [("errors.errorType", Rows.laid_errors_errorType)]
theorem handle_of_met {W : World} (h : handlesMet Tryz.prog [("errors.errorType", Rows.laid_errors_errorType)] W) : Handle W ∧ 2 < W.heap.size := by
  obtain ⟨name, u, ty, e1, e2, e3, e4, e5⟩ := h _ (List.mem_singleton.2 rfl)
  have en : name = [101, 114, 114, 111, 114] := (Option.some.inj e1).symm
  subst en
  obtain rfl := Option.some.inj (rtErr.symm.trans e2)
  have hm : ty ∈ (List.range Tryz.prog.types.size).filter fun t => Tryz.prog.rowNamed t [101, 114, 114, 111, 114] := List.mem_filter.2 ⟨List.mem_range.2 e3, e4⟩
  rw [rowErr] at hm
  obtain rfl := List.mem_singleton.1 hm
  have hh : typeHandle Tryz.prog 63 = .pointer (some ⟨3, 63, none⟩) := by kernel_rfl
  rw [hh] at e5
  have hc : Handle W := by unfold Handle; simpa using World.var?_cell gErr e5 0
  refine ⟨hc, ?_⟩
  by_cases hz : 2 < W.heap.size
  · exact hz
  · have e : W.heap[2]? = Option.none := Array.getElem?_eq_none (by omega)
    simp [Handle, World.cell?, e] at hc
theorem handle_of_laid {W : World} (h : laidMetH Tryz.prog laidList W) : Handle W ∧ 2 < W.heap.size := by
  have h' : laidMet Tryz.prog [] W ∧ handlesMet Tryz.prog [("errors.errorType", Rows.laid_errors_errorType)] W := h
  exact handle_of_met h'.2
theorem door_met (os : Os) (args : Array Value) : laidMetH Tryz.prog laidList ((World.doorLaid Tryz.prog 21 os).forCall (fun _ _ => 0) ⟨#[], args, []⟩).memory :=
  laidMetH_of_parts3 (fuel := 8) (laidMet_of_run' 8 (by kernel_rfl) (by kernel_rfl)) (by kernel_rfl) (by kernel_rfl)
end Go.Proofs.YtoedefjngipeiaaGreatDoor

/- Floats of 64 bits as exact numbers: plain facts on the words, no program is spoken of here. -/
namespace Go.Proofs.YtoedefjngipeiaaGreatDoor
open Ieee

theorem cut_zero (neg : Bool) (n : Nat) : Toward.even.cut neg n 0 = n := by
  simp [Toward.cut]
  omega
theorem log2_mul (n k : Nat) (hn : 0 < n) : (n * 2 ^ k).log2 = n.log2 + k := by
  rw [Nat.log2_eq_iff (Nat.ne_of_gt (Nat.mul_pos hn (Nat.two_pow_pos k)))]
  have h1 := Nat.log2_self_le (Nat.ne_of_gt hn)
  have h2 := Nat.lt_log2_self (n := n)
  have hk : 0 < 2 ^ k := Nat.two_pow_pos k
  constructor
  · rw [Nat.pow_add]; exact Nat.mul_le_mul_right _ h1
  · rw [show n.log2 + k + 1 = (n.log2 + 1) + k by omega, Nat.pow_add]; exact Nat.mul_lt_mul_of_pos_right h2 hk
theorem cut_mul (neg : Bool) (n d k : Nat) (hn : 0 < n) : Toward.even.cut neg (n * 2 ^ k) (d + k) = Toward.even.cut neg n d := by
  have hk : 0 < 2 ^ k := Nat.two_pow_pos k
  have e : min (d + k) ((n * 2 ^ k).log2 + 2) = min d (n.log2 + 2) + k := by rw [log2_mul n k hn]; omega
  unfold Toward.cut
  simp only [e, Nat.shiftLeft_eq, Nat.one_mul]
  generalize min d (n.log2 + 2) = g
  rw [Nat.pow_add, Nat.mul_div_mul_right _ _ hk, Nat.mul_mod_mul_right]
  have e1 : (2 ^ g * 2 ^ k < 2 * (n % 2 ^ g * 2 ^ k)) ↔ 2 ^ g < 2 * (n % 2 ^ g) := by
    rw [← Nat.mul_assoc]; exact Nat.mul_lt_mul_right hk
  have e2 : (2 ^ g * 2 ^ k = 2 * (n % 2 ^ g * 2 ^ k)) ↔ 2 ^ g = 2 * (n % 2 ^ g) := by
    rw [← Nat.mul_assoc]; exact Nat.mul_left_inj (Nat.ne_of_gt hk)
  have e3 : (2 ^ g * 2 ^ k == 2 * (n % 2 ^ g * 2 ^ k)) = (2 ^ g == 2 * (n % 2 ^ g)) := by
    rw [Bool.eq_iff_iff]; simp only [beq_iff_eq]; exact e2
  simp only [e1, e3]
theorem cut_exact (neg : Bool) (n k : Nat) (hn : 0 < n) : Toward.even.cut neg (n * 2 ^ k) k = n := by
  have h := cut_mul neg n 0 k hn
  rw [Nat.zero_add, cut_zero] at h
  exact h

/-- A number's word hangs on the number alone. -/
theorem nearest_scale (f : Format) (neg : Bool) (m k : Nat) (p : Int) : f.nearest neg (m * 2 ^ k) (p - k) = f.nearest neg m p := by
  by_cases hm : m = 0
  · subst hm; simp [Format.nearest]
  · have hm' : 0 < m := Nat.pos_of_ne_zero hm
    have hk : 0 < 2 ^ k := Nat.two_pow_pos k
    have hmk : m * 2 ^ k ≠ 0 := Nat.ne_of_gt (Nat.mul_pos hm' hk)
    unfold Format.nearest
    simp only [hm, hmk, if_false, log2_mul m k hm', Nat.shiftLeft_eq]
    have e : p - (k : Int) + ((m.log2 + k : Nat) : Int) - (f.fractionBits : Int) = p + (m.log2 : Int) - f.fractionBits := by omega
    rw [e]
    generalize max (p + (m.log2 : Int) - f.fractionBits) f.leastPlace = last
    have key : Toward.even.cut neg (m * 2 ^ k * 2 ^ (p - k - last).toNat) (last - (p - k)).toNat = Toward.even.cut neg (m * 2 ^ (p - last).toNat) (last - p).toNat := by
      by_cases h1 : last ≤ p - k
      · have a1 : (last - (p - k)).toNat = 0 := by omega
        have a2 : (last - p).toNat = 0 := by omega
        rw [a1, a2, cut_zero, cut_zero, Nat.mul_assoc, ← Nat.pow_add, show k + (p - k - last).toNat = (p - last).toNat by omega]
      · have b1 : (p - k - last).toNat = 0 := by omega
        rw [b1, Nat.pow_zero, Nat.mul_one]
        by_cases h2 : last ≤ p
        · have b2 : (last - p).toNat = 0 := by omega
          rw [b2, cut_zero]
          have b3 : k = (p - last).toNat + (last - (p - k)).toNat := by omega
          have : m * 2 ^ k = m * 2 ^ (p - last).toNat * 2 ^ (last - (p - k)).toNat := by
            rw [Nat.mul_assoc, ← Nat.pow_add, ← b3]
          rw [this]
          exact cut_exact neg _ _ (Nat.mul_pos hm' (Nat.two_pow_pos _))
        · have b2 : (p - last).toNat = 0 := by omega
          rw [b2, Nat.pow_zero, Nat.mul_one, show (last - (p - k)).toNat = (last - p).toNat + k by omega]
          exact cut_mul neg m _ k hm'
    rw [key]
end Go.Proofs.YtoedefjngipeiaaGreatDoor

/- Floats of 64 bits: words, rungs, numbers in their own form. -/
namespace Go.Proofs.YtoedefjngipeiaaGreatDoor
open Ieee

/-- The word of a number. -/
def fw (neg : Bool) (m : Nat) (p : Int) : Nat := double.nearest neg m p
theorem fw_scale (neg : Bool) (m k : Nat) (p : Int) : fw neg (m * 2 ^ k) (p - k) = fw neg m p := nearest_scale double neg m k p
def signBit (neg : Bool) : Nat := if neg then 9223372036854775808 else 0
theorem word_eq (neg : Bool) (r : Nat) : double.word neg r = signBit neg + r := by
  cases neg
  · show r = 0 + r; omega
  · rfl
theorem infRung_eq : double.infRung = 9218868437227405312 := by decide
theorem binade_eq : double.binade = 4503599627370496 := by decide
theorem least_eq : double.leastPlace = -1074 := by decide
theorem weight_eq : double.signWeight = 9223372036854775808 := by decide
theorem frac_eq : double.fractionBits = 52 := rfl

/-- A number as a float has it: 53 digits, or fewer at the last place. -/
def Canon (m : Nat) (p : Int) : Prop := (4503599627370496 ≤ m ∧ m < 9007199254740992 ∧ -1074 ≤ p ∧ p ≤ 971) ∨ (m < 4503599627370496 ∧ p = -1074)
/-- Its rung. -/
def rung (m : Nat) (p : Int) : Nat := (p + 1074).toNat * 4503599627370496 + m
theorem log2_53 (m : Nat) (h1 : 4503599627370496 ≤ m) (h2 : m < 9007199254740992) : m.log2 = 52 := by
  rw [Nat.log2_eq_iff (by omega)]
  exact ⟨h1, h2⟩
theorem log2_lt (m : Nat) (h0 : m ≠ 0) (h2 : m < 4503599627370496) : m.log2 < 52 := by
  have h : m.log2 < 52 ↔ m < 2 ^ 52 := Nat.log2_lt h0
  exact h.2 h2
theorem rung_lt (m : Nat) (p : Int) (h : Canon m p) : rung m p < 9218868437227405312 := by
  unfold rung
  rcases h with ⟨h1, h2, h3, h4⟩ | ⟨h1, rfl⟩ <;> omega
theorem fw_canon (neg : Bool) (m : Nat) (p : Int) (h : Canon m p) : fw neg m p = signBit neg + rung m p := by
  have hr := rung_lt m p h
  unfold fw Format.nearest
  by_cases h0 : m = 0
  · subst h0
    have hp : p = -1074 := by rcases h with ⟨h1, _⟩ | ⟨_, hp⟩ <;> omega
    subst hp
    rw [if_pos rfl, word_eq]
    rfl
  · rw [if_neg h0]
    simp only [word_eq, infRung_eq, binade_eq, least_eq, frac_eq]
    have e : max (p + (m.log2 : Int) - ((52 : Nat) : Int)) (-1074) = p := by
      rcases h with ⟨h1, h2, h3, h4⟩ | ⟨h1, rfl⟩
      · rw [log2_53 m h1 h2]; omega
      · have := log2_lt m h0 h1; omega
    rw [e, show (p - p).toNat = 0 by omega, Nat.shiftLeft_zero, cut_zero, show (p - -1074).toNat = (p + 1074).toNat by omega]
    show signBit neg + min (rung m p) _ = _
    rw [Nat.min_eq_left (by omega)]
theorem sign_read (neg : Bool) (r : Nat) (h : r < 9223372036854775808) : ((signBit neg + r) / 9223372036854775808 % 2 == 1) = neg ∧ (signBit neg + r) % 9223372036854775808 = r := by
  cases neg
  · have e : signBit false = 0 := rfl
    rw [e]
    constructor
    · rw [show (0 + r) / 9223372036854775808 = 0 by omega]; rfl
    · omega
  · have e : signBit true = 9223372036854775808 := rfl
    rw [e]
    constructor
    · rw [show (9223372036854775808 + r) / 9223372036854775808 = 1 by omega]; rfl
    · omega
/-- What a number's word stands for: that number. -/
theorem read_canon (neg : Bool) (m : Nat) (p : Int) (h : Canon m p) : double.read (fw neg m p) = .number neg m p := by
  have hr := rung_lt m p h
  obtain ⟨s1, s2⟩ := sign_read neg (rung m p) (by omega)
  rw [fw_canon neg m p h]
  unfold Format.read
  simp only [weight_eq, binade_eq, infRung_eq, least_eq, s1, s2]
  unfold rung at hr ⊢
  rcases h with ⟨h1, h2, h3, h4⟩ | ⟨h1, rfl⟩
  · have e0 : ¬ ((p + 1074).toNat * 4503599627370496 + m < 4503599627370496) := by omega
    have e1 : ((p + 1074).toNat * 4503599627370496 + m) % 4503599627370496 = m - 4503599627370496 := by omega
    have e2 : ((p + 1074).toNat * 4503599627370496 + m) / 4503599627370496 = (p + 1074).toNat + 1 := by omega
    have a1 : 4503599627370496 + (m - 4503599627370496) = m := by omega
    have a2 : (-1074 : Int) + (((p + 1074).toNat + 1 - 1 : Nat) : Int) = p := by omega
    rw [if_neg e0, if_pos hr, e1, e2, a1, a2]
  · have e0 : ((-1074 : Int) + 1074).toNat * 4503599627370496 + m = m := by omega
    rw [e0, if_pos h1]
/-- A word is a NaN's, an infinity's, or a number's. -/
theorem word_cases (x : Nat) (hx : x < 18446744073709551616) :
    (∃ s n, double.read x = .nan s n) ∨ (∃ s, x = signBit s + 9218868437227405312 ∧ double.read x = .infinity s) ∨ (∃ s m p, Canon m p ∧ x = fw s m p) := by
  obtain ⟨s, r, hr, rfl⟩ : ∃ s r, r < 9223372036854775808 ∧ x = signBit s + r := by
    by_cases h : x < 9223372036854775808
    · exact ⟨false, x, h, by show x = 0 + x; omega⟩
    · exact ⟨true, x - 9223372036854775808, by omega, by show x = 9223372036854775808 + _; omega⟩
  obtain ⟨s1, s2⟩ := sign_read s r hr
  have hread : double.read (signBit s + r) = if r < 4503599627370496 then .number s r (-1074) else if r < 9218868437227405312 then .number s (4503599627370496 + r % 4503599627370496) (-1074 + ((r / 4503599627370496 - 1 : Nat) : Int)) else if r = 9218868437227405312 then .infinity s else .nan s (r - 9218868437227405312) := by
    unfold Format.read
    simp only [weight_eq, binade_eq, infRung_eq, least_eq, s1, s2]
  by_cases h1 : r < 4503599627370496
  · refine .inr (.inr ⟨s, r, -1074, .inr ⟨h1, rfl⟩, ?_⟩)
    rw [fw_canon s r (-1074) (.inr ⟨h1, rfl⟩)]
    unfold rung
    omega
  · by_cases h2 : r < 9218868437227405312
    · have hc : Canon (4503599627370496 + r % 4503599627370496) (-1074 + ((r / 4503599627370496 - 1 : Nat) : Int)) := .inl ⟨by omega, by omega, by omega, by omega⟩
      refine .inr (.inr ⟨s, _, _, hc, ?_⟩)
      rw [fw_canon s _ _ hc]
      unfold rung
      omega
    · by_cases h3 : r = 9218868437227405312
      · refine .inr (.inl ⟨s, by omega, ?_⟩)
        rw [hread, if_neg h1, if_neg h2, if_pos h3]
      · refine .inl ⟨s, r - 9218868437227405312, ?_⟩
        rw [hread, if_neg h1, if_neg h2, if_neg h3]
end Go.Proofs.YtoedefjngipeiaaGreatDoor

