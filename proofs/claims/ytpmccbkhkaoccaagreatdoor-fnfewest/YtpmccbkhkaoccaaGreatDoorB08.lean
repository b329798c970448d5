import Derived.WalkKit
import Derived.Test.YtpmccbkhkaoccaaGreatDoorB06
import Derived.Test.YtpmccbkhkaoccaaGreatDoorB07
import Derived.Test.YtpmccbkhkaoccaaGreatDoorChecked
import Derived.LaidEql
import Derived.Stop.Asserts
import Derived.RowKitTokens
/- A number as an odd one times a power of two: plain. -/
namespace Go.Proofs.YtpmccbkhkaoccaaGreatDoor

theorem odd_some (n : Nat) : 0 < n → ∃ q t, n = q * 2 ^ t ∧ q % 2 = 1 := by
  induction n using Nat.strongRecOn with
  | ind n ih =>
    intro h
    by_cases h1 : n % 2 = 1
    · exact ⟨n, 0, by rw [Nat.pow_zero, Nat.mul_one], h1⟩
    · obtain ⟨q, t, hq, hq1⟩ := ih (n / 2) (by omega) (by omega)
      refine ⟨q, t + 1, ?_, hq1⟩
      rw [Nat.pow_succ, ← Nat.mul_assoc, ← hq]; omega
theorem odd_one (q t q' t' : Nat) (h : q * 2 ^ t = q' * 2 ^ t') (h1 : q % 2 = 1) (h2 : q' % 2 = 1) : q = q' ∧ t = t' := by
  have key : ∀ (q t q' t' : Nat), q * 2 ^ t = q' * 2 ^ t' → q % 2 = 1 → t < t' → False := by
    intro q t q' t' h h1 hlt
    obtain ⟨d, hd⟩ : ∃ d, t' = t + (d + 1) := ⟨t' - t - 1, by omega⟩
    rw [hd, Nat.pow_add, Nat.mul_comm (2 ^ t), ← Nat.mul_assoc] at h
    have h3 := Nat.eq_of_mul_eq_mul_right (Nat.two_pow_pos t) h
    rw [Nat.pow_succ, ← Nat.mul_assoc] at h3
    omega
  rcases Nat.lt_trichotomy t t' with hlt | rfl | hlt
  · exact (key q t q' t' h h1 hlt).elim
  · exact ⟨Nat.eq_of_mul_eq_mul_right (Nat.two_pow_pos t) h, rfl⟩
  · exact (key q' t' q t h.symm h2 hlt).elim
end Go.Proofs.YtpmccbkhkaoccaaGreatDoor

/- What the program's writers want of the world. -/
namespace Go.Proofs.YtpmccbkhkaoccaaGreatDoor
open Go.RowKit

def WrG (w : World) : Prop := DTab w ∧ Tab w ∧ 1 < w.heap.size ∧ 3 < w.heap.size
theorem WrG.below {w w' : World} (h : WrG w) (hb : Below w.heap.size w w') : WrG w' :=
  ⟨h.1.below h.2.2.1 hb, fun i hi => by rw [hb.cell (p := ⟨3, i, none⟩) h.2.2.2]; exact h.2.1 i hi, Nat.lt_of_lt_of_le h.2.2.1 hb.size, Nat.lt_of_lt_of_le h.2.2.2 hb.size⟩
/-- Every float has its parts. -/
theorem parts_ex (x : Nat) (hx : x < 18446744073709551616) : ∃ k s m e, partsV x k s m e := by
  rcases float_cases x hx with h | ⟨s, rfl⟩ | ⟨s, n, p, hc, rfl⟩
  · exact ⟨3, false, 0, 0, .inl ⟨h, rfl, rfl, rfl, rfl⟩⟩
  · exact ⟨2, s, 0, 0, .inr (.inl ⟨rfl, rfl, rfl, rfl⟩)⟩
  · by_cases h0 : n = 0
    · subst h0
      rw [fw_zero]
      exact ⟨0, s, 0, 0, .inr (.inr (.inl ⟨rfl, rfl, rfl, rfl⟩))⟩
    · obtain ⟨q, t, hq, hq1⟩ := odd_some n (by omega)
      exact ⟨1, s, q, p + t, .inr (.inr (.inr ⟨n, p, q, t, hc, by omega, rfl, hq, hq1, rfl, rfl, rfl⟩))⟩
theorem parts_bounds (n : Nat) (p : Int) (q t : Nat) (hc : Canon n p) (h0 : 0 < n) (hq : n = q * 2 ^ t) : q ≤ 9007199254740992 ∧ 0 < q ∧ -1074 ≤ p + t ∧ p + t ≤ 1023 := by
  have h1 : n < 9007199254740992 := by rcases hc with h | h <;> omega
  have hq0 : 0 < q := Nat.pos_of_ne_zero fun h => by rw [h, Nat.zero_mul] at hq; omega
  have ht : t ≤ 52 := few_halves n t (q : Int) (by rw [Int.toNat_natCast]; exact hq) (by omega) h1
  have hqn : q ≤ n := by rw [hq]; exact Nat.le_mul_of_pos_right _ (Nat.two_pow_pos t)
  rcases hc with h | h <;> omega
end Go.Proofs.YtpmccbkhkaoccaaGreatDoor

/- errors.As at a struct that is an error. -/
namespace Go.Proofs.YtpmccbkhkaoccaaGreatDoor
open Go.ChangeShapes Go.WideShapes Go.RowKit Go.Extern.Stop Go.Stop Go.Extern

/-- No error, no answer. -/
theorem as_none (t : Value) (w : World) : Calls Tryz.prog 56 #[.nilIface, t] w fun e w' => e = .returned (.bool false) ∧ w' = w := by
  go_enter Tryz.func56, Tryz.ntmps56
  go_wp2
  go_ret
  exact ⟨rfl, rfl⟩
/-- The handle of the type error lies in its variable. -/
def Handle (w : World) : Prop := w.cell? ⟨2, 0, none⟩ = some (.iface 168 (.agg #[.pointer (some ⟨7, 94, none⟩)]))
/-! Closed facts: the pointer's type, the struct's type. -/
theorem bo_valueOf (t : Addr) (w : World) : (ReflectliteValue.unpack (.iface 100 (.pointer (some t)))).run Tryz.prog w
    = .ok (.agg #[.pointer (some ⟨7, 100, none⟩), .pointer (some ⟨w.heap.size, 0, none⟩), .int .u64 150]) (w.alloc (.cells #[.pointer (some t)] 100)) := by kernel_rfl
theorem bo_type (a : Addr) (w : World) : (ReflectliteValue.methodAny (ReflectliteValue.valueError "reflectlite.Value.Type" 0) (fun t _ _ _ => ReflectliteType.toType t) #[.agg #[.pointer (some ⟨7, 100, none⟩), .pointer (some a), .int .u64 150]]).run Tryz.prog w
    = .ok (.iface 168 (.agg #[.pointer (some ⟨7, 100, none⟩)])) w := by kernel_rfl
theorem bo_kindP (w : World) : ((ReflectliteType.abiMethod fun t => (fun a : Nat => Value.int IntKind.u8 (a : Int)) <$> Rtype.kind t) #[.pointer (some ⟨7, 100, none⟩)]).run Tryz.prog w = .ok (.int .u8 22) w := by kernel_rfl
theorem bo_kindS (w : World) : ((ReflectliteType.abiMethod fun t => (fun a : Nat => Value.int IntKind.u8 (a : Int)) <$> Rtype.kind t) #[.pointer (some ⟨7, 98, none⟩)]).run Tryz.prog w = .ok (.int .u8 25) w := by kernel_rfl
theorem rl_method (z : Sem Value) (f : TypeId → Addr → Nat → Nat → Sem Value) (v : Value) :
    ReflectliteValue.method z f #[v] = (do match ← ReflectliteValue.parts v with | none => z | some (t, a, fl) => f t a fl (fl % 32)) := rfl
theorem bo_partsP (a : Addr) (w : World) : (ReflectliteValue.parts (.agg #[.pointer (some ⟨7, 100, none⟩), .pointer (some a), .int .u64 150])).run Tryz.prog w = .ok (some (100, a, 150)) w := by kernel_rfl
theorem bo_isNil (a p : Addr) (W : World) (ha : W.cell? a = some (.pointer (some p))) :
    (ReflectliteValue.method (ReflectliteValue.valueError "reflectlite.Value.IsNil" 0) ReflectliteValue.isNil #[.agg #[.pointer (some ⟨7, 100, none⟩), .pointer (some a), .int .u64 150]]).run Tryz.prog W = .ok (.bool false) W := by
  rw [rl_method]
  simp only [Sem.run_bind, bo_partsP, Result.andThen]
  simp [ReflectliteValue.isNil, loadVar, isAgg, underlying, Tryz.underlying100, ha, Result.andThen]
theorem bo_elemT (w : World) : (ReflectliteType.method ReflectliteType.elem #[.agg #[.pointer (some ⟨7, 100, none⟩)]]).run Tryz.prog w = .ok (.iface 168 (.agg #[.pointer (some ⟨7, 98, none⟩)])) w := by kernel_rfl
theorem bo_implements (w : World) : (ReflectliteType.relation "Implements" ReflectliteType.implements_ #[.agg #[.pointer (some ⟨7, 98, none⟩)], .iface 168 (.agg #[.pointer (some ⟨7, 94, none⟩)])]).run Tryz.prog w = .ok (.bool true) w := by kernel_rfl
theorem bo_typeOf (v : Value) (w : World) : (ReflectliteType.typeOf #[.iface 98 v]).run Tryz.prog w = .ok (.iface 168 (.agg #[.pointer (some ⟨7, 98, none⟩)])) w := by kernel_rfl
theorem bo_assignable (w : World) : (ReflectliteType.relation "AssignableTo" ReflectliteType.assignableTo #[.agg #[.pointer (some ⟨7, 98, none⟩)], .iface 168 (.agg #[.pointer (some ⟨7, 98, none⟩)])]).run Tryz.prog w = .ok (.bool true) w := by kernel_rfl
theorem bo_valueOfS (x : Value) (w : World) : (ReflectliteValue.unpack (.iface 98 (.agg #[x]))).run Tryz.prog w
    = .ok (.agg #[.pointer (some ⟨7, 98, none⟩), .pointer (some ⟨w.heap.size, 0, none⟩), .int .u64 153]) (w.alloc (.cells #[x] 98)) := by kernel_rfl
theorem bo_elemOf (w : World) : (Rtype.elem? 100).run Tryz.prog w = .ok (some 98) w := by kernel_rfl
theorem bo_mk (p : Addr) (w : World) : (ReflectliteValue.mk 98 p ReflectliteValue.flagAddr).run Tryz.prog w = .ok (.agg #[.pointer (some ⟨7, 98, none⟩), .pointer (some p), .int .u64 409]) w := by kernel_rfl
theorem bo_elemV (a p : Addr) (W : World) (ha : W.cell? a = some (.pointer (some p))) :
    (ReflectliteValue.method (ReflectliteValue.valueError "reflectlite.Value.Elem" 0) ReflectliteValue.elem #[.agg #[.pointer (some ⟨7, 100, none⟩), .pointer (some a), .int .u64 150]]).run Tryz.prog W
      = .ok (.agg #[.pointer (some ⟨7, 98, none⟩), .pointer (some p), .int .u64 409]) W := by
  rw [rl_method]
  simp only [Sem.run_bind, bo_partsP, Result.andThen]
  simp [ReflectliteValue.elem, loadVar, isAgg, underlying, Tryz.underlying100, ha, Result.andThen, bo_elemOf, bo_mk]
theorem bo_partsA (a : Addr) (w : World) : (ReflectliteValue.parts (.agg #[.pointer (some ⟨7, 98, none⟩), .pointer (some a), .int .u64 409])).run Tryz.prog w = .ok (some (98, a, 409)) w := by kernel_rfl
theorem bo_partsS (a : Addr) (w : World) : (ReflectliteValue.parts (.agg #[.pointer (some ⟨7, 98, none⟩), .pointer (some a), .int .u64 153])).run Tryz.prog w = .ok (some (98, a, 153)) w := by kernel_rfl
theorem bo_direct (w : World) : (Rtype.directlyAssignable 98 98).run Tryz.prog w = .ok true w := by kernel_rfl
theorem bo_size (w : World) : (sizeOf 98).run Tryz.prog w = .ok 1 w := by kernel_rfl
theorem bo_agg (w : World) : (isAgg 98).run Tryz.prog w = .ok true w := by kernel_rfl
theorem rl_set (v x : Value) : ReflectliteValue.set #[v, x] = (do
    let (some (dst, a, fl), some (src, b, _)) := (← ReflectliteValue.parts v, ← ReflectliteValue.parts x)
      | unsupported (.noEntry "extern/(internal/reflectlite.Value).Set.zeroValue")
    if fl / ReflectliteValue.flagAddr % 2 == 0 then unsupported (.noEntry "extern/(internal/reflectlite.Value).Set.unaddressable")
    let val ← loadVar src b
    if ← Rtype.directlyAssignable dst src then storeVar dst a val
    else if ← Rtype.implements dst src then
      if (← Rtype.kind src) == 20 then
        match val with
        | .nilIface => unsupported (.noEntry "extern/reflectlite: a nil value of one interface type handed on as a value of another")
        | _ => storeVar dst a val
      else storeVar dst a (.iface src val)
    else panicString ("reflectlite.Set: value of type " ++ (← Rtype.spelt src) ++ " is not assignable to type " ++ (← Rtype.spelt dst))
    pure (.tuple #[])) := rfl
theorem bo_set (ta b : Addr) (k : Int) (old : Value) (W : World) (hb : W.cell? b = some (.int .i64 k)) (ht : W.cell? ta = some old) (hf : W.frozen? ta = false) :
    (ReflectliteValue.set #[.agg #[.pointer (some ⟨7, 98, none⟩), .pointer (some ta), .int .u64 409], .agg #[.pointer (some ⟨7, 98, none⟩), .pointer (some b), .int .u64 153]]).run Tryz.prog W
      = .ok (.tuple #[]) (W.setCell ta (.int .i64 k)) := by
  rw [rl_set]
  simp only [Sem.run_bind, bo_partsA, bo_partsS, Result.andThen]
  simp [ReflectliteValue.flagAddr, loadVar, loadCells, loadCellsFrom, hb, Result.andThen, bo_direct, storeVar, Value.cells, storeCells, Addr.add]
  rw [run_store Tryz.prog W ta _ _ (by rfl)]
  simp [ht, hf]
theorem bo_mKind (h : Value) (w : World) : (Go.method 358 168 (.agg #[h]) "Kind").run Tryz.prog w = .ok (163, h) w := by kernel_rfl
theorem bo_mElem (h : Value) (w : World) : (Go.method 358 168 (.agg #[h]) "Elem").run Tryz.prog w = .ok (186, .agg #[h]) w := by kernel_rfl
theorem bo_mImpl (h : Value) (w : World) : (Go.method 358 168 (.agg #[h]) "Implements").run Tryz.prog w = .ok (187, .agg #[h]) w := by kernel_rfl
theorem bo_mAssign (h : Value) (w : World) : (Go.method 358 168 (.agg #[h]) "AssignableTo").run Tryz.prog w = .ok (184, .agg #[h]) w := by kernel_rfl
set_option maxHeartbeats 4000000 in
set_option maxRecDepth 100000 in
theorem as_hit (k : Int) (t : Addr) (old : Value) (w : World) (hg : Handle w) (hlt : 2 < w.heap.size) (ht0 : w.cell? t = some old) (hf0 : w.frozen? t = false) :
    Calls Tryz.prog 56 #[.iface 98 (.agg #[.int .i64 k]), .iface 100 (.pointer (some t))] w fun ev w' => ev = .returned (.bool true) ∧ w' = ((((w.alloc (.cells #[.pointer (some t)] 100)).alloc (.cells #[.pointer (some ⟨7, 100, none⟩), .pointer (some ⟨w.heap.size, 0, none⟩), .int .u64 150] 140)).alloc (.cells #[.pointer (some ⟨7, 100, none⟩), .pointer (some ⟨w.heap.size, 0, none⟩), .int .u64 150] 140)).alloc (.cells #[.int .i64 k] 98)).setCell t (.int .i64 k) := by
  have h6 := @run_callFunc_extern Tryz.prog 84 _ (fun args => ReflectliteValue.unpack (args.getD 0 (.tuple #[]))) Tryz.func84 (by kernel_rfl) (by kernel_rfl) (by kernel_rfl) (by kernel_rfl)
  have h7 := @run_callFunc_extern Tryz.prog 85 _ (ReflectliteValue.methodAny (ReflectliteValue.valueError "reflectlite.Value.Type" 0) (fun t _ _ _ => ReflectliteType.toType t)) Tryz.func85 (by kernel_rfl) (by kernel_rfl) (by kernel_rfl) (by kernel_rfl)
  have h8 := @run_callFunc_extern Tryz.prog 86 _ (ReflectliteValue.method (ReflectliteValue.valueError "reflectlite.Value.IsNil" 0) ReflectliteValue.isNil) Tryz.func86 (by kernel_rfl) (by kernel_rfl) (by kernel_rfl) (by kernel_rfl)
  have h27 := @run_callFunc_extern Tryz.prog 163 _ (ReflectliteType.abiMethod fun t => do pure (.int .u8 (← Rtype.kind t))) Tryz.func163 (by kernel_rfl) (by kernel_rfl) (by kernel_rfl) (by kernel_rfl)
  have h37 := @run_callFunc_extern Tryz.prog 186 _ (ReflectliteType.method ReflectliteType.elem) Tryz.func186 (by kernel_rfl) (by kernel_rfl) (by kernel_rfl) (by kernel_rfl)
  have h38 := @run_callFunc_extern Tryz.prog 187 _ (ReflectliteType.relation "Implements" ReflectliteType.implements_) Tryz.func187 (by kernel_rfl) (by kernel_rfl) (by kernel_rfl) (by kernel_rfl)
  have h10 := @run_callFunc_extern Tryz.prog 111 _ ReflectliteType.typeOf Tryz.func111 (by kernel_rfl) (by kernel_rfl) (by kernel_rfl) (by kernel_rfl)
  have h35 := @run_callFunc_extern Tryz.prog 184 _ (ReflectliteType.relation "AssignableTo" ReflectliteType.assignableTo) Tryz.func184 (by kernel_rfl) (by kernel_rfl) (by kernel_rfl) (by kernel_rfl)
  have h11 := @run_callFunc_extern Tryz.prog 112 _ (ReflectliteValue.method (ReflectliteValue.valueError "reflectlite.Value.Elem" 0) ReflectliteValue.elem) Tryz.func112 (by kernel_rfl) (by kernel_rfl) (by kernel_rfl) (by kernel_rfl)
  have h12 := @run_callFunc_extern Tryz.prog 113 _ ReflectliteValue.set Tryz.func113 (by kernel_rfl) (by kernel_rfl) (by kernel_rfl) (by kernel_rfl)
  have tO := bo_typeOf
  have mA := bo_mAssign
  have a25 := bo_assignable
  have v25 := bo_valueOfS
  have f6 := bo_valueOf
  have f7 := bo_type
  have mK := bo_mKind
  have mE := bo_mElem
  have mI := bo_mImpl
  have k27 := bo_kindP
  have k25 := bo_kindS
  have e27 := bo_elemT
  have i25 := bo_implements
  have n8 := bo_isNil ⟨w.heap.size, 0, none⟩ t ((w.alloc (.cells #[.pointer (some t)] 100)).alloc (.cells #[.pointer (some ⟨7, 100, none⟩), .pointer (some ⟨w.heap.size, 0, none⟩), .int .u64 150] 140)) (by simp)
  have hg2 : ((w.alloc (.cells #[.pointer (some t)] 100)).alloc (.cells #[.pointer (some ⟨7, 100, none⟩), .pointer (some ⟨w.heap.size, 0, none⟩), .int .u64 150] 140)).cell? ⟨2, 0, none⟩ = some (.iface 168 (.agg #[.pointer (some ⟨7, 94, none⟩)])) := by
    rw [World.cell?_alloc_lt _ _ ⟨2, 0, none⟩ (by simp <;> omega), World.cell?_alloc_lt _ _ ⟨2, 0, none⟩ hlt]; exact hg
  have htl : t.block < w.heap.size := by
    rcases Nat.lt_or_ge t.block w.heap.size with h | h
    · exact h
    · simp [World.cell?, Array.getElem?_eq_none h] at ht0
  have el := bo_elemV ⟨w.heap.size, 0, none⟩ t (((w.alloc (.cells #[.pointer (some t)] 100)).alloc (.cells #[.pointer (some ⟨7, 100, none⟩), .pointer (some ⟨w.heap.size, 0, none⟩), .int .u64 150] 140)).alloc (.cells #[.pointer (some ⟨7, 100, none⟩), .pointer (some ⟨w.heap.size, 0, none⟩), .int .u64 150] 140)) (by rw [World.cell?_alloc_lt _ _ ⟨w.heap.size, 0, none⟩ (by simp; omega)]; simp)
  have st := bo_set t ⟨w.heap.size + 1 + 1 + 1, 0, none⟩ k old ((((w.alloc (.cells #[.pointer (some t)] 100)).alloc (.cells #[.pointer (some ⟨7, 100, none⟩), .pointer (some ⟨w.heap.size, 0, none⟩), .int .u64 150] 140)).alloc (.cells #[.pointer (some ⟨7, 100, none⟩), .pointer (some ⟨w.heap.size, 0, none⟩), .int .u64 150] 140)).alloc (.cells #[.int .i64 k] 98))
    (by rw [World.cell?_alloc_at _ _ _ _ (by simp)]; rfl)
    (by rw [World.cell?_alloc_lt _ _ t (by simp; omega), World.cell?_alloc_lt _ _ t (by simp; omega), World.cell?_alloc_lt _ _ t (by simp; omega), World.cell?_alloc_lt _ _ t htl]; exact ht0)
    (by rw [World.frozen?_alloc_old _ _ t (by simp; omega), World.frozen?_alloc_old _ _ t (by simp; omega), World.frozen?_alloc_old _ _ t (by simp; omega), World.frozen?_alloc_old _ _ t (Nat.ne_of_lt htl)]; exact hf0)
  clear hg ht0 hf0
  go_enter Tryz.func56, Tryz.ntmps56
  go_wp2
  refine wp_loop_rounds 1 ?_
  rw [rounds_succ]
  go_wp2
  go_ret
  exact ⟨rfl, rfl⟩
end Go.Proofs.YtpmccbkhkaoccaaGreatDoor

/- Numbers in a base, as plain functions: no program is spoken of here. -/
namespace Go.Proofs.YtpmccbkhkaoccaaGreatDoor
open Go.RowKit

/-- A byte's digit; 'none' for a byte that is none. -/
def digN (none c : Int) : Int := if 48 ≤ c ∧ c ≤ 57 then c - 48 else if 97 ≤ c ∧ c ≤ 122 then c - 97 + 10 else none
theorem digN_lo (none c : Int) (h : 0 ≤ none) : 0 ≤ digN none c := by unfold digN; split <;> (try split) <;> omega
theorem digN_hi (none c : Int) (h : 36 ≤ none) : digN none c ≤ none := by unfold digN; split <;> (try split) <;> omega
theorem digN_same (a b c base : Int) (ha : base ≤ a) (hb : base ≤ b) : (digN a c < base ↔ digN b c < base) ∧ (digN a c < base → digN a c = digN b c) := by
  unfold digN; split <;> (try split) <;> omega

/-- The number that digits tell. -/
def val (b : Int) (l : List UInt8) : Int := l.foldl (fun n c => n * b + digN 99 c.toNat) 0
/-- Every byte is a digit of the base. -/
def good (b : Int) (l : List UInt8) : Prop := ∀ c ∈ l, digN 99 (c.toNat : Int) < b
theorem val_snoc (b : Int) (l : List UInt8) (c : UInt8) : val b (l ++ [c]) = val b l * b + digN 99 c.toNat := by simp [val, List.foldl_append]
theorem le_mul (n b : Int) (hn : 0 ≤ n) (hb : 1 ≤ b) : n ≤ n * b := by
  have h := Int.mul_nonneg hn (show (0 : Int) ≤ b - 1 by omega)
  rw [Int.mul_sub, Int.mul_one] at h
  omega
theorem fold_nonneg (b : Int) (hb : 0 ≤ b) (l : List UInt8) : ∀ n : Int, 0 ≤ n → 0 ≤ l.foldl (fun n c => n * b + digN 99 c.toNat) n := by
  induction l with
  | nil => intro n h; exact h
  | cons c l ih =>
    intro n h
    have hd := digN_lo 99 c.toNat (by omega)
    have hm : 0 ≤ n * b := Int.mul_nonneg h hb
    exact ih _ (show 0 ≤ n * b + digN 99 c.toNat by omega)
theorem val_nonneg (b : Int) (hb : 0 ≤ b) (l : List UInt8) : 0 ≤ val b l := fold_nonneg b hb l 0 (by omega)
theorem val_more (b : Int) (hb : 1 ≤ b) (m : List UInt8) : ∀ l, val b l ≤ val b (l ++ m) := by
  induction m with
  | nil => intro l; simp
  | cons c m ih =>
    intro l
    have h := ih (l ++ [c])
    rw [List.append_assoc] at h
    have hs := val_snoc b l c
    have hd := digN_lo 99 c.toNat (by omega)
    have hm := le_mul (val b l) b (val_nonneg b (by omega) l) hb
    show val b l ≤ val b (l ++ ([c] ++ m))
    omega
theorem val_take (b : Int) (hb : 1 ≤ b) (l : List UInt8) (k : Nat) : val b (l.take k) ≤ val b l := by
  have h := val_more b hb (l.drop k) (l.take k)
  rw [List.take_append_drop] at h
  exact h
theorem take_snoc (s : ByteArray) (k : Nat) (h : k < s.size) : s.data.toList.take (k + 1) = s.data.toList.take k ++ [s[k]] := by
  rw [List.take_succ_eq_append_getElem (by simpa using h)]; rfl
theorem val_step (b : Int) (s : ByteArray) (k : Nat) (h : k < s.size) : val b (s.data.toList.take (k + 1)) = val b (s.data.toList.take k) * b + digN 99 (s[k].toNat : Int) := by
  rw [take_snoc s k h, val_snoc]
theorem good_at (b : Int) (s : ByteArray) (hg : good b s.data.toList) (k : Nat) (h : k < s.size) : digN 99 (s[k].toNat : Int) < b :=
  hg _ (List.getElem_mem (l := s.data.toList) (n := k) (by simpa using h))
theorem bad_at (b : Int) (s : ByteArray) (k : Nat) (h : k < s.size) (hb : b ≤ digN 99 (s[k].toNat : Int)) : ¬ good b s.data.toList :=
  fun hg => by have := good_at b s hg k h; omega
theorem good_of (b : Int) (s : ByteArray) (h : ∀ k (hk : k < s.size), digN 99 (s[k].toNat : Int) < b) : good b s.data.toList := by
  intro c hc
  obtain ⟨i, hi, rfl⟩ := List.getElem_of_mem hc
  exact h i (by simpa using hi)

/-- What the test ahead of a product says: 'n > (limit - d) / b' just where the next number passes the limit. -/
theorem passes (n b d limit : Int) (hb : 0 < b) : (limit - d) / b < n ↔ limit < n * b + d := by
  have h := Int.ediv_lt_iff_lt_mul (a := limit - d) (b := n) hb
  omega
theorem passes0 (n b limit : Int) (hb : 0 < b) : limit / b < n ↔ limit < n * b := by
  have h := passes n b 0 limit hb
  simp only [Int.sub_zero, Int.add_zero] at h
  exact h
end Go.Proofs.YtpmccbkhkaoccaaGreatDoor

