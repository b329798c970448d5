import Derived.Test.YtoedefjngipeiaaGreatDoorA46
import Derived.Test.YtoedefjngipeiaaGreatDoorA35
import Derived.Test.YtoedefjngipeiaaGreatDoorChecked
import Derived.WalkKit
import Derived.LaidEql
import Derived.Stop.Asserts
import Derived.RowKitTokens
/- What the program's reader answers is what reading answers: plain. -/
namespace Go.Proofs.YtoedefjngipeiaaGreatDoor
open Go.RowKit

/-- Digits with a point among them are at most as many as the text has bytes. -/
theorem frac_len {b : Nat} {s : ByteArray} {k p j : Nat} {ds : ByteArray} {e : Int} (hr : Run b s k p) (hf : Frac b s k p (some (ds, e, j))) :
    good (b : Int) ds.data.toList ∧ ds.data.toList.length ≤ s.size ∧ -(s.size : Int) ≤ e ∧ e ≤ 0 ∧ j ≤ s.size := by
  rcases hf with ⟨_, h⟩ | ⟨_, i, hi, ⟨_, h⟩ | ⟨hl, h⟩⟩
  · obtain ⟨rfl, rfl, rfl⟩ : ds = s.extract k p ∧ e = 0 ∧ j = p := by simpa using h
    have hz := extract_len s k j hr.2.1
    have := hr.2.1
    exact ⟨run_good b s k j hr, by omega, by omega, by omega, by omega⟩
  · cases h
  · obtain ⟨rfl, rfl, rfl⟩ : ds = s.extract k p ++ s.extract (p + 1) i ∧ e = -((i - (p + 1) : Nat) : Int) ∧ j = i := by simpa using h
    have h1 := run_good b s k p hr
    have h2 := run_good b s (p + 1) j hi
    have z1 := extract_len s k p hr.2.1
    have z2 := extract_len s (p + 1) j hi.2.1
    have e1 : (s.extract k p ++ s.extract (p + 1) j).data.toList = (s.extract k p).data.toList ++ (s.extract (p + 1) j).data.toList := by simp
    have := hi.2.1
    have := hr.1
    rw [e1]
    refine ⟨fun c hc => ?_, ?_, by omega, by omega, by omega⟩
    · rcases List.mem_append.1 hc with h | h
      · exact h1 c h
      · exact h2 c h
    · rw [List.length_append, z1, z2]; omega
/-- The word of a decimal or a hex is the specification's. -/
theorem fin_word {b : Nat} (hb : b = 10 ∨ b = 16) {s ds : ByteArray} {e P n : Int} {V beh : Nat} (neg : Bool) (hs : s.size ≤ 1200) (hg : good (b : Int) ds.data.toList) (hl : ds.data.toList.length ≤ s.size) (he : -(s.size : Int) ≤ e) (he' : e ≤ 0)
    (hV : V = valN b ds.data.toList) (hbe : e = -(beh : Int)) (hP : P = n ∨ (100000 ≤ P ∧ n = 100000) ∨ (P ≤ -100000 ∧ n = -100000)) :
    signBit neg + (if b = 16 then quoW V 1 (P - 4 * (beh : Int)).toNat (-(P - 4 * (beh : Int))).toNat else decW 10 V (P - (beh : Int))) = flW neg b ds (expOf b e + n) := by
  have hlt := valN_good_lt b _ hg
  rw [← hV] at hlt
  unfold flW expOf
  rcases hb with rfl | rfl
  · rw [if_neg (by omega), if_neg (by omega), if_neg (by omega), ← hV]
    have := dec_far V _ e P n hlt (by omega) (by omega) he' hP
    rw [← this, hbe]
    congr 2
  · rw [if_pos rfl, if_pos rfl, if_pos rfl, ← hV, quo_hex]
    have h2 : V < 2 ^ (4 * ds.data.toList.length) := by rw [Nat.pow_mul]; exact hlt
    have := fw_far V _ (4 * e) P n h2 (by omega) (by omega) (by omega) hP
    rw [← this, hbe]
    congr 2
    omega
theorem flo_some {s : ByteArray} (hs : s.size ≤ 1200) {fl : Nat → Prop} {a j : Nat} (h : Flo s fl (some a) j) : ReadA s false (a : Int) (· = 0) := by
  obtain ⟨neg, k, hsg, h⟩ := h
  refine .inr ⟨hs, neg, k, hsg, ?_⟩
  rcases h with ⟨nan, h0, ⟨i, hi, hm, rfl, h⟩, _⟩ | ⟨h1, h2, b, k1, x, hb, hbas, hf, _⟩
  · left
    rcases h with ⟨h3, h4, h5⟩ | ⟨_, h5⟩
    · obtain rfl := Option.some.inj h5
      exact ⟨nan, h0, i, hi, hm, .inl ⟨h3, h4, rfl, rfl, rfl⟩⟩
    · cases h5
  · right
    refine ⟨h1, h2, b, k1, ?_⟩
    obtain ⟨V, beh, r1, j1, hd, ⟨a', rfl, h, _⟩ | ⟨rfl, P, r2, hp, ⟨a', rfl, h⟩ | ⟨_, h, _⟩⟩⟩ := hf
    · obtain rfl := Option.some.inj h
      rcases fin_some hd with ⟨hr, rfl⟩ | ⟨p, hr, hk, hfr, rfl⟩
      · exact ⟨_, hbas, hr, .inl ⟨rfl, rfl, rfl, rfl⟩⟩
      · exact ⟨_, hbas, hr, .inr ⟨hk, none, hfr, .inl ⟨rfl, rfl, rfl, rfl⟩⟩⟩
    · obtain rfl := Option.some.inj h
      obtain ⟨p, ds, e, hr, hk, hfr, _, _⟩ := fin_none hd
      exact ⟨_, hbas, hr, .inr ⟨hk, _, hfr, .inr ⟨ds, e, j1, _, rfl, pow_some hp, .inl ⟨_, rfl, rfl, rfl, rfl⟩⟩⟩⟩
    · cases h
theorem flo_none {s : ByteArray} (hs : s.size ≤ 1200) {fl : Nat → Prop} {j : Nat} (h : Flo s fl none j) :
    (j < s.size → ReadA s false (j : Int) (· = 0)) ∧ (¬ j < s.size → ReadA s true 0 fl) := by
  obtain ⟨neg, k, hsg, h⟩ := h
  rcases h with ⟨nan, h0, ⟨i, hi, hm, rfl, h⟩, hfl⟩ | ⟨h1, h2, b, k1, x, hb, hbas, hf, hfl⟩
  · rcases h with ⟨_, _, h5⟩ | ⟨rfl, _⟩
    · cases h5
    · exact ⟨fun hj => .inr ⟨hs, neg, k, hsg, .inl ⟨nan, h0, 3, hi, hm, .inr (.inl ⟨rfl, hj, rfl, rfl, rfl⟩)⟩⟩,
        fun hj => .inr ⟨hs, neg, k, hsg, .inl ⟨nan, h0, 3, hi, hm, .inr (.inr ⟨rfl, hj, rfl, rfl, hfl⟩)⟩⟩⟩
  · obtain ⟨V, beh, r1, j1, hd, ⟨a', _, h, _⟩ | ⟨rfl, P, r2, hp, ⟨a', _, h⟩ | ⟨rfl, _, hx⟩⟩⟩ := hf
    · cases h
    · cases h
    · obtain ⟨p, ds, e, hr, hk, hfr, hV, he⟩ := fin_none hd
      obtain ⟨n, hex, hP⟩ := pow_none hp
      obtain ⟨g1, g2, g3, g4, _⟩ := frac_len hr hfr
      refine ⟨fun hj => .inr ⟨hs, neg, k, hsg, .inr ⟨h1, h2, b, k1, p, hbas, hr, .inr ⟨hk, _, hfr, .inr ⟨ds, e, j1, _, rfl, hex, .inr ⟨n, j, rfl, .inl ⟨hj, rfl, rfl, rfl⟩⟩⟩⟩⟩⟩,
        fun hj => .inr ⟨hs, neg, k, hsg, .inr ⟨h1, h2, b, k1, p, hbas, hr, .inr ⟨hk, _, hfr, .inr ⟨ds, e, j1, _, rfl, hex, .inr ⟨n, j, rfl, .inr ⟨hj, rfl, rfl, ?_⟩⟩⟩⟩⟩⟩⟩
      rw [hfl, hx, fin_word hb neg hs g1 g2 g3 g4 hV he hP]
theorem flo_lt {s : ByteArray} (hs : s.size ≤ 1200) {fl : Nat → Prop} {j x : Nat} (h : Flo s fl none j) (hx : fl x) (hn : fl = IsNan → x < 18446744073709551616) : x < 18446744073709551616 := by
  obtain ⟨neg, k, hsg, h⟩ := h
  rcases h with ⟨nan, h0, _, hfl⟩ | ⟨h1, h2, b, k1, y, hb, hbas, hf, hfl⟩
  · cases nan
    · rw [hfl] at hx
      have : x = iw neg := hx
      rw [this]
      cases neg <;> decide
    · exact hn hfl
  · obtain ⟨V, beh, r1, j1, hd, ⟨a', _, h, _⟩ | ⟨rfl, P, r2, hp, ⟨a', _, h⟩ | ⟨rfl, _, hy⟩⟩⟩ := hf
    · cases h
    · cases h
    · obtain ⟨p, ds, e, hr, hk, hfr, hV, he⟩ := fin_none hd
      obtain ⟨n, hex, hP⟩ := pow_none hp
      obtain ⟨g1, g2, g3, g4, _⟩ := frac_len hr hfr
      rw [hfl] at hx
      have hx' : x = y := hx
      rw [hx', hy, fin_word hb neg hs g1 g2 g3 g4 hV he hP]
      exact flW_lt _ _ _ _
end Go.Proofs.YtoedefjngipeiaaGreatDoor

/- The program's reader: a whole text. -/
namespace Go.Proofs.YtoedefjngipeiaaGreatDoor
open Go.ChangeShapes Go.WideShapes Go.RowKit

/-- What is said of a text that is read whole: a place where it breaks off, or a float. -/
def AllQ (s : ByteArray) (r : Option Nat) (x : Nat) : Prop :=
  (∃ a : Nat, r = some a ∧ ReadA s false (a : Int) (· = 0)) ∨ (r = none ∧ ∃ fl, ReadA s true 0 fl ∧ fl x ∧ x < 18446744073709551616)
theorem nil_eq (w : World) : (binOp .eql 63 .nilIface .nilIface).run Tryz.prog w = .ok (.bool true) w := by kernel_rfl
theorem bo_eq (v : Value) (w : World) : (binOp .eql 63 (.iface 67 v) .nilIface).run Tryz.prog w = .ok (.bool false) w := by kernel_rfl
set_option maxHeartbeats 2000000 in
set_option maxRecDepth 100000 in
theorem readAll_any (s : ByteArray) (w : World) :
    Calls Tryz.prog 33 #[.string s] w fun e w' => ∃ r x, AllQ s r x ∧ e = .returned (.tuple #[.float .f64 x, errV r]) ∧ Below w.heap.size w w' := by
  by_cases hs : 1200 < s.size
  · have hs' : (1200 : Int) < (s.size : Int) := by omega
    go_enter Tryz.func33, Tryz.ntmps33
    go_wp2
    go_ret2
    exact ⟨some 1200, 0, .inl ⟨1200, rfl, .inl ⟨hs, rfl, rfl, rfl⟩⟩, rfl, Below.refl _ _⟩
  · have hs' : (s.size : Int) ≤ 1200 := by omega
    have HS : Hid (s.size ≤ 1200) := Nat.le_of_not_lt hs
    clear hs
    have HB : Hid (Below w.heap.size w (w.alloc (.cells #[.string s, .int .i64 0] 95))) := (Below.refl _ w).alloc (by simp) _
    have HF : Hid _ := fun (_ : Unit) => rfloat_any w.heap.size s (w.alloc (.cells #[.string s, .int .i64 0] 95)) (by show (w.heap.push _)[w.heap.size]? = some _; simp) HS.out
    go_enter Tryz.func33, Tryz.ntmps33
    go_wp2_with fail
    refine (HF.out ()).mono ?_
    rintro e w1 ⟨fl, r, j, x, hflo, hx, hnn, hj, rfl, hr, hm⟩
    have HM : Hid (Below w.heap.size w w1) := HB.out.trans (hm.below (Nat.le_refl _) (by simp))
    have hc := hr.at_
    have hl := hr.lt
    clear hr hm HF HB
    cases r with
    | some a =>
      have HA : Hid (ReadA s false (a : Int) (· = 0)) := flo_some HS.out hflo
      have he := bo_eq (.agg #[.int .i64 (a : Int)])
      clear hflo hx hnn hj
      rw [err_some]
      go_wp2
      go_ret2
      exact ⟨some a, x, .inl ⟨a, rfl, HA.out⟩, rfl, HM.out⟩
    | none =>
      have he := nil_eq
      have hx := hx rfl
      have HL : Hid (x < 18446744073709551616) := flo_lt HS.out hflo hx hnn
      obtain ⟨h1, h2⟩ := flo_none HS.out hflo
      have HX : Hid (fl x) := hx
      clear hx hnn hflo
      rw [err_none]
      by_cases hl : j < s.size
      · have hl' : (j : Int) < (s.size : Int) := by omega
        have HA : Hid (ReadA s false (j : Int) (· = 0)) := h1 hl
        clear h1 h2 hl
        go_wp2
        go_quiet (fail)
        go_wp2
        go_ret2
        exact ⟨some j, 0, .inl ⟨j, rfl, HA.out⟩, rfl, below_drewN HM.out _⟩
      · have hl' : decide (j < s.size) = false := decide_eq_false hl
        have HA : Hid (ReadA s true 0 fl) := h2 hl
        clear h1 h2 hl
        go_wp2
        go_ret2
        exact ⟨none, x, .inr ⟨rfl, fl, HA.out, HX.out, HL.out⟩, rfl, HM.out⟩
end Go.Proofs.YtoedefjngipeiaaGreatDoor

/- errors.As at a struct that is an error. -/
namespace Go.Proofs.YtoedefjngipeiaaGreatDoor
open Go.ChangeShapes Go.WideShapes Go.RowKit Go.Extern.Stop Go.Stop Go.Extern

/-- No error, no answer. -/
theorem as_none (t : Value) (w : World) : Calls Tryz.prog 34 #[.nilIface, t] w fun e w' => e = .returned (.bool false) ∧ w' = w := by
  go_enter Tryz.func34, Tryz.ntmps34
  go_wp2
  go_ret
  exact ⟨rfl, rfl⟩
/-- The handle of the type error lies in its variable. -/
def Handle (w : World) : Prop := w.cell? ⟨2, 0, none⟩ = some (.iface 132 (.agg #[.pointer (some ⟨3, 63, none⟩)]))
/-! Closed facts: the pointer's type, the struct's type. -/
theorem bo_valueOf (t : Addr) (w : World) : (ReflectliteValue.unpack (.iface 69 (.pointer (some t)))).run Tryz.prog w
    = .ok (.agg #[.pointer (some ⟨3, 69, none⟩), .pointer (some ⟨w.heap.size, 0, none⟩), .int .u64 150]) (w.alloc (.cells #[.pointer (some t)] 69)) := by kernel_rfl
theorem bo_type (a : Addr) (w : World) : (ReflectliteValue.methodAny (ReflectliteValue.valueError "reflectlite.Value.Type" 0) (fun t _ _ _ => ReflectliteType.toType t) #[.agg #[.pointer (some ⟨3, 69, none⟩), .pointer (some a), .int .u64 150]]).run Tryz.prog w
    = .ok (.iface 132 (.agg #[.pointer (some ⟨3, 69, none⟩)])) w := by kernel_rfl
theorem bo_kindP (w : World) : ((ReflectliteType.abiMethod fun t => (fun a : Nat => Value.int IntKind.u8 (a : Int)) <$> Rtype.kind t) #[.pointer (some ⟨3, 69, none⟩)]).run Tryz.prog w = .ok (.int .u8 22) w := by kernel_rfl
theorem bo_kindS (w : World) : ((ReflectliteType.abiMethod fun t => (fun a : Nat => Value.int IntKind.u8 (a : Int)) <$> Rtype.kind t) #[.pointer (some ⟨3, 67, none⟩)]).run Tryz.prog w = .ok (.int .u8 25) w := by kernel_rfl
theorem rl_method (z : Sem Value) (f : TypeId → Addr → Nat → Nat → Sem Value) (v : Value) :
    ReflectliteValue.method z f #[v] = (do match ← ReflectliteValue.parts v with | none => z | some (t, a, fl) => f t a fl (fl % 32)) := rfl
theorem bo_partsP (a : Addr) (w : World) : (ReflectliteValue.parts (.agg #[.pointer (some ⟨3, 69, none⟩), .pointer (some a), .int .u64 150])).run Tryz.prog w = .ok (some (69, a, 150)) w := by kernel_rfl
theorem bo_isNil (a p : Addr) (W : World) (ha : W.cell? a = some (.pointer (some p))) :
    (ReflectliteValue.method (ReflectliteValue.valueError "reflectlite.Value.IsNil" 0) ReflectliteValue.isNil #[.agg #[.pointer (some ⟨3, 69, none⟩), .pointer (some a), .int .u64 150]]).run Tryz.prog W = .ok (.bool false) W := by
  rw [rl_method]
  simp only [Sem.run_bind, bo_partsP, Result.andThen]
  simp [ReflectliteValue.isNil, loadVar, isAgg, underlying, Tryz.underlying69, ha, Result.andThen]
theorem bo_elemT (w : World) : (ReflectliteType.method ReflectliteType.elem #[.agg #[.pointer (some ⟨3, 69, none⟩)]]).run Tryz.prog w = .ok (.iface 132 (.agg #[.pointer (some ⟨3, 67, none⟩)])) w := by kernel_rfl
theorem bo_implements (w : World) : (ReflectliteType.relation "Implements" ReflectliteType.implements_ #[.agg #[.pointer (some ⟨3, 67, none⟩)], .iface 132 (.agg #[.pointer (some ⟨3, 63, none⟩)])]).run Tryz.prog w = .ok (.bool true) w := by kernel_rfl
theorem bo_typeOf (v : Value) (w : World) : (ReflectliteType.typeOf #[.iface 67 v]).run Tryz.prog w = .ok (.iface 132 (.agg #[.pointer (some ⟨3, 67, none⟩)])) w := by kernel_rfl
theorem bo_assignable (w : World) : (ReflectliteType.relation "AssignableTo" ReflectliteType.assignableTo #[.agg #[.pointer (some ⟨3, 67, none⟩)], .iface 132 (.agg #[.pointer (some ⟨3, 67, none⟩)])]).run Tryz.prog w = .ok (.bool true) w := by kernel_rfl
theorem bo_valueOfS (x : Value) (w : World) : (ReflectliteValue.unpack (.iface 67 (.agg #[x]))).run Tryz.prog w
    = .ok (.agg #[.pointer (some ⟨3, 67, none⟩), .pointer (some ⟨w.heap.size, 0, none⟩), .int .u64 153]) (w.alloc (.cells #[x] 67)) := by kernel_rfl
theorem bo_elemOf (w : World) : (Rtype.elem? 69).run Tryz.prog w = .ok (some 67) w := by kernel_rfl
theorem bo_mk (p : Addr) (w : World) : (ReflectliteValue.mk 67 p ReflectliteValue.flagAddr).run Tryz.prog w = .ok (.agg #[.pointer (some ⟨3, 67, none⟩), .pointer (some p), .int .u64 409]) w := by kernel_rfl
theorem bo_elemV (a p : Addr) (W : World) (ha : W.cell? a = some (.pointer (some p))) :
    (ReflectliteValue.method (ReflectliteValue.valueError "reflectlite.Value.Elem" 0) ReflectliteValue.elem #[.agg #[.pointer (some ⟨3, 69, none⟩), .pointer (some a), .int .u64 150]]).run Tryz.prog W
      = .ok (.agg #[.pointer (some ⟨3, 67, none⟩), .pointer (some p), .int .u64 409]) W := by
  rw [rl_method]
  simp only [Sem.run_bind, bo_partsP, Result.andThen]
  simp [ReflectliteValue.elem, loadVar, isAgg, underlying, Tryz.underlying69, ha, Result.andThen, bo_elemOf, bo_mk]
theorem bo_partsA (a : Addr) (w : World) : (ReflectliteValue.parts (.agg #[.pointer (some ⟨3, 67, none⟩), .pointer (some a), .int .u64 409])).run Tryz.prog w = .ok (some (67, a, 409)) w := by kernel_rfl
theorem bo_partsS (a : Addr) (w : World) : (ReflectliteValue.parts (.agg #[.pointer (some ⟨3, 67, none⟩), .pointer (some a), .int .u64 153])).run Tryz.prog w = .ok (some (67, a, 153)) w := by kernel_rfl
theorem bo_direct (w : World) : (Rtype.directlyAssignable 67 67).run Tryz.prog w = .ok true w := by kernel_rfl
theorem bo_size (w : World) : (sizeOf 67).run Tryz.prog w = .ok 1 w := by kernel_rfl
theorem bo_agg (w : World) : (isAgg 67).run Tryz.prog w = .ok true w := by kernel_rfl
theorem rl_set (v x : Value) : ReflectliteValue.set #[v, x] = (do
    let (some (dst, a, fl), some (src, b, _)) := (← ReflectliteValue.parts v, ← ReflectliteValue.parts x)
      | unsupported (.noEntry "extern/(internal/reflectlite.Value).Set.zeroValue")
    if fl / ReflectliteValue.flagAddr % 2 == 0 then unsupported (.noEntry "extern/(internal/reflectlite.Value).Set.unaddressable")
    let val ← loadVar src b
    if ← Rtype.directlyAssignable dst src then storeVar dst a val
    else if ← Rtype.implements dst src then
      if (← Rtype.kind src) == 20 then
        match val with
        | .nilIface => unsupported (.noEntry "extern/reflectlite: a nil value of one interface type handed on as a value of another")
        | _ => storeVar dst a val
      else storeVar dst a (.iface src val)
    else panicString ("reflectlite.Set: value of type " ++ (← Rtype.spelt src) ++ " is not assignable to type " ++ (← Rtype.spelt dst))
    pure (.tuple #[])) := rfl
theorem bo_set (ta b : Addr) (k : Int) (old : Value) (W : World) (hb : W.cell? b = some (.int .i64 k)) (ht : W.cell? ta = some old) (hf : W.frozen? ta = false) :
    (ReflectliteValue.set #[.agg #[.pointer (some ⟨3, 67, none⟩), .pointer (some ta), .int .u64 409], .agg #[.pointer (some ⟨3, 67, none⟩), .pointer (some b), .int .u64 153]]).run Tryz.prog W
      = .ok (.tuple #[]) (W.setCell ta (.int .i64 k)) := by
  rw [rl_set]
  simp only [Sem.run_bind, bo_partsA, bo_partsS, Result.andThen]
  simp [ReflectliteValue.flagAddr, loadVar, loadCells, loadCellsFrom, hb, Result.andThen, bo_direct, storeVar, Value.cells, storeCells, Addr.add]
  rw [run_store Tryz.prog W ta _ _ (by rfl)]
  simp [ht, hf]
theorem bo_mKind (h : Value) (w : World) : (Go.method 310 132 (.agg #[h]) "Kind").run Tryz.prog w = .ok (136, h) w := by kernel_rfl
theorem bo_mElem (h : Value) (w : World) : (Go.method 310 132 (.agg #[h]) "Elem").run Tryz.prog w = .ok (146, .agg #[h]) w := by kernel_rfl
theorem bo_mImpl (h : Value) (w : World) : (Go.method 310 132 (.agg #[h]) "Implements").run Tryz.prog w = .ok (147, .agg #[h]) w := by kernel_rfl
theorem bo_mAssign (h : Value) (w : World) : (Go.method 310 132 (.agg #[h]) "AssignableTo").run Tryz.prog w = .ok (144, .agg #[h]) w := by kernel_rfl
set_option maxHeartbeats 4000000 in
set_option maxRecDepth 100000 in
theorem as_hit (k : Int) (t : Addr) (old : Value) (w : World) (hg : Handle w) (hlt : 2 < w.heap.size) (ht0 : w.cell? t = some old) (hf0 : w.frozen? t = false) :
    Calls Tryz.prog 34 #[.iface 67 (.agg #[.int .i64 k]), .iface 69 (.pointer (some t))] w fun ev w' => ev = .returned (.bool true) ∧ w' = ((((w.alloc (.cells #[.pointer (some t)] 69)).alloc (.cells #[.pointer (some ⟨3, 69, none⟩), .pointer (some ⟨w.heap.size, 0, none⟩), .int .u64 150] 100)).alloc (.cells #[.pointer (some ⟨3, 69, none⟩), .pointer (some ⟨w.heap.size, 0, none⟩), .int .u64 150] 100)).alloc (.cells #[.int .i64 k] 67)).setCell t (.int .i64 k) := by
  have h6 := @run_callFunc_extern Tryz.prog 63 _ (fun args => ReflectliteValue.unpack (args.getD 0 (.tuple #[]))) Tryz.func63 (by kernel_rfl) (by kernel_rfl) (by kernel_rfl) (by kernel_rfl)
  have h7 := @run_callFunc_extern Tryz.prog 64 _ (ReflectliteValue.methodAny (ReflectliteValue.valueError "reflectlite.Value.Type" 0) (fun t _ _ _ => ReflectliteType.toType t)) Tryz.func64 (by kernel_rfl) (by kernel_rfl) (by kernel_rfl) (by kernel_rfl)
  have h8 := @run_callFunc_extern Tryz.prog 65 _ (ReflectliteValue.method (ReflectliteValue.valueError "reflectlite.Value.IsNil" 0) ReflectliteValue.isNil) Tryz.func65 (by kernel_rfl) (by kernel_rfl) (by kernel_rfl) (by kernel_rfl)
  have h27 := @run_callFunc_extern Tryz.prog 136 _ (ReflectliteType.abiMethod fun t => do pure (.int .u8 (← Rtype.kind t))) Tryz.func136 (by kernel_rfl) (by kernel_rfl) (by kernel_rfl) (by kernel_rfl)
  have h37 := @run_callFunc_extern Tryz.prog 146 _ (ReflectliteType.method ReflectliteType.elem) Tryz.func146 (by kernel_rfl) (by kernel_rfl) (by kernel_rfl) (by kernel_rfl)
  have h38 := @run_callFunc_extern Tryz.prog 147 _ (ReflectliteType.relation "Implements" ReflectliteType.implements_) Tryz.func147 (by kernel_rfl) (by kernel_rfl) (by kernel_rfl) (by kernel_rfl)
  have h10 := @run_callFunc_extern Tryz.prog 88 _ ReflectliteType.typeOf Tryz.func88 (by kernel_rfl) (by kernel_rfl) (by kernel_rfl) (by kernel_rfl)
  have h35 := @run_callFunc_extern Tryz.prog 144 _ (ReflectliteType.relation "AssignableTo" ReflectliteType.assignableTo) Tryz.func144 (by kernel_rfl) (by kernel_rfl) (by kernel_rfl) (by kernel_rfl)
  have h11 := @run_callFunc_extern Tryz.prog 89 _ (ReflectliteValue.method (ReflectliteValue.valueError "reflectlite.Value.Elem" 0) ReflectliteValue.elem) Tryz.func89 (by kernel_rfl) (by kernel_rfl) (by kernel_rfl) (by kernel_rfl)
  have h12 := @run_callFunc_extern Tryz.prog 90 _ ReflectliteValue.set Tryz.func90 (by kernel_rfl) (by kernel_rfl) (by kernel_rfl) (by kernel_rfl)
  have tO := bo_typeOf
  have mA := bo_mAssign
  have a25 := bo_assignable
  have v25 := bo_valueOfS
  have f6 := bo_valueOf
  have f7 := bo_type
  have mK := bo_mKind
  have mE := bo_mElem
  have mI := bo_mImpl
  have k27 := bo_kindP
  have k25 := bo_kindS
  have e27 := bo_elemT
  have i25 := bo_implements
  have n8 := bo_isNil ⟨w.heap.size, 0, none⟩ t ((w.alloc (.cells #[.pointer (some t)] 69)).alloc (.cells #[.pointer (some ⟨3, 69, none⟩), .pointer (some ⟨w.heap.size, 0, none⟩), .int .u64 150] 100)) (by simp)
  have hg2 : ((w.alloc (.cells #[.pointer (some t)] 69)).alloc (.cells #[.pointer (some ⟨3, 69, none⟩), .pointer (some ⟨w.heap.size, 0, none⟩), .int .u64 150] 100)).cell? ⟨2, 0, none⟩ = some (.iface 132 (.agg #[.pointer (some ⟨3, 63, none⟩)])) := by
    rw [World.cell?_alloc_lt _ _ ⟨2, 0, none⟩ (by simp <;> omega), World.cell?_alloc_lt _ _ ⟨2, 0, none⟩ hlt]; exact hg
  have htl : t.block < w.heap.size := by
    rcases Nat.lt_or_ge t.block w.heap.size with h | h
    · exact h
    · simp [World.cell?, Array.getElem?_eq_none h] at ht0
  have el := bo_elemV ⟨w.heap.size, 0, none⟩ t (((w.alloc (.cells #[.pointer (some t)] 69)).alloc (.cells #[.pointer (some ⟨3, 69, none⟩), .pointer (some ⟨w.heap.size, 0, none⟩), .int .u64 150] 100)).alloc (.cells #[.pointer (some ⟨3, 69, none⟩), .pointer (some ⟨w.heap.size, 0, none⟩), .int .u64 150] 100)) (by rw [World.cell?_alloc_lt _ _ ⟨w.heap.size, 0, none⟩ (by simp; omega)]; simp)
  have st := bo_set t ⟨w.heap.size + 1 + 1 + 1, 0, none⟩ k old ((((w.alloc (.cells #[.pointer (some t)] 69)).alloc (.cells #[.pointer (some ⟨3, 69, none⟩), .pointer (some ⟨w.heap.size, 0, none⟩), .int .u64 150] 100)).alloc (.cells #[.pointer (some ⟨3, 69, none⟩), .pointer (some ⟨w.heap.size, 0, none⟩), .int .u64 150] 100)).alloc (.cells #[.int .i64 k] 67))
    (by rw [World.cell?_alloc_at _ _ _ _ (by simp)]; rfl)
    (by rw [World.cell?_alloc_lt _ _ t (by simp; omega), World.cell?_alloc_lt _ _ t (by simp; omega), World.cell?_alloc_lt _ _ t (by simp; omega), World.cell?_alloc_lt _ _ t htl]; exact ht0)
    (by rw [World.frozen?_alloc_old _ _ t (by simp; omega), World.frozen?_alloc_old _ _ t (by simp; omega), World.frozen?_alloc_old _ _ t (by simp; omega), World.frozen?_alloc_old _ _ t (Nat.ne_of_lt htl)]; exact hf0)
  clear hg ht0 hf0
  go_enter Tryz.func34, Tryz.ntmps34
  go_wp2
  refine wp_loop_rounds 1 ?_
  rw [rounds_succ]
  go_wp2
  go_ret
  exact ⟨rfl, rfl⟩
end Go.Proofs.YtoedefjngipeiaaGreatDoor

