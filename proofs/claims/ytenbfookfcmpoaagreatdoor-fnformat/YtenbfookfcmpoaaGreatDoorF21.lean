import Derived.Test.YtenbfookfcmpoaaGreatDoorChecked
import Derived.LaidEql
import Derived.Stop.Asserts
import Derived.RowKitTokens
import Derived.OrdersHeld
import Derived.Deep.RegionHeld
import Derived.Test.YtenbfookfcmpoaaGreatDoorF16
namespace Go.Proofs.YtenbfookfcmpoaaGreatDoor
open Go.ChangeShapes Go.WideShapes Go.RowKit
def unsig(n:Int):Nat:=(IntKind.u64.wrap n).toNat
theorem unsig_cast(n:Int):IntKind.u64.wrap n=(unsig n:Int):=by
 unfold unsig;rw[IntKind.wrap_u64];omega
theorem unsig_lt(n:Int):unsig n<18446744073709551616:=by
 unfold unsig;rw[IntKind.wrap_u64];omega
theorem neg_unsig(n:Int):IntKind.u64.wrap (-(IntKind.u64.wrap n))=(unsig (-n):Int):=by
 unfold unsig;simp only[IntKind.wrap_u64];omega
def bitsText(n b:Int):ByteArray:=if 2≤b∧b≤36 then ⟨(textOf b.toNat (unsig n)).toArray⟩ else ⟨#[]⟩
def intText(n b:Int):ByteArray:=if 2≤b∧b≤36 then (if n<0 then ⟨#[45]⟩++⟨(textOf b.toNat (unsig (-n))).toArray⟩ else ⟨(textOf b.toNat (unsig n)).toArray⟩) else ⟨#[]⟩
theorem intText_neg(n b:Int)(h:2≤b∧b≤36)(hn:n<0):intText n b=⟨#[45]⟩++⟨(textOf b.toNat (unsig (-n))).toArray⟩:=by unfold intText;rw[if_pos h,if_pos hn]
theorem intText_pos(n b:Int)(h:2≤b∧b≤36)(hn:¬n<0):intText n b=⟨(textOf b.toNat (unsig n)).toArray⟩:=by unfold intText;rw[if_pos h,if_neg hn]
end Go.Proofs.YtenbfookfcmpoaaGreatDoor
namespace Go.Proofs.YtenbfookfcmpoaaGreatDoor
open Go.ChangeShapes Go.WideShapes Go.RowKit Go.Extern.Stop Go.Stop Go.Extern
theorem as_none(t:Value)(w:World):Calls Tryz.prog 71 #[.nilIface,t] w fun e w'=>e=.returned (.bool false)∧w'=w:=by
 go_enter Tryz.func71,Tryz.ntmps71
 go_wp2
 go_ret
 exact⟨rfl,rfl⟩
def Handle(w:World):Prop:=w.cell? ⟨2,0,none⟩=some (.iface 216 (.agg #[.pointer (some ⟨7,129,none⟩)]))
theorem bo_valueOf(t:Addr)(w:World):(ReflectliteValue.unpack (.iface 135 (.pointer (some t)))).run Tryz.prog w
  = .ok (.agg #[.pointer (some ⟨7,135,none⟩),.pointer (some ⟨w.heap.size,0,none⟩),.int .u64 150]) (w.alloc (.cells #[.pointer (some t)] 135)):=by kernel_rfl
theorem bo_type(a:Addr)(w:World):(ReflectliteValue.methodAny (ReflectliteValue.valueError "reflectlite.Value.Type" 0) (fun t _ _ _=>ReflectliteType.toType t) #[.agg #[.pointer (some ⟨7,135,none⟩),.pointer (some a),.int .u64 150]]).run Tryz.prog w
  = .ok (.iface 216 (.agg #[.pointer (some ⟨7,135,none⟩)])) w:=by kernel_rfl
theorem bo_kindP(w:World):((ReflectliteType.abiMethod fun t=>(fun a:Nat=>Value.int IntKind.u8 (a:Int)) <$> Rtype.kind t) #[.pointer (some ⟨7,135,none⟩)]).run Tryz.prog w=.ok (.int .u8 22) w:=by kernel_rfl
theorem bo_kindS(w:World):((ReflectliteType.abiMethod fun t=>(fun a:Nat=>Value.int IntKind.u8 (a:Int)) <$> Rtype.kind t) #[.pointer (some ⟨7,133,none⟩)]).run Tryz.prog w=.ok (.int .u8 25) w:=by kernel_rfl
theorem rl_method(z:Sem Value)(f:TypeId→Addr→Nat→Nat→Sem Value)(v:Value) :
  ReflectliteValue.method z f #[v]=(do match ←ReflectliteValue.parts v with|none=>z|some (t,a,fl)=>f t a fl (fl % 32)):=rfl
theorem bo_partsP(a:Addr)(w:World):(ReflectliteValue.parts (.agg #[.pointer (some ⟨7,135,none⟩),.pointer (some a),.int .u64 150])).run Tryz.prog w=.ok (some (135,a,150)) w:=by kernel_rfl
theorem bo_isNil(a p:Addr)(W:World)(ha:W.cell? a=some (.pointer (some p))) :
  (ReflectliteValue.method (ReflectliteValue.valueError "reflectlite.Value.IsNil" 0) ReflectliteValue.isNil #[.agg #[.pointer (some ⟨7,135,none⟩),.pointer (some a),.int .u64 150]]).run Tryz.prog W=.ok (.bool false) W:=by
 rw[rl_method]
 simp only[Sem.run_bind,bo_partsP,Result.andThen]
 simp[ReflectliteValue.isNil,loadVar,isAgg,underlying,Tryz.underlying135,ha,Result.andThen]
theorem bo_elemT(w:World):(ReflectliteType.method ReflectliteType.elem #[.agg #[.pointer (some ⟨7,135,none⟩)]]).run Tryz.prog w=.ok (.iface 216 (.agg #[.pointer (some ⟨7,133,none⟩)])) w:=by kernel_rfl
theorem bo_implements(w:World):(ReflectliteType.relation "Implements" ReflectliteType.implements_ #[.agg #[.pointer (some ⟨7,133,none⟩)],.iface 216 (.agg #[.pointer (some ⟨7,129,none⟩)])]).run Tryz.prog w=.ok (.bool true) w:=by kernel_rfl
theorem bo_typeOf(v:Value)(w:World):(ReflectliteType.typeOf #[.iface 133 v]).run Tryz.prog w=.ok (.iface 216 (.agg #[.pointer (some ⟨7,133,none⟩)])) w:=by kernel_rfl
theorem bo_assignable(w:World):(ReflectliteType.relation "AssignableTo" ReflectliteType.assignableTo #[.agg #[.pointer (some ⟨7,133,none⟩)],.iface 216 (.agg #[.pointer (some ⟨7,133,none⟩)])]).run Tryz.prog w=.ok (.bool true) w:=by kernel_rfl
theorem bo_valueOfS(x:Value)(w:World):(ReflectliteValue.unpack (.iface 133 (.agg #[x]))).run Tryz.prog w
  = .ok (.agg #[.pointer (some ⟨7,133,none⟩),.pointer (some ⟨w.heap.size,0,none⟩),.int .u64 153]) (w.alloc (.cells #[x] 133)):=by kernel_rfl
theorem bo_elemOf(w:World):(Rtype.elem? 135).run Tryz.prog w=.ok (some 133) w:=by kernel_rfl
theorem bo_mk(p:Addr)(w:World):(ReflectliteValue.mk 133 p ReflectliteValue.flagAddr).run Tryz.prog w=.ok (.agg #[.pointer (some ⟨7,133,none⟩),.pointer (some p),.int .u64 409]) w:=by kernel_rfl
theorem bo_elemV(a p:Addr)(W:World)(ha:W.cell? a=some (.pointer (some p))) :
  (ReflectliteValue.method (ReflectliteValue.valueError "reflectlite.Value.Elem" 0) ReflectliteValue.elem #[.agg #[.pointer (some ⟨7,135,none⟩),.pointer (some a),.int .u64 150]]).run Tryz.prog W
   = .ok (.agg #[.pointer (some ⟨7,133,none⟩),.pointer (some p),.int .u64 409]) W:=by
 rw[rl_method]
 simp only[Sem.run_bind,bo_partsP,Result.andThen]
 simp[ReflectliteValue.elem,loadVar,isAgg,underlying,Tryz.underlying135,ha,Result.andThen,bo_elemOf,bo_mk]
theorem bo_partsA(a:Addr)(w:World):(ReflectliteValue.parts (.agg #[.pointer (some ⟨7,133,none⟩),.pointer (some a),.int .u64 409])).run Tryz.prog w=.ok (some (133,a,409)) w:=by kernel_rfl
theorem bo_partsS(a:Addr)(w:World):(ReflectliteValue.parts (.agg #[.pointer (some ⟨7,133,none⟩),.pointer (some a),.int .u64 153])).run Tryz.prog w=.ok (some (133,a,153)) w:=by kernel_rfl
theorem bo_direct(w:World):(Rtype.directlyAssignable 133 133).run Tryz.prog w=.ok true w:=by kernel_rfl
theorem rl_set(v x:Value):ReflectliteValue.set #[v,x]=(do
  let (some (dst,a,fl),some (src,b,_)):=(←ReflectliteValue.parts v,←ReflectliteValue.parts x)
   | unsupported (.noEntry "extern/(internal/reflectlite.Value).Set.zeroValue")
  if fl / ReflectliteValue.flagAddr % 2==0 then unsupported (.noEntry "extern/(internal/reflectlite.Value).Set.unaddressable")
  let val ←loadVar src b
  if ←Rtype.directlyAssignable dst src then storeVar dst a val
  else if ←Rtype.implements dst src then
   if (←Rtype.kind src)==20 then
    match val with
    | .nilIface=>unsupported (.noEntry "extern/reflectlite: a nil value of one interface type handed on as a value of another")
    | _=>storeVar dst a val
   else storeVar dst a (.iface src val)
  else panicString ("reflectlite.Set: value of type " ++ (←Rtype.spelt src) ++ " is not assignable to type " ++ (←Rtype.spelt dst))
  pure (.tuple #[])):=rfl
theorem bo_set(ta b:Addr)(k:Int)(old:Value)(W:World)(hb:W.cell? b=some (.int .i64 k))(ht:W.cell? ta=some old)(hf:W.frozen? ta=false) :
  (ReflectliteValue.set #[.agg #[.pointer (some ⟨7,133,none⟩),.pointer (some ta),.int .u64 409],.agg #[.pointer (some ⟨7,133,none⟩),.pointer (some b),.int .u64 153]]).run Tryz.prog W
   = .ok (.tuple #[]) (W.setCell ta (.int .i64 k)):=by
 rw[rl_set]
 simp only[Sem.run_bind,bo_partsA,bo_partsS,Result.andThen]
 simp[ReflectliteValue.flagAddr,loadVar,loadCells,loadCellsFrom,hb,Result.andThen,bo_direct,storeVar,Value.cells,storeCells,Addr.add]
 rw[run_store Tryz.prog W ta _ _ (by rfl)]
 simp[ht,hf]
theorem bo_mKind(h:Value)(w:World):(Go.method 407 216 (.agg #[h]) "Kind").run Tryz.prog w=.ok (205,h) w:=by kernel_rfl
theorem bo_mElem(h:Value)(w:World):(Go.method 407 216 (.agg #[h]) "Elem").run Tryz.prog w=.ok (221,.agg #[h]) w:=by kernel_rfl
theorem bo_mImpl(h:Value)(w:World):(Go.method 407 216 (.agg #[h]) "Implements").run Tryz.prog w=.ok (222,.agg #[h]) w:=by kernel_rfl
theorem bo_mAssign(h:Value)(w:World):(Go.method 407 216 (.agg #[h]) "AssignableTo").run Tryz.prog w=.ok (219,.agg #[h]) w:=by kernel_rfl
set_option maxHeartbeats 4000000 in
set_option maxRecDepth 100000 in
theorem as_hit(k:Int)(t:Addr)(old:Value)(w:World)(hg:Handle w)(hlt:2<w.heap.size)(ht0:w.cell? t=some old)(hf0:w.frozen? t=false) :
  Calls Tryz.prog 71 #[.iface 133 (.agg #[.int .i64 k]),.iface 135 (.pointer (some t))] w fun ev w'=>ev=.returned (.bool true)∧w'=((((w.alloc (.cells #[.pointer (some t)] 135)).alloc (.cells #[.pointer (some ⟨7,135,none⟩),.pointer (some ⟨w.heap.size,0,none⟩),.int .u64 150] 177)).alloc (.cells #[.pointer (some ⟨7,135,none⟩),.pointer (some ⟨w.heap.size,0,none⟩),.int .u64 150] 177)).alloc (.cells #[.int .i64 k] 133)).setCell t (.int .i64 k):=by
 have h6:=@run_callFunc_extern Tryz.prog 107 _ (fun args=>ReflectliteValue.unpack (args.getD 0 (.tuple #[]))) Tryz.func107 (by kernel_rfl) (by kernel_rfl) (by kernel_rfl) (by kernel_rfl)
 have h7:=@run_callFunc_extern Tryz.prog 108 _ (ReflectliteValue.methodAny (ReflectliteValue.valueError "reflectlite.Value.Type" 0) (fun t _ _ _=>ReflectliteType.toType t)) Tryz.func108 (by kernel_rfl) (by kernel_rfl) (by kernel_rfl) (by kernel_rfl)
 have h8:=@run_callFunc_extern Tryz.prog 109 _ (ReflectliteValue.method (ReflectliteValue.valueError "reflectlite.Value.IsNil" 0) ReflectliteValue.isNil) Tryz.func109 (by kernel_rfl) (by kernel_rfl) (by kernel_rfl) (by kernel_rfl)
 have h27:=@run_callFunc_extern Tryz.prog 205 _ (ReflectliteType.abiMethod fun t=>do pure (.int .u8 (←Rtype.kind t))) Tryz.func205 (by kernel_rfl) (by kernel_rfl) (by kernel_rfl) (by kernel_rfl)
 have h37:=@run_callFunc_extern Tryz.prog 221 _ (ReflectliteType.method ReflectliteType.elem) Tryz.func221 (by kernel_rfl) (by kernel_rfl) (by kernel_rfl) (by kernel_rfl)
 have h38:=@run_callFunc_extern Tryz.prog 222 _ (ReflectliteType.relation "Implements" ReflectliteType.implements_) Tryz.func222 (by kernel_rfl) (by kernel_rfl) (by kernel_rfl) (by kernel_rfl)
 have h10:=@run_callFunc_extern Tryz.prog 136 _ ReflectliteType.typeOf Tryz.func136 (by kernel_rfl) (by kernel_rfl) (by kernel_rfl) (by kernel_rfl)
 have h35:=@run_callFunc_extern Tryz.prog 219 _ (ReflectliteType.relation "AssignableTo" ReflectliteType.assignableTo) Tryz.func219 (by kernel_rfl) (by kernel_rfl) (by kernel_rfl) (by kernel_rfl)
 have h11:=@run_callFunc_extern Tryz.prog 137 _ (ReflectliteValue.method (ReflectliteValue.valueError "reflectlite.Value.Elem" 0) ReflectliteValue.elem) Tryz.func137 (by kernel_rfl) (by kernel_rfl) (by kernel_rfl) (by kernel_rfl)
 have h12:=@run_callFunc_extern Tryz.prog 138 _ ReflectliteValue.set Tryz.func138 (by kernel_rfl) (by kernel_rfl) (by kernel_rfl) (by kernel_rfl)
 have tO:=bo_typeOf
 have mA:=bo_mAssign
 have a25:=bo_assignable
 have v25:=bo_valueOfS
 have f6:=bo_valueOf
 have f7:=bo_type
 have mK:=bo_mKind
 have mE:=bo_mElem
 have mI:=bo_mImpl
 have k27:=bo_kindP
 have k25:=bo_kindS
 have e27:=bo_elemT
 have i25:=bo_implements
 have n8:=bo_isNil ⟨w.heap.size,0,none⟩ t ((w.alloc (.cells #[.pointer (some t)] 135)).alloc (.cells #[.pointer (some ⟨7,135,none⟩),.pointer (some ⟨w.heap.size,0,none⟩),.int .u64 150] 177)) (by simp)
 have hg2:((w.alloc (.cells #[.pointer (some t)] 135)).alloc (.cells #[.pointer (some ⟨7,135,none⟩),.pointer (some ⟨w.heap.size,0,none⟩),.int .u64 150] 177)).cell? ⟨2,0,none⟩=some (.iface 216 (.agg #[.pointer (some ⟨7,129,none⟩)])):=by
  rw[World.cell?_alloc_lt _ _ ⟨2,0,none⟩ (by simp<;>omega),World.cell?_alloc_lt _ _ ⟨2,0,none⟩ hlt];exact hg
 have htl:t.block<w.heap.size:=by
  rcases Nat.lt_or_ge t.block w.heap.size with h|h
  ·exact h
  ·simp[World.cell?,Array.getElem?_eq_none h]at ht0
 have el:=bo_elemV ⟨w.heap.size,0,none⟩ t (((w.alloc (.cells #[.pointer (some t)] 135)).alloc (.cells #[.pointer (some ⟨7,135,none⟩),.pointer (some ⟨w.heap.size,0,none⟩),.int .u64 150] 177)).alloc (.cells #[.pointer (some ⟨7,135,none⟩),.pointer (some ⟨w.heap.size,0,none⟩),.int .u64 150] 177)) (by rw[World.cell?_alloc_lt _ _ ⟨w.heap.size,0,none⟩ (by simp;omega)];simp)
 have st:=bo_set t ⟨w.heap.size+1+1+1,0,none⟩ k old ((((w.alloc (.cells #[.pointer (some t)] 135)).alloc (.cells #[.pointer (some ⟨7,135,none⟩),.pointer (some ⟨w.heap.size,0,none⟩),.int .u64 150] 177)).alloc (.cells #[.pointer (some ⟨7,135,none⟩),.pointer (some ⟨w.heap.size,0,none⟩),.int .u64 150] 177)).alloc (.cells #[.int .i64 k] 133))
  (by rw[World.cell?_alloc_at _ _ _ _ (by simp)];rfl)
  (by rw[World.cell?_alloc_lt _ _ t (by simp;omega),World.cell?_alloc_lt _ _ t (by simp;omega),World.cell?_alloc_lt _ _ t (by simp;omega),World.cell?_alloc_lt _ _ t htl];exact ht0)
  (by rw[World.frozen?_alloc_old _ _ t (by simp;omega),World.frozen?_alloc_old _ _ t (by simp;omega),World.frozen?_alloc_old _ _ t (by simp;omega),World.frozen?_alloc_old _ _ t (Nat.ne_of_lt htl)];exact hf0)
 clear hg ht0 hf0
 go_enter Tryz.func71,Tryz.ntmps71
 go_wp2
 refine wp_loop_rounds 1 ?_
 rw[rounds_succ]
 go_wp2
 go_ret
 exact⟨rfl,rfl⟩
end Go.Proofs.YtenbfookfcmpoaaGreatDoor
namespace Go.Proofs.YtenbfookfcmpoaaGreatDoor
theorem tkH{P:Program}{ops:Array Oper}{Q:Exit→Act→World→Prop}{md:Region.Mode}{S:World→Prop}{oi:Oper}{fuel:Nat}{listed:Array Bool}{a a':Act}{w:World}(i:Nat)(v:Value)(hi:ops[i]? = some oi)
  (h:wpAnyH P md ops Q S fuel (listed.setIfInBounds i true) a' w)
  (hy:∀w',S w'→(execOp a.eval oi).run P w'=.ok (.value v) w':=by(intro w' hSw;go_simp;first|done|with_reducible rfl))
  (ha:a.put oi.dst v=a':=by((try simp only[Act.put,List.setIfInBounds_toArray,List.set_cons_succ,List.set_cons_zero]);first|done|rfl))
  (hg:Region.wanted oi (yielded ops a.tmps)=true:=by rfl) (hs:Region.noSelect ops=true:=by kernel_rfl) (hf:Region.free md ops listed i=true:=by kernel_rfl) (hr:(Region.ready md ops listed).contains i=true:=by kernel_rfl)
  (hQ:∀c a w,Q (.panic c) (a.put oi.dst v) w→Q (.panic c) a w:=by exact fun _ _ _ h=>h) (hS:S w:=by assumption):wpAnyH P md ops Q S (fuel+1) listed a w:=
 wpAnyH_take hi hs hf hr hQ (.inl ⟨hg,hy⟩) hS (ha ▸ h)
theorem tkU{P:Program}{ops:Array Oper}{Q:Exit→Act→World→Prop}{md:Region.Mode}{S:World→Prop}{oi:Oper}{fuel:Nat}{listed:Array Bool}{a a':Act}{w:World}(i:Nat)(hi:ops[i]? = some oi)
  (h:wpAnyH P md ops Q S fuel (listed.setIfInBounds i true) a' w)
  (ha:a.put oi.dst undef=a':=by((try simp only[Act.put,List.setIfInBounds_toArray,List.set_cons_succ,List.set_cons_zero]);first|done|rfl))
  (hg:Region.wanted oi (yielded ops a.tmps)=false:=by rfl) (hs:Region.noSelect ops=true:=by kernel_rfl) (hf:Region.free md ops listed i=true:=by kernel_rfl) (hr:(Region.ready md ops listed).contains i=true:=by kernel_rfl)
  (hQ:∀c a w,Q (.panic c) (a.put oi.dst undef) w→Q (.panic c) a w:=by exact fun _ _ _ h=>h) (hS:S w:=by assumption):wpAnyH P md ops Q S (fuel+1) listed a w:=
 wpAnyH_take hi hs hf hr hQ (.inr ⟨hg,rfl⟩) hS (ha ▸ h)
theorem rdH{P:Program}{ops:Array Oper}{Q:Exit→Act→World→Prop}{md:Region.Mode}{S:World→Prop}{o:Oper}{fuel:Nat}{listed:Array Bool}{a:Act}{w:World}(i:Nat)(ho:ops[i]? = some o)
  (h:∀K':Act→World→Prop,Shut (∀a w,S w→(S w→wpAnyH P md ops Q S fuel (listed.setIfInBounds i true) a w)→K' a w)→if Region.wanted o (yielded ops a.tmps)=true then Oper.wp P o a w K' Q else K' (a.put o.dst undef) w)
  (hr:Region.ready md ops listed = [i]:=by kernel_rfl):wpAnyH P md ops Q S (fuel+1) listed a w:=
 wpAnyH_ready hr (by simp) (AllReadyH.cons ho h AllReadyH.nil)
theorem nmH{P:Program}{ops:Array Oper}{Q:Exit→Act→World→Prop}{md:Region.Mode}{S:World→Prop}{fuel:Nat}{listed:Array Bool}{a a':Act}{w:World}(h:wpAnyH P md ops Q S fuel listed a' w)
  (ha:a=a':=by((try simp only[Act.put,List.setIfInBounds_toArray,List.set_cons_succ,List.set_cons_zero]);first|done|rfl)):wpAnyH P md ops Q S fuel listed a w:=ha ▸ h
end Go.Proofs.YtenbfookfcmpoaaGreatDoor
namespace Go.Proofs.YtenbfookfcmpoaaGreatDoor
open Go.ChangeShapes Go.WideShapes Go.RowKit
theorem specDigits_at(m b:Int)(k:Nat)(hm:m=(k:Int))(w:World)(hn:k<18446744073709551616)(h2:2≤b)(h36:b≤36) :
  Calls Tryz.prog 25 #[.int .u64 m,.int .i64 b] w fun e w'=>e=.returned (.string ⟨(textOf b.toNat k).toArray⟩)∧w'=w:=by
 obtain⟨c,rfl⟩:=Int.eq_ofNat_of_zero_le (show 0≤b by omega)
 subst hm
 exact specDigits_any k c w hn (by omega) (by omega)
set_option maxHeartbeats 400000 in
theorem specInt_any(n b:Int)(w:World) :
  Calls Tryz.prog 10 #[.int .i64 n,.int .i64 b] w fun e w'=>e=.returned (.string (intText n b))∧w'=w:=by
 by_cases h:2≤b∧b≤36
 ·by_cases hn:n<0
  ·have HV:Hid (intText n b=⟨#[45]⟩++⟨(textOf b.toNat (unsig (-n))).toArray⟩):=intText_neg n b h hn
   have HC:Hid _:=fun w=>specDigits_at _ b (unsig (-n)) (neg_unsig n) w (unsig_lt (-n)) h.1 h.2
   obtain⟨h2,h36⟩:=h
   have hl:=textOf_length b.toNat (unsig (-n))
   generalize textOf b.toNat (unsig (-n))=t at *
   go_enter Tryz.func10,Tryz.ntmps10
   go_wp2_with (go_at_call 25;refine(HC.out _).mono ?_;rintro e w' ⟨rfl,rfl⟩)
   go_ret
   exact⟨by rw[HV.out];rfl,rfl⟩
  ·have HV:Hid (intText n b=⟨(textOf b.toNat (unsig n)).toArray⟩):=intText_pos n b h hn
   have HC:Hid _:=fun w=>specDigits_at _ b (unsig n) (unsig_cast n) w (unsig_lt n) h.1 h.2
   obtain⟨h2,h36⟩:=h
   go_enter Tryz.func10,Tryz.ntmps10
   go_wp2_with (go_at_call 25;refine(HC.out _).mono ?_;rintro e w' ⟨rfl,rfl⟩)
   go_ret
   exact⟨by rw[HV.out];rfl,rfl⟩
 ·have HV:Hid (intText n b=⟨#[]⟩):=by unfold intText;exact if_neg h
  go_enter Tryz.func10,Tryz.ntmps10
  by_cases h2:b<2
  ·clear h
   go_wp2
   go_ret
   exact⟨by rw[HV.out];rfl,rfl⟩
  ·have h36:36<b:=by omega
   clear h
   go_wp2
   go_ret
   exact⟨by rw[HV.out];rfl,rfl⟩
def sciB(ds:ByteArray)(pow:Int):ByteArray:=(if 1<ds.size then ds.extract 0 1++(⟨#[46]⟩++ds.extract 1 ds.size) else ds.extract 0 1)++⟨#[101]⟩++intText (pow-1) 10
theorem int_size(n:Int):(intText n 10).size≤70:=by
 unfold intText
 rw[if_pos (by omega)]
 have h1:∀k,(⟨(textOf 10 k).toArray⟩:ByteArray).size≤64:=fun k=>by
  rw[←data_len]
  exact textOf_length 10 k
 split
 ·rw[append_size]
  have:=h1 (unsig (-n))
  have e:(⟨#[45]⟩:ByteArray).size=1:=rfl
  rw[show(10:Int).toNat=10 from rfl]
  omega
 ·have:=h1 (unsig n)
  rw[show(10:Int).toNat=10 from rfl]
  omega
theorem sciB_size(ds:ByteArray)(pow:Int):(sciB ds pow).size≤ds.size+80:=by
 unfold sciB
 have h:=int_size (pow-1)
 have e1:(⟨#[101]⟩:ByteArray).size=1:=rfl
 have e2:(⟨#[46]⟩:ByteArray).size=1:=rfl
 have e3:(ds.extract 0 1).size≤1:=by simp;omega
 rw[append_size,append_size]
 split
 ·have e4:(ds.extract 1 ds.size).size=ds.size-1:=by simp
  rw[append_size,append_size];omega
 ·omega
set_option maxHeartbeats 1000000 in
set_option maxRecDepth 100000 in
theorem l5science_any(ds:ByteArray)(p:Int)(hs:ds.size≤3000)(h0:0<ds.size)(hp:-100000≤p)(hp2:p≤100000)(w:World) :
  Calls Tryz.prog 90 #[.agg #[.string ds,.int .i64 p]] w fun e w'=>e=.returned (.string (sciB ds p))∧Below w.heap.size w w':=by
 have HI:Hid _:=fun w=>specInt_any (p-1) 10 w
 have hi:=int_size (p-1)
 have hs':(ds.size:Int)≤3000:=by omega
 unfold sciB
 generalize intText (p-1) 10=I at *
 by_cases h1:1<ds.size
 ·rw[if_pos h1]
  have e4:(ds.extract 1 ds.size).size=ds.size-1:=by simp
  go_enter Tryz.func90,Tryz.ntmps90
  go_wp2_with (go_at_call 10;refine(HI.out _).mono ?_;rintro e w' ⟨rfl,rfl⟩)
  go_ret
  exact⟨rfl,(Below.refl _ _).alloc (Nat.le_refl _) _⟩
 ·rw[if_neg h1]
  go_enter Tryz.func90,Tryz.ntmps90
  go_wp2_with (go_at_call 10;refine(HI.out _).mono ?_;rintro e w' ⟨rfl,rfl⟩)
  go_ret
  exact⟨rfl,(Below.refl _ _).alloc (Nat.le_refl _) _⟩
end Go.Proofs.YtenbfookfcmpoaaGreatDoor
