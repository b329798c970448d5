import Derived.Test.YtenbfookfcmpoaaGreatDoorF34
import Derived.ProofKit
import Derived.LaidMore
import Derived.LaidHandle
import Derived.OpenShut
import Derived.OpenVars
import Derived.Lib.LaidTab
import Derived.Stop.LaidErr
import Derived.Stop.Joined
import Derived.SevenTiedAt
import Derived.Lay
namespace Go.Proofs.YtenbfookfcmpoaaGreatDoor
open Go.ChangeShapes Go.WideShapes Go.ChangeAt Go.WideMaps Go.WideElems Go.RowKit
theorem own:ownKnob Tryz.prog.godebug=none:=by kernel_rfl
theorem laidOut:laidOutB Tryz.prog=true:=by kernel_rfl
theorem gTab:Tryz.prog.globalNamed "math/bits.deBruijn64tab" = some 0:=by kernel_rfl
theorem tTab:(Tryz.prog.globals[0]?).map (·.type)=some 164:=by kernel_rfl
theorem gDigits:Tryz.prog.globalNamed "loop.example/grain/impl.digitBytes" = some 1:=by kernel_rfl
theorem tDigits:(Tryz.prog.globals[1]?).map (·.type)=some 171:=by kernel_rfl
theorem gErr:Tryz.prog.globalNamed "errors.errorType" = some 2:=by kernel_rfl
theorem rtErr:(Tryz.prog.cutTypes.find? (·.1 == "internal/reflectlite.rtype")).map (·.2)=some 216:=by kernel_rfl
theorem rowErr:((List.range Tryz.prog.types.size).filter fun t=>Tryz.prog.rowNamed t [101,114,114,111,114]) = [129]:=by kernel_rfl
def laidList:List (String × DataW Unit):=[("math/bits.deBruijn64tab",Rows.laid_math_bits_deBruijn64tab),("unicode/utf8.acceptRanges",Rows.laid_unicode_utf8_acceptRanges),("errors.errorType",Rows.laid_errors_errorType),("loop.example/grain/impl.digitBytes",Rows.laid_loop_example_grain_impl_digitBytes),("unicode/utf8.first",Rows.laid_unicode_utf8_first)]
def dataList:List (String × DataW Unit):=[("math/bits.deBruijn64tab",Rows.laid_math_bits_deBruijn64tab),("unicode/utf8.acceptRanges",Rows.laid_unicode_utf8_acceptRanges),("loop.example/grain/impl.digitBytes",Rows.laid_loop_example_grain_impl_digitBytes),("unicode/utf8.first",Rows.laid_unicode_utf8_first)]
def tabNums:List Int:=Lib.deBruijn64tab.map fun(n:Nat)=>(n:Int)
theorem tabNums_at:∀i:_root_.Fin 64,tabNums.getD i.val 0=((Lib.deBruijn64tab.getD i.val 0:Nat):Int):=by decide
def digitNums:List Int:=[48,49,50,51,52,53,54,55,56,57,97,98,99,100,101,102,103,104,105,106,107,108,109,110,111,112,113,114,115,116,117,118,119,120,121,122]
theorem digitNums_at:∀i:_root_.Fin 36,digitNums.getD i.val 0=((dch i.val).toNat:Int):=by decide
theorem wrg_of_met{W:World}(h:laidMet Tryz.prog dataList W):WrG W:=by
 have ht:Lib.TabIs Tryz.prog W "math/bits.deBruijn64tab" .u8 tabNums:=
  Lib.tabIs_of_head gTab tTab Tryz.underlying164 Tryz.underlying5 (by kernel_rfl) (by kernel_rfl) h
 have hd:Lib.TabIs Tryz.prog W "loop.example/grain/impl.digitBytes" .u8 digitNums:=
  Lib.tabIs_of_head gDigits tDigits Tryz.underlying171 Tryz.underlying5 (by kernel_rfl) (by kernel_rfl) h.tail.tail
 have hc:DTab W:=fun i hi=>by
  have:=ht.cell gTab i hi
  rw[this,tabNums_at ⟨i,hi⟩]
 have hc2:Tab W:=fun i hi=>by
  have:=hd.cell gDigits i hi
  rw[this,digitNums_at ⟨i,hi⟩]
 exact⟨hc,hc2,(World.block_lt_of_cell? W _ (hc 0 (by decide))),(World.block_lt_of_cell? W _ (hc2 0 (by decide)))⟩
theorem handle_of_met{W:World}(h:handlesMet Tryz.prog [("errors.errorType",Rows.laid_errors_errorType)] W):Handle W∧2<W.heap.size:=by
 obtain⟨name,u,ty,e1,e2,e3,e4,e5⟩:=h _ (List.mem_singleton.2 rfl)
 have en:name = [101,114,114,111,114]:=(Option.some.inj e1).symm
 subst en
 obtain rfl:=Option.some.inj (rtErr.symm.trans e2)
 have hm:ty∈(List.range Tryz.prog.types.size).filter fun t=>Tryz.prog.rowNamed t [101,114,114,111,114]:=List.mem_filter.2 ⟨List.mem_range.2 e3,e4⟩
 rw[rowErr]at hm
 obtain rfl:=List.mem_singleton.1 hm
 have hh:typeHandle Tryz.prog 129=.pointer (some ⟨7,129,none⟩):=by kernel_rfl
 rw[hh]at e5
 have hc:Handle W:=by unfold Handle;simpa using World.var?_cell gErr e5 0
 exact⟨hc,World.block_lt_of_cell? W _ hc⟩
def WrH(w:World):Prop:=WrG w∧Handle w∧2<w.heap.size
theorem wrh_of_laid{W:World}(h:laidMetH Tryz.prog laidList W):WrH W:=by
 have h':laidMet Tryz.prog dataList W∧handlesMet Tryz.prog [("errors.errorType",Rows.laid_errors_errorType)] W:=h
 exact⟨wrg_of_met h'.1,handle_of_met h'.2⟩
noncomputable def world0(os:Os):World:=(World.holding Tryz.prog os ⟨#[],#[],[]⟩).setCell ⟨2,0,none⟩ (.iface 216 (.agg #[.pointer (some ⟨7,129,none⟩)]))
noncomputable def worldW(os:Os):World:=(world0 os).layVars Tryz.prog dataList
theorem worldW_os(os:Os):(worldW os).os=os:=World.layVars_os _ _ _
theorem data_met(os:Os):laidMet Tryz.prog dataList (worldW os):=by
 have e1:(dataList.filter fun x=>(dataList.map (·.1)).contains x.1)=dataList:=List.filter_eq_self.2 fun x hx=>List.contains_iff_mem.2 (List.mem_map.2 ⟨x,hx,rfl⟩)
 have e2:(dataList.filter fun x=>!(dataList.map (·.1)).contains x.1) = []:=List.filter_eq_nil_iff.2 fun x hx=>by rw[List.contains_iff_mem.2 (List.mem_map.2 ⟨x,hx,rfl⟩)];simp
 exact laidMet_layVars (w0:=world0 os) (dataList.map (·.1)) [] (by rw[e1];rfl) (by rw[e1];kernel_rfl) (by rw[e1];kernel_rfl) (by rw[e2];exact LaidIn.none)
theorem all_met(os:Os)(args:Array Value):laidMetH Tryz.prog laidList ((worldW os).forCall (fun _ _=>0) ⟨#[],args,[]⟩).memory:=by
 have h1:laidMetH Tryz.prog laidList (worldW os):=⟨data_met os,handlesMet_of_B (hs:=[("errors.errorType",Rows.laid_errors_errorType)]) (by kernel_rfl)⟩
 exact h1.of_heap (by simp[World.memory,World.forCall,Input.heap])
end Go.Proofs.YtenbfookfcmpoaaGreatDoor
