import Derived.Test.YtenbfookfcmpoaaGreatDoorF20
import Derived.Lib.TrailingZeros
import Derived.Test.YtenbfookfcmpoaaGreatDoorF21
import Derived.Shelf.Strings.BuilderK
import Derived.BigCall
namespace Go.Proofs.YtenbfookfcmpoaaGreatDoor
open Go.ChangeShapes Go.WideShapes Go.RowKit
open Ieee (double)
set_option maxHeartbeats 400000 in
theorem size_small(s:Bool)(M:Nat)(w:World) :
  Calls Tryz.prog 54 #[.agg #[.bool s,.int .u64 0,.int .u64 (M:Int)]] w fun e w'=>e=.returned (.tuple #[.int .u64 (M:Int),.int .i64 (-1074)])∧w'=w.alloc (.cells #[.bool s,.int .u64 0,.int .u64 (M:Int)] 104):=by
 go_enter Tryz.func54,Tryz.ntmps54
 go_wp2
 go_ret2
 exact⟨rfl,rfl⟩
set_option maxHeartbeats 400000 in
theorem size_normal(s:Bool)(E M:Nat)(h1:1≤E)(h2:E≤2046)(hM:M<4503599627370496)(w:World) :
  Calls Tryz.prog 54 #[.agg #[.bool s,.int .u64 (E:Int),.int .u64 (M:Int)]] w fun e w'=>e=.returned (.tuple #[.int .u64 ((4503599627370496+M:Nat):Int),.int .i64 ((E:Int)-1 + -1074)])∧w'=(w.alloc (.cells #[.bool s,.int .u64 (E:Int),.int .u64 (M:Int)] 104)).drew:=by
 have e0:((E:Int)==0)=false:=beq_eq_false_iff_ne.2 (by omega)
 have ho:=or_one M hM
 have c1:1≤(E:Int):=by omega
 have c2:(E:Int)≤2046:=by omega
 clear hM h1 h2
 go_enter Tryz.func54,Tryz.ntmps54
 go_wp2
 go_region
 all_goals
  go_wp2
  go_ret2
  exact⟨rfl,rfl⟩
def DTab(w:World):Prop:=∀j,j<64→w.cell? ⟨0,j,none⟩=some (.int .u8 (Lib.deBruijn64tab.getD j 0))
theorem DTab.below{w w':World}(h:DTab w)(hz:0<w.heap.size)(hb:Below w.heap.size w w'):DTab w':=fun j hj=>by
 rw[hb.cell (p:=⟨0,j,none⟩) hz];exact h j hj
theorem tz_vars(m q t:Nat)(h:m=q*2 ^ t)(hq:q % 2=1)(hm:m<18446744073709551616)(w:World)(hT:DTab w):∃ (Y P Z:Int) (i:Nat),
  IntKind.u64.wrap (-(m:Int))=Y∧bits .and .u64 (m:Int) Y=P∧IntKind.u64.wrap (P*285870213051353865)=Z∧Z / 288230376151711744=(i:Int)∧i<64∧0≤Z∧Z<18446744073709551616∧t<64∧w.cell? ⟨0,i,none⟩=some (.int .u8 (t:Int)):=by
 have h0:0<m:=by
  rw[h];exact Nat.mul_pos (by omega) (Nat.two_pow_pos t)
 have ht:t<64:=by
  apply Nat.lt_of_not_le
  intro hle
  have h1:2 ^ 64≤2 ^ t:=Nat.pow_le_pow_right (by omega) hle
  have h2:1*2 ^ t≤q*2 ^ t:=Nat.mul_le_mul_right _ (by omega)
  have e64:(2:Nat) ^ 64=18446744073709551616:=rfl
  omega
 have hx:m=2 ^ t*(2*(q / 2)+1):=by rw[h,Nat.mul_comm];congr 1;omega
 have hand:=Lib.and_neg 64 t (q / 2) (by rw[←hx];exact hm)
 rw[←hx]at hand
 obtain⟨hi,htab⟩:=Lib.deBruijn64_at t ht
 have e1:IntKind.u64.wrap (-(m:Int))=((2 ^ 64-m:Nat):Int):=by rw[IntKind.wrap_u64];omega
 have e2:bits .and .u64 (m:Int) ((2 ^ 64-m:Nat):Int)=((2 ^ t:Nat):Int):=by
  rw[bits_and_u64_nat m _ hm (by omega),hand]
 have e3:IntKind.u64.wrap (((2 ^ t:Nat):Int)*285870213051353865)=((2 ^ t*285870213051353865 % 18446744073709551616:Nat):Int):=by
  rw[IntKind.wrap_u64];omega
 have hc:=hT _ hi
 rw[htab]at hc
 refine⟨_,_,_,_,e1,e2,e3,?_,hi,by omega,?_,ht,hc⟩
 ·omega
 ·have:2 ^ t*285870213051353865 % 18446744073709551616<18446744073709551616:=Nat.mod_lt _ (by omega)
  omega
set_option maxHeartbeats 400000 in
theorem tz_any(m q t:Nat)(h:m=q*2 ^ t)(hq:q % 2=1)(hm:m<18446744073709551616)(w:World)(hT:DTab w) :
  Calls Tryz.prog 55 #[.int .u64 (m:Int)] w fun e w'=>e=.returned (.int .i64 (t:Int))∧w'=w:=by
 obtain⟨Y,P,Z,i,e1,e2,e3,e4,hi,z0,z1,ht,hc⟩:=tz_vars m q t h hq hm w hT
 have m0:((m:Int)==0)=false:=by
  rw[beq_eq_false_iff_ne]
  have:0<m:=by rw[h];exact Nat.mul_pos (by omega) (Nat.two_pow_pos t)
  omega
 generalize (m:Int)=x at *
 have ht':(t:Int)<64:=by omega
 clear h hq hm hT ht
 go_enter Tryz.func55,Tryz.ntmps55
 go_wp2
 go_ret
 exact⟨rfl,rfl⟩
end Go.Proofs.YtenbfookfcmpoaaGreatDoor
namespace Go.Proofs.YtenbfookfcmpoaaGreatDoor
open Go.ChangeShapes Go.WideShapes Go.RowKit
def isB(b:Int):Bool:=decide (2≤b∧b≤36)
theorem isB_yes(b:Int)(h2:2≤b)(h36:b≤36):isB b=true:=decide_eq_true ⟨h2,h36⟩
theorem isB_no(b:Int)(h:b<2∨36<b):isB b=false:=decide_eq_false (by omega)
set_option maxHeartbeats 400000 in
theorem isBase_any(b:Int)(w:World) :
  Calls Tryz.prog 181 #[.int .i64 b] w fun e w'=>e=.returned (.bool (isB b))∧w'=w:=by
 by_cases h1:2≤b
 ·by_cases h2:b≤36
  ·rw[isB_yes b h1 h2]
   go_enter Tryz.func181,Tryz.ntmps181
   go_wp2
   go_ret
   exact⟨by simp,rfl⟩
  ·rw[isB_no b (by omega)]
   go_enter Tryz.func181,Tryz.ntmps181
   go_wp2
   go_ret
   exact⟨by simp,rfl⟩
 ·rw[isB_no b (by omega)]
  go_enter Tryz.func181,Tryz.ntmps181
  go_wp2
  go_ret
  exact⟨by simp,rfl⟩
theorem implDigits_at(m b:Int)(k:Nat)(hm:m=(k:Int))(w:World)(hn:k<18446744073709551616)(h2:2≤b)(h36:b≤36)(ht:Tab w)(hw:1<w.heap.size) :
  Calls Tryz.prog 182 #[.int .u64 m,.int .u64 b] w fun e w'=>e=.returned (.string ⟨(textOf b.toNat k).toArray⟩)∧Below w.heap.size w w':=by
 obtain⟨c,rfl⟩:=Int.eq_ofNat_of_zero_le (show 0≤b by omega)
 subst hm
 exact implDigits_any k c w hn (by omega) (by omega) ht hw
set_option maxHeartbeats 400000 in
theorem implInt_any(n b:Int)(w:World)(ht:Tab w)(hw:1<w.heap.size) :
  Calls Tryz.prog 164 #[.int .i64 n,.int .i64 b] w fun e w'=>e=.returned (.string (intText n b))∧Below w.heap.size w w':=by
 have HB:Hid _:=isBase_any b
 by_cases h:2≤b∧b≤36
 ·rw[isB_yes b h.1 h.2]at HB
  by_cases hn:n<0
  ·have HV:Hid (intText n b=⟨#[45]⟩++⟨(textOf b.toNat (unsig (-n))).toArray⟩):=intText_neg n b h hn
   have HC:Hid _:=fun(_:Unit)=>implDigits_at _ b (unsig (-n)) (neg_unsig n) w (unsig_lt (-n)) h.1 h.2 ht hw
   obtain⟨h2,h36⟩:=h
   have hl:=textOf_length b.toNat (unsig (-n))
   generalize textOf b.toNat (unsig (-n))=t at *
   clear ht
   go_enter Tryz.func164,Tryz.ntmps164
   go_wp2_with (go_at_call 181;refine(HB.out _).mono ?_;rintro e w' ⟨rfl,rfl⟩)
   refine(HC.out ()).mono ?_
   rintro e w1 ⟨rfl,hb⟩
   have HX:Hid _:=hb
   clear hb
   go_wp2
   go_ret
   exact⟨by rw[HV.out];rfl,HX.out⟩
  ·have HV:Hid (intText n b=⟨(textOf b.toNat (unsig n)).toArray⟩):=intText_pos n b h hn
   have HC:Hid _:=fun(_:Unit)=>implDigits_at _ b (unsig n) (unsig_cast n) w (unsig_lt n) h.1 h.2 ht hw
   obtain⟨h2,h36⟩:=h
   clear ht
   go_enter Tryz.func164,Tryz.ntmps164
   go_wp2_with (go_at_call 181;refine(HB.out _).mono ?_;rintro e w' ⟨rfl,rfl⟩)
   refine(HC.out ()).mono ?_
   rintro e w1 ⟨rfl,hb⟩
   have HX:Hid _:=hb
   clear hb
   go_wp2
   go_ret
   exact⟨by rw[HV.out];rfl,HX.out⟩
 ·rw[isB_no b (by omega)]at HB
  have HV:Hid (intText n b=⟨#[]⟩):=by unfold intText;exact if_neg h
  clear h ht
  go_enter Tryz.func164,Tryz.ntmps164
  go_wp2_with (go_at_call 181;refine(HB.out _).mono ?_;rintro e w' ⟨rfl,rfl⟩)
  go_ret
  exact⟨by rw[HV.out];rfl,Below.refl _ _⟩
set_option maxHeartbeats 1600000 in
set_option maxRecDepth 100000 in
theorem l0cmp_any(v u:Value)(A C:Nat)(w:World)(h:Big w v A)(h':Big w u C) :
  Calls Tryz.prog 114 #[v,u] w fun e w'=>Below w.heap.size w w'∧e=.returned (.int .i64 (cmpI A C)):=by
 obtain⟨ls,a1,a2,a3,rfl⟩:=h
 obtain⟨ms,b1,b2,b3,rfl⟩:=h'
 obtain⟨ao,acap,rfl,ac,am,ah⟩:=a1
 obtain⟨bo,bcap,rfl,bc,bm,bh⟩:=b1
 have am':acap≤9223372036854775807:=am
 have bm':bcap≤9223372036854775807:=bm
 have HA:Hid _:=ah
 have HB:Hid _:=bh
 have LA:Hid _:=a2
 have LB:Hid _:=b2
 clear ah bh am bm
 by_cases hl:ls.length=ms.length
 ·clear a2 b2 a3 b3
  have e0:((ms.length:Int)==ms.length)=true:=beq_iff_eq.2 rfl
  rw[hl]
  go_enter Tryz.func114,Tryz.ntmps114
  go_wp2
  go_loopw [5] (fun i wr=>∃k:Nat,i=.int .i64 ((k:Int)-1)∧k≤ms.length∧Hid (ls.drop k=ms.drop k)∧Below w.heap.size w wr) (fun i _=>(intOf i+1).toNat)
  case atStart=>exact⟨ms.length,rfl,Nat.le_refl _,by show _=_;rw[List.drop_length,←hl,List.drop_length],Below.refl _ _⟩
  case round=>
   obtain⟨k,rfl,hk,HD,hbe⟩:=hrel
   cases k with
   | zero=>
    have HE:Hid (cmpI (bval ls) (bval ms)=0):=cmpI_eq (congrArg bval (by simpa using HD.out))
    go_wp2
    go_ret
    exact⟨hbe,by rw[HE.out];rfl⟩
   | succ k=>
    obtain⟨g,rfl,hg,hcl⟩:=Row.block ac HA.out (t:=k) (by omega)
    obtain⟨g',rfl,hg',hcl'⟩:=Row.block bc HB.out (t:=k) (by omega)
    have hx:wr.cell? ⟨g,k,none⟩=some (.int .u64 (ls.getD k 0:Nat)):=(hbe.cell hg).trans (hcl k (by omega))
    have hy:wr.cell? ⟨g',k,none⟩=some (.int .u64 (ms.getD k 0:Nat)):=(hbe.cell hg').trans (hcl' k (by omega))
    clear hcl hcl'
    have hxl:=lim_get LA.out k
    have hyl:=lim_get LB.out k
    rcases Nat.lt_trichotomy (ls.getD k 0) (ms.getD k 0) with hc|hc|hc
    ·have HE:Hid (cmpI (bval ls) (bval ms) = -1):=cmpI_lt (parts_lt LA.out hl k (by omega) HD.out hc)
     generalize ls.getD k 0=x at *
     generalize ms.getD k 0=y at *
     go_wp2
     go_quiet (fail)
     go_wp2
     go_ret
     exact⟨by repeat (first|exact hbe|refine below_drewN ?_ _),by rw[HE.out];rfl⟩
    ·have HE:Hid (ls.drop k=ms.drop k):=drop_eq hl k (by omega) HD.out hc
     generalize ls.getD k 0=x at *
     generalize ms.getD k 0=y at *
     go_wp2
     go_quiet (fail)
     go_wp2
     go_quiet (fail)
     go_wp2
     exact⟨⟨k,rfl,by omega,HE,by repeat (first|exact hbe|refine below_drewN ?_ _)⟩,by simp only[intOf];omega⟩
    ·have HE:Hid (cmpI (bval ls) (bval ms)=1):=cmpI_gt (parts_lt LB.out hl.symm k (by omega) HD.out.symm hc)
     generalize ls.getD k 0=x at *
     generalize ms.getD k 0=y at *
     go_wp2
     go_quiet (fail)
     go_wp2
     go_quiet (fail)
     go_wp2
     go_ret
     exact⟨by repeat (first|exact hbe|refine below_drewN ?_ _),by rw[HE.out];rfl⟩
 ·have e0:((ls.length:Int)==ms.length)=false:=beq_eq_false_iff_ne.2 (by omega)
  by_cases hlt:ls.length<ms.length
  ·have HE:Hid (cmpI (bval ls) (bval ms) = -1):=cmpI_lt (len_lt a2 b3 hlt)
   clear a2 b2 a3 b3
   go_enter Tryz.func114,Tryz.ntmps114
   go_wp2
   go_ret
   exact⟨Below.refl _ _,by rw[HE.out];rfl⟩
  ·have HE:Hid (cmpI (bval ls) (bval ms)=1):=cmpI_gt (len_lt b2 a3 (by omega))
   clear a2 b2 a3 b3
   go_enter Tryz.func114,Tryz.ntmps114
   go_wp2
   go_ret
   exact⟨Below.refl _ _,by rw[HE.out];rfl⟩
end Go.Proofs.YtenbfookfcmpoaaGreatDoor
namespace Go.Proofs.YtenbfookfcmpoaaGreatDoor
open Go.RowKit
open Ieee (double)
def sgnT(neg:Bool)(t:ByteArray):ByteArray:=if neg then ⟨#[45]⟩++t else t
theorem bAt_append_left(a b:ByteArray)(k:Nat)(h:k<a.size):bAt (a++b) k=bAt a k:=by
 rw[bAt_in _ k (by rw[append_size];omega),bAt_in _ k h,ByteArray.getElem_append_left h]
theorem bAt_append_right(a b:ByteArray)(k:Nat):bAt (a++b) (a.size+k)=bAt b k:=by
 by_cases h:k<b.size
 ·rw[bAt_in _ _ (by rw[append_size];omega),bAt_in _ k h,ByteArray.getElem_append_right (by omega)]
  simp
 ·rw[bAt_out _ _ (by rw[append_size];omega),bAt_out _ _ h]
theorem good_bAt(a:ByteArray)(h:good 10 a.data.toList)(k:Nat)(hk:k<a.size):digN 99 (bAt a k)<10∧48≤bAt a k∧bAt a k≤57:=by
 have h1:=good_at 10 a h k hk
 rw[bAt_in _ k hk]
 exact⟨h1,(ten_digit _ h1).1,(ten_digit _ h1).2.1⟩
theorem extract_mid(p a b:ByteArray):(p++a++b).extract p.size (p.size+a.size)=a:=by
 apply ByteArray.ext
 apply Array.toList_inj.1
 rw[Lib.extract_eq,append_list,append_list]
 simp
end Go.Proofs.YtenbfookfcmpoaaGreatDoor
namespace Go.Proofs.YtenbfookfcmpoaaGreatDoor
open Go.RowKit Go.Shelf
def strRen:Go.Shelf.Ren:=⟨fun|169=>42|n=>n,fun|70=>93|9=>9|0=>0|72=>95|37=>22|127=>151|3=>3|5=>5|n=>n,fun|n=>n⟩
theorem strLays:Go.Proofs.Lays.n169 Tryz.prog strRen:={
 mixed:=by kernel_rfl
 f169:=Tryz.func42.trans (congrArg some (by kernel_rfl))
 t0:=Tryz.underlying0
 a0:=Tryz.isAgg0
 z0:=Tryz.sizeOf0
 v0:=Tryz.zeroValue0
 t3:=Tryz.underlying3
 a3:=Tryz.isAgg3
 z3:=Tryz.sizeOf3
 v3:=Tryz.zeroValue3
 t9:=Tryz.underlying9
 a9:=Tryz.isAgg9
 z9:=Tryz.sizeOf9
 v9:=Tryz.zeroValue9
 t37:=Tryz.underlying22
 a37:=Tryz.isAgg22
 z37:=Tryz.sizeOf22
 v37:=Tryz.zeroValue22
 t70:=Tryz.underlying93
 a70:=Tryz.isAgg93
 z70:=Tryz.sizeOf93
 v70:=Tryz.zeroValue93
 t72:=Tryz.underlying95
 a72:=Tryz.isAgg95
 z72:=Tryz.sizeOf95
 v72:=Tryz.zeroValue95
 t127:=Tryz.underlying151
 a127:=Tryz.isAgg151
 z127:=Tryz.sizeOf151
 v127:=Tryz.zeroValue151 }
theorem strExtra:Builder.Extra Tryz.prog strRen:={
 sizeBuilder:=by kernel_rfl
 liesBuilder:=by kernel_rfl
 t5:=Tryz.underlying5
 a5:=Tryz.isAgg5
 z5:=Tryz.sizeOf5
 v5:=Tryz.zeroValue5
 infoByte:=by kernel_rfl
 cellsByte:=by kernel_rfl
 sizeByte:=by kernel_rfl
 neB5:=by decide }
theorem bldString_any(B b:Nat)(l:List UInt8)(w:World)(h:Lib.IsBuilderF 95 5 B b (Lib.byteCells l) w)(hBw:B≤w.heap.size) :
  Calls Tryz.prog 42 #[.pointer (some ⟨b,0,none⟩)] w fun e w'=>e=.returned (.string ⟨l.toArray⟩)∧(Lib.IsBuilderF 95 5 B b (Lib.byteCells l) w'∧Below B w w'∧Lib.OthersKept 5 (some b) w w'):=
 Any.Builder_String_any_k strLays strExtra B b l w h hBw
set_option maxHeartbeats 2000000 in
set_option maxRecDepth 100000 in
theorem copyCheck_fresh(b:Nat)(w:World)(h0:w.cell? ⟨b,0,none⟩=some (.pointer none))(hsh:w.shape? b=some (95,2))(hfz:w.frozen? ⟨b,0,none⟩=false) :
  Calls Tryz.prog 119 #[.pointer (some ⟨b,0,none⟩)] w fun e w'=>e=.returned (.tuple #[])∧w'=w.setCell ⟨b,0,none⟩ (.pointer (some ⟨b,0,none⟩)):=by
 obtain⟨j,hj,hjs⟩:=Option.map_eq_some_iff.1 strExtra.sizeBuilder
 go_enter Tryz.func119,Tryz.ntmps119
 go_wp2
 rw[Lib.run_to_unsafe w ⟨b,0,none⟩ Tryz.underlying93 Tryz.underlying174 hj (by rw[hjs];decide) hsh (Nat.zero_lt_succ 1)]
 simp only[Result.andThen]
 rw[Oper.upon_value]
 go_wp2
 rw[run_callFunc_extern Tryz.func141 (by kernel_rfl) (by kernel_rfl) (by kernel_rfl) (e:=Extern.AbiNoEscape.same) (by kernel_rfl)]
 rw[Lib.run_noEscape]
 simp only[Result.andThen]
 rw[Oper.upon_value]
 go_wp2
 rw[Lib.run_from_unsafe w ⟨b,0,none⟩ Tryz.underlying174 Tryz.underlying93 hj hsh strExtra.liesBuilder]
 simp only[Result.andThen]
 rw[Oper.upon_value]
 have hc:(w.setCell ⟨b,0,none⟩ (.pointer (some ⟨b,0,none⟩))).cell? ⟨b,0,none⟩=some (.pointer (some ⟨b,0,none⟩)):=World.cell?_setCell_same' _ _ _ (by rw[h0];rfl)
 go_wp2
 go_end0
 exact⟨rfl,rfl⟩
set_option maxHeartbeats 2000000 in
set_option maxRecDepth 100000 in
theorem copyCheck_used(b:Nat)(w:World)(h0:w.cell? ⟨b,0,none⟩=some (.pointer (some ⟨b,0,none⟩))) :
  Calls Tryz.prog 119 #[.pointer (some ⟨b,0,none⟩)] w fun e w'=>e=.returned (.tuple #[])∧w'=w:=by
 go_enter Tryz.func119,Tryz.ntmps119
 obtain⟨j,hj,_⟩:=Option.map_eq_some_iff.1 strExtra.sizeBuilder
 go_wp2
 rw[Lib.run_neq_ptr_same w _ Tryz.underlying93 hj]
 go_wp2
 go_end0
 exact⟨rfl,rfl⟩
theorem copyCheck_any(B b:Nat)(bs:List Value)(w:World)(h:Lib.IsBuilderF 95 5 B b bs w) :
  Calls Tryz.prog 119 #[.pointer (some ⟨b,0,none⟩)] w fun e w'=>e=.returned (.tuple #[])∧(Lib.BuilderAtF 95 5 B b (.pointer (some ⟨b,0,none⟩)) bs w'∧Below B w w'∧Lib.OthersKept 5 (some b) w w'):=by
 rcases h with h|h
 ·refine(copyCheck_fresh b w h.cell0 h.shape h.frozen0).mono ?_
  rintro e w' ⟨rfl,rfl⟩
  exact⟨rfl,h.used _,(Below.refl B w).setCell (p:=⟨b,0,none⟩) h.1 _,(Lib.OthersKept.refl _ _ w).setCell ⟨b,0,none⟩ rfl _⟩
 ·refine(copyCheck_used b w h.cell0).mono ?_
  rintro e w' ⟨rfl,rfl⟩
  exact⟨rfl,h,Below.refl B _,Lib.OthersKept.refl _ _ _⟩
set_option maxHeartbeats 2000000 in
set_option maxRecDepth 100000 in
theorem writeByte_any(B b:Nat)(bs:List Value)(c:Int)(w:World)(h:Lib.IsBuilderF 95 5 B b bs w)(hlen:bs.length+1≤1000000)(hBw:B≤w.heap.size) :
  Calls Tryz.prog 82 #[.pointer (some ⟨b,0,none⟩),.int .u8 c] w fun e w'=>e=.returned .nilIface∧(Lib.BuilderAtF 95 5 B b (.pointer (some ⟨b,0,none⟩)) (bs++[.int .u8 c]) w'∧Below B w w'∧Lib.OthersKept 5 (some b) w w'):=by
 obtain⟨i0,hi,hz0,hz1,hz2⟩:=info_parts strExtra.infoByte
 go_enter Tryz.func82,Tryz.ntmps82
 go_wp2_with (go_at_call 119;refine(copyCheck_any B b bs _ h).mono ?_)
 rintro e w1 ⟨rfl,h1,hb1,hk1⟩
 obtain⟨hB,v,hbk,hown,hne⟩:=h1
 have c0:w1.cell? ⟨b,0,none⟩=some (.pointer (some ⟨b,0,none⟩)):=by rw[Lib.cell_of_heap hbk];rfl
 have c1:w1.cell? ⟨b,1,none⟩=some v:=by rw[Lib.cell_of_heap hbk];rfl
 go_wp2_with (at_builtin;refine wpList_append_ownF _ rfl _ _ 22 rfl B 5 i0 (.int .u8 0) 1 1 Tryz.underlying22 hi hz0 hz1 hz2 rfl (by decide) _ _ _ rfl (hown.alloc _) ⟨w1.heap.size,0,none⟩ 1 1 [.int .u8 c] rfl rfl ?c1 ?c2 ?c3 ?c4 ?c5 ?_)
 case c1=>
  intro j u hj
  match j,hj with
  | 0,hj=>simp at hj;subst hj;simp[Addr.add]
 case c2=>intro u hu;simp at hu;subst hu;rfl
 case c3=>unfold maxLen;omega
 case c4=>omega
 case c5=>have:=hb1.size;simp;omega
 intro v' w2 hown' hgrow _
 have hlt:b<w1.heap.size:=(Array.getElem?_eq_some_iff.1 hbk).1
 have hb2:w2.heap[b]? = some (.cells #[.pointer (some ⟨b,0,none⟩),v] 95 (0,0)):=by
  rw[hgrow.block b (by simp;omega) (fun e=>hne e.symm),Lib.alloc_old w1 _ b hlt]
  exact hbk
 have d1:w2.cell? ⟨b,1,none⟩=some v:=by rw[Lib.cell_of_heap hb2];rfl
 have f1:w2.frozen? ⟨b,1,none⟩=false:=Lib.frozen_of_heap hb2 1
 obtain⟨g,cap,rfl⟩:∃g cap,v'=.slice (some ⟨g,0,none⟩) (bs.length+1) cap:=by
  rcases hown'.2 with⟨_,h0⟩|⟨g,cap,cur,fz,hv,_⟩
  ·omega
  ·exact⟨g,cap,hv⟩
 go_wp2
 go_ret
 refine⟨rfl,?_,?_,((hk1.alloc _).grown hgrow (Lib.ownsRowF_kind (hown.alloc _))).setCell ⟨b,1,none⟩ rfl _⟩
 ·exact Lib.BuilderAtF.put (T:=95) (e:=5) hB hb2 (bs':=bs++[.int .u8 c]) (by simpa using hown') (by decide)
 ·exact((hb1.alloc (by have:=hb1.size;omega) _).grown hgrow (by have:=hb1.size;simp;omega) (fun k hk=>(hown.lt k hk).1)).setCell (p:=⟨b,1,none⟩) hB _
theorem below_chg{T:TypeId}{B N H:Nat}{w W W':World}(h:Below H w W)(hc:Chg T B N W W')(hH:H≤B)(hw:H≤w.heap.size):Below H w W':=
 ⟨hc.1.trans h.os,hc.2.1.trans h.tape,hc.2.2.1.trans h.output,Nat.le_trans h.size hc.2.2.2.1,fun k hk=>by
  have h1:=h.block k hk
  obtain⟨o,ho⟩:∃o,w.heap[k]? = some o:=⟨_,Array.getElem?_eq_getElem (Nat.lt_of_lt_of_le hk hw)⟩
  rw[ho]at h1 ⊢
  exact hc.2.2.2.2 k o h1 (.inl (by omega))⟩
theorem isBuilder_chg{T:TypeId}{B N P b:Nat}{bs:List Value}{W W':World}(h:Lib.IsBuilderF 95 5 P b bs W)(hc:Chg T B N W W')(h1:T≠95)(h2:T≠5):Lib.IsBuilderF 95 5 P b bs W':=by
 have key:∀p,Lib.BuilderAtF 95 5 P b p bs W→Lib.BuilderAtF 95 5 P b p bs W':=fun p h=>by
  obtain⟨hB,v,hb,hown,hne⟩:=h
  refine⟨hB,v,hc.2.2.2.2 b _ hb (.inr ⟨_,_,_,rfl,.inl fun e=>h1 e.symm⟩),⟨hown.1,?_⟩,hne⟩
  rcases hown.2 with hn|⟨g,cap,cur,fz,hv,hbg,hg,rest⟩
  ·exact .inl hn
  ·exact .inr ⟨g,cap,cur,fz,hv,hbg,hc.2.2.2.2 g _ hg (.inr ⟨_,_,_,rfl,.inl fun e=>h2 e.symm⟩),rest⟩
 exact h.elim (fun x=>.inl (key _ x)) (fun x=>.inr (key _ x))
theorem rnd_of_kept{b:Nat}{W W':World}(h:Lib.OthersKept 5 (some b) W W')(hB:Below b W W'):Rnd b W W':=
 ⟨hB.size,fun k c t fz hk hb ht=>h k _ hk (fun e=>hb (Option.some.inj e)) (fun c' fz' e=>by cases e;exact ht rfl),hB.block⟩
theorem keeps_of_kept{b B:Nat}{W W':World}(h:Lib.OthersKept 5 (some b) W W')(hs:W.heap.size≤W'.heap.size)(hb:∃c t fz,W.heap[b]? = some (.cells c t fz)):KeepsFrom B W W':=
 ⟨hs,fun k o _ hk ho=>h k o hk (fun e=>by
  cases e
  obtain⟨c,t,fz,hb⟩:=hb
  rw[hb]at hk
  cases hk
  cases ho) (fun c fz e=>by subst e;cases ho)⟩
theorem builder_cells{P b:Nat}{bs:List Value}{W:World}(h:Lib.IsBuilderF 95 5 P b bs W):∃c t fz,W.heap[b]? = some (.cells c t fz):=by
 rcases h with⟨_,v,hb,_⟩|⟨_,v,hb,_⟩
 ·exact⟨_,_,_,hb⟩
 ·exact⟨_,_,_,hb⟩
theorem below_put{H l:Nat}{w W:World}(h:Below H w W)(o:Obj)(hl:H≤l):Below H w (W.putObj l o):=
 h.trans ⟨rfl,rfl,rfl,by simp,fun k hk=>World.putObj_heap_other (by omega)⟩
end Go.Proofs.YtenbfookfcmpoaaGreatDoor
