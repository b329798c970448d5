import Derived.Test.YtenbfookfcmpoaaGreatDoorF09
import Derived.Test.YtenbfookfcmpoaaGreatDoorF07
import Derived.RangeFuncNested
import Derived.RangeFuncBound
import Derived.RangeFuncCalls
import Derived.RangeFuncLeaves
import Derived.RangeFuncBox
import Derived.Shelf.Abstract
import Derived.Shelf.RegionOpen
import Derived.OwnWalkIn
import Derived.TacticsInMore
import Derived.LoopNIn
import Derived.LoopIn
import Derived.Lib.OthersKept
namespace Go.Proofs.YtenbfookfcmpoaaGreatDoor
open Go.ChangeShapes Go.WideShapes Go.RowKit
set_option maxHeartbeats 400000 in
theorem specDigits_any(n b:Nat)(w:World)(hn:n<18446744073709551616)(h2:2≤b)(h36:b≤36) :
  Calls Tryz.prog 25 #[.int .u64 n,.int .i64 b] w fun e w'=>e=.returned (.string ⟨(textOf b n).toArray⟩)∧w'=w:=by
 by_cases hz:n=0
 ·subst hz
  rw[textOf_zero b]
  go_enter Tryz.func25,Tryz.ntmps25
  go_wp2
  go_ret
  exact⟨rfl,rfl⟩
 ·have hb:((n:Int)==0)=false:=beq_eq_false_iff_ne.2 (by omega)
  go_enter Tryz.func25,Tryz.ntmps25
  go_wp2
  go_loop [0,6] (fun t o=>∃ (m f:Nat) (acc:List UInt8),t=.int .u64 m∧o=.string ⟨acc.toArray⟩∧m<18446744073709551616∧Hid (m<2 ^ f)∧Hid (wr f b m acc=wr 64 b n [])∧acc.length+f=64) (fun t _=>(intOf t).toNat)
  case atStart=>exact⟨n,64,[],rfl,rfl,hn,by show n<2 ^ 64;omega,rfl,rfl⟩
  case round=>
   obtain⟨m,f,acc,rfl,rfl,hm,HF,HW,hl⟩:=hrel
   by_cases hlt:0<m
   ·obtain⟨g,rfl,hg⟩:=wr_step f b m acc hlt HF.out
    have HG:Hid (m / b<2 ^ g):=wr_bound g b m h2 HF.out
    have HW2:Hid (wr g b (m / b) (dch (m % b) :: acc)=wr 64 b n []):=hg.symm.trans HW.out
    have HX:Hid _:=digitText_at (m % b) (Nat.lt_of_lt_of_le (Nat.mod_lt m (by omega)) h36)
    have hr0:=mod_lo m b
    have hr1:=mod_hi m b h2 h36
    have hq0:=div_lo m b
    have hq1:=div_hi m b
    clear hg
    go_wp2
    have e:=HX.out
    unfold digitText at e
    rw[e,push_front,←Int.natCast_ediv]
    have hless:=div_less m b hlt h2
    exact⟨⟨m / b,g,_,rfl,rfl,by omega,HG,HW2,by simp;omega⟩,by show Int.toNat ((m / b:Nat):Int)<Int.toNat (m:Int);rw[Int.toNat_natCast,Int.toNat_natCast];exact hless⟩
   ·have HE:Hid (textOf b n=acc):=by
     have h0:m=0:=by omega
     have:=HW.out
     rw[h0,wr_zero]at this
     exact(textOf_pos b n (by omega)).symm.trans this.symm
    go_wp2
    go_ret
    exact⟨by rw[HE.out];rfl,rfl⟩
def Tab(w:World):Prop:=∀i:Nat,i<36→w.cell? ⟨1,i,none⟩=some (.int .u8 (dch i).toNat)
def arr(acc:List UInt8):List Value:=List.replicate (64-acc.length) (.int .u8 0)++acc.map fun c=>.int .u8 (c.toNat:Int)
theorem arr_set(acc:List UInt8)(c:UInt8)(h:acc.length<64):(arr acc).set (64-acc.length-1) (.int .u8 (c.toNat:Int))=arr (c :: acc):=by
 rw[show 64-acc.length-1=63-acc.length by omega]
 unfold arr
 rw[List.set_append_left _ _ (by simp;omega)]
 have e:64-acc.length=(63-acc.length)+1:=by omega
 rw[e,List.replicate_succ',List.set_append_right _ _ (by simp)]
 simp[show 64-(acc.length+1)=63-acc.length by omega]
theorem arr_free(acc:List UInt8)(h:acc.length<64):(arr acc)[64-acc.length-1]? = some (.int .u8 0):=by
 unfold arr
 rw[List.getElem?_append_left (by simp;omega),List.getElem?_replicate,if_pos (by omega)]
theorem arr_get(acc:List UInt8)(j:Nat)(hj:j<acc.length):(arr acc)[64-acc.length+j]? = some (.int .u8 (acc[j].toNat:Int)):=by
 unfold arr
 rw[List.getElem?_append_right (by simp)]
 simp[List.getElem?_eq_getElem hj]
theorem slice_end(w:World)(B k:Nat)(h1:1≤k)(h2:k≤64) :
  (Instr.sliceAt 164 (.pointer (some ⟨B,0,none⟩)) (some (.int .i64 (64-(k:Int)))) none none).run Tryz.prog w=.ok (.slice (some ⟨B,64-k,none⟩) k k) w:=by
 have ht:Tryz.prog.underlying 164=some (.array (Tryz.prog.arrayLen 164) (Tryz.prog.elem 164)):=by simp[Program.arrayLen,Program.elem,Tryz.underlying164]
 have hal:Tryz.prog.arrayLen 164=64:=by simp[Program.arrayLen,Tryz.underlying164]
 have hel:Tryz.prog.elem 164=5:=by simp[Program.elem,Tryz.underlying164]
 have hsz:∀w,(sizeOf 5).run Tryz.prog w=.ok 1 w:=fun _=>by kernel_rfl
 rw[run_sliceAt_array_l (P:=Tryz.prog) w 164 ⟨B,0,none⟩ ht .i64 _ (by omega) (by rw[hal];omega),hel,hsz,hal]
 show Result.ok (slicedAt ⟨B,0,none⟩ (64-(k:Int)).toNat 64 64 1) w=_
 unfold slicedAt
 rw[show(64-(k:Int)).toNat=64-k by omega,if_neg (by omega),Nat.mul_one,show 64-(64-k)=k by omega,show(⟨B,0,none⟩:Addr).add (64-k)=⟨B,64-k,none⟩ by simp[Addr.add];omega]
theorem convert_end(w:World)(acc:List UInt8) :
  (convert 22 9 (.slice (some ⟨w.heap.size,64-acc.length,none⟩) acc.length acc.length)).run Tryz.prog (w.alloc (.cells (arr acc).toArray 164))=.ok (.string ⟨acc.toArray⟩) (w.alloc (.cells (arr acc).toArray 164)):=
 run_convert_bytes_back _ 22 9 5 ⟨w.heap.size,64-acc.length,none⟩ acc.length acc Tryz.underlying22 Tryz.underlying5 Tryz.underlying9 (fun j hj=>by
  rw[show(⟨w.heap.size,64-acc.length,none⟩:Addr).add j=⟨w.heap.size,64-acc.length+j,none⟩ by simp[Addr.add],World.cell?_alloc_mark]
  simpa using arr_get acc j hj)
set_option maxHeartbeats 400000 in
theorem implDigits_any(n b:Nat)(w:World)(hn:n<18446744073709551616)(h2:2≤b)(h36:b≤36)(ht:Tab w)(hw:1<w.heap.size) :
  Calls Tryz.prog 182 #[.int .u64 n,.int .u64 b] w fun e w'=>e=.returned (.string ⟨(textOf b n).toArray⟩)∧Below w.heap.size w w':=by
 have HT:Hid (Tab w):=ht
 have hr0:=mod_lo n b
 have hr1:=mod_hi n b h2 h36
 have hq0:=div_lo n b
 have hq1:=div_hi n b
 have hc:=ht (n % b) (Nat.lt_of_lt_of_le (Nat.mod_lt n (by omega)) h36)
 clear ht
 go_enter Tryz.func182,Tryz.ntmps182
 go_wp2
 go_loopw [0,6] (fun t i wl=>∃ (m f:Nat) (acc:List UInt8),t=.int .u64 m∧i=.int .i64 (64-(acc.length:Int))∧wl=w.alloc (.cells (arr acc).toArray 164)∧m<18446744073709551616∧Hid (m<2 ^ f)∧Hid (wr f b m acc=textOf b n)∧acc.length+f=64∧1≤acc.length) (fun t _ _=>(intOf t).toNat)
 case atStart=>
  exact⟨n / b,63,[dch (n % b)],by rw[Int.natCast_ediv],rfl,rfl,by have:=Nat.div_le_self n b;omega,wr_bound 63 b n h2 (by show n<2 ^ 64;omega),rfl,rfl,Nat.le_refl _⟩
 case round=>
  obtain⟨m,f,acc,rfl,rfl,rfl,hm,HF,HW,hl,hl1⟩:=hrel
  clear hr0 hr1 hq0 hq1 hc
  by_cases hlt:0<m
  ·obtain⟨g,rfl,hg⟩:=wr_step f b m acc hlt HF.out
   have HG:Hid (m / b<2 ^ g):=wr_bound g b m h2 HF.out
   have HW2:Hid (wr g b (m / b) (dch (m % b) :: acc)=textOf b n):=hg.symm.trans HW.out
   have hr0:=mod_lo m b
   have hr1:=mod_hi m b h2 h36
   have hq0:=div_lo m b
   have hq1:=div_hi m b
   have hc:=HT.out (m % b) (Nat.lt_of_lt_of_le (Nat.mod_lt m (by omega)) h36)
   have ha:=arr_free acc (by omega)
   clear hg
   go_wp2
   rw[arr_set acc (dch (m % b)) (by omega),←Int.natCast_ediv]
   have hless:=div_less m b hlt h2
   exact⟨⟨m / b,g,dch (m % b) :: acc,rfl,by simp;omega,rfl,by omega,HG,HW2,by simp;omega,by simp⟩,by show Int.toNat ((m / b:Nat):Int)<Int.toNat (m:Int);rw[Int.toNat_natCast,Int.toNat_natCast];exact hless⟩
  ·have HE:Hid (textOf b n=acc):=by
    have h0:m=0:=by omega
    have:=HW.out
    rw[h0,wr_zero]at this
    exact this.symm
   have hs1:=fun W=>slice_end W w.heap.size acc.length hl1 (by omega)
   have hcv:=convert_end w acc
   go_wp2
   go_ret
   exact⟨by rw[HE.out];rfl,(Below.refl _ _).alloc (Nat.le_refl _) _⟩
end Go.Proofs.YtenbfookfcmpoaaGreatDoor
namespace Go.Proofs.YtenbfookfcmpoaaGreatDoor
open Go.RowKit
def UpD(ds t:ByteArray)(more:Bool):Prop:=good 10 t.data.toList∧valN 10 t.data.toList=valN 10 ds.data.toList+1∧t.size=ds.size+(if more then 1 else 0)∧(more=true→valN 10 ds.data.toList+1=10 ^ ds.size)
theorem valN_nines(k:Nat):valN 10 (List.replicate k (57:UInt8))+1=10 ^ k:=by
 induction k with
 | zero=>rw[List.replicate_zero,valN_nil]
 | succ k ih=>
  rw[List.replicate_succ',valN_append,Nat.pow_succ]
  have:valN 10 [(57:UInt8)]=9:=by decide
  rw[this]
  show valN 10 (List.replicate k 57)*10 ^ 1+9+1=10 ^ k*10
  omega
def Nines(l:List UInt8)(i:Nat):Prop:=∃k,l=l.take i++List.replicate k 57
theorem nines_start(l:List UInt8):Nines l l.length:=⟨0,by simp⟩
theorem nines_step(l:List UInt8)(i:Nat)(hi:i<l.length)(h:Nines l (i+1))(hc:l[i].toNat=57):Nines l i:=by
 obtain⟨k,hk⟩:=h
 refine⟨k+1,?_⟩
 have e:l[i]=57:=UInt8.toNat_inj.1 hc
 rw[List.take_succ_eq_append_getElem hi,e]at hk
 rw[List.replicate_succ]
 conv=>lhs;rw[hk]
 simp
theorem up_found(l:List UInt8)(i:Nat)(hi:i<l.length)(hg:good 10 l)(h:Nines l (i+1))(hc:l[i].toNat≠57)(c:UInt8)(hcc:c.toNat=l[i].toNat+1) :
  good 10 (l.take i++[c]++List.replicate (l.length-(i+1)) 48)∧valN 10 (l.take i++[c]++List.replicate (l.length-(i+1)) 48)=valN 10 l+1:=by
 obtain⟨k,hk⟩:=h
 have hkl:k=l.length-(i+1):=by
  have:=congrArg List.length hk
  rw[List.length_append,List.length_take,List.length_replicate]at this
  omega
 rw[←hkl]
 obtain⟨d1,d2,d3⟩:=good_digit l[i] (hg _ (List.getElem_mem hi))
 have hcg:digN 99 (c.toNat:Int)=(c.toNat:Int)-48:=by unfold digN;rw[if_pos (by omega)]
 refine⟨?_,?_⟩
 ·refine good_append _ _ (good_append _ _ (fun x hx=>hg x (List.mem_of_mem_take hx)) ?_) (good_zeros k)
  intro x hx
  rw[List.mem_singleton.1 hx,hcg];omega
 ·have hv:valN 10 l=(valN 10 (l.take i)*10+(l[i].toNat-48))*10 ^ k+(10 ^ k-1):=by
   conv=>lhs;rw[hk]
   rw[valN_append,List.length_replicate,List.take_succ_eq_append_getElem hi,valN_append]
   have h1:=valN_nines k
   have h2:valN 10 [l[i]]=l[i].toNat-48:=by
    rw[valN_cons,valN_nil,d3]
    simp
    omega
   rw[h2]
   show(valN 10 (l.take i)*10 ^ 1+(l[i].toNat-48))*10 ^ k+_=_
   rw[Nat.pow_one]
   omega
  have h3:valN 10 [c]=c.toNat-48:=by
   rw[valN_cons,valN_nil,hcg]
   simp
   omega
  rw[valN_append,valN_append,valN_zeros,List.length_replicate,h3,hv,hcc]
  have hp:0<10 ^ k:=Nat.pow_pos (by omega)
  show(valN 10 (l.take i)*10 ^ 1+(l[i].toNat+1-48))*10 ^ k+0=_
  rw[show l[i].toNat+1-48=(l[i].toNat-48)+1 by omega,Nat.pow_one,←Nat.add_assoc,Nat.add_mul _ 1,Nat.one_mul]
  omega
theorem nines_all(l:List UInt8)(h:Nines l 0):valN 10 l+1=10 ^ l.length:=by
 obtain⟨k,hk⟩:=h
 rw[List.take_zero,List.nil_append]at hk
 have hkl:l.length=k:=by rw[hk,List.length_replicate]
 rw[hkl,hk,valN_nines]
theorem bytes_ext(s t:ByteArray)(h:s.data.toList=t.data.toList):s=t:=by
 have h':s.data=t.data:=by rw[←Array.toArray_toList (xs:=s.data),h,Array.toArray_toList]
 cases s;cases t;cases h';rfl
theorem upD_one(ds t t':ByteArray)(m m':Bool)(h:UpD ds t m)(h':UpD ds t' m'):t=t'∧m=m':=by
 obtain⟨a1,a2,a3,a4⟩:=h
 obtain⟨b1,b2,b3,b4⟩:=h'
 have l1:=valN_good_lt 10 t.data.toList a1
 have l2:=valN_good_lt 10 t'.data.toList b1
 rw[data_len]at l1 l2
 have hm:m=m':=by
  cases m<;>cases m'
  ·rfl
  ·have:=b4 rfl
   rw[if_neg (by decide),Nat.add_zero]at a3
   rw[a3]at l1
   omega
  ·have:=a4 rfl
   rw[if_neg (by decide),Nat.add_zero]at b3
   rw[b3]at l2
   omega
  ·rfl
 subst hm
 exact⟨bytes_ext _ _ (digits_one _ _ a1 b1 (by rw[data_len,data_len,a3,b3]) (a2.trans b2.symm)),rfl⟩
theorem up_none(l:List UInt8)(h:Nines l 0):good 10 ((49:UInt8) :: List.replicate l.length 48)∧valN 10 ((49:UInt8) :: List.replicate l.length 48)=valN 10 l+1:=by
 obtain⟨k,hk⟩:=h
 rw[List.take_zero,List.nil_append]at hk
 have hkl:l.length=k:=by rw[hk,List.length_replicate]
 refine⟨?_,?_⟩
 ·intro x hx
  rcases List.mem_cons.1 hx with rfl|hx
  ·decide
  ·exact good_zeros _ x hx
 ·rw[valN_cons,valN_zeros,List.length_replicate,hkl,hk,valN_nines]
  have:(digN 99 (((49:UInt8).toNat:Nat):Int)).toNat=1:=by decide
  rw[this];omega
end Go.Proofs.YtenbfookfcmpoaaGreatDoor
namespace Go.Proofs.YtenbfookfcmpoaaGreatDoor
open Go.ChangeShapes Go.WideShapes Go.RowKit
def roundsB(ds:ByteArray)(n:Int):Bool:=
 if h:0≤n∧n<(ds.size:Int) then
  (if ds[n.toNat].toNat≠53∨n.toNat+1<ds.size then decide (53≤ds[n.toNat].toNat) else if h2:0<n.toNat then decide ((ds[n.toNat-1].toNat-48) % 2=1) else false)
 else false
set_option maxHeartbeats 1000000 in
set_option maxRecDepth 100000 in
theorem l5rounds_out(ds:ByteArray)(p n:Int)(hs:ds.size≤3000)(hn:¬(0≤n∧n<(ds.size:Int)))(w:World) :
  Calls Tryz.prog 94 #[.agg #[.string ds,.int .i64 p],.int .i64 n] w fun e w'=>e=.returned (.bool false)∧w'=w.alloc (.cells #[.string ds,.int .i64 p] 157):=by
 have hs':(ds.size:Int)≤3000:=by omega
 by_cases h:n<0
 ·go_enter Tryz.func94,Tryz.ntmps94
  go_wp2
  go_ret
  exact⟨rfl,rfl⟩
 ·have h2:(ds.size:Int)≤n:=by omega
  clear hn
  go_enter Tryz.func94,Tryz.ntmps94
  go_wp2
  go_ret
  exact⟨rfl,rfl⟩
set_option maxHeartbeats 1000000 in
set_option maxRecDepth 100000 in
theorem l5rounds_in(ds:ByteArray)(p:Int)(k:Nat)(hs:ds.size≤3000)(hk:k<ds.size)(hg:good 10 ds.data.toList)(w:World) :
  Calls Tryz.prog 94 #[.agg #[.string ds,.int .i64 p],.int .i64 (k:Int)] w fun e w'=>e=.returned (.bool (roundsB ds (k:Int)))∧w'=w.alloc (.cells #[.string ds,.int .i64 p] 157):=by
 have hs':(ds.size:Int)≤3000:=by omega
 have HR:Hid (roundsB ds (k:Int)=if ds[k].toNat≠53∨k+1<ds.size then decide (53≤ds[k].toNat) else if h2:0<k then decide ((ds[k-1].toNat-48) % 2=1) else false):=by
  show _=_
  unfold roundsB
  rw[dif_pos ⟨by omega,by omega⟩]
  rfl
 by_cases h1:ds[k].toNat=53
 ·by_cases h2:k+1<ds.size
  ·have HV:Hid (roundsB ds (k:Int)=true):=by show _=_;rw[HR.out,if_pos (.inr h2),decide_eq_true (by omega)]
   have h1':(ds[k].toNat:Int)=53:=by omega
   rw[HV.out]
   clear hg HR HV
   go_enter Tryz.func94,Tryz.ntmps94
   go_wp2
   go_ret
   exact⟨rfl,rfl⟩
  ·have h1':(ds[k].toNat:Int)=53:=by omega
   have h2':¬((k:Int)+1<(ds.size:Int)):=by omega
   by_cases h3:0<k
   ·obtain⟨j,rfl⟩:∃j,k=j+1:=⟨k-1,by omega⟩
    have hj:j<ds.size:=by omega
    obtain⟨d1,d2,_⟩:=good_digit ds[j] (good_at 10 ds hg j hj)
    have HV:Hid (roundsB ds ((j+1:Nat):Int)=((((ds[j].toNat:Int)-48) % 2)==1)):=by
     show _=_
     rw[HR.out,if_neg (by intro h;rcases h with h|h<;>omega),dif_pos (by omega)]
     simp only[Nat.add_sub_cancel]
     by_cases h4:(ds[j].toNat-48) % 2=1
     ·rw[decide_eq_true h4];symm;exact beq_iff_eq.2 (by omega)
     ·rw[decide_eq_false h4];symm;exact beq_eq_false_iff_ne.2 (by omega)
    have d1':48≤(ds[j].toNat:Int):=by omega
    have d2':(ds[j].toNat:Int)≤57:=by omega
    rw[HV.out]
    clear hg HR h2 HV
    go_enter Tryz.func94,Tryz.ntmps94
    go_wp2
    go_ret
    exact⟨rfl,rfl⟩
   ·obtain rfl:k=0:=by omega
    have HV:Hid (roundsB ds ((0:Nat):Int)=false):=by
     show _=_
     rw[HR.out,if_neg (by intro h;rcases h with h|h<;>omega),dif_neg (by omega)]
    rw[HV.out]
    have hne:decide (ds=ByteArray.empty)=false:=decide_eq_false (fun h=>by rw[h]at hk;exact absurd hk (by decide))
    have hs1:(ds.size:Int)=1:=by omega
    clear hg HR h2 h3 HV h2'
    go_enter Tryz.func94,Tryz.ntmps94
    go_wp2
    go_ret
    exact⟨rfl,rfl⟩
 ·have HV:Hid (roundsB ds (k:Int)=decide (53≤(ds[k].toNat:Int))):=by
   show _=_
   rw[HR.out,if_pos (.inl h1)]
   by_cases h4:53≤ds[k].toNat
   ·rw[decide_eq_true h4,decide_eq_true (by omega)]
   ·rw[decide_eq_false h4,decide_eq_false (by omega)]
  have h1':((ds[k].toNat:Int)==53)=false:=beq_eq_false_iff_ne.2 (by omega)
  have h1x:¬(ds[k].toNat:Int)=53:=by omega
  rw[HV.out]
  clear hg HR h1 HV
  go_enter Tryz.func94,Tryz.ntmps94
  go_wp2
  go_ret
  exact⟨rfl,rfl⟩
theorem l5rounds_any(ds:ByteArray)(p n:Int)(hs:ds.size≤3000)(hg:good 10 ds.data.toList)(w:World) :
  Calls Tryz.prog 94 #[.agg #[.string ds,.int .i64 p],.int .i64 n] w fun e w'=>e=.returned (.bool (roundsB ds n))∧w'=w.alloc (.cells #[.string ds,.int .i64 p] 157):=by
 by_cases h:0≤n∧n<(ds.size:Int)
 ·obtain⟨k,rfl⟩:=Int.eq_ofNat_of_zero_le h.1
  exact l5rounds_in ds p k hs (by omega) hg w
 ·have e:roundsB ds n=false:=by unfold roundsB;rw[dif_neg h]
  rw[e]
  exact l5rounds_out ds p n hs h w
def lenOf:Value→Nat
 | .slice _ n _=>n
 | _=>0
theorem digit_u8(r:Nat):∃z:Int,(48+((r % 10:Nat):Int))=z∧z=((dchr (r % 10)).toNat:Int)∧0≤z∧z≤57:=by
 refine⟨_,rfl,?_,by omega,by omega⟩
 rw[dchr_nat _ (Nat.mod_lt _ (by omega))];omega
theorem own_len{w:World}{B e n:Nat}{v:Value}{xs:List Value}(h:w.ownsRow B e 1 v n xs):lenOf v=n:=by
 obtain⟨_,h⟩:=h
 rcases h with⟨rfl,rfl⟩|⟨g',cap,cur,rfl,_⟩<;>rfl
set_option maxHeartbeats 4000000 in
set_option maxRecDepth 100000 in
theorem l0digits_any(v:Value)(A n:Nat)(w:World)(h:Big w v A)(hA:A<4294967296 ^ n)(hn:n<100000) :
  Calls Tryz.prog 126 #[v] w fun e w'=>∃s:ByteArray,e=.returned (.string s)∧IsDec s A∧Below w.heap.size w w':=by
 obtain⟨i1,hi,hz0,hz1,hz2⟩:=info_parts Tryz.infoB
 have HA:Hid (A<4294967296 ^ n):=hA
 have HB:Hid (Big w v A):=h
 have hv0:∃ao len cap,v=.slice ao len cap:=by
  obtain⟨ls,⟨ao,cap,hv,_⟩,_⟩:=h
  exact⟨ao,_,cap,hv⟩
 clear hA h
 obtain⟨ao0,len0,cap0,rfl⟩:=hv0
 go_enter Tryz.func126,Tryz.ntmps126
 go_wp2
 go_loopw [0,3] (fun va vo wr=>∃ (Aj:Nat) (os:List Nat),Hid (Big wr va Aj)∧Hid (Ten os)∧Hid (dval os+10 ^ os.length*Aj=A)∧os.length≤32*n+9∧Hid (os.length≤A+9) ∧
   wr.ownsRow w.heap.size 5 1 vo os.length (os.map cellD)∧Below w.heap.size w wr∧Hid (Far vo va)) (fun _ vo _=>A+10-lenOf vo)
 case atStart=>exact⟨A,[],HB.out,fun _ h=>absurd h (by simp),by show dval []+10 ^ 0*A=A;simp[dval],by simp,by show _≤_;simp,World.ownsRow_nil _ _ _ _,Below.refl _ _,fun g n c _ h=>by simp[Value.ownBlock]at h⟩
 case round=>
  obtain⟨Aj,os,HBj,HT,HV,ho,HoA,hown,hbe,HF⟩:=hrel
  obtain⟨ls,r1,r2,r3,r4⟩:=HBj.out
  have R1:Hid (Row wr _ ls):=r1
  obtain⟨ao,cap,hva,hc1,hc2,hrow⟩:=r1
  subst hva
  have HL:Hid (Lim ls):=r2
  have HE:Hid (bval ls=Aj):=r4
  have hsz:=hbe.size
  have HLO:Hid (lenOf u3=os.length):=own_len hown
  by_cases hlt:0<ls.length
  ·obtain⟨g,rfl,hg,hcl⟩:=Row.block hc1 hrow (t:=0) hlt
   have HC:Hid (∀t,t<ls.length→wr.cell? ⟨g,t,none⟩=some (.int .u64 (ls.getD t 0:Nat))):=hcl
   have hAj:0<Aj:=by
    have:=(trim_last r3 (by intro h;rw[h]at hlt;simp at hlt)).1
    have h1:0<4294967296 ^ (ls.length-1):=Nat.pow_pos (by omega)
    omega
   have hfew:=digits_few A Aj n os hAj HA.out HV.out
   have hlen:ls.length≤n:=trim_len r3 (Nat.lt_of_le_of_lt (by
    have h1:=HV.out
    have h2:1*Aj≤10 ^ os.length*Aj:=Nat.mul_le_mul_right _ (Nat.pow_pos (by omega))
    omega) HA.out)
   have HLA:Hid (os.length<A):=hfew.2
   have hlo:=hfew.1
   have hcap:cap≤9223372036854775807:=hc2
   have hmk:=make_u64 ls.length (by omega)
   clear hcl hrow r2 r3 r4 hfew hAj hc2
   go_wp2
   go_loopw [4,6] (fun vr vi wl=>∃ (k R:Nat) (qs:List Nat),vr=.int .u64 (R:Int)∧vi=.int .i64 ((k:Int)-1)∧k+qs.length=ls.length∧(R:Int)<1000000000∧Hid (Lim qs)∧Hid (bval (ls.drop k)=1000000000*bval qs+R)∧wl=wr.alloc (.cells (qcells k qs).toArray 44)) (fun _ vi _=>(intOf vi+1).toNat)
   case atStart=>exact⟨ls.length,0,[],rfl,rfl,by simp,by omega,fun _ h=>absurd h (by simp),by show bval (ls.drop ls.length)=1000000000*bval []+0;rw[List.drop_length];rfl,by rw[qcells_nil];simp⟩
   case round=>
    obtain⟨k,R,qs,rfl,rfl,hk,hR,HLQ,HQ,rfl⟩:=hrel
    cases k with
    | zero=>
     have hql:qs.length=ls.length:=by omega
     have HTR:Hid (Calls Tryz.prog 139 #[.slice (some ⟨wr.heap.size,0,none⟩) ls.length ls.length] (wr.alloc (.cells (qcells 0 qs).toArray 44)) fun e w'=>w'=wr.alloc (.cells (qcells 0 qs).toArray 44)∧e=.returned (.slice (some ⟨wr.heap.size,0,none⟩) (btrim qs).length ls.length)):=by
      have:=l0trim_at qs wr.heap.size ls.length (wr.alloc (.cells (qcells 0 qs).toArray 44)) (by omega) (by unfold maxLen;omega) (fun t ht=>qrow wr qs _ t ht)
      rw[hql]at this
      exact this
     have hbl:=btrim_length qs
     have HBQ:Hid (Big (wr.alloc (.cells (qcells 0 qs).toArray 44)) (.slice (some ⟨wr.heap.size,0,none⟩) (btrim qs).length ls.length) (bval qs)):=by
      refine Big.of_trim ?_ HLQ.out rfl
      have h1:=Row.cut (w:=wr.alloc (.cells (qcells 0 qs).toArray 44)) (g:=wr.heap.size) (cap:=ls.length) (k:=(btrim qs).length) (ls:=qs) (by omega) (by unfold maxLen;omega) (by simp) (fun t ht=>qrow wr qs _ t ht) hbl
      rw[←btrim_prefix]at h1
      exact h1
     have HDR:Hid (bval (ls.drop 0)=1000000000*bval qs+R):=HQ.out
     generalize bval qs=Q at *
     generalize (btrim qs).length=lq at *
     have hbe2:Below w.heap.size w (wr.alloc (.cells (qcells 0 qs).toArray 44)):=hbe.alloc hsz _
     have hown2:(wr.alloc (.cells (qcells 0 qs).toArray 44)).ownsRow w.heap.size 5 1 u3 os.length (os.map cellD):=hown.alloc _
     have HFQ:Hid (Far u3 (.slice (some ⟨wr.heap.size,0,none⟩) lq ls.length)):=by
      intro g' n' c' he hb
      cases he
      have:=(own_block_lt hown _ hb).2
      omega
     clear hown hmk HQ
     generalize wr.alloc (.cells (qcells 0 qs).toArray 44)=wq at *
     generalize wr.heap.size=gq at *
     go_wp2_with (go_at_call 139;refine HTR.out.mono ?_;rintro e w2 ⟨rfl,rfl⟩)
     go_loopw [3,4,7] (fun vo vr vk wl=>∃ (k:Nat) (ks:List Nat),vk=.int .i64 (k:Int)∧k≤9∧ks.length=k∧vr=.int .u64 ((R / 10 ^ k:Nat):Int)∧Hid (Ten ks)∧Hid (dval ks=R % 10 ^ k)∧wl.ownsRow w.heap.size 5 1 vo (os++ks).length ((os++ks).map cellD)∧Below w.heap.size w wl∧Hid (Big wl (.slice (some ⟨gq,0,none⟩) lq ls.length) Q)∧Hid (Far vo (.slice (some ⟨gq,0,none⟩) lq ls.length))) (fun _ _ vk _=>9-(intOf vk).toNat)
     case atStart=>exact⟨0,[],rfl,by omega,rfl,by simp,fun _ h=>absurd h (by simp),by show dval []=R % 10 ^ 0;rw[Nat.pow_zero,Nat.mod_one];rfl,by simpa using hown2,hbe2,HBQ.out,HFQ.out⟩
     case round=>
      clear hown2 hbe2 HBQ HFQ
      obtain⟨k,ks,rfl,hk9,hkl,rfl,HTk,HVk,hown,hbe3,HBk,HFk⟩:=hrel
      have hsz3:=hbe3.size
      by_cases hk:k<9
      ·have HN:Hid _:=nine_round R k ks hkl HTk.out HVk.out
       obtain⟨z,ez,ez2,ez0,ez1⟩:=digit_u8 (R / 10 ^ k)
       have hrl:((R / 10 ^ k:Nat):Int)<1000000000:=by have:=Nat.div_le_self R (10 ^ k);omega
       have hdiv:((R / 10 ^ k:Nat):Int) / 10=((R / 10 ^ (k+1):Nat):Int):=by have:=HN.out.2.2;omega
       have hmod:((R / 10 ^ k:Nat):Int) % 10=((R / 10 ^ k % 10:Nat):Int):=by omega
       have HZ:Hid (Value.int .u8 z=cellD (R / 10 ^ k % 10)):=by show _=_;unfold cellD;rw[ez2]
       obtain⟨Y,hY⟩:∃Y:Int,Y=((R / 10 ^ k:Nat):Int):=⟨_,rfl⟩
       obtain⟨Y2,hY2⟩:∃Y2:Int,Y2=((R / 10 ^ (k+1):Nat):Int):=⟨_,rfl⟩
       have hY0:0≤Y:=by rw[hY];exact Int.natCast_nonneg _
       rw[←hY]at hrl hdiv hmod ⊢
       rw[←hY2]at hdiv
       have HY2:Hid (Y2=((R / 10 ^ (k+1):Nat):Int)):=hY2
       clear hY hY2
       rw[←hmod]at ez
       generalize hD:R / 10 ^ k % 10=D at *
       clear ez2 hD HTk HVk hmod hR
       have hol:(os++ks).length=os.length+k:=by rw[List.length_append,hkl]
       go_wp2_with (first
        | (at_builtin;refine wpList_append_lies _ rfl _ _ 22 rfl w.heap.size 5 i1 (.int .u8 0) 1 1 Tryz.underlying22 hi hz0 hz1 hz2 rfl (by decide) _ _ _ rfl (hown.alloc _) ⟨wr.heap.size,0,none⟩ 1 1 [.int .u8 z] rfl rfl ?c1 ?c2 (by decide) ?c3 ?c4 ?c5 (wr.heap.size+1) ?c6 ?_)
        | go_in)
       case c1=>
        intro j u hj
        match j,hj with
        | 0,hj=>simp at hj;subst hj;simp[Addr.add]
       case c2=>intro u hu;simp at hu;subst hu;rfl
       case c3=>unfold maxLen;omega
       case c4=>omega
       case c5=>simp;omega
       case c6=>simp
       ·intro g1 cap1 w1 hown' hgrow hwhere hlt1
        have HOW:Hid (w1.ownsRow w.heap.size 5 1 (.slice (some ⟨g1,0,none⟩) ((os++ks).length+1) cap1) ((os++ks).length+1) ((os++ks).map cellD++[cellD D])):=by
         rw[HZ.out]at hown'
         rw[hol,List.map_append,List.append_assoc]
         exact hown'
        have R:=own_stepD (r:=D) rfl hown hbe3 (Nat.le_refl _) HOW.out hgrow
        have HB2:Hid _:=HBk.out.far HFk.out hgrow
        have HF2:Hid (Far (.slice (some ⟨g1,0,none⟩) (os.length+k+1) cap1) (.slice (some ⟨gq,0,none⟩) lq ls.length)):=by
         obtain⟨ls',hr',_⟩:=HBk.out
         exact Far.next HFk.out hr' hwhere
        have HR1:Hid (w1.ownsRow w.heap.size 5 1 (.slice (some ⟨g1,0,none⟩) (os.length+k+1) cap1) (os++(ks++[D])).length ((os++(ks++[D])).map cellD)):=by
         rw[←List.append_assoc,←hol]
         exact R.1
        have HR2:Hid _:=R.2
        clear hown' hgrow hown hwhere hlt1 R HOW HBk HFk hbe3
        go_wp2
        go_roundw
        case rel=>exact⟨k+1,ks++[D],by simp,by omega,by simp[hkl],by rw[hdiv,HY2.out],HN.out.1,HN.out.2.1,HR1.out,HR2.out,HB2.out,HF2.out⟩
        case measure=>simp[intOf];omega
      ·obtain rfl:k=9:=by omega
       have HE1:Hid (dval (os++ks)+10 ^ (os++ks).length*Q=A):=digits_round A Aj Q R os ks hkl HVk.out (by omega) (by have:=HDR.out;have h2:=HE.out;rw[List.drop_zero]at this;omega) HV.out
       have HE2:Hid (Ten (os++ks)):=fun d hd=>by
        rcases List.mem_append.1 hd with h|h
        ·exact HT.out d h
        ·exact HTk.out d h
       have hol:(os++ks).length=os.length+9:=by rw[List.length_append,hkl]
       have HLE:Hid (lenOf u3=(os++ks).length):=own_len hown
       clear HVk HV HTk HT
       go_wp2
       exact⟨⟨Q,os++ks,HBk.out,HE2.out,HE1.out,by omega,by show _≤_;have:=HLA.out;omega,hown,hbe3,HFk.out⟩,by rw[HLE.out,HLO.out];have:=HLA.out;omega⟩
    | succ k=>
     have hx:(wr.alloc (.cells (qcells (k+1) qs).toArray 44)).cell? ⟨g,k,none⟩=some (.int .u64 (ls.getD k 0:Nat)):=(((Below.refl wr.heap.size wr).alloc (Nat.le_refl _) _).cell (p:=⟨g,k,none⟩) hg).trans (HC.out k (by omega))
     have hxl:((ls.getD k 0:Nat):Int)<4294967296:=by have:=lim_get HL.out k;omega
     have HRD:Hid _:=div_round ls qs k R (by omega) (lim_get HL.out k) (by omega) HQ.out
     have hfree:=qcells_free k qs
     have HSET:Hid _:=fun x=>qcells_set k qs x
     generalize ls.getD k 0=x at *
     have eq1:((R:Int)*4294967296+(x:Int)) / 1000000000=(((R*4294967296+x) / 1000000000:Nat):Int):=by omega
     have eq2:((R:Int)*4294967296+(x:Int)) % 1000000000=(((R*4294967296+x) % 1000000000:Nat):Int):=by omega
     generalize hq:(R*4294967296+x) / 1000000000=q at *
     generalize hr:(R*4294967296+x) % 1000000000=r at *
     clear hq hr HQ
     go_wp2
     rw[HSET.out q,eq2]
     exact⟨⟨k,r,q :: qs,rfl,rfl,by simp;omega,by have:=HRD.out.2.1;omega,fun y hy=>by
      rcases List.mem_cons.1 hy with rfl|hy
      ·exact HRD.out.1
      ·exact HLQ.out y hy,HRD.out.2.2,rfl⟩,by simp only[intOf];omega⟩
  ·obtain rfl:ls = []:=List.length_eq_zero_iff.1 (by omega)
   have HD:Hid (dval os=A):=by
    show _=_
    have h1:=HV.out
    rw[←HE.out]at h1
    simpa [bval] using h1
   obtain⟨aoo,capo,hu,hco,hcap,hcell⟩:∃aoo capo,u3=.slice aoo os.length capo∧os.length≤capo∧(capo:Int)≤9223372036854775807∧∀t,t<os.length→∃g,aoo=some ⟨g,0,none⟩∧g<wr.heap.size∧wr.cell? ⟨g,t,none⟩=some (cellD (os.getD t 0)):=by
    rcases own_cell hown rfl with⟨hu,h0⟩|⟨g,capo,hu,h1,h2,h3,h4⟩
    ·exact⟨none,0,by rw[hu,h0],by omega,by omega,fun t ht=>by omega⟩
    ·exact⟨_,capo,hu,h1,by unfold maxLen at h2;omega,fun t ht=>⟨g,rfl,h3,h4 t ht⟩⟩
   have HCL:Hid _:=hcell
   subst hu
   clear hown hcell hrow HV HE HBj HF HLO HoA r2 r3 r4 R1
   go_wp2
   go_loop [8] (fun v8=>∃k:Nat,v8=.int .i64 (k:Int)∧k≤os.length∧Hid (dval os=dval (os.take k))) (fun v8=>(intOf v8).toNat)
   case atStart=>exact⟨os.length,rfl,Nat.le_refl _,by show _=_;rw[List.take_length]⟩
   case round=>
    obtain⟨k,rfl,hk,HK⟩:=hrel
    by_cases hz:0<k∧os.getD (k-1) 0=0
    ·obtain⟨hk0,hz⟩:=hz
     obtain⟨j,rfl⟩:∃j,k=j+1:=⟨k-1,by omega⟩
     rw[Nat.add_sub_cancel]at hz
     obtain⟨g,rfl,hg,hx⟩:=HCL.out j (by omega)
     rw[hz,show cellD 0=.int .u8 48 from rfl]at hx
     have HK2:Hid (dval os=dval (os.take j)):=strip_round os j (by omega) hz HK.out
     go_wp2
     exact⟨⟨j,rfl,by omega,HK2⟩,by simp only[intOf];omega⟩
    ·have HZ:Hid (¬(0<k∧os.getD (k-1) 0=0)):=hz
     have HTk:Hid (Ten (os.take k)):=fun d hd=>HT.out d (List.mem_of_mem_take hd)
     have hmk:=make_u8 k (by omega)
     have hkl:(os.take k).length=k:=by rw[List.length_take];omega
     obtain⟨tl,htl⟩:∃tl,tl=dtxt (os.take k):=⟨_,rfl⟩
     have htk:tl.length=k:=by rw[htl,dtxt_length,hkl]
     have HAT:Hid (∀i j,i+1+j=k→∃ (h:i<tl.length) (g:Nat),aoo=some ⟨g,0,none⟩∧g<wr.heap.size∧wr.cell? ⟨g,j,none⟩=some (.int .u8 (tl[i].toNat:Int))):=by
      intro i j hij
      obtain⟨g,h1,h2,h3⟩:=HCL.out j (by omega)
      refine⟨by omega,g,h1,h2,?_⟩
      rw[h3]
      have e:tl[i]'(by omega)=dchr (os.getD j 0):=by
       subst htl
       simp only[dtxt]
       rw[List.getElem_map,List.getElem_reverse]
       congr 1
       rw[List.getElem_take]
       have hj':(os.take k).length-1-i=j:=by omega
       simp only[hj']
       simp[List.getElem?_eq_getElem (show j<os.length by omega)]
      rw[e];rfl
     have HTX:Hid (IsDec ⟨tl.toArray⟩ A):=by
      refine isDec_of (os.take k) A _ HTk.out (HK.out.symm.trans HD.out) ?_ ?_
      ·rw[htl]
      ·intro j hj
       rw[hkl]at hj
       subst hj
       have:=HZ.out
       intro h0
       apply this
       refine⟨by omega,?_⟩
       rw[Nat.add_sub_cancel]
       have e3:(os.take (j+1)).getD j 0=os.getD j 0:=by simp[List.getElem?_take_of_lt (show j<j+1 by omega)]
       rw[←e3];exact h0
     have hcv:=text_end wr tl 5
     have HFR:Hid (∀i,i<tl.length→(tcells tl i)[i]? = some (.int .u8 0)):=fun i h=>tcells_free tl i h
     have HST:Hid (∀i (h:i<tl.length),(tcells tl i).set i (.int .u8 (tl[i].toNat:Int))=tcells tl (i+1)):=fun i h=>tcells_set tl i h
     have HZR:Hid (List.replicate k (Value.int .u8 0)=tcells tl 0):=by show _=_;rw[tcells_zero,htk]
     have hcase:k=0∨∃j g d,k=j+1∧aoo=some ⟨g,0,none⟩∧wr.cell? ⟨g,j,none⟩=some (.int .u8 d)∧(d==48)=false:=by
      by_cases h0:k=0
      ·exact .inl h0
      ·obtain⟨j,rfl⟩:∃j,k=j+1:=⟨k-1,by omega⟩
       obtain⟨g,h1,h2,h3⟩:=HCL.out j (by omega)
       refine .inr ⟨j,g,_,rfl,h1,h3,?_⟩
       have hd:os.getD j 0<10:=by
        have e2:os.getD j 0=os[j]:=by simp[List.getElem?_eq_getElem (show j<os.length by omega)]
        rw[e2]
        exact HT.out _ (List.getElem_mem _)
       rw[dchr_nat _ hd]
       have:=HZ.out
       rw[Nat.add_sub_cancel]at this
       exact beq_eq_false_iff_ne.2 (by omega)
     rw[htk]at hcv
     clear HK HCL HD HTk hkl htl hz HZ
     rcases hcase with rfl|⟨j0,g0,d0,rfl,hao,hx,hd⟩
     ·rw[show((0:Nat):Int)=0 from rfl,show List.replicate 0 (Value.int .u8 0) = [] from rfl]at hmk
      obtain rfl:tl = []:=List.length_eq_zero_iff.1 htk
      rw[show tcells [] 0 = [] from rfl]at hcv
      go_wp2
      go_loopw [71] (fun vi wl=>vi=.int .i64 0∧wl=wr.alloc (.cells #[] 5)) (fun _ _=>0)
      case atStart=>exact⟨rfl,rfl⟩
      case round=>
       obtain⟨rfl,rfl⟩:=hrel
       go_wp2
       go_ret
       exact⟨_,rfl,HTX.out,hbe.alloc hsz _⟩
     ·subst hao
      rw[show((j0+1:Nat):Int)=(j0:Int)+1 from rfl,HZR.out]at hmk
      go_wp2
      go_loopw [71] (fun vi wl=>∃i:Nat,vi=.int .i64 (i:Int)∧i≤j0+1∧wl=wr.alloc (.cells (tcells tl i).toArray 5)) (fun vi _=>j0+1-(intOf vi).toNat)
      case atStart=>exact⟨0,rfl,by omega,rfl⟩
      case round=>
       obtain⟨i,rfl,hi1,rfl⟩:=hrel
       by_cases hij:i<j0+1
       ·obtain⟨j,hj⟩:∃j,i+1+j=j0+1:=⟨j0-i,by omega⟩
        obtain⟨hit,g,hgg,hgl,hcx⟩:=HAT.out i j hj
        cases hgg
        have hx2:(wr.alloc (.cells (tcells tl i).toArray 5)).cell? ⟨g0,j,none⟩=some (.int .u8 (tl[i].toNat:Int)):=(((Below.refl wr.heap.size wr).alloc (Nat.le_refl _) _).cell (p:=⟨g0,j,none⟩) hgl).trans hcx
        have hfr:=HFR.out i hit
        have HST2:Hid _:=HST.out i hit
        obtain⟨c,hc⟩:∃c:Int,c=(tl[i].toNat:Int):=⟨_,rfl⟩
        rw[←hc]at hx2 HST2
        have hjj:(j0:Int)-(i:Int)=(j:Int):=by omega
        clear hcx hc hx hd hcv HAT
        go_wp2
        rw[HST2.out]
        exact⟨⟨i+1,rfl,by omega,rfl⟩,by simp only[intOf];omega⟩
       ·obtain rfl:i=j0+1:=by omega
        clear hx hd HAT
        go_wp2
        go_ret
        exact⟨_,rfl,HTX.out,hbe.alloc hsz _⟩
end Go.Proofs.YtenbfookfcmpoaaGreatDoor
namespace Go.Proofs.YtenbfookfcmpoaaGreatDoor
open Go.RowKit Go.Shelf
def Chg(T:TypeId)(B N:Nat)(W W':World):Prop:=W'.os=W.os∧W'.tape=W.tape∧W'.output=W.output∧W.heap.size≤W'.heap.size
 ∧ ∀k o,W.heap[k]? = some o→(k<B∨∃c t fz,o=.cells c t fz∧(t≠T∨k<N))→W'.heap[k]? = some o
def Own1(T:TypeId)(N:Nat)(W W':World):Prop:=W'.os=W.os∧W'.tape=W.tape∧W'.output=W.output∧W.heap.size≤W'.heap.size
 ∧ ∀k o,W.heap[k]? = some o→(k<N∨∀c fz,o≠.cells c T fz)→W'.heap[k]? = some o
def Rnd(b:Nat)(W W':World):Prop:=W.heap.size≤W'.heap.size∧(∀k c t fz,W.heap[k]? = some (.cells c t fz)→k≠b→t≠5→W'.heap[k]? = some (.cells c t fz))∧∀k,k<b→W'.heap[k]? = W.heap[k]?
theorem Own1.chg{T:TypeId}{B N:Nat}{W W':World}(h:Own1 T N W W')(hB:B≤N):Chg T B N W W':=
 ⟨h.1,h.2.1,h.2.2.1,h.2.2.2.1,fun k o hk hc=>h.2.2.2.2 k o hk (by
  rcases hc with hc|⟨c,t,fz,rfl,ht|hk⟩
  ·exact .inl (by omega)
  ·exact .inr fun c' fz' e=>by cases e;exact ht rfl
  ·exact .inl hk)⟩
theorem Own1.below{T:TypeId}{N:Nat}{W W':World}(h:Below W.heap.size W W'):Own1 T N W W':=
 ⟨h.os,h.tape,h.output,h.size,fun k o hk _=>by rw[h.block k (Array.getElem?_eq_some_iff.1 hk).1];exact hk⟩
theorem Rnd.trans{b:Nat}{A B C:World}(h:Rnd b A B)(k:Rnd b B C):Rnd b A C:=
 ⟨Nat.le_trans h.1 k.1,fun i c t fz hi hb ht=>k.2.1 i c t fz (h.2.1 i c t fz hi hb ht) hb ht,fun i hi=>(k.2.2 i hi).trans (h.2.2 i hi)⟩
theorem Rnd.put(b:Nat)(W:World)(l:Nat)(o o':Obj)(hl:W.heap[l]? = some o)(ho:o.isCells=false)(hb:b≤l):Rnd b W (W.putObj l o'):=
 ⟨by simp,(fun k c t fz hk _ _=>by
  rw[World.putObj_heap_other]
  ·exact hk
  ·intro e
   subst e
   rw[hl]at hk
   cases hk
   cases ho),fun k hk=>World.putObj_heap_other (by omega)⟩
theorem Chg.put{T:TypeId}{B N:Nat}(W:World)(l:Nat)(o o':Obj)(hl:W.heap[l]? = some o)(ho:o.isCells=false)(hB:B≤l):Chg T B N W (W.putObj l o'):=
 ⟨rfl,rfl,rfl,by simp,fun k o₂ hk hc=>by
  rw[World.putObj_heap_other]
  ·exact hk
  ·intro e
   subst e
   rcases hc with hc|⟨c,t,fz,rfl,_⟩
   ·omega
   ·rw[hl]at hk
    cases hk
    cases ho⟩
theorem Chg.alloc{T:TypeId}{B N:Nat}(W:World)(o:Obj):Chg T B N W (W.alloc o):=
 ⟨rfl,rfl,rfl,by simp,fun k o₂ hk _=>(Below.heap_alloc _ _ _ (Array.getElem?_eq_some_iff.1 hk).1).trans hk⟩
def Gives(T:TypeId)(b:Nat)(gf:Nat)(lb:Array Value)(enc:Nat→Array Value)(n:Nat)(w:World):Prop:=
 ∀ (l:Nat) (J:Nat→World→Prop) (W:World),Below w.heap.size w W→(∀i A A',J i A→Own1 T W.heap.size A A'→J i A') →
  (∀ (i:Nat) (_:i<n) (W1:World),J i W1→YieldAt Fence.wide 0 Tryz.prog l (enc i) W1 fun e W'=>e=.returned (.bool true)∧J (i+1) W'∧Rnd b W1 W') →
  J 0 W→CallsIn Fence.wide 0 Tryz.prog gf (#[.func (.yield l) #[] #[]]++lb) W fun e W'=>(∃v,e=.returned v)∧J n W'
def bodyEnd(B b:Nat)(I:World→Prop)(W:World):Exit→Act→World→Prop
 | .normal,_,W'=>KeepsFrom B W W'∧Rnd b W W'∧I W'
 | _,_,_=>False
theorem range_all{g:Operand}{ps:Array Tmp}{assign body:Go.Code}{Q:Exit→Act→World→Prop}{a:Act}{w:World}{T:TypeId}{b:Nat}
  {gf:Nat} {lb:Array Value} (hg:a.eval g=.func (.func gf) #[] lb) (eg:∀args w,(callFunc gf args).run Tryz.prog w=.ok (.enter gf args) w)
  {enc:Nat→Array Value} {n:Nat} (hseq:Gives T b gf lb enc n w) (hps:∀i,(enc i).size=ps.size) (hbw:b≤w.heap.size)
  (I:Nat→World→Prop) (hI:∀i A A',I i A→Chg T w.heap.size (w.heap.size+2) A A'→I i A') (h0:I 0 w) (a₁:Nat→Act)
  (hassign:∀ (l i:Nat) (W:World) (K:Act→World→Prop),K (a₁ i) W →
   assign.wpIn (Fence.wide.inRound l) 0 Tryz.prog (Exit.then K (fun _ _ _=>False)) { tmps:=(ps.zip (enc i)).foldl (fun t (p,v)=>t.setIfInBounds p v) a.tmps,defers:=[] } W)
  (hbody:∀ (l i:Nat) (_:i<n) (W:World),I i W→w.heap.size<W.heap.size→body.wpIn (Fence.wide.inRound l) 0 Tryz.prog (bodyEnd w.heap.size b (I (i+1)) W) (a₁ i) W)
  (hdone:∀ (W:World),I n W→w.heap.size<W.heap.size→W.heap[w.heap.size]? = some (.deferred (some []))→Q .normal { a with defers:={ target:=.collected w.heap.size,args:=#[] } :: a.defers } W) :
  (Code.rangeFunc g ps assign body).wpIn Fence.wide 0 Tryz.prog Q a w:=by
 refine wpIn_rangeFunc ?_
 intro fn hfn
 show ∃l mark w₁ d w₁' f args w₂,(Instr.enterLoop fn a.tmps ps assign body none).run Tryz.prog w=_∧_
 obtain⟨rec,hrec⟩:∃rec:LoopState→Loop,rec=fun st=>{ state:=st,pending:=none,fn,tmps:=a.tmps,params:=ps,assign,body,defers:=w.heap.size }:=⟨_,rfl⟩
 obtain⟨W1,hW1⟩:∃W1,(w.alloc (.deferred (some []))).alloc (.loop (rec .ready))=W1:=⟨_,rfl⟩
 have hsz:W1.heap.size=w.heap.size+2:=by rw[←hW1];simp
 have hL1:W1.heap[w.heap.size+1]? = some (.loop (rec .ready)):=by
  rw[←hW1]
  have:=World.alloc_heap_new (w.alloc (.deferred (some []))) (.loop (rec .ready))
  rwa [World.size_alloc]at this
 have hK1:W1.heap[w.heap.size]? = some (.deferred (some [])):=by
  rw[←hW1]
  exact(Below.heap_alloc _ _ _ (by simp)).trans (World.alloc_heap_new w _)
 have hI1:I 0 W1:=by
  rw[←hW1]
  exact hI 0 _ _ (hI 0 _ _ h0 (Chg.alloc _ _)) (Chg.alloc _ _)
 have hb1:Below w.heap.size w W1:=by
  rw[←hW1]
  exact((Below.refl _ w).alloc (Nat.le_refl _) _).alloc (by simp) _
 refine⟨w.heap.size+1,[{ target:=.collected w.heap.size,args:=#[] }],W1,{ target:=.fn (.func gf) lb,args:=#[.func (.yield (w.heap.size+1)) #[] #[]] },W1,gf,
  #[.func (.yield (w.heap.size+1)) #[] #[]]++lb,W1,?_,?_,?_,?_,(fun h=>by cases h),?_⟩
 ·rw[←hW1,hrec]
  exact run_enterLoop_outer _ _ _ _ _
 ·simp only[resolve,hg]
  simp[go_sem]
 ·intro f' _
  trivial
 ·simp[invoke,go_sem,eg]
 ·refine(hseq (w.heap.size+1) (fun i W=>I i W∧w.heap.size+1<W.heap.size∧W.heap[w.heap.size+1]? = some (.loop (rec .ready))∧W.heap[w.heap.size]? = some (.deferred (some []))) W1 hb1 ?_ ?_ ⟨hI1,by omega,hL1,hK1⟩).mono ?_
  ·rintro i A A' ⟨h1,h2,h3,h4⟩ hk
   rw[hsz]at hk
   exact⟨hI i A A' h1 (hk.chg (by omega)),Nat.lt_of_lt_of_le h2 hk.2.2.2.1,hk.2.2.2.2 _ _ h3 (.inl (by omega)),hk.2.2.2.2 _ _ h4 (.inl (by omega))⟩
  ·rintro i hi W ⟨h1,h2,h3,h4⟩
   have hy:=run_yield (P:=Tryz.prog) (args:=enc i) h3 (by rw[hrec];exact hps _)
   rw[hrec]at hy
   refine⟨fn,_,assign,body,hy,roundIn_of_wpIn hfn (hassign _ i W _ ⟨_,run_beginRound h3 (by rw[hrec]),?_⟩)⟩
   obtain⟨Wb,hWb⟩:∃Wb,W.putObj (w.heap.size+1) (.loop { rec .ready with state:=.busy })=Wb:=⟨_,rfl⟩
   rw[hWb]
   have hl2:Wb.heap[w.heap.size+1]? = some (.loop { rec .ready with state:=.busy }):=by rw[←hWb];exact World.putObj_heap_same h2
   have hk2:Wb.heap[w.heap.size]? = some (.deferred (some [])):=by rw[←hWb];exact(World.putObj_heap_other (by omega)).trans h4
   have hr2:Rnd b W Wb:=by rw[←hWb];exact Rnd.put b W _ _ _ h3 rfl (by omega)
   have hi2:I i Wb:=by rw[←hWb];exact hI i _ _ h1 (Chg.put W _ _ _ h3 rfl (by omega))
   have hs2:w.heap.size<Wb.heap.size:=by rw[←hWb];simp;omega
   refine wpIn_mono (hbody _ i hi Wb hi2 hs2) ?_
   rintro e a3 W3 hp
   cases e with
   | normal=>
    obtain⟨hk3,hr3,hi3⟩:=hp
    have hl3:=hk3.same _ _ (by omega) hl2 rfl
    have hd3:=hk3.same _ _ (Nat.le_refl _) hk2 rfl
    have hlt3:w.heap.size+1<W3.heap.size:=(Array.getElem?_eq_some_iff.1 hl3).1
    have hrun:=run_endRound (P:=Tryz.prog) none hl3
    refine⟨_,_,hrun,rfl,⟨hI _ _ _ hi3 (Chg.put W3 _ _ _ hl3 rfl (by omega)),?_,?_,?_⟩,(hr2.trans hr3).trans (Rnd.put b W3 _ _ _ hl3 rfl (by omega))⟩
    ·simp;omega
    ·rw[World.putObj_heap_same hlt3,hrec]
     rfl
    ·exact(World.putObj_heap_other (by omega)).trans hd3
   | ret=>exact hp.elim
   | exit id=>exact hp.elim
   | goto t=>exact hp.elim
   | panic ch=>exact hp.elim
   | outgrown=>exact hp.elim
  ·rintro e W2 ⟨⟨v,rfl⟩,h1,h2,h3,h4⟩
   have hrun:=run_endLoop (P:=Tryz.prog) h3 (by rw[hrec];simp)
   have hpe:(rec .ready).pending=none:=by rw[hrec]
   rw[hpe]at hrun
   exact⟨none,_,hrun,hdone _ (hI _ _ _ h1 (Chg.put W2 _ _ _ h3 rfl (by omega))) (by simp;omega) ((World.putObj_heap_other (by omega)).trans h4)⟩
def normalOnly(Q:Exit→Act→World→Prop):Exit→Act→World→Prop
 | .normal,a,w=>Q .normal a w
 | _,_,_=>False
theorem wpIn_normal{F:Fence}{n:Nat}{P:Program}{c:Go.Code}{Q:Exit→Act→World→Prop}{a:Act}{w:World}(h:c.wpIn F n P (normalOnly Q) a w):c.wpIn F n P Q a w:=
 wpIn_mono h (fun e a w h=>by
  cases e
  ·exact h
  all_goals exact h.elim)
end Go.Proofs.YtenbfookfcmpoaaGreatDoor
