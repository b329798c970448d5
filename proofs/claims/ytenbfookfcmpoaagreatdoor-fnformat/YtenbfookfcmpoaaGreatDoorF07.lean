import Derived.Test.YtenbfookfcmpoaaGreatDoorF06
import Derived.WalkSmall
import Derived.Deep.AppendLies
import Derived.Laws.IdiomStrings
import Derived.Deep.RegionWith
namespace Go.Proofs.YtenbfookfcmpoaaGreatDoor
open Go.RowKit
def ExD(ds:ByteArray)(pow:Int)(M:Nat)(E:Int):Prop:=0<ds.size∧good 10 ds.data.toList∧(∀h:0<ds.size,ds[0].toNat≠48)∧(∀h:ds.size-1<ds.size,ds[ds.size-1].toNat≠48)
 ∧ valN 10 ds.data.toList*10 ^ (pow-(ds.size:Int)).toNat*2 ^ (-E).toNat=M*2 ^ E.toNat*10 ^ ((ds.size:Int)-pow).toNat
def Stp(d0 t:ByteArray)(j:Nat):Prop:=0<t.size∧good 10 t.data.toList∧(∀h:0<t.size,t[0].toNat≠48)∧valN 10 d0.data.toList=valN 10 t.data.toList*10 ^ j∧t.size+j=d0.size
theorem stp_start(d0:ByteArray)(A:Nat)(h:IsDec d0 A)(hA:0<A):Stp d0 d0 0:=⟨dec_pos d0 A h hA,h.1,h.2.2,by rw[Nat.pow_zero,Nat.mul_one],rfl⟩
theorem last_cut(t:ByteArray)(h:0<t.size):t.data.toList=(t.extract 0 (t.size-1)).data.toList++[t[t.size-1]]:=by
 have e:(t.extract 0 (t.size-1)).data.toList=t.data.toList.take (t.size-1):=by rw[Lib.extract_eq];simp
 rw[e]
 have:=List.take_append_getLast t.data.toList
 have h1:t.data.toList.take (t.size-1+1)=t.data.toList.take (t.size-1)++[t.data.toList[t.size-1]'(by rw[data_len];omega)]:=List.take_succ_eq_append_getElem (by rw[data_len];omega)
 rw[show t.size-1+1=t.size by omega,List.take_of_length_le (by rw[data_len];omega)]at h1
 exact h1
theorem valN_last(t:ByteArray)(h:0<t.size)(hz:t[t.size-1].toNat=48):valN 10 t.data.toList=valN 10 (t.extract 0 (t.size-1)).data.toList*10:=by
 have e:=last_cut t h
 have h1:valN 10 [t[t.size-1]]=0:=by rw[valN_zero 10 _ _ hz,valN_nil]
 rw[e,valN_append,h1]
 rfl
theorem stp_next(d0 t:ByteArray)(j:Nat)(hp:0<valN 10 d0.data.toList)(h:Stp d0 t j)(hz:∀h:t.size-1<t.size,t[t.size-1].toNat=48):Stp d0 (t.extract 0 (t.size-1)) (j+1):=by
 obtain⟨h1,h2,h3,h4,h5⟩:=h
 have hv:=valN_last t h1 (hz (by omega))
 have hs:(t.extract 0 (t.size-1)).size=t.size-1:=by simp
 have h0:0<t.size-1:=by
  apply Nat.pos_of_ne_zero
  intro h0
  have e:(t.extract 0 (t.size-1)).data.toList = []:=List.length_eq_zero_iff.1 (by rw[data_len,hs];exact h0)
  rw[hv,e,valN_nil]at h4
  omega
 refine⟨by omega,?_,?_,?_,by omega⟩
 ·intro c hc
  exact h2 c (by rw[last_cut t h1];exact List.mem_append_left _ hc)
 ·intro h
  have:=h3 h1
  rw[ByteArray.getElem_extract]
  simpa using this
 ·rw[h4,hv,Nat.pow_succ,Nat.mul_assoc,Nat.mul_comm 10]
theorem stp_end(d0 t:ByteArray)(j M s:Nat)(E:Int)(h:Stp d0 t j)(hz:∀h:t.size-1<t.size,t[t.size-1].toNat≠48)(hA:valN 10 d0.data.toList=M*2 ^ E.toNat*5 ^ s)(hs:s=(-E).toNat):ExD t ((d0.size:Int)-(s:Int)) M E:=by
 obtain⟨h1,h2,h3,h4,h5⟩:=h
 refine⟨h1,h2,h3,hz,?_⟩
 rw[show((d0.size:Int)-(s:Int)-(t.size:Int)).toNat=j-s by omega,show((t.size:Int)-((d0.size:Int)-(s:Int))).toNat=s-j by omega,←hs]
 apply Nat.eq_of_mul_eq_mul_right (Nat.pow_pos (show 0<10 by omega) (n:=min j s))
 have e1:10 ^ (j-s)*10 ^ min j s=10 ^ j:=by rw[←Nat.pow_add];congr 1;omega
 have e2:10 ^ (s-j)*10 ^ min j s=10 ^ s:=by rw[←Nat.pow_add];congr 1;omega
 have e3:(10:Nat) ^ s=5 ^ s*2 ^ s:=by rw[←Nat.mul_pow]
 rw[Nat.mul_assoc (M*2 ^ E.toNat),e2,e3,←Nat.mul_assoc,←hA,h4]
 rw[Nat.mul_right_comm,Nat.mul_assoc (valN 10 t.data.toList),e1]
def zerosL(n:Nat):List UInt8:=List.replicate n 48
theorem zerosL_length(n:Nat):(zerosL n).length=n:=by simp[zerosL]
def zerosB(n:Nat):ByteArray:=⟨(zerosL n).toArray⟩
theorem zerosB_size(n:Nat):(zerosB n).size=n:=by rw[←data_len];exact zerosL_length n
def plainB(ds:ByteArray)(pow:Int):ByteArray:=
 if pow≤0 then ⟨#[48,46]⟩++zerosB (-pow).toNat++ds
 else if (ds.size:Int)≤pow then ds++zerosB (pow.toNat-ds.size)
 else ds.extract 0 pow.toNat++dotB++ds.extract pow.toNat ds.size
theorem plainB_size(ds:ByteArray)(pow:Int)(h:ds.size≤1100)(h1:-1100≤pow)(h2:pow≤1100):(plainB ds pow).size≤3000:=by
 unfold plainB
 have e2:(⟨#[48,46]⟩:ByteArray).size=2:=rfl
 have e3:dotB.size=1:=rfl
 split
 ·rw[append_size,append_size,zerosB_size];omega
 ·split
  ·rw[append_size,zerosB_size];omega
  ·rw[append_size,append_size]
   have a1:(ds.extract 0 pow.toNat).size≤ds.size:=by simp;omega
   have a2:(ds.extract pow.toNat ds.size).size≤ds.size:=by simp
   omega
end Go.Proofs.YtenbfookfcmpoaaGreatDoor
namespace Go.Proofs.YtenbfookfcmpoaaGreatDoor
open Go.ChangeShapes Go.WideShapes Go.RowKit
def cmpI(a b:Nat):Int:=if a<b then -1 else if b<a then 1 else 0
theorem cmpI_lt{a b:Nat}(h:a<b):cmpI a b = -1:=if_pos h
theorem cmpI_gt{a b:Nat}(h:b<a):cmpI a b=1:=by unfold cmpI;rw[if_neg (by omega),if_pos h]
theorem cmpI_eq{a b:Nat}(h:a=b):cmpI a b=0:=by unfold cmpI;rw[if_neg (by omega),if_neg (by omega)]
theorem len_lt{a b:List Nat}(hl:Lim a)(ht:Trim b)(h:a.length<b.length):bval a<bval b:=by
 have h1:=bval_lt hl
 have hb:b≠[]:=by rintro rfl;simp at h
 have h2:=(trim_last ht hb).1
 have h3:4294967296 ^ a.length≤4294967296 ^ (b.length-1):=Nat.pow_le_pow_right (by omega) (by omega)
 omega
theorem bval_split(a:List Nat)(k:Nat)(h:k≤a.length):bval a=bval (a.take k)+4294967296 ^ k*bval (a.drop k):=by
 have:=bval_append (a.take k) (a.drop k)
 rw[List.take_append_drop,List.length_take,Nat.min_eq_left h]at this
 exact this
theorem take_lt{a:List Nat}(hl:Lim a)(k:Nat)(h:k≤a.length):bval (a.take k)<4294967296 ^ k:=by
 have:=bval_lt (a:=a.take k) fun x hx=>hl x (List.mem_of_mem_take hx)
 rw[List.length_take,Nat.min_eq_left h]at this
 exact this
theorem parts_lt{a b:List Nat}(hl:Lim a)(h:a.length=b.length)(k:Nat)(hk:k<a.length)(hd:a.drop (k+1)=b.drop (k+1))(hx:a.getD k 0<b.getD k 0):bval a<bval b:=by
 rw[bval_split a (k+1) (by omega),bval_split b (k+1) (by omega),hd,take_val a k hk,take_val b k (by omega)]
 have h1:=take_lt hl k (by omega)
 have h2:=Nat.mul_le_mul_left (4294967296 ^ k) (show a.getD k 0+1≤b.getD k 0 from hx)
 rw[Nat.mul_add,Nat.mul_one]at h2
 generalize 4294967296 ^ k*a.getD k 0=p at *
 generalize 4294967296 ^ k*b.getD k 0=q at *
 omega
theorem drop_eq{a b:List Nat}(h:a.length=b.length)(k:Nat)(hk:k<a.length)(hd:a.drop (k+1)=b.drop (k+1))(hx:a.getD k 0=b.getD k 0):a.drop k=b.drop k:=by
 rw[List.drop_eq_getElem_cons hk,List.drop_eq_getElem_cons (show k<b.length by omega),hd]
 simp[List.getElem?_eq_getElem hk,List.getElem?_eq_getElem (show k<b.length by omega)]at hx
 rw[hx]
theorem Row.block{w:World}{ao:Option Addr}{cap:Nat}{ls:List Nat}(h1:ls.length≤cap)
  (h:(ao=none∧cap=0)∨∃g,ao=some ⟨g,0,none⟩∧g<w.heap.size∧∀t,t<ls.length→w.cell? ⟨g,t,none⟩=some (.int .u64 (ls.getD t 0:Nat))) {t:Nat} (ht:t<ls.length) :
  ∃g,ao=some ⟨g,0,none⟩∧g<w.heap.size∧∀t,t<ls.length→w.cell? ⟨g,t,none⟩=some (.int .u64 (ls.getD t 0:Nat)):=by
 rcases h with⟨_,h⟩|h
 ·omega
 ·exact h
theorem and32(y:Nat)(h:y<18446744073709551616):bits .and .u64 (y:Int) 4294967295=((y % 4294967296:Nat):Int):=by
 rw[u64_and (y:Int) 4294967295 (by omega) (by omega) (by omega) (by omega),Int.toNat_natCast]
 have e:(4294967295:Int).toNat=2 ^ 32-1:=rfl
 rw[e,Nat.and_two_pow_sub_one_eq_mod]
theorem take_val'(a:List Nat)(k:Nat):bval (a.take (k+1))=bval (a.take k)+4294967296 ^ k*a.getD k 0:=by
 by_cases h:k<a.length
 ·exact take_val a k h
 ·rw[List.take_of_length_le (by omega),List.take_of_length_le (by omega)]
  simp[List.getElem?_eq_none (Nat.le_of_not_lt h)]
theorem lim_snoc{os:List Nat}(h:Lim os){r:Nat}(hr:r<4294967296):Lim (os++[r]):=by
 intro y hy
 rcases List.mem_append.1 hy with h1|h1
 ·exact h y h1
 ·rw[List.mem_singleton.1 h1];omega
theorem add_round(ls ms os:List Nat)(c k:Nat)(ho:os.length=k)(hL:Lim os)(hv:bval os+4294967296 ^ k*c=bval (ls.take k)+bval (ms.take k))
  (t:Nat) (ht:t=c+ls.getD k 0+ms.getD k 0) (r q:Nat) (hr:t % 4294967296=r) (hq:t / 4294967296=q) :
  Lim (os++[r])∧bval (os++[r])+4294967296 ^ (k+1)*q=bval (ls.take (k+1))+bval (ms.take (k+1)):=by
 refine⟨lim_snoc hL (by omega),?_⟩
 rw[take_val' ls k,take_val' ms k,bval_append,ho,Nat.pow_succ]
 generalize ls.getD k 0=x at *
 generalize ms.getD k 0=y at *
 generalize 4294967296 ^ k=z at *
 have e:z*r+z*4294967296*q=z*c+z*x+z*y:=by
  rw[←Nat.mul_add,←Nat.mul_add,Nat.mul_assoc,←Nat.mul_add,←ht]
  congr 1;omega
 simp only[bval]
 rw[Nat.mul_zero,Nat.add_zero]
 omega
theorem add_end(ls ms os:List Nat)(c k:Nat)(ho:os.length=k)(hl:ls.length≤k)(hm:ms.length≤k)(hc:c≤1)(hL:Lim os)
  (hv:bval os+4294967296 ^ k*c=bval (ls.take k)+bval (ms.take k)):Lim (os++[c])∧bval (os++[c])=bval ls+bval ms:=by
 refine⟨lim_snoc hL (by omega),?_⟩
 rw[List.take_of_length_le hl,List.take_of_length_le hm]at hv
 rw[bval_append,ho]
 simpa [bval] using hv
set_option maxHeartbeats 3200000 in
set_option maxRecDepth 100000 in
theorem l0add_any(v u:Value)(A C n:Nat)(w:World)(h:Big w v A)(h':Big w u C)(hA:A<4294967296 ^ n)(hC:C<4294967296 ^ n)(hn:n<1000000) :
  Calls Tryz.prog 117 #[v,u] w fun e w'=>∃v',e=.returned v'∧Below w.heap.size w w'∧Big w' v' (A+C):=by
 obtain⟨i0,hi,hz0,hz1,hz2⟩:=info_parts Tryz.infoU
 obtain⟨ls,a1,a2,a3,rfl⟩:=h
 obtain⟨ms,b1,b2,b3,rfl⟩:=h'
 have hlen:=Nat.lt_of_le_of_lt (trim_len a3 hA) hn
 have hlen2:=Nat.lt_of_le_of_lt (trim_len b3 hC) hn
 obtain⟨ao,acap,rfl,ac,am,ah⟩:=a1
 obtain⟨bo,bcap,rfl,bc,bm,bh⟩:=b1
 have HA:Hid _:=ah
 have HB:Hid _:=bh
 have LA:Hid _:=a2
 have LB:Hid _:=b2
 clear ah bh am bm a2 b2 a3 b3 hA hC
 go_enter Tryz.func117,Tryz.ntmps117
 go_wp2
 go_loopw [5,6,7] (fun v cv i wr=>∃ (k c:Nat) (os:List Nat),(k≤ls.length∨k≤ms.length)∧i=.int .i64 k∧cv=.int .u64 c∧c≤1∧os.length=k∧Hid (Lim os) ∧
   Hid (bval os+4294967296 ^ k*c=bval (ls.take k)+bval (ms.take k))∧wr.ownsRow w.heap.size 44 1 v k (os.map fun x=>Value.int .u64 (x:Nat))∧Below w.heap.size w wr)
  (fun _ _ i _=>ls.length+ms.length-(intOf i).toNat)
 case atStart=>exact⟨0,0,[],.inl (Nat.zero_le _),rfl,rfl,by omega,rfl,fun _ h=>absurd h (by simp),by show _=_;simp[bval],World.ownsRow_nil _ _ _ _,Below.refl _ _⟩
 case round=>
  obtain⟨k,c,os,hk,rfl,rfl,hc,ho,HO,HV,hown,hbe⟩:=hrel
  have hxl:=lim_get LA.out k
  have hyl:=lim_get LB.out k
  by_cases hlt:k<ls.length
  ·obtain⟨g,rfl,hg,hcl⟩:=Row.block ac HA.out (t:=k) hlt
   have hx:wr.cell? ⟨g,k,none⟩=some (.int .u64 (ls.getD k 0:Nat)):=(hbe.cell hg).trans (hcl k hlt)
   have HR:Hid _:=add_round ls ms os c k ho HO.out HV.out
   clear hcl HV
   by_cases hlm:k<ms.length
   ·obtain⟨g',rfl,hg',hcl'⟩:=Row.block bc HB.out (t:=k) hlm
    have hy:wr.cell? ⟨g',k,none⟩=some (.int .u64 (ms.getD k 0:Nat)):=(hbe.cell hg').trans (hcl' k hlm)
    clear hcl'
    generalize ls.getD k 0=x at *
    generalize ms.getD k 0=y at *
    have hand:=and32 (c+x+y) (by omega)
    have hshr:((c:Int)+x+y) / 4294967296=(((c+x+y) / 4294967296:Nat):Int):=by omega
    have HR1:Hid _:=HR.out (c+x+y) rfl
    generalize hr:(c+x+y) % 4294967296=r at *
    generalize hq:(c+x+y) / 4294967296=q at *
    have HR2:Hid _:=HR1.out r q rfl rfl
    rw[Int.natCast_add,Int.natCast_add]at hand
    go_wp2_with (first
     | (at_builtin;refine wpList_append_own _ rfl _ _ 143 rfl w.heap.size 44 i0 (.int .u64 0) 1 8 Tryz.underlying143 hi hz0 hz1 hz2 rfl (by decide) _ _ _ rfl (hown.alloc _) ⟨wr.heap.size,0,none⟩ 1 1 [.int .u64 (r:Nat)] rfl rfl ?c1a ?c1b ?c1c ?c1d ?c1e ?_)
     | go_in)
    case c1a=>
     intro j u hj
     match j,hj with
     | 0,hj=>simp at hj;subst hj;simp[Addr.add]
    case c1b=>intro u hu;simp at hu;subst hu;rfl
    case c1c=>unfold maxLen;omega
    case c1d=>omega
    case c1e=>have:=hbe.size;simp;omega
    ·intro v' w1 hown' hgrow _
     have R:=own_step (os:=os) (r:=r) ho hown hbe (Nat.le_refl _) (by simpa using hown') hgrow
     have RL:(os++[r]).length=k+1:=by simp[ho]
     rw[RL]at R
     clear hown' hgrow hown
     go_wp2
     go_roundw
     case rel=>exact⟨k+1,q,os++[r],by omega,by simp,rfl,by omega,RL,HR2.out.1,HR2.out.2,R.1,R.2⟩
     case measure=>simp[intOf];omega
   ·have h0:ms.getD k 0=0:=by simp[List.getElem?_eq_none (Nat.le_of_not_lt hlm)]
    rw[h0]at HR
    clear hyl h0
    generalize ls.getD k 0=x at *
    have hand:=and32 (c+x) (by omega)
    have hshr:((c:Int)+x) / 4294967296=(((c+x) / 4294967296:Nat):Int):=by omega
    have HR1:Hid _:=HR.out (c+x) rfl
    generalize hr:(c+x) % 4294967296=r at *
    generalize hq:(c+x) / 4294967296=q at *
    have HR2:Hid _:=HR1.out r q rfl rfl
    rw[Int.natCast_add]at hand
    go_wp2_with (first
     | (at_builtin;refine wpList_append_own _ rfl _ _ 143 rfl w.heap.size 44 i0 (.int .u64 0) 1 8 Tryz.underlying143 hi hz0 hz1 hz2 rfl (by decide) _ _ _ rfl (hown.alloc _) ⟨wr.heap.size,0,none⟩ 1 1 [.int .u64 (r:Nat)] rfl rfl ?c2a ?c2b ?c2c ?c2d ?c2e ?_)
     | go_in)
    case c2a=>
     intro j u hj
     match j,hj with
     | 0,hj=>simp at hj;subst hj;simp[Addr.add]
    case c2b=>intro u hu;simp at hu;subst hu;rfl
    case c2c=>unfold maxLen;omega
    case c2d=>omega
    case c2e=>have:=hbe.size;simp;omega
    ·intro v' w1 hown' hgrow _
     have R:=own_step (os:=os) (r:=r) ho hown hbe (Nat.le_refl _) (by simpa using hown') hgrow
     have RL:(os++[r]).length=k+1:=by simp[ho]
     rw[RL]at R
     clear hown' hgrow hown
     go_wp2
     go_roundw
     case rel=>exact⟨k+1,q,os++[r],by omega,by simp,rfl,by omega,RL,HR2.out.1,HR2.out.2,R.1,R.2⟩
     case measure=>simp[intOf];omega
  ·have h0:ls.getD k 0=0:=by simp[List.getElem?_eq_none (Nat.le_of_not_lt hlt)]
   by_cases hlm:k<ms.length
   ·obtain⟨g',rfl,hg',hcl'⟩:=Row.block bc HB.out (t:=k) hlm
    have hy:wr.cell? ⟨g',k,none⟩=some (.int .u64 (ms.getD k 0:Nat)):=(hbe.cell hg').trans (hcl' k hlm)
    have HR:Hid _:=add_round ls ms os c k ho HO.out HV.out
    rw[h0]at HR
    clear hcl' HV hxl h0
    generalize ms.getD k 0=y at *
    have hand:=and32 (c+y) (by omega)
    have hshr:((c:Int)+y) / 4294967296=(((c+y) / 4294967296:Nat):Int):=by omega
    have HR1:Hid _:=HR.out (c+y) (by omega)
    generalize hr:(c+y) % 4294967296=r at *
    generalize hq:(c+y) / 4294967296=q at *
    have HR2:Hid _:=HR1.out r q rfl rfl
    rw[Int.natCast_add]at hand
    go_wp2_with (first
     | (at_builtin;refine wpList_append_own _ rfl _ _ 143 rfl w.heap.size 44 i0 (.int .u64 0) 1 8 Tryz.underlying143 hi hz0 hz1 hz2 rfl (by decide) _ _ _ rfl (hown.alloc _) ⟨wr.heap.size,0,none⟩ 1 1 [.int .u64 (r:Nat)] rfl rfl ?c3a ?c3b ?c3c ?c3d ?c3e ?_)
     | go_in)
    case c3a=>
     intro j u hj
     match j,hj with
     | 0,hj=>simp at hj;subst hj;simp[Addr.add]
    case c3b=>intro u hu;simp at hu;subst hu;rfl
    case c3c=>unfold maxLen;omega
    case c3d=>omega
    case c3e=>have:=hbe.size;simp;omega
    ·intro v' w1 hown' hgrow _
     have R:=own_step (os:=os) (r:=r) ho hown hbe (Nat.le_refl _) (by simpa using hown') hgrow
     have RL:(os++[r]).length=k+1:=by simp[ho]
     rw[RL]at R
     clear hown' hgrow hown
     go_wp2
     go_roundw
     case rel=>exact⟨k+1,q,os++[r],by omega,by simp,rfl,by omega,RL,HR2.out.1,HR2.out.2,R.1,R.2⟩
     case measure=>simp[intOf];omega
   ·have HE:Hid _:=add_end ls ms os c k ho (by omega) (by omega) hc HO.out HV.out
    clear HV hxl hyl h0
    go_wp2_with (first
     | (at_builtin;refine wpList_append_own _ rfl _ _ 143 rfl w.heap.size 44 i0 (.int .u64 0) 1 8 Tryz.underlying143 hi hz0 hz1 hz2 rfl (by decide) _ _ _ rfl (hown.alloc _) ⟨wr.heap.size,0,none⟩ 1 1 [.int .u64 (c:Nat)] rfl rfl ?c4a ?c4b ?c4c ?c4d ?c4e ?_)
     | go_in)
    case c4a=>
     intro j u hj
     match j,hj with
     | 0,hj=>simp at hj;subst hj;simp[Addr.add]
    case c4b=>intro u hu;simp at hu;subst hu;rfl
    case c4c=>unfold maxLen;omega
    case c4d=>omega
    case c4e=>have:=hbe.size;simp;omega
    ·intro v' w1 hown' hgrow _
     have R:=own_step (os:=os) (r:=c) ho hown hbe (Nat.le_refl _) (by simpa using hown') hgrow
     have HR:Hid (Row w1 v' (os++[c])):=Row.of_owns R.1
     have HB2:Hid (Below w.heap.size w w1):=R.2
     clear hown' hgrow hown R
     go_wp2_with (go_at_call 139;refine(l0trim_any (os++[c]) v' _ HR.out).mono ?_;rintro e w2 ⟨rfl,v2,rfl,hv2⟩)
     go_ret
     exact⟨_,rfl,HB2.out,Big.of_trim hv2 HE.out.1 HE.out.2⟩
end Go.Proofs.YtenbfookfcmpoaaGreatDoor
namespace Go.Proofs.YtenbfookfcmpoaaGreatDoor
open Go.RowKit
theorem nine_round(r k:Nat)(ks:List Nat)(hl:ks.length=k)(ht:Ten ks)(hv:dval ks=r % 10 ^ k) :
  Ten (ks++[r / 10 ^ k % 10])∧dval (ks++[r / 10 ^ k % 10])=r % 10 ^ (k+1)∧r / 10 ^ k / 10=r / 10 ^ (k+1):=by
 refine⟨ten_snoc ht (Nat.mod_lt _ (by omega)),?_,?_⟩
 ·rw[dval_snoc,hv,hl,Nat.mod_pow_succ]
 ·rw[Nat.pow_succ,Nat.div_div_eq_div_mul]
theorem div_round(ls qs:List Nat)(k rest:Nat)(hk:k<ls.length)(hx:ls.getD k 0<4294967296)(hr:rest<1000000000)
  (hv:bval (ls.drop (k+1))=1000000000*bval qs+rest) :
  (rest*4294967296+ls.getD k 0) / 1000000000<4294967296∧(rest*4294967296+ls.getD k 0) % 1000000000<1000000000
  ∧ bval (ls.drop k)=1000000000*bval ((rest*4294967296+ls.getD k 0) / 1000000000 :: qs)+(rest*4294967296+ls.getD k 0) % 1000000000:=by
 have hd:bval (ls.drop k)=ls.getD k 0+4294967296*bval (ls.drop (k+1)):=by
  rw[List.drop_eq_getElem_cons hk]
  simp[bval,List.getElem?_eq_getElem hk]
 generalize ls.getD k 0=x at *
 refine⟨by omega,by omega,?_⟩
 rw[hd,hv]
 simp only[bval]
 have:=Nat.div_add_mod (rest*4294967296+x) 1000000000
 omega
theorem digits_round(A Aj Q R:Nat)(os ks:List Nat)(hk:ks.length=9)(hv:dval ks=R % 10 ^ 9)(hR:R<1000000000)(hA:Aj=1000000000*Q+R)
  (h:dval os+10 ^ os.length*Aj=A):dval (os++ks)+10 ^ (os++ks).length*Q=A:=by
 have e:(10:Nat) ^ 9=1000000000:=rfl
 rw[e,Nat.mod_eq_of_lt hR]at hv
 rw[dval_append,hv,List.length_append,hk,Nat.pow_add,e,←h,hA,Nat.mul_add,Nat.mul_assoc]
 omega
theorem digits_few(A Aj n:Nat)(os:List Nat)(h0:0<Aj)(hA:A<4294967296 ^ n)(h:dval os+10 ^ os.length*Aj=A):os.length<32*n∧os.length<A:=by
 have h1:10 ^ os.length≤A:=by
  have:10 ^ os.length*1≤10 ^ os.length*Aj:=Nat.mul_le_mul_left _ h0
  omega
 have h2:2 ^ os.length≤10 ^ os.length:=Nat.pow_le_pow_left (by omega) _
 have e:4294967296 ^ n=2 ^ (32*n):=by rw[Nat.pow_mul]
 rw[e]at hA
 constructor
 ·exact(Nat.pow_lt_pow_iff_right (by omega)).1 (Nat.lt_of_le_of_lt h2 (Nat.lt_of_le_of_lt h1 hA))
 ·have h3:os.length<2 ^ os.length:=Nat.lt_two_pow_self
  omega
theorem strip_round(os:List Nat)(k:Nat)(h:k<os.length)(hz:os.getD k 0=0)(hv:dval os=dval (os.take (k+1))):dval os=dval (os.take k):=by
 rw[hv,part_snoc os k h,hz,dval_snoc];omega
theorem isDec_of(ds:List Nat)(A:Nat)(s:ByteArray)(ht:Ten ds)(hv:dval ds=A)(hs:s.data.toList=dtxt ds)(hz:∀k,ds.length=k+1→ds.getD k 0≠0):IsDec s A:=by
 refine⟨by rw[hs];exact good_dtxt ds ht,by rw[hs,valN_dtxt ds ht,hv],?_⟩
 intro h
 have hl:ds.length=s.size:=by rw[←data_len s,hs,dtxt_length]
 obtain⟨k,hk⟩:∃k,ds.length=k+1:=⟨ds.length-1,by omega⟩
 have e:s[0]=dchr (ds.getD k 0):=by
  have e1:s[0]=s.data.toList[0]'(by rw[data_len];exact h):=by simp[ByteArray.getElem_eq_getElem_data]
  rw[e1]
  simp only[hs,dtxt]
  rw[List.getElem_map,List.getElem_reverse]
  congr 1
  simp[hk]
 rw[e,dchr_nat _ (by
  have:=ht (ds.getD k 0) (by
   have e2:ds.getD k 0=ds[k]:=by simp[List.getElem?_eq_getElem (show k<ds.length by omega)]
   rw[e2]
   exact List.getElem_mem _)
  exact this)]
 have:=hz k hk
 omega
end Go.Proofs.YtenbfookfcmpoaaGreatDoor
namespace Go.Proofs.YtenbfookfcmpoaaGreatDoor
open Go.ChangeShapes Go.WideShapes Go.RowKit
theorem Row.two(w:World)(T:Nat)(x y:Nat):Row (w.alloc (.cells #[.int .u64 x,.int .u64 y] T)) (.slice (some ⟨w.heap.size,0,none⟩) 2 2) [x,y]:=by
 refine⟨_,2,rfl,Nat.le_refl _,by unfold maxLen;omega,.inr ⟨w.heap.size,rfl,by simp,fun t ht=>?_⟩⟩
 rw[World.cell?_alloc_mark]
 match t,ht with
 | 0,_=>rfl
 | 1,_=>rfl
set_option maxHeartbeats 400000 in
theorem l0from_any(n:Nat)(hn:n<18446744073709551616)(w:World) :
  Calls Tryz.prog 125 #[.int .u64 (n:Int)] w fun e w'=>∃v',e=.returned v'∧Below w.heap.size w w'∧Big w' v' n:=by
 have ha:=and32 n hn
 have hq:(n:Int) / 4294967296=((n / 4294967296:Nat):Int):=by omega
 have HR:Hid _:=fun(w:World) T=>Row.two w T (n % 4294967296) (n / 4294967296)
 have HL:Hid (Lim [n % 4294967296,n / 4294967296]):=by
  show Lim _
  intro x hx
  simp at hx
  rcases hx with rfl|rfl<;>omega
 have HV:Hid (bval [n % 4294967296,n / 4294967296]=n):=by show _=_;simp only[bval];omega
 clear hn
 generalize n % 4294967296=a at *
 generalize n / 4294967296=b at *
 go_enter Tryz.func125,Tryz.ntmps125
 go_wp2_with (go_at_call 139;refine(l0trim_any [a,b] _ _ (HR.out _ _)).mono ?_;rintro e w2 ⟨rfl,v2,rfl,hv2⟩)
 go_ret
 exact⟨_,rfl,(Below.refl _ _).alloc (Nat.le_refl _) _,Big.of_trim hv2 HL.out HV.out⟩
set_option maxHeartbeats 400000 in
theorem l0trim_at(ls:List Nat)(g cap:Nat)(w:World)(h1:ls.length≤cap)(h2:cap≤maxLen)
  (hc:∀t,t<ls.length→w.cell? ⟨g,t,none⟩=some (.int .u64 (ls.getD t 0:Nat))) :
  Calls Tryz.prog 139 #[.slice (some ⟨g,0,none⟩) ls.length cap] w fun e w'=>w'=w∧e=.returned (.slice (some ⟨g,0,none⟩) (btrim ls).length cap):=by
 go_enter Tryz.func139,Tryz.ntmps139
 go_wp2
 go_loop [3] (fun n=>∃k:Nat,n=.int .i64 k∧k≤ls.length∧Hid (btrim ls=btrim (ls.take k))) (fun n=>(intOf n).toNat)
 case atStart=>exact⟨ls.length,rfl,Nat.le_refl _,by show _=_;rw[List.take_length]⟩
 case round=>
  obtain⟨k,rfl,hk,HK⟩:=hrel
  have HC:Hid (∀t,t<ls.length→w.cell? ⟨g,t,none⟩=some (.int .u64 (ls.getD t 0:Nat))):=hc
  clear hc
  have hcap:cap≤9223372036854775807:=h2
  cases k with
  | zero=>
   have HE:Hid ((btrim ls).length=0):=by show _=_;rw[HK.out];rfl
   go_wp2
   go_ret
   exact⟨rfl,by rw[HE.out];rfl⟩
  | succ k=>
   have hx:=HC.out k (by omega)
   by_cases hz:ls.getD k 0=0
   ·have HK2:Hid (btrim ls=btrim (ls.take k)):=HK.out.trans (trim_take_zero ls k (by omega) hz)
    rw[hz]at hx
    go_wp2
    exact⟨⟨k,rfl,by omega,HK2⟩,by simp only[intOf];omega⟩
   ·have HE:Hid ((btrim ls).length=k+1):=by show _=_;rw[HK.out,trim_take_some ls k (by omega) hz,List.length_take];omega
    generalize ls.getD k 0=x at *
    go_wp2
    go_ret
    exact⟨rfl,by rw[HE.out];rfl⟩
theorem Tryz.infoB:(Tryz.prog.info? 5).map (fun i=>(i.zero,i.size,i.bytes))=some (some (.int .u8 0),1,1):=by kernel_rfl
def cellD(d:Nat):Value:=.int .u8 ((dchr d).toNat:Int)
def Far(u v:Value):Prop:=∀g n c,v=.slice (some ⟨g,0,none⟩) n c→u.ownBlock≠some g
theorem Row.far{w w1:World}{u v:Value}{ls:List Nat}{o:Obj}(h:Row w v ls)(hf:Far u v)(hg:(w.alloc o).grownBy w1 u.ownBlock):Row w1 v ls:=by
 obtain⟨ao,cap,hv,h1,h2,h3⟩:=h
 refine⟨ao,cap,hv,h1,h2,?_⟩
 rcases h3 with h3|⟨g,rfl,hl,hc⟩
 ·exact .inl h3
 ·have hlt:g<(w.alloc o).heap.size:=by simp;omega
  refine .inr ⟨g,rfl,Nat.lt_of_lt_of_le hlt hg.size,fun t ht=>?_⟩
  rw[hg.cell_far ⟨g,t,none⟩ hlt (by intro h;exact hf g _ _ hv h.symm)]
  rw[((Below.refl w.heap.size w).alloc (Nat.le_refl _) o).cell (p:=⟨g,t,none⟩) hl]
  exact hc t ht
theorem Big.far{w w1:World}{u v:Value}{A:Nat}{o:Obj}(h:Big w v A)(hf:Far u v)(hg:(w.alloc o).grownBy w1 u.ownBlock):Big w1 v A:=by
 obtain⟨ls,h1,h2⟩:=h
 exact⟨ls,h1.far hf hg,h2⟩
theorem Far.next{w:World}{u v:Value}{ls:List Nat}{g n c:Nat}(hf:Far u v)(h:Row w v ls)(hg:u.ownBlock=some g∨g=w.heap.size+1):Far (.slice (some ⟨g,0,none⟩) n c) v:=by
 intro k m d hv hk
 have hk':g=k:=by simpa [Value.ownBlock] using hk
 subst hk'
 rcases hg with hg|hg
 ·exact hf g m d hv hg
 ·obtain⟨ao,cap,hv2,_,_,h3⟩:=h
  rw[hv]at hv2
  cases hv2
  rcases h3 with⟨h3,_⟩|⟨g',h3,hl,_⟩
  ·cases h3
  ·cases h3;omega
theorem own_stepD{B n:Nat}{w wr w1:World}{e f:Nat}{u v:Value}{os:List Nat}{r:Nat}{o:Obj}(ho:os.length=n)(hown:wr.ownsRow B e 1 u n (os.map cellD))(hbe:Below B w wr)(hB:B≤w.heap.size)
  (h1:w1.ownsRow B f 1 v (n+1) ((os.map cellD)++[cellD r])) (hg:(wr.alloc o).grownBy w1 u.ownBlock) :
  w1.ownsRow B f 1 v (os++[r]).length ((os++[r]).map cellD)∧Below B w w1:=by
 have hs:B≤wr.heap.size:=Nat.le_trans hB hbe.size
 refine⟨by simpa [ho] using h1,(hbe.alloc hs o).grown hg (by simp;omega) ?_⟩
 intro k hk
 obtain⟨_,h⟩:=hown
 rcases h with⟨rfl,_⟩|⟨g,cap,cur,rfl,hb,_⟩
 ·simp[Value.ownBlock]at hk
 ·simp[Value.ownBlock]at hk;omega
theorem make_u64(n:Nat)(hn:n≤1000000)(w:World):(Instr.makeSlice 143 (.int .i64 (n:Int)) (.int .i64 (n:Int))).run Tryz.prog w=.ok (.slice (some ⟨w.heap.size,0,none⟩) n n) (w.alloc (.cells (List.replicate n (.int .u64 0)).toArray 44)):=by
 obtain⟨i0,hi,hz0,hz1,hz2⟩:=info_parts Tryz.infoU
 have h:=run_make (P:=Tryz.prog) w 143 44 i0 (.int .u64 0) Tryz.underlying143 hi hz0 .i64 .i64 (n:Int) (n:Int) (by omega) (Int.le_refl _) (by rw[hz2];omega) (by omega)
 rw[hz1,Int.toNat_natCast,Nat.mul_one]at h
 rw[h,show(Value.int .u64 0).cells=#[.int .u64 0] from rfl,made_zeros]
theorem make_u8(n:Nat)(hn:n≤100000000)(w:World):(Instr.makeSlice 22 (.int .i64 (n:Int)) (.int .i64 (n:Int))).run Tryz.prog w=.ok (.slice (some ⟨w.heap.size,0,none⟩) n n) (w.alloc (.cells (List.replicate n (.int .u8 0)).toArray 5)):=by
 obtain⟨i0,hi,hz0,hz1,hz2⟩:=info_parts Tryz.infoB
 have h:=run_make (P:=Tryz.prog) w 22 5 i0 (.int .u8 0) Tryz.underlying22 hi hz0 .i64 .i64 (n:Int) (n:Int) (by omega) (Int.le_refl _) (by rw[hz2];omega) (by omega)
 rw[hz1,Int.toNat_natCast,Nat.mul_one]at h
 rw[h,show(Value.int .u8 0).cells=#[.int .u8 0] from rfl,made_zeros]
def qcells(k:Nat)(qs:List Nat):List Value:=List.replicate k (.int .u64 0)++qs.map fun x=>.int .u64 (x:Int)
theorem qcells_free(k:Nat)(qs:List Nat):(qcells (k+1) qs)[k]? = some (.int .u64 0):=by
 unfold qcells
 rw[List.getElem?_append_left (by simp),List.getElem?_replicate,if_pos (by omega)]
theorem qcells_set(k:Nat)(qs:List Nat)(x:Nat):(qcells (k+1) qs).set k (.int .u64 (x:Int))=qcells k (x :: qs):=by
 unfold qcells
 rw[List.replicate_succ',List.append_assoc,List.set_append_right _ _ (by simp)]
 simp
theorem qcells_nil(k:Nat):qcells k []=List.replicate k (.int .u64 0):=by simp[qcells]
theorem qrow(w:World)(qs:List Nat)(T:Nat)(t:Nat)(h:t<qs.length):(w.alloc (.cells (qcells 0 qs).toArray T)).cell? ⟨w.heap.size,t,none⟩=some (.int .u64 (qs.getD t 0:Nat)):=by
 rw[World.cell?_alloc_mark]
 simp[qcells,List.getElem?_eq_getElem h]
def tcells(tl:List UInt8)(i:Nat):List Value:=(tl.take i).map (fun c=>.int .u8 (c.toNat:Int))++List.replicate (tl.length-i) (.int .u8 0)
theorem tcells_zero(tl:List UInt8):tcells tl 0=List.replicate tl.length (.int .u8 0):=by simp[tcells]
theorem tcells_free(tl:List UInt8)(i:Nat)(h:i<tl.length):(tcells tl i)[i]? = some (.int .u8 0):=by
 unfold tcells
 rw[List.getElem?_append_right (by simp;omega)]
 rw[List.getElem?_replicate,if_pos (by simp;omega)]
theorem tcells_set(tl:List UInt8)(i:Nat)(h:i<tl.length):(tcells tl i).set i (.int .u8 (tl[i].toNat:Int))=tcells tl (i+1):=by
 unfold tcells
 have hl:(List.map (fun c:UInt8=>Value.int .u8 (c.toNat:Int)) (tl.take i)).length=i:=by simp;omega
 rw[List.set_append_right _ _ (by omega),hl,Nat.sub_self,show tl.length-i=(tl.length-(i+1))+1 by omega,List.replicate_succ,List.set_cons_zero,
  List.take_succ_eq_append_getElem h,List.map_append,List.append_assoc]
 rfl
theorem tcells_all(tl:List UInt8):tcells tl tl.length=tl.map fun c=>.int .u8 (c.toNat:Int):=by simp[tcells]
theorem text_end(w:World)(tl:List UInt8)(T:Nat) :
  (convert 22 9 (.slice (some ⟨w.heap.size,0,none⟩) tl.length tl.length)).run Tryz.prog (w.alloc (.cells (tcells tl tl.length).toArray T))=.ok (.string ⟨tl.toArray⟩) (w.alloc (.cells (tcells tl tl.length).toArray T)):=
 run_convert_bytes_back _ 22 9 5 ⟨w.heap.size,0,none⟩ tl.length tl Tryz.underlying22 Tryz.underlying5 Tryz.underlying9 (fun j hj=>by
  rw[show(⟨w.heap.size,0,none⟩:Addr).add j=⟨w.heap.size,j,none⟩ by(simp[Addr.add];try omega),World.cell?_alloc_mark,tcells_all]
  simp[List.getElem?_eq_getElem hj])
theorem own_cell{w:World}{B e n:Nat}{v:Value}{os:List Nat}(h:w.ownsRow B e 1 v n (os.map cellD))(hn:os.length=n) :
  (v=.slice none 0 0∧n=0)∨∃g cap,v=.slice (some ⟨g,0,none⟩) n cap∧n≤cap∧cap≤maxLen∧g<w.heap.size∧∀t,t<n→w.cell? ⟨g,t,none⟩=some (cellD (os.getD t 0)):=by
 obtain⟨_,h⟩:=h
 rcases h with h|⟨g,cap,cur,rfl,hb,hh,h1,h2,h3,h4⟩
 ·exact .inl h
 ·refine .inr ⟨g,cap,rfl,h1,h2,(Array.getElem?_eq_some_iff.1 hh).1,fun t ht=>?_⟩
  have hc:cur[t]? = some (cellD (os.getD t 0)):=by
   rw[Nat.mul_one]at h4
   rw[←Array.getElem?_toList]
   have:(cur.toList.take n)[t]? = cur.toList[t]?:=List.getElem?_take_of_lt ht
   rw[←this,h4]
   simp[List.getElem?_eq_getElem (show t<os.length by omega)]
  simp only[World.cell?,hh]
  simpa using hc
theorem own_block_lt{w:World}{B e n:Nat}{v:Value}{xs:List Value}(h:w.ownsRow B e 1 v n xs)(g:Nat)(hg:v.ownBlock=some g):B≤g∧g<w.heap.size:=by
 obtain⟨_,h⟩:=h
 rcases h with⟨rfl,_⟩|⟨g',cap,cur,rfl,hb,hh,_⟩
 ·simp[Value.ownBlock]at hg
 ·have:g'=g:=by simpa [Value.ownBlock] using hg
  subst this
  exact⟨hb,(Array.getElem?_eq_some_iff.1 hh).1⟩
set_option maxHeartbeats 400000 in
theorem l5zeros_at(n:Nat)(hn:n≤1000000)(w:World) :
  Calls Tryz.prog 51 #[.int .i64 (n:Int)] w fun e w'=>e=.returned (.string ⟨(zerosL n).toArray⟩)∧w'=w.alloc (.cells (tcells (zerosL n) n).toArray 5):=by
 have hmk:=make_u8 n (by omega)
 have hl:=zerosL_length n
 have HFR:Hid (∀i,i<n→(tcells (zerosL n) i)[i]? = some (.int .u8 0)):=fun i h=>tcells_free _ i (by omega)
 have HST:Hid (∀i,i<n→(tcells (zerosL n) i).set i (.int .u8 48)=tcells (zerosL n) (i+1)):=fun i h=>by
  have:=tcells_set (zerosL n) i (by omega)
  rw[show((zerosL n)[i]'(by omega)).toNat=48 by simp[zerosL]]at this
  exact this
 have hcv:=text_end w (zerosL n) 5
 rw[hl]at hcv
 rw[show List.replicate n (Value.int .u8 0)=tcells (zerosL n) 0 by rw[tcells_zero,hl]]at hmk
 generalize zerosL n=tl at *
 clear hl
 go_enter Tryz.func51,Tryz.ntmps51
 go_wp2
 go_loopw [9] (fun vi wl=>∃i:Nat,vi=.int .i64 (i:Int)∧i≤n∧wl=w.alloc (.cells (tcells tl i).toArray 5)) (fun vi _=>n-(intOf vi).toNat)
 case atStart=>exact⟨0,rfl,by omega,rfl⟩
 case round=>
  obtain⟨i,rfl,hi,rfl⟩:=hrel
  by_cases hlt:i<n
  ·have hfr:=HFR.out i hlt
   have HS:Hid _:=HST.out i hlt
   clear hcv
   go_wp2
   rw[HS.out]
   exact⟨⟨i+1,rfl,by omega,rfl⟩,by simp only[intOf];omega⟩
  ·obtain rfl:i=n:=by omega
   go_wp2
   go_ret
   exact⟨rfl,rfl⟩
theorem l5zeros_any(n:Nat)(hn:n≤1000000)(w:World) :
  Calls Tryz.prog 51 #[.int .i64 (n:Int)] w fun e w'=>e=.returned (.string ⟨(zerosL n).toArray⟩)∧Below w.heap.size w w':=by
 refine(l5zeros_at n hn w).mono ?_
 rintro e w' ⟨rfl,rfl⟩
 exact⟨rfl,(Below.refl _ _).alloc (Nat.le_refl _) _⟩
set_option maxHeartbeats 1000000 in
set_option maxRecDepth 100000 in
theorem l5plain_mid(ds:ByteArray)(k:Nat)(hs:ds.size≤1100)(hk:0<k)(hk2:k<ds.size)(w:World) :
  Calls Tryz.prog 89 #[.agg #[.string ds,.int .i64 (k:Int)]] w fun e w'=>e=.returned (.string (ds.extract 0 k++dotB++ds.extract k ds.size))∧Below w.heap.size w w':=by
 have hs':(ds.size:Int)≤1100:=by omega
 go_enter Tryz.func89,Tryz.ntmps89
 go_wp2
 go_quiet (fail)
 go_wp2
 go_ret
 exact⟨rfl,below_drewN ((Below.refl _ _).alloc (Nat.le_refl _) _) _⟩
theorem zeros_int(x:Int)(h0:0≤x)(h1:x≤100000)(w:World):Calls Tryz.prog 51 #[.int .i64 x] w fun e w'=>e=.returned (.string (zerosB x.toNat))∧w'=w.alloc (.cells (tcells (zerosL x.toNat) x.toNat).toArray 5):=by
 have:=l5zeros_at x.toNat (by omega) w
 rw[Int.toNat_of_nonneg h0]at this
 exact this
set_option maxHeartbeats 4000000 in
set_option maxRecDepth 100000 in
theorem l5plain_low(ds:ByteArray)(p:Int)(hs:ds.size≤1100)(hp:p≤0)(hp2:-1100≤p)(w:World) :
  Calls Tryz.prog 89 #[.agg #[.string ds,.int .i64 p]] w fun e w'=>e=.returned (.string (⟨#[48,46]⟩++zerosB (-p).toNat++ds))∧Below w.heap.size w w':=by
 have HZ:Hid (∀w,Calls Tryz.prog 51 #[.int .i64 (IntKind.i64.wrap (-p))] w fun e w'=>e=.returned (.string (zerosB (-p).toNat))∧w'=w.alloc (.cells (tcells (zerosL (-p).toNat) (-p).toNat).toArray 5)):=fun w=>by
  rw[show IntKind.i64.wrap (-p) = -p by rw[IntKind.wrap_i64];omega]
  exact zeros_int (-p) (by omega) (by omega) w
 have hzs:((zerosB (-p).toNat).size:Int)≤1100:=by rw[zerosB_size];omega
 have hs':(ds.size:Int)≤1100:=by omega
 generalize zerosB (-p).toNat=Z at *
 generalize (tcells (zerosL (-p).toNat) (-p).toNat).toArray=C at *
 clear hs
 go_enter Tryz.func89,Tryz.ntmps89
 go_wp2
 go_region_with (go_at_call 51;refine(HZ.out _).mono ?_;rintro e w' ⟨rfl,rfl⟩)
 all_goals
  go_wp2
  go_ret
  exact⟨rfl,(by repeat (first|with_reducible exact Below.refl _ _|with_reducible refine Below.alloc ?_ (by simp<;>omega) _|with_reducible refine Below.drew ?_|with_reducible refine below_drewN ?_ _|with_reducible refine Below.setCell ?_ (by simp<;>omega) _))⟩
set_option maxHeartbeats 4000000 in
set_option maxRecDepth 100000 in
theorem l5plain_high(ds:ByteArray)(p:Int)(hs:ds.size≤1100)(hp:(ds.size:Int)≤p)(hp0:0<p)(hp2:p≤1100)(w:World) :
  Calls Tryz.prog 89 #[.agg #[.string ds,.int .i64 p]] w fun e w'=>e=.returned (.string (ds++zerosB (p.toNat-ds.size)))∧Below w.heap.size w w':=by
 have HZ:Hid (∀w,Calls Tryz.prog 51 #[.int .i64 (IntKind.i64.wrap (p-(ds.size:Int)))] w fun e w'=>e=.returned (.string (zerosB (p.toNat-ds.size)))∧w'=w.alloc (.cells (tcells (zerosL (p.toNat-ds.size)) (p.toNat-ds.size)).toArray 5)):=fun w=>by
  rw[show IntKind.i64.wrap (p-(ds.size:Int))=p-(ds.size:Int) by rw[IntKind.wrap_i64];omega]
  have:=zeros_int (p-(ds.size:Int)) (by omega) (by omega) w
  rw[show(p-(ds.size:Int)).toNat=p.toNat-ds.size by omega]at this
  exact this
 have hzs:((zerosB (p.toNat-ds.size)).size:Int)≤1100:=by rw[zerosB_size];omega
 have hs':(ds.size:Int)≤1100:=by omega
 generalize zerosB (p.toNat-ds.size)=Z at *
 generalize (tcells (zerosL (p.toNat-ds.size)) (p.toNat-ds.size)).toArray=C at *
 clear hs
 go_enter Tryz.func89,Tryz.ntmps89
 go_wp2
 go_region_with (go_at_call 51;refine(HZ.out _).mono ?_;rintro e w' ⟨rfl,rfl⟩)
 all_goals
  go_wp2
  go_ret
  exact⟨rfl,(by repeat (first|with_reducible exact Below.refl _ _|with_reducible refine Below.alloc ?_ (by simp<;>omega) _|with_reducible refine Below.drew ?_|with_reducible refine below_drewN ?_ _|with_reducible refine Below.setCell ?_ (by simp<;>omega) _))⟩
theorem l5plain_any(ds:ByteArray)(p:Int)(hs:ds.size≤1100)(hp:-1100≤p)(hp2:p≤1100)(w:World) :
  Calls Tryz.prog 89 #[.agg #[.string ds,.int .i64 p]] w fun e w'=>e=.returned (.string (plainB ds p))∧Below w.heap.size w w':=by
 unfold plainB
 by_cases h1:p≤0
 ·rw[if_pos h1];exact l5plain_low ds p hs h1 hp w
 ·rw[if_neg h1]
  by_cases h2:(ds.size:Int)≤p
  ·rw[if_pos h2];exact l5plain_high ds p hs h2 (by omega) hp2 w
  ·rw[if_neg h2]
   have:=l5plain_mid ds p.toNat hs (by omega) (by omega) w
   rw[Int.toNat_of_nonneg (by omega)]at this
   exact this
end Go.Proofs.YtenbfookfcmpoaaGreatDoor
