import Derived.WalkKit
import Derived.Test.YtenbfookfcmpoaaGreatDoorProg
import Derived.WalkSpells
import Derived.WalkLawsBesides
import Derived.Outline
import Derived.BigQuiet
import Derived.Deep.QuietTactic
namespace Go.Proofs.YtenbfookfcmpoaaGreatDoor
open Go.RowKit
def bval:List Nat→Nat
 | []=>0
 | x :: r=>x+4294967296*bval r
def Lim(ls:List Nat):Prop:=∀x∈ls,x<4294967296
def btrim:List Nat→List Nat
 | []=>[]
 | x :: r=>if btrim r = []∧x=0 then [] else x :: btrim r
theorem bval_append(a b:List Nat):bval (a++b)=bval a+4294967296 ^ a.length*bval b:=by
 induction a with
 | nil=>simp[bval]
 | cons x r ih=>
  simp only[List.cons_append,bval,ih,List.length_cons,Nat.pow_succ,Nat.mul_add]
  rw[←Nat.mul_assoc,Nat.mul_comm 4294967296 (4294967296 ^ r.length)]
  omega
theorem bval_trim(a:List Nat):bval (btrim a)=bval a:=by
 induction a with
 | nil=>rfl
 | cons x r ih=>
  unfold btrim
  split
  ·rename_i h
   rw[h.1]at ih
   simp only[bval]at ih ⊢
   omega
  ·simp only[bval,ih]
theorem btrim_length(a:List Nat):(btrim a).length≤a.length:=by
 induction a with
 | nil=>exact Nat.le_refl _
 | cons x r ih=>
  unfold btrim
  split<;>simp<;>omega
theorem btrim_prefix(a:List Nat):btrim a=a.take (btrim a).length:=by
 induction a with
 | nil=>rfl
 | cons x r ih=>
  unfold btrim
  split
  ·simp
  ·simp only[List.length_cons,List.take_succ_cons];rw[←ih]
theorem btrim_lim{a:List Nat}(h:Lim a):Lim (btrim a):=by
 intro x hx
 rw[btrim_prefix]at hx
 exact h x (List.mem_of_mem_take hx)
theorem btrim_snoc_zero(a:List Nat):btrim (a++[0])=btrim a:=by
 induction a with
 | nil=>simp[btrim]
 | cons x r ih=>simp only[List.cons_append,btrim,ih]
theorem btrim_snoc(a:List Nat)(x:Nat)(hx:x≠0):btrim (a++[x])=a++[x]:=by
 induction a with
 | nil=>simp[btrim,hx]
 | cons y r ih=>simp[btrim,ih]
def Trim(ls:List Nat):Prop:=btrim ls=ls
theorem btrim_trim(a:List Nat):Trim (btrim a):=by
 unfold Trim
 induction a with
 | nil=>rfl
 | cons x r ih=>
  by_cases h:btrim r = []∧x=0
  ·simp[btrim,h]
  ·have e:btrim (x :: r)=x :: btrim r:=by simp only[btrim];rw[if_neg h]
   rw[e]
   simp only[btrim,ih]
   rw[if_neg h]
theorem part_snoc(a:List Nat)(k:Nat)(h:k<a.length):a.take (k+1)=a.take k++[a.getD k 0]:=by
 rw[List.take_add_one,List.getElem?_eq_getElem h]
 simp[List.getElem?_eq_getElem h]
theorem trim_take_zero(a:List Nat)(k:Nat)(h:k<a.length)(hz:a.getD k 0=0):btrim (a.take (k+1))=btrim (a.take k):=by
 rw[part_snoc a k h,hz,btrim_snoc_zero]
theorem trim_take_some(a:List Nat)(k:Nat)(h:k<a.length)(hz:a.getD k 0≠0):btrim (a.take (k+1))=a.take (k+1):=by
 rw[part_snoc a k h,btrim_snoc _ _ hz]
theorem bval_lt{a:List Nat}(h:Lim a):bval a<4294967296 ^ a.length:=by
 induction a with
 | nil=>simp[bval]
 | cons x r ih=>
  have hx:=h x (by simp)
  have hr:=ih fun y hy=>h y (by simp[hy])
  simp only[bval,List.length_cons,Nat.pow_succ]
  generalize 4294967296 ^ r.length=q at *
  omega
theorem trim_last{a:List Nat}(ht:Trim a)(hn:a≠[]):4294967296 ^ (a.length-1)≤bval a∧a.getD (a.length-1) 0≠0:=by
 induction a with
 | nil=>exact absurd rfl hn
 | cons x r ih=>
  by_cases hr:r = []
  ·subst hr
   unfold Trim at ht
   by_cases hx:x=0
   ·subst hx;simp[btrim]at ht
   ·simp[bval,hx];omega
  ·have htr:Trim r:=by
    unfold Trim at ht ⊢
    by_cases h:btrim r = []∧x=0
    ·simp only[btrim]at ht;rw[if_pos h]at ht;cases ht
    ·simp only[btrim]at ht;rw[if_neg h]at ht;exact(List.cons.inj ht).2
   obtain⟨i1,i2⟩:=ih htr hr
   have hl:0<r.length:=List.length_pos_iff.2 hr
   obtain⟨n,hn'⟩:∃n,r.length=n+1:=⟨r.length-1,by omega⟩
   constructor
   ·simp only[bval,List.length_cons,Nat.add_sub_cancel]
    rw[hn']at i1 ⊢
    rw[Nat.add_sub_cancel]at i1
    rw[Nat.pow_succ]
    omega
   ·rw[List.length_cons,Nat.add_sub_cancel,hn']
    rw[hn',Nat.add_sub_cancel]at i2
    simpa using i2
theorem trim_nil_iff{a:List Nat}(ht:Trim a):a = []↔bval a=0:=by
 constructor
 ·rintro rfl;rfl
 ·intro h
  apply Classical.byContradiction
  intro hn
  have:=(trim_last ht hn).1
  have:=Nat.pow_pos (n:=a.length-1) (show 0<4294967296 by omega)
  omega
theorem take_val(a:List Nat)(k:Nat)(h:k<a.length):bval (a.take (k+1))=bval (a.take k)+4294967296 ^ k*a.getD k 0:=by
 rw[part_snoc a k h,bval_append,List.length_take,Nat.min_eq_left (by omega)]
 simp[bval]
end Go.Proofs.YtenbfookfcmpoaaGreatDoor
namespace Go.Proofs.YtenbfookfcmpoaaGreatDoor
open Go.ChangeShapes Go.WideShapes Go.RowKit
def Row(w:World)(v:Value)(ls:List Nat):Prop:=∃ (ao:Option Addr) (cap:Nat),v=.slice ao ls.length cap∧ls.length≤cap∧cap≤maxLen ∧
 ((ao=none∧cap=0)∨∃g,ao=some ⟨g,0,none⟩∧g<w.heap.size∧∀t,t<ls.length→w.cell? ⟨g,t,none⟩=some (.int .u64 (ls.getD t 0:Nat)))
theorem Row.below{w w':World}{v:Value}{ls:List Nat}(h:Row w v ls){B:Nat}(hb:Below B w w')(hB:w.heap.size≤B):Row w' v ls:=by
 obtain⟨ao,cap,hv,h1,h2,h3⟩:=h
 refine⟨ao,cap,hv,h1,h2,?_⟩
 rcases h3 with h3|⟨g,hg,hl,hc⟩
 ·exact .inl h3
 ·exact .inr ⟨g,hg,Nat.lt_of_lt_of_le hl hb.size,fun t ht=>(hb.cell (by show g<B;omega)).trans (hc t ht)⟩
theorem Row.of_owns{w:World}{base e:Nat}{v:Value}{ls:List Nat}(h:w.ownsRow base e 1 v ls.length (ls.map fun x=>Value.int .u64 (x:Nat))):Row w v ls:=by
 obtain⟨_,h⟩:=h
 rcases h with⟨rfl,hn⟩|⟨g,cap,cur,rfl,hb,hh,h1,h2,h3,h4⟩
 ·exact⟨none,0,by rw[hn],by omega,by unfold maxLen;omega,.inl ⟨rfl,rfl⟩⟩
 ·refine⟨_,cap,rfl,h1,h2,.inr ⟨g,rfl,?_,?_⟩⟩
  ·exact(Array.getElem?_eq_some_iff.1 hh).1
  ·intro t ht
   have hc:cur[t]? = some (.int .u64 (ls.getD t 0:Nat)):=by
    rw[Nat.mul_one]at h4
    rw[←Array.getElem?_toList]
    have:(cur.toList.take ls.length)[t]? = cur.toList[t]?:=List.getElem?_take_of_lt ht
    rw[←this,h4]
    simp[List.getElem?_eq_getElem ht]
   simp only[World.cell?,hh]
   simpa using hc
theorem Row.cut{w:World}{g cap k:Nat}{ls:List Nat}(h1:ls.length≤cap)(h2:cap≤maxLen)(hg:g<w.heap.size)
  (hc:∀t,t<ls.length→w.cell? ⟨g,t,none⟩=some (.int .u64 (ls.getD t 0:Nat))) (hk:k≤ls.length):Row w (.slice (some ⟨g,0,none⟩) k cap) (ls.take k):=by
 have hl:(ls.take k).length=k:=by rw[List.length_take];omega
 refine⟨_,cap,by rw[hl],by omega,h2,.inr ⟨g,rfl,hg,fun t ht=>?_⟩⟩
 rw[hl]at ht
 rw[hc t (by omega)]
 simp[List.getElem?_take_of_lt ht]
theorem Row.nil(w:World):Row w (.slice none 0 0) []:=⟨none,0,rfl,Nat.le_refl _,by unfold maxLen;omega,.inl ⟨rfl,rfl⟩⟩
set_option maxHeartbeats 400000 in
theorem l0trim_any(ls:List Nat)(v:Value)(w:World)(h:Row w v ls) :
  Calls Tryz.prog 139 #[v] w fun e w'=>w'=w∧∃v',e=.returned v'∧Row w v' (btrim ls):=by
 obtain⟨ao,cap,rfl,h1,h2,h3⟩:=h
 rcases h3 with⟨rfl,rfl⟩|⟨g,rfl,hg,hc⟩
 ·obtain rfl:ls = []:=List.length_eq_zero_iff.1 (by omega)
  go_enter Tryz.func139,Tryz.ntmps139
  go_wp2
  go_loop [3] (fun n=>n=.int .i64 0) (fun n=>(intOf n).toNat)
  case atStart=>rfl
  case round=>
   obtain rfl:=hrel
   go_wp2
   go_ret
   exact⟨rfl,_,rfl,Row.nil w⟩
 ·go_enter Tryz.func139,Tryz.ntmps139
  go_wp2
  go_loop [3] (fun n=>∃k:Nat,n=.int .i64 k∧k≤ls.length∧Hid (btrim ls=btrim (ls.take k))) (fun n=>(intOf n).toNat)
  case atStart=>exact⟨ls.length,rfl,Nat.le_refl _,by show _=_;rw[List.take_length]⟩
  case round=>
   obtain⟨k,rfl,hk,HK⟩:=hrel
   have HC:Hid (∀t,t<ls.length→w.cell? ⟨g,t,none⟩=some (.int .u64 (ls.getD t 0:Nat))):=hc
   clear hc
   have hcap:cap≤9223372036854775807:=h2
   cases k with
   | zero=>
    go_wp2
    go_ret
    exact⟨rfl,_,rfl,by rw[HK.out];exact Row.cut h1 h2 hg HC.out (Nat.zero_le _)⟩
   | succ k=>
    have hx:=HC.out k (by omega)
    by_cases hz:ls.getD k 0=0
    ·have HK2:Hid (btrim ls=btrim (ls.take k)):=HK.out.trans (trim_take_zero ls k (by omega) hz)
     rw[hz]at hx
     go_wp2
     exact⟨⟨k,rfl,by omega,HK2⟩,by simp only[intOf];omega⟩
    ·have HK2:Hid (btrim ls=ls.take (k+1)):=HK.out.trans (trim_take_some ls k (by omega) hz)
     generalize ls.getD k 0=x at *
     go_wp2
     go_ret
     exact⟨rfl,_,rfl,by rw[HK2.out];exact Row.cut h1 h2 hg HC.out hk⟩
theorem Tryz.infoU:(Tryz.prog.info? 44).map (fun i=>(i.zero,i.size,i.bytes))=some (some (.int .u64 0),1,8):=by kernel_rfl
theorem prod_lt(x m c:Nat)(hx:x<4294967296)(hm:m<4294967296)(hc:c<4294967296):c+x*m<18446744073709551616:=by
 have h:x*m≤4294967295*4294967295:=Nat.mul_le_mul (by omega) (by omega)
 omega
theorem and_low(c x m:Nat)(h:c+x*m<18446744073709551616):bits .and .u64 ((c:Int)+(x:Int)*(m:Int)) 4294967295=(((c+x*m) % 4294967296:Nat):Int):=by
 have h':(c:Int)+(x:Int)*(m:Int)=((c+x*m:Nat):Int):=by rw[Int.natCast_add,Int.natCast_mul]
 rw[h']
 generalize c+x*m=y at *
 rw[u64_and (y:Int) 4294967295 (by omega) (by omega) (by omega) (by omega),Int.toNat_natCast]
 have e:(4294967295:Int).toNat=2 ^ 32-1:=rfl
 rw[e,Nat.and_two_pow_sub_one_eq_mod]
theorem shr_low(c x m:Nat):((c:Int)+(x:Int)*(m:Int)) / 4294967296=(((c+x*m) / 4294967296:Nat):Int):=by
 rw[Int.natCast_ediv,Int.natCast_add,Int.natCast_mul];rfl
theorem mul_round(ls os:List Nat)(m c c0 k:Nat)(hk:k<ls.length)(ho:os.length=k)(hx:ls.getD k 0<4294967296)(hm:m<4294967296)(hc:c<4294967296)(hL:Lim os)
  (hv:bval os+4294967296 ^ k*c=bval (ls.take k)*m+c0) :
  Lim (os++[(c+ls.getD k 0*m) % 4294967296])∧(c+ls.getD k 0*m) / 4294967296<4294967296 ∧
  bval (os++[(c+ls.getD k 0*m) % 4294967296])+4294967296 ^ (k+1)*((c+ls.getD k 0*m) / 4294967296)=bval (ls.take (k+1))*m+c0:=by
 have hp:=prod_lt (ls.getD k 0) m c hx hm hc
 refine⟨?_,by omega,?_⟩
 ·intro y hy
  rcases List.mem_append.1 hy with h|h
  ·exact hL y h
  ·rw[List.mem_singleton.1 h];omega
 ·rw[take_val ls k hk,bval_append,ho,Nat.add_mul,Nat.pow_succ]
  have hd:=Nat.div_add_mod (c+ls.getD k 0*m) 4294967296
  have e1:4294967296 ^ k*ls.getD k 0*m=4294967296 ^ k*(ls.getD k 0*m):=Nat.mul_assoc _ _ _
  generalize ls.getD k 0*m=p at *
  rw[e1]
  generalize (c+p) / 4294967296=q at *
  generalize (c+p) % 4294967296=r at *
  generalize 4294967296 ^ k=z at *
  have e2:z*4294967296*q+z*r=z*c+z*p:=by
   rw[Nat.mul_assoc,←Nat.mul_add,hd,Nat.mul_add]
  simp only[bval]
  rw[Nat.mul_zero,Nat.add_zero]
  omega
theorem mul_end(ls os:List Nat)(m c c0:Nat)(ho:os.length=ls.length)(hc:c<4294967296)(hL:Lim os)
  (hv:bval os+4294967296 ^ ls.length*c=bval (ls.take ls.length)*m+c0):Lim (os++[c])∧bval (os++[c])=bval ls*m+c0:=by
 refine⟨?_,?_⟩
 ·intro y hy
  rcases List.mem_append.1 hy with h|h
  ·exact hL y h
  ·rw[List.mem_singleton.1 h];omega
 ·rw[bval_append,ho]
  rw[List.take_length]at hv
  simpa [bval] using hv
theorem own_step{B n:Nat}{w wr w1:World}{e f:Nat}{u v:Value}{os:List Nat}{r:Nat}{o:Obj}(ho:os.length=n)(hown:wr.ownsRow B e 1 u n (os.map fun x=>Value.int .u64 (x:Nat)))(hbe:Below B w wr)(hB:B≤w.heap.size)
  (h1:w1.ownsRow B f 1 v (n+1) ((os.map fun x=>Value.int .u64 (x:Nat))++[Value.int .u64 (r:Nat)])) (hg:(wr.alloc o).grownBy w1 u.ownBlock) :
  w1.ownsRow B f 1 v (os++[r]).length ((os++[r]).map fun x=>Value.int .u64 (x:Nat))∧Below B w w1:=by
 have hs:B≤wr.heap.size:=Nat.le_trans hB hbe.size
 refine⟨by simpa [ho] using h1,(hbe.alloc hs o).grown hg (by simp;omega) ?_⟩
 intro k hk
 obtain⟨_,h⟩:=hown
 rcases h with⟨rfl,_⟩|⟨g,cap,cur,rfl,hb,_⟩
 ·simp[Value.ownBlock]at hk
 ·simp[Value.ownBlock]at hk;omega
def Big(w:World)(v:Value)(A:Nat):Prop:=∃ls,Row w v ls∧Lim ls∧Trim ls∧bval ls=A
theorem Big.of_trim{w:World}{v:Value}{ls:List Nat}(h:Row w v (btrim ls))(hl:Lim ls){A:Nat}(hv:bval ls=A):Big w v A:=
 ⟨btrim ls,h,btrim_lim hl,btrim_trim ls,by rw[bval_trim,hv]⟩
theorem Big.below{w w':World}{v:Value}{A:Nat}(h:Big w v A){B:Nat}(hb:Below B w w')(hB:w.heap.size≤B):Big w' v A:=by
 obtain⟨ls,h1,h2⟩:=h
 exact⟨ls,h1.below hb hB,h2⟩
set_option maxHeartbeats 1600000 in
set_option maxRecDepth 100000 in
theorem l0mul_block(ls:List Nat)(g cap m c0:Nat)(w:World)(hg:g<w.heap.size)
  (hcl:∀t,t<ls.length→w.cell? ⟨g,t,none⟩=some (.int .u64 (ls.getD t 0:Nat))) (hL:Lim ls) (hm:m<4294967296) (hc:c0<4294967296) (hlen:ls.length<1000000) :
  Calls Tryz.prog 111 #[.slice (some ⟨g,0,none⟩) ls.length cap,.int .u64 m,.int .u64 c0] w fun e w'=>∃v',e=.returned v'∧Below w.heap.size w w'∧Big w' v' (bval ls*m+c0):=by
 obtain⟨i0,hi,hz0,hz1,hz2⟩:=info_parts Tryz.infoU
 have HC:Hid (∀t,t<ls.length→w.cell? ⟨g,t,none⟩=some (.int .u64 (ls.getD t 0:Nat))):=hcl
 have HL:Hid (Lim ls):=hL
 clear hcl hL
 go_enter Tryz.func111,Tryz.ntmps111
 go_wp2
 go_loopw [2,7,12] (fun cv v i wr=>∃ (k c:Nat) (os:List Nat),k≤ls.length∧i=.int .i64 k∧cv=.int .u64 c∧c<4294967296∧os.length=k∧Hid (Lim os) ∧
   Hid (bval os+4294967296 ^ k*c=bval (ls.take k)*m+c0)∧wr.ownsRow w.heap.size 44 1 v os.length (os.map fun x=>Value.int .u64 (x:Nat))∧Below w.heap.size w wr)
  (fun _ _ i _=>ls.length-(intOf i).toNat)
 case atStart=>exact⟨0,c0,[],Nat.zero_le _,rfl,rfl,hc,rfl,fun _ h=>absurd h (by simp),by show bval []+4294967296 ^ 0*c0=bval (ls.take 0)*m+c0;simp[bval],World.ownsRow_nil _ _ _ _,Below.refl _ _⟩
 case round=>
  obtain⟨k,c,os,hk,rfl,rfl,hc',ho,HO,HV,hown,hbe⟩:=hrel
  by_cases hlt:k<ls.length
  ·have hx:wr.cell? ⟨g,k,none⟩=some (.int .u64 (ls.getD k 0:Nat)):=(hbe.cell hg).trans (HC.out k hlt)
   have hxl:ls.getD k 0<4294967296:=by
    have:ls.getD k 0=ls[k]:=by simp[List.getElem?_eq_getElem hlt]
    rw[this];exact HL.out _ (List.getElem_mem hlt)
   have hp:=prod_lt (ls.getD k 0) m c hxl hm hc'
   have HR:Hid _:=mul_round ls os m c c0 k hlt ho hxl hm hc' HO.out HV.out
   generalize ls.getD k 0=x at *
   clear HV
   have hand:=and_low c x m hp
   have hq:=shr_low c x m
   generalize hr:(c+x*m) % 4294967296=r at *
   generalize hQ:(c+x*m) / 4294967296=q at *
   go_wp2_with (first
    | (at_builtin;refine wpList_append_own _ rfl _ _ 143 rfl w.heap.size 44 i0 (.int .u64 0) 1 8 Tryz.underlying143 hi hz0 hz1 hz2 rfl (by decide) _ _ _ rfl (hown.alloc _) ⟨wr.heap.size,0,none⟩ 1 1 [.int .u64 r] rfl rfl ?c1 ?c2 ?c3 ?c4 ?c5 ?_)
    | go_in)
   case c1=>
    intro j u hj
    match j,hj with
    | 0,hj=>simp at hj;subst hj;simp[Addr.add]
   case c2=>intro u hu;simp at hu;subst hu;rfl
   case c3=>unfold maxLen;omega
   case c4=>omega
   case c5=>have:=hbe.size;simp;omega
   ·intro v' w1 hown' hgrow _
    have R:=own_step ho (by rw[←ho];exact hown) hbe (Nat.le_refl _) hown' hgrow
    clear hown' hgrow hown
    go_wp2
    go_roundw
    case rel=>exact⟨k+1,q,os++[r],by omega,by simp,rfl,HR.out.2.1,by simp[ho],HR.out.1,HR.out.2.2,R.1,R.2⟩
    case measure=>simp[intOf];omega
  ·obtain rfl:k=ls.length:=by omega
   have HE:Hid _:=mul_end ls os m c c0 ho hc' HO.out HV.out
   clear HV
   go_wp2_with (first
    | (at_builtin;refine wpList_append_own _ rfl _ _ 143 rfl w.heap.size 44 i0 (.int .u64 0) 1 8 Tryz.underlying143 hi hz0 hz1 hz2 rfl (by decide) _ _ _ rfl (hown.alloc _) ⟨wr.heap.size,0,none⟩ 1 1 [.int .u64 c] rfl rfl ?d1 ?d2 ?d3 ?d4 ?d5 ?_)
    | go_in)
   case d1=>
    intro j u hj
    match j,hj with
    | 0,hj=>simp at hj;subst hj;simp[Addr.add]
   case d2=>intro u hu;simp at hu;subst hu;rfl
   case d3=>unfold maxLen;omega
   case d4=>omega
   case d5=>have:=hbe.size;simp;omega
   ·intro v' w1 hown' hgrow _
    have R:=own_step ho (by rw[←ho];exact hown) hbe (Nat.le_refl _) hown' hgrow
    have HR:Hid (Row w1 v' (os++[c])):=Row.of_owns R.1
    have HB:Hid (Below w.heap.size w w1):=R.2
    clear hown' hgrow hown R
    go_wp2_with (go_at_call 139;refine(l0trim_any (os++[c]) v' _ HR.out).mono ?_;rintro e w2 ⟨rfl,v2,rfl,hv2⟩)
    go_ret
    exact⟨_,rfl,HB.out,Big.of_trim hv2 HE.out.1 HE.out.2⟩
set_option maxHeartbeats 1600000 in
set_option maxRecDepth 100000 in
theorem l0mul_nil(m c0:Nat)(w:World)(hc:c0<4294967296) :
  Calls Tryz.prog 111 #[.slice none 0 0,.int .u64 m,.int .u64 c0] w fun e w'=>∃v',e=.returned v'∧Below w.heap.size w w'∧Big w' v' c0:=by
 obtain⟨i0,hi,hz0,hz1,hz2⟩:=info_parts Tryz.infoU
 go_enter Tryz.func111,Tryz.ntmps111
 go_wp2
 go_loop [2,7,12] (fun cv v i=>cv=.int .u64 c0∧i=.int .i64 0∧w.ownsRow w.heap.size 44 1 v 0 (([]:List Nat).map fun x=>Value.int .u64 (x:Nat))) (fun _ _ _=>0)
 case atStart=>exact⟨rfl,rfl,World.ownsRow_nil _ _ _ _⟩
 case round=>
  obtain⟨rfl,rfl,hown⟩:=hrel
  go_wp2_with (first
   | (at_builtin;refine wpList_append_own _ rfl _ _ 143 rfl w.heap.size 44 i0 (.int .u64 0) 1 8 Tryz.underlying143 hi hz0 hz1 hz2 rfl (by decide) _ _ _ rfl (hown.alloc _) ⟨w.heap.size,0,none⟩ 1 1 [.int .u64 c0] rfl rfl ?d1 ?d2 ?d3 ?d4 ?d5 ?_)
   | go_in)
  case d2=>first|rfl|(intro u hu;simp at hu;subst hu;rfl)
  case d3=>first|decide|(unfold maxLen;omega)
  ·intro v' w1 hown' hgrow _
   have R:=own_step (os:=[]) rfl hown (Below.refl _ w) (Nat.le_refl _) hown' hgrow
   have HR:Hid (Row w1 v' ([]++[c0])):=Row.of_owns R.1
   have HB:Hid (Below w.heap.size w w1):=R.2
   clear hown' hgrow hown R
   go_wp2_with (go_at_call 139;refine(l0trim_any ([]++[c0]) v' _ HR.out).mono ?_;rintro e w2 ⟨rfl,v2,rfl,hv2⟩)
   go_ret
   exact⟨_,rfl,HB.out,Big.of_trim hv2 (fun y hy=>by simp at hy;omega) (by simp[bval])⟩
theorem l0mul_any(ls:List Nat)(v:Value)(m c0:Nat)(w:World)(h:Row w v ls)(hL:Lim ls)(hm:m<4294967296)(hc:c0<4294967296)(hlen:ls.length<1000000) :
  Calls Tryz.prog 111 #[v,.int .u64 m,.int .u64 c0] w fun e w'=>∃v',e=.returned v'∧Below w.heap.size w w'∧Big w' v' (bval ls*m+c0):=by
 obtain⟨ao,cap,rfl,h1,h2,h3⟩:=h
 rcases h3 with⟨rfl,rfl⟩|⟨g,rfl,hg,hcl⟩
 ·obtain rfl:ls = []:=List.length_eq_zero_iff.1 (by omega)
  refine(l0mul_nil m c0 w hc).mono ?_
  rintro e w' ⟨v',rfl,hb,hv⟩
  exact⟨v',rfl,hb,by simpa [bval] using hv⟩
 ·exact l0mul_block ls g cap m c0 w hg hcl hL hm hc hlen
end Go.Proofs.YtenbfookfcmpoaaGreatDoor
