import Derived.Test.YtenbfookfcmpoaaGreatDoorF20
namespace Go.Proofs.YtenbfookfcmpoaaGreatDoor
open Go.ChangeShapes Go.WideShapes Go.RowKit
set_option maxHeartbeats 400000 in
theorem specDigit_any(c:Int)(w:World)(h0:0≤c)(h1:c≤255) :
  Calls Tryz.prog 84 #[.int .u8 c] w fun e w'=>e=.returned (.int .i64 (digN 99 c))∧w'=w:=by
 by_cases ha:48≤c∧c≤57
 ·have hv:digN 99 c=c-48:=by unfold digN;rw[if_pos ha]
  rw[hv];clear hv
  obtain⟨ha,hb⟩:=ha
  go_enter Tryz.func84,Tryz.ntmps84
  go_wp2
  go_ret
  exact⟨rfl,rfl⟩
 ·by_cases hb:97≤c∧c≤122
  ·have hv:digN 99 c=c-97+10:=by unfold digN;rw[if_neg ha,if_pos hb]
   rw[hv];clear hv
   obtain⟨hb,hc⟩:=hb
   have hd:57<c:=by omega
   clear ha
   go_enter Tryz.func84,Tryz.ntmps84
   go_wp2
   go_ret
   exact⟨rfl,rfl⟩
  ·have hv:digN 99 c=99:=by unfold digN;rw[if_neg ha,if_neg hb]
   rw[hv];clear hv
   go_enter Tryz.func84,Tryz.ntmps84
   go_wp2
   all_goals (try (exfalso;omega))
   all_goals
    go_ret
    exact⟨rfl,rfl⟩
theorem specDigit_byte(c:UInt8)(w:World) :
  Calls Tryz.prog 84 #[.int .u8 c.toNat] w fun e w'=>e=.returned (.int .i64 (digN 99 c.toNat))∧w'=w:=
 specDigit_any _ w (by omega) (by have:=c.toNat_lt;omega)
set_option maxHeartbeats 1600000 in
set_option maxRecDepth 100000 in
theorem l4big_any(s:ByteArray)(b:Nat)(w:World)(hs:s.size<900000)(hb:b≤4000000000) :
  Calls Tryz.prog 77 #[.string s,.int .u64 (b:Int)] w fun e w'=>∃v',e=.returned v'∧Below w.heap.size w w'∧Big w' v' (valN b s.data.toList):=by
 have HL:Hid _:=fun k=>valN_take_lt b hb s k
 go_enter Tryz.func77,Tryz.ntmps77
 go_wp2
 go_loopw [5,6] (fun v i wr=>∃k:Nat,i=.int .i64 (k:Int)∧k≤s.size∧Hid (Big wr v (valN b (s.data.toList.take k)))∧Below w.heap.size w wr) (fun _ i _=>(s.size-(intOf i).toNat))
 case atStart=>exact⟨0,rfl,Nat.zero_le _,by show Big _ _ _;rw[List.take_zero];exact⟨[],Row.nil w,fun _ h=>absurd h (by simp),rfl,by simp[bval,valN,val]⟩,Below.refl _ _⟩
 case round=>
  obtain⟨k,rfl,hk,HV,hbe⟩:=hrel
  have hsz:=hbe.size
  by_cases hlt:k<s.size
  ·obtain⟨d,hd⟩:∃d:Nat,(d:Int)=digN 99 (s[k].toNat:Int):=⟨(digN 99 (s[k].toNat:Int)).toNat,Int.toNat_of_nonneg (digN_lo 99 _ (by omega))⟩
   have hd99:(d:Int)≤99:=by rw[hd];exact digN_hi 99 _ (by omega)
   have HD:Hid (∀w,Calls Tryz.prog 84 #[.int .u8 (s[k].toNat:Int)] w fun e w'=>e=.returned (.int .i64 (d:Int))∧w'=w):=fun w=>by
    have h:=specDigit_byte s[k] w
    rw[←hd]at h
    exact h
   have HS:Hid _:=valN_step b s k hlt d hd
   have HM:Hid _:=fun v wr (hb':Big wr v (valN b (s.data.toList.take k)))=>l0mul_big v (valN b (s.data.toList.take k)) b d s.size wr hb' (HL.out k) (by omega) (by omega) (by omega)
   clear hd
   go_wp2_with (first
    | (go_at_call 84;refine(HD.out _).mono ?_;rintro e w' ⟨rfl,rfl⟩)
    | (go_at_call 111;refine(HM.out _ _ HV.out).mono ?_;rintro e w3 ⟨v3,rfl,hb3,hv3⟩))
   go_roundw
   case rel=>exact⟨k+1,by simp,by omega,by show Big _ _ _;rw[HS.out];exact hv3,hbe.trans (hb3.mono hsz)⟩
   case measure=>simp only[intOf];omega
  ·obtain rfl:k=s.size:=by omega
   have e:s.data.toList.take s.size=s.data.toList:=List.take_of_length_le (by simp)
   have HV':Hid _:=fun(_:Unit)=>HV.out
   rw[e]at HV'
   go_wp2
   go_ret
   exact⟨_,rfl,hbe,HV'.out ()⟩
theorem sub_round(ls ms os:List Nat)(c k:Nat)(hk:k<ls.length)(ho:os.length=k)(hL:Lim os)
  (hv:bval os+bval (ms.take k)=bval (ls.take k)+4294967296 ^ k*c) (r d:Nat) (hr:r+(c+ms.getD k 0)=ls.getD k 0+4294967296*d) (hr2:r<4294967296) :
  Lim (os++[r])∧bval (os++[r])+bval (ms.take (k+1))=bval (ls.take (k+1))+4294967296 ^ (k+1)*d:=by
 refine⟨?_,?_⟩
 ·intro y hy
  rcases List.mem_append.1 hy with h|h
  ·exact hL y h
  ·rw[List.mem_singleton.1 h];omega
 ·have hms:bval (ms.take (k+1))=bval (ms.take k)+4294967296 ^ k*ms.getD k 0:=by
   by_cases h:k<ms.length
   ·exact take_val ms k h
   ·rw[List.take_of_length_le (by omega),List.take_of_length_le (by omega)]
    simp[List.getElem?_eq_none (Nat.le_of_not_lt h)]
  rw[take_val ls k hk,hms,bval_append,ho,Nat.pow_succ]
  generalize ls.getD k 0=x at *
  generalize ms.getD k 0=y at *
  generalize 4294967296 ^ k=z at *
  have e:z*r+z*c+z*y=z*x+z*4294967296*d:=by
   rw[←Nat.mul_add,←Nat.mul_add,Nat.mul_assoc,←Nat.mul_add,Nat.add_assoc,hr]
  simp only[bval]
  rw[Nat.mul_zero,Nat.add_zero]
  omega
theorem sub_end(ls ms os:List Nat)(c:Nat)(hm:ms.length≤ls.length)(ho:os.length=ls.length)(hle:bval ms≤bval ls)(hL:Lim os)
  (hv:bval os+bval (ms.take ls.length)=bval (ls.take ls.length)+4294967296 ^ ls.length*c):bval os=bval ls-bval ms:=by
 rw[List.take_length,List.take_of_length_le hm]at hv
 have h1:=bval_lt hL
 rw[ho]at h1
 cases c with
 | zero=>omega
 | succ c=>
  have:4294967296 ^ ls.length≤4294967296 ^ ls.length*(c+1):=Nat.le_mul_of_pos_right _ (by omega)
  omega
set_option maxHeartbeats 3200000 in
set_option maxRecDepth 100000 in
theorem l0sub_any(v u:Value)(A C n:Nat)(w:World)(h:Big w v A)(h':Big w u C)(hA:A<4294967296 ^ n)(hn:n<1000000)(hle:C≤A) :
  Calls Tryz.prog 115 #[v,u] w fun e w'=>∃v',e=.returned v'∧Below w.heap.size w w'∧Big w' v' (A-C):=by
 obtain⟨i0,hi,hz0,hz1,hz2⟩:=info_parts Tryz.infoU
 obtain⟨ls,a1,a2,a3,rfl⟩:=h
 obtain⟨ms,b1,b2,b3,rfl⟩:=h'
 have hlen:=Nat.lt_of_le_of_lt (trim_len a3 hA) hn
 have hm:ms.length≤ls.length:=by
  apply Classical.byContradiction;intro hc
  have:=len_lt a2 b3 (by omega);omega
 obtain⟨ao,acap,rfl,ac,am,ah⟩:=a1
 obtain⟨bo,bcap,rfl,bc,bm,bh⟩:=b1
 have HA:Hid _:=ah
 have HB:Hid _:=bh
 have LA:Hid _:=a2
 have LB:Hid _:=b2
 have HLE:Hid _:=hle
 clear ah bh am bm a2 b2 a3 b3 hA hle
 go_enter Tryz.func115,Tryz.ntmps115
 go_wp2
 go_loopw [5,6,12] (fun v cv i wr=>∃ (k c:Nat) (os:List Nat),k≤ls.length∧i=.int .i64 k∧cv=.int .u64 c∧c≤1∧os.length=k∧Hid (Lim os) ∧
   Hid (bval os+bval (ms.take k)=bval (ls.take k)+4294967296 ^ k*c)∧wr.ownsRow w.heap.size 44 1 v k (os.map fun x=>Value.int .u64 (x:Nat))∧Below w.heap.size w wr)
  (fun _ _ i _=>ls.length-(intOf i).toNat)
 case atStart=>exact⟨0,0,[],Nat.zero_le _,rfl,rfl,by omega,rfl,fun _ h=>absurd h (by simp),by show _=_;simp[bval],World.ownsRow_nil _ _ _ _,Below.refl _ _⟩
 case round=>
  obtain⟨k,c,os,hk,rfl,rfl,hc,ho,HO,HV,hown,hbe⟩:=hrel
  by_cases hlt:k<ls.length
  ·obtain⟨g,rfl,hg,hcl⟩:=Row.block ac HA.out (t:=k) hlt
   have hx:wr.cell? ⟨g,k,none⟩=some (.int .u64 (ls.getD k 0:Nat)):=(hbe.cell hg).trans (hcl k hlt)
   have hxl:=lim_get LA.out k
   have hyl:=lim_get LB.out k
   have HR:Hid _:=sub_round ls ms os c k hlt ho HO.out HV.out
   clear hcl HV
   generalize ls.getD k 0=x at *
   by_cases hlm:k<ms.length
   ·obtain⟨g',rfl,hg',hcl'⟩:=Row.block bc HB.out (t:=k) hlm
    have hy:wr.cell? ⟨g',k,none⟩=some (.int .u64 (ms.getD k 0:Nat)):=(hbe.cell hg').trans (hcl' k hlm)
    clear hcl'
    generalize ms.getD k 0=y at *
    by_cases hxy:x<c+y
    ·obtain⟨r,hr⟩:∃r:Nat,(x:Int)+4294967296-(c+y)=r:=⟨x+4294967296-(c+y),by omega⟩
     have HR2:Hid _:=HR.out r 1 (by omega) (by omega)
     go_wp2_with (first
      | (at_builtin;refine wpList_append_own _ rfl _ _ 143 rfl w.heap.size 44 i0 (.int .u64 0) 1 8 Tryz.underlying143 hi hz0 hz1 hz2 rfl (by decide) _ _ _ rfl (hown.alloc _) ⟨wr.heap.size,0,none⟩ 1 1 [.int .u64 (r:Nat)] rfl rfl ?c1a ?c1b ?c1c ?c1d ?c1e ?_)
      | go_in)
     case c1a=>
      intro j u hj
      match j,hj with
      | 0,hj=>simp at hj;subst hj;simp[Addr.add]
     case c1b=>intro u hu;simp at hu;subst hu;rfl
     case c1c=>unfold maxLen;omega
     case c1d=>omega
     case c1e=>have:=hbe.size;simp;omega
     ·intro v' w1 hown' hgrow _
      have R:=own_step (os:=os) (r:=r) ho hown hbe (Nat.le_refl _) (by simpa using hown') hgrow
      have RL:(os++[r]).length=k+1:=by simp[ho]
      rw[RL]at R
      clear hown' hgrow hown
      go_wp2
      go_roundw
      case rel=>exact⟨k+1,1,os++[r],by omega,by simp,by simp,by omega,RL,HR2.out.1,HR2.out.2,R.1,R.2⟩
      case measure=>simp[intOf];omega
    ·obtain⟨r,hr⟩:∃r:Nat,(x:Int)-(c+y)=r:=⟨x-(c+y),by omega⟩
     have HR2:Hid _:=HR.out r 0 (by omega) (by omega)
     go_wp2_with (first
      | (at_builtin;refine wpList_append_own _ rfl _ _ 143 rfl w.heap.size 44 i0 (.int .u64 0) 1 8 Tryz.underlying143 hi hz0 hz1 hz2 rfl (by decide) _ _ _ rfl (hown.alloc _) ⟨wr.heap.size,0,none⟩ 1 1 [.int .u64 (r:Nat)] rfl rfl ?c2a ?c2b ?c2c ?c2d ?c2e ?_)
      | go_in)
     case c2a=>
      intro j u hj
      match j,hj with
      | 0,hj=>simp at hj;subst hj;simp[Addr.add]
     case c2b=>intro u hu;simp at hu;subst hu;rfl
     case c2c=>unfold maxLen;omega
     case c2d=>omega
     case c2e=>have:=hbe.size;simp;omega
     ·intro v' w1 hown' hgrow _
      have R:=own_step (os:=os) (r:=r) ho hown hbe (Nat.le_refl _) (by simpa using hown') hgrow
      have RL:(os++[r]).length=k+1:=by simp[ho]
      rw[RL]at R
      clear hown' hgrow hown
      go_wp2
      go_roundw
      case rel=>exact⟨k+1,0,os++[r],by omega,by simp,by simp,by omega,RL,HR2.out.1,HR2.out.2,R.1,R.2⟩
      case measure=>simp[intOf];omega
   ·have h0:ms.getD k 0=0:=by simp[List.getElem?_eq_none (Nat.le_of_not_lt hlm)]
    rw[h0]at HR hyl
    by_cases hxy:x<c
    ·obtain⟨r,hr⟩:∃r:Nat,(x:Int)+4294967296-c=r:=⟨x+4294967296-c,by omega⟩
     have HR2:Hid _:=HR.out r 1 (by omega) (by omega)
     go_wp2_with (first
      | (at_builtin;refine wpList_append_own _ rfl _ _ 143 rfl w.heap.size 44 i0 (.int .u64 0) 1 8 Tryz.underlying143 hi hz0 hz1 hz2 rfl (by decide) _ _ _ rfl (hown.alloc _) ⟨wr.heap.size,0,none⟩ 1 1 [.int .u64 (r:Nat)] rfl rfl ?c3a ?c3b ?c3c ?c3d ?c3e ?_)
      | go_in)
     case c3a=>
      intro j u hj
      match j,hj with
      | 0,hj=>simp at hj;subst hj;simp[Addr.add]
     case c3b=>intro u hu;simp at hu;subst hu;rfl
     case c3c=>unfold maxLen;omega
     case c3d=>omega
     case c3e=>have:=hbe.size;simp;omega
     ·intro v' w1 hown' hgrow _
      have R:=own_step (os:=os) (r:=r) ho hown hbe (Nat.le_refl _) (by simpa using hown') hgrow
      have RL:(os++[r]).length=k+1:=by simp[ho]
      rw[RL]at R
      clear hown' hgrow hown
      go_wp2
      go_roundw
      case rel=>exact⟨k+1,1,os++[r],by omega,by simp,by simp,by omega,RL,HR2.out.1,HR2.out.2,R.1,R.2⟩
      case measure=>simp[intOf];omega
    ·obtain⟨r,hr⟩:∃r:Nat,(x:Int)-c=r:=⟨x-c,by omega⟩
     have HR2:Hid _:=HR.out r 0 (by omega) (by omega)
     go_wp2_with (first
      | (at_builtin;refine wpList_append_own _ rfl _ _ 143 rfl w.heap.size 44 i0 (.int .u64 0) 1 8 Tryz.underlying143 hi hz0 hz1 hz2 rfl (by decide) _ _ _ rfl (hown.alloc _) ⟨wr.heap.size,0,none⟩ 1 1 [.int .u64 (r:Nat)] rfl rfl ?c4a ?c4b ?c4c ?c4d ?c4e ?_)
      | go_in)
     case c4a=>
      intro j u hj
      match j,hj with
      | 0,hj=>simp at hj;subst hj;simp[Addr.add]
     case c4b=>intro u hu;simp at hu;subst hu;rfl
     case c4c=>unfold maxLen;omega
     case c4d=>omega
     case c4e=>have:=hbe.size;simp;omega
     ·intro v' w1 hown' hgrow _
      have R:=own_step (os:=os) (r:=r) ho hown hbe (Nat.le_refl _) (by simpa using hown') hgrow
      have RL:(os++[r]).length=k+1:=by simp[ho]
      rw[RL]at R
      clear hown' hgrow hown
      go_wp2
      go_roundw
      case rel=>exact⟨k+1,0,os++[r],by omega,by simp,by simp,by omega,RL,HR2.out.1,HR2.out.2,R.1,R.2⟩
      case measure=>simp[intOf];omega
  ·obtain rfl:k=ls.length:=by omega
   have HE:Hid _:=sub_end ls ms os c hm ho HLE.out HO.out HV.out
   have HR:Hid (Row wr u5 os):=Row.of_owns (by rw[ho];exact hown)
   clear HV hown
   go_wp2_with (go_at_call 139;refine(l0trim_any os _ _ HR.out).mono ?_;rintro e w2 ⟨rfl,v2,rfl,hv2⟩)
   go_ret
   exact⟨_,rfl,hbe,Big.of_trim hv2 HO.out HE.out⟩
set_option maxHeartbeats 1600000 in
set_option maxRecDepth 100000 in
theorem l0bits_any(v:Value)(A n:Nat)(w:World)(h:Big w v A)(hA:A<4294967296 ^ n)(hn:n<1000000) :
  Calls Tryz.prog 112 #[v] w fun e w'=>w'=w∧∃n:Nat,e=.returned (.int .i64 n)∧Bits A n∧n≤32000000:=by
 obtain⟨ls,h1,h2,h3,rfl⟩:=h
 have hlen:=Nat.lt_of_le_of_lt (trim_len h3 hA) hn
 obtain⟨ao,cap,rfl,hcap,hmx,h4⟩:=h1
 by_cases hnil:ls = []
 ·subst hnil
  go_enter Tryz.func112,Tryz.ntmps112
  go_wp2
  go_ret
  exact⟨rfl,0,rfl,.inl ⟨rfl,rfl⟩,by omega⟩
 ·have hpos:0<ls.length:=List.length_pos_iff.2 hnil
  rcases h4 with⟨_,h4⟩|⟨g,rfl,hg,hcl⟩
  ·omega
  have hx:=hcl (ls.length-1) (by omega)
  have htop:=(trim_last h3 hnil).2
  have hlim:ls.getD (ls.length-1) 0<4294967296:=by
   have hlt:ls.length-1<ls.length:=by omega
   have:ls.getD (ls.length-1) 0=ls[ls.length-1]:=by simp[List.getElem?_eq_getElem hlt]
   rw[this];exact h2 _ (List.getElem_mem hlt)
  have HT:Hid _:=bits_top ls h2 hnil
  have e0:((ls.length:Int)==0)=false:=beq_eq_false_iff_ne.2 (by omega)
  generalize ls.getD (ls.length-1) 0=t at *
  clear hcl h3 h2 hA hnil
  generalize bval ls=A at *
  generalize ls.length=L at *
  obtain⟨l,rfl⟩:∃l,L=l+1:=⟨L-1,by omega⟩
  rw[Nat.add_sub_cancel] at *
  go_enter Tryz.func112,Tryz.ntmps112
  go_wp2
  go_loop [3,4] (fun nv xv=>∃j:Nat,nv=.int .i64 (32*(l:Int)+j)∧xv=.int .u64 ((t / 2 ^ j:Nat):Int)∧j≤32∧Hid (0<j→2 ^ (j-1)≤t)) (fun _ xv=>(intOf xv).toNat)
  case atStart=>exact⟨0,by simp,by simp,by omega,fun h=>absurd h (by omega)⟩
  case round=>
   obtain⟨j,rfl,rfl,hj,HJ⟩:=hrel
   by_cases hp:0<t / 2 ^ j
   ·have hj2:=few_halves32 t j hlim hp
    have hh:=half_cast t j
    have HJ2:Hid (2 ^ j≤t):=by
     show _≤_
     apply Classical.byContradiction;intro hc
     rw[Nat.div_eq_of_lt (by omega)]at hp;omega
    have HL:Hid (t / 2 ^ (j+1)<t / 2 ^ j):=by show _<_;rw[←half_again];omega
    have hb:t / 2 ^ j≤t:=Nat.div_le_self _ _
    generalize hy:t / 2 ^ (j+1)=y at *
    generalize hz:t / 2 ^ j=z at *
    go_wp2
    exact⟨⟨j+1,by rw[show 32*(l:Int)+((j+1:Nat):Int)=32*(l:Int)+j+1 by omega],by rw[hy],by omega,fun _=>HJ2.out⟩,by simp only[intOf];have:=HL.out;omega⟩
   ·have h0:t / 2 ^ j=0:=Nat.eq_zero_of_not_pos hp
    have ht2:Hid (t<2 ^ j):=by
     have:=Nat.div_eq_zero_iff.1 h0
     have h2:=Nat.two_pow_pos j
     show _<_
     omega
    rw[h0]
    go_wp2
    go_ret
    have hj0:0<j:=by
     apply Classical.byContradiction;intro hc
     obtain rfl:j=0:=by omega
     have:=ht2.out
     simp at this;omega
    exact⟨rfl,32*l+j,by simp,HT.out j hj0 (HJ.out hj0) ht2.out,by omega⟩
end Go.Proofs.YtenbfookfcmpoaaGreatDoor
namespace Go.Proofs.YtenbfookfcmpoaaGreatDoor
open Go.RowKit
theorem last_mod(t:ByteArray)(h:0<t.size)(hg:good 10 t.data.toList):valN 10 t.data.toList % 10=t[t.size-1].toNat-48:=by
 have e:=last_cut t h
 obtain⟨d1,d2,d3⟩:=good_digit t[t.size-1] (good_at 10 t hg (t.size-1) (by omega))
 have h1:valN 10 [t[t.size-1]]=t[t.size-1].toNat-48:=by
  rw[valN_cons,valN_nil,d3]
  simp
  omega
 rw[e,valN_append,h1]
 show(_*10 ^ 1+_) % 10=_
 rw[Nat.pow_one]
 omega
theorem last_some(t:ByteArray)(h:0<t.size)(hg:good 10 t.data.toList)(hz:∀h:t.size-1<t.size,t[t.size-1].toNat≠48):valN 10 t.data.toList % 10≠0:=by
 rw[last_mod t h hg]
 obtain⟨d1,d2,d3⟩:=good_digit t[t.size-1] (good_at 10 t hg (t.size-1) (by omega))
 have:=hz (by omega)
 omega
theorem pow_same(V W a b:Nat)(h:V*10 ^ a=W*10 ^ b)(hV:V % 10≠0)(hW:W % 10≠0):V=W∧a=b:=by
 have key:∀ (V W a b:Nat),V*10 ^ a=W*10 ^ b→V % 10≠0→a<b→False:=by
  intro V W a b h hV hlt
  obtain⟨d,hd⟩:∃d,b=a+(d+1):=⟨b-a-1,by omega⟩
  rw[hd,Nat.pow_add,Nat.mul_comm (10 ^ a),←Nat.mul_assoc]at h
  have h3:=Nat.eq_of_mul_eq_mul_right (Nat.pow_pos (show 0<10 by omega)) h
  rw[Nat.pow_succ,←Nat.mul_assoc]at h3
  omega
 rcases Nat.lt_trichotomy a b with hlt|rfl|hlt
 ·exact(key V W a b h hV hlt).elim
 ·exact⟨Nat.eq_of_mul_eq_mul_right (Nat.pow_pos (by omega)) h,rfl⟩
 ·exact(key W V b a h.symm hW hlt).elim
theorem exD_one(ds ds':ByteArray)(pow pow':Int)(M:Nat)(E:Int)(h:ExD ds pow M E)(h':ExD ds' pow' M E):ds=ds'∧pow=pow':=by
 obtain⟨a0,ag,af,al,av⟩:=h
 obtain⟨b0,bg,bf,bl,bv⟩:=h'
 have hV:=last_some ds a0 ag al
 have hW:=last_some ds' b0 bg bl
 have hx:valN 10 ds.data.toList*10 ^ ((pow-(ds.size:Int)).toNat+((ds'.size:Int)-pow').toNat)=valN 10 ds'.data.toList*10 ^ ((pow'-(ds'.size:Int)).toNat+((ds.size:Int)-pow).toNat):=by
  apply Nat.eq_of_mul_eq_mul_right (Nat.two_pow_pos (-E).toNat)
  rw[Nat.pow_add,Nat.pow_add,←Nat.mul_assoc,←Nat.mul_assoc]
  rw[Nat.mul_right_comm (valN 10 ds.data.toList*10 ^ (pow-(ds.size:Int)).toNat),av]
  rw[Nat.mul_right_comm (valN 10 ds'.data.toList*10 ^ (pow'-(ds'.size:Int)).toNat),bv]
  rw[Nat.mul_right_comm]
 obtain⟨e1,e2⟩:=pow_same _ _ _ _ hx hV hW
 have hd:ds=ds':=dec_one ds ds' _ ⟨ag,rfl,af⟩ ⟨bg,e1.symm,bf⟩
 subst hd
 exact⟨rfl,by omega⟩
end Go.Proofs.YtenbfookfcmpoaaGreatDoor
namespace Go.Proofs.YtenbfookfcmpoaaGreatDoor
open Go.RowKit
open Ieee (double)
theorem fw_half(m:Nat)(e:Int):fw false m e<9223372036854775808:=by
 by_cases h0:m=0
 ·subst h0;rw[fw_zero];decide
 ·rw[fw_place false m e (by omega)]
  have:min ((max (e+(m.log2:Int)-52) (-1074)+1074).toNat*4503599627370496+roundN m (max (e+(m.log2:Int)-52) (-1074)-e)) 9218868437227405312≤9218868437227405312:=Nat.min_le_right _ _
  show 0+_<_
  omega
theorem decW_half(b V:Nat)(e:Int):decW b V e<9223372036854775808:=by
 unfold decW
 split
 ·omega
 ·unfold ratioW ratioAt
  split<;>exact fw_half _ _
theorem flW_lt(neg:Bool)(b:Nat)(ds:ByteArray)(e:Int):flW neg b ds e<18446744073709551616:=by
 unfold flW
 have h1:=fw_half (valN 16 ds.data.toList) e
 have h2:=decW_half 10 (valN 10 ds.data.toList) e
 split<;>cases neg<;>simp only[signBit]<;>simp<;>omega
end Go.Proofs.YtenbfookfcmpoaaGreatDoor
namespace Go.Proofs.YtenbfookfcmpoaaGreatDoor
open Go.ChangeShapes Go.WideShapes Go.RowKit
set_option maxHeartbeats 1000000 in
set_option maxRecDepth 100000 in
theorem raise_any(B N F T:Nat)(R:List Value)(t:TypeId)(w:World)(h:Lg w B N R t)(hF1:1≤F)(hF:F≤16)(hT:T≤4000)(hN:N*F ^ T<be ^ 151) :
  Calls Tryz.prog 62 #[.pointer (some ⟨B,0,none⟩),.int .u64 (F:Int),.int .i64 (T:Int)] w fun e w'=>e=.returned (.tuple #[])∧Mod B w w'∧Lg w' B (N*F ^ T) R t:=by
 have HL:Hid (Lg w B N R t):=h
 have HN:Hid (N*F ^ T<be ^ 151):=hN
 clear h hN
 go_enter Tryz.func62,Tryz.ntmps62
 go_wp2
 go_loopw [7] (fun iv wl=>∃i:Nat,iv=.int .i64 (i:Int)∧i≤T∧Hid (Lg wl B (N*F ^ i) R t)∧Hid (Mod B w wl)) (fun iv _=>T-(intOf iv).toNat)
 case atStart=>exact⟨0,rfl,Nat.zero_le _,by show Lg w B (N*F ^ 0) R t;rw[Nat.pow_zero,Nat.mul_one];exact HL.out,Mod.refl B w⟩
 case round=>
  obtain⟨i,rfl,hi,HG,HMd⟩:=hrel
  by_cases hlt:i<T
  ·have hlt':(i:Int)<(T:Int):=by omega
   have hbd:N*F ^ i*F+0<be ^ 151:=by
    have h1:F ^ (i+1)≤F ^ T:=Nat.pow_le_pow_right hF1 (by omega)
    have h2:N*F ^ (i+1)≤N*F ^ T:=Nat.mul_le_mul_left _ h1
    rw[Nat.add_zero,Nat.mul_assoc,←Nat.pow_succ]
    exact Nat.lt_of_le_of_lt h2 HN.out
   have HC:Hid (Calls Tryz.prog 98 #[.pointer (some ⟨B,0,none⟩),.int .u64 (F:Int),.int .u64 0] wr fun e w'=>e=.returned (.tuple #[])∧Mod B wr w'∧Lg w' B (N*F ^ (i+1)) R t):=by
    have h:=mul_any B (N*F ^ i) F 0 R t wr HG.out hF1 hF (by omega) hbd
    rw[Nat.add_zero,Nat.mul_assoc,←Nat.pow_succ]at h
    exact h
   clear hbd
   go_wp2_with (go_at_call 98;refine HC.out.mono ?_;rintro e w' ⟨rfl,hm,hg⟩)
   exact⟨⟨i+1,rfl,by omega,hg,HMd.out.trans hm⟩,by show T-((i:Int)+1).toNat<T-(i:Int).toNat;omega⟩
  ·have hlt':decide ((i:Int)<(T:Int))=false:=decide_eq_false (by omega)
   obtain rfl:i=T:=by omega
   go_wp2
   go_end0
   exact⟨rfl,HMd.out,HG.out⟩
def RevSt(B:Nat)(l:List UInt8)(i:Nat)(w wr:World):Prop:=Only B w wr∧(∀j (h:j<l.length),wr.cell? ⟨B,j,none⟩=some (.int .u8 ((if j<i∨l.length-i≤j then l[l.length-1-j]'(by omega) else l[j]).toNat:Int)))∧(∀j,j<l.length→wr.frozen? ⟨B,j,none⟩=false)
theorem RevSt.step{B:Nat}{l:List UInt8}{i:Nat}{w wr:World}(h:RevSt B l i w wr)(hi:i+i+1<l.length) :
  RevSt B l (i+1) w ((wr.setCell ⟨B,i,none⟩ (.int .u8 (l[l.length-1-i]'(by omega)).toNat)).setCell ⟨B,l.length-1-i,none⟩ (.int .u8 (l[i]'(by omega)).toNat)):=by
 obtain⟨h1,h2,h3⟩:=h
 have c1:=h2 i (by omega)
 have hlt:l.length-1-i<l.length:=by omega
 have c2:=(set_cell_at (v:=.int .u8 ((l[l.length-1-i]'(by omega)).toNat:Int)) c1 (l.length-1-i)).trans ((if_neg (by omega)).trans (h2 (l.length-1-i) hlt))
 refine⟨(h1.setCell _ _).setCell _ _,fun j hj=>?_,fun j hj=>?_⟩
 ·rw[set_cell_at c2]
  by_cases e1:j=l.length-1-i
  ·rw[if_pos e1]
   subst e1
   simp only[if_pos (show l.length-1-i<i+1∨l.length-(i+1)≤l.length-1-i from .inr (by omega)),show l.length-1-(l.length-1-i)=i by omega]
  ·rw[if_neg e1,set_cell_at c1]
   by_cases e2:j=i
   ·rw[if_pos e2]
    subst e2
    simp only[if_pos (show j<j+1∨l.length-(j+1)≤j from .inl (by omega))]
   ·rw[if_neg e2,h2 j hj]
    by_cases e3:j<i∨l.length-i≤j
    ·simp only[if_pos e3,if_pos (show j<i+1∨l.length-(i+1)≤j by omega)]
    ·simp only[if_neg e3,if_neg (show ¬(j<i+1∨l.length-(i+1)≤j) by omega)]
 ·rw[set_frozen_at,set_frozen_at]
  exact h3 j hj
theorem RevSt.drew{B:Nat}{l:List UInt8}{i:Nat}{w wr:World}(h:RevSt B l i w wr):RevSt B l i w wr.drew:=⟨⟨h.1.1,h.1.2.1,h.1.2.2.1,h.1.2.2.2.1,h.1.2.2.2.2⟩,h.2.1,h.2.2⟩
set_option maxHeartbeats 2000000 in
set_option maxRecDepth 100000 in
theorem reverse_any(B cap m:Nat)(l:List UInt8)(hm:l.length=m)(w:World)(hl:l.length≤100000)(hc:∀j (h:j<l.length),w.cell? ⟨B,j,none⟩=some (.int .u8 (l[j].toNat:Int)))(hf:∀j,j<l.length→w.frozen? ⟨B,j,none⟩=false) :
  Calls Tryz.prog 66 #[.slice (some ⟨B,0,none⟩) m cap] w fun e w'=>e=.returned (.tuple #[])∧Only B w w'∧(∀j (h:j<l.length),w'.cell? ⟨B,j,none⟩=some (.int .u8 ((l[l.length-1-j]'(by omega)).toNat:Int))):=by
 have HS:Hid (RevSt B l 0 w w):=⟨Only.refl _ _,fun j h=>by rw[hc j h];simp only[if_neg (show ¬(j<0∨l.length-0≤j) by omega)],hf⟩
 have hm':(m:Int)≤100000:=by omega
 clear hc hf
 go_enter Tryz.func66,Tryz.ntmps66
 go_wp2
 go_loopw [2,3] (fun iv jv wl=>∃i:Nat,iv=.int .i64 (i:Int)∧jv=.int .i64 ((m:Int)-1-(i:Int))∧i+i≤m+1∧Hid (RevSt B l i w wl)) (fun iv _ _=>m-(intOf iv).toNat)
 case atStart=>exact⟨0,rfl,by simp,by omega,HS.out⟩
 case round=>
  clear HS
  obtain⟨i,rfl,rfl,hi,HS⟩:=hrel
  by_cases hlt:i+i+1<m
  ·obtain⟨j,hj⟩:∃j:Nat,j=m-1-i:=⟨_,rfl⟩
   have hji:(m:Int)-1-(i:Int)=(j:Int):=by omega
   have hij:(i:Int)<(j:Int):=by omega
   have hjm:(j:Int)<(m:Int):=by omega
   have him:(i:Int)<(m:Int):=by omega
   have HN:Hid (RevSt B l (i+1) w ((wr.setCell ⟨B,i,none⟩ (.int .u8 ((l[l.length-1-i]'(by omega)).toNat:Int))).setCell ⟨B,l.length-1-i,none⟩ (.int .u8 ((l[i]'(by omega)).toNat:Int)))):=HS.out.step (by omega)
   have ci:=HS.out.2.1 i (by omega)
   have cj:=HS.out.2.1 (l.length-1-i) (by omega)
   simp only[if_neg (show ¬(i<i∨l.length-i≤i) by omega)]at ci
   simp only[if_neg (show ¬(l.length-1-i<i∨l.length-i≤l.length-1-i) by omega)]at cj
   have fi:=HS.out.2.2 i (by omega)
   have fj:=HS.out.2.2 (l.length-1-i) (by omega)
   generalize (l[l.length-1-i]'(by omega))=x at *
   generalize (l[i]'(by omega))=y at *
   rw[show l.length-1-i=j by omega]at HN cj fj
   rw[hji]
   have hne:¬i=j:=by omega
   clear hj
   go_wp2
   go_region
   all_goals
    go_wp2
    exact⟨⟨i+1,rfl,by congr 1;omega,by omega,HN.out.drew⟩,by show m-((i:Int)+1).toNat<m-(i:Int).toNat;omega⟩
  ·have hnl:¬(i:Int)<(m:Int)-1-(i:Int):=by omega
   have HF:Hid (∀j (h:j<l.length),wr.cell? ⟨B,j,none⟩=some (.int .u8 ((l[l.length-1-j]'(by omega)).toNat:Int))):=fun j h=>by
    rw[HS.out.2.1 j h]
    split
    ·rfl
    ·have:l.length-1-j=j:=by omega
     simp only[this]
   go_wp2
   go_end0
   subst hm
   exact⟨rfl,HS.out.1,HF.out⟩
end Go.Proofs.YtenbfookfcmpoaaGreatDoor
namespace Go.Proofs.YtenbfookfcmpoaaGreatDoor
open Go.RowKit Go.Shelf
theorem wpIn_of_wp{P:Program}{n:Nat}{c:Go.Code}{Q:Exit→Act→World→Prop}{a:Act}{w:World}(h:c.wp P (normalOnly Q) a w):c.wpIn Fence.wide n P Q a w:=by
 intro b k cs hro _ _
 obtain⟨e,a',w',hq,harr⟩:=h b k cs
 have hr:b.roundOf=none:=hro
 have hat:∀a k,b.atR a k=b.at a k:=fun a k=>by
  unfold Frame.atR Frame.at
  rw[hr]
 refine⟨e,a',w',?_,?_⟩
 ·cases e
  ·exact hq
  all_goals exact hq.elim
 ·cases e
  ·show StepsIn _ _ _ _
   rw[hat,hat]
   exact stepsIn_wide.2 harr
  all_goals exact hq.elim
end Go.Proofs.YtenbfookfcmpoaaGreatDoor
