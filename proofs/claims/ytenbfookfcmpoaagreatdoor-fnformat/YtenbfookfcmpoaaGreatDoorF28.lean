import Derived.Test.YtenbfookfcmpoaaGreatDoorF22
import Derived.Test.YtenbfookfcmpoaaGreatDoorF26
import Derived.Test.YtenbfookfcmpoaaGreatDoorF25
namespace Go.Proofs.YtenbfookfcmpoaaGreatDoor
open Go.RowKit
def spacesL(n:Nat):List UInt8:=List.replicate n 32
def spacesB(n:Nat):ByteArray:=⟨(spacesL n).toArray⟩
theorem spacesB_size(n:Nat):(spacesB n).size=n:=by rw[←data_len];show(List.replicate n (32:UInt8)).length=n;simp
theorem spacesB_next(n:Nat):spacesB n++⟨#[32]⟩=spacesB (n+1):=by
 apply ByteArray.ext;apply Array.toList_inj.1
 rw[append_list]
 show List.replicate n (32:UInt8)++[32]=List.replicate (n+1) 32
 rw[List.replicate_succ']
def countV(l:List UInt8):Int:=if l = [] then -1 else if 400<valN 10 l then -2 else (valN 10 l:Int)
def countR(s:ByteArray)(k j:Nat):Int:=countV (s.extract k j).data.toList
def signS(s:ByteArray):ByteArray:=if bAt s 0=45 then ⟨#[45]⟩ else ⟨#[]⟩
def restS(s:ByteArray):ByteArray:=if bAt s 0=45 then s.extract 1 s.size else s
def signP(plus:Bool)(c:Int)(s:ByteArray):ByteArray:=if bAt s 0=45 then ⟨#[45]⟩ else if plus=true∧c≠120∧s≠⟨#[110,97,110]⟩ then ⟨#[43]⟩ else ⟨#[]⟩
def padS(left zero plus:Bool)(width c:Int)(s:ByteArray):ByteArray:=
 if width-((signP plus c s).size:Int)-((restS s).size:Int)≤0 then signP plus c s++restS s
 else if left=true then signP plus c s++restS s++spacesB (width-((signP plus c s).size:Int)-((restS s).size:Int)).toNat
 else if zero=true∧restS s≠⟨#[105,110,102]⟩∧restS s≠⟨#[110,97,110]⟩ then signP plus c s++zerosB (width-((signP plus c s).size:Int)-((restS s).size:Int)).toNat++restS s
 else spacesB (width-((signP plus c s).size:Int)-((restS s).size:Int)).toNat++signP plus c s++restS s
theorem padS_eq(left zero plus:Bool)(width c:Int)(s:ByteArray)(K:Nat)(hK:K=(width-((signP plus c s).size:Int)-((restS s).size:Int)).toNat) :
  padS left zero plus width c s=if left=true then signP plus c s++restS s++spacesB K
   else if zero=true∧restS s≠⟨#[105,110,102]⟩∧restS s≠⟨#[110,97,110]⟩ then signP plus c s++zerosB K++restS s
   else spacesB K++signP plus c s++restS s:=by
 unfold padS
 rw[←hK]
 have e0:spacesB 0=ByteArray.empty:=rfl
 have e1:zerosB 0=ByteArray.empty:=rfl
 by_cases h:width-((signP plus c s).size:Int)-((restS s).size:Int)≤0
 ·have hz:K=0:=by omega
  rw[if_pos h,hz,e0,e1]
  split
  ·rw[ByteArray.append_empty]
  ·split
   ·rw[ByteArray.append_empty]
   ·rw[ByteArray.empty_append]
 ·rw[if_neg h]
end Go.Proofs.YtenbfookfcmpoaaGreatDoor
namespace Go.Proofs.YtenbfookfcmpoaaGreatDoor
open Go.ChangeShapes Go.WideShapes Go.RowKit
theorem bits_pos{A n:Nat}(h:Bits A n)(h0:0<A):0<n∧2 ^ (n-1)≤A∧A<2 ^ n:=by
 rcases h with⟨h,_⟩|h
 ·omega
 ·exact h
theorem bits_shl{A n k:Nat}(h:Bits A n)(h0:0<A):0<n+k∧2 ^ (n+k-1)≤A*2 ^ k∧A*2 ^ k<2 ^ (n+k):=by
 obtain⟨h1,h2,h3⟩:=bits_pos h h0
 refine⟨by omega,?_,?_⟩
 ·rw[show n+k-1=n-1+k by omega,Nat.pow_add]
  exact Nat.mul_le_mul_right _ h2
 ·rw[Nat.pow_add]
  exact Nat.mul_lt_mul_of_pos_right h3 (Nat.two_pow_pos k)
theorem apart{A C a c:Nat}(hA:0<a∧2 ^ (a-1)≤A∧A<2 ^ a)(hC:0<c∧2 ^ (c-1)≤C∧C<2 ^ c)(h:a=c+63) :
  A<C*18446744073709551616∧C*4611686018427387904≤A:=by
 obtain⟨a0,a1,a2⟩:=hA
 obtain⟨c0,c1,c2⟩:=hC
 subst h
 constructor
 ·have:2 ^ (c+63)=2 ^ (c-1)*18446744073709551616:=by
   rw[show(18446744073709551616:Nat)=2 ^ 64 from rfl,←Nat.pow_add];congr 1;omega
  have h2:=Nat.mul_le_mul_right 18446744073709551616 c1
  omega
 ·have:2 ^ (c+63-1)=2 ^ c*4611686018427387904:=by
   rw[show(4611686018427387904:Nat)=2 ^ 62 from rfl,←Nat.pow_add]
   congr 1
  have h2:=Nat.mul_le_mul_right 4611686018427387904 (Nat.le_of_lt c2)
  omega
def Div(A C R q k:Nat):Prop:=A=q*C+R∧R<C*2 ^ k∧q % 2 ^ k=0∧q<18446744073709551616
theorem div_start{A C:Nat}(h:A<C*18446744073709551616):Div A C A 0 64:=⟨by omega,h,by simp,by omega⟩
theorem div_no{A C R q k:Nat}(h:Div A C R q (k+1))(hlt:R<C*2 ^ k):Div A C R q k:=by
 obtain⟨h1,_,h3,h4⟩:=h
 refine⟨h1,hlt,?_,h4⟩
 have hd:2 ^ k ∣ 2 ^ (k+1):=⟨2,Nat.pow_succ _ _⟩
 exact Nat.mod_eq_zero_of_dvd (Nat.dvd_trans hd (Nat.dvd_of_mod_eq_zero h3))
theorem or_bit(q k:Nat)(hk:k≤63)(hq:q<18446744073709551616)(h:q % 2 ^ (k+1)=0):q ||| 2 ^ k=q+2 ^ k∧q+2 ^ k<18446744073709551616:=by
 obtain⟨t,rfl⟩:=Nat.dvd_of_mod_eq_zero h
 have hlt:2 ^ k<2 ^ (k+1):=Nat.pow_lt_pow_right (by omega) (by omega)
 refine⟨(Nat.two_pow_add_eq_or_of_lt hlt t).symm,?_⟩
 have e:(18446744073709551616:Nat)=2 ^ (k+1)*2 ^ (63-k):=by
  rw[←Nat.pow_add,show k+1+(63-k)=64 by omega]
 rw[e]at hq ⊢
 have ht:t<2 ^ (63-k):=Nat.lt_of_mul_lt_mul_left hq
 have h2:=Nat.mul_le_mul_left (2 ^ (k+1)) (show t+1≤2 ^ (63-k) from ht)
 rw[Nat.mul_add,Nat.mul_one]at h2
 omega
theorem div_yes{A C R q k:Nat}(h:Div A C R q (k+1))(hk:k≤63)(hge:C*2 ^ k≤R):Div A C (R-C*2 ^ k) (q ||| 2 ^ k) k:=by
 obtain⟨h1,h2,h3,h4⟩:=h
 obtain⟨e1,e2⟩:=or_bit q k hk h4 h3
 rw[e1]
 refine⟨?_,?_,?_,e2⟩
 ·rw[Nat.add_mul,Nat.mul_comm (2 ^ k) C];omega
 ·rw[Nat.pow_succ,←Nat.mul_assoc]at h2;omega
 ·have hd:2 ^ k ∣ 2 ^ (k+1):=⟨2,Nat.pow_succ _ _⟩
  have:=Nat.dvd_trans hd (Nat.dvd_of_mod_eq_zero h3)
  exact Nat.mod_eq_zero_of_dvd (Nat.dvd_add this (Nat.dvd_refl _))
theorem div_end{A C R q:Nat}(h:Div A C R q 0)(hC:0<C):q=A / C∧R=A % C:=by
 obtain⟨h1,h2,_,_⟩:=h
 rw[Nat.pow_zero,Nat.mul_one]at h2
 subst h1
 constructor
 ·rw[Nat.mul_comm,Nat.mul_add_div hC,Nat.div_eq_of_lt h2,Nat.add_zero]
 ·rw[Nat.mul_comm,Nat.mul_add_mod,Nat.mod_eq_of_lt h2]
theorem div_rest{A C R q k:Nat}(h:Div A C R q k):R≤A:=by have:=h.1;omega
theorem or_cast(q k:Nat)(hq:q<18446744073709551616)(hk:k≤63):bits .or .u64 (q:Int) (((2 ^ k:Nat):Int))=((q ||| 2 ^ k:Nat):Int)∧IntKind.u64.wrap (2 ^ k)=((2 ^ k:Nat):Int):=by
 have h1:2 ^ k<2 ^ 64:=Nat.pow_lt_pow_right (by omega) (by omega)
 have c:(2:Int) ^ k=((2 ^ k:Nat):Int):=(Int.natCast_pow 2 k).symm
 refine⟨u64_or_nat q (2 ^ k) hq h1,?_⟩
 rw[c,IntKind.wrap_u64]
 generalize 2 ^ k=z at *
 have:(2:Nat) ^ 64=18446744073709551616:=rfl
 omega
end Go.Proofs.YtenbfookfcmpoaaGreatDoor
namespace Go.Proofs.YtenbfookfcmpoaaGreatDoor
open Go.ChangeShapes Go.WideShapes Go.RowKit
open Ieee (double)
theorem int_size16(n:Int):(intText n 16).size≤70:=by
 unfold intText
 rw[if_pos (by omega)]
 have h1:∀k,(⟨(textOf 16 k).toArray⟩:ByteArray).size≤64:=fun k=>by
  rw[←data_len]
  exact textOf_length 16 k
 split
 ·rw[append_size]
  have:=h1 (unsig (-n))
  have e:(⟨#[45]⟩:ByteArray).size=1:=rfl
  rw[show(16:Int).toNat=16 from rfl]
  omega
 ·have:=h1 (unsig n)
  rw[show(16:Int).toNat=16 from rfl]
  omega
def hexB(s:Bool)(q E:Int):ByteArray:=sgnB s++⟨#[48,120]⟩++intText q 16++⟨#[112]⟩++intText E 10
set_option maxHeartbeats 1000000 in
set_option maxRecDepth 100000 in
theorem hexOf_num(s:Bool)(r:Nat)(hr:r<9218868437227405312)(k q E:Int)(w:World)
  (hP:∀w,Calls Tryz.prog 91 #[.float .f64 r] w fun e w'=>e=.returned (.agg #[.int .i64 k,.bool false,.int .i64 q,.int .i64 E])∧Below w.heap.size w w') :
  Calls Tryz.prog 46 #[.float .f64 (signBit s+r)] w fun e w'=>e=.returned (.string (hexB s q E))∧Below w.heap.size w w':=by
 have HP:Hid _:=hP
 have H1:Hid _:=fun w=>l5size_any s r (by omega) w
 have H2:Hid _:=fun w=>l5odd_num r hr w
 have HI1:Hid _:=fun w=>specInt_any q 16 w
 have HI2:Hid _:=fun w=>specInt_any E 10 w
 have z1:=int_size16 q
 have z2:=int_size E
 have z3:=sgnB_size s
 unfold hexB
 generalize intText q 16=I1 at *
 generalize intText E 10=I2 at *
 generalize sgnB s=S at *
 generalize signBit s+r=X at *
 clear hP hr
 go_enter Tryz.func46,Tryz.ntmps46
 go_wp2_with fail
 refine(H1.out _).mono ?_
 rintro e w1 ⟨rfl,rfl⟩
 go_wp2_with fail
 refine(H2.out _).mono ?_
 rintro e w1 ⟨rfl,rfl⟩
 generalize decide (r=0)=b at *
 have hne:(⟨#[48]⟩:ByteArray)=⟨#[48]⟩:=rfl
 clear H1 H2
 cases b
 all_goals
  go_wp2_with fail
  refine(HP.out _).mono ?_
  rintro e w2 ⟨rfl,hb⟩
  have HB:Hid _:=hb
  clear hb
  go_wp2_with fail
  go_quiet (first|(go_at_call_of 10 (Value.int .i64 q);exact Calls.quiet_of_same (HI1.out _))|(go_at_call_of 10 (Value.int .i64 E);exact Calls.quiet_of_same (HI2.out _)))
  go_wp2
  go_ret
  exact⟨rfl,below_drewN (HB.out.alloc HB.out.size _) _⟩
set_option maxHeartbeats 400000 in
theorem hexOf_nan(x:Nat)(hx:IsNan x)(w:World) :
  Calls Tryz.prog 46 #[.float .f64 x] w fun e w'=>e=.returned (.string ⟨#[110,97,110]⟩)∧Below w.heap.size w w':=by
 have H1:Hid _:=fun w=>l5size_nan x hx w
 have H2:Hid _:=fun w=>l5odd_nan x hx w
 clear hx
 go_enter Tryz.func46,Tryz.ntmps46
 go_wp2_with fail
 refine(H1.out _).mono ?_
 rintro e w1 ⟨rfl,rfl⟩
 go_wp2_with fail
 refine(H2.out _).mono ?_
 rintro e w1 ⟨rfl,rfl⟩
 go_wp2
 go_ret
 exact⟨rfl,Below.refl _ _⟩
set_option maxHeartbeats 400000 in
theorem hexOf_inf(s:Bool)(w:World) :
  Calls Tryz.prog 46 #[.float .f64 (iw s)] w fun e w'=>e=.returned (.string (sgnB s++⟨#[105,110,102]⟩))∧Below w.heap.size w w':=by
 have H1:Hid (∀w,Calls Tryz.prog 85 #[.float .f64 (iw s)] w fun e w'=>e=.returned (.tuple #[.float .f64 9218868437227405312,.string (sgnB s)])∧w'=w):=fun w=>l5size_any s 9218868437227405312 (by omega) w
 have H2:Hid _:=fun w=>l5odd_inf w
 have z3:=sgnB_size s
 generalize sgnB s=S at *
 generalize iw s=X at *
 go_enter Tryz.func46,Tryz.ntmps46
 go_wp2_with fail
 refine(H1.out _).mono ?_
 rintro e w1 ⟨rfl,rfl⟩
 go_wp2_with fail
 refine(H2.out _).mono ?_
 rintro e w1 ⟨rfl,rfl⟩
 go_wp2
 go_ret
 exact⟨rfl,Below.refl _ _⟩
def hexV(x:Nat)(t:ByteArray):Prop:=(IsNan x∧t=⟨#[110,97,110]⟩)∨(∃s,x=iw s∧t=sgnB s++⟨#[105,110,102]⟩)∨(∃s,x=signBit s∧t=hexB s 0 0)
 ∨ (∃ (s:Bool) (n:Nat) (p:Int) (q k:Nat),Canon n p∧0<n∧x=fw s n p∧n=q*2 ^ k∧q % 2=1∧t=hexB s q (p+k))
theorem hexB_size(s:Bool)(q E:Int):(hexB s q E).size≤200:=by
 unfold hexB
 rw[append_size,append_size,append_size,append_size]
 have h1:=sgnB_size s
 have h2:=int_size16 q
 have h3:=int_size E
 have e1:(⟨#[48,120]⟩:ByteArray).size=2:=rfl
 have e2:(⟨#[112]⟩:ByteArray).size=1:=rfl
 omega
theorem specHex_any(x:Nat)(hx:x<18446744073709551616)(w:World) :
  Calls Tryz.prog 46 #[.float .f64 x] w fun e w'=>∃t,hexV x t∧e=.returned (.string t)∧Below w.heap.size w w':=by
 rcases float_cases x hx with h|⟨s,rfl⟩|⟨s,n,p,hc,rfl⟩
 ·refine(hexOf_nan x h w).mono ?_
  rintro e w' ⟨rfl,hb⟩
  exact⟨_,.inl ⟨h,rfl⟩,rfl,hb⟩
 ·refine(hexOf_inf s w).mono ?_
  rintro e w' ⟨rfl,hb⟩
  exact⟨_,.inr (.inl ⟨s,rfl,rfl⟩),rfl,hb⟩
 ·by_cases h0:n=0
  ·subst h0
   rw[fw_zero]
   have:=hexOf_num s 0 (by omega) 0 0 0 w (fun w=>parts_none w)
   rw[Nat.add_zero]at this
   refine this.mono ?_
   rintro e w' ⟨rfl,hb⟩
   exact⟨_,.inr (.inr (.inl ⟨s,rfl,rfl⟩)),rfl,hb⟩
  ·obtain⟨q,k,hq,hq1⟩:=odd_some n (by omega)
   have hfw:fw false n p=rung n p:=by rw[fw_canon _ _ _ hc];exact Nat.zero_add _
   have hfs:fw s n p=signBit s+rung n p:=fw_canon _ _ _ hc
   have:=hexOf_num s (rung n p) (rung_lt n p hc) 1 q (p+k) w (fun w=>by rw[←hfw];exact parts_fixed false n p q k hc (by omega) hq hq1 w)
   rw[←hfs]at this
   refine this.mono ?_
   rintro e w' ⟨rfl,hb⟩
   exact⟨_,.inr (.inr (.inr ⟨s,n,p,q,k,hc,by omega,rfl,hq,hq1,rfl⟩)),rfl,hb⟩
end Go.Proofs.YtenbfookfcmpoaaGreatDoor
namespace Go.Proofs.YtenbfookfcmpoaaGreatDoor
open Go.RowKit
def dAt(ds:ByteArray)(x p:Int):UInt8:=if h:0≤x-p∧x-p<(ds.size:Int) then ds[(x-p).toNat]'(by omega) else 48
def putL(f:Int→UInt8)(top mark:Int)(n:Nat):List UInt8:=(List.range n).flatMap fun(i:Nat)=>if top-(i:Int)=mark then [46,f (top-i)] else [f (top-i)]
theorem putL_succ(f:Int→UInt8)(top mark:Int)(n:Nat):putL f top mark (n+1)=putL f top mark n++(if top-(n:Int)=mark then [46,f (top-n)] else [f (top-n)]):=by
 unfold putL
 rw[List.range_succ,List.flatMap_append]
 simp
theorem putL_split(f:Int→UInt8)(top:Int)(m n:Nat):putL f top (top-m) n=(List.range (min n m)).map (fun i=>f (top-(i:Nat)))
  ++ (if m<n then 46 :: (List.range (n-m)).map (fun i=>f (top-m-(i:Nat))) else []):=by
 induction n with
 | zero=>simp[putL]
 | succ n ih=>
  rw[putL_succ,ih]
  by_cases h1:n<m
  ·rw[if_neg (show ¬m<n by omega),if_neg (show ¬m<n+1 by omega),if_neg (show ¬top-(n:Int)=top-(m:Int) by omega),Nat.min_eq_left (by omega),Nat.min_eq_left (by omega),List.range_succ,List.map_append]
   simp
  ·by_cases h2:n=m
   ·subst h2
    rw[if_neg (Nat.lt_irrefl _),if_pos (Nat.lt_succ_self n),if_pos rfl,Nat.min_self,Nat.min_eq_right (show n≤n+1 by omega)]
    simp
   ·rw[if_pos (show m<n by omega),if_pos (show m<n+1 by omega),if_neg (show ¬top-(n:Int)=top-(m:Int) by omega),Nat.min_eq_right (show m≤n by omega),Nat.min_eq_right (show m≤n+1 by omega),show n+1-m=(n-m)+1 by omega,List.range_succ,List.map_append]
    simp
    congr 1
    omega
theorem get_data(s:ByteArray)(i:Nat)(h:i<s.size):s.data.toList[i]? = some s[i]:=by
 rw[List.getElem?_eq_getElem (by rw[data_len];exact h)]
 rfl
theorem data_get(s:ByteArray)(i:Nat):s.data.toList[i]? = if h:i<s.size then some s[i] else none:=by
 split
 ·exact get_data s i (by assumption)
 ·rw[List.getElem?_eq_none (by rw[data_len];omega)]
theorem zeros_get(n i:Nat):(zerosB n).data.toList[i]? = if i<n then some 48 else none:=by
 show(List.replicate n (48:UInt8))[i]? = _
 rw[List.getElem?_replicate]
theorem ext_list(s:ByteArray)(i j:Nat):(s.extract i j).data.toList=(s.data.toList.drop i).take (j-i):=by
 rw[Lib.extract_eq]
theorem fix_get(ds:ByteArray)(x:Int)(k i:Nat)(hi:(i:Int)<fxP (x+1)+k):(fxE (fxD ds (x+1)) (fxP (x+1)) k).data.toList[i]? = some (dAt ds x (fxP (x+1)-1-i)):=by
 have key:∀j:Nat,(fxD ds (x+1)).data.toList[j]? = if (j:Int)<(fxP (x+1)-(x+1))+ds.size then some (dAt ds x (fxP (x+1)-1-j)) else none:=fun j=>by
  unfold fxD fxP dAt
  by_cases hp:x+1<1
  ·rw[if_pos hp,if_pos hp,append_list,List.getElem?_append,data_len,zerosB_size]
   split
   ·rw[zeros_get,if_pos (by assumption),if_pos (by omega),dif_neg (by omega)]
   ·rw[data_get]
    split
    ·rw[if_pos (by omega),dif_pos (by omega)]
     congr 1
     congr 1
     omega
    ·rw[if_neg (by omega)]
  ·rw[if_neg hp,if_neg hp,data_get]
   split
   ·rw[if_pos (by omega),dif_pos (by omega)]
    congr 1
    congr 1
    omega
   ·rw[if_neg (by omega)]
 have hsz:((fxD ds (x+1)).size:Int)=fxP (x+1)-(x+1)+ds.size:=by
  rw[fxD_size]
  unfold fxP
  split<;>omega
 unfold fxE
 by_cases hl:((fxD ds (x+1)).size:Int)<fxP (x+1)+k
 ·rw[if_pos hl,append_list,List.getElem?_append,data_len]
  split
  ·rw[key,if_pos (by omega)]
  ·rw[zeros_get,if_pos (by omega)]
   unfold dAt
   rw[dif_neg (by omega)]
 ·rw[if_neg hl,key,if_pos (by omega)]
theorem plain_text(ds:ByteArray)(x:Int)(k:Nat):putL (dAt ds x) (fxP (x+1)-1) (-1) ((fxP (x+1)).toNat+k)=(fixB ds (x+1) k).data.toList:=by
 have hP:1≤fxP (x+1):=by unfold fxP;split<;>omega
 have hm:(-1:Int)=fxP (x+1)-1-((fxP (x+1)).toNat:Int):=by omega
 have hsz:=fxE_size (fxD ds (x+1)) (fxP (x+1)) k
 rw[hm,putL_split,Nat.min_eq_right (by omega)]
 have h1:(List.range (fxP (x+1)).toNat).map (fun i=>dAt ds x (fxP (x+1)-1-(i:Nat)))=((fxE (fxD ds (x+1)) (fxP (x+1)) k).extract 0 (fxP (x+1)).toNat).data.toList:=by
  rw[ext_list]
  apply List.ext_getElem?
  intro i
  simp only[List.drop_zero,Nat.sub_zero,List.getElem?_take,List.getElem?_map]
  by_cases hi:i<(fxP (x+1)).toNat
  ·rw[if_pos hi,fix_get ds x k i (by omega),List.getElem?_range hi]
   rfl
  ·rw[if_neg hi,List.getElem?_eq_none (by simp;omega)]
   rfl
 unfold fixB
 by_cases hk:k=0
 ·subst hk
  rw[if_neg (by omega),if_pos rfl,List.append_nil]
  exact h1
 ·rw[if_pos (by omega),if_neg hk,append_list,append_list,←h1,List.append_assoc]
  congr 1
  show _ = [46]++_
  rw[List.singleton_append]
  congr 1
  rw[ext_list]
  apply List.ext_getElem?
  intro i
  rw[List.getElem?_take,List.getElem?_drop]
  by_cases hi:i<k
  ·rw[if_pos (by omega),fix_get ds x k _ (by omega),List.getElem?_map,List.getElem?_range (by omega)]
   simp only[Option.map_some]
   congr 1
   congr 1
   omega
  ·rw[if_neg (by omega),List.getElem?_eq_none (by simp;omega)]
theorem pad_get(ds:ByteArray)(x:Int)(n i:Nat)(hi:i<n):(padB ds n).data.toList[i]? = some (dAt ds x (x-i)):=by
 unfold padB dAt
 rw[append_list,List.getElem?_append,data_len]
 by_cases hn:n<ds.size
 ·have hs:(ds.extract 0 n).size=n:=by simp;omega
  rw[if_pos hn,hs,if_pos hi,ext_list,List.drop_zero,List.getElem?_take,if_pos (by omega),get_data ds i (by omega),dif_pos (by omega)]
  congr 1
  congr 1
  omega
 ·rw[if_neg hn]
  split
  ·rw[get_data ds i (by assumption),dif_pos (by omega)]
   congr 1
   congr 1
   omega
  ·rw[zeros_get,if_pos (by omega),dif_neg (by omega)]
theorem power_text(ds:ByteArray)(x:Int)(n:Nat)(hn:1≤n):(⟨(putL (dAt ds x) x (x-1) n).toArray⟩:ByteArray)++⟨#[101]⟩++intText x 10=sciB (padB ds n) (x+1):=by
 have hsz:=padB_size ds n
 unfold sciB
 rw[show x+1-1=x by omega,hsz]
 congr 2
 apply bytes_ext
 have h1:(List.range 1).map (fun i=>dAt ds x (x-(i:Nat)))=((padB ds n).extract 0 1).data.toList:=by
  rw[ext_list]
  apply List.ext_getElem?
  intro i
  rw[List.drop_zero,List.getElem?_take]
  by_cases hi:i<1
  ·rw[if_pos (by omega),pad_get ds x n i (by omega),List.getElem?_map,List.getElem?_range hi]
   rfl
  ·rw[if_neg (by omega),List.getElem?_eq_none (by simp;omega)]
 show putL (dAt ds x) x (x-((1:Nat):Int)) n=_
 rw[putL_split,Nat.min_eq_right hn,h1]
 by_cases h2:1<n
 ·rw[if_pos h2,if_pos h2,append_list,append_list]
  congr 1
  show _ = [46]++_
  rw[List.singleton_append]
  congr 1
  rw[ext_list]
  apply List.ext_getElem?
  intro i
  rw[List.getElem?_take,List.getElem?_drop]
  by_cases hi:i<n-1
  ·rw[if_pos (by omega),pad_get ds x n _ (by omega),List.getElem?_map,List.getElem?_range (by omega)]
   simp only[Option.map_some]
   congr 1
   congr 1
   omega
  ·rw[if_neg (by omega),List.getElem?_eq_none (by simp;omega)]
 ·rw[if_neg h2,if_neg h2,List.append_nil]
theorem plainB_fix(ds:ByteArray)(pow:Int)(h0:0<ds.size):plainB ds pow=fixB ds pow ((ds.size:Int)-pow).toNat:=by
 apply bytes_ext
 unfold plainB fixB
 have hz:∀n,(zerosB n).data.toList=List.replicate n 48:=fun _=>rfl
 by_cases hp:pow≤0
 ·have e1:fxD ds pow=zerosB (1-pow).toNat++ds:=by unfold fxD;rw[if_pos (by omega)]
  have e2:fxP pow=1:=by unfold fxP;rw[if_pos (by omega)]
  have e3:fxE (zerosB (1-pow).toNat++ds) 1 ((ds.size:Int)-pow).toNat=zerosB (1-pow).toNat++ds:=by unfold fxE;rw[if_neg (by rw[append_size,zerosB_size];omega)]
  rw[if_pos hp,if_neg (by omega),e1,e2,e3]
  have e4:(1-pow).toNat=(-pow).toNat+1:=by omega
  rw[append_list,append_list,append_list,append_list,ext_list,ext_list,append_list,hz,hz,e4,List.replicate_succ]
  simp
  rw[List.take_of_length_le]
  simp
  omega
 ·rw[if_neg hp]
  have e1:fxD ds pow=ds:=by unfold fxD;rw[if_neg (by omega)]
  have e2:fxP pow=pow:=by unfold fxP;rw[if_neg (by omega)]
  rw[e1,e2]
  by_cases h2:(ds.size:Int)≤pow
  ·rw[if_pos h2,if_pos (by omega),ext_list]
   unfold fxE
   by_cases h3:(ds.size:Int)<pow
   ·rw[if_pos (by omega),append_list,append_list,hz,hz]
    rw[List.drop_zero,List.take_of_length_le (by simp;omega)]
    congr 2
    omega
   ·rw[if_neg (by omega),append_list,hz,show pow.toNat-ds.size=0 by omega]
    simp
    rw[List.take_of_length_le (by simp;omega)]
  ·rw[if_neg h2,if_neg (by omega)]
   have e3:fxE ds pow ((ds.size:Int)-pow).toNat=ds:=by unfold fxE;rw[if_neg (by omega)]
   rw[e3,show pow.toNat+((ds.size:Int)-pow).toNat=ds.size by omega]
   rfl
def TrimR(c:UInt8)(s t:ByteArray):Prop:=(∃j,s.data.toList=t.data.toList++List.replicate j c)∧(∀h:t.size-1<t.size,t[t.size-1].toNat≠c.toNat)
def LowD(ds:ByteArray)(x:Int)(n:Nat)(t:ByteArray)(y:Int):Prop:=∃u,TrimR 48 (ds.extract 0 n) u∧((u.size=0∧t=⟨#[]⟩∧y=0)∨(0<u.size∧t=u∧y=x))
def HighD(ds:ByteArray)(x:Int)(n:Nat)(t:ByteArray)(y:Int):Prop:=∃u,TrimR 57 (ds.extract 0 n) u∧((u.size=0∧t=⟨#[49]⟩∧y=x+1)
 ∨ (0<u.size∧(∃c:UInt8,(∀h:u.size-1<u.size,c.toNat=u[u.size-1].toNat+1)∧t.data.toList=(u.extract 0 (u.size-1)).data.toList++[c])∧y=x))
def RndD(ds:ByteArray)(x n:Int)(t:ByteArray)(y:Int):Prop:=(n<0∧t=⟨#[]⟩∧y=0)∨((ds.size:Int)≤n∧0≤n∧t=ds∧y=x)
 ∨ (0≤n∧n<(ds.size:Int)∧((roundsB ds n=true∧HighD ds x n.toNat t y)∨(roundsB ds n=false∧LowD ds x n.toNat t y)))
theorem pad_take(ds:ByteArray)(n:Nat)(h:n≤ds.size):padB ds n=ds.extract 0 n:=by
 apply bytes_ext
 unfold padB
 rw[append_list,show n-ds.size=0 by omega]
 show _++List.replicate 0 48=_
 rw[List.replicate_zero,List.append_nil]
 split
 ·rfl
 ·rw[ext_list,List.drop_zero,List.take_of_length_le (by rw[data_len];omega)]
theorem pad_long(ds:ByteArray)(n:Nat)(h:ds.size≤n):padB ds n=ds++zerosB (n-ds.size):=by
 unfold padB
 rw[if_neg (by omega)]
theorem good_take(d:ByteArray)(i j:Nat)(hg:good 10 d.data.toList):good 10 (d.extract i j).data.toList:=fun c hc=>by
 rw[ext_list]at hc
 exact hg c (List.mem_of_mem_drop (List.mem_of_mem_take hc))
theorem take_size(ds:ByteArray)(n:Nat)(h:n≤ds.size):(ds.extract 0 n).size=n:=by simp;omega
theorem zeros_data(j:Nat):(zerosB j).data.toList=List.replicate j 48:=rfl
theorem trim_size{c:UInt8}{s t:ByteArray}{j:Nat}(h:s.data.toList=t.data.toList++List.replicate j c):s.size=t.size+j:=by
 rw[←data_len,h,List.length_append,data_len,List.length_replicate]
theorem trim_some{c:UInt8}{s t:ByteArray}(h:TrimR c s t)(h0:0<s.size)(hf:∀h:0<s.size,s[0].toNat≠c.toNat):0<t.size:=by
 obtain⟨⟨j,hj⟩,_⟩:=h
 apply Nat.pos_of_ne_zero
 intro hz
 have hs:=trim_size hj
 have e:t.data.toList = []:=List.length_eq_zero_iff.1 (by rw[data_len];exact hz)
 have h1:=get_data s 0 h0
 rw[hj,e,List.nil_append,List.getElem?_replicate,if_pos (by omega)]at h1
 have h2:=Option.some.inj h1
 exact hf h0 (by rw[←h2])
theorem take_first(ds:ByteArray)(n:Nat)(hn:0<n)(h:0<ds.size)(h':0<(ds.extract 0 n).size):(ds.extract 0 n)[0]=ds[0]:=by
 have h1:=get_data (ds.extract 0 n) 0 h'
 rw[ext_list,List.drop_zero,List.getElem?_take,if_pos (by omega),get_data ds 0 h]at h1
 exact(Option.some.inj h1).symm
theorem low_zero(ds:ByteArray)(x:Int)(t:ByteArray)(y:Int)(h:LowD ds x 0 t y):t=⟨#[]⟩∧y=0:=by
 obtain⟨u,⟨⟨j,hj⟩,_⟩,h⟩:=h
 have hs:=trim_size hj
 have:(ds.extract 0 0).size=0:=by simp
 rcases h with⟨_,h1,h2⟩|⟨h0,_⟩
 ·exact⟨h1,h2⟩
 ·omega
theorem low_pad(ds:ByteArray)(x:Int)(n:Nat)(t:ByteArray)(y:Int)(hn:0<n)(hs:n≤ds.size)(hf:∀h:0<ds.size,ds[0].toNat≠48)(h:LowD ds x n t y) :
  ∃j,padB ds n=t++zerosB j∧y=x∧0<t.size∧t.size+j=n∧(∀h:t.size-1<t.size,t[t.size-1].toNat≠48):=by
 obtain⟨u,hT,h⟩:=h
 have hsz:=take_size ds n hs
 have hu:0<u.size:=trim_some hT (by omega) (fun h=>by rw[take_first ds n hn (by omega) h];exact hf (by omega))
 rcases h with⟨h0,_⟩|⟨_,rfl,rfl⟩
 ·omega
 ·obtain⟨⟨j,hj⟩,hl⟩:=hT
  refine⟨j,?_,rfl,hu,?_,hl⟩
  ·rw[pad_take ds n hs]
   apply bytes_ext
   rw[append_list,hj]
   rfl
  ·have:=trim_size hj
   omega
theorem high_pad(ds:ByteArray)(x:Int)(n:Nat)(t:ByteArray)(y:Int)(hs:n≤ds.size)(hg:good 10 ds.data.toList)(h:HighD ds x n t y) :
  ∃j more,UpD (padB ds n) (t++zerosB j) more∧y=x+(if more then 1 else 0)∧0<t.size∧t.size+j=n+(if more then 1 else 0)∧(more=true→t.size=1)∧(∀h:t.size-1<t.size,t[t.size-1].toNat≠48):=by
 obtain⟨u,⟨⟨j,hj⟩,hl⟩,h⟩:=h
 have hsz:=take_size ds n hs
 have hs2:=trim_size hj
 have hgt:good 10 (ds.extract 0 n).data.toList:=good_take ds 0 n hg
 rw[pad_take ds n hs]
 rcases h with⟨h0,rfl,rfl⟩|⟨h0,⟨c,hc,ht⟩,rfl⟩
 ·have e:u.data.toList = []:=List.length_eq_zero_iff.1 (by rw[data_len];exact h0)
  have hN:Nines (ds.extract 0 n).data.toList 0:=⟨j,by rw[List.take_zero,List.nil_append,hj,e,List.nil_append]⟩
  obtain⟨a,b⟩:=up_none _ hN
  have hall:=nines_all _ hN
  rw[data_len]at a b hall
  have ez:(⟨#[49]⟩++zerosB (ds.extract 0 n).size:ByteArray).data.toList=49 :: List.replicate (ds.extract 0 n).size 48:=by rw[append_list,zeros_data];rfl
  have e1:(⟨#[49]⟩:ByteArray).size=1:=rfl
  refine⟨(ds.extract 0 n).size,true,⟨by rw[ez];exact a,by rw[ez];exact b,by rw[append_size,zerosB_size];simp only[if_true];omega,fun _=>hall⟩,rfl,by omega,by simp only[if_true];omega,fun _=>rfl,fun _=>(by decide:(49:UInt8).toNat≠48)⟩
 ·have hlast:u.size-1<u.size:=by omega
  have hci:=hc hlast
  have hcl:=hl hlast
  have hlen:(ds.extract 0 n).data.toList.length=n:=by rw[data_len];exact hsz
  have hget:(ds.extract 0 n).data.toList[u.size-1]'(by omega)=u[u.size-1]:=by
   have h1:(ds.extract 0 n).data.toList[u.size-1]? = some u[u.size-1]:=by rw[hj,List.getElem?_append_left (by rw[data_len];exact hlast)];exact get_data u _ hlast
   rw[List.getElem?_eq_getElem (by omega)]at h1
   exact Option.some.inj h1
  have htk:∀i,i≤u.size→(ds.extract 0 n).data.toList.take i=u.data.toList.take i:=fun i hi=>by rw[hj,List.take_append_of_le_length (by rw[data_len];exact hi)]
  have hN:Nines (ds.extract 0 n).data.toList (u.size-1+1):=⟨j,by
   rw[show u.size-1+1=u.size by omega,htk _ (Nat.le_refl _),List.take_of_length_le (by rw[data_len];exact Nat.le_refl _)]
   exact hj⟩
  obtain⟨a,b⟩:=up_found _ (u.size-1) (by omega) hgt hN (by rw[hget];exact hcl) c (by rw[hget];exact hci)
  rw[hlen,show n-(u.size-1+1)=j by omega,htk _ (by omega)]at a b
  have ez:(t++zerosB j).data.toList=u.data.toList.take (u.size-1)++[c]++List.replicate j 48:=by
   rw[append_list,ht,zeros_data,ext_list,List.drop_zero,Nat.sub_zero]
  have hts:t.size=u.size:=by
   rw[←data_len,ht,List.length_append,data_len]
   have:=take_size u (u.size-1) (by omega)
   rw[this]
   simp
   omega
  refine⟨j,false,⟨by rw[ez];exact a,by rw[ez];exact b,by rw[append_size,zerosB_size,hts];simp;omega,(fun h=>by cases h)⟩,by simp,by omega,by simp;omega,(fun h=>by cases h),fun h=>?_⟩
  have h1:=get_data t (t.size-1) h
  rw[ht,List.getElem?_append_right (by rw[data_len,take_size u (u.size-1) (by omega)];omega),data_len,take_size u (u.size-1) (by omega),show t.size-1-(u.size-1)=0 by omega]at h1
  have h2:c=t[t.size-1]:=Option.some.inj h1
  rw[←h2]
  have hd:=good_digit (ds.extract 0 n).data.toList[u.size-1] (hgt _ (List.getElem_mem (by omega)))
  rw[hget]at hd
  omega
theorem zeros_app(t:ByteArray)(j:Nat)(y p:Int):dAt (t++zerosB j) y p=dAt t y p:=by
 unfold dAt
 by_cases h:0≤y-p∧y-p<(t.size:Int)
 ·rw[dif_pos h,dif_pos ⟨h.1,by rw[append_size];omega⟩]
  have h1:=get_data (t++zerosB j) (y-p).toNat (by rw[append_size];omega)
  rw[append_list,List.getElem?_append_left (by rw[data_len];omega),get_data t _ (by omega)]at h1
  exact(Option.some.inj h1).symm
 ·rw[dif_neg h]
  by_cases h2:0≤y-p∧y-p<((t++zerosB j).size:Int)
  ·rw[dif_pos h2]
   have h1:=get_data (t++zerosB j) (y-p).toNat (by omega)
   rw[append_size,zerosB_size]at h2
   rw[append_list,List.getElem?_append_right (by rw[data_len];omega),zeros_get,if_pos (by rw[data_len];omega)]at h1
   exact(Option.some.inj h1).symm
  ·rw[dif_neg h2]
theorem fix_zeros(t:ByteArray)(j:Nat)(y:Int)(k:Nat):fixB (t++zerosB j) (y+1) k=fixB t (y+1) k:=by
 apply bytes_ext
 rw[←plain_text,←plain_text,show dAt (t++zerosB j) y=dAt t y from funext fun p=>zeros_app t j y p]
theorem fix_none(p:Int)(hp:p≤1)(k:Nat):fixB ⟨#[]⟩ p k=fixB ⟨#[]⟩ 1 k:=by
 apply bytes_ext
 have e0:∀x,dAt ⟨#[]⟩ x=fun _=>48:=fun x=>funext fun p=>by
  unfold dAt
  rw[dif_neg]
  show ¬(_∧_<((0:Nat):Int))
  omega
 have h1:=plain_text ⟨#[]⟩ (p-1) k
 have h2:=plain_text ⟨#[]⟩ 0 k
 have e1:fxP (p-1+1)=1:=by unfold fxP;split<;>omega
 have e2:fxP (0+1)=1:=rfl
 rw[e1,e0]at h1
 rw[e2,e0]at h2
 rw[show p-1+1=p by omega]at h1
 rw[←h1]
 exact h2
theorem rnd_cut(ds:ByteArray)(x:Int)(n:Nat)(t:ByteArray)(y:Int)(hg:good 10 ds.data.toList)(h0:0<ds.size)(hf:∀h:0<ds.size,ds[0].toNat≠48)(h:RndD ds x (n:Int) t y) :
  ∃d p',cutV ds (x+1) n (roundsB ds (n:Int)) d p'∧((∃j,d=t++zerosB j∧p'=y+1∧0<t.size∧(t.size≤n∨t.size=1))∨(n=0∧d=⟨#[]⟩∧t=⟨#[]⟩∧y=0∧p'=x+1)):=by
 rcases h with⟨h,_⟩|⟨h,_,rfl,rfl⟩|⟨_,h,⟨hr,hh⟩|⟨hr,hl⟩⟩
 ·omega
 ·have hr:roundsB t (n:Int)=false:=by unfold roundsB;rw[dif_neg (by omega)]
  rw[hr]
  exact⟨padB t n,y+1,.inl ⟨rfl,rfl,rfl⟩,.inl ⟨_,pad_long t n (by omega),rfl,h0,.inl (by omega)⟩⟩
 ·rw[Int.toNat_natCast]at hh
  obtain⟨j,more,hu,hy,ht,hj,hm,_⟩:=high_pad ds x n t y (by omega) hg hh
  rw[hr]
  refine⟨t++zerosB j,y+1,.inr ⟨rfl,more,hu,by rw[hy];omega⟩,.inl ⟨j,rfl,rfl,ht,?_⟩⟩
  cases more
  ·simp at hj
   exact .inl (by omega)
  ·exact .inr (hm rfl)
 ·rw[Int.toNat_natCast]at hl
  rw[hr]
  by_cases hn:n=0
  ·subst hn
   obtain⟨rfl,rfl⟩:=low_zero ds x t y hl
   refine⟨padB ds 0,x+1,.inl ⟨rfl,rfl,rfl⟩,.inr ⟨rfl,?_,rfl,rfl,rfl⟩⟩
   rw[pad_take ds 0 (by omega)]
   apply bytes_ext
   rw[ext_list]
   rfl
  ·obtain⟨j,hp,rfl,ht,hj,_⟩:=low_pad ds x n t y (by omega) (by omega) hf hl
   exact⟨padB ds n,y+1,.inl ⟨rfl,rfl,rfl⟩,.inl ⟨j,hp,rfl,ht,.inl (by omega)⟩⟩
theorem rnd_fix(ds:ByteArray)(x:Int)(k:Nat)(t:ByteArray)(y:Int)(hg:good 10 ds.data.toList)(h0:0<ds.size)(hf:∀h:0<ds.size,ds[0].toNat≠48)(h:RndD ds x (x+1+k) t y) :
  ∃d p',FixD ds (x+1) k d p'∧fixB t (y+1) k=fixB d p' k:=by
 by_cases hn:x+1+k<0
 ·rcases h with⟨_,rfl,rfl⟩|⟨_,h,_⟩|⟨h,_⟩
  ·exact⟨_,_,.inl ⟨hn,rfl,rfl⟩,rfl⟩
  ·omega
  ·omega
 ·obtain⟨n,hn'⟩:=Int.eq_ofNat_of_zero_le (show 0≤x+1+k by omega)
  rw[hn']at h
  obtain⟨d,p',hc,hd⟩:=rnd_cut ds x n t y hg h0 hf h
  refine⟨d,p',.inr ⟨by omega,by rw[hn'];exact hc⟩,?_⟩
  rcases hd with⟨j,rfl,rfl,_⟩|⟨hz,rfl,rfl,rfl,rfl⟩
  ·exact(fix_zeros t j y k).symm
  ·rw[fix_none (x+1) (by omega) k]
   rfl
theorem rnd_sci(ds:ByteArray)(x:Int)(n:Nat)(hn:1≤n)(t:ByteArray)(y:Int)(hg:good 10 ds.data.toList)(h0:0<ds.size)(hf:∀h:0<ds.size,ds[0].toNat≠48)(h:RndD ds x (n:Int) t y) :
  ∃d p',cutV ds (x+1) n (roundsB ds (n:Int)) d p'∧sciB (padB t n) (y+1)=sciB (d.extract 0 n) p':=by
 obtain⟨d,p',hc,hd⟩:=rnd_cut ds x n t y hg h0 hf h
 refine⟨d,p',hc,?_⟩
 have hz:=cut5_size ds (x+1) n _ d p' hc
 rcases hd with⟨j,rfl,rfl,ht,hts⟩|⟨h,_⟩
 ·congr 1
  apply bytes_ext
  rw[append_size,zerosB_size]at hz
  rw[pad_long t n (by omega),ext_list,append_list,append_list,List.drop_zero,Nat.sub_zero,zeros_data,zeros_data,List.take_append,data_len,List.take_of_length_le (by rw[data_len];omega),List.take_replicate,Nat.min_eq_left (by omega)]
 ·omega
theorem dig_shift(b:Int)(p s:ByteArray)(i:Nat):Dig b (p++s) (p.size+i)↔Dig b s i:=by
 unfold Dig
 rw[bAt_append_right,append_size]
 constructor<;>rintro⟨h1,h2⟩<;>exact⟨by omega,h2⟩
theorem dch_all:∀d:Fin 36,digN 99 ((dch d.val).toNat:Int)=(d.val:Int):=by decide
theorem dch_dig(d:Nat)(h:d<36):digN 99 ((dch d).toNat:Int)=(d:Int):=dch_all ⟨d,h⟩
theorem good_cons(b:Int)(c:UInt8)(l:List UInt8)(h:digN 99 (c.toNat:Int)<b)(hl:good b l):good b (c :: l):=by
 intro d hd
 rcases List.mem_cons.1 hd with rfl|hd
 ·exact h
 ·exact hl d hd
theorem wr_val(b:Nat)(h2:2≤b)(h36:b≤36):∀ (f n:Nat) (acc:List UInt8),n<2 ^ f→val b (wr f b n acc)=(n:Int)*(b:Int) ^ acc.length+val b acc:=by
 intro f
 induction f with
 | zero=>intro n acc h;simp at h;subst h;simp[wr]
 | succ f ih=>
  intro n acc h
  by_cases hn:n=0
  ·subst hn;rw[wr_zero];simp
  ·have e:wr (f+1) b n acc=wr f b (n / b) (dch (n % b) :: acc):=by show(if n=0 then _ else _)=_;rw[if_neg hn]
   have hm:n % b<b:=Nat.mod_lt _ (by omega)
   rw[e,ih (n / b) _ (wr_bound f b n h2 h),val_cons,dch_dig (n % b) (by omega),List.length_cons,Int.pow_succ]
   have hd:((n / b:Nat):Int)*(b:Int)+((n % b:Nat):Int)=(n:Int):=by
    have:=Nat.div_add_mod n b
    rw[Nat.mul_comm]at this
    exact_mod_cast this
   rw[←Int.add_assoc,Int.mul_comm ((b:Int) ^ acc.length),←Int.mul_assoc,←Int.add_mul,hd]
theorem wr_good(b:Nat)(h2:2≤b)(h36:b≤36):∀ (f n:Nat) (acc:List UInt8),good b acc→good b (wr f b n acc):=by
 intro f
 induction f with
 | zero=>intro n acc h;exact h
 | succ f ih=>
  intro n acc h
  by_cases hn:n=0
  ·subst hn;rw[wr_zero];exact h
  ·have e:wr (f+1) b n acc=wr f b (n / b) (dch (n % b) :: acc):=by show(if n=0 then _ else _)=_;rw[if_neg hn]
   have hm:n % b<b:=Nat.mod_lt _ (by omega)
   rw[e]
   exact ih _ _ (good_cons b _ _ (by rw[dch_dig (n % b) (by omega)];omega) h)
theorem wr_long(b:Nat):∀ (f n:Nat) (acc:List UInt8),acc.length≤(wr f b n acc).length:=by
 intro f
 induction f with
 | zero=>intro n acc;exact Nat.le_refl _
 | succ f ih=>
  intro n acc
  unfold wr
  split
  ·exact Nat.le_refl _
  ·have:=ih (n / b) (dch (n % b) :: acc)
   simp at this
   omega
theorem text_val(b n:Nat)(h2:2≤b)(h36:b≤36)(hn:n<18446744073709551616):val b (textOf b n)=n:=by
 have hm:n % b<b:=Nat.mod_lt _ (by omega)
 unfold textOf
 rw[wr_val b h2 h36 63 _ _ (wr_bound 63 b n h2 (by show n<2 ^ 64;omega)),val_cons,dch_dig (n % b) (by omega)]
 have hd:((n / b:Nat):Int)*(b:Int)+((n % b:Nat):Int)=(n:Int):=by
  have:=Nat.div_add_mod n b
  rw[Nat.mul_comm]at this
  exact_mod_cast this
 have e1:(b:Int) ^ [dch (n % b)].length=b:=by show(b:Int) ^ (0+1)=b;rw[Int.pow_succ,Int.pow_zero,Int.one_mul]
 rw[e1]
 simp[val]at hd ⊢
 exact hd
theorem text_good(b n:Nat)(h2:2≤b)(h36:b≤36):good b (textOf b n):=by
 have hm:n % b<b:=Nat.mod_lt _ (by omega)
 exact wr_good b h2 h36 63 _ _ (good_cons b _ _ (by rw[dch_dig (n % b) (by omega)];omega) (fun c hc=>by cases hc))
theorem text_pos(b n:Nat):1≤(textOf b n).length:=wr_long b 63 (n / b) [dch (n % b)]
end Go.Proofs.YtenbfookfcmpoaaGreatDoor
namespace Go.Proofs.YtenbfookfcmpoaaGreatDoor
open Go.ChangeShapes Go.WideShapes Go.RowKit
theorem run_store_float{P:Program}{w:World}{a:Addr}{m:Mode}(k:FloatKind)(x:Nat):(store a (.float k x) m).run P w=stored P w a (.float k x) m:=run_store P w a _ m rfl
def TrimW(c:UInt8)(s t:ByteArray):Prop:=∃j,s.data.toList=t.data.toList++List.replicate j c
theorem trimW_step{c:UInt8}{s t:ByteArray}(h:TrimW c s t)(h0:0<t.size)(hc:t[t.size-1].toNat=c.toNat):TrimW c s (t.extract 0 (t.size-1)):=by
 obtain⟨j,hj⟩:=h
 refine⟨j+1,?_⟩
 rw[hj,last_cut t h0,UInt8.toNat_inj.1 hc,List.append_assoc,List.replicate_succ]
 rfl
def strLen(v:Value):Nat:=match v with | .string t=>t.size|_=>0
set_option maxHeartbeats 1000000 in
set_option maxRecDepth 100000 in
theorem trimByte_any(s:ByteArray)(c:UInt8)(hs:s.size≤100000)(w:World) :
  Calls Tryz.prog 128 #[.string s,.int .u8 (c.toNat:Int)] w fun e w'=>∃t,TrimR c s t∧t.size≤s.size∧e=.returned (.string t)∧w'=w:=by
 go_enter Tryz.func128,Tryz.ntmps128
 go_wp2
 go_loopw [0] (fun v wl=>∃t:ByteArray,v=.string t∧t.size≤s.size∧Hid (TrimW c s t)∧wl=w) (fun v _=>strLen v)
 case atStart=>exact⟨s,rfl,Nat.le_refl _,⟨0,by simp⟩,rfl⟩
 case round=>
  obtain⟨t,rfl,hts,HT,rfl⟩:=hrel
  have hts':(t.size:Int)≤100000:=by omega
  by_cases h1:0<t.size
  ·obtain⟨k,hk⟩:∃k,t.size=k+1:=⟨t.size-1,by omega⟩
   have hk1:t.size-1=k:=by omega
   have hkl:k<t.size:=by omega
   have hki:(t.size:Int)-1=(k:Int):=by omega
   have h1':(0:Int)<(t.size:Int):=by omega
   by_cases hz:t[k].toNat=c.toNat
   ·have HN:Hid (TrimW c s (t.extract 0 k)):=by
     have:=trimW_step HT.out h1 (by simp only[hk1];exact hz)
     rw[hk1]at this
     exact this
    have hz2:(t[k].toNat:Int)=(c.toNat:Int):=by omega
    have hes:(t.extract 0 k).size=k:=by simp;omega
    clear hk hk1
    go_wp2
    exact⟨⟨_,rfl,by omega,HN.out,trivial⟩,by show(t.extract 0 k).size<t.size;omega⟩
   ·have HX:Hid (TrimR c s t):=⟨HT.out,fun _=>by simp only[hk1];exact hz⟩
    have hz2:((t[k].toNat:Int)==(c.toNat:Int))=false:=beq_eq_false_iff_ne.2 (by omega)
    have hz3:¬(t[k].toNat:Int)=(c.toNat:Int):=by omega
    clear hk hk1
    go_wp2
    go_ret
    exact⟨t,HX.out,hts,rfl,rfl⟩
  ·have HX:Hid (TrimR c s t):=⟨HT.out,fun h=>by omega⟩
   have h1':decide ((0:Int)<(t.size:Int))=false:=decide_eq_false (by omega)
   go_wp2
   go_ret
   exact⟨t,HX.out,hts,rfl,rfl⟩
theorem list_empty(s:ByteArray)(h:s.size=0):s.toList.isEmpty=true:=by
 rw[ByteArray.toList_eq,List.isEmpty_iff]
 exact List.length_eq_zero_iff.1 (by rw[data_len];exact h)
theorem list_some(s:ByteArray)(h:s.size≠0):s.toList.isEmpty=false:=by
 apply Bool.eq_false_iff.2
 intro hc
 have h1:s.toList = []:=List.isEmpty_iff.1 hc
 apply h
 rw[←data_len,←ByteArray.toList_eq,h1]
 rfl
set_option maxHeartbeats 1000000 in
set_option maxRecDepth 100000 in
theorem trimRight_zero(s:ByteArray)(hs:s.size≤100000)(w:World) :
  Calls Tryz.prog 104 #[.string s,.string ⟨#[48]⟩] w fun e w'=>∃t,TrimR 48 s t∧t.size≤s.size∧e=.returned (.string t)∧w'=w:=by
 have HT:Hid _:=fun(w:World)=>trimByte_any s 48 hs w
 by_cases h0:s.size=0
 ·have he:=list_empty s h0
  have HX:Hid (TrimR 48 s s):=⟨⟨0,by simp⟩,fun h=>by omega⟩
  clear HT
  go_enter Tryz.func104,Tryz.ntmps104
  go_wp2
  go_ret
  exact⟨_,HX.out,Nat.le_refl _,rfl,rfl⟩
 ·have he:=list_some s h0
  go_enter Tryz.func104,Tryz.ntmps104
  go_wp2_with fail
  refine(HT.out _).mono ?_
  rintro e w' ⟨t,htr,hsz,rfl,rfl⟩
  have HX:Hid (TrimR 48 s t):=htr
  clear htr
  go_wp2
  go_ret
  exact⟨t,HX.out,hsz,rfl,rfl⟩
set_option maxHeartbeats 1000000 in
set_option maxRecDepth 100000 in
theorem trimRight_nine(s:ByteArray)(hs:s.size≤100000)(w:World) :
  Calls Tryz.prog 104 #[.string s,.string ⟨#[57]⟩] w fun e w'=>∃t,TrimR 57 s t∧t.size≤s.size∧e=.returned (.string t)∧w'=w:=by
 have HT:Hid _:=fun(w:World)=>trimByte_any s 57 hs w
 by_cases h0:s.size=0
 ·have he:=list_empty s h0
  have HX:Hid (TrimR 57 s s):=⟨⟨0,by simp⟩,fun h=>by omega⟩
  clear HT
  go_enter Tryz.func104,Tryz.ntmps104
  go_wp2
  go_ret
  exact⟨_,HX.out,Nat.le_refl _,rfl,rfl⟩
 ·have he:=list_some s h0
  go_enter Tryz.func104,Tryz.ntmps104
  go_wp2_with fail
  refine(HT.out _).mono ?_
  rintro e w' ⟨t,htr,hsz,rfl,rfl⟩
  have HX:Hid (TrimR 57 s t):=htr
  clear htr
  go_wp2
  go_ret
  exact⟨t,HX.out,hsz,rfl,rfl⟩
set_option maxHeartbeats 2000000 in
set_option maxRecDepth 100000 in
theorem trimmed_any(s:ByteArray)(x:Int)(hs:s.size≤100000)(w:World) :
  Calls Tryz.prog 67 #[.string s,.int .i64 x] w fun e w'=>∃t y,(∃u,TrimR 48 s u∧((u.size=0∧t=⟨#[]⟩∧y=0)∨(0<u.size∧t=u∧y=x)))∧t.size≤s.size∧e=.returned (.agg #[.string t,.int .i64 y])∧Below w.heap.size w w':=by
 have HT:Hid _:=fun(w:World)=>trimRight_zero s hs w
 go_enter Tryz.func67,Tryz.ntmps67
 go_wp2_with fail
 refine(HT.out _).mono ?_
 rintro e w' ⟨t,htr,hsz,rfl,rfl⟩
 have HX:Hid (TrimR 48 s t):=htr
 clear htr
 by_cases h0:t.size=0
 ·have he:=list_empty t h0
  go_wp2
  refine bodyPost_ret (v:=.agg #[.string ⟨#[]⟩,.int .i64 0]) (by simp[results,Tryz.results67,go_sem]) rfl ⟨⟨#[]⟩,0,⟨t,HX.out,.inl ⟨h0,rfl,rfl⟩⟩,Nat.zero_le _,rfl,(by repeat (first|with_reducible exact Below.refl _ _|with_reducible refine Below.alloc ?_ (by simp<;>omega) _|with_reducible refine Below.setCell ?_ (by simp<;>omega) _))⟩
 ·have he:=list_some t h0
  go_wp2
  refine bodyPost_ret (v:=.agg #[.string t,.int .i64 x]) (by simp[results,Tryz.results67,go_sem]) rfl ⟨t,x,⟨t,HX.out,.inr ⟨by omega,rfl,rfl⟩⟩,hsz,rfl,(by repeat (first|with_reducible exact Below.refl _ _|with_reducible refine Below.alloc ?_ (by simp<;>omega) _|with_reducible refine Below.setCell ?_ (by simp<;>omega) _))⟩
set_option maxHeartbeats 2000000 in
set_option maxRecDepth 100000 in
theorem countUp_any(ds:ByteArray)(x:Int)(n:Nat)(hs:ds.size≤2000)(hx:-10000≤x)(hx':x≤10000)(hn:n≤ds.size)(hg:good 10 ds.data.toList)(w:World) :
  Calls Tryz.prog 105 #[.agg #[.string ds,.int .i64 x],.int .i64 (n:Int)] w fun e w'=>∃t y,HighD ds x n t y∧e=.returned (.agg #[.string t,.int .i64 y])∧Below w.heap.size w w':=by
 have hsz:=take_size ds n hn
 have HT:Hid _:=fun(w:World)=>trimRight_nine (ds.extract 0 n) (by omega) w
 have hn':(n:Int)≤(ds.size:Int):=by omega
 have hs':(ds.size:Int)≤2000:=by omega
 go_enter Tryz.func105,Tryz.ntmps105
 go_wp2_with fail
 refine(HT.out _).mono ?_
 rintro e w' ⟨u,htr,huz,rfl,rfl⟩
 have HX:Hid (TrimR 57 (ds.extract 0 n) u):=htr
 clear htr HT
 obtain⟨Wb,hWb⟩:∃Wb,(w.alloc (.cells #[.string ds,.int .i64 x] 69)).alloc (.cells #[.string ⟨#[]⟩,.int .i64 0] 69)=Wb:=⟨_,rfl⟩
 have hWz:Wb.heap.size=w.heap.size+2:=by rw[←hWb];simp
 have b1:Wb.cell? ⟨w.heap.size,1,none⟩=some (.int .i64 x):=by rw[←hWb];simp[go_sem]
 have r0:Wb.cell? ⟨w.heap.size+1,0,none⟩=some (.string ⟨#[]⟩):=by rw[←hWb];simp[go_sem]
 have r1:Wb.cell? ⟨w.heap.size+1,1,none⟩=some (.int .i64 0):=by rw[←hWb];simp[go_sem]
 have g0:Wb.frozen? ⟨w.heap.size+1,0,none⟩=false:=by rw[←hWb];simp[go_sem]
 have g1:Wb.frozen? ⟨w.heap.size+1,1,none⟩=false:=by rw[←hWb];simp[go_sem]
 have HBb:Hid (Below w.heap.size w Wb):=by rw[←hWb];exact((Below.refl _ _).alloc (Nat.le_refl _) _).alloc (by simp) _
 rw[hWb]
 clear hWb
 obtain⟨cap,W,hrun,hB,hlt,hcl,hfr⟩:=bytes_new Wb u
 have hb1:W.cell? ⟨w.heap.size,1,none⟩=some (.int .i64 x):=(hB.cell (p:=⟨w.heap.size,1,none⟩) (by show w.heap.size<_;omega)).trans b1
 have hr0:W.cell? ⟨w.heap.size+1,0,none⟩=some (.string ⟨#[]⟩):=(hB.cell (p:=⟨w.heap.size+1,0,none⟩) (by show w.heap.size+1<_;omega)).trans r0
 have hr1:W.cell? ⟨w.heap.size+1,1,none⟩=some (.int .i64 0):=(hB.cell (p:=⟨w.heap.size+1,1,none⟩) (by show w.heap.size+1<_;omega)).trans r1
 have hg0:W.frozen? ⟨w.heap.size+1,0,none⟩=false:=(hB.frozen (p:=⟨w.heap.size+1,0,none⟩) (by show w.heap.size+1<_;omega)).trans g0
 have hg1:W.frozen? ⟨w.heap.size+1,1,none⟩=false:=(hB.frozen (p:=⟨w.heap.size+1,1,none⟩) (by show w.heap.size+1<_;omega)).trans g1
 have HBW:Hid (Below w.heap.size w W):=HBb.out.trans (hB.mono (by omega))
 have HU:Hid (UpSt u Wb.heap.size u.size W W):=⟨Only.refl _ _,fun j h _=>hcl j h,fun j h hk=>by omega,hfr⟩
 have hus:(u.size:Int)≤2000:=by omega
 rw[hWz]at hrun HU
 clear b1 r0 r1 g0 g1 hcl hfr hB hlt hWz
 by_cases h0:u.size=0
 ·have h0':(u.size:Int)=0:=by omega
  go_wp2
  refine bodyPost_ret (v:=.agg #[.string ⟨#[49]⟩,.int .i64 (x+1)]) (by simp[results,Tryz.results105,go_sem,hr0,hr1]) rfl ⟨⟨#[49]⟩,x+1,⟨u,HX.out,.inl ⟨h0,rfl,rfl⟩⟩,rfl,?_⟩
  exact(HBW.out.setCell (p:=⟨w.heap.size+1,0,none⟩) (by simp) _).setCell (p:=⟨w.heap.size+1,1,none⟩) (by simp) _
 ·obtain⟨k,hk⟩:∃k,u.size=k+1:=⟨u.size-1,by omega⟩
  have hkl:k<u.size:=by omega
  have hki:(u.size:Int)-1=(k:Int):=by omega
  have h0':¬(u.size:Int)=0:=by omega
  rw[hk]at HU
  have hx0:=HU.out.2.1 k hkl (by omega)
  have hf0:=HU.out.2.2.2 k hkl
  have hgu:good 10 u.data.toList:=by
   obtain⟨⟨j,hj⟩,_⟩:=HX.out
   exact fun c hc=>good_take ds 0 n hg c (by rw[hj];exact List.mem_append_left _ hc)
  obtain⟨d1,d2,_⟩:=good_digit u[k] (good_at 10 u hgu k hkl)
  have d3:u[k].toNat≠57:=by
   have:=HX.out.2 (by omega)
   simp only[show u.size-1=k by omega]at this
   exact this
  have hb:=byte_up u[k] d2
  have hcv:=HU.out.text hkl (UInt8.ofNat (u[k].toNat+1)) cap
  rw[hb]at hcv
  have HD:Hid (HighD ds x n ⟨(u.data.toList.take k++[UInt8.ofNat (u[k].toNat+1)]++List.replicate (u.data.toList.length-(k+1)) 48).toArray⟩ x):=by
   refine⟨u,HX.out,.inr ⟨by omega,⟨UInt8.ofNat (u[k].toNat+1),fun _=>?_,?_⟩,rfl⟩⟩
   ·simp only[show u.size-1=k by omega]
    exact hb
   ·rw[show u.size-1=k by omega,ext_list,List.drop_zero,Nat.sub_zero,data_len,show u.size-(k+1)=0 by omega]
    simp
  generalize (⟨(u.data.toList.take k++[UInt8.ofNat (u[k].toNat+1)]++List.replicate (u.data.toList.length-(k+1)) 48).toArray⟩:ByteArray)=Z at *
  obtain⟨c,hc⟩:∃c:Int,c=(u[k].toNat:Int):=⟨_,rfl⟩
  rw[show((u[k].toNat+1:Nat):Int)=c+1 by omega]at hcv
  rw[←hc]at hx0
  have hc0:48≤c:=by omega
  have hc1:c≤56:=by omega
  clear hc d1 d2 d3 hb hk hgu
  go_wp2
  refine bodyPost_ret (v:=.agg #[.string Z,.int .i64 x]) (by simp[results,Tryz.results105,go_sem,hr0,hr1]) rfl ⟨Z,x,HD.out,rfl,?_⟩
  exact((HBW.out.setCell (p:=⟨w.heap.size+2,k,none⟩) (by simp) _).setCell (p:=⟨w.heap.size+1,0,none⟩) (by simp) _).setCell (p:=⟨w.heap.size+1,1,none⟩) (by simp) _
end Go.Proofs.YtenbfookfcmpoaaGreatDoor
