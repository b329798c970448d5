import Derived.WalkKit
import Derived.Laws.FloatArith
import Derived.Test.YtenbfookfcmpoaaGreatDoorRows
import Derived.WalkSpells
import Derived.WalkLawsBesides
import Derived.Outline
import Derived.BigQuiet
import Derived.Deep.QuietTactic
import Derived.Laws.BitsAllLaws
import Derived.Laws.BitsLemmas
import Derived.Laws.MathBits
import Derived.Laws.Tables
import Derived.Deep.MidRow
import Derived.Deep.WholeRow
import Derived.Deep.RegionHeld3
namespace Go.Proofs.YtenbfookfcmpoaaGreatDoor
open Ieee
theorem cut_zero(neg:Bool)(n:Nat):Toward.even.cut neg n 0=n:=by
 simp[Toward.cut]
 omega
theorem log2_mul(n k:Nat)(hn:0<n):(n*2 ^ k).log2=n.log2+k:=by
 rw[Nat.log2_eq_iff (Nat.ne_of_gt (Nat.mul_pos hn (Nat.two_pow_pos k)))]
 have h1:=Nat.log2_self_le (Nat.ne_of_gt hn)
 have h2:=Nat.lt_log2_self (n:=n)
 have hk:0<2 ^ k:=Nat.two_pow_pos k
 constructor
 ·rw[Nat.pow_add];exact Nat.mul_le_mul_right _ h1
 ·rw[show n.log2+k+1=(n.log2+1)+k by omega,Nat.pow_add];exact Nat.mul_lt_mul_of_pos_right h2 hk
theorem cut_mul(neg:Bool)(n d k:Nat)(hn:0<n):Toward.even.cut neg (n*2 ^ k) (d+k)=Toward.even.cut neg n d:=by
 have hk:0<2 ^ k:=Nat.two_pow_pos k
 have e:min (d+k) ((n*2 ^ k).log2+2)=min d (n.log2+2)+k:=by rw[log2_mul n k hn];omega
 unfold Toward.cut
 simp only[e,Nat.shiftLeft_eq,Nat.one_mul]
 generalize min d (n.log2+2)=g
 rw[Nat.pow_add,Nat.mul_div_mul_right _ _ hk,Nat.mul_mod_mul_right]
 have e1:(2 ^ g*2 ^ k<2*(n % 2 ^ g*2 ^ k))↔2 ^ g<2*(n % 2 ^ g):=by
  rw[←Nat.mul_assoc];exact Nat.mul_lt_mul_right hk
 have e2:(2 ^ g*2 ^ k=2*(n % 2 ^ g*2 ^ k))↔2 ^ g=2*(n % 2 ^ g):=by
  rw[←Nat.mul_assoc];exact Nat.mul_left_inj (Nat.ne_of_gt hk)
 have e3:(2 ^ g*2 ^ k==2*(n % 2 ^ g*2 ^ k))=(2 ^ g==2*(n % 2 ^ g)):=by
  rw[Bool.eq_iff_iff];simp only[beq_iff_eq];exact e2
 simp only[e1,e3]
theorem cut_exact(neg:Bool)(n k:Nat)(hn:0<n):Toward.even.cut neg (n*2 ^ k) k=n:=by
 have h:=cut_mul neg n 0 k hn
 rw[Nat.zero_add,cut_zero]at h
 exact h
theorem nearest_scale(f:Format)(neg:Bool)(m k:Nat)(p:Int):f.nearest neg (m*2 ^ k) (p-k)=f.nearest neg m p:=by
 by_cases hm:m=0
 ·subst hm;simp[Format.nearest]
 ·have hm':0<m:=Nat.pos_of_ne_zero hm
  have hk:0<2 ^ k:=Nat.two_pow_pos k
  have hmk:m*2 ^ k≠0:=Nat.ne_of_gt (Nat.mul_pos hm' hk)
  unfold Format.nearest
  simp only[hm,hmk,if_false,log2_mul m k hm',Nat.shiftLeft_eq]
  have e:p-(k:Int)+((m.log2+k:Nat):Int)-(f.fractionBits:Int)=p+(m.log2:Int)-f.fractionBits:=by omega
  rw[e]
  generalize max (p+(m.log2:Int)-f.fractionBits) f.leastPlace=last
  have key:Toward.even.cut neg (m*2 ^ k*2 ^ (p-k-last).toNat) (last-(p-k)).toNat=Toward.even.cut neg (m*2 ^ (p-last).toNat) (last-p).toNat:=by
   by_cases h1:last≤p-k
   ·have a1:(last-(p-k)).toNat=0:=by omega
    have a2:(last-p).toNat=0:=by omega
    rw[a1,a2,cut_zero,cut_zero,Nat.mul_assoc,←Nat.pow_add,show k+(p-k-last).toNat=(p-last).toNat by omega]
   ·have b1:(p-k-last).toNat=0:=by omega
    rw[b1,Nat.pow_zero,Nat.mul_one]
    by_cases h2:last≤p
    ·have b2:(last-p).toNat=0:=by omega
     rw[b2,cut_zero]
     have b3:k=(p-last).toNat+(last-(p-k)).toNat:=by omega
     have:m*2 ^ k=m*2 ^ (p-last).toNat*2 ^ (last-(p-k)).toNat:=by
      rw[Nat.mul_assoc,←Nat.pow_add,←b3]
     rw[this]
     exact cut_exact neg _ _ (Nat.mul_pos hm' (Nat.two_pow_pos _))
    ·have b2:(p-last).toNat=0:=by omega
     rw[b2,Nat.pow_zero,Nat.mul_one,show(last-(p-k)).toNat=(last-p).toNat+k by omega]
     exact cut_mul neg m _ k hm'
  rw[key]
def fw(neg:Bool)(m:Nat)(p:Int):Nat:=double.nearest neg m p
theorem fw_scale(neg:Bool)(m k:Nat)(p:Int):fw neg (m*2 ^ k) (p-k)=fw neg m p:=nearest_scale double neg m k p
def signBit(neg:Bool):Nat:=if neg then 9223372036854775808 else 0
theorem word_eq(neg:Bool)(r:Nat):double.word neg r=signBit neg+r:=by
 cases neg
 ·show r=0+r;omega
 ·rfl
theorem infRung_eq:double.infRung=9218868437227405312:=by decide
theorem binade_eq:double.binade=4503599627370496:=by decide
theorem least_eq:double.leastPlace = -1074:=by decide
theorem weight_eq:double.signWeight=9223372036854775808:=by decide
theorem frac_eq:double.fractionBits=52:=rfl
def Canon(m:Nat)(p:Int):Prop:=(4503599627370496≤m∧m<9007199254740992∧-1074≤p∧p≤971)∨(m<4503599627370496∧p = -1074)
def rung(m:Nat)(p:Int):Nat:=(p+1074).toNat*4503599627370496+m
theorem log2_53(m:Nat)(h1:4503599627370496≤m)(h2:m<9007199254740992):m.log2=52:=by
 rw[Nat.log2_eq_iff (by omega)]
 exact⟨h1,h2⟩
theorem log2_lt(m:Nat)(h0:m≠0)(h2:m<4503599627370496):m.log2<52:=by
 have h:m.log2<52↔m<2 ^ 52:=Nat.log2_lt h0
 exact h.2 h2
theorem rung_lt(m:Nat)(p:Int)(h:Canon m p):rung m p<9218868437227405312:=by
 unfold rung
 rcases h with⟨h1,h2,h3,h4⟩|⟨h1,rfl⟩<;>omega
theorem fw_canon(neg:Bool)(m:Nat)(p:Int)(h:Canon m p):fw neg m p=signBit neg+rung m p:=by
 have hr:=rung_lt m p h
 unfold fw Format.nearest
 by_cases h0:m=0
 ·subst h0
  have hp:p = -1074:=by rcases h with⟨h1,_⟩|⟨_,hp⟩<;>omega
  subst hp
  rw[if_pos rfl,word_eq]
  rfl
 ·rw[if_neg h0]
  simp only[word_eq,infRung_eq,binade_eq,least_eq,frac_eq]
  have e:max (p+(m.log2:Int)-((52:Nat):Int)) (-1074)=p:=by
   rcases h with⟨h1,h2,h3,h4⟩|⟨h1,rfl⟩
   ·rw[log2_53 m h1 h2];omega
   ·have:=log2_lt m h0 h1;omega
  rw[e,show(p-p).toNat=0 by omega,Nat.shiftLeft_zero,cut_zero,show(p - -1074).toNat=(p+1074).toNat by omega]
  show signBit neg+min (rung m p) _=_
  rw[Nat.min_eq_left (by omega)]
theorem sign_read(neg:Bool)(r:Nat)(h:r<9223372036854775808):((signBit neg+r) / 9223372036854775808 % 2==1)=neg∧(signBit neg+r) % 9223372036854775808=r:=by
 cases neg
 ·have e:signBit false=0:=rfl
  rw[e]
  constructor
  ·rw[show(0+r) / 9223372036854775808=0 by omega];rfl
  ·omega
 ·have e:signBit true=9223372036854775808:=rfl
  rw[e]
  constructor
  ·rw[show(9223372036854775808+r) / 9223372036854775808=1 by omega];rfl
  ·omega
theorem read_canon(neg:Bool)(m:Nat)(p:Int)(h:Canon m p):double.read (fw neg m p)=.number neg m p:=by
 have hr:=rung_lt m p h
 obtain⟨s1,s2⟩:=sign_read neg (rung m p) (by omega)
 rw[fw_canon neg m p h]
 unfold Format.read
 simp only[weight_eq,binade_eq,infRung_eq,least_eq,s1,s2]
 unfold rung at hr ⊢
 rcases h with⟨h1,h2,h3,h4⟩|⟨h1,rfl⟩
 ·have e0:¬((p+1074).toNat*4503599627370496+m<4503599627370496):=by omega
  have e1:((p+1074).toNat*4503599627370496+m) % 4503599627370496=m-4503599627370496:=by omega
  have e2:((p+1074).toNat*4503599627370496+m) / 4503599627370496=(p+1074).toNat+1:=by omega
  have a1:4503599627370496+(m-4503599627370496)=m:=by omega
  have a2:(-1074:Int)+(((p+1074).toNat+1-1:Nat):Int)=p:=by omega
  rw[if_neg e0,if_pos hr,e1,e2,a1,a2]
 ·have e0:((-1074:Int)+1074).toNat*4503599627370496+m=m:=by omega
  rw[e0,if_pos h1]
theorem word_cases(x:Nat)(hx:x<18446744073709551616) :
  (∃s n,double.read x=.nan s n)∨(∃s,x=signBit s+9218868437227405312∧double.read x=.infinity s)∨(∃s m p,Canon m p∧x=fw s m p):=by
 obtain⟨s,r,hr,rfl⟩:∃s r,r<9223372036854775808∧x=signBit s+r:=by
  by_cases h:x<9223372036854775808
  ·exact⟨false,x,h,by show x=0+x;omega⟩
  ·exact⟨true,x-9223372036854775808,by omega,by show x=9223372036854775808+_;omega⟩
 obtain⟨s1,s2⟩:=sign_read s r hr
 have hread:double.read (signBit s+r)=if r<4503599627370496 then .number s r (-1074) else if r<9218868437227405312 then .number s (4503599627370496+r % 4503599627370496) (-1074+((r / 4503599627370496-1:Nat):Int)) else if r=9218868437227405312 then .infinity s else .nan s (r-9218868437227405312):=by
  unfold Format.read
  simp only[weight_eq,binade_eq,infRung_eq,least_eq,s1,s2]
 by_cases h1:r<4503599627370496
 ·refine .inr (.inr ⟨s,r,-1074,.inr ⟨h1,rfl⟩,?_⟩)
  rw[fw_canon s r (-1074) (.inr ⟨h1,rfl⟩)]
  unfold rung
  omega
 ·by_cases h2:r<9218868437227405312
  ·have hc:Canon (4503599627370496+r % 4503599627370496) (-1074+((r / 4503599627370496-1:Nat):Int)):=.inl ⟨by omega,by omega,by omega,by omega⟩
   refine .inr (.inr ⟨s,_,_,hc,?_⟩)
   rw[fw_canon s _ _ hc]
   unfold rung
   omega
  ·by_cases h3:r=9218868437227405312
   ·refine .inr (.inl ⟨s,by omega,?_⟩)
    rw[hread,if_neg h1,if_neg h2,if_pos h3]
   ·refine .inl ⟨s,r-9218868437227405312,?_⟩
    rw[hread,if_neg h1,if_neg h2,if_neg h3]
def sval(neg:Bool)(m:Nat)(p:Int):Int:=signed neg m (p+2200).toNat
theorem signed_eq(neg:Bool)(m k:Nat):signed neg m k=(if neg then -1 else 1)*((m*2 ^ k:Nat):Int):=by
 unfold signed
 rw[Nat.shiftLeft_eq]
 cases neg
 ·simp
 ·simp
theorem signed_add(neg:Bool)(m a b:Nat):signed neg m (a+b)=signed neg m a*2 ^ b:=by
 rw[signed_eq,signed_eq,Nat.pow_add,←Nat.mul_assoc]
 push_cast
 simp only[Int.mul_assoc]
theorem compare_mul(a b c:Int)(hc:0<c):compare (a*c) (b*c)=compare a b:=by
 simp only[compare,compareOfLessAndEq]
 have h1:a*c<b*c↔a<b:=Int.mul_lt_mul_right hc
 have h2:a*c=b*c↔a=b:=Int.mul_eq_mul_right_iff (by omega)
 simp only[h1,h2]
theorem order_numbers(s t:Bool)(m n:Nat)(i j:Int)(hi:-2200≤i)(hj:-2200≤j) :
  Datum.order (.number s m i) (.number t n j)=some (compare (sval s m i) (sval t n j)):=by
 unfold Datum.order sval
 simp only
 have e1:(i+2200).toNat=(i-min i j).toNat+(min i j+2200).toNat:=by omega
 have e2:(j+2200).toNat=(j-min i j).toNat+(min i j+2200).toNat:=by omega
 rw[e1,e2,signed_add,signed_add,compare_mul _ _ _ (Int.pow_pos (by omega))]
theorem order_fw(s t:Bool)(m n:Nat)(i j:Int)(h:Canon m i)(k:Canon n j):double.order (fw s m i) (fw t n j)=some (compare (sval s m i) (sval t n j)):=by
 unfold Format.order
 rw[read_canon s m i h,read_canon t n j k]
 exact order_numbers s t m n i j (by rcases h with h|h<;>omega) (by rcases k with k|k<;>omega)
theorem mul_pow(s:Bool)(m:Nat)(i:Int)(h:Canon m i)(e:Int)(he:-1022≤e)(he':e≤1023):double.mul (fw s m i) (fw false 4503599627370496 (e-52))=some (fw s m (i+e)):=by
 unfold Format.mul
 rw[read_canon s m i h,read_canon false _ _ (.inl ⟨by omega,by omega,by omega,by omega⟩)]
 show some (double.nearest (s ^^ false) (m*4503599627370496) (i+(e-52)))=_
 rw[Bool.xor_false]
 have:=fw_scale s m 52 (i+e)
 unfold fw at this ⊢
 rw[←this]
 rw[show i+e-((52:Nat):Int)=i+(e-52) by omega]
theorem canon_of(m:Nat)(p:Int)(hm:0<m)(h53:m<9007199254740992)(hp:-1074≤p)(hu:p+m.log2≤1023):∃k:Nat,(k:Int)≤p+1074∧Canon (m*2 ^ k) (p-k)∧∀s,fw s m p=fw s (m*2 ^ k) (p-k):=by
 have hl:m.log2≤52:=by
  have h:m.log2<53↔m<2 ^ 53:=Nat.log2_lt (by omega)
  have:=h.2 h53
  omega
 have hlo:=Nat.log2_self_le (Nat.ne_of_gt hm)
 have hhi:=Nat.lt_log2_self (n:=m)
 refine⟨min (52-m.log2) (p+1074).toNat,by omega,?_,fun s=>(fw_scale s m _ p).symm⟩
 by_cases hc:52-m.log2≤(p+1074).toNat
 ·rw[Nat.min_eq_left hc]
  have a1:2 ^ m.log2*2 ^ (52-m.log2)≤m*2 ^ (52-m.log2):=Nat.mul_le_mul_right _ hlo
  have a2:m*2 ^ (52-m.log2)<2 ^ (m.log2+1)*2 ^ (52-m.log2):=Nat.mul_lt_mul_of_pos_right hhi (Nat.two_pow_pos _)
  rw[←Nat.pow_add,show m.log2+(52-m.log2)=52 by omega]at a1
  rw[←Nat.pow_add,show m.log2+1+(52-m.log2)=53 by omega]at a2
  exact .inl ⟨a1,a2,by omega,by omega⟩
 ·rw[Nat.min_eq_right (by omega)]
  have a2:m*2 ^ (p+1074).toNat<2 ^ (m.log2+1)*2 ^ (p+1074).toNat:=Nat.mul_lt_mul_of_pos_right hhi (Nat.two_pow_pos _)
  rw[←Nat.pow_add]at a2
  have a3:2 ^ (m.log2+1+(p+1074).toNat)≤2 ^ 52:=Nat.pow_le_pow_right (by omega) (by omega)
  exact .inr ⟨Nat.lt_of_lt_of_le a2 a3,by omega⟩
theorem xor_top(r:Nat)(h:r<2 ^ 63):(2 ^ 63+r) ^^^ 2 ^ 63=r∧r ^^^ 2 ^ 63=2 ^ 63+r:=by
 have e:2 ^ 63+r=2 ^ 63 ||| r:=by have:=Nat.two_pow_add_eq_or_of_lt h 1;simpa using this
 have hb:r.testBit 63=false:=Nat.testBit_lt_two_pow h
 constructor
 ·rw[e]
  apply Nat.eq_of_testBit_eq
  intro i
  simp only[Nat.testBit_xor,Nat.testBit_or,Nat.testBit_two_pow]
  by_cases hi:63=i
  ·subst hi;simp[hb]
  ·simp[hi]
 ·rw[e]
  apply Nat.eq_of_testBit_eq
  intro i
  simp only[Nat.testBit_xor,Nat.testBit_or,Nat.testBit_two_pow]
  by_cases hi:63=i
  ·subst hi;simp[hb]
  ·simp[hi]
theorem neg_word(s:Bool)(r:Nat)(h:r<9223372036854775808):Op.negFloat .f64 (signBit s+r)=signBit (!s)+r:=by
 have hx:=xor_top r h
 cases s
 ·show(0+r) ^^^ 2 ^ 63=9223372036854775808+r
  rw[Nat.zero_add,hx.2]
 ·show(9223372036854775808+r) ^^^ 2 ^ 63=0+r
  rw[Nat.zero_add];exact hx.1
theorem neg_fw(s:Bool)(m:Nat)(p:Int)(h:Canon m p):Op.negFloat .f64 (fw s m p)=fw (!s) m p:=by
 have:=rung_lt m p h
 rw[fw_canon s m p h,fw_canon (!s) m p h,neg_word s _ (by omega)]
def iw(s:Bool):Nat:=signBit s+9218868437227405312
theorem read_iw(s:Bool):double.read (iw s)=.infinity s:=by cases s<;>decide
theorem neg_iw(s:Bool):Op.negFloat .f64 (iw s)=iw (!s):=neg_word s _ (by omega)
theorem order_nan(x y:Nat)(s:Bool)(n:Nat)(h:double.read x=.nan s n):double.order x y=none∧double.order y x=none:=by
 unfold Format.order
 rw[h]
 refine⟨by simp[Datum.order],?_⟩
 cases double.read y<;>simp[Datum.order]
theorem order_self_fw(s:Bool)(m:Nat)(p:Int)(h:Canon m p):double.order (fw s m p) (fw s m p)=some .eq:=by
 rw[order_fw s s m m p p h h]
 simp[compare,compareOfLessAndEq]
theorem order_self_iw(s:Bool):double.order (iw s) (iw s)=some .eq:=by cases s<;>decide
theorem order_iw_fw(s t:Bool)(m:Nat)(p:Int)(h:Canon m p):double.order (iw s) (fw t m p)=some (if s then .lt else .gt):=by
 unfold Format.order;rw[read_iw,read_canon t m p h];rfl
theorem order_fw_iw(s t:Bool)(m:Nat)(p:Int)(h:Canon m p):double.order (fw t m p) (iw s)=some (if s then .gt else .lt):=by
 unfold Format.order;rw[read_iw,read_canon t m p h];rfl
theorem fw_zero(s:Bool)(p:Int):fw s 0 p=signBit s:=by
 unfold fw Format.nearest;rw[if_pos rfl,word_eq];omega
theorem canon_zero:Canon 0 (-1074):=.inr ⟨by omega,rfl⟩
theorem sub_one(M:Nat)(h:M<4503599627370496):double.sub (fw false (4503599627370496+M) (-52)) (fw false 4503599627370496 (-52))=some (fw false M (-52)):=by
 unfold Format.sub
 rw[read_canon false _ _ (.inl ⟨by omega,by omega,by omega,by omega⟩),read_canon false _ _ (.inl ⟨by omega,by omega,by omega,by omega⟩)]
 show(Datum.sum (.number false (4503599627370496+M) (-52)) (.number true 4503599627370496 (-52))).map double.write=_
 have e:signed false (4503599627370496+M) 0+signed true 4503599627370496 0=(M:Int):=by
  rw[signed_eq,signed_eq,Nat.pow_zero,Nat.mul_one,Nat.mul_one]
  simp;omega
 unfold Datum.sum
 simp only[Int.min_self,Int.sub_self,Int.toNat_zero,e]
 have e2:(if (M:Int)=0 then (false&&true) else decide ((M:Int)<0))=false:=by
  split
  ·rfl
  ·simp
 rw[e2]
 rfl
theorem cut_toward(neg:Bool)(n d:Nat):Toward.zero.cut neg n d=n / 2 ^ d:=by
 unfold Toward.cut
 simp only[Nat.shiftLeft_eq,Nat.one_mul,Bool.toNat_false,Nat.add_zero]
 by_cases h:d≤n.log2+2
 ·rw[Nat.min_eq_left h]
 ·rw[Nat.min_eq_right (by omega)]
  have h1:n<2 ^ (n.log2+1):=Nat.lt_log2_self
  have h2:2 ^ (n.log2+1)≤2 ^ (n.log2+2):=Nat.pow_le_pow_right (by omega) (by omega)
  have h3:2 ^ (n.log2+1)≤2 ^ d:=Nat.pow_le_pow_right (by omega) (by omega)
  rw[Nat.div_eq_of_lt (by omega),Nat.div_eq_of_lt (by omega)]
theorem toInt_number(s:Bool)(m:Nat)(p:Int):Datum.toInt .zero (.number s m p)=some (signed s (m*2 ^ p.toNat / 2 ^ (-p).toNat) 0):=by
 unfold Datum.toInt Datum.integral
 simp only[cut_toward,Nat.shiftLeft_eq]
theorem whole_fw(s:Bool)(n:Nat)(h:n<9007199254740992):Datum.toInt .zero (double.read (fw s n 0))=some (signed s n 0):=by
 by_cases h0:n=0
 ·subst h0
  rw[fw_zero,←fw_zero s (-1074),read_canon s 0 (-1074) canon_zero,toInt_number,Nat.zero_mul,Nat.zero_div]
 ·have hl:n.log2≤52:=by
   have hh:n.log2<53↔n<2 ^ 53:=Nat.log2_lt h0
   have:=hh.2 h
   omega
  obtain⟨k,_,hc,he⟩:=canon_of n 0 (by omega) h (by omega) (by omega)
  rw[he s,read_canon s _ _ hc,toInt_number]
  have e1:(0-(k:Int)).toNat=0:=by omega
  have e2:(-(0-(k:Int))).toNat=k:=by omega
  rw[e1,e2,Nat.pow_zero,Nat.mul_one,Nat.mul_div_cancel _ (Nat.two_pow_pos k)]
def Rep(m:Nat)(p:Int):Prop:=m<9007199254740992∧-1074≤p∧(m=0∨p+m.log2≤1023)
theorem sval_zero(s:Bool)(p:Int):sval s 0 p=0:=by unfold sval;rw[signed_eq,Nat.zero_mul];simp
theorem sval_scale(s:Bool)(m k:Nat)(p:Int)(h:-2200≤p-k):sval s (m*2 ^ k) (p-k)=sval s m p:=by
 unfold sval
 rw[signed_eq,signed_eq,Nat.mul_assoc,←Nat.pow_add,show k+(p-k+2200).toNat=(p+2200).toNat by omega]
theorem sval_le(m n:Nat)(p q:Int)(h:n≤m)(hp:q≤p):sval false n q≤sval false m p:=by
 unfold sval
 rw[signed_eq,signed_eq]
 have h1:n*2 ^ (q+2200).toNat≤m*2 ^ (p+2200).toNat:=Nat.mul_le_mul h (Nat.pow_le_pow_right (by omega) (by omega))
 simp only[Bool.false_eq_true,if_false,Int.one_mul]
 exact Int.ofNat_le.2 h1
theorem sval_lt(m n:Nat)(p q:Int)(h:m<n)(hp:p≤q):sval false m p<sval false n q:=by
 unfold sval
 rw[signed_eq,signed_eq]
 have h1:m*2 ^ (p+2200).toNat<n*2 ^ (p+2200).toNat:=Nat.mul_lt_mul_of_pos_right h (Nat.two_pow_pos _)
 have h2:n*2 ^ (p+2200).toNat≤n*2 ^ (q+2200).toNat:=Nat.mul_le_mul_left _ (Nat.pow_le_pow_right (by omega) (by omega))
 simp only[Bool.false_eq_true,if_false,Int.one_mul]
 exact Int.ofNat_lt.2 (Nat.lt_of_lt_of_le h1 h2)
theorem rep_canon(m:Nat)(p:Int)(h:Rep m p):∃n q,Canon n q∧(∀s,fw s m p=fw s n q)∧(∀s,sval s m p=sval s n q)∧(0<m→0<n):=by
 obtain⟨h53,hp,hl⟩:=h
 by_cases h0:m=0
 ·subst h0
  exact⟨0,-1074,canon_zero,fun s=>by rw[fw_zero,fw_zero],fun s=>by rw[sval_zero,sval_zero],fun h=>h⟩
 ·obtain⟨k,hk,hc,he⟩:=canon_of m p (by omega) h53 hp (by rcases hl with hl|hl<;>omega)
  exact⟨_,_,hc,he,fun s=>(sval_scale s m k p (by omega)).symm,fun h=>Nat.mul_pos h (Nat.two_pow_pos k)⟩
theorem canon_rep(m:Nat)(p:Int)(h:Canon m p):Rep m p:=by
 rcases h with⟨h1,h2,h3,h4⟩|⟨h1,rfl⟩
 ·exact⟨h2,h3,.inr (by rw[log2_53 m h1 h2];omega)⟩
 ·refine⟨by omega,by omega,?_⟩
  by_cases h0:m=0
  ·exact .inl h0
  ·have:=log2_lt m h0 h1
   exact .inr (by omega)
theorem order_rep(s t:Bool)(m n:Nat)(i j:Int)(h:Rep m i)(k:Rep n j):double.order (fw s m i) (fw t n j)=some (compare (sval s m i) (sval t n j)):=by
 obtain⟨m',i',hc,hf,hv,_⟩:=rep_canon m i h
 obtain⟨n',j',kc,kf,kv,_⟩:=rep_canon n j k
 rw[hf,kf,hv,kv]
 exact order_fw s t m' n' i' j' hc kc
theorem mul_rep(s:Bool)(m:Nat)(i:Int)(h:Rep m i)(e:Int)(he:-1022≤e)(he':e≤1023):double.mul (fw s m i) (fw false 4503599627370496 (e-52))=some (fw s m (i+e)):=by
 obtain⟨h53,hp,hl⟩:=h
 by_cases h0:m=0
 ·subst h0
  rw[fw_zero,←fw_zero s (-1074),mul_pow s 0 (-1074) canon_zero e he he',fw_zero,fw_zero]
 ·obtain⟨k,hk,hc,hf⟩:=canon_of m i (by omega) h53 hp (by rcases hl with hl|hl<;>omega)
  rw[hf s,mul_pow s _ _ hc e he he']
  have:=fw_scale s m k (i+e)
  rw[←this,show i+e-(k:Int)=i-k+e by omega]
theorem neg_rep(s:Bool)(m:Nat)(i:Int)(h:Rep m i):Op.negFloat .f64 (fw s m i)=fw (!s) m i:=by
 obtain⟨m',i',hc,hf,_,_⟩:=rep_canon m i h
 rw[hf,hf]
 exact neg_fw s m' i' hc
theorem twice(s:Bool)(m:Nat)(i:Int)(h:Rep m i):double.mul (fw s m i) (fw false 4503599627370496 (-51))=some (fw s m (i+1)):=by
 have e:=mul_rep s m i h 1 (by omega) (by omega)
 rw[show(1:Int)-52 = -51 by omega]at e
 exact e
theorem half(s:Bool)(m:Nat)(i:Int)(h:Rep m i):double.mul (fw s m i) (fw false 4503599627370496 (-53))=some (fw s m (i-1)):=by
 have e:=mul_rep s m i h (-1) (by omega) (by omega)
 rw[show(-1:Int)-52 = -53 by omega,show i + -1=i-1 by omega]at e
 exact e
theorem up52(s:Bool)(m:Nat)(i:Int)(h:Rep m i):double.mul (fw s m i) (fw false 4503599627370496 0)=some (fw s m (i+52)):=by
 have e:=mul_rep s m i h 52 (by omega) (by omega)
 rw[show(52:Int)-52=0 by omega]at e
 exact e
theorem bits_one:(4607182418800017408:Nat)=fw false 4503599627370496 (-52):=by rw[fw_canon _ _ _ (.inl ⟨by omega,by omega,by omega,by omega⟩)];decide
theorem bits_two:(4611686018427387904:Nat)=fw false 4503599627370496 (-51):=by rw[fw_canon _ _ _ (.inl ⟨by omega,by omega,by omega,by omega⟩)];decide
theorem bits_half:(4602678819172646912:Nat)=fw false 4503599627370496 (-53):=by rw[fw_canon _ _ _ (.inl ⟨by omega,by omega,by omega,by omega⟩)];decide
theorem bits_52:(4841369599423283200:Nat)=fw false 4503599627370496 0:=by rw[fw_canon _ _ _ (.inl ⟨by omega,by omega,by omega,by omega⟩)];decide
theorem bits_most:(9218868437227405311:Nat)=fw false 9007199254740991 971:=by rw[fw_canon _ _ _ (.inl ⟨by omega,by omega,by omega,by omega⟩)];decide
theorem bits_zero:(0:Nat)=fw false 0 (-1074):=by rw[fw_zero];rfl
def IsNan(x:Nat):Prop:=∃s n,double.read x=.nan s n
theorem nan_word(s:Bool)(r:Nat)(h:9218868437227405312<r)(h':r<9223372036854775808):IsNan (signBit s+r):=by
 obtain⟨s1,s2⟩:=sign_read s r h'
 refine⟨s,r-9218868437227405312,?_⟩
 unfold Format.read
 simp only[weight_eq,binade_eq,infRung_eq,s1,s2]
 rw[if_neg (by omega),if_neg (by omega),if_neg (by omega)]
theorem nan_drawn(x y t:Nat):IsNan (Question.cut (.nanBits .f64 x y) t)∧Question.cut (.nanBits .f64 x y) t<18446744073709551616:=by
 have e:Question.cut (.nanBits .f64 x y) t=(t % 2)*9223372036854775808+9218868437227405312+1+(t / 2) % 4503599627370495:=rfl
 rw[e]
 have h1:=Nat.mod_lt (t / 2) (show 0<4503599627370495 by omega)
 generalize (t / 2) % 4503599627370495=k at *
 rcases Nat.mod_two_eq_zero_or_one t with h|h
 ·rw[h]
  have:=nan_word false (9218868437227405313+k) (by omega) (by omega)
  rw[show signBit false=0 from rfl]at this
  refine⟨?_,by omega⟩
  rw[show 0*9223372036854775808+9218868437227405312+1+k=0+(9218868437227405313+k) by omega]
  exact this
 ·rw[h]
  have:=nan_word true (9218868437227405313+k) (by omega) (by omega)
  rw[show signBit true=9223372036854775808 from rfl]at this
  refine⟨?_,by omega⟩
  rw[show 1*9223372036854775808+9218868437227405312+1+k=9223372036854775808+(9218868437227405313+k) by omega]
  exact this
theorem float_cases(x:Nat)(hx:x<18446744073709551616):IsNan x∨(∃s,x=iw s)∨(∃s m p,Canon m p∧x=fw s m p):=by
 rcases word_cases x hx with h|⟨s,h,_⟩|h
 ·exact .inl h
 ·exact .inr (.inl ⟨s,h⟩)
 ·exact .inr (.inr h)
theorem nan_neq(x:Nat)(h:IsNan x):(double.order x x != some .eq)=true:=by
 obtain⟨s,n,h⟩:=h
 rw[(order_nan x x s n h).1];rfl
theorem fw_eq_self(s:Bool)(m:Nat)(p:Int)(h:Canon m p):(double.order (fw s m p) (fw s m p) != some .eq)=false:=by rw[order_self_fw s m p h];rfl
theorem iw_eq_self(s:Bool):(double.order (iw s) (iw s) != some .eq)=false:=by rw[order_self_iw s];rfl
theorem one_by_zero(s:Bool):double.div 4607182418800017408 (signBit s)=some (iw s):=by cases s<;>decide
theorem zero_by_zero:double.div 0 0=none:=by decide
section
variable {P:Program}
theorem run_valid(op:BinOp)(t:TypeId)(x y r:Nat)(h:floatBits op .f64 x y=some r)(w:World):(binOp op t (.float .f64 x) (.float .f64 y)).run P w=.ok (.float .f64 r) w:=run_float_arith w op t .f64 x y r h
theorem run_nan(t:TypeId)(w:World):∃b,IsNan b∧b<18446744073709551616∧(binOp .quo t (.float .f64 0) (.float .f64 0)).run P w=.ok (.float .f64 b) w.drew:=by
 refine⟨Question.cut (.nanBits .f64 0 0) (w.tape w.drawn (.nanBits .f64 0 0)),(nan_drawn _ _ _).1,(nan_drawn _ _ _).2,?_⟩
 have e:FloatKind.f64.format.div 0 0=none:=zero_by_zero
 simp[binOp,Op.floatArith,e,Question.forced]
end
theorem log2_64(M:Nat)(h1:9223372036854775808≤M)(h2:M<18446744073709551616):M.log2=63:=by
 rw[Nat.log2_eq_iff (by omega)]
 exact⟨h1,h2⟩
def lastOf(e:Int):Int:=max (e+11) (-1074)
theorem fw_64(s:Bool)(M:Nat)(e:Int)(h1:9223372036854775808≤M)(h2:M<18446744073709551616) :
  fw s M e=signBit s+min ((lastOf e+1074).toNat*4503599627370496+Toward.even.cut s M (lastOf e-e).toNat) 9218868437227405312:=by
 unfold fw Format.nearest
 rw[if_neg (by omega)]
 simp only[word_eq,infRung_eq,binade_eq,least_eq,frac_eq,log2_64 M h1 h2]
 have e1:max (e+((63:Nat):Int)-((52:Nat):Int)) (-1074)=lastOf e:=by unfold lastOf;omega
 rw[e1]
 have e2:(e-lastOf e).toNat=0:=by unfold lastOf;omega
 rw[e2,Nat.shiftLeft_zero,show(lastOf e - -1074).toNat=(lastOf e+1074).toNat by omega]
theorem cut_64(s:Bool)(M d:Nat)(h1:9223372036854775808≤M)(h2:M<18446744073709551616)(hd:1≤d)(hd':d≤64) :
  Toward.even.cut s M d=if 2 ^ (d-1)<M % 2 ^ d∨(M % 2 ^ d=2 ^ (d-1)∧M / 2 ^ d % 2=1) then M / 2 ^ d+1 else M / 2 ^ d:=by
 unfold Toward.cut
 simp only[log2_64 M h1 h2,Nat.shiftLeft_eq,Nat.one_mul]
 rw[Nat.min_eq_left (by omega)]
 have hp:2 ^ d=2*2 ^ (d-1):=by
  rw[←Nat.pow_succ'];congr 1;omega
 generalize hg:2 ^ (d-1)=g at *
 rw[hp]
 by_cases ha:g<M % (2*g)
 ·rw[if_pos (.inl ha)]
  have:(decide (2*g<2*(M % (2*g))) || (2*g==2*(M % (2*g))&&M / (2*g) % 2==1))=true:=by
   rw[decide_eq_true (by omega),Bool.true_or]
  rw[this];rfl
 ·by_cases hb:M % (2*g)=g∧M / (2*g) % 2=1
  ·rw[if_pos (.inr hb)]
   have:(decide (2*g<2*(M % (2*g))) || (2*g==2*(M % (2*g))&&M / (2*g) % 2==1))=true:=by
    rw[hb.1,hb.2];simp
   rw[this];rfl
  ·rw[if_neg (by rintro(h|h);exact ha h;exact hb h)]
   have:(decide (2*g<2*(M % (2*g))) || (2*g==2*(M % (2*g))&&M / (2*g) % 2==1))=false:=by
    rw[Bool.or_eq_false_iff]
    refine⟨decide_eq_false (by omega),?_⟩
    rw[Bool.and_eq_false_iff]
    by_cases hc:M % (2*g)=g
    ·right
     have:¬M / (2*g) % 2=1:=fun h=>hb ⟨hc,h⟩
     simpa using this
    ·left
     rw[beq_eq_false_iff_ne];omega
   rw[this];rfl
theorem cut_far(s:Bool)(M d:Nat)(h1:9223372036854775808≤M)(h2:M<18446744073709551616)(hd:65≤d):Toward.even.cut s M d=0:=by
 unfold Toward.cut
 simp only[log2_64 M h1 h2,Nat.shiftLeft_eq,Nat.one_mul]
 rw[Nat.min_eq_right (by omega)]
 have e1:M / 2 ^ (63+2)=0:=Nat.div_eq_of_lt (by omega)
 have e2:M % 2 ^ (63+2)=M:=Nat.mod_eq_of_lt (by omega)
 rw[e1,e2]
 have e3:(decide (2 ^ (63+2)<2*M) || (2 ^ (63+2)==2*M&&0 % 2==1))=false:=by
  rw[Bool.or_eq_false_iff]
  refine⟨decide_eq_false (by omega),?_⟩
  rw[Bool.and_eq_false_iff]
  right;rfl
 rw[e3];rfl
theorem norm_64(m:Nat)(hm:0<m)(h:m<18446744073709551616):9223372036854775808≤m*2 ^ (63-m.log2)∧m*2 ^ (63-m.log2)<18446744073709551616∧m.log2≤63:=by
 have hl:m.log2≤63:=by
  have hh:m.log2<64↔m<2 ^ 64:=Nat.log2_lt (by omega)
  have:=hh.2 h
  omega
 have hlo:=Nat.log2_self_le (Nat.ne_of_gt hm)
 have hhi:=Nat.lt_log2_self (n:=m)
 have a1:2 ^ m.log2*2 ^ (63-m.log2)≤m*2 ^ (63-m.log2):=Nat.mul_le_mul_right _ hlo
 have a2:m*2 ^ (63-m.log2)<2 ^ (m.log2+1)*2 ^ (63-m.log2):=Nat.mul_lt_mul_of_pos_right hhi (Nat.two_pow_pos _)
 rw[←Nat.pow_add,show m.log2+(63-m.log2)=63 by omega]at a1
 rw[←Nat.pow_add,show m.log2+1+(63-m.log2)=64 by omega]at a2
 exact⟨a1,a2,hl⟩
theorem fw_tiny(s:Bool)(m:Nat)(e:Int)(h:m<18446744073709551616)(he:e≤-1139):fw s m e=signBit s:=by
 by_cases h0:m=0
 ·subst h0;exact fw_zero s e
 ·obtain⟨a1,a2,a3⟩:=norm_64 m (by omega) h
  rw[←fw_scale s m (63-m.log2) e,fw_64 s _ _ a1 a2,cut_far s _ _ a1 a2 (by unfold lastOf;omega)]
  have:(lastOf (e-((63-m.log2:Nat):Int))+1074).toNat=0:=by unfold lastOf;omega
  rw[this]
  omega
theorem fw_huge(s:Bool)(M:Nat)(e:Int)(h1:9223372036854775808≤M)(h2:M<18446744073709551616)(he:961≤e):fw s M e=iw s:=by
 rw[fw_64 s M e h1 h2]
 unfold iw
 have:2047≤(lastOf e+1074).toNat+1:=by unfold lastOf;omega
 have hl:(lastOf e-e).toNat=11:=by unfold lastOf;omega
 rw[hl,cut_64 s M 11 h1 h2 (by omega) (by omega)]
 have hq:4503599627370496≤M / 2 ^ 11:=by
  rw[Nat.le_div_iff_mul_le (by omega)];omega
 split
 ·rw[Nat.min_eq_right];omega
 ·rw[Nat.min_eq_right];omega
theorem cmp_lt(a b:Int)(h:a<b):compare a b=.lt:=by simp only[compare,compareOfLessAndEq];rw[if_pos h]
theorem cmp_gt(a b:Int)(h:b<a):compare a b=.gt:=by simp only[compare,compareOfLessAndEq];rw[if_neg (by omega),if_neg (by omega)]
theorem cmp_eq(a b:Int)(h:a=b):compare a b=.eq:=by simp only[compare,compareOfLessAndEq];rw[if_neg (by omega),if_pos h]
theorem sval_pos(m:Nat)(p:Int)(h:0<m):0<sval false m p:=by
 unfold sval;rw[signed_eq]
 have:0<m*2 ^ (p+2200).toNat:=Nat.mul_pos h (Nat.two_pow_pos _)
 simp only[Bool.false_eq_true,if_false,Int.one_mul]
 exact Int.ofNat_lt.2 this
theorem sval_neg(m:Nat)(p:Int):sval true m p = - sval false m p:=by
 unfold sval;rw[signed_eq,signed_eq]
 simp only[Bool.false_eq_true,if_false,if_true,Int.one_mul]
 omega
theorem rep_zero:Rep 0 (-1074):=canon_rep _ _ canon_zero
theorem rep_one:Rep 4503599627370496 (-52):=canon_rep _ _ (.inl ⟨by omega,by omega,by omega,by omega⟩)
theorem rep_two:Rep 4503599627370496 (-51):=canon_rep _ _ (.inl ⟨by omega,by omega,by omega,by omega⟩)
theorem rep_most:Rep 9007199254740991 971:=canon_rep _ _ (.inl ⟨by omega,by omega,by omega,by omega⟩)
theorem ord_zero(s:Bool)(m:Nat)(p:Int)(h:Rep m p)(hm:0<m):double.order (fw s m p) 0=some (if s then .lt else .gt):=by
 rw[bits_zero,order_rep s false m 0 p (-1074) h rep_zero,sval_zero]
 have:=sval_pos m p hm
 cases s
 ·rw[cmp_gt _ _ this];rfl
 ·rw[sval_neg,cmp_lt _ _ (by omega)];rfl
theorem ord_zeros(s:Bool):double.order (signBit s) 0=some .eq:=by
 rw[bits_zero,←fw_zero s (-1074),order_rep s false 0 0 (-1074) (-1074) rep_zero rep_zero,sval_zero,sval_zero,cmp_eq _ _ rfl]
theorem ord_inf_zero(s:Bool):double.order (iw s) 0=some (if s then .lt else .gt):=by
 rw[bits_zero,order_iw_fw s false 0 (-1074) canon_zero]
theorem ord_inf_most:double.order (iw false) 9218868437227405311=some .gt:=by
 rw[bits_most,order_iw_fw false false _ _ (.inl ⟨by omega,by omega,by omega,by omega⟩)];rfl
theorem ord_most(m:Nat)(p:Int)(h:Canon m p):(double.order (fw false m p) 9218868437227405311==some .gt)=false:=by
 rw[bits_most,order_rep false false m _ p 971 (canon_rep m p h) rep_most]
 have hle:sval false m p≤sval false 9007199254740991 971:=by
  rcases h with⟨h1,h2,h3,h4⟩|⟨h1,rfl⟩
  ·exact sval_le _ _ _ _ (by omega) h4
  ·exact sval_le _ _ _ _ (by omega) (by omega)
 by_cases he:sval false m p=sval false 9007199254740991 971
 ·rw[cmp_eq _ _ he];rfl
 ·rw[cmp_lt _ _ (by omega)];rfl
theorem ord_two_ge(m:Nat)(p:Int)(h:Rep m p)(hm:4503599627370496≤m)(hp:-51≤p):double.order (fw false m p) 4611686018427387904=some .gt∨double.order (fw false m p) 4611686018427387904=some .eq:=by
 rw[bits_two,order_rep false false m _ p (-51) h rep_two]
 have hle:sval false 4503599627370496 (-51)≤sval false m p:=sval_le _ _ _ _ hm hp
 by_cases he:sval false m p=sval false 4503599627370496 (-51)
 ·rw[cmp_eq _ _ he];exact .inr rfl
 ·rw[cmp_gt _ _ (by omega)];exact .inl rfl
theorem two_form:sval false 4503599627370496 (-51)=sval false 9007199254740992 (-52):=by
 have:=sval_scale false 4503599627370496 1 (-51) (by omega)
 rw[←this];rfl
theorem one_form:sval false 4503599627370496 (-52)=sval false 9007199254740992 (-53):=by
 have:=sval_scale false 4503599627370496 1 (-52) (by omega)
 rw[←this];rfl
theorem ord_two_lt(m:Nat)(p:Int)(h:Rep m p)(hp:p≤-52):(double.order (fw false m p) 4611686018427387904==some .gt || double.order (fw false m p) 4611686018427387904==some .eq)=false:=by
 rw[bits_two,order_rep false false m _ p (-51) h rep_two,two_form]
 have hlt:sval false m p<sval false 9007199254740992 (-52):=sval_lt _ _ _ _ h.1 hp
 rw[cmp_lt _ _ hlt];rfl
theorem ord_one_ge(m:Nat)(p:Int)(h:Rep m p)(hm:4503599627370496≤m)(hp:-52≤p):(double.order (fw false m p) 4607182418800017408==some .lt)=false:=by
 rw[bits_one,order_rep false false m _ p (-52) h rep_one]
 have hle:sval false 4503599627370496 (-52)≤sval false m p:=sval_le _ _ _ _ hm hp
 by_cases he:sval false m p=sval false 4503599627370496 (-52)
 ·rw[cmp_eq _ _ he];rfl
 ·rw[cmp_gt _ _ (by omega)];rfl
theorem ord_one_lt(m:Nat)(p:Int)(h:Rep m p)(hp:p≤-53∨(m<4503599627370496∧p≤-52)):double.order (fw false m p) 4607182418800017408=some .lt:=by
 rw[bits_one,order_rep false false m _ p (-52) h rep_one]
 rcases hp with hp|⟨hm,hp⟩
 ·rw[one_form,cmp_lt _ _ (sval_lt _ _ _ _ h.1 hp)]
 ·rw[cmp_lt _ _ (sval_lt _ _ _ _ hm hp)]
end Go.Proofs.YtenbfookfcmpoaaGreatDoor
namespace Go.Proofs.YtenbfookfcmpoaaGreatDoor
open Go.ChangeShapes Go.WideShapes Go.RowKit
open Ieee (double)
theorem run_neg(x:Nat)(w:World):(Op.unary .neg (.float .f64 x)).run Tryz.prog w=.ok (.float .f64 (Op.negFloat .f64 x)) w:=rfl
theorem or_low(a M:Nat)(h:M<4503599627370496)(ha:a<4096):bits .or .u64 ((a:Int)*4503599627370496) (M:Int)=((a*4503599627370496+M:Nat):Int):=by
 have e1:((a:Int)*4503599627370496)=((a*4503599627370496:Nat):Int):=by omega
 rw[e1,u64_or_nat _ _ (by omega) (by omega)]
 have:=Nat.two_pow_add_eq_or_of_lt (show M<2 ^ 52 from h) a
 rw[show 2 ^ 52*a=a*4503599627370496 by omega]at this
 rw[this]
theorem to_u64(n:Nat)(h:n<9007199254740992):floatToIntVal .f64 (fw false n 0) .u64=some (n:Int):=by
 unfold floatToIntVal
 have e:(FloatKind.decode .f64 (fw false n 0)).toInt .zero=some (n:Int):=by
  have:=whole_fw false n h
  rw[signed_eq,Nat.pow_zero,Nat.mul_one,if_neg (by decide),Int.one_mul]at this
  exact this
 rw[e]
 have h1:IntKind.u64.min=0:=by decide
 have h2:IntKind.u64.max=18446744073709551615:=by decide
 simp only[h1,h2]
 rw[if_pos (by omega)]
theorem rep_at(m:Nat)(p:Int)(h:m<9007199254740992)(h1:-1074≤p)(h2:p≤971):Rep m p:=by
 refine⟨h,h1,?_⟩
 by_cases h0:m=0
 ·exact .inl h0
 ·have hh:m.log2<53↔m<2 ^ 53:=Nat.log2_lt h0
  have:=hh.2 h
  exact .inr (by omega)
theorem or_top(r:Nat)(h:r<9223372036854775808):bits .or .u64 (r:Int) 9223372036854775808=((9223372036854775808+r:Nat):Int):=by
 have e:=u64_or_nat r 9223372036854775808 (by omega) (by omega)
 have e2:=Nat.two_pow_add_eq_or_of_lt (show r<2 ^ 63 from h) 1
 rw[Nat.mul_one,Nat.or_comm]at e2
 rw[show((9223372036854775808:Nat):Int)=9223372036854775808 from rfl]at e
 rw[e]
 rw[show(9223372036854775808:Nat)=2 ^ 63 from rfl,←e2]
theorem float_of(m:Nat):floatOfInt .f64 (m:Int)=fw false m 0:=by
 show double.nearest (decide ((m:Int)<0)) (m:Int).natAbs 0=_
 rw[decide_eq_false (by omega),Int.natAbs_natCast]
 rfl
def u64n(n:Int):Nat:=(IntKind.u64.wrap n).toNat
theorem u64n_cast(n:Int):IntKind.u64.wrap n=(u64n n:Int):=by unfold u64n;rw[IntKind.wrap_u64];omega
theorem u64n_lt(n:Int):u64n n<18446744073709551616:=by unfold u64n;rw[IntKind.wrap_u64];omega
theorem mask11(x:Int)(h0:0≤x)(h1:x<18446744073709551616):bits .and .u64 x 2047=x % 2048:=by
 have h:=bits_mask .u64 64 (by decide) (fun n a b=>by rw[IntKind.wrap_u64];omega) 11 (by decide) x h0 (by omega)
 exact h
theorem mask52(x:Int)(h0:0≤x)(h1:x<18446744073709551616):bits .and .u64 x 4503599627370495=x % 4503599627370496:=by
 have h:=bits_mask .u64 64 (by decide) (fun n a b=>by rw[IntKind.wrap_u64];omega) 52 (by decide) x h0 (by omega)
 exact h
theorem or_one(M:Nat)(h:M<4503599627370496):bits .or .u64 (M:Int) 4503599627370496=((4503599627370496+M:Nat):Int):=by
 have e:=or_low 1 M h (by omega)
 have c1:=u64_or_nat M 4503599627370496 (by omega) (by omega)
 have c2:=u64_or_nat 4503599627370496 M (by omega) (by omega)
 rw[show((4503599627370496:Nat):Int)=4503599627370496 from rfl]at c1 c2
 rw[c1,Nat.or_comm,←c2]
 rw[show((1:Nat):Int)*4503599627370496=4503599627370496 by omega,show 1*4503599627370496+M=4503599627370496+M by omega]at e
 exact e
theorem word_parts(U:Nat)(h:U<18446744073709551616):∃s E M,E<2048∧M<4503599627370496∧U=signBit s+(E*4503599627370496+M):=by
 by_cases hs:U<9223372036854775808
 ·exact⟨false,U / 4503599627370496,U % 4503599627370496,by omega,by omega,by show U=0+_;omega⟩
 ·exact⟨true,(U-9223372036854775808) / 4503599627370496,(U-9223372036854775808) % 4503599627370496,by omega,by omega,by show U=9223372036854775808+_;omega⟩
theorem not_nan(s:Bool)(r:Nat)(h:r≤9218868437227405312):¬IsNan (signBit s+r):=by
 rintro⟨t,n,hn⟩
 obtain⟨s1,s2⟩:=sign_read s r (by omega)
 unfold Ieee.Format.read at hn
 simp only[weight_eq,binade_eq,infRung_eq,s1,s2]at hn
 by_cases h1:r<4503599627370496
 ·rw[if_pos h1]at hn;cases hn
 ·by_cases h2:r<9218868437227405312
  ·rw[if_neg h1,if_pos h2]at hn;cases hn
  ·rw[if_neg h1,if_neg h2,if_pos (by omega)]at hn;cases hn
theorem fw_lt(s:Bool)(m:Nat)(p:Int)(h:Canon m p):fw s m p<18446744073709551616:=by
 have:=rung_lt m p h
 rw[fw_canon s m p h]
 cases s
 ·show 0+_<_;omega
 ·show 9223372036854775808+_<_;omega
end Go.Proofs.YtenbfookfcmpoaaGreatDoor
namespace Go.Proofs.YtenbfookfcmpoaaGreatDoor
open Go.ChangeShapes Go.WideShapes Go.RowKit
def Only(B:Nat)(w w':World):Prop:=w'.os=w.os∧w'.tape=w.tape∧w'.output=w.output∧w'.heap.size=w.heap.size∧∀k,k≠B→w'.heap[k]? = w.heap[k]?
theorem Only.refl(B:Nat)(w:World):Only B w w:=⟨rfl,rfl,rfl,rfl,fun _ _=>rfl⟩
theorem Only.trans{B:Nat}{a b c:World}(h:Only B a b)(k:Only B b c):Only B a c:=
 ⟨k.1.trans h.1,k.2.1.trans h.2.1,k.2.2.1.trans h.2.2.1,k.2.2.2.1.trans h.2.2.2.1,fun i hi=>(k.2.2.2.2 i hi).trans (h.2.2.2.2 i hi)⟩
theorem Only.drewN{B:Nat}{a w:World}(h:Only B a w)(n:Nat):Only B a (w.drewN n):=h.trans ⟨rfl,rfl,rfl,rfl,fun _ _=>rfl⟩
theorem Only.setCell{B:Nat}{a w:World}(h:Only B a w)(o:Nat)(u:Value):Only B a (w.setCell ⟨B,o,none⟩ u):=
 h.trans ⟨rfl,rfl,rfl,by simp[World.setCell],fun k hk=>Below.heap_setCell _ _ _ _ hk⟩
theorem Only.cell{B:Nat}{w w':World}(h:Only B w w'){p:Addr}(hp:p.block≠B):w'.cell? p=w.cell? p:=World.cell?_of_block (w:=w) (h.2.2.2.2 p.block hp)
theorem Only.frozen{B:Nat}{w w':World}(h:Only B w w'){p:Addr}(hp:p.block≠B):w'.frozen? p=w.frozen? p:=World.frozen?_of_block (w:=w) (h.2.2.2.2 p.block hp)
theorem Only.below{B C:Nat}{w w':World}(h:Only B w w')(hC:C≤B):Below C w w':=
 ⟨h.1,h.2.1,h.2.2.1,by rw[h.2.2.2.1];exact Nat.le_refl _,fun k hk=>h.2.2.2.2 k (by omega)⟩
theorem cell_lt{w:World}{p:Addr}{v:Value}(h:w.cell? p=some v):p.block<w.heap.size:=by
 by_cases hp:p.block<w.heap.size
 ·exact hp
 ·have e:w.heap[p.block]? = Option.none:=Array.getElem?_eq_none (by omega)
  simp[World.cell?,e]at h
end Go.Proofs.YtenbfookfcmpoaaGreatDoor
namespace Go.Proofs.YtenbfookfcmpoaaGreatDoor
def be:Nat:=4294967296
theorem be_eq:be=4294967296:=rfl
theorem be_pos:0<be:=by unfold be;omega
def dg(N i:Nat):Nat:=N / be ^ i % be
theorem dg_lt(N i:Nat):dg N i<4294967296:=Nat.mod_lt _ be_pos
theorem dg_big(N i:Nat)(h:N<be ^ i):dg N i=0:=by unfold dg;rw[Nat.div_eq_of_lt h,Nat.zero_mod]
theorem bpow_pos(i:Nat):0<be ^ i:=Nat.pow_pos be_pos
theorem bpow_le{i j:Nat}(h:i≤j):be ^ i≤be ^ j:=Nat.pow_le_pow_right be_pos h
theorem dg_above(N i c:Nat)(h:N<be ^ c)(hi:c≤i):dg N i=0:=dg_big N i (Nat.lt_of_lt_of_le h (bpow_le hi))
theorem be_two(i:Nat):be ^ i=2 ^ (32*i):=by rw[Nat.pow_mul];rfl
def cntOk(c N:Nat):Prop:=N<be ^ c∧(0<c→be ^ (c-1)≤N)
theorem cnt_zero:cntOk 0 0:=⟨by simp,fun h=>by omega⟩
theorem cnt_le{c N n:Nat}(h:cntOk c N)(hN:N<be ^ n):c≤n:=by
 rcases Nat.lt_or_ge n c with hlt|hge
 ·have a:=h.2 (by omega)
  have b:=bpow_le (show n≤c-1 by omega)
  omega
 ·exact hge
theorem cnt_pos{c N:Nat}(h:cntOk c N):0<c↔0<N:=by
 constructor
 ·intro hc;exact Nat.lt_of_lt_of_le (bpow_pos _) (h.2 hc)
 ·intro hN
  rcases Nat.eq_zero_or_pos c with rfl|hc
  ·have:=h.1;rw[Nat.pow_zero]at this;omega
  ·exact hc
theorem cnt_top{c N:Nat}(h:cntOk c N)(hc:0<c):0<dg N (c-1):=by
 obtain⟨h1,h2⟩:=h
 have h3:=h2 hc
 unfold dg
 have h4:N / be ^ (c-1)<be:=by
  rw[Nat.div_lt_iff_lt_mul (bpow_pos _),Nat.mul_comm,←Nat.pow_succ,show(c-1).succ=c by omega];exact h1
 rw[Nat.mod_eq_of_lt h4]
 exact Nat.div_pos h3 (bpow_pos _)
theorem dg_split(N i:Nat):N % be ^ (i+1)=N % be ^ i+be ^ i*dg N i:=by
 unfold dg;rw[Nat.pow_succ,Nat.mod_mul]
def car(N F a i:Nat):Nat:=(N % be ^ i*F+a) / be ^ i
theorem car_zero(N F a:Nat):car N F a 0=a:=by simp[car,Nat.mod_one]
theorem car_sum(N F a i:Nat):car N F a i+dg N i*F=(N % be ^ (i+1)*F+a) / be ^ i:=by
 unfold car
 rw[dg_split,Nat.add_mul,show be ^ i*dg N i*F=be ^ i*(dg N i*F) by rw[Nat.mul_assoc],show N % be ^ i*F+be ^ i*(dg N i*F)+a=be ^ i*(dg N i*F)+(N % be ^ i*F+a) by omega,Nat.mul_add_div (bpow_pos i),Nat.add_comm]
theorem car_word(N F a i:Nat):(car N F a i+dg N i*F) % be=dg (N*F+a) i:=by
 rw[car_sum]
 unfold dg
 have e:N*F+a=be ^ i*(be*(N / be ^ (i+1)*F))+(N % be ^ (i+1)*F+a):=by
  have h:=Nat.div_add_mod N (be ^ (i+1))
  rw[←Nat.mul_assoc,←Nat.pow_succ,←Nat.mul_assoc,show be ^ i.succ=be ^ (i+1) from rfl]
  generalize N / be ^ (i+1)=q at *
  generalize N % be ^ (i+1)=r at *
  rw[←h,Nat.add_mul];omega
 rw[e,Nat.mul_add_div (bpow_pos i),Nat.mul_add_mod]
theorem car_next(N F a i:Nat):(car N F a i+dg N i*F) / be=car N F a (i+1):=by
 rw[car_sum,Nat.div_div_eq_div_mul,←Nat.pow_succ];rfl
theorem car_le(N F a i:Nat):car N F a i≤F+a:=by
 unfold car
 have h:=Nat.mod_lt N (bpow_pos i)
 have h1:N % be ^ i*F≤be ^ i*F:=Nat.mul_le_mul_right _ (Nat.le_of_lt h)
 have h2:a≤be ^ i*a:=Nat.le_mul_of_pos_left a (bpow_pos i)
 have h3:N % be ^ i*F+a≤be ^ i*(F+a):=by rw[Nat.mul_add];omega
 rw[Nat.div_le_iff_le_mul_add_pred (bpow_pos i)]
 omega
theorem car_end(N F a c:Nat)(h:N<be ^ c):car N F a c=(N*F+a) / be ^ c:=by unfold car;rw[Nat.mod_eq_of_lt h]
theorem dg_words(N s i:Nat):dg (N*be ^ s) i=if i<s then 0 else dg N (i-s):=by
 unfold dg
 by_cases h:i<s
 ·rw[if_pos h]
  obtain⟨k,rfl⟩:∃k,s=i+1+k:=⟨s-i-1,by omega⟩
  rw[Nat.pow_add,Nat.pow_succ,show N*(be ^ i*be*be ^ k)=N*be ^ k*be*be ^ i by rw[Nat.mul_assoc (be ^ i),Nat.mul_comm (be ^ i),Nat.mul_comm be,←Nat.mul_assoc,←Nat.mul_assoc],Nat.mul_div_cancel _ (bpow_pos i),Nat.mul_mod_left]
 ·rw[if_neg h]
  obtain⟨k,rfl⟩:∃k,i=s+k:=⟨i-s,by omega⟩
  rw[Nat.pow_add,←Nat.div_div_eq_div_mul,Nat.mul_div_cancel _ (bpow_pos s),Nat.add_sub_cancel_left]
theorem dg_bits(N m:Nat)(hm:m<32)(i:Nat):dg (N*2 ^ m) i=dg N i*2 ^ m % be+(if i=0 then 0 else dg N (i-1) / 2 ^ (32-m)):=by
 have hb:be=2 ^ (32-m)*2 ^ m:=by rw[←Nat.pow_add,show 32-m+m=32 by omega];rfl
 have hp:=Nat.two_pow_pos m
 have hp':=Nat.two_pow_pos (32-m)
 have key:∀X L:Nat,L<be ^ i→dg ((be ^ i*X+L)*2 ^ m) i=(X*2 ^ m+L*2 ^ m / be ^ i) % be:=by
  intro X L hL
  unfold dg
  rw[Nat.add_mul,Nat.mul_assoc,Nat.mul_add_div (bpow_pos i)]
 have hN:=Nat.div_add_mod N (be ^ i)
 have hL:=Nat.mod_lt N (bpow_pos i)
 have h1:=key (N / be ^ i) (N % be ^ i) hL
 rw[hN]at h1
 rw[h1]
 have hup:N % be ^ i*2 ^ m / be ^ i=(if i=0 then 0 else dg N (i-1) / 2 ^ (32-m)):=by
  by_cases h0:i=0
  ·subst h0;simp[Nat.mod_one]
  ·rw[if_neg h0]
   obtain⟨k,rfl⟩:∃k,i=k+1:=⟨i-1,by omega⟩
   rw[Nat.add_sub_cancel,dg_split,Nat.pow_succ]
   have hr:=Nat.mod_lt N (bpow_pos k)
   generalize N % be ^ k=r at *
   generalize dg N k=d at *
   rw[←Nat.div_div_eq_div_mul]
   have e2:(r+be ^ k*d)*2 ^ m / be ^ k=d*2 ^ m+r*2 ^ m / be ^ k:=by
    rw[Nat.add_mul,Nat.mul_assoc,Nat.add_comm,Nat.mul_add_div (bpow_pos k)]
   rw[e2]
   have hr2:r*2 ^ m / be ^ k<2 ^ m:=by rw[Nat.div_lt_iff_lt_mul (bpow_pos k),Nat.mul_comm];exact Nat.mul_lt_mul_of_pos_left hr hp
   generalize r*2 ^ m / be ^ k=y at *
   rw[hb,Nat.mul_comm (2 ^ (32-m)),←Nat.div_div_eq_div_mul,Nat.mul_comm d,Nat.mul_add_div hp,Nat.div_eq_of_lt hr2,Nat.add_zero]
 rw[hup]
 have hlow:(if i=0 then 0 else dg N (i-1) / 2 ^ (32-m))<2 ^ m:=by
  split
  ·exact hp
  ·rw[Nat.div_lt_iff_lt_mul hp',Nat.mul_comm,←hb];exact dg_lt _ _
 generalize (if i=0 then 0 else dg N (i-1) / 2 ^ (32-m))=y at *
 unfold dg
 generalize N / be ^ i=X at *
 have e3:X % be*2 ^ m % be=X % 2 ^ (32-m)*2 ^ m:=by
  conv=>lhs;rw[hb]
  rw[Nat.mul_mod_mul_right,Nat.mod_mul_right_mod]
 have e4:(X*2 ^ m+y) % be=X % 2 ^ (32-m)*2 ^ m+y:=by
  have hx:=Nat.div_add_mod X (2 ^ (32-m))
  have hq:=Nat.mod_lt X hp'
  generalize X / 2 ^ (32-m)=q at *
  generalize X % 2 ^ (32-m)=r at *
  rw[←hx,Nat.add_mul,show 2 ^ (32-m)*q*2 ^ m=be*q by rw[hb,Nat.mul_assoc,Nat.mul_comm q,←Nat.mul_assoc],Nat.add_assoc,Nat.mul_add_mod,Nat.mod_eq_of_lt]
  have:r*2 ^ m+2 ^ m≤2 ^ (32-m)*2 ^ m:=by rw[←Nat.succ_mul];exact Nat.mul_le_mul_right _ hq
  rw[hb];omega
 rw[e3,e4]
theorem dg_shift(N by' i:Nat):dg (N*2 ^ by') i=(if i<by' / 32 then 0 else dg N (i-by' / 32))*2 ^ (by' % 32) % be+(if i<by' / 32+1 then 0 else dg N (i-by' / 32-1)) / 2 ^ (32-by' % 32):=by
 have e:N*2 ^ by'=N*be ^ (by' / 32)*2 ^ (by' % 32):=by
  rw[be_two,Nat.mul_assoc,←Nat.pow_add,Nat.div_add_mod]
 rw[e,dg_bits _ _ (Nat.mod_lt _ (by omega)),dg_words,dg_words]
 congr 1
 by_cases h:i<by' / 32+1
 ·rw[if_pos h,Nat.zero_div]
  by_cases h0:i=0
  ·rw[if_pos h0]
  ·rw[if_neg h0,if_pos (by omega),Nat.zero_div]
 ·rw[if_neg h,if_neg (by omega),if_neg (by omega)]
  congr 2
  omega
theorem dg_cmp(N M i:Nat)(h:N / be ^ (i+1)=M / be ^ (i+1)):N / be ^ i=be*(N / be ^ (i+1))+dg N i∧M / be ^ i=be*(N / be ^ (i+1))+dg M i:=by
 have a:∀X:Nat,X / be ^ i=be*(X / be ^ (i+1))+dg X i:=by
  intro X
  unfold dg
  rw[Nat.pow_succ,←Nat.div_div_eq_div_mul,Nat.div_add_mod]
 exact⟨a N,by rw[h];exact a M⟩
theorem div_lt_of(N M k:Nat)(h:N / be ^ k<M / be ^ k):N<M:=by
 rcases Nat.lt_or_ge N M with h'|h'
 ·exact h'
 ·have:=Nat.div_le_div_right (c:=be ^ k) h';omega
theorem sub_low(p d e r s:Nat)(hr:r<p)(hs:s<p):r+p*d<s+p*e↔d<e+(if r<s then 1 else 0):=by
 have hde:d<e∨d=e∨e<d:=by omega
 rcases hde with hlt|heq|hgt
 ·have:p*(d+1)≤p*e:=Nat.mul_le_mul_left _ hlt
  rw[Nat.mul_succ]at this
  split<;>constructor<;>intro _<;>omega
 ·subst heq;split<;>constructor<;>intro _<;>omega
 ·have:p*(e+1)≤p*d:=Nat.mul_le_mul_left _ hgt
  rw[Nat.mul_succ]at this
  split<;>constructor<;>intro _<;>omega
theorem sub_gen(p u v r s r':Nat)(hr:r<p)(hs:s<p)(hr':r'<p)(h4:p*u+(r'+s)=p*v+r):u+(if r<s then 1 else 0)=v:=by
 by_cases c:r<s
 ·rw[if_pos c]
  rcases Nat.lt_trichotomy (u+1) v with hlt|heq|hgt
  ·have:p*(u+1+1)≤p*v:=Nat.mul_le_mul_left _ hlt
   rw[Nat.mul_succ,Nat.mul_succ]at this;omega
  ·exact heq
  ·have:p*v≤p*u:=Nat.mul_le_mul_left _ (by omega)
   omega
 ·rw[if_neg c]
  rcases Nat.lt_trichotomy u v with hlt|heq|hgt
  ·have:p*(u+1)≤p*v:=Nat.mul_le_mul_left _ hlt
   rw[Nat.mul_succ]at this;omega
  ·omega
  ·have:p*(v+1)≤p*u:=Nat.mul_le_mul_left _ hgt
   rw[Nat.mul_succ]at this;omega
theorem sub_word(b X Y d e c D:Nat)(hd:d<b)(he:e<b)(hc:c≤1)(hle:Y≤X)(h:D+(b*Y+e)+c=b*X+d) :
  D % b=if d<e+c then d+b-e-c else d-e-c:=by
 obtain⟨Z,rfl⟩:∃Z,X=Y+Z:=⟨X-Y,by omega⟩
 rw[Nat.mul_add]at h
 by_cases hlt:d<e+c
 ·rw[if_pos hlt]
  rcases Nat.eq_zero_or_pos Z with rfl|hZ
  ·rw[Nat.mul_zero]at h;omega
  ·have e5:D=b*(Z-1)+(d+b-e-c):=by
    have:b*Z=b*(Z-1)+b:=by rw[←Nat.mul_succ];congr 1;omega
    omega
   rw[e5,Nat.mul_add_mod,Nat.mod_eq_of_lt (by omega)]
 ·rw[if_neg hlt]
  have e5:D=b*Z+(d-e-c):=by omega
  rw[e5,Nat.mul_add_mod,Nat.mod_eq_of_lt (by omega)]
def bor(N M i:Nat):Nat:=if N % be ^ i<M % be ^ i then 1 else 0
theorem bor_zero(N M:Nat):bor N M 0=0:=by unfold bor;simp[Nat.mod_one]
theorem bor_le(N M i:Nat):bor N M i≤1:=by unfold bor;split<;>omega
theorem bor_step(N M i:Nat):bor N M (i+1)=(if dg N i<dg M i+bor N M i then 1 else 0):=by
 have h:=sub_low (be ^ i) (dg N i) (dg M i) (N % be ^ i) (M % be ^ i) (Nat.mod_lt N (bpow_pos i)) (Nat.mod_lt M (bpow_pos i))
 rw[←dg_split,←dg_split]at h
 change _↔dg N i<dg M i+bor N M i at h
 show(if N % be ^ (i+1)<M % be ^ (i+1) then 1 else 0)=_
 by_cases c:dg N i<dg M i+bor N M i
 ·rw[if_pos c,if_pos (h.2 c)]
 ·rw[if_neg c,if_neg (fun x=>c (h.1 x))]
theorem dg_parts(X i:Nat):X=be ^ i*(be*(X / be ^ (i+1))+dg X i)+X % be ^ i:=by
 have a:X / be ^ i=be*(X / be ^ (i+1))+dg X i:=by
  unfold dg
  rw[Nat.pow_succ,←Nat.div_div_eq_div_mul,Nat.div_add_mod]
 rw[←a,Nat.div_add_mod]
theorem bor_word(N M i:Nat)(h:M≤N):dg (N-M) i=(if dg N i<dg M i+bor N M i then dg N i+be-dg M i-bor N M i else dg N i-dg M i-bor N M i):=by
 refine sub_word be (N / be ^ (i+1)) (M / be ^ (i+1)) (dg N i) (dg M i) (bor N M i) ((N-M) / be ^ i) (Nat.mod_lt _ be_pos) (Nat.mod_lt _ be_pos) (bor_le N M i) (Nat.div_le_div_right h) ?_
 refine sub_gen (be ^ i) _ _ (N % be ^ i) (M % be ^ i) ((N-M) % be ^ i) (Nat.mod_lt _ (bpow_pos i)) (Nat.mod_lt _ (bpow_pos i)) (Nat.mod_lt _ (bpow_pos i)) ?_
 have eN:=dg_parts N i
 have eM:=dg_parts M i
 have eD:=Nat.div_add_mod (N-M) (be ^ i)
 rw[Nat.mul_add]
 generalize be ^ i*((N-M) / be ^ i)=a at *
 generalize (N-M) % be ^ i=b at *
 generalize be ^ i*(be*(N / be ^ (i+1))+dg N i)=c at *
 generalize be ^ i*(be*(M / be ^ (i+1))+dg M i)=d at *
 generalize N % be ^ i=r at *
 generalize M % be ^ i=s at *
 omega
theorem len_words{c N:Nat}(h:cntOk c N)(hc:0<c):(c-1)*32+bitLen (dg N (c-1))=bitLen N:=by
 have hp:=(cnt_pos h).1 hc
 have ht:=cnt_top h hc
 have h1:N / 2 ^ (32*(c-1))=dg N (c-1):=by
  unfold dg
  rw[←be_two,Nat.mod_eq_of_lt]
  rw[Nat.div_lt_iff_lt_mul (bpow_pos _),Nat.mul_comm,←Nat.pow_succ,show(c-1).succ=c by omega];exact h.1
 have:=bitLen_shift N (32*(c-1)) (by rw[h1];omega)
 rw[h1]at this
 omega
end Go.Proofs.YtenbfookfcmpoaaGreatDoor
namespace Go.Proofs.YtenbfookfcmpoaaGreatDoor
open Go.ChangeShapes Go.WideShapes Go.RowKit
def Mod(B:Nat)(w w':World):Prop:=w'.os=w.os∧w'.tape=w.tape∧w'.output=w.output∧w.heap.size≤w'.heap.size∧∀k,k<w.heap.size→k≠B→w'.heap[k]? = w.heap[k]?
theorem Mod.refl(B:Nat)(w:World):Mod B w w:=⟨rfl,rfl,rfl,Nat.le_refl _,fun _ _ _=>rfl⟩
theorem Mod.trans{B:Nat}{a b c:World}(h:Mod B a b)(k:Mod B b c):Mod B a c:=
 ⟨k.1.trans h.1,k.2.1.trans h.2.1,k.2.2.1.trans h.2.2.1,Nat.le_trans h.2.2.2.1 k.2.2.2.1,fun i hi hb=>(k.2.2.2.2 i (Nat.lt_of_lt_of_le hi h.2.2.2.1) hb).trans (h.2.2.2.2 i hi hb)⟩
theorem Mod.drewN{B:Nat}{a w:World}(h:Mod B a w)(n:Nat):Mod B a (w.drewN n):=h.trans ⟨rfl,rfl,rfl,Nat.le_refl _,fun _ _ _=>rfl⟩
theorem Mod.setCell{B:Nat}{a w:World}(h:Mod B a w)(o:Nat)(u:Value):Mod B a (w.setCell ⟨B,o,none⟩ u):=
 h.trans ⟨rfl,rfl,rfl,by simp[World.setCell],fun k _ hk=>Below.heap_setCell _ _ _ _ hk⟩
theorem Mod.alloc{B:Nat}{a w:World}(h:Mod B a w)(b:Obj):Mod B a (w.alloc b):=
 h.trans ⟨rfl,rfl,rfl,by simp,fun k hk _=>Below.heap_alloc _ _ _ hk⟩
theorem Mod.cell{B:Nat}{w w':World}(h:Mod B w w'){p:Addr}(hp:p.block≠B)(hl:p.block<w.heap.size):w'.cell? p=w.cell? p:=World.cell?_of_block (w:=w) (h.2.2.2.2 p.block hl hp)
theorem Mod.frozen{B:Nat}{w w':World}(h:Mod B w w'){p:Addr}(hp:p.block≠B)(hl:p.block<w.heap.size):w'.frozen? p=w.frozen? p:=World.frozen?_of_block (w:=w) (h.2.2.2.2 p.block hl hp)
theorem Mod.below{B C:Nat}{w w':World}(h:Mod B w w')(hC:C≤B)(hl:C≤w.heap.size):Below C w w':=
 ⟨h.1,h.2.1,h.2.2.1,h.2.2.2.1,fun k hk=>h.2.2.2.2 k (by omega) (by omega)⟩
theorem Mod.size{B:Nat}{w w':World}(h:Mod B w w'):w.heap.size≤w'.heap.size:=h.2.2.2.1
theorem Mod.of_below{B:Nat}{w w':World}(h:Below w.heap.size w w'):Mod B w w':=⟨h.os,h.tape,h.output,h.size,fun k hk _=>h.block k hk⟩
def lgL(c:Nat)(f:Nat→Nat):List Value:=.int .i64 (c:Int) :: (List.range 151).map fun i=>.int .u32 (f i:Int)
theorem lgL_length(c:Nat)(f:Nat→Nat):(lgL c f).length=152:=by simp[lgL]
def blk(c:Nat)(f:Nat→Nat)(R:List Value):Array Value:=(lgL c f++R).toArray
def upd(f:Nat→Nat)(i v:Nat):Nat→Nat:=fun j=>if j=i then v else f j
theorem blk_get0(c:Nat)(f:Nat→Nat)(R:List Value):(blk c f R)[0]? = some (.int .i64 (c:Int)):=by simp[blk,lgL]
theorem lgL_get(c:Nat)(f:Nat→Nat)(i:Nat)(h:i<151):(lgL c f)[i+1]? = some (.int .u32 (f i:Int)):=by
 unfold lgL
 rw[List.getElem?_cons_succ,List.getElem?_map,List.getElem?_range h];rfl
theorem blk_get(c:Nat)(f:Nat→Nat)(R:List Value)(i:Nat)(h:i<151):(blk c f R)[i+1]? = some (.int .u32 (f i:Int)):=by
 unfold blk
 rw[List.getElem?_toArray,List.getElem?_append_left (by rw[lgL_length];omega),lgL_get c f i h]
theorem blk_tail(c:Nat)(f:Nat→Nat)(R:List Value)(j:Nat):(blk c f R)[152+j]? = R[j]?:=by
 unfold blk
 rw[List.getElem?_toArray,List.getElem?_append_right (by rw[lgL_length];omega),lgL_length,Nat.add_sub_cancel_left]
theorem blk_set0(c c':Nat)(f:Nat→Nat)(R:List Value):(blk c f R).setIfInBounds 0 (.int .i64 (c':Int))=blk c' f R:=by
 unfold blk
 rw[List.setIfInBounds_toArray];rfl
theorem lgL_set(c:Nat)(f:Nat→Nat)(i v:Nat):(lgL c f).set (i+1) (.int .u32 (v:Int))=lgL c (upd f i v):=by
 unfold lgL
 rw[List.set_cons_succ]
 congr 1
 apply List.ext_getElem
 ·simp
 ·intro j h1 h2
  rw[List.getElem_set]
  by_cases hj:i=j
  ·subst hj;simp[upd]
  ·rw[if_neg hj];simp[upd,show ¬j=i by omega]
theorem blk_set(c:Nat)(f:Nat→Nat)(R:List Value)(i v:Nat)(h:i<151):(blk c f R).setIfInBounds (i+1) (.int .u32 (v:Int))=blk c (upd f i v) R:=by
 unfold blk
 rw[List.setIfInBounds_toArray,List.set_append_left _ _ (by rw[lgL_length];omega),lgL_set c f i v]
theorem blk_setT(c:Nat)(f:Nat→Nat)(x y:Value):(blk c f [x]).setIfInBounds 152 y=blk c f [y]:=by
 unfold blk
 rw[List.setIfInBounds_toArray,List.set_append_right _ _ (by rw[lgL_length];omega),lgL_length];rfl
theorem lgL_congr(c:Nat)(f g:Nat→Nat)(h:∀i,i<151→f i=g i):lgL c f=lgL c g:=by
 unfold lgL
 congr 1
 apply List.map_congr_left
 intro i hi
 rw[h i (List.mem_range.1 hi)]
theorem blk_congr(c:Nat)(f g:Nat→Nat)(R:List Value)(h:∀i,i<151→f i=g i):blk c f R=blk c g R:=by unfold blk;rw[lgL_congr c f g h]
theorem blk_size(c:Nat)(f:Nat→Nat)(R:List Value):(blk c f R).size=152+R.length:=by simp[blk,lgL_length]
def LB(w:World)(B c:Nat)(f:Nat→Nat)(R:List Value)(t:TypeId):Prop:=w.heap[B]? = some (.cells (blk c f R) t (0,0))
theorem cell_of_heap{w:World}{B:Nat}{cs:Array Value}{t:TypeId}(h:w.heap[B]? = some (.cells cs t (0,0)))(o:Nat):w.cell? ⟨B,o,none⟩=cs[o]?:=by simp[World.cell?,h]
theorem frozen_of_heap{w:World}{B:Nat}{cs:Array Value}{t:TypeId}(h:w.heap[B]? = some (.cells cs t (0,0)))(o:Nat):w.frozen? ⟨B,o,none⟩=false:=by simp[World.frozen?,h]
theorem LB.cnt{w:World}{B c:Nat}{f:Nat→Nat}{R:List Value}{t:TypeId}(h:LB w B c f R t):w.cell? ⟨B,0,none⟩=some (.int .i64 (c:Int)):=by rw[cell_of_heap h,blk_get0]
theorem LB.wrd{w:World}{B c:Nat}{f:Nat→Nat}{R:List Value}{t:TypeId}(h:LB w B c f R t)(i:Nat)(hi:i<151):w.cell? ⟨B,i+1,none⟩=some (.int .u32 (f i:Int)):=by rw[cell_of_heap h,blk_get c f R i hi]
theorem LB.wrd'{w:World}{B c:Nat}{f:Nat→Nat}{R:List Value}{t:TypeId}(h:LB w B c f R t)(i:Nat)(hi:i<151):w.cell? ⟨B,1+i,none⟩=some (.int .u32 (f i:Int)):=by rw[Nat.add_comm];exact h.wrd i hi
theorem LB.froz{w:World}{B c:Nat}{f:Nat→Nat}{R:List Value}{t:TypeId}(h:LB w B c f R t)(o:Nat):w.frozen? ⟨B,o,none⟩=false:=frozen_of_heap h o
theorem LB.lt{w:World}{B c:Nat}{f:Nat→Nat}{R:List Value}{t:TypeId}(h:LB w B c f R t):B<w.heap.size:=(Array.getElem?_eq_some_iff.1 h).1
theorem LB.setw{w:World}{B c:Nat}{f:Nat→Nat}{R:List Value}{t:TypeId}(h:LB w B c f R t)(i v:Nat)(hi:i<151):LB (w.setCell ⟨B,i+1,none⟩ (.int .u32 (v:Int))) B c (upd f i v) R t:=by
 unfold LB
 rw[setCell_eq_setRow w B (i+1) _ t (0,0) _ h,blk_set c f R i v hi]
 exact setRow_heap w B _ _ t (0,0) h
theorem LB.setw'{w:World}{B c:Nat}{f:Nat→Nat}{R:List Value}{t:TypeId}(h:LB w B c f R t)(i v:Nat)(hi:i<151):LB (w.setCell ⟨B,1+i,none⟩ (.int .u32 (v:Int))) B c (upd f i v) R t:=by rw[Nat.add_comm];exact h.setw i v hi
theorem LB.setc{w:World}{B c:Nat}{f:Nat→Nat}{R:List Value}{t:TypeId}(h:LB w B c f R t)(c':Nat):LB (w.setCell ⟨B,0,none⟩ (.int .i64 (c':Int))) B c' f R t:=by
 unfold LB
 rw[setCell_eq_setRow w B 0 _ t (0,0) _ h,blk_set0]
 exact setRow_heap w B _ _ t (0,0) h
theorem LB.congr{w:World}{B c:Nat}{f:Nat→Nat}{R:List Value}{t:TypeId}(h:LB w B c f R t)(g:Nat→Nat)(hg:∀i,i<151→f i=g i):LB w B c g R t:=by
 unfold LB;rw[←blk_congr c f g R hg];exact h
theorem LB.other{w w':World}{B B' c:Nat}{f:Nat→Nat}{R:List Value}{t:TypeId}(h:LB w B c f R t)(hm:Mod B' w w')(hB:B≠B'):LB w' B c f R t:=(hm.2.2.2.2 B h.lt hB).trans h
theorem LB.drewN{w:World}{B c:Nat}{f:Nat→Nat}{R:List Value}{t:TypeId}(h:LB w B c f R t)(n:Nat):LB (w.drewN n) B c f R t:=h
theorem LB.alloc{w:World}{B c:Nat}{f:Nat→Nat}{R:List Value}{t:TypeId}(h:LB w B c f R t)(b:Obj):LB (w.alloc b) B c f R t:=by
 have hl:=h.lt
 unfold LB at *
 rw[Below.heap_alloc _ _ _ hl];exact h
theorem LB.new(w:World)(c:Nat)(f:Nat→Nat)(R:List Value)(t:TypeId):LB (w.alloc (.cells (blk c f R) t)) w.heap.size c f R t:=
 heap_alloc_last w _
def Lg(w:World)(B N:Nat)(R:List Value)(t:TypeId):Prop:=∃c,c≤151∧cntOk c N∧LB w B c (dg N) R t
theorem Lg.other{w w':World}{B B' N:Nat}{R:List Value}{t:TypeId}(h:Lg w B N R t)(hm:Mod B' w w')(hB:B≠B'):Lg w' B N R t:=by
 obtain⟨c,h1,h2,h3⟩:=h;exact⟨c,h1,h2,h3.other hm hB⟩
def lgV(c N:Nat):Value:=.agg (lgL c (dg N)).toArray
end Go.Proofs.YtenbfookfcmpoaaGreatDoor
namespace Go.Proofs.YtenbfookfcmpoaaGreatDoor
open Go.ChangeShapes Go.WideShapes Go.RowKit
open Ieee (double)
theorem len_close(x y:Int)(k b:Nat)(hk:k≤56)(hy:y.toNat=x.toNat / 2 ^ k)(h256:y.toNat<256)(hp:k=0∨0<y)(hb:b=bitLen y.toNat):wrap64 ((k:Int)+wrap64 (b:Int))=(bitLen x.toNat:Int):=by
 have h8:=bitLen_le8 y.toNat h256
 have e:bitLen x.toNat=k+bitLen y.toNat:=by
  rcases hp with rfl|hp
  ·rw[hy,Nat.pow_zero,Nat.div_one,Nat.zero_add]
  ·rw[hy];exact bitLen_shift x.toNat k (by omega)
 rw[e,hb]
 generalize bitLen y.toNat=L at *
 unfold wrap64
 omega
theorem len_zero(x:Int)(b:Nat)(h256:x.toNat<256)(hb:b=bitLen x.toNat):wrap64 (b:Int)=(bitLen x.toNat:Int):=by
 have h8:=bitLen_le8 x.toNat h256
 rw[hb];unfold wrap64;omega
theorem len_zero'(x:Int)(b:Nat)(h256:x.toNat<256)(hb:b=bitLen x.toNat):wrap64 (wrap64 (b:Int))=(bitLen x.toNat:Int):=by
 have h8:=bitLen_le8 x.toNat h256
 rw[hb];unfold wrap64;omega
set_option maxHeartbeats 1000000 in
set_option maxRecDepth 100000 in
theorem len64_any(x:Int)(h0:0≤x)(h1:x<18446744073709551616)(w:World) :
  Calls Tryz.prog 58 #[.int .u64 x] w fun e w'=>e=.returned (.int .i64 (bitLen x.toNat))∧w'=w:=by
 go_enter Tryz.func58,Tryz.ntmps58
 go_wp2
 all_goals go_ret
 all_goals refine⟨congrArg (fun t=>Ending.returned (.int .i64 t)) ?_,rfl⟩
 ·exact len_close x (x / 4294967296 / 65536 / 256) 56 _ (by omega) (by omega) (by omega) (by omega) (len8tab_get _ _)
 ·exact len_close x (x / 4294967296 / 65536) 48 _ (by omega) (by omega) (by omega) (by omega) (len8tab_get _ _)
 ·exact len_close x (x / 4294967296 / 256) 40 _ (by omega) (by omega) (by omega) (by omega) (len8tab_get _ _)
 ·exact len_close x (x / 4294967296) 32 _ (by omega) (by omega) (by omega) (by omega) (len8tab_get _ _)
 ·exact len_close x (x / 65536 / 256) 24 _ (by omega) (by omega) (by omega) (by omega) (len8tab_get _ _)
 ·exact len_close x (x / 65536) 16 _ (by omega) (by omega) (by omega) (by omega) (len8tab_get _ _)
 ·exact len_close x (x / 256) 8 _ (by omega) (by omega) (by omega) (by omega) (len8tab_get _ _)
 ·first|exact len_zero x _ (by omega) (len8tab_get _ _)|exact len_zero' x _ (by omega) (len8tab_get _ _)
end Go.Proofs.YtenbfookfcmpoaaGreatDoor
namespace Go.Proofs.YtenbfookfcmpoaaGreatDoor
open Go.ChangeShapes Go.WideShapes Go.RowKit
theorem width_any(v:Value)(w:World):Calls Tryz.prog 99 #[v] w fun e w'=>e=.returned (.int .i64 32)∧w'=w:=by
 have HL:Hid _:=fun w=>len64_any 4294967295 (by omega) (by omega) w
 have hb:bitLen (Int.toNat 4294967295)=32:=by decide
 rw[hb]at HL
 go_enter Tryz.func99,Tryz.ntmps99
 go_wp2_with (go_at_call 58;refine(HL.out _).mono ?_;rintro e w' ⟨rfl,rfl⟩)
 go_ret
 exact⟨rfl,rfl⟩
set_option maxRecDepth 100000 in
theorem wordAt_any(B c:Nat)(f:Nat→Nat)(R:List Value)(t:TypeId)(w:World)(h:LB w B c f R t)(i:Int)(hi:i<151) :
  Calls Tryz.prog 100 #[.pointer (some ⟨B,0,none⟩),.int .i64 i] w fun e w'=>e=.returned (.int .u32 (if i<0 then 0 else (f i.toNat:Int)))∧w'=w:=by
 by_cases h0:i<0
 ·rw[if_pos h0]
  clear h
  go_enter Tryz.func100,Tryz.ntmps100
  go_wp2
  go_ret
  exact⟨rfl,rfl⟩
 ·rw[if_neg h0]
  obtain⟨k,rfl⟩:∃k:Nat,i=(k:Int):=⟨i.toNat,by omega⟩
  have hw:=h.wrd' k (by omega)
  clear h h0
  go_enter Tryz.func100,Tryz.ntmps100
  go_wp2
  go_ret
  exact⟨rfl,rfl⟩
def wmid(N M i:Nat):Nat→Nat:=fun j=>if j<i then dg M j else dg N j
theorem wmid_at(N M i:Nat):wmid N M i i=dg N i:=by unfold wmid;rw[if_neg (by omega)]
theorem wmid_step(N M i:Nat):upd (wmid N M i) i (dg M i)=wmid N M (i+1):=by
 funext j
 unfold upd wmid
 by_cases h:j=i
 ·subst h;rw[if_pos rfl,if_pos (by omega)]
 ·rw[if_neg h]
  by_cases h':j<i
  ·rw[if_pos h',if_pos (by omega)]
  ·rw[if_neg h',if_neg (by omega)]
theorem wmid_end(N M c:Nat)(hN:N<be ^ c)(hM:M<be ^ c)(j:Nat):wmid N M c j=dg M j:=by
 unfold wmid
 by_cases h:j<c
 ·rw[if_pos h]
 ·rw[if_neg h,dg_above N j c hN (by omega),dg_above M j c hM (by omega)]
set_option maxHeartbeats 1000000 in
set_option maxRecDepth 100000 in
theorem mul_any(B N F a:Nat)(R:List Value)(t:TypeId)(w:World)(h:Lg w B N R t)(hF1:1≤F)(hF:F≤16)(ha:a≤9007199254740992)(hN:N*F+a<be ^ 151) :
  Calls Tryz.prog 98 #[.pointer (some ⟨B,0,none⟩),.int .u64 (F:Int),.int .u64 (a:Int)] w fun e w'=>e=.returned (.tuple #[])∧Mod B w w'∧Lg w' B (N*F+a) R t:=by
 obtain⟨c,hc,hk,hl⟩:=h
 obtain⟨M,hM⟩:∃M,N*F+a=M:=⟨_,rfl⟩
 have HM:Hid (N*F+a=M):=hM
 have HMB:Hid (M<be ^ 151):=by rw[←hM];exact hN
 rw[hM]
 clear hM hN
 have HW:Hid _:=fun v w=>width_any v w
 have HK:Hid (cntOk c N):=hk
 have HL:Hid (LB w B c (dg N) R t):=hl
 have hcnt:=hl.cnt
 clear hk hl
 go_enter Tryz.func98,Tryz.ntmps98
 go_wp2
 go_loopw [6,13] (fun cv iv wl=>∃ (i u:Nat),iv=.int .i64 (i:Int)∧cv=.int .u64 (u:Int)∧i≤c∧u≤9007199254741100∧Hid (car N F a i=u)∧Hid (LB wl B c (wmid N M i) R t)∧Hid (Mod B w wl)) (fun _ iv _=>c-(intOf iv).toNat)
 case atStart=>exact⟨0,a,rfl,rfl,Nat.zero_le _,by omega,car_zero N F a,HL.out,Mod.refl B w⟩
 case round=>
  clear hcnt
  obtain⟨i,u,rfl,rfl,hi,hu,HU,HB,HMd⟩:=hrel
  by_cases hlt:i<c
  ·have hlt':(i:Int)<(c:Int):=by omega
   obtain⟨d,hd⟩:∃d,dg N i=d:=⟨_,rfl⟩
   have hd1:d<4294967296:=by rw[←hd];exact dg_lt _ _
   have hw:=HB.out.wrd' i (by omega)
   rw[wmid_at,hd]at hw
   have hfr:=HB.out.froz (1+i)
   have HD:Hid (dg N i=d):=hd
   obtain⟨p,hp⟩:∃p:Int,(d:Int)*(F:Int)=p:=⟨_,rfl⟩
   have hp0:0≤p:=by rw[←hp];exact Int.mul_nonneg (by omega) (by omega)
   have hp1:p≤68719476720:=by
    rw[←hp]
    have:(d:Int)*F≤4294967295*16:=Int.mul_le_mul (by omega) (by omega) (by omega) (by omega)
    omega
   clear hd
   go_wp2_with (go_at_call 99;refine(HW.out _ _).mono ?_;rintro e w' ⟨rfl,rfl⟩)
   have ev:((u:Int)+p) % 4294967296=((dg M i:Nat):Int):=by
    rw[←HM.out,←car_word,HU.out,HD.out,←hp,be_eq];omega
   have ec:((u:Int)+p) / 4294967296=((car N F a (i+1):Nat):Int):=by
    rw[←car_next,HU.out,HD.out,←hp,be_eq];omega
   rw[ev,ec]
   refine⟨⟨i+1,car N F a (i+1),rfl,rfl,by omega,by have:=car_le N F a (i+1);omega,rfl,?_,HMd.out.setCell _ _⟩,?_⟩
   ·have:=HB.out.setw' i (dg M i) (by omega)
    rw[wmid_step]at this;exact this
   ·show c-((i:Int)+1).toNat<c-(i:Int).toNat;omega
  ·have hlt':decide ((i:Int)<(c:Int))=false:=decide_eq_false (by omega)
   obtain rfl:i=c:=by omega
   go_wp2
   go_loopw [6] (fun cv wl=>∃ (k v:Nat),cv=.int .u64 (v:Int)∧v≤9007199254741100∧Hid (M / be ^ k=v)∧k≤151∧Hid (0<k→be ^ (k-1)≤M)∧Hid (N<be ^ k)∧Hid (LB wl B k (wmid N M k) R t)∧Hid (Mod B w wl)) (fun cv _=>(intOf cv).toNat)
   case atStart=>
    refine⟨i,u,rfl,hu,?_,hc,?_,HK.out.1,HB.out,HMd.out⟩
    ·rw[←HM.out,←car_end N F a i HK.out.1];exact HU.out
    ·intro h0
     have h1:=HK.out.2 h0
     have h2:N*1≤N*F:=Nat.mul_le_mul_left _ hF1
     rw[←HM.out];omega
   case round=>
    clear HU HB HMd hi hu hlt hlt'
    obtain⟨k,v,rfl,hv,HV,hk,HG,HN,HB,HMd⟩:=hrel
    by_cases h0:0<v
    ·have h0':(0:Int)<(v:Int):=by omega
     have hk1:k<151:=by
      rcases Nat.lt_or_ge k 151 with h|h
      ·exact h
      ·have:M<be ^ k:=Nat.lt_of_lt_of_le HMB.out (bpow_le h)
       have:=HV.out;rw[Nat.div_eq_of_lt (by assumption)]at this;omega
     have hk2:(k:Int)<151:=by omega
     have hcnt:=HB.out.cnt
     have hw:=HB.out.wrd' k hk1
     have hfr:=HB.out.froz (1+k)
     have hfr0:=HB.out.froz 0
     go_wp2_with (go_at_call 99;refine(HW.out _ _).mono ?_;rintro e w' ⟨rfl,rfl⟩)
     go_region
     all_goals go_wp2_with (go_at_call 99;refine(HW.out _ _).mono ?_;rintro e w' ⟨rfl,rfl⟩)
     all_goals
      have hdv:(v:Int) % 4294967296=((dg M k:Nat):Int):=by unfold dg;rw[HV.out,be_eq];omega
      have hcar:(v:Int) / 4294967296=((v / 4294967296:Nat):Int):=by omega
      rw[hdv,hcar]
      refine⟨⟨k+1,v / 4294967296,rfl,by omega,?_,by omega,fun _=>?_,Nat.lt_of_lt_of_le HN.out (bpow_le (by omega)),?_,(HMd.out.setCell _ _).setCell _ _⟩,?_⟩
      ·show M / be ^ (k+1)=v / 4294967296
       rw[Nat.pow_succ,←Nat.div_div_eq_div_mul,HV.out]
       rfl
      ·show be ^ (k+1-1)≤M
       rw[Nat.add_sub_cancel]
       rcases Nat.lt_or_ge M (be ^ k) with h|h
       ·have:=HV.out;rw[Nat.div_eq_of_lt h]at this;omega
       ·exact h
      ·have h1:=(HB.out.setw' k (dg M k) hk1)
       rw[wmid_step]at h1
       exact h1.setc (k+1)
      ·show((v / 4294967296:Nat):Int).toNat<(v:Int).toNat;omega
    ·have h0':decide ((0:Int)<(v:Int))=false:=decide_eq_false (by omega)
     go_wp2
     go_end0
     refine⟨rfl,HMd.out,k,hk,⟨?_,HG.out⟩,HB.out.congr _ fun j _=>wmid_end N M k HN.out ?_ j⟩
     all_goals
      have hv0:v=0:=by omega
      have:=HV.out
      rcases Nat.lt_or_ge M (be ^ k) with h|h
      ·exact h
      ·have:=Nat.div_pos h (bpow_pos k);omega
end Go.Proofs.YtenbfookfcmpoaaGreatDoor
