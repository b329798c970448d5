import Derived.Test.YtenbfookfcmpoaaGreatDoorF01
import Derived.Test.YtenbfookfcmpoaaGreatDoorF03
import Derived.Laws.MakeOwn
import Derived.Test.YtenbfookfcmpoaaGreatDoorF02
import Derived.Lib.Strings
namespace Go.Proofs.YtenbfookfcmpoaaGreatDoor
open Ieee
def keptOf(M d:Nat):Nat:=if 2 ^ (d-1)<M % 2 ^ d∨(M % 2 ^ d=2 ^ (d-1)∧M / 2 ^ d % 2=1) then M / 2 ^ d+1 else M / 2 ^ d
theorem kept_11(M:Nat)(h1:9223372036854775808≤M)(h2:M<18446744073709551616):4503599627370496≤M / 2 ^ 11∧M / 2 ^ 11<9007199254740992∧4503599627370496≤keptOf M 11∧keptOf M 11≤9007199254740992:=by
 have a:4503599627370496≤M / 2 ^ 11:=by rw[Nat.le_div_iff_mul_le (by omega)];omega
 have b:M / 2 ^ 11<9007199254740992:=by rw[Nat.div_lt_iff_lt_mul (by omega)];omega
 unfold keptOf
 split<;>omega
theorem kept_more(M d:Nat)(h2:M<18446744073709551616)(hd:12≤d):M / 2 ^ d<4503599627370496∧keptOf M d≤4503599627370496:=by
 have e:(2:Nat) ^ 12≤2 ^ d:=Nat.pow_le_pow_right (by omega) hd
 have b:M / 2 ^ d<4503599627370496:=by
  rw[Nat.div_lt_iff_lt_mul (Nat.two_pow_pos d)]
  have:(2:Nat) ^ 12=4096:=rfl
  have e2:4503599627370496*4096≤4503599627370496*2 ^ d:=Nat.mul_le_mul_left _ (by omega)
  omega
 unfold keptOf
 split<;>omega
theorem near_a(M:Nat)(p:Int)(h1:9223372036854775808≤M)(h2:M<18446744073709551616)(hp:-1085≤p) :
  fw false M p=min ((p+11+1074).toNat*4503599627370496+keptOf M 11) 9218868437227405312:=by
 have hl:lastOf p=p+11:=by unfold lastOf;omega
 rw[fw_64 false M p h1 h2,hl,show(p+11-p).toNat=11 by omega,cut_64 false M 11 h1 h2 (by omega) (by omega)]
 show 0+_=_
 rw[Nat.zero_add]
 rfl
theorem near_b(M:Nat)(p:Int)(h1:9223372036854775808≤M)(h2:M<18446744073709551616)(hp:p≤-1086)(hq:-1138≤p) :
  fw false M p=fw false (keptOf M (-1074-p).toNat) (-1074):=by
 have hl:lastOf p = -1074:=by unfold lastOf;omega
 have hk:=kept_more M (-1074-p).toNat h2 (by omega)
 rw[fw_64 false M p h1 h2,hl,cut_64 false M _ h1 h2 (by omega) (by omega)]
 show 0+min (_+keptOf M _) _=_
 have hc:Canon (keptOf M (-1074-p).toNat) (-1074):=by
  by_cases h:keptOf M (-1074-p).toNat<4503599627370496
  ·exact .inr ⟨h,rfl⟩
  ·exact .inl ⟨by omega,by omega,by omega,by omega⟩
 rw[fw_canon false _ _ hc]
 unfold rung
 show 0+_=0+_
 rw[Nat.min_eq_left (by omega)]
theorem near_a_fits(M:Nat)(p:Int)(h1:9223372036854775808≤M)(h2:M<18446744073709551616)(hp:-1085≤p)(hq:p+11≤971)(hk:keptOf M 11<9007199254740992):fw false M p=fw false (keptOf M 11) (p+11):=by
 obtain⟨_,_,k1,_⟩:=kept_11 M h1 h2
 have hc:Canon (keptOf M 11) (p+11):=.inl ⟨k1,hk,by omega,hq⟩
 have:=rung_lt _ _ hc
 rw[near_a M p h1 h2 hp,fw_canon false _ _ hc]
 unfold rung at this ⊢
 show _=0+_
 rw[Nat.min_eq_left (by omega),Nat.zero_add]
theorem near_a_carry(M:Nat)(p:Int)(h1:9223372036854775808≤M)(h2:M<18446744073709551616)(hp:-1085≤p)(hq:p+11+1≤971)(hk:keptOf M 11=9007199254740992):fw false M p=fw false 4503599627370496 (p+11+1):=by
 have hc:Canon 4503599627370496 (p+11+1):=.inl ⟨by omega,by omega,by omega,hq⟩
 have:=rung_lt _ _ hc
 rw[near_a M p h1 h2 hp,fw_canon false _ _ hc,hk]
 unfold rung at this ⊢
 show _=0+_
 rw[Nat.min_eq_left (by omega)]
 omega
theorem near_a_inf(M:Nat)(p:Int)(h1:9223372036854775808≤M)(h2:M<18446744073709551616)(hp:-1085≤p)(hq:971<p+11∨(keptOf M 11=9007199254740992∧971<p+11+1)):fw false M p=iw false:=by
 obtain⟨_,_,k1,_⟩:=kept_11 M h1 h2
 rw[near_a M p h1 h2 hp]
 show _=0+_
 rw[Nat.min_eq_right (by rcases hq with hq|⟨hk,hq⟩<;>omega)]
theorem near_far(M:Nat)(p:Int)(h2:M<18446744073709551616)(hp:p < -1138):fw false M p=0:=by
 rw[fw_tiny false M p h2 (by omega)];rfl
end Go.Proofs.YtenbfookfcmpoaaGreatDoor
namespace Go.Proofs.YtenbfookfcmpoaaGreatDoor
open Go.ChangeShapes Go.WideShapes Go.RowKit
theorem empty_iff(s:ByteArray):s.data.toList = []↔s.size=0:=by
 rw[←List.length_eq_zero_iff];simp
theorem isEmpty_yes(s:ByteArray)(h:s.size=0):s.toList.isEmpty=true:=by
 rw[ByteArray.toList_eq,List.isEmpty_iff];exact(empty_iff s).2 h
theorem isEmpty_no(s:ByteArray)(h:¬s.size=0):s.toList.isEmpty=false:=by
 rw[ByteArray.toList_eq]
 cases hc:s.data.toList.isEmpty
 ·rfl
 ·exact absurd ((empty_iff s).1 (List.isEmpty_iff.1 hc)) h
def Cut(s:ByteArray)(neg:Bool)(r:ByteArray):Prop:=
 (s.size=0∧neg=false∧r=s)∨(∃_:0<s.size,s[0].toNat=45∧neg=true∧r=s.extract 1 s.size)
 ∨ (∃_:0<s.size,s[0].toNat=43∧neg=false∧r=s.extract 1 s.size)∨(∃_:0<s.size,s[0].toNat≠45∧s[0].toNat≠43∧neg=false∧r=s)
set_option maxHeartbeats 400000 in
theorem cutSign_any(s:ByteArray)(w:World)(hs:s.size≤10000)(neg:Bool)(r:ByteArray)(hc:Cut s neg r) :
  Calls Tryz.prog 149 #[.string s] w fun e w'=>e=.returned (.tuple #[.bool neg,.string r])∧∃n,w'=w.drewN n:=by
 rcases hc with⟨hz,rfl,rfl⟩|⟨hz,h45,rfl,rfl⟩|⟨hz,h43,rfl,rfl⟩|⟨hz,h45,h43,rfl,rfl⟩
 ·have he:=isEmpty_yes r hz
  clear hz
  go_enter Tryz.func149,Tryz.ntmps149
  go_wp2
  go_ret2
  exact⟨rfl,0,rfl⟩
 ·have he:=isEmpty_no s (by omega)
  have e1:((s[0].toNat:Int) != 45)=false:=by simp[h45]
  have e3:((s[0].toNat:Int)==45)=true:=by simp[h45]
  clear h45
  go_enter Tryz.func149,Tryz.ntmps149
  go_wp2
  go_quiet (fail)
  go_wp2
  go_ret2
  exact⟨rfl,_,rfl⟩
 ·have he:=isEmpty_no s (by omega)
  have e1:((s[0].toNat:Int) != 45)=true:=by simp[h43]
  have e2:((s[0].toNat:Int) != 43)=false:=by simp[h43]
  have e3:((s[0].toNat:Int)==45)=false:=by simp[h43]
  clear h43
  go_enter Tryz.func149,Tryz.ntmps149
  go_wp2
  go_quiet (fail)
  go_wp2
  go_ret2
  exact⟨rfl,_,rfl⟩
 ·have he:=isEmpty_no r (by omega)
  have e1:((r[0].toNat:Int) != 45)=true:=bne_iff_ne.2 (by omega)
  have e2:((r[0].toNat:Int) != 43)=true:=bne_iff_ne.2 (by omega)
  clear h45 h43
  go_enter Tryz.func149,Tryz.ntmps149
  go_wp2
  go_ret2
  exact⟨rfl,0,rfl⟩
end Go.Proofs.YtenbfookfcmpoaaGreatDoor
namespace Go.Proofs.YtenbfookfcmpoaaGreatDoor
open Go.RowKit
def valN(b:Nat)(l:List UInt8):Nat:=(val (b:Int) l).toNat
theorem valN_cast(b:Nat)(l:List UInt8):(valN b l:Int)=val (b:Int) l:=Int.toNat_of_nonneg (val_nonneg _ (by omega) l)
theorem valN_step(b:Nat)(s:ByteArray)(k:Nat)(h:k<s.size)(d:Nat)(hd:(d:Int)=digN 99 (s[k].toNat:Int)):valN b (s.data.toList.take (k+1))=valN b (s.data.toList.take k)*b+d:=by
 have h1:=valN_cast b (s.data.toList.take (k+1))
 rw[val_step (b:Int) s k h,←valN_cast b (s.data.toList.take k),←hd]at h1
 rw[←Int.natCast_mul,←Int.natCast_add]at h1
 exact Int.ofNat_inj.1 h1
theorem valN_lt(b:Nat)(hb:b≤4000000000)(l:List UInt8):valN b l<4294967296 ^ l.length:=by
 have key:∀ (l:List UInt8) (n:Int) (k:Nat),0≤n→n.toNat<4294967296 ^ k→(l.foldl (fun n c=>n*(b:Int)+digN 99 c.toNat) n).toNat<4294967296 ^ (k+l.length):=by
  intro l
  induction l with
  | nil=>intro n k _ h;simpa using h
  | cons c l ih=>
   intro n k h0 h
   have hd:=digN_lo 99 c.toNat (by omega)
   have hd':=digN_hi 99 c.toNat (by omega)
   have hm:0≤n*(b:Int):=Int.mul_nonneg h0 (by omega)
   obtain⟨m,rfl⟩:=Int.eq_ofNat_of_zero_le h0
   rw[Int.toNat_natCast]at h
   have hs:((m:Int)*(b:Int)+digN 99 c.toNat).toNat<4294967296 ^ (k+1):=by
    have e:(m:Int)*(b:Int)=((m*b:Nat):Int):=(Int.natCast_mul m b).symm
    rw[e,Nat.pow_succ]
    have h2:m*b≤(4294967296 ^ k-1)*4000000000:=Nat.mul_le_mul (by omega) hb
    have h3:0<4294967296 ^ k:=Nat.pow_pos (by omega)
    omega
   have:=ih _ (k+1) (by omega) hs
   rw[List.length_cons,show k+(l.length+1)=k+1+l.length by omega]
   exact this
 have:=key l 0 0 (by omega) (by simp)
 rw[Nat.zero_add]at this
 exact this
theorem valN_take_lt(b:Nat)(hb:b≤4000000000)(s:ByteArray)(k:Nat):valN b (s.data.toList.take k)<4294967296 ^ s.size:=by
 refine Nat.lt_of_lt_of_le (valN_lt b hb _) (Nat.pow_le_pow_right (by omega) ?_)
 rw[List.length_take]
 have:s.data.toList.length=s.size:=by simp
 omega
theorem fold_split(b:Int)(l:List UInt8):∀n:Int,l.foldl (fun n c=>n*b+digN 99 c.toNat) n=n*b ^ l.length+val b l:=by
 induction l with
 | nil=>intro n;simp[val]
 | cons c l ih=>
  intro n
  have e1:val b (c :: l)=l.foldl (fun n c=>n*b+digN 99 c.toNat) (0*b+digN 99 c.toNat):=rfl
  rw[e1,ih,List.foldl_cons,ih,List.length_cons,Int.pow_succ,Int.zero_mul,Int.zero_add,Int.add_mul,Int.mul_assoc,Int.mul_comm b,Int.add_assoc]
theorem val_cons(b:Int)(c:UInt8)(l:List UInt8):val b (c :: l)=digN 99 c.toNat*b ^ l.length+val b l:=by
 have e1:val b (c :: l)=l.foldl (fun n c=>n*b+digN 99 c.toNat) (0*b+digN 99 c.toNat):=rfl
 rw[e1,fold_split,Int.zero_mul,Int.zero_add]
theorem good_tail{b:Int}{c:UInt8}{l:List UInt8}(h:good b (c :: l)):good b l:=fun x hx=>h x (List.mem_cons_of_mem _ hx)
theorem valN_cons(b:Nat)(c:UInt8)(l:List UInt8):valN b (c :: l)=(digN 99 (c.toNat:Int)).toNat*b ^ l.length+valN b l:=by
 have h:=valN_cast b (c :: l)
 have hd:=digN_lo 99 c.toNat (by omega)
 rw[val_cons,←valN_cast b l,←Int.toNat_of_nonneg hd,←Int.natCast_pow,←Int.natCast_mul,←Int.natCast_add]at h
 exact Int.ofNat_inj.1 h
theorem valN_good_lt(b:Nat)(l:List UInt8)(hg:good (b:Int) l):valN b l<b ^ l.length:=by
 induction l with
 | nil=>simp[valN,val]
 | cons c l ih=>
  have h1:=ih (good_tail hg)
  have h2:=hg c List.mem_cons_self
  have hd:=digN_lo 99 c.toNat (by omega)
  rw[valN_cons,List.length_cons,Nat.pow_succ,Nat.mul_comm (b ^ l.length) b]
  have h3:((digN 99 (c.toNat:Int)).toNat+1)*b ^ l.length≤b*b ^ l.length:=Nat.mul_le_mul_right _ (by omega)
  rw[Nat.add_mul,Nat.one_mul]at h3
  omega
theorem valN_good_ge(b:Nat)(c:UInt8)(l:List UInt8)(h:digN 99 (c.toNat:Int)≠0):b ^ l.length≤valN b (c :: l):=by
 have hd:=digN_lo 99 c.toNat (by omega)
 rw[valN_cons]
 have:1*b ^ l.length≤(digN 99 (c.toNat:Int)).toNat*b ^ l.length:=Nat.mul_le_mul_right _ (by omega)
 omega
theorem digN_zero(c:UInt8):digN 99 (c.toNat:Int)=0↔c.toNat=48:=by
 unfold digN;split<;>(try split)<;>omega
theorem valN_zero(b:Nat)(c:UInt8)(l:List UInt8)(h:c.toNat=48):valN b (c :: l)=valN b l:=by
 rw[valN_cons,(digN_zero c).2 h];simp
theorem valN_nil(b:Nat):valN b []=0:=by simp[valN,val]
theorem text_cons(s:ByteArray)(h:0<s.size):s.data.toList=s[0] :: (s.extract 1 s.size).data.toList:=by
 have h1:(s.extract 1 s.size).data.toList=s.data.toList.drop 1:=by
  rw[ByteArray.data_extract,Array.toList_extract,List.extract_eq_take_drop]
  apply List.take_of_length_le
  simp
 rw[h1]
 have h2:0<s.data.toList.length:=by simpa using h
 have h3:=List.drop_eq_getElem_cons (l:=s.data.toList) (i:=0) h2
 rw[List.drop_zero]at h3
 exact h3
theorem extract_one(s:ByteArray)(h:0<s.size):(s.extract 1 s.size).size+1=s.size:=by
 have:=congrArg List.length (text_cons s h)
 simp at this
 simp
 omega
end Go.Proofs.YtenbfookfcmpoaaGreatDoor
namespace Go.Proofs.YtenbfookfcmpoaaGreatDoor
open Ieee
def oddOf(m:Nat):Nat:=m / 2*2+1
theorem odd_parts(M d:Nat):M / 2 ^ (d+1)=M / 2 / 2 ^ d∧M % 2 ^ (d+1)=2*(M / 2 % 2 ^ d)+M % 2:=by
 have e1:M / 2 ^ (d+1)=M / 2 / 2 ^ d:=by rw[Nat.pow_succ,Nat.mul_comm,←Nat.div_div_eq_div_mul]
 refine⟨e1,?_⟩
 have h1:=Nat.div_add_mod M (2 ^ (d+1))
 have h2:=Nat.div_add_mod (M / 2) (2 ^ d)
 rw[e1,Nat.pow_succ]at h1
 generalize M / 2 / 2 ^ d=q at *
 generalize M / 2 % 2 ^ d=r at *
 rw[Nat.pow_succ]
 generalize M % (2 ^ d*2)=z at *
 have e3:2 ^ d*2*q=2*(2 ^ d*q):=by rw[Nat.mul_comm (2 ^ d) 2,Nat.mul_assoc]
 rw[e3]at h1
 generalize 2 ^ d*q=g at *
 omega
theorem odd_half(M:Nat):oddOf M / 2=M / 2∧oddOf M % 2=1:=by unfold oddOf;omega
theorem odd_kept(M d:Nat)(hd:2≤d):keptOf (oddOf M) d=if 2 ^ (d-1)≤M % 2 ^ d then M / 2 ^ d+1 else M / 2 ^ d:=by
 obtain⟨k,rfl⟩:∃k,d=k+2:=⟨d-2,by omega⟩
 unfold keptOf
 obtain⟨a1,a2⟩:=odd_parts M (k+1)
 obtain⟨b1,b2⟩:=odd_parts (oddOf M) (k+1)
 obtain⟨c1,c2⟩:=odd_half M
 rw[show k+2=k+1+1 from rfl,b1,b2,a1,a2,c1,c2,Nat.add_sub_cancel,Nat.pow_succ]
 generalize M / 2 / (2 ^ k*2)=q at *
 generalize M / 2 % (2 ^ k*2)=r at *
 generalize 2 ^ k=h at *
 by_cases hc:h*2≤2*r+M % 2
 ·rw[if_pos (.inl (by omega)),if_pos hc]
 ·rw[if_neg (by omega),if_neg hc]
theorem cut_kept(s:Bool)(n d:Nat)(hn:0<n)(hd:1≤d):Toward.even.cut s n d=keptOf n d:=by
 obtain⟨k,rfl⟩:∃k,d=k+1:=⟨d-1,by omega⟩
 have hlt:n<2 ^ (n.log2+1):=Nat.lt_log2_self
 by_cases hl:k+1≤n.log2+2
 ·unfold Toward.cut keptOf
  simp only[Nat.shiftLeft_eq,Nat.one_mul]
  rw[Nat.min_eq_left hl,Nat.add_sub_cancel]
  have hp:2 ^ (k+1)=2*2 ^ k:=by rw[Nat.pow_succ,Nat.mul_comm]
  rw[hp]
  generalize 2 ^ k=g at *
  by_cases hc:g<n % (2*g)∨(n % (2*g)=g∧n / (2*g) % 2=1)
  ·rw[if_pos hc]
   have:(decide (2*g<2*(n % (2*g))) || (2*g==2*(n % (2*g))&&n / (2*g) % 2==1))=true:=by
    rcases hc with h|⟨h1,h2⟩
    ·rw[decide_eq_true (by omega),Bool.true_or]
    ·rw[h1,h2];simp
   rw[this];rfl
  ·rw[if_neg hc]
   have:(decide (2*g<2*(n % (2*g))) || (2*g==2*(n % (2*g))&&n / (2*g) % 2==1))=false:=by
    rw[Bool.or_eq_false_iff]
    refine⟨decide_eq_false (by omega),?_⟩
    rw[Bool.and_eq_false_iff]
    by_cases h1:n % (2*g)=g
    ·right
     have:¬n / (2*g) % 2=1:=fun h=>hc (.inr ⟨h1,h⟩)
     simpa using this
    ·left
     rw[beq_eq_false_iff_ne];omega
   rw[this];rfl
 ·have hk:2 ^ (n.log2+1)≤2 ^ k:=Nat.pow_le_pow_right (by omega) (by omega)
  have hp:2 ^ (k+1)=2*2 ^ k:=by rw[Nat.pow_succ,Nat.mul_comm]
  have e0:keptOf n (k+1)=0:=by
   unfold keptOf
   rw[Nat.add_sub_cancel,Nat.mod_eq_of_lt (by omega),Nat.div_eq_of_lt (by omega),if_neg (by omega)]
  rw[e0]
  unfold Toward.cut
  simp only[Nat.shiftLeft_eq,Nat.one_mul]
  rw[Nat.min_eq_right (by omega)]
  have hp2:2 ^ (n.log2+2)=2*2 ^ (n.log2+1):=by rw[show n.log2+2=n.log2+1+1 from rfl,Nat.pow_succ,Nat.mul_comm]
  rw[hp2]
  generalize 2 ^ (n.log2+1)=g at *
  have e1:n / (2*g)=0:=Nat.div_eq_of_lt (by omega)
  have e2:n % (2*g)=n:=Nat.mod_eq_of_lt (by omega)
  rw[e1,e2]
  have:(decide (2*g<2*n) || (2*g==2*n&&0 % 2==1))=false:=by
   rw[Bool.or_eq_false_iff]
   exact⟨decide_eq_false (by omega),by simp⟩
  rw[this];rfl
theorem odd_log2(m:Nat)(h:2≤m):(oddOf m).log2=m.log2∧(2*m+1).log2=m.log2+1:=by
 have h1:2 ^ m.log2≤m:=Nat.log2_self_le (by omega)
 have h2:m<2 ^ (m.log2+1):=Nat.lt_log2_self
 obtain⟨k,hk⟩:∃k,m.log2=k+1:=by
  have:1≤m.log2:=(Nat.le_log2 (by omega)).2 (by simpa using h)
  exact⟨m.log2-1,by omega⟩
 rw[hk]at h1 h2
 have e1:2 ^ (k+1)=2*2 ^ k:=by rw[Nat.pow_succ,Nat.mul_comm]
 have e2:2 ^ (k+1+1)=2*(2*2 ^ k):=by rw[Nat.pow_succ,e1,Nat.mul_comm]
 have e3:2 ^ (k+1+1+1)=2*(2*(2*2 ^ k)):=by rw[Nat.pow_succ,e2,Nat.mul_comm]
 rw[hk]
 constructor
 ·rw[Nat.log2_eq_iff (by unfold oddOf;omega),e1,e2]
  rw[e1]at h1;rw[e2]at h2
  unfold oddOf
  generalize 2 ^ k=g at *
  omega
 ·rw[Nat.log2_eq_iff (by omega),e2,e3]
  rw[e1]at h1;rw[e2]at h2
  generalize 2 ^ k=g at *
  omega
theorem odd_twice(m:Nat):oddOf (2*m)=2*m+1:=by unfold oddOf;omega
theorem fw_stick(s:Bool)(m:Nat)(p:Int)(h:18014398509481984≤m):fw s (2*m+1) (p-1)=fw s (oddOf m) p:=by
 obtain⟨l1,l2⟩:=odd_log2 m (by omega)
 have hL:54≤m.log2:=(Nat.le_log2 (by omega)).2 h
 unfold fw Format.nearest
 rw[if_neg (by omega),if_neg (by unfold oddOf;omega)]
 simp only[word_eq,infRung_eq,binade_eq,least_eq,frac_eq,l1,l2]
 generalize m.log2=L at *
 have e1:max (p-1+((L+1:Nat):Int)-((52:Nat):Int)) (-1074)=max (p+(L:Int)-((52:Nat):Int)) (-1074):=by omega
 rw[e1]
 generalize hl:max (p+(L:Int)-((52:Nat):Int)) (-1074)=last at *
 obtain⟨d,hd,hd2⟩:∃d:Nat,last-p=d∧2≤d:=⟨(last-p).toNat,by omega,by omega⟩
 have f1:(last-p).toNat=d:=by omega
 have f2:(last-(p-1)).toNat=d+1:=by omega
 have f3:(p-last).toNat=0:=by omega
 have f4:(p-1-last).toNat=0:=by omega
 rw[f1,f2,f3,f4,Nat.shiftLeft_zero,Nat.shiftLeft_zero,cut_kept s _ _ (by omega) (by omega),cut_kept s _ _ (by unfold oddOf;omega) (by omega),←odd_twice,odd_kept _ _ (by omega),odd_kept _ _ (by omega)]
 have g1:=odd_parts (2*m) d
 have g2:2*m / 2=m:=by omega
 rw[g2]at g1
 rw[g1.1,g1.2,Nat.add_sub_cancel]
 obtain⟨k,rfl⟩:∃k,d=k+1:=⟨d-1,by omega⟩
 rw[Nat.add_sub_cancel]
 have e2:2 ^ (k+1)=2*2 ^ k:=by rw[Nat.pow_succ,Nat.mul_comm]
 generalize m / 2 ^ (k+1)=q at *
 generalize m % 2 ^ (k+1)=r at *
 rw[e2]
 generalize 2 ^ k=g at *
 have e3:(2*m) % 2=0:=by omega
 rw[e3]
 by_cases hc:g≤r
 ·rw[if_pos (by omega),if_pos hc]
 ·rw[if_neg (by omega),if_neg hc]
end Go.Proofs.YtenbfookfcmpoaaGreatDoor
namespace Go.Proofs.YtenbfookfcmpoaaGreatDoor
open Ieee (double)
def ratioAt(A' C':Nat)(E:Int):Nat:=if A' % C'=0 then fw false (A' / C') E else fw false (2*(A' / C')+1) (E-1)
theorem ratio_step(A C:Nat)(E:Int)(hC:0<C)(hq:9007199254740992≤A / C):ratioAt (2*A) C (E-1)=ratioAt A C E:=by
 have hd:=Nat.div_add_mod A C
 have hr:=Nat.mod_lt A hC
 generalize hq':A / C=q at *
 generalize hr':A % C=r at *
 have e2:2*A=C*(2*q)+2*r:=by rw[←hd,Nat.mul_add,←Nat.mul_assoc,Nat.mul_comm 2 C,Nat.mul_assoc]
 unfold ratioAt
 rw[hq',hr']
 by_cases h2:2*r<C
 ·have eq:2*A / C=2*q:=by rw[e2,Nat.mul_add_div hC,Nat.div_eq_of_lt h2,Nat.add_zero]
  have er:2*A % C=2*r:=by rw[e2,Nat.mul_add_mod,Nat.mod_eq_of_lt h2]
  rw[eq,er]
  by_cases h0:r=0
  ·rw[if_pos (by omega),if_pos h0,Nat.mul_comm 2 q]
   exact fw_scale false q 1 E
  ·rw[if_neg (by omega),if_neg h0]
   have h:=fw_stick false (2*q) (E-1) (by omega)
   rw[odd_twice]at h
   exact h
 ·have e3:2*A=C*(2*q+1)+(2*r-C):=by rw[e2,Nat.mul_add,Nat.mul_one];omega
  have eq:2*A / C=2*q+1:=by rw[e3,Nat.mul_add_div hC,Nat.div_eq_of_lt (by omega),Nat.add_zero]
  have er:2*A % C=2*r-C:=by rw[e3,Nat.mul_add_mod,Nat.mod_eq_of_lt (by omega)]
  rw[eq,er,if_neg (show ¬r=0 by omega)]
  by_cases h0:2*r-C=0
  ·rw[if_pos h0]
  ·rw[if_neg h0]
   have h:=fw_stick false (2*q+1) (E-1) (by omega)
   rw[show oddOf (2*q+1)=2*q+1 by unfold oddOf;omega]at h
   exact h
theorem ratio_steps(A C:Nat)(E:Int)(k:Nat)(hC:0<C)(hq:9007199254740992≤A / C):ratioAt (A*2 ^ k) C (E-k)=ratioAt A C E:=by
 induction k with
 | zero=>rw[Nat.pow_zero,Nat.mul_one];congr 1;omega
 | succ k ih=>
  rw[←ih]
  have h:9007199254740992≤A*2 ^ k / C:=Nat.le_trans hq (Nat.div_le_div_right (Nat.le_mul_of_pos_right _ (Nat.two_pow_pos k)))
  have hs:=ratio_step (A*2 ^ k) C (E-k) hC h
  rw[←hs,Nat.pow_succ,show A*(2 ^ k*2)=2*(A*2 ^ k) by rw[Nat.mul_comm (2 ^ k) 2,Nat.mul_left_comm]]
  congr 1
  omega
theorem ratio_scale(A C t:Nat)(E:Int)(ht:0<t):ratioAt (A*t) (C*t) E=ratioAt A C E:=by
 unfold ratioAt
 rw[Nat.mul_div_mul_right A C ht,Nat.mul_mod_mul_right]
 have:A % C*t=0↔A % C=0:=by
  constructor
  ·intro h;rcases Nat.mul_eq_zero.1 h with h|h<;>omega
  ·intro h;rw[h,Nat.zero_mul]
 by_cases h:A % C=0
 ·rw[if_pos h,if_pos (this.2 h)]
 ·rw[if_neg h,if_neg (fun x=>h (this.1 x))]
theorem ratio_same(A C a c a' c':Nat)(hC:0<C)(h:9007199254740992≤A*2 ^ a / (C*2 ^ c))(h':9007199254740992≤A*2 ^ a' / (C*2 ^ c')) :
  ratioAt (A*2 ^ a) (C*2 ^ c) ((c:Int)-a)=ratioAt (A*2 ^ a') (C*2 ^ c') ((c':Int)-a'):=by
 have key:∀a c a' c':Nat,9007199254740992≤A*2 ^ a / (C*2 ^ c)→a+c'≤a'+c→ratioAt (A*2 ^ a') (C*2 ^ c') ((c':Int)-a')=ratioAt (A*2 ^ a) (C*2 ^ c) ((c:Int)-a):=by
  intro a c a' c' h hle
  obtain⟨k,hk⟩:∃k,a'+c=a+c'+k:=⟨a'+c-(a+c'),by omega⟩
  rw[←ratio_scale (A*2 ^ a') (C*2 ^ c') (2 ^ c) _ (Nat.two_pow_pos c),←ratio_scale (A*2 ^ a) (C*2 ^ c) (2 ^ c') _ (Nat.two_pow_pos c')]
  have e1:A*2 ^ a'*2 ^ c=A*2 ^ a*2 ^ c'*2 ^ k:=by
   rw[Nat.mul_assoc,←Nat.pow_add,Nat.mul_assoc A,←Nat.pow_add,Nat.mul_assoc A,←Nat.pow_add,hk]
  have e2:C*2 ^ c'*2 ^ c=C*2 ^ c*2 ^ c':=by rw[Nat.mul_assoc,Nat.mul_comm (2 ^ c'),←Nat.mul_assoc]
  rw[e1,e2]
  have hpos:0<C*2 ^ c*2 ^ c':=Nat.mul_pos (Nat.mul_pos hC (Nat.two_pow_pos c)) (Nat.two_pow_pos c')
  have hq:9007199254740992≤A*2 ^ a*2 ^ c' / (C*2 ^ c*2 ^ c'):=by rw[Nat.mul_div_mul_right _ _ (Nat.two_pow_pos c')];exact h
  have hs:=ratio_steps (A*2 ^ a*2 ^ c') (C*2 ^ c*2 ^ c') ((c:Int)-a) k hpos hq
  rw[←hs]
  congr 1
  omega
 by_cases hle:a+c'≤a'+c
 ·exact(key a c a' c' h hle).symm
 ·exact key a' c' a c h' (by omega)
def ratioW(A C:Nat):Nat:=ratioAt (A*2 ^ (-((A.log2:Int)-C.log2-63)).toNat) (C*2 ^ ((A.log2:Int)-C.log2-63).toNat) ((A.log2:Int)-C.log2-63)
theorem ratio_long(A C a c:Nat)(hA:0<A)(hC:0<C)(h:(A.log2:Int)+a-(C.log2+c)≥54):9007199254740992≤A*2 ^ a / (C*2 ^ c):=by
 rw[Nat.le_div_iff_mul_le (Nat.mul_pos hC (Nat.two_pow_pos c))]
 have h1:2 ^ A.log2≤A:=Nat.log2_self_le (by omega)
 have h2:C<2 ^ (C.log2+1):=Nat.lt_log2_self
 generalize A.log2=x at *
 generalize C.log2=y at *
 have h3:2 ^ x*2 ^ a≤A*2 ^ a:=Nat.mul_le_mul_right _ h1
 have h4:C*2 ^ c≤2 ^ (y+1)*2 ^ c:=Nat.mul_le_mul_right _ (Nat.le_of_lt h2)
 have h5:9007199254740992*(C*2 ^ c)≤2 ^ 53*(2 ^ (y+1)*2 ^ c):=Nat.mul_le_mul_left _ h4
 rw[←Nat.pow_add,←Nat.pow_add]at h5
 rw[←Nat.pow_add]at h3
 have h6:2 ^ (53+(y+1+c))≤2 ^ (x+a):=Nat.pow_le_pow_right (by omega) (by omega)
 omega
theorem ratioW_at(A C a c:Nat)(hA:0<A)(hC:0<C)(h:9007199254740992≤A*2 ^ a / (C*2 ^ c)):ratioAt (A*2 ^ a) (C*2 ^ c) ((c:Int)-a)=ratioW A C:=by
 unfold ratioW
 have h':=ratio_long A C (-((A.log2:Int)-C.log2-63)).toNat ((A.log2:Int)-C.log2-63).toNat hA hC (by omega)
 rw[ratio_same A C a c _ _ hC h h']
 congr 1
 omega
theorem ratioW_scale(A C t:Nat)(hA:0<A)(hC:0<C)(ht:0<t):ratioW (A*t) (C*t)=ratioW A C:=by
 have h:=ratio_long A C (-((A.log2:Int)-C.log2-63)).toNat ((A.log2:Int)-C.log2-63).toNat hA hC (by omega)
 generalize (-((A.log2:Int)-C.log2-63)).toNat=a at *
 generalize ((A.log2:Int)-C.log2-63).toNat=c at *
 rw[←ratioW_at A C a c hA hC h]
 have e1:A*t*2 ^ a=A*2 ^ a*t:=by rw[Nat.mul_assoc,Nat.mul_comm t,←Nat.mul_assoc]
 have e2:C*t*2 ^ c=C*2 ^ c*t:=by rw[Nat.mul_assoc,Nat.mul_comm t,←Nat.mul_assoc]
 have h':9007199254740992≤A*t*2 ^ a / (C*t*2 ^ c):=by rw[e1,e2,Nat.mul_div_mul_right _ _ ht];exact h
 rw[←ratioW_at (A*t) (C*t) a c (Nat.mul_pos hA ht) (Nat.mul_pos hC ht) h',e1,e2,ratio_scale _ _ t _ ht]
theorem ratioW_eq(A C A' C':Nat)(hA:0<A)(hC:0<C)(hA':0<A')(hC':0<C')(h:A*C'=A'*C):ratioW A C=ratioW A' C':=by
 rw[←ratioW_scale A C C' hA hC hC',←ratioW_scale A' C' C hA' hC' hC,h,Nat.mul_comm C C']
theorem ratioW_fw(m:Nat)(a c:Nat)(hm:0<m):ratioW (m*2 ^ a) (2 ^ c)=fw false m ((a:Int)-c):=by
 have h0:0<m*2 ^ a:=Nat.mul_pos hm (Nat.two_pow_pos a)
 obtain⟨j,hj⟩:∃j,2 ^ j=9007199254740992:=⟨53,rfl⟩
 have hq:9007199254740992≤m*2 ^ a*2 ^ (c+j) / (2 ^ c*2 ^ 0):=by
  rw[Nat.pow_zero,Nat.mul_one,Nat.pow_add,Nat.mul_comm (2 ^ c),←Nat.mul_assoc,Nat.mul_div_cancel _ (Nat.two_pow_pos c)]
  have:1*2 ^ j≤m*2 ^ a*2 ^ j:=Nat.mul_le_mul_right _ h0
  omega
 rw[←ratioW_at (m*2 ^ a) (2 ^ c) (c+j) 0 h0 (Nat.two_pow_pos c) hq]
 unfold ratioAt
 rw[Nat.pow_zero,Nat.mul_one,Nat.pow_add,Nat.mul_comm (2 ^ c),←Nat.mul_assoc,Nat.mul_mod_left,if_pos rfl,Nat.mul_div_cancel _ (Nat.two_pow_pos c),Nat.mul_assoc,←Nat.pow_add]
 have:=fw_scale false m (a+j) ((a:Int)-c)
 rw[←this]
 congr 1
 omega
end Go.Proofs.YtenbfookfcmpoaaGreatDoor
namespace Go.Proofs.YtenbfookfcmpoaaGreatDoor
open Ieee
def roundN(m:Nat)(d:Int):Nat:=if d≤0 then m*2 ^ (-d).toNat else keptOf m d.toNat
theorem fw_place(s:Bool)(m:Nat)(e:Int)(h0:0<m) :
  fw s m e=signBit s+min ((max (e+(m.log2:Int)-52) (-1074)+1074).toNat*4503599627370496+roundN m (max (e+(m.log2:Int)-52) (-1074)-e)) 9218868437227405312:=by
 unfold fw Format.nearest
 rw[if_neg (by omega)]
 simp only[word_eq,infRung_eq,binade_eq,least_eq,frac_eq]
 rw[show e+(m.log2:Int)-((52:Nat):Int)=e+(m.log2:Int)-52 from rfl]
 generalize max (e+(m.log2:Int)-52) (-1074)=l
 rw[show(l - -1074).toNat=(l+1074).toNat by omega]
 unfold roundN
 by_cases hd:l-e≤0
 ·rw[if_pos hd,show(l-e).toNat=0 by omega,cut_zero,Nat.shiftLeft_eq,show(e-l).toNat=(-(l-e)).toNat by omega]
 ·rw[if_neg hd,show(e-l).toNat=0 by omega,Nat.shiftLeft_zero,cut_kept s m _ h0 (by omega)]
theorem log_63(m:Nat)(h0:0<m)(h:m<18446744073709551616):m.log2≤63:=(norm_64 m h0 h).2.2
theorem kept_small(m L d:Nat)(hm:m<2 ^ (L+1))(hL:L≤d+52):keptOf m d≤9007199254740992:=by
 have h:m / 2 ^ d<2 ^ 53:=by
  rw[Nat.div_lt_iff_lt_mul (Nat.two_pow_pos d),←Nat.pow_add]
  exact Nat.lt_of_lt_of_le hm (Nat.pow_le_pow_right (by omega) (by omega))
 have e:(2:Nat) ^ 53=9007199254740992:=rfl
 unfold keptOf
 split<;>omega
theorem roundN_le(m:Nat)(e:Int):roundN m (max (e+(m.log2:Int)-52) (-1074)-e)≤9007199254740992:=by
 have hlt:m<2 ^ (m.log2+1):=Nat.lt_log2_self
 generalize m.log2=L at *
 unfold roundN
 by_cases hd:max (e+(L:Int)-52) (-1074)-e≤0
 ·rw[if_pos hd]
  have h1:m*2 ^ (-(max (e+(L:Int)-52) (-1074)-e)).toNat<2 ^ (L+1)*2 ^ (-(max (e+(L:Int)-52) (-1074)-e)).toNat:=Nat.mul_lt_mul_of_pos_right hlt (Nat.two_pow_pos _)
  rw[←Nat.pow_add]at h1
  have h2:2 ^ (L+1+(-(max (e+(L:Int)-52) (-1074)-e)).toNat)≤2 ^ 53:=Nat.pow_le_pow_right (by omega) (by omega)
  have e53:(2:Nat) ^ 53=9007199254740992:=rfl
  omega
 ·rw[if_neg hd]
  exact kept_small m L _ hlt (by omega)
theorem fw_fits(s:Bool)(m:Nat)(e l:Int)(h0:0<m)(hl:l=max (e+(m.log2:Int)-52) (-1074))(h:l≤971):fw s m e=signBit s+((l+1074).toNat*4503599627370496+roundN m (l-e)):=by
 have h1:=fw_place s m e h0
 have h2:=roundN_le m e
 rw[←hl]at h1 h2
 rw[h1,Nat.min_eq_left (by omega)]
theorem fw_over(s:Bool)(m:Nat)(e l:Int)(h0:0<m)(hl:l=max (e+(m.log2:Int)-52) (-1074))(h:971<l):fw s m e=iw s:=by
 have h1:=fw_place s m e h0
 rw[←hl]at h1
 have hge:2 ^ m.log2≤m:=Nat.log2_self_le (by omega)
 have hk:4503599627370496≤roundN m (l-e):=by
  have el:l=e+(m.log2:Int)-52:=by omega
  unfold roundN
  have e52:(2:Nat) ^ 52=4503599627370496:=rfl
  generalize m.log2=L at *
  by_cases hd:l-e≤0
  ·rw[if_pos hd]
   have h3:2 ^ L*2 ^ (-(l-e)).toNat≤m*2 ^ (-(l-e)).toNat:=Nat.mul_le_mul_right _ hge
   rw[←Nat.pow_add,show L+(-(l-e)).toNat=52 by omega]at h3
   omega
  ·rw[if_neg hd]
   have h3:2 ^ 52≤m / 2 ^ (l-e).toNat:=by
    rw[Nat.le_div_iff_mul_le (Nat.two_pow_pos _),←Nat.pow_add,show 52+(l-e).toNat=L by omega]
    exact hge
   unfold keptOf
   split<;>omega
 rw[h1]
 unfold iw
 rw[Nat.min_eq_right (by omega)]
end Go.Proofs.YtenbfookfcmpoaaGreatDoor
namespace Go.Proofs.YtenbfookfcmpoaaGreatDoor
open Ieee (double)
theorem fw_low(s:Bool)(m:Nat)(e:Int)(h:e+(m.log2:Int)≤-1076):fw s m e=signBit s:=by
 by_cases h0:m=0
 ·subst h0;exact fw_zero s e
 ·rw[fw_place s m e (by omega)]
  have hlt:m<2 ^ (m.log2+1):=Nat.lt_log2_self
  generalize m.log2=L at *
  have hl:max (e+(L:Int)-52) (-1074) = -1074:=by omega
  rw[hl]
  have hk:roundN m (-1074-e)=0:=by
   unfold roundN
   rw[if_neg (by omega)]
   obtain⟨d,hd⟩:∃d:Nat,(-1074-e).toNat=d+1:=⟨(-1074-e).toNat-1,by omega⟩
   rw[hd]
   have h2:m<2 ^ d:=Nat.lt_of_lt_of_le hlt (Nat.pow_le_pow_right (by omega) (by omega))
   have h3:2 ^ d≤2 ^ (d+1):=Nat.pow_le_pow_right (by omega) (by omega)
   unfold keptOf
   rw[Nat.div_eq_of_lt (by omega),Nat.mod_eq_of_lt (show m<2 ^ (d+1) by omega),Nat.add_sub_cancel,if_neg (by omega)]
  rw[hk]
  show signBit s+min (0*4503599627370496+0) 9218868437227405312=signBit s
  rw[Nat.zero_mul,Nat.zero_add,Nat.zero_min,Nat.add_zero]
theorem log2_ge(m k:Nat)(h0:0<m)(h:2 ^ k≤m):k≤m.log2:=(Nat.le_log2 (by omega)).2 h
theorem log2_le(m k:Nat)(h0:0<m)(h:m<2 ^ (k+1)):m.log2≤k:=by have:=(Nat.log2_lt (by omega)).2 h;omega
theorem div_log(A C k:Nat)(hC:0<C)(h:C*2 ^ k≤A):(k:Int)≤(A.log2:Int)-C.log2:=by
 have h1:2 ^ C.log2≤C:=Nat.log2_self_le (by omega)
 have h2:2 ^ C.log2*2 ^ k≤C*2 ^ k:=Nat.mul_le_mul_right _ h1
 rw[←Nat.pow_add]at h2
 have h3:0<A:=Nat.lt_of_lt_of_le (Nat.mul_pos hC (Nat.two_pow_pos k)) h
 have:=log2_ge A (C.log2+k) h3 (Nat.le_trans h2 h)
 omega
theorem ratio_over(A C k:Nat)(hC:0<C)(hk:1025≤k)(h:C*2 ^ k≤A):ratioW A C=iw false:=by
 have hA:0<A:=Nat.lt_of_lt_of_le (Nat.mul_pos hC (Nat.two_pow_pos k)) h
 have hd:=div_log A C k hC h
 have hl:=ratio_long A C (-((A.log2:Int)-C.log2-63)).toNat ((A.log2:Int)-C.log2-63).toNat hA hC (by omega)
 have hq:2 ^ 62≤A*2 ^ (-((A.log2:Int)-C.log2-63)).toNat / (C*2 ^ ((A.log2:Int)-C.log2-63).toNat):=by
  rw[Nat.le_div_iff_mul_le (Nat.mul_pos hC (Nat.two_pow_pos _))]
  have h1:2 ^ A.log2≤A:=Nat.log2_self_le (by omega)
  have h2:C<2 ^ (C.log2+1):=Nat.lt_log2_self
  generalize A.log2=x at *
  generalize C.log2=y at *
  rw[show(-((x:Int)-y-63)).toNat=0 by omega,Nat.pow_zero,Nat.mul_one]
  have h4:C*2 ^ ((x:Int)-y-63).toNat≤2 ^ (y+1)*2 ^ ((x:Int)-y-63).toNat:=Nat.mul_le_mul_right _ (Nat.le_of_lt h2)
  have h5:=Nat.mul_le_mul_left (2 ^ 62) h4
  rw[←Nat.pow_add,←Nat.pow_add,show 62+(y+1+((x:Int)-y-63).toNat)=x by omega]at h5
  exact Nat.le_trans h5 h1
 unfold ratioW ratioAt
 generalize A*2 ^ (-((A.log2:Int)-C.log2-63)).toNat / (C*2 ^ ((A.log2:Int)-C.log2-63).toNat)=q at *
 generalize A*2 ^ (-((A.log2:Int)-C.log2-63)).toNat % (C*2 ^ ((A.log2:Int)-C.log2-63).toNat)=r at *
 have hq62:=log2_ge q 62 (by omega) hq
 split
 ·exact fw_over false q _ _ (by omega) rfl (by omega)
 ·have h63:2 ^ 63≤2*q+1:=by
   have:(2:Nat) ^ 63=2*2 ^ 62:=by decide
   omega
  have:=log2_ge (2*q+1) 63 (by omega) h63
  exact fw_over false (2*q+1) _ _ (by omega) rfl (by omega)
theorem ratio_under(A C k:Nat)(hA:0<A)(hk:1080≤k)(h:A*2 ^ k≤C):ratioW A C=0:=by
 have hC:0<C:=Nat.lt_of_lt_of_le (Nat.mul_pos hA (Nat.two_pow_pos k)) h
 have hd:=div_log C A k hA h
 have hq:A*2 ^ (-((A.log2:Int)-C.log2-63)).toNat / (C*2 ^ ((A.log2:Int)-C.log2-63).toNat)<2 ^ 64:=by
  rw[Nat.div_lt_iff_lt_mul (Nat.mul_pos hC (Nat.two_pow_pos _))]
  have h1:2 ^ C.log2≤C:=Nat.log2_self_le (by omega)
  have h2:A<2 ^ (A.log2+1):=Nat.lt_log2_self
  generalize A.log2=x at *
  generalize C.log2=y at *
  rw[show((x:Int)-y-63).toNat=0 by omega,Nat.pow_zero,Nat.mul_one]
  have h4:A*2 ^ (-((x:Int)-y-63)).toNat<2 ^ (x+1)*2 ^ (-((x:Int)-y-63)).toNat:=Nat.mul_lt_mul_of_pos_right h2 (Nat.two_pow_pos _)
  rw[←Nat.pow_add,show x+1+(-((x:Int)-y-63)).toNat=64+y by omega,Nat.pow_add]at h4
  exact Nat.lt_of_lt_of_le h4 (Nat.mul_le_mul_left _ h1)
 unfold ratioW ratioAt
 generalize A*2 ^ (-((A.log2:Int)-C.log2-63)).toNat / (C*2 ^ ((A.log2:Int)-C.log2-63).toNat)=q at *
 generalize A*2 ^ (-((A.log2:Int)-C.log2-63)).toNat % (C*2 ^ ((A.log2:Int)-C.log2-63).toNat)=r at *
 have e64:(2:Nat) ^ 64=18446744073709551616:=rfl
 have e65:(2:Nat) ^ (64+1)=36893488147419103232:=rfl
 split
 ·by_cases h0:q=0
  ·subst h0;exact fw_zero false _
  ·have:=log2_le q 64 (by omega) (by omega)
   exact fw_low false q _ (by omega)
 ·have:=log2_le (2*q+1) 64 (by omega) (by omega)
  exact fw_low false (2*q+1) _ (by omega)
def decW(b V:Nat)(e:Int):Nat:=if V=0 then 0 else ratioW (V*b ^ e.toNat) (b ^ (-e).toNat)
theorem ten_lo(n:Nat):2 ^ (3*n)≤10 ^ n:=by rw[Nat.pow_mul];exact Nat.pow_le_pow_left (by omega) n
theorem ten_hi(n:Nat):10 ^ n≤2 ^ (4*n):=by rw[Nat.pow_mul];exact Nat.pow_le_pow_left (by omega) n
theorem dec_over(V:Nat)(e:Int)(len:Nat)(hV:10 ^ (len-1)≤V)(hl:1≤len)(h:(len:Int)+e > 400):decW 10 V e=iw false:=by
 have h0:0<V:=Nat.lt_of_lt_of_le (Nat.pow_pos (by omega)) hV
 unfold decW
 rw[if_neg (by omega)]
 obtain⟨k,hk⟩:∃k:Nat,(k:Int)=(len:Int)+e-1:=⟨((len:Int)+e-1).toNat,by omega⟩
 refine ratio_over _ _ (3*k) (Nat.pow_pos (by omega)) (by omega) ?_
 have h1:10 ^ (-e).toNat*2 ^ (3*k)≤10 ^ (-e).toNat*10 ^ k:=Nat.mul_le_mul_left _ (ten_lo k)
 have h2:10 ^ (len-1)*10 ^ e.toNat≤V*10 ^ e.toNat:=Nat.mul_le_mul_right _ hV
 rw[←Nat.pow_add]at h1 h2
 rw[show(-e).toNat+k=len-1+e.toNat by omega]at h1
 exact Nat.le_trans h1 h2
theorem dec_under(V:Nat)(e:Int)(len:Nat)(h0:0<V)(hV:V<10 ^ len)(h:(len:Int)+e < -400):decW 10 V e=0:=by
 unfold decW
 rw[if_neg (by omega)]
 obtain⟨k,hk⟩:∃k:Nat,(k:Int) = -e-(len:Int):=⟨(-e-(len:Int)).toNat,by omega⟩
 have h1:V*10 ^ e.toNat=V:=by rw[show e.toNat=0 by omega,Nat.pow_zero,Nat.mul_one]
 rw[h1]
 refine ratio_under _ _ (3*k) h0 (by omega) ?_
 have h2:V*2 ^ (3*k)≤10 ^ len*10 ^ k:=Nat.mul_le_mul (Nat.le_of_lt hV) (ten_lo k)
 rw[←Nat.pow_add,show len+k=(-e).toNat by omega]at h2
 exact h2
theorem dec_within(V:Nat)(e:Int)(len:Nat)(hV:10 ^ (len-1)≤V)(hV':V<10 ^ len)(hl:1≤len)(h1:(len:Int)+e≤400)(h2:-400≤(len:Int)+e) :
  ((V*10 ^ e.toNat).log2:Int)-(10 ^ (-e).toNat).log2≤1900∧-1900≤((V*10 ^ e.toNat).log2:Int)-(10 ^ (-e).toNat).log2:=by
 have h0:0<V:=Nat.lt_of_lt_of_le (Nat.pow_pos (by omega)) hV
 have hA:0<V*10 ^ e.toNat:=Nat.mul_pos h0 (Nat.pow_pos (by omega))
 have hC:0<10 ^ (-e).toNat:=Nat.pow_pos (by omega)
 constructor
 ·obtain⟨k,hk⟩:∃k:Nat,k=401:=⟨_,rfl⟩
  have a1:V*10 ^ e.toNat≤10 ^ len*10 ^ e.toNat:=Nat.mul_le_mul_right _ (Nat.le_of_lt hV')
  rw[←Nat.pow_add]at a1
  have a2:10 ^ (len+e.toNat)≤10 ^ ((-e).toNat+k):=Nat.pow_le_pow_right (by omega) (by omega)
  rw[Nat.pow_add 10 (-e).toNat k]at a2
  have a3:10 ^ (-e).toNat*10 ^ k≤10 ^ (-e).toNat*2 ^ (4*k):=Nat.mul_le_mul_left _ (ten_hi k)
  have a4:V*10 ^ e.toNat≤10 ^ (-e).toNat*2 ^ (4*k):=Nat.le_trans a1 (Nat.le_trans a2 a3)
  have b1:10 ^ (-e).toNat<2 ^ ((10 ^ (-e).toNat).log2+1):=Nat.lt_log2_self
  generalize 10 ^ (-e).toNat=C at *
  have b2:C*2 ^ (4*k)<2 ^ (C.log2+1)*2 ^ (4*k):=Nat.mul_lt_mul_of_pos_right b1 (Nat.two_pow_pos _)
  rw[←Nat.pow_add]at b2
  have:=log2_le (V*10 ^ e.toNat) (C.log2+4*k) hA (by rw[show C.log2+4*k+1=C.log2+1+4*k by omega];exact Nat.lt_of_le_of_lt a4 b2)
  omega
 ·obtain⟨k,hk⟩:∃k:Nat,k=401:=⟨_,rfl⟩
  have a1:10 ^ (len-1)*10 ^ e.toNat≤V*10 ^ e.toNat:=Nat.mul_le_mul_right _ hV
  have a2:10 ^ (-e).toNat≤10 ^ (len-1+e.toNat+k):=Nat.pow_le_pow_right (by omega) (by omega)
  rw[Nat.pow_add,Nat.pow_add]at a2
  have a3:10 ^ (len-1)*10 ^ e.toNat*10 ^ k≤V*10 ^ e.toNat*2 ^ (4*k):=Nat.mul_le_mul a1 (ten_hi k)
  have a4:10 ^ (-e).toNat≤V*10 ^ e.toNat*2 ^ (4*k):=Nat.le_trans a2 a3
  generalize V*10 ^ e.toNat=A at *
  generalize 10 ^ (-e).toNat=C at *
  have b1:A<2 ^ (A.log2+1):=Nat.lt_log2_self
  have b2:A*2 ^ (4*k)<2 ^ (A.log2+1)*2 ^ (4*k):=Nat.mul_lt_mul_of_pos_right b1 (Nat.two_pow_pos _)
  rw[←Nat.pow_add]at b2
  have:=log2_le C (A.log2+4*k) hC (by rw[show A.log2+4*k+1=A.log2+1+4*k by omega];exact Nat.lt_of_le_of_lt a4 b2)
  omega
end Go.Proofs.YtenbfookfcmpoaaGreatDoor
namespace Go.Proofs.YtenbfookfcmpoaaGreatDoor
open Go.RowKit
def bAt(s:ByteArray)(k:Nat):Int:=if h:k<s.size then (s[k].toNat:Int) else 0
theorem bAt_in(s:ByteArray)(k:Nat)(h:k<s.size):bAt s k=(s[k].toNat:Int):=dif_pos h
theorem bAt_out(s:ByteArray)(k:Nat)(h:¬k<s.size):bAt s k=0:=dif_neg h
def Dig(b:Int)(s:ByteArray)(i:Nat):Prop:=i<s.size∧digN 99 (bAt s i)<b
def Run(b:Int)(s:ByteArray)(k j:Nat):Prop:=k≤j∧j≤s.size∧(∀i,k≤i→i<j→Dig b s i)∧¬Dig b s j
theorem run_one(b:Int)(s:ByteArray)(k j j':Nat)(h:Run b s k j)(h':Run b s k j'):j=j':=by
 obtain⟨a1,a2,a3,a4⟩:=h
 obtain⟨b1,b2,b3,b4⟩:=h'
 rcases Nat.lt_trichotomy j j' with hlt|rfl|hlt
 ·exact absurd (b3 j a1 hlt) a4
 ·rfl
 ·exact absurd (a3 j' b1 hlt) b4
def Sgn(s:ByteArray)(k:Nat)(neg:Bool)(j:Nat):Prop:=
 (k<s.size∧bAt s k=45∧neg=true∧j=k+1)∨(k<s.size∧bAt s k=43∧neg=false∧j=k+1)∨(bAt s k≠45∧bAt s k≠43∧neg=false∧j=k)
theorem sgn_any(s:ByteArray)(k:Nat):∃neg j,Sgn s k neg j:=by
 by_cases h:bAt s k=45
 ·have hk:k<s.size:=by
   by_cases hk:k<s.size
   ·exact hk
   ·rw[bAt_out s k hk]at h;omega
  exact⟨_,_,.inl ⟨hk,h,rfl,rfl⟩⟩
 ·by_cases h':bAt s k=43
  ·have hk:k<s.size:=by
    by_cases hk:k<s.size
    ·exact hk
    ·rw[bAt_out s k hk]at h';omega
   exact⟨_,_,.inr (.inl ⟨hk,h',rfl,rfl⟩)⟩
  ·exact⟨_,_,.inr (.inr ⟨h,h',rfl,rfl⟩)⟩
theorem sgn_le(s:ByteArray)(k:Nat)(neg:Bool)(j:Nat)(h:Sgn s k neg j)(hk:k≤s.size):j≤s.size:=by
 rcases h with⟨a,_,_,e⟩|⟨a,_,_,e⟩|⟨_,_,_,e⟩<;>omega
theorem run_get(s:ByteArray)(k j i:Nat)(hj:j≤s.size)(h:i<(s.extract k j).size):∃h':k+i<s.size,(s.extract k j)[i]=s[k+i]:=by
 have hz:(s.extract k j).size=j-k:=by rw[ByteArray.size_extract];omega
 exact⟨by omega,ByteArray.getElem_extract _⟩
theorem run_good(b:Int)(s:ByteArray)(k j:Nat)(h:Run b s k j):good b (s.extract k j).data.toList:=by
 obtain⟨h1,h2,h3,_⟩:=h
 refine good_of b _ fun i hi=>?_
 have hz:(s.extract k j).size=j-k:=by rw[ByteArray.size_extract];omega
 obtain⟨h',e⟩:=run_get s k j i h2 hi
 rw[e,←bAt_in s (k+i) h']
 exact(h3 (k+i) (by omega) (by omega)).2
theorem ten_digit(c:UInt8)(h:digN 99 (c.toNat:Int)<10):48≤(c.toNat:Int)∧(c.toNat:Int)≤57∧digN 99 (c.toNat:Int)=(c.toNat:Int)-48:=by
 unfold digN at h ⊢
 split at h
 ·rename_i h1;rw[if_pos h1];omega
 ·split at h<;>omega
def cap(V:Nat):Nat:=min V 100000
def runV(b:Nat)(s:ByteArray)(k j:Nat):Nat:=valN b (s.extract k j).data.toList
def expV(neg:Bool)(V:Nat):Int:=if neg then -(cap V:Int) else (cap V:Int)
def Bas(s:ByteArray)(k:Nat)(b:Nat)(j:Nat):Prop:=
 (bAt s k=48∧k+1<s.size∧bAt s (k+1)=120∧b=16∧j=k+2)∨(¬(bAt s k=48∧k+1<s.size∧bAt s (k+1)=120)∧b=10∧j=k)
def wordC(nan:Bool)(t:Nat):Int:=if nan then (if t=0 then 110 else if t=1 then 97 else 110) else (if t=0 then 105 else if t=1 then 110 else 102)
def Frac(b:Nat)(s:ByteArray)(k j:Nat)(r:Option (ByteArray × Int × Nat)):Prop:=
 (bAt s j≠46∧r=some (s.extract k j,0,j)) ∨
 (bAt s j=46∧∃i,Run b s (j+1) i∧((i=j+1∧r=none)∨(j+1<i∧r=some (s.extract k j++s.extract (j+1) i,-((i-(j+1):Nat):Int),i))))
def Expo(m:Int)(s:ByteArray)(j:Nat)(r:Sum (Int × Nat) Nat):Prop:=
 (bAt s j≠m∧r=.inl (0,j)) ∨
 (bAt s j=m∧∃neg k i,Sgn s (j+1) neg k∧Run 10 s k i∧((i=k∧r=.inr i)∨(k<i∧r=.inl (expV neg (runV 10 s k i),i))))
def flW(neg:Bool)(b:Nat)(ds:ByteArray)(e:Int):Nat:=signBit neg+(if b=16 then fw false (valN 16 ds.data.toList) e else decW 10 (valN 10 ds.data.toList) e)
def markOf(b:Nat):Int:=if b=16 then 112 else 101
def expOf(b:Nat)(e:Int):Int:=if b=16 then 4*e else e
def ReadA(s:ByteArray)(ok:Bool)(pl:Int)(fl:Nat→Prop):Prop:=
 (1200<s.size∧ok=false∧pl=1200∧fl=(· = 0)) ∨
 (s.size≤1200∧∃neg k,Sgn s 0 neg k∧(
  (∃nan,bAt s k=wordC nan 0∧∃i,i≤3∧(∀t,t<i→bAt s (k+t)=wordC nan t) ∧
   ((i<3∧bAt s (k+i)≠wordC nan i∧ok=false∧pl=((k+i:Nat):Int)∧fl=(· = 0)) ∨
    (i=3∧k+3<s.size∧ok=false∧pl=((k+3:Nat):Int)∧fl=(· = 0)) ∨
    (i=3∧¬k+3<s.size∧ok=true∧pl=0∧fl=(if nan then IsNan else (· = iw neg))))) ∨
  (bAt s k≠105∧bAt s k≠110∧∃b k1 j,Bas s k b k1∧Run b s k1 j∧(
   (j=k1∧ok=false∧pl=(k1:Int)∧fl=(· = 0)) ∨
   (k1<j∧∃r,Frac b s k1 j r∧(
    (r=none∧ok=false∧pl=((j+1:Nat):Int)∧fl=(· = 0)) ∨
    (∃ds e i x,r=some (ds,e,i)∧Expo (markOf b) s i x∧(
     (∃a,x=.inr a∧ok=false∧pl=(a:Int)∧fl=(· = 0)) ∨
     (∃n a,x=.inl (n,a)∧(
      (a<s.size∧ok=false∧pl=(a:Int)∧fl=(· = 0)) ∨
      (¬a<s.size∧ok=true∧pl=0∧fl=(· = flW neg b ds (expOf b e+n)))))))))))))
end Go.Proofs.YtenbfookfcmpoaaGreatDoor
namespace Go.Proofs.YtenbfookfcmpoaaGreatDoor
open Go.ChangeShapes Go.WideShapes Go.RowKit
set_option maxHeartbeats 400000 in
theorem implDigit_any(c:Int)(w:World)(h0:0≤c)(h1:c≤255) :
  Calls Tryz.prog 142 #[.int .u8 c] w fun e w'=>e=.returned (.int .u64 (digN 36 c))∧w'=w:=by
 by_cases ha:48≤c∧c≤57
 ·have hv:digN 36 c=c-48:=by unfold digN;rw[if_pos ha]
  rw[hv];clear hv
  obtain⟨ha,hb⟩:=ha
  go_enter Tryz.func142,Tryz.ntmps142
  go_wp2
  go_ret
  exact⟨rfl,rfl⟩
 ·by_cases hb:97≤c∧c≤122
  ·have hv:digN 36 c=c-97+10:=by unfold digN;rw[if_neg ha,if_pos hb]
   rw[hv];clear hv
   obtain⟨hb,hc⟩:=hb
   have hd:57<c:=by omega
   clear ha
   go_enter Tryz.func142,Tryz.ntmps142
   go_wp2
   go_ret
   exact⟨rfl,rfl⟩
  ·have hv:digN 36 c=36:=by unfold digN;rw[if_neg ha,if_neg hb]
   rw[hv];clear hv
   go_enter Tryz.func142,Tryz.ntmps142
   go_wp2
   all_goals (try (exfalso;omega))
   all_goals
    go_ret
    exact⟨rfl,rfl⟩
theorem implDigit_byte(c:UInt8)(w:World) :
  Calls Tryz.prog 142 #[.int .u8 c.toNat] w fun e w'=>e=.returned (.int .u64 (digN 36 c.toNat))∧w'=w:=
 implDigit_any _ w (by omega) (by have:=c.toNat_lt;omega)
end Go.Proofs.YtenbfookfcmpoaaGreatDoor
namespace Go.Proofs.YtenbfookfcmpoaaGreatDoor
open Go.RowKit
def dval:List Nat→Nat
 | []=>0
 | x :: r=>x+10*dval r
def Ten(ds:List Nat):Prop:=∀d∈ds,d<10
theorem dval_append(a b:List Nat):dval (a++b)=dval a+10 ^ a.length*dval b:=by
 induction a with
 | nil=>simp[dval]
 | cons x r ih=>
  simp only[List.cons_append,dval,ih,List.length_cons,Nat.pow_succ,Nat.mul_add]
  rw[←Nat.mul_assoc,Nat.mul_comm 10 (10 ^ r.length)]
  omega
theorem dval_snoc(a:List Nat)(x:Nat):dval (a++[x])=dval a+10 ^ a.length*x:=by
 rw[dval_append];simp[dval]
theorem ten_snoc{a:List Nat}(h:Ten a){x:Nat}(hx:x<10):Ten (a++[x]):=by
 intro y hy
 rcases List.mem_append.1 hy with h1|h1
 ·exact h y h1
 ·rw[List.mem_singleton.1 h1];exact hx
def dchr(d:Nat):UInt8:=UInt8.ofNat (48+d)
theorem dchr_nat(d:Nat)(h:d<10):(dchr d).toNat=48+d:=by
 unfold dchr
 rw[UInt8.toNat_ofNat']
 omega
theorem digN_dchr(d:Nat)(h:d<10):digN 99 ((dchr d).toNat:Int)=(d:Int):=by
 rw[dchr_nat d h];unfold digN;rw[if_pos (by omega)];omega
def dtxt(ds:List Nat):List UInt8:=ds.reverse.map dchr
theorem dtxt_length(ds:List Nat):(dtxt ds).length=ds.length:=by simp[dtxt]
theorem dtxt_cons(x:Nat)(r:List Nat):dtxt (x :: r)=dtxt r++[dchr x]:=by simp[dtxt]
theorem val_dtxt(ds:List Nat)(h:Ten ds):val 10 (dtxt ds)=(dval ds:Int):=by
 induction ds with
 | nil=>rfl
 | cons x r ih=>
  have hr:=ih fun d hd=>h d (by simp[hd])
  rw[dtxt_cons,val_snoc,hr,digN_dchr x (h x (by simp))]
  simp only[dval];omega
theorem good_dtxt(ds:List Nat)(h:Ten ds):good 10 (dtxt ds):=by
 intro c hc
 obtain⟨d,hd,rfl⟩:=List.mem_map.1 hc
 have:=h d (by simpa using hd)
 rw[digN_dchr d this];omega
theorem valN_dtxt(ds:List Nat)(h:Ten ds):valN 10 (dtxt ds)=dval ds:=by
 unfold valN
 rw[show((10:Nat):Int)=10 from rfl,val_dtxt ds h];omega
theorem data_len(s:ByteArray):s.data.toList.length=s.size:=by simp
def IsDec(s:ByteArray)(A:Nat):Prop:=good 10 s.data.toList∧valN 10 s.data.toList=A∧(∀h:0<s.size,s[0].toNat≠48)
theorem good_digit(c:UInt8)(h:digN 99 (c.toNat:Int)<10):48≤c.toNat∧c.toNat≤57∧digN 99 (c.toNat:Int)=(c.toNat:Int)-48:=by
 unfold digN at h ⊢
 split at h
 ·rename_i h1;rw[if_pos h1];omega
 ·split at h<;>omega
theorem digits_one(l m:List UInt8)(hl:good 10 l)(hm:good 10 m)(hlen:l.length=m.length)(hv:valN 10 l=valN 10 m):l=m:=by
 induction l generalizing m with
 | nil=>cases m with
  | nil=>rfl
  | cons c m=>simp at hlen
 | cons c l ih=>
  cases m with
  | nil=>simp at hlen
  | cons d m=>
   have e:l.length=m.length:=by simpa using hlen
   have gl:=good_tail (b:=10) hl
   have gm:=good_tail (b:=10) hm
   have l1:=valN_good_lt 10 l gl
   have l2:=valN_good_lt 10 m gm
   rw[valN_cons,valN_cons,e]at hv
   rw[e]at l1
   obtain⟨c1,c2,c3⟩:=good_digit c (hl c (by simp))
   obtain⟨d1,d2,d3⟩:=good_digit d (hm d (by simp))
   rw[c3,d3]at hv
   have ec:((c.toNat:Int)-48).toNat=c.toNat-48:=by omega
   have ed:((d.toNat:Int)-48).toNat=d.toNat-48:=by omega
   rw[ec,ed]at hv
   have hq:c.toNat-48=d.toNat-48:=by
    have h1:(((c.toNat-48)*10 ^ m.length+valN 10 l) / 10 ^ m.length)=c.toNat-48:=by
     rw[Nat.add_comm,Nat.mul_comm,Nat.add_mul_div_left _ _ (Nat.pow_pos (by omega)),Nat.div_eq_of_lt l1];omega
    have h2:(((d.toNat-48)*10 ^ m.length+valN 10 m) / 10 ^ m.length)=d.toNat-48:=by
     rw[Nat.add_comm,Nat.mul_comm,Nat.add_mul_div_left _ _ (Nat.pow_pos (by omega)),Nat.div_eq_of_lt l2];omega
    rw[←h1,hv,h2]
   have hcd:c=d:=UInt8.toNat_inj.1 (by omega)
   subst hcd
   rw[ih m gl gm e (by omega)]
theorem dec_bounds(s:ByteArray)(A:Nat)(h:IsDec s A)(h0:0<s.size):10 ^ (s.size-1)≤A∧A<10 ^ s.size:=by
 obtain⟨h1,rfl,h2⟩:=h
 constructor
 ·rw[text_cons s h0]
  have e:=extract_one s h0
  have:=valN_good_ge 10 s[0] (s.extract 1 s.size).data.toList (by
   intro hz
   exact h2 h0 ((digN_zero _).1 hz))
  rw[data_len,show(s.extract 1 s.size).size=s.size-1 by omega]at this
  exact this
 ·have:=valN_good_lt 10 s.data.toList h1
  rw[data_len]at this
  exact this
theorem dec_zero(s:ByteArray)(h:IsDec s 0):s.size=0:=by
 apply Classical.byContradiction
 intro hn
 have:=(dec_bounds s 0 h (by omega)).1
 have h2:0<10 ^ (s.size-1):=Nat.pow_pos (by omega)
 omega
theorem dec_size(s t:ByteArray)(A:Nat)(hs:IsDec s A)(ht:IsDec t A):s.size≤t.size:=by
 apply Classical.byContradiction
 intro hn
 have h1:=dec_bounds s A hs (by omega)
 by_cases h0:t.size=0
 ·have:A=0:=by
   obtain⟨_,h2,_⟩:=ht
   have e:t.data.toList = []:=by apply List.length_eq_zero_iff.1;rw[data_len];exact h0
   rw[e,valN_nil]at h2;exact h2.symm
  subst this
  have:=dec_zero s hs
  omega
 ·have h2:=dec_bounds t A ht (by omega)
  have:10 ^ t.size≤10 ^ (s.size-1):=Nat.pow_le_pow_right (by omega) (by omega)
  omega
theorem dec_one(s t:ByteArray)(A:Nat)(hs:IsDec s A)(ht:IsDec t A):s=t:=by
 have e:s.size=t.size:=Nat.le_antisymm (dec_size s t A hs ht) (dec_size t s A ht hs)
 have h:s.data.toList=t.data.toList:=digits_one _ _ hs.1 ht.1 (by rw[data_len,data_len];exact e) (hs.2.1.trans ht.2.1.symm)
 have h':s.data=t.data:=by rw[←Array.toArray_toList (xs:=s.data),h,Array.toArray_toList]
 cases s;cases t;cases h';rfl
theorem made_zeros(z:Value)(n:Nat):madeCells #[z] n=(List.replicate n z).toArray:=by
 unfold madeCells
 apply Array.ext
 ·simp
 ·intro i h1 h2
  simp[Nat.mod_one]
def dotB:ByteArray:=⟨#[46]⟩
theorem valN_append(l m:List UInt8):valN 10 (l++m)=valN 10 l*10 ^ m.length+valN 10 m:=by
 have h:=fold_split 10 m (val 10 l)
 have e:val 10 (l++m)=val 10 l*10 ^ m.length+val 10 m:=by
  unfold val at h ⊢
  rw[List.foldl_append]
  exact h
 have h1:=valN_cast 10 (l++m)
 have h2:=valN_cast 10 l
 have h3:=valN_cast 10 m
 rw[show((10:Nat):Int)=10 from rfl]at h1 h2 h3
 rw[e,←h2,←h3]at h1
 have h4:((valN 10 l*10 ^ m.length+valN 10 m:Nat):Int)=(valN 10 l:Int)*10 ^ m.length+(valN 10 m:Int):=by
  rw[Int.natCast_add,Int.natCast_mul,Int.natCast_pow];rfl
 omega
theorem append_list(a b:ByteArray):(a++b).data.toList=a.data.toList++b.data.toList:=by simp[ByteArray.data_append]
theorem append_size(a b:ByteArray):(a++b).size=a.size+b.size:=by simp
theorem good_append(l m:List UInt8)(h:good 10 l)(h':good 10 m):good 10 (l++m):=fun c hc=>by
 rcases List.mem_append.1 hc with h1|h1
 ·exact h c h1
 ·exact h' c h1
theorem good_zeros(n:Nat):good 10 (List.replicate n (48:UInt8)):=fun c hc=>by rw[List.eq_of_mem_replicate hc];decide
theorem valN_zeros(n:Nat):valN 10 (List.replicate n (48:UInt8))=0:=by
 induction n with
 | zero=>exact valN_nil 10
 | succ n ih=>rw[List.replicate_succ,valN_zero 10 48 _ rfl];exact ih
theorem dec_pos(ds:ByteArray)(A:Nat)(h:IsDec ds A)(hp:0<A):0<ds.size:=by
 apply Nat.pos_of_ne_zero
 intro h0
 have e:ds.data.toList = []:=List.length_eq_zero_iff.1 (by rw[data_len];exact h0)
 have:=h.2.1
 rw[e,valN_nil]at this
 omega
end Go.Proofs.YtenbfookfcmpoaaGreatDoor
namespace Go.Proofs.YtenbfookfcmpoaaGreatDoor
open Go.ChangeShapes Go.WideShapes Go.RowKit
theorem trim_len{ls:List Nat}(ht:Trim ls){n:Nat}(h:bval ls<4294967296 ^ n):ls.length≤n:=by
 by_cases hn:ls = []
 ·subst hn;exact Nat.zero_le _
 ·have:=Nat.lt_of_le_of_lt (trim_last ht hn).1 h
  have:=(Nat.pow_lt_pow_iff_right (a:=4294967296) (by omega)).1 this
  omega
theorem Row.one(w:World)(T:Nat)(x:Nat):Row (w.alloc (.cells #[.int .u64 x] T)) (.slice (some ⟨w.heap.size,0,none⟩) 1 1) [x]:=
 ⟨_,1,rfl,Nat.le_refl _,by unfold maxLen;omega,.inr ⟨_,rfl,by simp,fun t ht=>by
  obtain rfl:t=0:=by simp at ht;omega
  simp⟩⟩
theorem Big.one(w:World)(T:Nat):Big (w.alloc (.cells #[.int .u64 1] T)) (.slice (some ⟨w.heap.size,0,none⟩) 1 1) 1:=
 ⟨[1],Row.one w T 1,fun y hy=>by simp at hy;omega,by simp[Trim,btrim],by simp[bval]⟩
theorem l0mul_big(v:Value)(A m c0 n:Nat)(w:World)(h:Big w v A)(hA:A<4294967296 ^ n)(hn:n<1000000)(hm:m<4294967296)(hc:c0<4294967296) :
  Calls Tryz.prog 111 #[v,.int .u64 m,.int .u64 c0] w fun e w'=>∃v',e=.returned v'∧Below w.heap.size w w'∧Big w' v' (A*m+c0):=by
 obtain⟨ls,h1,h2,h3,rfl⟩:=h
 exact l0mul_any ls v m c0 w h1 h2 hm hc (Nat.lt_of_le_of_lt (trim_len h3 hA) hn)
theorem pow_small(b k:Nat)(h:b<4294967296):b ^ k<4294967296 ^ (k+1):=
 Nat.lt_of_le_of_lt (Nat.pow_le_pow_left (Nat.le_of_lt h) k) (Nat.pow_lt_pow_right (by omega) (by omega))
set_option maxHeartbeats 1600000 in
set_option maxRecDepth 100000 in
theorem l0pow_any(b n:Nat)(w:World)(hb:b<4294967296)(hn:n<900000) :
  Calls Tryz.prog 80 #[.int .u64 b,.int .i64 n] w fun e w'=>∃v',e=.returned v'∧Below w.heap.size w w'∧Big w' v' (b ^ n):=by
 go_enter Tryz.func80,Tryz.ntmps80
 go_wp2
 go_loopw [1,5] (fun nv v wr=>∃k:Nat,k≤n∧nv=.int .i64 ((n:Int)-k)∧Hid (Big wr v (b ^ k))∧Below w.heap.size w wr) (fun nv _ _=>(intOf nv).toNat)
 case atStart=>exact⟨0,Nat.zero_le _,by simp,Big.one w _,(Below.refl _ _).alloc (Nat.le_refl _) _⟩
 case round=>
  obtain⟨k,hk,rfl,HB,hbe⟩:=hrel
  have hsz:=hbe.size
  by_cases hlt:k<n
  ·go_wp2_with (go_at_call 111;refine(l0mul_big _ (b ^ k) b 0 (k+1) _ HB.out (pow_small b k hb) (by omega) hb (by omega)).mono ?_;rintro e w2 ⟨v2,rfl,hb2,hv2⟩)
   go_roundw
   case rel=>exact⟨k+1,by omega,by rw[show(n:Int)-((k+1:Nat):Int)=n-k-1 by omega],hv2,hbe.trans (hb2.mono hsz)⟩
   case measure=>simp only[intOf];omega
  ·obtain rfl:k=n:=by omega
   go_wp2
   go_ret
   exact⟨_,rfl,hbe,HB.out⟩
def Bits(A n:Nat):Prop:=(A=0∧n=0)∨(0<n∧2 ^ (n-1)≤A∧A<2 ^ n)
theorem pow32(n:Nat):4294967296 ^ n=2 ^ (32*n):=by rw[Nat.pow_mul]
theorem bits_top(ls:List Nat)(hl:Lim ls)(hn:ls≠[])(j:Nat)(h0:0<j)(h1:2 ^ (j-1)≤ls.getD (ls.length-1) 0)(h2:ls.getD (ls.length-1) 0<2 ^ j) :
  Bits (bval ls) (32*(ls.length-1)+j):=by
 have hlen:0<ls.length:=List.length_pos_iff.2 hn
 have hv:=take_val ls (ls.length-1) (by omega)
 rw[show ls.length-1+1=ls.length by omega,List.take_length]at hv
 have hlow:bval (ls.take (ls.length-1))<4294967296 ^ (ls.length-1):=by
  have:=bval_lt (a:=ls.take (ls.length-1)) fun x hx=>hl x (List.mem_of_mem_take hx)
  rw[List.length_take,Nat.min_eq_left (by omega)]at this
  exact this
 rw[hv]
 generalize ls.getD (ls.length-1) 0=t at *
 generalize bval (ls.take (ls.length-1))=low at *
 rw[pow32] at *
 generalize hq:32*(ls.length-1)=q at *
 refine .inr ⟨by omega,?_,?_⟩
 ·rw[show q+j-1=q+(j-1) by omega,Nat.pow_add]
  have:=Nat.mul_le_mul_left (2 ^ q) h1
  omega
 ·rw[Nat.pow_add]
  have:=Nat.mul_le_mul_left (2 ^ q) (show t+1≤2 ^ j by omega)
  rw[Nat.mul_add,Nat.mul_one]at this
  omega
theorem half_again(t j:Nat):t / 2 ^ j / 2=t / 2 ^ (j+1):=by rw[Nat.pow_succ,Nat.div_div_eq_div_mul]
theorem half_cast(t j:Nat):((t / 2 ^ j:Nat):Int) / 2=((t / 2 ^ (j+1):Nat):Int):=by rw[←half_again];omega
theorem few_halves32(t j:Nat)(ht:t<4294967296)(h:0<t / 2 ^ j):j<32:=by
 apply Classical.byContradiction
 intro hj
 have:(2:Nat) ^ 32≤2 ^ j:=Nat.pow_le_pow_right (by omega) (by omega)
 have e:(2:Nat) ^ 32=4294967296:=rfl
 rw[Nat.div_eq_of_lt (by omega)]at h
 omega
theorem lim_get{ls:List Nat}(h:Lim ls)(k:Nat):ls.getD k 0<4294967296:=by
 by_cases hk:k<ls.length
 ·have:ls.getD k 0=ls[k]:=by simp[List.getElem?_eq_getElem hk]
  rw[this];exact h _ (List.getElem_mem hk)
 ·have:ls.getD k 0=0:=by simp[List.getElem?_eq_none (Nat.le_of_not_lt hk)]
  omega
theorem zeros_snoc(i:Nat):List.replicate i 0++[0]=List.replicate (i+1) (0:Nat):=List.replicate_succ'.symm
theorem bval_zeros(i:Nat):bval (List.replicate i 0)=0:=by
 induction i with
 | zero=>rfl
 | succ i ih=>simp[List.replicate_succ,bval,ih]
theorem shifted_lim(q:Nat){ls:List Nat}(h:Lim ls):Lim (List.replicate q 0++ls):=by
 intro x hx
 rcases List.mem_append.1 hx with h1|h1
 ·rw[List.eq_of_mem_replicate h1];omega
 ·exact h x h1
theorem shifted_val(k:Nat)(ls:List Nat):bval (List.replicate (k / 32) 0++ls)*2 ^ (k % 32)+0=bval ls*2 ^ k:=by
 rw[bval_append,bval_zeros,List.length_replicate,pow32,Nat.zero_add,Nat.add_zero]
 conv=>rhs;rw[show k=32*(k / 32)+k % 32 by omega,Nat.pow_add]
 rw[Nat.mul_comm (2 ^ (32*(k / 32))) (bval ls),Nat.mul_assoc]
theorem shl_one(r:Nat)(h:r<32):IntKind.u64.wrap (2 ^ r)=((2 ^ r:Nat):Int)∧2 ^ r<4294967296:=by
 have h1:2 ^ r<2 ^ 32:=Nat.pow_lt_pow_right (by omega) h
 have e:(2:Nat) ^ 32=4294967296:=rfl
 have c:(2:Int) ^ r=((2 ^ r:Nat):Int):=(Int.natCast_pow 2 r).symm
 rw[c]
 generalize 2 ^ r=z at *
 refine⟨?_,by omega⟩
 rw[IntKind.wrap_u64];omega
set_option maxHeartbeats 1600000 in
set_option maxRecDepth 100000 in
theorem l0shl_any(ls:List Nat)(v:Value)(k:Nat)(w:World)(h:Row w v ls)(hL:Lim ls)(hlen:ls.length<500000)(hk:k<1000000) :
  Calls Tryz.prog 113 #[v,.int .i64 k] w fun e w'=>∃v',e=.returned v'∧Below w.heap.size w w'∧Big w' v' (bval ls*2 ^ k):=by
 obtain⟨i0,hi,hz0,hz1,hz2⟩:=info_parts Tryz.infoU
 obtain⟨ao,cap,rfl,h1,h2,h3⟩:=h
 have H3:Hid _:=h3
 have HL:Hid (Lim ls):=hL
 have HC:Hid (ls.length≤cap):=h1
 clear h1 h2 h3 hL
 go_enter Tryz.func113,Tryz.ntmps113
 go_wp2
 go_loopw [5,6] (fun v i wr=>∃j:Nat,j≤k / 32∧i=.int .i64 j∧wr.ownsRow w.heap.size 44 1 v j ((List.replicate j (0:Nat)).map fun x=>Value.int .u64 (x:Nat))∧Below w.heap.size w wr) (fun _ i _=>k / 32-(intOf i).toNat)
 case atStart=>exact⟨0,Nat.zero_le _,rfl,World.ownsRow_nil _ _ _ _,Below.refl _ _⟩
 case round=>
  obtain⟨j,hj,rfl,hown,hbe⟩:=hrel
  have hdiv:(k:Int).tdiv 32=((k / 32:Nat):Int):=by rw[Int.tdiv_eq_ediv_of_nonneg (by omega)];rfl
  by_cases hlt:j<k / 32
  ·go_wp2_with (first
    | (at_builtin;refine wpList_append_own _ rfl _ _ 143 rfl w.heap.size 44 i0 (.int .u64 0) 1 8 Tryz.underlying143 hi hz0 hz1 hz2 rfl (by decide) _ _ _ rfl (hown.alloc _) ⟨wr.heap.size,0,none⟩ 1 1 [.int .u64 ((0:Nat):Int)] rfl rfl ?c1 ?c2 ?c3 ?c4 ?c5 ?_)
    | go_in)
   case c1=>
    intro j u hj
    match j,hj with
    | 0,hj=>simp at hj;subst hj;simp[Addr.add]
   case c2=>intro u hu;simp at hu;subst hu;rfl
   case c3=>unfold maxLen;omega
   case c4=>omega
   case c5=>have:=hbe.size;simp;omega
   ·intro v' w1 hown' hgrow _
    have R:=own_step (os:=List.replicate j 0) (r:=0) (by simp) hown hbe (Nat.le_refl _) (by simpa using hown') hgrow
    rw[zeros_snoc]at R
    clear hown' hgrow hown
    go_wp2
    go_roundw
    case rel=>exact⟨j+1,by omega,by simp,by simpa using R.1,R.2⟩
    case measure=>simp[intOf];omega
  ·obtain rfl:j=k / 32:=by omega
   generalize hq:k / 32=q at *
   go_wp2
   go_loopw [5,20] (fun v i wr=>∃t:Nat,t≤ls.length∧i=.int .i64 t∧wr.ownsRow w.heap.size 44 1 v (q+t) ((List.replicate q (0:Nat)++ls.take t).map fun x=>Value.int .u64 (x:Nat))∧Below w.heap.size w wr) (fun _ i _=>ls.length-(intOf i).toNat)
   case atStart=>exact⟨0,Nat.zero_le _,rfl,by simpa using hown,hbe⟩
   case round=>
    clear hown hbe
    obtain⟨t,ht,rfl,hown,hbe⟩:=hrel
    by_cases hlt2:t<ls.length
    ·obtain⟨g,rfl,hg,hcl⟩:∃g,ao=some ⟨g,0,none⟩∧g<w.heap.size∧∀t,t<ls.length→w.cell? ⟨g,t,none⟩=some (.int .u64 (ls.getD t 0:Nat)):=by
      rcases H3.out with⟨_,h⟩|h
      ·have:=HC.out;omega
      ·exact h
     have hx:wr.cell? ⟨g,t,none⟩=some (.int .u64 (ls.getD t 0:Nat)):=(hbe.cell hg).trans (hcl t hlt2)
     have HS:Hid _:=part_snoc ls t hlt2
     clear hcl
     generalize ls.getD t 0=x at *
     go_wp2_with (first
      | (at_builtin;refine wpList_append_own _ rfl _ _ 143 rfl w.heap.size 44 i0 (.int .u64 0) 1 8 Tryz.underlying143 hi hz0 hz1 hz2 rfl (by decide) _ _ _ rfl (hown.alloc _) ⟨wr.heap.size,0,none⟩ 1 1 [.int .u64 x] rfl rfl ?e1 ?e2 ?e3 ?e4 ?e5 ?_)
      | go_in)
     case e1=>
      intro j u hj
      match j,hj with
      | 0,hj=>simp at hj;subst hj;simp[Addr.add]
     case e2=>intro u hu;simp at hu;subst hu;rfl
     case e3=>unfold maxLen;omega
     case e4=>omega
     case e5=>have:=hbe.size;simp;omega
     ·intro v' w1 hown' hgrow _
      have R:=own_step (os:=List.replicate q 0++ls.take t) (r:=x) (n:=q+t) (by simp;omega) hown hbe (Nat.le_refl _) (by simpa [List.map_append] using hown') hgrow
      rw[List.append_assoc,←HS.out]at R
      have RL:(List.replicate q 0++ls.take (t+1)).length=q+(t+1):=by simp;omega
      rw[RL]at R
      clear hown' hgrow hown
      go_wp2
      go_roundw
      case rel=>exact⟨t+1,by omega,by simp,R.1,R.2⟩
      case measure=>simp[intOf];omega
    ·obtain rfl:t=ls.length:=by omega
     rw[List.take_length]at hown
     have hsz:=hbe.size
     have HR:Hid (Row wr u5 (List.replicate q 0++ls)):=Row.of_owns (by simpa using hown)
     have HM:Hid (Lim (List.replicate q 0++ls)):=shifted_lim q HL.out
     have hmod:(k:Int).tmod 32=((k % 32:Nat):Int):=by rw[Int.tmod_eq_emod_of_nonneg (by omega)];rfl
     have hr:k % 32<32:=Nat.mod_lt _ (by omega)
     obtain⟨s1,s2⟩:=shl_one (k % 32) hr
     have HV:Hid _:=shifted_val k ls
     rw[hq]at HV
     generalize hr2:k % 32=r at *
     clear hown
     go_wp2_with (go_at_call 111;refine(l0mul_any (List.replicate q 0++ls) _ (2 ^ r) 0 _ HR.out HM.out s2 (by omega) (by simp;omega)).mono ?_;rintro e w2 ⟨v2,rfl,hb2,hv2⟩)
     go_ret
     exact⟨_,rfl,hbe.trans (hb2.mono hsz),by rw[←HV.out];exact hv2⟩
theorem l0shl_big(v:Value)(A n k:Nat)(w:World)(h:Big w v A)(hA:A<4294967296 ^ n)(hn:n<500000)(hk:k<1000000) :
  Calls Tryz.prog 113 #[v,.int .i64 k] w fun e w'=>∃v',e=.returned v'∧Below w.heap.size w w'∧Big w' v' (A*2 ^ k):=by
 obtain⟨ls,h1,h2,h3,rfl⟩:=h
 exact l0shl_any ls v k w h1 h2 (Nat.lt_of_le_of_lt (trim_len h3 hA) hn) hk
end Go.Proofs.YtenbfookfcmpoaaGreatDoor
