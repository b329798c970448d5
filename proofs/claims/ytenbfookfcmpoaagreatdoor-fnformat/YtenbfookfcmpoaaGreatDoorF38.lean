import Derived.Test.YtenbfookfcmpoaaGreatDoorF35
import Derived.Test.YtenbfookfcmpoaaGreatDoorF34
import Derived.Test.YtenbfookfcmpoaaGreatDoorF31
namespace Go.Proofs.YtenbfookfcmpoaaGreatDoor
open Go.ChangeShapes Go.WideShapes Go.RowKit
open Ieee (double)
def shortB(u:ByteArray)(p:Int):ByteArray:=if -5≤p∧p≤21 then plainB u p else sciB u p
theorem least_facts(ds:ByteArray)(pow:Int)(x:Nat)(t:ByteArray)(p':Int)(hg:good 10 ds.data.toList)(hs:ds.size≤1100)(h:LeastD ds pow x t p'):0<t.size∧t.size≤1100∧good 10 t.data.toList∧pow≤p'∧p'≤pow+1:=by
 obtain⟨n,t2,p2,h1,h2,hc,_,h⟩:=h
 have hz:=cut5_size _ _ _ _ _ _ hc
 have hgd:=cutV_good _ _ _ _ _ _ hg hc
 have hps:=padB_size ds n
 rcases h with⟨_,_,rfl,rfl⟩|⟨_,_,rfl,rfl⟩
 ·exact⟨by omega,by omega,padB_good ds n hg,by omega,by omega⟩
 ·refine⟨by omega,?_,hgd,hz.2.2.1,hz.2.2.2⟩
  by_cases hn:n<ds.size
  ·omega
  ·rw[decide_eq_false hn]at hc
   rcases hc with⟨_,rfl,_⟩|⟨h,_⟩
   ·omega
   ·cases h
set_option maxHeartbeats 1000000 in
theorem shortest_nan(x:Nat)(hx:IsNan x)(w:World) :
  Calls Tryz.prog 45 #[.float .f64 x] w fun e w'=>e=.returned (.string ⟨#[110,97,110]⟩)∧Below w.heap.size w w':=by
 have H1:Hid _:=fun w=>l5size_nan x hx w
 have H2:Hid _:=fun w=>l5odd_nan x hx w
 clear hx
 go_enter Tryz.func45,Tryz.ntmps45
 go_wp2_with fail
 refine(H1.out _).mono ?_
 rintro e w1 ⟨rfl,rfl⟩
 go_wp2_with fail
 refine(H2.out _).mono ?_
 rintro e w1 ⟨rfl,rfl⟩
 go_wp2
 go_ret
 exact⟨rfl,Below.refl _ _⟩
set_option maxHeartbeats 1000000 in
theorem shortest_odd(s:Bool)(r:Nat)(t:ByteArray)(hr:r≤9218868437227405312)(ht:t.size≤10)(hO:∀w,Calls Tryz.prog 86 #[.float .f64 r] w fun e w'=>e=.returned (.tuple #[.string t,.bool true])∧w'=w)(w:World) :
  Calls Tryz.prog 45 #[.float .f64 (signBit s+r)] w fun e w'=>e=.returned (.string (sgnB s++t))∧Below w.heap.size w w':=by
 have H1:Hid _:=fun w=>l5size_any s r hr w
 have H2:Hid _:=hO
 have z3:=sgnB_size s
 generalize sgnB s=S at *
 generalize signBit s+r=X at *
 clear hO hr
 go_enter Tryz.func45,Tryz.ntmps45
 go_wp2_with fail
 refine(H1.out _).mono ?_
 rintro e w1 ⟨rfl,rfl⟩
 go_wp2_with fail
 refine(H2.out _).mono ?_
 rintro e w1 ⟨rfl,rfl⟩
 go_wp2
 go_ret
 exact⟨rfl,Below.refl _ _⟩
set_option maxHeartbeats 2000000 in
set_option maxRecDepth 100000 in
theorem shortest_num(s:Bool)(r:Nat)(q:Nat)(E:Int)(hr:r<9218868437227405312)(hr0:r≠0)(hL:∀w,Calls Tryz.prog 88 #[.float .f64 r] w fun e w'=>
  ∃ds pow t p',ExD ds pow q E∧ds.size≤1100∧-1100≤pow∧pow≤1100∧LeastD ds pow r t p'∧e=.returned (.agg #[.string t,.int .i64 p'])∧Below w.heap.size w w') (w:World) :
  Calls Tryz.prog 45 #[.float .f64 (signBit s+r)] w fun e w'=>∃ds pow t p' u,ExD ds pow q E∧LeastD ds pow r t p'∧TrimD t u∧(sgnB s++shortB u p').size≤3100∧e=.returned (.string (sgnB s++shortB u p'))∧Below w.heap.size w w':=by
 have H1:Hid _:=fun w=>l5size_any s r (by omega) w
 have H2:Hid (∀w,Calls Tryz.prog 86 #[.float .f64 r] w fun e w'=>e=.returned (.tuple #[.string ⟨#[48]⟩,.bool false])∧w'=w):=fun w=>by
  have:=l5odd_num r hr w
  rw[decide_eq_false hr0]at this
  exact this
 have H3:Hid _:=hL
 have z3:=sgnB_size s
 generalize sgnB s=S at *
 generalize signBit s+r=X at *
 clear hL hr hr0
 go_enter Tryz.func45,Tryz.ntmps45
 go_wp2_with fail
 refine(H1.out _).mono ?_
 rintro e w1 ⟨rfl,rfl⟩
 go_wp2_with fail
 refine(H2.out _).mono ?_
 rintro e w1 ⟨rfl,rfl⟩
 go_wp2_with fail
 refine(H3.out _).mono ?_
 rintro e w2 ⟨ds,pow,t,p',hd,hs,hp1,hp2,hle,rfl,hb2⟩
 obtain⟨ht0,hts,htg,hq1,hq2⟩:=least_facts ds pow r t p' hd.2.1 hs hle
 have HD:Hid _:=fun(_:Unit)=>And.intro hd (And.intro hle hb2)
 have HT:Hid _:=fun w=>l5trim_any t p' (by omega) ht0 htg w
 clear hd hle hb2 htg H1 H2 H3
 go_wp2_with fail
 refine(HT.out _).mono ?_
 rintro e w3 ⟨u,htu,rfl,hb3⟩
 have hus:u.size≤1100:=by obtain⟨_,_,j,_,h,_⟩:=htu;omega
 have hu0:0<u.size:=htu.1
 have HB3:Hid (Below w1.heap.size w1 w3):=(HD.out ()).2.2.trans (hb3.mono (HD.out ()).2.2.size)
 have HTU:Hid _:=fun(_:Unit)=>htu
 clear htu hb3 HT
 by_cases hp:-5≤p'∧p'≤21
 ·obtain⟨hpa,hpb⟩:=hp
  have HS:Hid (shortB u p'=plainB u p'):=by show _=_;unfold shortB;rw[if_pos ⟨hpa,hpb⟩]
  have HPL:Hid _:=fun w=>l5plain_any u p' hus (by omega) (by omega) w
  have hsz:=plainB_size u p' hus (by omega) (by omega)
  obtain⟨P,hP⟩:∃P,P=plainB u p':=⟨_,rfl⟩
  rw[←hP]at hsz HPL HS
  clear hP
  go_wp2_with fail
  refine(HPL.out _).mono ?_
  rintro e w4 ⟨rfl,hb4⟩
  have HB4:Hid (Below w1.heap.size w1 w4):=(HB3.out.alloc HB3.out.size _).trans (hb4.mono (by have:=HB3.out.size;simp;omega))
  clear hb4
  go_wp2
  go_ret
  exact⟨ds,pow,t,p',u,(HD.out ()).1,(HD.out ()).2.1,HTU.out (),by rw[HS.out,append_size];omega,by rw[HS.out];rfl,HB4.out⟩
 ·have HS:Hid (shortB u p'=sciB u p'):=by show _=_;unfold shortB;rw[if_neg hp]
  have HPL:Hid _:=fun w=>l5science_any u p' (by omega) hu0 (by omega) (by omega) w
  have hsz:=sciB_size u p'
  obtain⟨P,hP⟩:∃P,P=sciB u p':=⟨_,rfl⟩
  rw[←hP]at hsz HPL HS
  clear hP
  have hpp:p' < -5∨21<p':=by omega
  clear hp
  rcases hpp with hpp|hpp
  all_goals
   go_wp2_with fail
   refine(HPL.out _).mono ?_
   rintro e w4 ⟨rfl,hb4⟩
   have HB4:Hid (Below w1.heap.size w1 w4):=(HB3.out.alloc HB3.out.size _).trans (hb4.mono (by have:=HB3.out.size;simp;omega))
   clear hb4
   go_wp2
   go_ret
   exact⟨ds,pow,t,p',u,(HD.out ()).1,(HD.out ()).2.1,HTU.out (),by rw[HS.out,append_size];omega,by rw[HS.out];rfl,HB4.out⟩
def shortV(x:Nat)(t:ByteArray):Prop:=(IsNan x∧t=⟨#[110,97,110]⟩)∨(∃s,x=iw s∧t=sgnB s++⟨#[105,110,102]⟩)∨(∃s,x=signBit s∧t=sgnB s++⟨#[48]⟩)
 ∨ (∃ (s:Bool) (n:Nat) (p:Int) (q k:Nat) (ds:ByteArray) (pow:Int) (d:ByteArray) (p':Int) (u:ByteArray),Canon n p∧0<n∧x=fw s n p∧n=q*2 ^ k∧q % 2=1∧ExD ds pow q (p+k)∧LeastD ds pow (fw false n p) d p'∧TrimD d u∧t=sgnB s++shortB u p')
theorem specShortest_any(x:Nat)(hx:x<18446744073709551616)(w:World) :
  Calls Tryz.prog 45 #[.float .f64 x] w fun e w'=>∃t,shortV x t∧t.size≤3100∧e=.returned (.string t)∧Below w.heap.size w w':=by
 rcases float_cases x hx with h|⟨s,rfl⟩|⟨s,n,p,hc,rfl⟩
 ·refine(shortest_nan x h w).mono ?_
  rintro e w' ⟨rfl,hb⟩
  exact⟨_,.inl ⟨h,rfl⟩,by decide,rfl,hb⟩
 ·refine(shortest_odd s 9218868437227405312 _ (by omega) (by decide) (fun w=>l5odd_inf w) w).mono ?_
  rintro e w' ⟨rfl,hb⟩
  exact⟨_,.inr (.inl ⟨s,rfl,rfl⟩),by cases s<;>decide,rfl,hb⟩
 ·by_cases h0:n=0
  ·subst h0
   rw[fw_zero]
   have:=shortest_odd s 0 ⟨#[48]⟩ (by omega) (by decide) (fun w=>l5odd_num 0 (by omega) w) w
   rw[Nat.add_zero]at this
   refine this.mono ?_
   rintro e w' ⟨rfl,hb⟩
   exact⟨_,.inr (.inr (.inl ⟨s,rfl,rfl⟩)),by cases s<;>decide,rfl,hb⟩
  ·obtain⟨q,k,hq,hq1,hX⟩:=l5exact_any n p hc (by omega)
   have hfw:fw false n p=rung n p:=by rw[fw_canon _ _ _ hc];exact Nat.zero_add _
   have hfs:fw s n p=signBit s+rung n p:=fw_canon _ _ _ hc
   have hqk:fw false n p=fw false q (p+k):=by
    have:=fw_scale false q k (p+k)
    rw[show p+(k:Int)-(k:Int)=p by omega,←hq]at this
    exact this
   have hL:=fun w=>l5least_any (fw false n p) q (p+k) (by rcases Nat.eq_zero_or_pos q with h|h;(subst h;omega);exact h) hqk (order_self_fw false n p hc) hX w
   rw[hfw]at hL
   have:=shortest_num s (rung n p) q (p+k) (rung_lt n p hc) (fun h=>h0 (rung_zero n p h)) hL w
   rw[←hfs]at this
   refine this.mono ?_
   rintro e w' ⟨ds,pow,d,p',u,hd,hle,htu,hz,rfl,hb⟩
   rw[←hfw]at hle
   exact⟨_,.inr (.inr (.inr ⟨s,n,p,q,k,ds,pow,d,p',u,hc,by omega,rfl,hq,hq1,hd,hle,htu,rfl⟩)),hz,rfl,hb⟩
end Go.Proofs.YtenbfookfcmpoaaGreatDoor
namespace Go.Proofs.YtenbfookfcmpoaaGreatDoor
open Go.RowKit
open Ieee (double)
theorem leastD_one(ds:ByteArray)(pow:Int)(x:Nat)(t t':ByteArray)(p p':Int)(h:LeastD ds pow x t p)(h':LeastD ds pow x t' p'):t=t'∧p=p':=by
 obtain⟨n,t2,p2,a1,a2,a3,a4,a5⟩:=h
 obtain⟨n',t2',p2',b1,b2,b3,b4,b5⟩:=h'
 have hn:n=n':=by
  rcases Nat.lt_trichotomy n n' with hlt|he|hlt
  ·obtain⟨c1,c2⟩:=b4 n a1 hlt
   have c3:=c2 t2 p2 a3
   rcases a5 with⟨d,_⟩|⟨d,_⟩
   ·rw[c1]at d;cases d
   ·rw[c3]at d;cases d
  ·exact he
  ·obtain⟨c1,c2⟩:=a4 n' b1 hlt
   have c3:=c2 t2' p2' b3
   rcases b5 with⟨d,_⟩|⟨d,_⟩
   ·rw[c1]at d;cases d
   ·rw[c3]at d;cases d
 subst hn
 obtain⟨rfl,rfl⟩:=cutV_one _ _ _ _ _ _ _ _ a3 b3
 rcases a5 with⟨d1,d2,rfl,rfl⟩|⟨d1,d2,rfl,rfl⟩<;>rcases b5 with⟨e1,e2,rfl,rfl⟩|⟨e1,e2,rfl,rfl⟩
 ·exact⟨rfl,rfl⟩
 ·have f1:=d2 e1
  rw[e2 d1]at f1
  cases f1
 ·have f1:=e2 d1
  rw[d2 e1]at f1
  cases f1
 ·exact⟨rfl,rfl⟩
theorem trim_less(d t t':ByteArray)(h:TrimD d t)(h':TrimD d t')(hlt:t'.size<t.size):False:=by
 obtain⟨a0,ag,j,a1,a2,a3,a4⟩:=h
 obtain⟨b0,bg,j',b1,b2,b3,b4⟩:=h'
 obtain⟨k,hk⟩:∃k,j'=j+(k+1):=⟨j'-j-1,by omega⟩
 have hv:valN 10 t.data.toList*10 ^ j=valN 10 t'.data.toList*10 ^ j':=a3.symm.trans b3
 rw[hk,Nat.pow_add,Nat.mul_comm (10 ^ j),←Nat.mul_assoc]at hv
 have h3:=Nat.eq_of_mul_eq_mul_right (Nat.pow_pos (show 0<10 by omega)) hv
 rw[Nat.pow_succ,←Nat.mul_assoc]at h3
 rcases a4 with h1|h1
 ·omega
 ·exact last_some t a0 ag h1 (by omega)
theorem trimD_one(d t t':ByteArray)(h:TrimD d t)(h':TrimD d t'):t=t':=by
 rcases Nat.lt_trichotomy t.size t'.size with hlt|he|hlt
 ·exact(trim_less d t' t h' h hlt).elim
 ·obtain⟨_,_,_,a1,_⟩:=h
  obtain⟨_,_,_,b1,_⟩:=h'
  rw[a1,b1,he]
 ·exact(trim_less d t t' h h' hlt).elim
theorem shortV_one(x:Nat)(t t':ByteArray)(h:shortV x t)(h':shortV x t'):t=t':=by
 rcases h with⟨a,rfl⟩|⟨s,rfl,rfl⟩|⟨s,rfl,rfl⟩|⟨s,n,p,q,k,ds,pow,d,r,u,hc,h0,rfl,hq,hq1,hd,hl,hu,rfl⟩
 ·rcases h' with⟨_,rfl⟩|⟨s,rfl,rfl⟩|⟨s,rfl,rfl⟩|⟨s,n,p,q,k,ds,pow,d,r,u,hc,h0,rfl,hq,hq1,hd,hl,hu,rfl⟩
  ·rfl
  ·exact(nan_not_iw s a).elim
  ·exact(sign_nan s a).elim
  ·exact(nan_not_fw s n p hc a).elim
 ·rcases h' with⟨a,_⟩|⟨t,e,rfl⟩|⟨t,e,rfl⟩|⟨t,n,p,q,k,ds,pow,d,r,u,hc,h0,e,hq,hq1,hd,hl,hu,rfl⟩
  ·exact(nan_not_iw s a).elim
  ·rw[iw_one s t e]
  ·exact(sign_iw t s e.symm).elim
  ·exact(iw_fw s t n p hc e).elim
 ·rcases h' with⟨a,_⟩|⟨t,e,rfl⟩|⟨t,e,rfl⟩|⟨t,n,p,q,k,ds,pow,d,r,u,hc,h0,e,hq,hq1,hd,hl,hu,rfl⟩
  ·exact(sign_nan s a).elim
  ·exact(sign_iw s t e).elim
  ·rw[sign_one s t e]
  ·exact(sign_fw s t n p hc h0 e).elim
 ·rcases h' with⟨a,_⟩|⟨t,e,rfl⟩|⟨t,e,rfl⟩|⟨t,n',p',q',k',ds',pow',d',r',u',hc',h0',e,hq',hq1',hd',hl',hu',rfl⟩
  ·exact(nan_not_fw s n p hc a).elim
  ·exact(iw_fw t s n p hc e.symm).elim
  ·exact(sign_fw t s n p hc h0 e.symm).elim
  ·obtain⟨rfl,rfl,rfl⟩:=fw_one s t n n' p p' hc hc' e
   obtain⟨rfl,rfl⟩:=odd_one q k q' k' (hq.symm.trans hq') hq1 hq1'
   obtain⟨rfl,rfl⟩:=exD_one ds ds' pow pow' q _ hd hd'
   obtain⟨rfl,rfl⟩:=leastD_one _ _ _ _ _ _ _ hl hl'
   obtain rfl:=trimD_one _ _ _ hu hu'
   rfl
theorem fw_le(m:Nat)(e:Int):fw false m e≤9218868437227405312:=by
 by_cases h0:m=0
 ·subst h0;rw[fw_zero];decide
 ·rw[fw_place false m e (by omega)]
  have:min ((max (e+(m.log2:Int)-52) (-1074)+1074).toNat*4503599627370496+roundN m (max (e+(m.log2:Int)-52) (-1074)-e)) 9218868437227405312≤9218868437227405312:=Nat.min_le_right _ _
  show 0+_≤_
  omega
theorem decW_le(b V:Nat)(e:Int):decW b V e≤9218868437227405312:=by
 unfold decW
 split
 ·omega
 ·unfold ratioW ratioAt
  split<;>exact fw_le _ _
theorem order_same(r q:Nat)(hr:r≤9218868437227405312)(hq:q≤9218868437227405312):(double.order r q==some .eq)=decide (r=q):=by
 have h:=order_rank false false r q hr hq
 have s0:∀k,signBit false+k=k:=fun k=>Nat.zero_add k
 rw[s0,s0]at h
 rw[h]
 unfold rankI
 simp only[compare,compareOfLessAndEq]
 by_cases e:r=q
 ·subst e
  simp
 ·rw[decide_eq_false e]
  simp
  split
  ·simp
  ·split
   ·omega
   ·simp
theorem rds_is(x:Nat)(hx:x≤9218868437227405312)(t:ByteArray)(p:Int):Rds x t p=decide (decW 10 (valN 10 t.data.toList) (p-(t.size:Int))=x):=by
 unfold Rds
 exact order_same _ _ (decW_le _ _ _) hx
theorem dig_ex(k:Nat):∀W:Nat,W<10 ^ k→∃l:List UInt8,l.length=k∧good 10 l∧valN 10 l=W:=by
 induction k with
 | zero=>
  intro W h
  rw[Nat.pow_zero]at h
  exact⟨[],rfl,(fun c hc=>by cases hc),by rw[valN_nil];omega⟩
 | succ k ih=>
  intro W h
  obtain⟨l,h1,h2,h3⟩:=ih (W / 10) (by rw[Nat.pow_succ]at h;omega)
  have hc:W % 10<10:=Nat.mod_lt _ (by omega)
  obtain⟨c,hcv⟩:∃c:UInt8,c.toNat=48+W % 10:=⟨(48+W % 10).toUInt8,by rw[Nat.toUInt8_eq,UInt8.toNat_ofNat'];omega⟩
  have hd:digN 99 (c.toNat:Int)=((W % 10:Nat):Int):=by
   unfold digN
   rw[if_pos (by omega),hcv]
   omega
  refine⟨l++[c],by rw[List.length_append,h1];rfl,good_app h2 (fun d hd'=>?_),?_⟩
  ·have:d=c:=by simpa using hd'
   rw[this,hd];omega
  ·rw[valN_append,h3]
   have e:valN 10 [c]=W % 10:=by
    rw[valN_cons,hd,valN_nil,List.length_nil,Nat.pow_zero,Nat.mul_one,Nat.add_zero]
    exact Int.toNat_natCast _
   rw[e]
   show W / 10*10 ^ 1+W % 10=W
   omega
theorem upD_ex(ds:ByteArray)(hg:good 10 ds.data.toList):∃t more,UpD ds t more:=by
 have hlt:=valN_good_lt 10 ds.data.toList hg
 rw[data_len]at hlt
 by_cases h:valN 10 ds.data.toList+1=10 ^ ds.size
 ·obtain⟨l,h1,h2,h3⟩:=dig_ex (ds.size+1) (10 ^ ds.size) (by rw[Nat.pow_succ];have:0<10 ^ ds.size:=Nat.pow_pos (by omega);omega)
  exact⟨⟨l.toArray⟩,true,h2,by rw[h];exact h3,by rw[←data_len];exact h1,fun _=>h⟩
 ·obtain⟨l,h1,h2,h3⟩:=dig_ex ds.size (valN 10 ds.data.toList+1) (by omega)
  exact⟨⟨l.toArray⟩,false,h2,h3,by rw[←data_len];exact h1,(fun h=>by cases h)⟩
theorem pad_val(ds:ByteArray)(k:Nat)(hk:k<ds.size)(hg:good 10 ds.data.toList):good 10 (padB ds k).data.toList∧∃R,R<10 ^ (ds.size-k)∧valN 10 ds.data.toList=valN 10 (padB ds k).data.toList*10 ^ (ds.size-k)+R:=by
 have hl:ds.data.toList.length=ds.size:=data_len ds
 have e:(padB ds k).data.toList=ds.data.toList.take k:=by
  unfold padB
  rw[if_pos hk,append_list,show k-ds.size=0 by omega,Lib.extract_eq]
  show _++List.replicate 0 48=_
  simp
 have hs:ds.data.toList=ds.data.toList.take k++ds.data.toList.drop k:=(List.take_append_drop k _).symm
 have hg2:good 10 (ds.data.toList.take k):=fun c hc=>hg c (List.mem_of_mem_take hc)
 have hg3:good 10 (ds.data.toList.drop k):=fun c hc=>hg c (List.mem_of_mem_drop hc)
 rw[e]
 refine⟨hg2,valN 10 (ds.data.toList.drop k),?_,?_⟩
 ·have:=valN_good_lt 10 _ hg3
  rwa [List.length_drop,hl]at this
 ·have h1:=valN_append (ds.data.toList.take k) (ds.data.toList.drop k)
  rw[←hs,List.length_drop,hl]at h1
  exact h1
theorem pad_pos(ds:ByteArray)(k:Nat)(hk:k<ds.size)(h1:1≤k)(hg:good 10 ds.data.toList)(hf:∀h:0<ds.size,ds[0].toNat≠48):0<valN 10 (padB ds k).data.toList:=by
 obtain⟨_,R,hR,hv⟩:=pad_val ds k hk hg
 have hge:=first_ge ds (by omega) hf
 apply Nat.pos_of_ne_zero
 intro h0
 rw[h0,Nat.zero_mul,Nat.zero_add]at hv
 have:10 ^ (ds.size-k)≤10 ^ (ds.size-1):=Nat.pow_le_pow_right (by omega) (by omega)
 omega
end Go.Proofs.YtenbfookfcmpoaaGreatDoor
namespace Go.Proofs.YtenbfookfcmpoaaGreatDoor
open Go.ChangeShapes Go.WideShapes Go.RowKit
theorem plainB_short(ds:ByteArray)(pow:Int)(h1:-5≤pow)(h2:pow≤21)(hs:ds.size≤100):(plainB ds pow).size≤1100:=by
 unfold plainB
 split
 ·rw[append_size,append_size,zerosB_size]
  have:(⟨#[48,46]⟩:ByteArray).size=2:=rfl
  omega
 ·split
  ·rw[append_size,zerosB_size]
   omega
  ·rw[append_size,append_size]
   have h3:(ds.extract 0 pow.toNat).size≤100:=by rw[ByteArray.size_extract];omega
   have h4:(ds.extract pow.toNat ds.size).size≤100:=by rw[ByteArray.size_extract];omega
   have:dotB.size=1:=rfl
   omega
theorem shortB_size(t:ByteArray)(p:Int)(hs:t.size≤100):(shortB t p).size≤1100:=by
 unfold shortB
 split
 ·exact plainB_short t p (by omega) (by omega) hs
 ·have:=sciB_size t p
  omega
theorem read_short(t:ByteArray)(p:Int)(h0:0<t.size)(hs:t.size≤100)(hg:good 10 t.data.toList)(hp:-9000≤p)(hp':p≤9000) :
  ReadA (shortB t p) true 0 (· = decW 10 (valN 10 t.data.toList) (p-(t.size:Int))):=by
 have e0:∀b:ByteArray,sgnB false++b=b:=fun b=>bytes_ext _ _ (by rw[append_list];rfl)
 have ez:signBit false=0:=rfl
 have hz:=shortB_size t p hs
 unfold shortB at hz ⊢
 by_cases h:-5≤p∧p≤21
 ·rw[if_pos h]at hz ⊢
  have:=read_plain false t p h0 hg (by rw[e0];omega)
  rw[e0,ez]at this
  simpa using this
 ·rw[if_neg h]at hz ⊢
  have:=read_sci false t p h0 hg (by omega) (by omega) (by rw[e0];omega)
  rw[e0,ez]at this
  simpa using this
def ShF(t:ByteArray)(y:Int)(F:Value):Prop:=((y < -6∨20<y)∧F=.iface 137 (.agg #[.string t,.int .i64 y,.int .i64 (t.size:Int)]))
 ∨ (-6≤y∧y≤20∧F=.iface 139 (.agg #[.string t,.int .i64 y,.int .i64 (((t.size:Int)-(y+1)).toNat:Int)]))
set_option maxHeartbeats 2000000 in
set_option maxRecDepth 100000 in
theorem shortForm_any(t:ByteArray)(y:Int)(hs:t.size≤2000)(hy:-5000≤y)(hy':y≤5000)(w:World) :
  Calls Tryz.prog 32 #[.agg #[.string t,.int .i64 y]] w fun e w'=>∃F,ShF t y F∧e=.returned F∧Below w.heap.size w w':=by
 have hs':(t.size:Int)≤2000:=by omega
 by_cases h1:y < -6
 ·go_enter Tryz.func32,Tryz.ntmps32
  go_wp2
  go_ret
  exact⟨_,.inl ⟨.inl h1,rfl⟩,rfl,(Below.refl _ _).alloc (Nat.le_refl _) _⟩
 ·by_cases h2:20<y
  ·go_enter Tryz.func32,Tryz.ntmps32
   go_wp2
   go_ret
   exact⟨_,.inl ⟨.inr h2,rfl⟩,rfl,(Below.refl _ _).alloc (Nat.le_refl _) _⟩
  ·have E:Hid ((((t.size:Int)-(y+1)).toNat:Int)=max ((t.size:Int)-1-y) 0):=by show _=_;omega
   go_enter Tryz.func32,Tryz.ntmps32
   go_wp2
   go_ret
   exact⟨_,.inr ⟨by omega,by omega,by rw[E.out];rfl⟩,rfl,(Below.refl _ _).alloc (Nat.le_refl _) _⟩
def FormW(F:Value)(T:ByteArray):Prop:=∃ty v fn,F=.iface ty v∧(∀w,(Go.method 407 ty v "loop.example/grain/impl.write").run Tryz.prog w=.ok (fn,v) w)∧(∀args w,(callFunc fn args).run Tryz.prog w=.ok (.enter fn args) w)
 ∧ ∀W,WrG W→Calls Tryz.prog fn #[v] W fun r w'=>r=.returned (.string T)∧Below W.heap.size W w'
theorem padB_whole(t:ByteArray):padB t t.size=t:=by
 unfold padB
 rw[if_neg (Nat.lt_irrefl _),Nat.sub_self]
 exact bytes_ext _ _ (by rw[append_list];show _++List.replicate 0 48=_;simp)
theorem shF_writes(t:ByteArray)(y:Int)(F:Value)(h:ShF t y F)(h0:0<t.size)(hs:t.size≤1900)(hy:-1900≤y)(hy':y≤1900):FormW F (shortB t (y+1)):=by
 rcases h with⟨h,rfl⟩|⟨h1,h2,rfl⟩
 ·refine⟨_,_,211,rfl,fun w=>meth_power _ w,enters_of Tryz.func211 (by kernel_rfl) rfl,fun W hG=>?_⟩
  refine(powerWrite_any t y t.size (by omega) (by omega) (by omega) h0 (by omega) W hG.2.1 hG.2.2.2).mono ?_
  rintro r w' ⟨rfl,hb⟩
  rw[padB_whole]
  unfold shortB
  rw[if_neg (by omega)]
  exact⟨rfl,hb⟩
 ·refine⟨_,_,214,rfl,fun w=>meth_plain _ w,enters_of Tryz.func214 (by kernel_rfl) rfl,fun W hG=>?_⟩
  refine(plainWrite_any t y _ (by omega) (by omega) (by omega) (by omega) W).mono ?_
  rintro r w' ⟨rfl,hb⟩
  unfold shortB
  rw[if_pos (by omega),plainB_fix t (y+1) h0]
  exact⟨rfl,hb⟩
theorem hex_join(s:Bool)(q E:Int):sgnB s++(⟨#[48,120]⟩++intText q 16++⟨#[112]⟩++intText E 10)=hexB s q E:=by
 apply bytes_ext
 unfold hexB
 simp only[append_list,List.append_assoc]
theorem hex_signed(x:Nat)(k:Int)(s:Bool)(m e:Int)(hp:partsV x k s m e):∃t,hexV x t∧∀W,WrG W→Calls Tryz.prog 33 #[.agg #[.int .i64 k,.bool s,.int .i64 m,.int .i64 e],.iface 264 (.agg #[.int .i64 m,.int .i64 e])] W fun r w'=>r=.returned (.string t)∧Below W.heap.size W w':=by
 have key:∀ (k:Int),(k=0∨k=1)→∀W,WrG W→Calls Tryz.prog 33 #[.agg #[.int .i64 k,.bool s,.int .i64 m,.int .i64 e],.iface 264 (.agg #[.int .i64 m,.int .i64 e])] W fun r w'=>r=.returned (.string (hexB s m e))∧Below W.heap.size W w':=fun k hk W hW=>by
  rw[←hex_join]
  refine signed_hex _ k hk s m e _ ?_ W fun W1 hb=>hexWrite_any m e W1 (hW.below hb).2.1 (hW.below hb).2.2.2
  have h1:=hex_size16 m
  have h2:=int_size e
  have e1:(⟨#[48,120]⟩:ByteArray).size=2:=rfl
  have e2:(⟨#[112]⟩:ByteArray).size=1:=rfl
  rw[append_size,append_size,append_size]
  omega
 rcases hp with⟨hn,rfl,rfl,rfl,rfl⟩|⟨rfl,rfl,rfl,rfl⟩|⟨rfl,rfl,rfl,rfl⟩|⟨n,p,q,t,hc,h0,rfl,hn,hq,rfl,rfl,rfl⟩
 ·exact⟨_,.inl ⟨hn,rfl⟩,fun W _=>signed_nan _ 0 0 W⟩
 ·exact⟨_,.inr (.inl ⟨s,rfl,rfl⟩),fun W _=>signed_inf _ s 0 0 W⟩
 ·exact⟨_,.inr (.inr (.inl ⟨s,rfl,rfl⟩)),key 0 (.inl rfl)⟩
 ·exact⟨_,.inr (.inr (.inr ⟨s,n,p,q,t,hc,h0,rfl,hn,hq,rfl⟩)),key 1 (.inr rfl)⟩
set_option maxHeartbeats 2000000 in
set_option maxRecDepth 100000 in
theorem implHex_any(x:Nat)(hx:x<18446744073709551616)(w:World)(hG:WrG w) :
  Calls Tryz.prog 169 #[.float .f64 x] w fun e w'=>∃t,hexV x t∧e=.returned (.string t)∧Below w.heap.size w w':=by
 obtain⟨k,s,m,e,hp⟩:=parts_ex x hx
 obtain⟨t,ht,hs⟩:=hex_signed x k s m e hp
 have HP:Hid _:=fun(_:Unit)=>implParts_of x hx k s m e hp w hG.1 hG.2.2.1
 have HS:Hid _:=hs
 have HV:Hid (hexV x t):=ht
 have HG:Hid (WrG w):=hG
 clear hp hs ht hG
 go_enter Tryz.func169,Tryz.ntmps169
 go_wp2_with fail
 refine(HP.out ()).mono ?_
 rintro r W1 ⟨rfl,hb1⟩
 have HB2:Hid (Below w.heap.size w (W1.alloc (.cells #[.int .i64 k,.bool s,.int .i64 m,.int .i64 e] 65))):=hb1.alloc hb1.size _
 clear hb1
 go_wp2_with fail
 refine(HS.out _ (HG.out.below HB2.out)).mono ?_
 rintro r W3 ⟨rfl,hb3⟩
 have HB3:Hid (Below w.heap.size w W3):=HB2.out.trans (hb3.mono HB2.out.size)
 clear hb3
 go_wp2
 go_ret
 exact⟨t,HV.out,rfl,HB3.out⟩
end Go.Proofs.YtenbfookfcmpoaaGreatDoor
namespace Go.Proofs.YtenbfookfcmpoaaGreatDoor
open Go.RowKit Go.Shelf
theorem box_belowG(w:World)(b:Obj):Below w.heap.size w (w.alloc b):=(Below.refl _ w).alloc (Nat.le_refl _) _
set_option maxHeartbeats 2000000 in
set_option maxRecDepth 100000 in
theorem gString_some(B b o:Nat)(T:TypeId)(cs:Array Value)(v:Value)(l:List UInt8)(w:World)(h:Bd w B b o T cs v (Lib.byteCells l))(h0:l≠[]) :
  Calls Tryz.prog 42 #[.pointer (some ⟨b,o,none⟩)] w fun e w'=>e=.returned (.string ⟨l.toArray⟩)∧Below B w w':=by
 have hl0:l.length≠0:=by simpa using h0
 have hown:=h.own
 rw[Lib.byteCells_length]at hown
 obtain⟨g,cap,cur,fz,hv,hbg,hg,hfz,hnc,hcm,hcs,htake⟩:∃g cap cur fz,v=.slice (some ⟨g,0,none⟩) l.length cap∧B≤g∧w.heap[g]? = some (.cells cur 5 fz)∧fz.2≤l.length*1∧l.length≤cap∧cap≤maxLen∧cur.size=cap*1∧cur.toList.take (l.length*1)=Lib.byteCells l:=by
  rcases hown.2 with⟨_,hz⟩|⟨g,cap,cur,fz,hv,r⟩
  ·exact absurd hz hl0
  ·exact⟨g,cap,cur,fz,hv,r⟩
 have c1:w.drew.cell? ⟨b,o+1,none⟩=some (.slice (some ⟨g,0,none⟩) l.length cap):=by rw[←hv];exact h.c1
 have hSD:(Builtin.unsafeSliceData_ #[22] 151 #[.slice (some ⟨g,0,none⟩) l.length cap]).run Tryz.prog w.drew=.ok (.pointer (some ⟨g,0,none⟩)) w.drew:=
  Lib.run_unsafeSliceData_row _ _ _ _ _ _ (by omega)
 have hUS:(Builtin.unsafeString_ #[151,3] 9 #[.pointer (some ⟨g,0,none⟩),.int .i64 (l.length:Int)]).run Tryz.prog w.drew=.ok (.string ⟨l.toArray⟩) (w.drew.freeze ⟨g,0,none⟩ l.length):=by
  refine Lib.run_unsafeString_row w.drew 151 3 9 5 Tryz.underlying151 strExtra.cellsByte g cur.size (by have hg':w.drew.heap[g]? = some (.cells cur 5 fz):=hg;simp[World.shape?,hg']) l h0 (by omega) (by unfold maxLen at hcm;omega) ?_
  intro j x hx
  rw[hv]at hown
  exact hown.cells (g:=g) rfl j (.int .u8 x.toNat) (by simp[Lib.byteCells,hx])
 have hbel:Below B w (w.drew.freeze ⟨g,0,none⟩ l.length):=Lib.below_freeze (Below.drew (Below.refl B w)) (p:=⟨g,0,none⟩) hbg _
 have HB:Hid (Below B w (w.drew.freeze ⟨g,0,none⟩ l.length)):=hbel
 have mixed:Tryz.prog.follows .mixedOrders=true:=by kernel_rfl
 clear h hown hv hg hfz hnc hcm hcs htake hbg hbel
 go_enter Tryz.func42,Tryz.ntmps42
 go_wp2
 go_region_o
 all_goals (go_wp2;go_ret;exact⟨rfl,HB.out⟩)
set_option maxHeartbeats 2000000 in
set_option maxRecDepth 100000 in
theorem gString_none(B b o:Nat)(T:TypeId)(cs:Array Value)(v:Value)(w:World)(h:Bd w B b o T cs v [])(hBw:B≤w.heap.size) :
  Calls Tryz.prog 42 #[.pointer (some ⟨b,o,none⟩)] w fun e w'=>e=.returned (.string ⟨#[]⟩)∧Below B w w':=by
 have mixed:Tryz.prog.follows .mixedOrders=true:=by kernel_rfl
 have hUS:∀ (W:World) (p:Option Addr),(Builtin.unsafeString_ #[151,3] 9 #[.pointer p,.int .i64 0]).run Tryz.prog W=.ok (.string ⟨#[]⟩) W:=fun W p=>Lib.run_unsafeString_none W _ _ _ p
 rcases h.own.2 with⟨hv,_⟩|⟨g,cap,cur,fz,hv,hbg,hg,_⟩
 ·have c1:w.drew.cell? ⟨b,o+1,none⟩=some (.slice none 0 0):=by rw[←hv];exact h.c1
  have hSD:(Builtin.unsafeSliceData_ #[22] 151 #[.slice none 0 0]).run Tryz.prog w.drew=.ok (.pointer none) w.drew:=rfl
  clear h hv
  go_enter Tryz.func42,Tryz.ntmps42
  go_wp2
  go_region_o
  all_goals (go_wp2;go_ret;exact⟨rfl,Below.drew (Below.refl B w)⟩)
 ·have hsh:w.drew.shape? g=some (5,cur.size):=by
   have hg':w.drew.heap[g]? = some (.cells cur 5 fz):=hg
   simp[World.shape?,hg']
  have c1:w.drew.cell? ⟨b,o+1,none⟩=some (.slice (some ⟨g,0,none⟩) 0 cap):=by
   have:=h.c1
   rw[hv]at this
   exact this
  have hlt:=h.lt
  by_cases hc:cap=0
  ·subst hc
   have hSD:(Builtin.unsafeSliceData_ #[22] 151 #[.slice (some ⟨g,0,none⟩) 0 0]).run Tryz.prog w.drew=.ok (.pointer (some ⟨w.drew.heap.size,0,none⟩)) (w.drew.alloc (.view ⟨g,0,none⟩ 5)):=Lib.run_unsafeSliceData_zero w.drew _ _ _ Tryz.underlying151 _ _ _ hsh
   have c2:(w.drew.alloc (.view ⟨g,0,none⟩ 5)).cell? ⟨b,o+1,none⟩=some (.slice (some ⟨g,0,none⟩) 0 0):=by
    rw[(box_belowG w.drew _).cell (p:=⟨b,o+1,none⟩) hlt]
    exact c1
   have HB:Hid (Below B w (w.drew.alloc (.view ⟨g,0,none⟩ 5))):=(Below.drew (Below.refl B w)).alloc hBw _
   obtain⟨W,hW⟩:∃W,w.drew.alloc (.view ⟨g,0,none⟩ 5)=W:=⟨_,rfl⟩
   rw[hW]at hSD c2 HB
   clear h hv hg hsh hW hlt
   go_enter Tryz.func42,Tryz.ntmps42
   go_wp2
   go_region_o
   all_goals (go_wp2;go_ret;exact⟨rfl,HB.out⟩)
  ·have hSD:(Builtin.unsafeSliceData_ #[22] 151 #[.slice (some ⟨g,0,none⟩) 0 cap]).run Tryz.prog w.drew=.ok (.pointer (some ⟨g,0,none⟩)) w.drew:=Lib.run_unsafeSliceData_row _ _ _ _ _ _ hc
   clear h hv hg hsh hlt
   go_enter Tryz.func42,Tryz.ntmps42
   go_wp2
   go_region_o
   all_goals (go_wp2;go_ret;exact⟨rfl,Below.drew (Below.refl B w)⟩)
theorem gString_any(B b o:Nat)(T:TypeId)(cs:Array Value)(v:Value)(l:List UInt8)(w:World)(h:Bd w B b o T cs v (Lib.byteCells l))(hBw:B≤w.heap.size) :
  Calls Tryz.prog 42 #[.pointer (some ⟨b,o,none⟩)] w fun e w'=>e=.returned (.string ⟨l.toArray⟩)∧Below B w w':=by
 cases l with
 | nil=>exact gString_none B b o T cs v w h hBw
 | cons x l=>exact gString_some B b o T cs v (x :: l) w h (by simp)
end Go.Proofs.YtenbfookfcmpoaaGreatDoor
namespace Go.Proofs.YtenbfookfcmpoaaGreatDoor
open Go.ChangeShapes Go.WideShapes Go.RowKit
def Rd(B:Nat)(w:World)(s:ByteArray)(k:Nat):Prop:=w.cell? ⟨B,0,none⟩=some (.string s)∧w.cell? ⟨B,1,none⟩=some (.int .i64 (k:Int))∧w.frozen? ⟨B,1,none⟩=false
theorem Rd.drewN{B:Nat}{w:World}{s:ByteArray}{k:Nat}(h:Rd B w s k)(n:Nat):Rd B (w.drewN n) s k:=h
theorem Rd.below{B C:Nat}{w w':World}{s:ByteArray}{k:Nat}(h:Rd B w s k)(hb:Below C w w')(hB:B<C):Rd B w' s k:=by
 obtain⟨c0,c1,f1⟩:=h
 exact⟨by rw[hb.cell (p:=⟨B,0,none⟩) hB];exact c0,by rw[hb.cell (p:=⟨B,1,none⟩) hB];exact c1,by rw[hb.frozen (p:=⟨B,1,none⟩) hB];exact f1⟩
set_option maxHeartbeats 400000 in
theorem look_any(B:Nat)(w:World)(s:ByteArray)(k:Nat)(h:Rd B w s k) :
  Calls Tryz.prog 22 #[.pointer (some ⟨B,0,none⟩)] w fun e w'=>e=.returned (.int .u8 (bAt s k))∧∃n,w'=w.drewN n:=by
 obtain⟨c0,c1,_⟩:=h
 by_cases hk:k<s.size
 ·rw[bAt_in s k hk]
  go_enter Tryz.func22,Tryz.ntmps22
  go_wp2
  go_quiet (fail)
  go_wp2
  go_quiet (fail)
  go_wp2
  go_ret
  exact⟨rfl,_,World.drewN_drewN _ _ _⟩
 ·rw[bAt_out s k hk]
  go_enter Tryz.func22,Tryz.ntmps22
  go_wp2
  go_quiet (fail)
  go_wp2
  go_ret
  exact⟨rfl,_,rfl⟩
set_option maxHeartbeats 400000 in
theorem is_no(B:Nat)(w:World)(s:ByteArray)(k:Nat)(c:Int)(h:Rd B w s k)(hn:bAt s k≠c) :
  Calls Tryz.prog 20 #[.pointer (some ⟨B,0,none⟩),.int .u8 c] w fun e w'=>e=.returned (.bool false)∧∃n,w'=w.drewN n:=by
 have HK:Hid _:=fun n=>look_any B (w.drewN n) s k (h.drewN n)
 have b:(bAt s k==c)=false:=beq_eq_false_iff_ne.2 hn
 obtain⟨c0,c1,_⟩:=h
 clear hn
 generalize bAt s k=x at *
 go_enter Tryz.func20,Tryz.ntmps20
 go_wp2
 go_quiet (first|(go_at_call 22;exact Calls.quiet_of (HK.out _)))
 go_wp2
 go_ret
 exact⟨rfl,_,rfl⟩
set_option maxHeartbeats 400000 in
theorem is_yes(B:Nat)(w:World)(s:ByteArray)(k:Nat)(c:Int)(h:Rd B w s k)(hs:s.size≤1300)(hk:k<s.size)(hn:bAt s k=c) :
  Calls Tryz.prog 20 #[.pointer (some ⟨B,0,none⟩),.int .u8 c] w fun e w'=>e=.returned (.bool true)∧∃n,w'=(w.drewN n).setCell ⟨B,1,none⟩ (.int .i64 ((k:Int)+1)):=by
 have HK:Hid _:=fun n=>look_any B (w.drewN n) s k (h.drewN n)
 have b:(bAt s k==c)=true:=beq_iff_eq.2 hn
 obtain⟨c0,c1,f1⟩:=h
 clear hn
 generalize bAt s k=x at *
 have hk':(k:Int)<(s.size:Int):=by omega
 have hs':(s.size:Int)≤1300:=by omega
 go_enter Tryz.func20,Tryz.ntmps20
 go_wp2
 go_quiet (first|(go_at_call 22;exact Calls.quiet_of (HK.out _)))
 go_wp2
 go_ret
 exact⟨rfl,_,rfl⟩
def rdAt(B:Nat)(w:World):Nat:=match w.cell? ⟨B,1,none⟩ with|some (.int _ j)=>j.toNat|_=>0
theorem rdAt_is{B:Nat}{w:World}{s:ByteArray}{k:Nat}(h:Rd B w s k):rdAt B w=k:=by
 unfold rdAt
 rw[h.2.1]
 exact Int.toNat_natCast k
set_option maxHeartbeats 1600000 in
theorem digits_any(B:Nat)(w:World)(s:ByteArray)(k:Nat)(b:Int)(h:Rd B w s k)(hs:s.size≤1300)(hk:k≤s.size) :
  Calls Tryz.prog 43 #[.pointer (some ⟨B,0,none⟩),.int .i64 b] w fun e w'=>∃j,Run b s k j∧e=.returned (.string (s.extract k j))∧Rd B w' s j∧Only B w w':=by
 have hs':(s.size:Int)≤1300:=by omega
 have H0:Hid (Rd B w s k):=h
 obtain⟨c0,c1,f1⟩:=h
 go_enter Tryz.func43,Tryz.ntmps43
 go_wp2
 go_loopw [13] (fun _ wl=>∃j:Nat,Hid (Rd B wl s j)∧Hid (Only B w wl)∧k≤j∧j≤s.size∧Hid (∀i,k≤i→i<j→Dig b s i)) (fun _ wl=>s.size-rdAt B wl)
 case atStart=>exact⟨k,H0,Only.refl B w,Nat.le_refl _,hk,fun i h1 h2=>by omega⟩
 case round=>
  obtain⟨j,HR,HO,hkj,hj,HI⟩:=hrel
  obtain⟨d0,d1,g1⟩:=HR.out
  by_cases hlt:j<s.size
  ·have hlt':(j:Int)<(s.size:Int):=by omega
   have HD:Hid _:=fun w=>specDigit_byte s[j] w
   have hb:=bAt_in s j hlt
   by_cases hd:digN 99 (s[j].toNat:Int)<b
   ·have HN:Hid _:=fun(_:Unit)=>And.intro hlt (show digN 99 (bAt s j)<b by rw[hb];exact hd)
    clear hb c0 c1 f1
    generalize digN 99 (s[j].toNat:Int)=x at *
    go_wp2
    go_quiet (first|(go_at_call 84;exact Calls.quiet_of_same (HD.out _)))
    go_wp2
    go_roundw
    case rel=>exact⟨j+1,⟨by simp[go_sem,d0],by simp[go_sem,d1],by simp[go_sem,g1]⟩,HO.out.trans (((Only.refl _ _).drewN _).setCell _ _),by omega,by omega,fun i h1 h2=>by
     by_cases h3:i=j
     ·subst h3;exact HN.out ()
     ·exact HI.out i h1 (by omega)⟩
    case measure=>
     have e1:rdAt B _=j:=rdAt_is HR.out
     simp[rdAt,go_sem,d1]
     omega
   ·have hd':decide (digN 99 (s[j].toNat:Int)<b)=false:=decide_eq_false hd
    have HN:Hid (¬Dig b s j):=fun h=>hd (by have:=h.2;rw[hb]at this;exact this)
    have HE:Hid (Rd B _ s j):=HR.out
    clear hb c0 c1 f1 hd
    generalize digN 99 (s[j].toNat:Int)=x at *
    go_wp2
    go_quiet (first|(go_at_call 84;exact Calls.quiet_of_same (HD.out _)))
    go_wp2
    go_quiet (fail)
    go_wp2
    go_ret
    exact⟨j,⟨hkj,hj,HI.out,HN.out⟩,rfl,HR.out,(HO.out.drewN _).drewN _⟩
  ·have hd':decide ((j:Int)<(s.size:Int))=false:=decide_eq_false (by omega)
   have HN:Hid (¬Dig b s j):=fun h=>hlt h.1
   clear c0 c1 f1
   go_wp2
   go_quiet (fail)
   go_wp2
   go_quiet (fail)
   go_wp2
   go_ret
   exact⟨j,⟨hkj,hj,HI.out,HN.out⟩,rfl,HR.out,(HO.out.drewN _).drewN _⟩
theorem val_more10(l m:List UInt8):valN 10 l≤valN 10 (l++m):=by
 rw[valN_append]
 have:valN 10 l*1≤valN 10 l*10 ^ m.length:=Nat.mul_le_mul_left _ (Nat.pow_pos (by omega))
 omega
set_option maxHeartbeats 1000000 in
set_option maxRecDepth 100000 in
theorem l6count_any(B:Nat)(w:World)(s:ByteArray)(k:Nat)(h:Rd B w s k)(hs:s.size≤1300)(hk:k≤s.size) :
  Calls Tryz.prog 21 #[.pointer (some ⟨B,0,none⟩)] w fun e w'=>∃j,Run 10 s k j∧e=.returned (.int .i64 (countR s k j))∧Rd B w' s j∧Only B w w':=by
 have HD:Hid _:=fun(_:Unit)=>digits_any B w s k 10 h hs hk
 clear h
 go_enter Tryz.func21,Tryz.ntmps21
 go_wp2_with fail
 refine(HD.out ()).mono ?_
 rintro e w1 ⟨j,hr,rfl,hrd,ho⟩
 have hg:=run_good 10 s k j hr
 have HR:Hid (Run 10 s k j∧Rd B w1 s j∧Only B w w1):=⟨hr,hrd,ho⟩
 have hds:(s.extract k j).size≤1300:=by rw[ByteArray.size_extract];omega
 have hnil:(s.extract k j).size=0→countV (s.extract k j).data.toList = -1:=fun h0=>by
  have:(s.extract k j).data.toList = []:=List.length_eq_zero_iff.1 (by rw[data_len];exact h0)
  unfold countV
  rw[if_pos this]
 have hsome:0<(s.extract k j).size→countV (s.extract k j).data.toList=if 400<valN 10 (s.extract k j).data.toList then -2 else (valN 10 (s.extract k j).data.toList:Int):=fun h0=>by
  unfold countV
  rw[if_neg (fun h=>by have h1:(0:Nat)=(s.extract k j).size:=(by rw[←data_len,h];rfl);omega)]
 clear hr hrd ho HD
 generalize hdx:s.extract k j=d at *
 have HDX:Hid (s.extract k j=d):=hdx
 clear hdx
 by_cases h0:d.size=0
 ·have HC:Hid (countV d.data.toList = -1):=hnil h0
  have he:=isEmpty_yes d h0
  clear hnil hsome h0 hg
  go_wp2
  go_ret
  exact⟨j,HR.out.1,by unfold countR;rw[HDX.out,HC.out];rfl,HR.out.2.1,HR.out.2.2⟩
 ·have he:=isEmpty_no d (by omega)
  have hC:=hsome (by omega)
  have HC:Hid (countV d.data.toList=if 400<valN 10 d.data.toList then -2 else (valN 10 d.data.toList:Int)):=hC
  have HG:Hid (good 10 d.data.toList):=hg
  have hdi:(d.size:Int)≤1300:=by omega
  clear hnil hsome hC hg
  go_wp2
  go_loop [4,5] (fun v4 v5=>∃i V:Nat,v4=.int .i64 (V:Int)∧v5=.int .i64 (i:Int)∧i≤d.size∧V≤400∧Hid (valN 10 (d.data.toList.take i)=V)) (fun _ v5=>d.size-(intOf v5).toNat)
  case atStart=>exact⟨0,0,rfl,rfl,by omega,by omega,by show _=_;rw[List.take_zero,valN_nil]⟩
  case round=>
   obtain⟨i,V,rfl,rfl,hi,hV,HV⟩:=hrel
   by_cases hlt:i<d.size
   ·obtain⟨c,hc⟩:∃c:UInt8,d[i]=c:=⟨_,rfl⟩
    have hdg:=good_at 10 d HG.out i hlt
    rw[hc]at hdg
    obtain⟨t1,t2,t3⟩:=ten_digit c hdg
    obtain⟨D,hD⟩:∃D:Nat,(c.toNat:Int)=48+(D:Int):=⟨c.toNat-48,by omega⟩
    have hD9:D≤9:=by omega
    have hnext:valN 10 (d.data.toList.take (i+1))=V*10+D:=by
     rw[valN_step 10 d i hlt D (by rw[hc];omega),HV.out]
    have hsub:IntKind.u8.wrap (48+(D:Int)-48)=(D:Int):=by rw[IntKind.wrap_u8];omega
    have HN:Hid (valN 10 (d.data.toList.take (i+1))=V*10+D):=hnext
    clear hdg t1 t2 t3 hnext
    by_cases hb:400<V*10+D
    ·have hbi:decide (400<(V:Int)*10+D)=true:=decide_eq_true (by omega)
     have HX:Hid (countV d.data.toList = -2):=by
      show _=_
      have:=val_more10 (d.data.toList.take (i+1)) (d.data.toList.drop (i+1))
      rw[List.take_append_drop,HN.out]at this
      rw[HC.out,if_pos (by omega)]
     clear HC HN HV
     go_wp2
     go_ret
     exact⟨j,HR.out.1,by unfold countR;rw[HDX.out,HX.out];rfl,HR.out.2.1,HR.out.2.2⟩
    ·have hbi:decide (400<(V:Int)*10+D)=false:=decide_eq_false (by omega)
     go_wp2
     go_round
     case rel=>exact⟨i+1,V*10+D,by congr 1,by simp,by omega,by omega,HN⟩
     case measure=>simp only[intOf];omega
   ·have hd':decide (i<d.size)=false:=decide_eq_false hlt
    have HX:Hid (countV d.data.toList=(V:Int)):=by
     show _=_
     have e:d.data.toList.take i=d.data.toList:=List.take_of_length_le (by rw[data_len];omega)
     have hv:=HV.out
     rw[e]at hv
     rw[HC.out,if_neg (by omega),hv]
    clear HC HV
    go_wp2
    go_ret
    exact⟨j,HR.out.1,by unfold countR;rw[HDX.out,HX.out];rfl,HR.out.2.1,HR.out.2.2⟩
theorem is_no'(B:Nat)(w:World)(s:ByteArray)(k:Nat)(c:Int)(h:Rd B w s k)(hn:bAt s k≠c) :
  Calls Tryz.prog 20 #[.pointer (some ⟨B,0,none⟩),.int .u8 c] w fun e w'=>e=.returned (.bool false)∧Rd B w' s k∧Only B w w':=by
 refine(is_no B w s k c h hn).mono ?_
 rintro e w' ⟨rfl,n,rfl⟩
 exact⟨rfl,h,(Only.refl _ _).drewN n⟩
theorem is_yes'(B:Nat)(w:World)(s:ByteArray)(k:Nat)(c:Int)(h:Rd B w s k)(hs:s.size≤1300)(hk:k<s.size)(hn:bAt s k=c) :
  Calls Tryz.prog 20 #[.pointer (some ⟨B,0,none⟩),.int .u8 c] w fun e w'=>e=.returned (.bool true)∧Rd B w' s (k+1)∧Only B w w':=by
 refine(is_yes B w s k c h hs hk hn).mono ?_
 rintro e w' ⟨rfl,n,rfl⟩
 obtain⟨c0,c1,f1⟩:=h
 exact⟨rfl,⟨by simp[go_sem,c0],by simp[go_sem,c1],by simp[go_sem,f1]⟩,((Only.refl _ _).drewN n).setCell _ _⟩
end Go.Proofs.YtenbfookfcmpoaaGreatDoor
