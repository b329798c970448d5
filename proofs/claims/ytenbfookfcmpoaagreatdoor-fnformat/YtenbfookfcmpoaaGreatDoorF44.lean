import Derived.Test.YtenbfookfcmpoaaGreatDoorF41
import Derived.Test.YtenbfookfcmpoaaGreatDoorF33
namespace Go.Proofs.YtenbfookfcmpoaaGreatDoor
open Go.RowKit
open Ieee (double)
theorem rds_zeros(X:Nat)(t:ByteArray)(j:Nat)(p:Int):Rds X (t++zerosB j) p=Rds X t p:=by
 unfold Rds
 rw[append_list,append_size,zerosB_size,zeros_data,zeros_behind,dec_zeros]
 congr 3
 omega
theorem dec_mono(A B:Nat)(e:Int)(h:A≤B):decW 10 A e≤decW 10 B e:=by
 unfold decW
 by_cases hA:A=0
 ·rw[if_pos hA]
  exact Nat.zero_le _
 ·rw[if_neg hA,if_neg (by omega)]
  have hp:∀k:Nat,0<10 ^ k:=fun k=>Nat.pow_pos (by omega)
  exact ratio_mono _ _ _ _ (Nat.mul_pos (by omega) (hp _)) (hp _) (Nat.mul_pos (by omega) (hp _)) (hp _) (Nat.mul_le_mul_right _ (Nat.mul_le_mul_right _ h))
theorem dec_le(A B i j:Nat)(a b:Int)(h:A*10 ^ i≤B*10 ^ j)(he:a-i=b-j):decW 10 A a≤decW 10 B b:=by
 have h1:=dec_zeros A i (a-i)
 have h2:=dec_zeros B j (b-j)
 rw[show a-(i:Int)+i=a by omega]at h1
 rw[show b-(j:Int)+j=b by omega]at h2
 rw[←h1,←h2,he]
 exact dec_mono _ _ _ h
def PickD(ds:ByteArray)(pow:Int)(X n:Nat)(d:ByteArray)(p':Int):Prop:=∃t2 p2,cutV ds pow n (decide (n<ds.size)) t2 p2
 ∧ ((Rds X (padB ds n) pow=true∧(Rds X t2 p2=true→roundsB ds (n:Int)=false)∧d=padB ds n∧p'=pow)∨(Rds X t2 p2=true∧(Rds X (padB ds n) pow=true→roundsB ds (n:Int)=true)∧d=t2∧p'=p2))
def LeaI(ds:ByteArray)(x:Int)(X:Nat)(t:ByteArray)(y:Int):Prop:=0<t.size∧t.size≤ds.size∧good 10 t.data.toList∧(∀h:t.size-1<t.size,t[t.size-1].toNat≠48)∧∃j,PickD ds (x+1) X t.size (t++zerosB j) (y+1)
theorem rounds_digit(ds:ByteArray)(m:Nat)(hm:m<ds.size)(h:ds[m].toNat≠53):roundsB ds (m:Int)=decide (53≤ds[m].toNat):=by
 unfold roundsB
 rw[dif_pos ⟨by omega,by omega⟩]
 simp only[Int.toNat_natCast]
 rw[if_pos (.inl h)]
theorem no_zeros(t:ByteArray):t++zerosB 0=t:=by
 apply bytes_ext
 rw[append_list,zeros_data,List.replicate_zero,List.append_nil]
theorem good_front(t:ByteArray)(j:Nat)(h:good 10 (t++zerosB j).data.toList):good 10 t.data.toList:=fun c hc=>h c (by rw[append_list];exact List.mem_append_left _ hc)
theorem lea_all(ds:ByteArray)(x:Int)(X:Nat)(h0:0<ds.size)(hg:good 10 ds.data.toList)(hl:∀h:ds.size-1<ds.size,ds[ds.size-1].toNat≠48)(hr:Rds X ds (x+1)=true):LeaI ds x X ds x:=by
 have hp:padB ds ds.size=ds:=by rw[pad_long ds _ (Nat.le_refl _),Nat.sub_self,no_zeros]
 refine⟨h0,Nat.le_refl _,hg,hl,0,padB ds ds.size,x+1,.inl ⟨decide_eq_false (by omega),rfl,rfl⟩,.inl ⟨by rw[hp];exact hr,fun _=>?_,by rw[no_zeros,hp],rfl⟩⟩
 unfold roundsB
 rw[dif_neg (by omega)]
theorem lea_low(ds:ByteArray)(x:Int)(X n:Nat)(u:ByteArray)(z:Int)(hn:0<n)(hns:n<ds.size)(hg:good 10 ds.data.toList)(hf:∀h:0<ds.size,ds[0].toNat≠48)
  (h:LowD ds x n u z) (hr:Rds X u (z+1)=true) (v:ByteArray) (r:Int) (hv:HighD ds x n v r) (hp:Rds X v (r+1)=true→roundsB ds (n:Int)=false):LeaI ds x X u z:=by
 obtain⟨j,hpad,rfl,hu,hj,hl⟩:=low_pad ds x n u z hn (by omega) hf h
 have hgu:good 10 u.data.toList:=good_front u j (by rw[←hpad];exact padB_good ds n hg)
 refine⟨hu,by omega,hgu,hl,?_⟩
 by_cases hj0:j=0
 ·subst hj0
  have e:u.size=n:=by omega
  rw[e]
  obtain⟨i,more,hup,hy,_⟩:=high_pad ds z n v r (by omega) hg hv
  refine⟨0,v++zerosB i,r+1,?_,.inl ⟨?_,?_,hpad.symm,rfl⟩⟩
  ·rw[decide_eq_true hns]
   exact .inr ⟨rfl,more,hup,by rw[hy];omega⟩
  ·rw[hpad,no_zeros];exact hr
  ·rw[rds_zeros];exact hp
 ·have hm:u.size<ds.size:=by omega
  have hpm:padB ds u.size=u:=by
   apply bytes_ext
   rw[pad_take ds u.size (by omega),ext_list,List.drop_zero,Nat.sub_zero]
   have h1:(padB ds n).data.toList=ds.data.toList.take n:=by rw[pad_take ds n (by omega),ext_list,List.drop_zero,Nat.sub_zero]
   have h2:ds.data.toList.take u.size=(ds.data.toList.take n).take u.size:=by rw[List.take_take,Nat.min_eq_left (by omega)]
   rw[h2,←h1,hpad,append_list,List.take_left' (data_len u)]
  have hd:ds[u.size].toNat=48:=by
   have h1:=get_data ds u.size hm
   have h2:(padB ds n).data.toList[u.size]? = some ds[u.size]:=by
    rw[pad_take ds n (by omega),ext_list,List.drop_zero,Nat.sub_zero,List.getElem?_take,if_pos (by omega)]
    exact h1
   rw[hpad,append_list,List.getElem?_append_right (by rw[data_len];exact Nat.le_refl _),data_len,Nat.sub_self,zeros_get,if_pos (by omega)]at h2
   rw[←Option.some.inj h2]
   rfl
  have hrn:roundsB ds (u.size:Int)=false:=by
   rw[rounds_digit ds u.size hm (by omega),hd]
   rfl
  obtain⟨t2,more,hup⟩:=upD_ex (padB ds u.size) (padB_good ds _ hg)
  refine⟨0,t2,z+1+(if more then 1 else 0),?_,.inl ⟨by rw[hpm];exact hr,fun _=>hrn,by rw[no_zeros,hpm],rfl⟩⟩
  rw[decide_eq_true hm]
  exact .inr ⟨rfl,more,hup,rfl⟩
theorem high_shrink(ds:ByteArray)(x:Int)(n:Nat)(u:ByteArray)(z:Int)(hn:0<n)(hns:n<ds.size)(h:HighD ds x n u z)(hne:u.size≠n):∃hm:u.size<ds.size,HighD ds x u.size u z∧ds[u.size].toNat=57:=by
 obtain⟨u',⟨⟨j,hj⟩,hl⟩,h⟩:=h
 have hsz:=take_size ds n (by omega)
 have hs2:=trim_size hj
 have hnine:∀i,u'.size≤i→i<n→ds.data.toList[i]? = some 57:=fun i h1 h2=>by
  have h3:(ds.extract 0 n).data.toList[i]? = ds.data.toList[i]?:=by rw[ext_list,List.drop_zero,List.getElem?_take,if_pos (by omega)]
  rw[←h3,hj,List.getElem?_append_right (by rw[data_len];exact h1),List.getElem?_replicate,if_pos (by rw[data_len];omega)]
 have hnat:∀i (hi:i<ds.size),u'.size≤i→i<n→ds[i].toNat=57:=fun i hi h1 h2=>by
  have h3:=hnine i h1 h2
  rw[get_data ds i hi]at h3
  rw[Option.some.inj h3]
  rfl
 rcases h with⟨h0,rfl,rfl⟩|⟨h0,⟨c,hc,ht⟩,rfl⟩
 ·have e1:(⟨#[49]⟩:ByteArray).size=1:=rfl
  rw[e1]at hne ⊢
  refine⟨by omega,⟨u',⟨⟨1,?_⟩,hl⟩,.inl ⟨h0,rfl,rfl⟩⟩,hnat 1 (by omega) (by omega) (by omega)⟩
  have e:u'.data.toList = []:=List.length_eq_zero_iff.1 (by rw[data_len];exact h0)
  rw[e,List.nil_append,ext_list,List.drop_zero,Nat.sub_zero]
  have h1:=hnine 0 (by omega) hn
  apply List.ext_getElem?
  intro i
  rw[List.getElem?_take,List.getElem?_replicate]
  by_cases hi:i<1
  ·rw[if_pos hi,if_pos hi,show i=0 by omega]
   exact h1
  ·rw[if_neg hi,if_neg hi]
 ·have hts:u.size=u'.size:=by
   rw[←data_len,ht,List.length_append,data_len]
   have:=take_size u' (u'.size-1) (by omega)
   rw[this]
   simp
   omega
  rw[hts]at hne ⊢
  refine⟨by omega,⟨u',⟨⟨0,?_⟩,hl⟩,.inr ⟨h0,⟨c,hc,ht⟩,rfl⟩⟩,hnat _ (by omega) (Nat.le_refl _) (by omega)⟩
  have h1:(ds.extract 0 n).data.toList=ds.data.toList.take n:=by rw[ext_list,List.drop_zero,Nat.sub_zero]
  have h2:ds.data.toList.take u'.size=(ds.data.toList.take n).take u'.size:=by rw[List.take_take,Nat.min_eq_left (by omega)]
  rw[List.replicate_zero,List.append_nil,ext_list,List.drop_zero,Nat.sub_zero,h2,←h1,hj,List.take_left' (data_len u')]
theorem lea_high(ds:ByteArray)(x:Int)(X n:Nat)(u:ByteArray)(z:Int)(hn:0<n)(hns:n<ds.size)(hg:good 10 ds.data.toList)
  (h:HighD ds x n u z) (hr:Rds X u (z+1)=true) (hp:Rds X (padB ds n) (x+1)=true→roundsB ds (n:Int)=true):LeaI ds x X u z:=by
 have key:∀m,m=u.size→0<m→m<ds.size→HighD ds x m u z→(Rds X (padB ds m) (x+1)=true→roundsB ds (m:Int)=true)→LeaI ds x X u z:=fun m hm h0 hms hh hpp=>by
  obtain⟨j,more,hup,hy,hu,hj,_,hl⟩:=high_pad ds x m u z (by omega) hg hh
  refine⟨hu,by omega,good_front u j hup.1,hl,j,u++zerosB j,z+1,?_,.inr ⟨by rw[rds_zeros];exact hr,by rw[←hm];exact hpp,rfl,rfl⟩⟩
  rw[←hm,decide_eq_true hms]
  exact .inr ⟨rfl,more,hup,by rw[hy];omega⟩
 by_cases hm:u.size=n
 ·exact key n hm.symm hn hns h hp
 ·obtain⟨hms,hh,h57⟩:=high_shrink ds x n u z hn hns h hm
  obtain⟨_,_,_,_,hu,_⟩:=high_pad ds x n u z (by omega) hg h
  refine key _ rfl hu hms hh fun _=>?_
  rw[rounds_digit ds _ hms (by omega),h57]
  rfl
theorem pad_whole(ds:ByteArray)(k:Nat)(hk:k≤ds.size)(hg:good 10 ds.data.toList):∃R,R<10 ^ (ds.size-k)∧valN 10 ds.data.toList=valN 10 (padB ds k).data.toList*10 ^ (ds.size-k)+R:=by
 by_cases h:k<ds.size
 ·exact(pad_val ds k h hg).2
 ·have e:padB ds k=ds:=by rw[show k=ds.size by omega,pad_long ds _ (Nat.le_refl _),Nat.sub_self,no_zeros]
  refine⟨0,Nat.pow_pos (by omega),?_⟩
  rw[e,show ds.size-k=0 by omega,Nat.pow_zero]
  omega
theorem low_mono(ds:ByteArray)(pow:Int)(X k n:Nat)(hX:X≤9218868437227405312)(hkn:k≤n)(hns:n≤ds.size)(hg:good 10 ds.data.toList)(hr:Rds X ds pow=true)(h:Rds X (padB ds k) pow=true):Rds X (padB ds n) pow=true:=by
 obtain⟨R1,hR1,hv1⟩:=pad_whole ds k (by omega) hg
 obtain⟨R2,hR2,hv2⟩:=pad_whole ds n hns hg
 rw[rds_is _ hX]at hr h ⊢
 rw[padB_size]at h ⊢
 have hr':=of_decide_eq_true hr
 have h':=of_decide_eq_true h
 apply decide_eq_true
 apply Nat.le_antisymm
 ·rw[←hr']
  exact dec_le _ _ (ds.size-n) 0 _ _ (by rw[Nat.pow_zero];omega) (by omega)
 ·rw[←h']
  refine dec_le _ _ (n-k) 0 _ _ ?_ (by omega)
  rw[Nat.pow_zero,Nat.mul_one]
  have e:10 ^ (ds.size-k)=10 ^ (n-k)*10 ^ (ds.size-n):=by rw[←Nat.pow_add];congr 1;omega
  rw[e,←Nat.mul_assoc]at hv1
  have h10:0<10 ^ (ds.size-n):=Nat.pow_pos (by omega)
  have hlt:valN 10 (padB ds k).data.toList*10 ^ (n-k)*10 ^ (ds.size-n)<(valN 10 (padB ds n).data.toList+1)*10 ^ (ds.size-n):=by rw[Nat.add_mul,Nat.one_mul];omega
  exact Nat.le_of_lt_succ (Nat.lt_of_mul_lt_mul_right hlt)
theorem up_dec(ds:ByteArray)(pow:Int)(k:Nat)(u:ByteArray)(r:Int)(h:cutV ds pow k true u r):decW 10 (valN 10 u.data.toList) (r-(u.size:Int))=decW 10 (valN 10 (padB ds k).data.toList+1) (pow-(k:Int)):=by
 rcases h with⟨h,_⟩|⟨_,more,⟨_,hv,hs,_⟩,rfl⟩
 ·cases h
 ·rw[padB_size]at hs
  rw[hv,hs]
  congr 1
  cases more<;>simp<;>omega
theorem high_mono(ds:ByteArray)(pow:Int)(X k n:Nat)(hX:X≤9218868437227405312)(hkn:k≤n)(hns:n≤ds.size)(hg:good 10 ds.data.toList)(hr:Rds X ds pow=true)(u v:ByteArray)(r s:Int)(hu:cutV ds pow k true u r)(hv:cutV ds pow n true v s)(h:Rds X u r=true):Rds X v s=true:=by
 obtain⟨R1,hR1,hv1⟩:=pad_whole ds k (by omega) hg
 obtain⟨R2,hR2,hv2⟩:=pad_whole ds n hns hg
 rw[rds_is _ hX]at hr h ⊢
 rw[up_dec ds pow k u r hu]at h
 rw[up_dec ds pow n v s hv]
 have hr':=of_decide_eq_true hr
 have h':=of_decide_eq_true h
 apply decide_eq_true
 apply Nat.le_antisymm
 ·rw[←h']
  refine dec_le _ _ 0 (n-k) _ _ ?_ (by omega)
  rw[Nat.pow_zero,Nat.mul_one]
  have e:10 ^ (ds.size-k)=10 ^ (n-k)*10 ^ (ds.size-n):=by rw[←Nat.pow_add];congr 1;omega
  have hlt:valN 10 (padB ds n).data.toList*10 ^ (ds.size-n)<(valN 10 (padB ds k).data.toList+1)*10 ^ (n-k)*10 ^ (ds.size-n):=by
   rw[Nat.mul_assoc,←e,Nat.add_mul,Nat.one_mul];omega
  exact Nat.lt_of_mul_lt_mul_right hlt
 ·rw[←hr']
  exact dec_le _ _ 0 (ds.size-n) _ _ (by rw[Nat.pow_zero,Nat.add_mul,Nat.one_mul];omega) (by omega)
theorem lea_end(ds:ByteArray)(x:Int)(X:Nat)(t:ByteArray)(y:Int)(hX:X≤9218868437227405312)(hg:good 10 ds.data.toList)(hf:∀h:0<ds.size,ds[0].toNat≠48)(hr:Rds X ds (x+1)=true)(h:LeaI ds x X t y)
  (hend:t.size=1∨∃u z v r,LowD ds x (t.size-1) u z∧HighD ds x (t.size-1) v r∧Rds X u (z+1)=false∧Rds X v (r+1)=false):∃d,LeastD ds (x+1) X d (y+1)∧TrimD d t:=by
 obtain⟨h0,hs,hgt,hl,j,t2,p2,hcut,hpick⟩:=h
 have htr:TrimD (t++zerosB j) t:=by
  refine⟨h0,hgt,j,?_,by rw[append_size,zerosB_size],by rw[append_list,zeros_data,zeros_behind],.inr hl⟩
  apply bytes_ext
  rw[ext_list,List.drop_zero,Nat.sub_zero,append_list,List.take_left' (data_len t)]
 refine⟨t++zerosB j,⟨t.size,t2,p2,h0,hs,hcut,fun k hk1 hk2=>?_,hpick⟩,htr⟩
 rcases hend with hend|⟨u,z,v,r,hlow,hhigh,hru,hrv⟩
 ·omega
 ·obtain⟨i,hpad,rfl,_,_,_⟩:=low_pad ds x (t.size-1) u z (by omega) (by omega) hf hlow
  obtain⟨i',more,hup,hy,_⟩:=high_pad ds z (t.size-1) v r (by omega) hg hhigh
  have hru':Rds X (padB ds (t.size-1)) (z+1)=false:=by rw[hpad,rds_zeros];exact hru
  refine⟨?_,fun q s hq=>?_⟩
  ·apply Bool.eq_false_iff.2
   intro hc
   rw[low_mono ds (z+1) X k (t.size-1) hX (by omega) (by omega) hg hr hc]at hru'
   cases hru'
  ·rw[decide_eq_true (show k<ds.size by omega)]at hq
   apply Bool.eq_false_iff.2
   intro hc
   have hcv:cutV ds (z+1) (t.size-1) true (v++zerosB i') (r+1):=.inr ⟨rfl,more,hup,by rw[hy];omega⟩
   have:=high_mono ds (z+1) X k (t.size-1) hX (by omega) (by omega) hg hr q (v++zerosB i') s (r+1) hq hcv hc
   rw[rds_zeros,hrv]at this
   cases this
theorem lea_start(n:Nat)(p:Int)(q k:Nat)(ds:ByteArray)(x:Int)(hc:Canon n p)(hn:0<n)(hq:n=q*2 ^ k)(hd:ExD ds (x+1) q (p+k))(t:ByteArray)(y:Int)(h:RndD ds x 17 t y)(hv:∀N,∃v r,HighD ds x N v r):LeaI ds x (fw false n p) t y:=by
 have hq0:0<q:=Nat.pos_of_ne_zero fun h=>by rw[h,Nat.zero_mul]at hq;omega
 have hfw:fw false q (p+k)=fw false n p:=by
  have:=fw_scale false q k (p+k)
  rw[show p+(k:Int)-k=p by omega,←hq]at this
  exact this.symm
 have hX:fw false n p≤9218868437227405312:=fw_top n p
 have hr:Rds (fw false n p) ds (x+1)=true:=by
  rw[rds_is _ hX]
  apply decide_eq_true
  rw[exD_reads ds (x+1) q (p+k) hq0 hd,hfw]
 have hd':=hd
 obtain⟨h0,hg,hf,hl,_⟩:=hd'
 rcases h with⟨h,_⟩|⟨_,_,rfl,rfl⟩|⟨_,h17,h⟩
 ·omega
 ·exact lea_all t y _ h0 hg hl hr
 ·have hs:17<ds.size:=by omega
  obtain⟨gp,R,hR,hval⟩:=pad_val ds 17 hs hg
  have hW:=pad_pos ds 17 hs (by omega) hg hf
  have hhalf:=rounds_half ds 17 hs hg R hval
  rcases h with⟨hro,hh⟩|⟨hro,hlo⟩
  ·have hh':HighD ds x 17 t y:=hh
   have h2:=hhalf.1 hro
   obtain⟨j,more,hup,hy,_⟩:=high_pad ds x 17 t y (by omega) hg hh'
   have em:(valN 10 (padB ds 17).data.toList+1)*10 ^ (ds.size-17)=valN 10 (padB ds 17).data.toList*10 ^ (ds.size-17)+10 ^ (ds.size-17):=by rw[Nat.add_mul,Nat.one_mul]
   have:=digits_near n p q k ds (x+1) hc hn hq hd 17 (valN 10 (padB ds 17).data.toList+1) (by omega) (by omega) (by omega) (.inr ⟨by omega,by omega⟩)
   refine lea_high ds x _ 17 t y (by omega) hs hg hh' ?_ (fun _=>hro)
   have hcv:cutV ds (x+1) 17 true (t++zerosB j) (y+1):=.inr ⟨rfl,more,hup,by rw[hy];omega⟩
   have e:=up_dec ds (x+1) 17 _ _ hcv
   have h3:Rds (fw false n p) (t++zerosB j) (y+1)=true:=by
    rw[rds_is _ hX]
    apply decide_eq_true
    rw[e]
    exact this
   rwa [rds_zeros]at h3
  ·have hlo':LowD ds x 17 t y:=hlo
   have h2:=hhalf.2 hro
   have:=digits_near n p q k ds (x+1) hc hn hq hd 17 (valN 10 (padB ds 17).data.toList) (by omega) (by omega) hW (.inl ⟨by omega,by omega⟩)
   obtain⟨j,hpad,rfl,_⟩:=low_pad ds x 17 t y (by omega) (by omega) hf hlo'
   obtain⟨v,r,hvr⟩:=hv 17
   refine lea_low ds y _ 17 t y (by omega) hs hg hf hlo' ?_ v r hvr (fun _=>hro)
   have h3:Rds (fw false n p) (padB ds 17) (y+1)=true:=by
    rw[rds_is _ hX,padB_size]
    apply decide_eq_true
    exact this
   rwa [hpad,rds_zeros]at h3
end Go.Proofs.YtenbfookfcmpoaaGreatDoor
namespace Go.Proofs.YtenbfookfcmpoaaGreatDoor
open Go.ChangeShapes Go.WideShapes Go.RowKit
theorem last_list(s:ByteArray)(hs:s.size-1<s.size):s.data.toList=(s.extract 0 (s.size-1)).data.toList++[s[s.size-1]'hs]:=by
 have hlen:s.data.toList.length=s.size:=data_len s
 have hg:=get_data s _ hs
 generalize s[s.size-1]'hs=c at *
 rw[ext_list,List.drop_zero]
 apply List.ext_getElem?
 intro i
 rw[List.getElem?_append,List.length_take,List.getElem?_take]
 by_cases hi:i<s.size-1
 ·rw[if_pos (by omega),if_pos (by omega)]
 ·rw[if_neg (by omega)]
  by_cases h2:i=s.size-1
  ·subst h2
   rw[hg]
   simp[hlen]
  ·rw[List.getElem?_eq_none (by omega),List.getElem?_eq_none (by simp[hlen];omega)]
theorem trimR_ex(c:UInt8)(m:Nat):∀s:ByteArray,s.size=m→∃u,TrimR c s u:=by
 induction m with
 | zero=>exact fun s h=>⟨s,⟨0,by simp⟩,fun h'=>by omega⟩
 | succ m ih=>
  intro s h
  have hs:s.size-1<s.size:=by omega
  by_cases hc:(s[s.size-1]'hs).toNat=c.toNat
  ·obtain⟨u,⟨j,hj⟩,hu⟩:=ih (s.extract 0 (s.size-1)) (by rw[ByteArray.size_extract];omega)
   refine⟨u,⟨j+1,?_⟩,hu⟩
   rw[last_list s hs,hj,UInt8.toNat_inj.1 hc,List.append_assoc,List.replicate_succ']
  ·exact⟨s,⟨0,by simp⟩,fun _=>hc⟩
theorem high_ex(ds:ByteArray)(x:Int)(hg:good 10 ds.data.toList)(N:Nat):∃v r,HighD ds x N v r:=by
 obtain⟨u,hu⟩:=trimR_ex 57 _ (ds.extract 0 N) rfl
 by_cases h0:u.size=0
 ·exact⟨_,_,u,hu,.inl ⟨h0,rfl,rfl⟩⟩
 ·have hs:u.size-1<u.size:=by omega
  obtain⟨j,hj⟩:=hu.1
  have hgu:good 10 u.data.toList:=fun c hc=>good_take ds 0 N hg c (by rw[hj];exact List.mem_append_left _ hc)
  have hm:u[u.size-1]∈u.data.toList:=by
   have:=get_data u _ hs
   exact List.mem_of_getElem? this
  have hlt:u[u.size-1].toNat≤60:=by
   have:=(good_digit _ (hgu _ hm)).2.1
   omega
  refine⟨⟨((u.extract 0 (u.size-1)).data.toList++[UInt8.ofNat (u[u.size-1].toNat+1)]).toArray⟩,x,u,hu,.inr ⟨by omega,⟨UInt8.ofNat (u[u.size-1].toNat+1),fun _=>(UInt8.toNat_ofNat').trans ?_,rfl⟩,rfl⟩⟩
  exact Nat.mod_eq_of_lt (by omega)
theorem low_ok(ds:ByteArray)(x:Int)(n:Nat)(t:ByteArray)(y:Int)(hn:0<n)(hs:n≤ds.size)(hg:good 10 ds.data.toList)(hf:∀h:0<ds.size,ds[0].toNat≠48)(h:LowD ds x n t y):0<t.size∧t.size≤n∧good 10 t.data.toList∧y=x:=by
 obtain⟨j,hpad,rfl,h0,hj,_⟩:=low_pad ds x n t y hn hs hf h
 exact⟨h0,by omega,good_front t j (by rw[←hpad];exact padB_good ds n hg),rfl⟩
theorem high_ok(ds:ByteArray)(x:Int)(n:Nat)(t:ByteArray)(y:Int)(hn:0<n)(hs:n≤ds.size)(hg:good 10 ds.data.toList)(h:HighD ds x n t y):0<t.size∧t.size≤n∧good 10 t.data.toList∧x≤y∧y≤x+1:=by
 obtain⟨j,more,hup,hy,h0,hj,hm,_⟩:=high_pad ds x n t y hs hg h
 refine⟨h0,?_,good_front t j hup.1,?_,?_⟩
 ·cases more
  ·simp at hj;omega
  ·have:=hm rfl;omega
 ·rw[hy];split<;>omega
 ·rw[hy];split<;>omega
theorem lea_round(ds:ByteArray)(x:Int)(X n:Nat)(hn:0<n)(hns:n<ds.size)(hg:good 10 ds.data.toList)(hf:∀h:0<ds.size,ds[0].toNat≠48)(tl:ByteArray)(yl:Int)(th:ByteArray)(yh:Int)(hlo:LowD ds x n tl yl)(hhi:HighD ds x n th yh)
  (a:ByteArray) (ya:Int) (b:ByteArray) (yb:Int) (hab:(roundsB ds (n:Int)=true∧a=th∧ya=yh∧b=tl∧yb=yl)∨(roundsB ds (n:Int)=false∧a=tl∧ya=yl∧b=th∧yb=yh)) :
  (0<a.size∧a.size≤n∧good 10 a.data.toList∧x≤ya∧ya≤x+1)∧(0<b.size∧b.size≤n∧good 10 b.data.toList∧x≤yb∧yb≤x+1)
  ∧ (Rds X a (ya+1)=true→LeaI ds x X a ya)∧(Rds X a (ya+1)=false→Rds X b (yb+1)=true→LeaI ds x X b yb)
  ∧ (Rds X a (ya+1)=false→Rds X b (yb+1)=false→∃u z v r,LowD ds x n u z∧HighD ds x n v r∧Rds X u (z+1)=false∧Rds X v (r+1)=false):=by
 obtain⟨l1,l2,l3,l4⟩:=low_ok ds x n tl yl hn (by omega) hg hf hlo
 have hh:=high_ok ds x n th yh hn (by omega) hg hhi
 have hl:0<tl.size∧tl.size≤n∧good 10 tl.data.toList∧x≤yl∧yl≤x+1:=⟨l1,l2,l3,by omega,by omega⟩
 rcases hab with⟨hr,rfl,rfl,rfl,rfl⟩|⟨hr,rfl,rfl,rfl,rfl⟩
 ·exact⟨hh,hl,fun h=>lea_high ds x X n a ya hn hns hg hhi h fun _=>hr,fun h1 h2=>lea_low ds x X n b yb hn hns hg hf hlo h2 a ya hhi (fun h=>by rw[h1]at h;cases h),
   fun h1 h2=>⟨_,_,_,_,hlo,hhi,h2,h1⟩⟩
 ·refine⟨hl,hh,fun h=>lea_low ds x X n a ya hn hns hg hf hlo h b yb hhi fun _=>hr,fun h1 h2=>lea_high ds x X n b yb hn hns hg hhi h2 fun h=>?_,fun h1 h2=>⟨_,_,_,_,hlo,hhi,h1,h2⟩⟩
  obtain⟨j,hpad,_⟩:=low_pad ds x n a ya hn (by omega) hf hlo
  rw[hpad,rds_zeros,←l4,h1]at h
  cases h
end Go.Proofs.YtenbfookfcmpoaaGreatDoor
namespace Go.Proofs.YtenbfookfcmpoaaGreatDoor
open Go.RowKit
theorem frac_len{b:Nat}{s:ByteArray}{k p j:Nat}{ds:ByteArray}{e:Int}(hr:Run b s k p)(hf:Frac b s k p (some (ds,e,j))) :
  good (b:Int) ds.data.toList∧ds.data.toList.length≤s.size∧-(s.size:Int)≤e∧e≤0∧j≤s.size:=by
 rcases hf with⟨_,h⟩|⟨_,i,hi,⟨_,h⟩|⟨hl,h⟩⟩
 ·obtain⟨rfl,rfl,rfl⟩:ds=s.extract k p∧e=0∧j=p:=by simpa using h
  have hz:=extract_len s k j hr.2.1
  have:=hr.2.1
  exact⟨run_good b s k j hr,by omega,by omega,by omega,by omega⟩
 ·cases h
 ·obtain⟨rfl,rfl,rfl⟩:ds=s.extract k p++s.extract (p+1) i∧e = -((i-(p+1):Nat):Int)∧j=i:=by simpa using h
  have h1:=run_good b s k p hr
  have h2:=run_good b s (p+1) j hi
  have z1:=extract_len s k p hr.2.1
  have z2:=extract_len s (p+1) j hi.2.1
  have e1:(s.extract k p++s.extract (p+1) j).data.toList=(s.extract k p).data.toList++(s.extract (p+1) j).data.toList:=by simp
  have:=hi.2.1
  have:=hr.1
  rw[e1]
  refine⟨fun c hc=>?_,?_,by omega,by omega,by omega⟩
  ·rcases List.mem_append.1 hc with h|h
   ·exact h1 c h
   ·exact h2 c h
  ·rw[List.length_append,z1,z2];omega
theorem fin_word{b:Nat}(hb:b=10∨b=16){s ds:ByteArray}{e P n:Int}{V beh:Nat}(neg:Bool)(hs:s.size≤1200)(hg:good (b:Int) ds.data.toList)(hl:ds.data.toList.length≤s.size)(he:-(s.size:Int)≤e)(he':e≤0)
  (hV:V=valN b ds.data.toList) (hbe:e = -(beh:Int)) (hP:P=n∨(100000≤P∧n=100000)∨(P≤-100000∧n = -100000)) :
  signBit neg+(if b=16 then quoW V 1 (P-4*(beh:Int)).toNat (-(P-4*(beh:Int))).toNat else decW 10 V (P-(beh:Int)))=flW neg b ds (expOf b e+n):=by
 have hlt:=valN_good_lt b _ hg
 rw[←hV]at hlt
 unfold flW expOf
 rcases hb with rfl|rfl
 ·rw[if_neg (by omega),if_neg (by omega),if_neg (by omega),←hV]
  have:=dec_far V _ e P n hlt (by omega) (by omega) he' hP
  rw[←this,hbe]
  congr 2
 ·rw[if_pos rfl,if_pos rfl,if_pos rfl,←hV,quo_hex]
  have h2:V<2 ^ (4*ds.data.toList.length):=by rw[Nat.pow_mul];exact hlt
  have:=fw_far V _ (4*e) P n h2 (by omega) (by omega) (by omega) hP
  rw[←this,hbe]
  congr 2
  omega
theorem flo_some{s:ByteArray}(hs:s.size≤1200){fl:Nat→Prop}{a j:Nat}(h:Flo s fl (some a) j):ReadA s false (a:Int) (· = 0):=by
 obtain⟨neg,k,hsg,h⟩:=h
 refine .inr ⟨hs,neg,k,hsg,?_⟩
 rcases h with⟨nan,h0,⟨i,hi,hm,rfl,h⟩,_⟩|⟨h1,h2,b,k1,x,hb,hbas,hf,_⟩
 ·left
  rcases h with⟨h3,h4,h5⟩|⟨_,h5⟩
  ·obtain rfl:=Option.some.inj h5
   exact⟨nan,h0,i,hi,hm,.inl ⟨h3,h4,rfl,rfl,rfl⟩⟩
  ·cases h5
 ·right
  refine⟨h1,h2,b,k1,?_⟩
  obtain⟨V,beh,r1,j1,hd,⟨a',rfl,h,_⟩|⟨rfl,P,r2,hp,⟨a',rfl,h⟩|⟨_,h,_⟩⟩⟩:=hf
  ·obtain rfl:=Option.some.inj h
   rcases fin_some hd with⟨hr,rfl⟩|⟨p,hr,hk,hfr,rfl⟩
   ·exact⟨_,hbas,hr,.inl ⟨rfl,rfl,rfl,rfl⟩⟩
   ·exact⟨_,hbas,hr,.inr ⟨hk,none,hfr,.inl ⟨rfl,rfl,rfl,rfl⟩⟩⟩
  ·obtain rfl:=Option.some.inj h
   obtain⟨p,ds,e,hr,hk,hfr,_,_⟩:=fin_none hd
   exact⟨_,hbas,hr,.inr ⟨hk,_,hfr,.inr ⟨ds,e,j1,_,rfl,pow_some hp,.inl ⟨_,rfl,rfl,rfl,rfl⟩⟩⟩⟩
  ·cases h
theorem flo_none{s:ByteArray}(hs:s.size≤1200){fl:Nat→Prop}{j:Nat}(h:Flo s fl none j) :
  (j<s.size→ReadA s false (j:Int) (· = 0))∧(¬j<s.size→ReadA s true 0 fl):=by
 obtain⟨neg,k,hsg,h⟩:=h
 rcases h with⟨nan,h0,⟨i,hi,hm,rfl,h⟩,hfl⟩|⟨h1,h2,b,k1,x,hb,hbas,hf,hfl⟩
 ·rcases h with⟨_,_,h5⟩|⟨rfl,_⟩
  ·cases h5
  ·exact⟨fun hj=>.inr ⟨hs,neg,k,hsg,.inl ⟨nan,h0,3,hi,hm,.inr (.inl ⟨rfl,hj,rfl,rfl,rfl⟩)⟩⟩,
    fun hj=>.inr ⟨hs,neg,k,hsg,.inl ⟨nan,h0,3,hi,hm,.inr (.inr ⟨rfl,hj,rfl,rfl,hfl⟩)⟩⟩⟩
 ·obtain⟨V,beh,r1,j1,hd,⟨a',_,h,_⟩|⟨rfl,P,r2,hp,⟨a',_,h⟩|⟨rfl,_,hx⟩⟩⟩:=hf
  ·cases h
  ·cases h
  ·obtain⟨p,ds,e,hr,hk,hfr,hV,he⟩:=fin_none hd
   obtain⟨n,hex,hP⟩:=pow_none hp
   obtain⟨g1,g2,g3,g4,_⟩:=frac_len hr hfr
   refine⟨fun hj=>.inr ⟨hs,neg,k,hsg,.inr ⟨h1,h2,b,k1,p,hbas,hr,.inr ⟨hk,_,hfr,.inr ⟨ds,e,j1,_,rfl,hex,.inr ⟨n,j,rfl,.inl ⟨hj,rfl,rfl,rfl⟩⟩⟩⟩⟩⟩,
    fun hj=>.inr ⟨hs,neg,k,hsg,.inr ⟨h1,h2,b,k1,p,hbas,hr,.inr ⟨hk,_,hfr,.inr ⟨ds,e,j1,_,rfl,hex,.inr ⟨n,j,rfl,.inr ⟨hj,rfl,rfl,?_⟩⟩⟩⟩⟩⟩⟩
   rw[hfl,hx,fin_word hb neg hs g1 g2 g3 g4 hV he hP]
theorem flo_lt{s:ByteArray}(hs:s.size≤1200){fl:Nat→Prop}{j x:Nat}(h:Flo s fl none j)(hx:fl x)(hn:fl=IsNan→x<18446744073709551616):x<18446744073709551616:=by
 obtain⟨neg,k,hsg,h⟩:=h
 rcases h with⟨nan,h0,_,hfl⟩|⟨h1,h2,b,k1,y,hb,hbas,hf,hfl⟩
 ·cases nan
  ·rw[hfl]at hx
   have:x=iw neg:=hx
   rw[this]
   cases neg<;>decide
  ·exact hn hfl
 ·obtain⟨V,beh,r1,j1,hd,⟨a',_,h,_⟩|⟨rfl,P,r2,hp,⟨a',_,h⟩|⟨rfl,_,hy⟩⟩⟩:=hf
  ·cases h
  ·cases h
  ·obtain⟨p,ds,e,hr,hk,hfr,hV,he⟩:=fin_none hd
   obtain⟨n,hex,hP⟩:=pow_none hp
   obtain⟨g1,g2,g3,g4,_⟩:=frac_len hr hfr
   rw[hfl]at hx
   have hx':x=y:=hx
   rw[hx',hy,fin_word hb neg hs g1 g2 g3 g4 hV he hP]
   exact flW_lt _ _ _ _
end Go.Proofs.YtenbfookfcmpoaaGreatDoor
namespace Go.Proofs.YtenbfookfcmpoaaGreatDoor
open Go.ChangeShapes Go.WideShapes Go.RowKit
def AllQ(s:ByteArray)(r:Option Nat)(x:Nat):Prop:=
 (∃a:Nat,r=some a∧ReadA s false (a:Int) (· = 0))∨(r=none∧∃fl,ReadA s true 0 fl∧fl x∧x<18446744073709551616)
theorem nil_eq(w:World):(binOp .eql 129 .nilIface .nilIface).run Tryz.prog w=.ok (.bool true) w:=by kernel_rfl
theorem bo_eq(v:Value)(w:World):(binOp .eql 129 (.iface 133 v) .nilIface).run Tryz.prog w=.ok (.bool false) w:=by kernel_rfl
set_option maxHeartbeats 2000000 in
set_option maxRecDepth 100000 in
theorem readAll_any(s:ByteArray)(w:World) :
  Calls Tryz.prog 70 #[.string s] w fun e w'=>∃r x,AllQ s r x∧e=.returned (.tuple #[.float .f64 x,errV r])∧Below w.heap.size w w':=by
 by_cases hs:1200<s.size
 ·have hs':(1200:Int)<(s.size:Int):=by omega
  go_enter Tryz.func70,Tryz.ntmps70
  go_wp2
  go_ret2
  exact⟨some 1200,0,.inl ⟨1200,rfl,.inl ⟨hs,rfl,rfl,rfl⟩⟩,rfl,Below.refl _ _⟩
 ·have hs':(s.size:Int)≤1200:=by omega
  have HS:Hid (s.size≤1200):=Nat.le_of_not_lt hs
  clear hs
  have HB:Hid (Below w.heap.size w (w.alloc (.cells #[.string s,.int .i64 0] 92))):=(Below.refl _ w).alloc (by simp) _
  have HF:Hid _:=fun(_:Unit)=>rfloat_any w.heap.size s (w.alloc (.cells #[.string s,.int .i64 0] 92)) (by show(w.heap.push _)[w.heap.size]? = some _;simp) HS.out
  go_enter Tryz.func70,Tryz.ntmps70
  go_wp2_with fail
  refine(HF.out ()).mono ?_
  rintro e w1 ⟨fl,r,j,x,hflo,hx,hnn,hj,rfl,hr,hm⟩
  have HM:Hid (Below w.heap.size w w1):=HB.out.trans (hm.below (Nat.le_refl _) (by simp))
  have hc:=hr.at_
  have hl:=hr.lt
  clear hr hm HF HB
  cases r with
  | some a=>
   have HA:Hid (ReadA s false (a:Int) (· = 0)):=flo_some HS.out hflo
   have he:=bo_eq (.agg #[.int .i64 (a:Int)])
   clear hflo hx hnn hj
   rw[err_some]
   go_wp2
   go_ret2
   exact⟨some a,x,.inl ⟨a,rfl,HA.out⟩,rfl,HM.out⟩
  | none=>
   have he:=nil_eq
   have hx:=hx rfl
   have HL:Hid (x<18446744073709551616):=flo_lt HS.out hflo hx hnn
   obtain⟨h1,h2⟩:=flo_none HS.out hflo
   have HX:Hid (fl x):=hx
   clear hx hnn hflo
   rw[err_none]
   by_cases hl:j<s.size
   ·have hl':(j:Int)<(s.size:Int):=by omega
    have HA:Hid (ReadA s false (j:Int) (· = 0)):=h1 hl
    clear h1 h2 hl
    go_wp2
    go_quiet (fail)
    go_wp2
    go_ret2
    exact⟨some j,0,.inl ⟨j,rfl,HA.out⟩,rfl,below_drewN HM.out _⟩
   ·have hl':decide (j<s.size)=false:=decide_eq_false hl
    have HA:Hid (ReadA s true 0 fl):=h2 hl
    clear h1 h2 hl
    go_wp2
    go_ret2
    exact⟨none,x,.inr ⟨rfl,fl,HA.out,HX.out,HL.out⟩,rfl,HM.out⟩
attribute [local go_sem] run_store_float
set_option maxHeartbeats 2000000 in
set_option maxRecDepth 100000 in
theorem implRead_of(s:ByteArray)(w:World)(h:(Handle w∧2<w.heap.size)∨∀ok pl fl,ReadA s ok pl fl→ok=true) :
  Calls Tryz.prog 31 #[.string s] w (ReadQ s w):=by
 have HH:Hid ((Handle w∧2<w.heap.size)∨∀ok pl fl,ReadA s ok pl fl→ok=true):=h
 have HA:Hid _:=fun(w:World)=>readAll_any s w
 have HB0:Hid (Below w.heap.size w (w.alloc (.cells #[.bool false,.int .i64 0,.float .f64 0] 73))):=(Below.refl _ w).alloc (Nat.le_refl _) _
 clear h
 go_enter Tryz.func31,Tryz.ntmps31
 go_wp2_with fail
 refine(HA.out _).mono ?_
 rintro e w1 ⟨r,x,hq,rfl,hb⟩
 have hz:w.heap.size<w1.heap.size:=by have:=hb.size;simp at this;omega
 have HB1:Hid (Below w.heap.size w w1):=HB0.out.trans (hb.mono (by simp))
 have r0:w1.cell? ⟨w.heap.size,0,none⟩=some (.bool false):=by rw[hb.cell (by simp)];simp
 have r1:w1.cell? ⟨w.heap.size,1,none⟩=some (.int .i64 0):=by rw[hb.cell (by simp)];simp
 have r2:w1.cell? ⟨w.heap.size,2,none⟩=some (.float .f64 0):=by rw[hb.cell (by simp)];simp
 have f0:w1.frozen? ⟨w.heap.size,0,none⟩=false:=by rw[hb.frozen (by simp)];simp
 have f1:w1.frozen? ⟨w.heap.size,1,none⟩=false:=by rw[hb.frozen (by simp)];simp
 have f2:w1.frozen? ⟨w.heap.size,2,none⟩=false:=by rw[hb.frozen (by simp)];simp
 clear hb HA HB0
 rcases hq with⟨a,rfl,hra⟩|⟨rfl,fl,hra,hx,hlt⟩
 ·have hg:Handle w1∧2<w1.heap.size:=by
   rcases HH.out with⟨h1,h2⟩|h
   ·exact⟨h1.below h2 HB1.out,by omega⟩
   ·cases h _ _ _ hra
  have HS:Hid _:=fun(_:Unit)=>as_place (a:Int) w1.heap.size (.int .i64 0) (w1.alloc (.cells #[.int .i64 0] 133)) (hg.1.alloc hg.2 _) (by simp<;>omega) (by simp) (by simp)
  have HRA:Hid (ReadA s false (a:Int) (· = 0)):=hra
  clear hg hra HH
  rw[err_some]
  go_wp2_with fail
  refine(HS.out ()).mono ?_
  rintro e w2 ⟨rfl,hc,hm⟩
  have q0:w2.cell? ⟨w.heap.size,0,none⟩=some (.bool false):=by rw[hm.cell (by simp;omega) (by simp;omega),World.cell?_alloc_lt _ _ _ (by simpa using hz)];exact r0
  have q1:w2.cell? ⟨w.heap.size,1,none⟩=some (.int .i64 0):=by rw[hm.cell (by simp;omega) (by simp;omega),World.cell?_alloc_lt _ _ _ (by simpa using hz)];exact r1
  have q2:w2.cell? ⟨w.heap.size,2,none⟩=some (.float .f64 0):=by rw[hm.cell (by simp;omega) (by simp;omega),World.cell?_alloc_lt _ _ _ (by simpa using hz)];exact r2
  have g0:w2.frozen? ⟨w.heap.size,0,none⟩=false:=by rw[hm.frozen (by simp;omega) (by simp;omega),World.frozen?_alloc_old _ _ _ (by simp;omega)];exact f0
  have g1:w2.frozen? ⟨w.heap.size,1,none⟩=false:=by rw[hm.frozen (by simp;omega) (by simp;omega),World.frozen?_alloc_old _ _ _ (by simp;omega)];exact f1
  have g2:w2.frozen? ⟨w.heap.size,2,none⟩=false:=by rw[hm.frozen (by simp;omega) (by simp;omega),World.frozen?_alloc_old _ _ _ (by simp;omega)];exact f2
  have HB2:Hid (Below w.heap.size w w2):=(HB1.out.alloc (by omega) _).trans (hm.below (by omega) (by simp;omega))
  clear hm HS r0 r1 r2 f0 f1 f2 HB1 hz
  go_wp2
  exact bodyPost_ret (v:=.agg #[.bool false,.int .i64 (a:Int),.float .f64 0]) (by simp[results,Tryz.results31,go_sem,q0,q1,q2]) rfl ⟨false,_,_,0,HRA.out,rfl,by omega,rfl,(by repeat (first|exact HB2.out|refine Below.drew ?_|refine Below.setCell ?_ (by simp) _))⟩
 ·have HRA:Hid (ReadA s true 0 fl∧fl x∧x<18446744073709551616):=⟨hra,hx,hlt⟩
  clear hra hx hlt HH
  rw[err_none]
  go_wp2_with fail
  refine(as_none _ _).mono ?_
  rintro e w2 ⟨rfl,rfl⟩
  have q0:(w1.alloc (.cells #[.int .i64 0] 133)).cell? ⟨w.heap.size,0,none⟩=some (.bool false):=by rw[World.cell?_alloc_lt _ _ _ (by simpa using hz)];exact r0
  have q1:(w1.alloc (.cells #[.int .i64 0] 133)).cell? ⟨w.heap.size,1,none⟩=some (.int .i64 0):=by rw[World.cell?_alloc_lt _ _ _ (by simpa using hz)];exact r1
  have q2:(w1.alloc (.cells #[.int .i64 0] 133)).cell? ⟨w.heap.size,2,none⟩=some (.float .f64 0):=by rw[World.cell?_alloc_lt _ _ _ (by simpa using hz)];exact r2
  have g0:(w1.alloc (.cells #[.int .i64 0] 133)).frozen? ⟨w.heap.size,0,none⟩=false:=by rw[World.frozen?_alloc_old _ _ _ (by simp;omega)];exact f0
  have g1:(w1.alloc (.cells #[.int .i64 0] 133)).frozen? ⟨w.heap.size,1,none⟩=false:=by rw[World.frozen?_alloc_old _ _ _ (by simp;omega)];exact f1
  have g2:(w1.alloc (.cells #[.int .i64 0] 133)).frozen? ⟨w.heap.size,2,none⟩=false:=by rw[World.frozen?_alloc_old _ _ _ (by simp;omega)];exact f2
  have HB2:Hid (Below w.heap.size w (w1.alloc (.cells #[.int .i64 0] 133))):=HB1.out.alloc (by omega) _
  clear r0 r1 r2 f0 f1 f2 HB1
  generalize w1.alloc (.cells #[.int .i64 0] 133)=w2 at *
  go_wp2
  exact bodyPost_ret (v:=.agg #[.bool true,.int .i64 0,.float .f64 x]) (by simp[results,Tryz.results31,go_sem,q0,q1,q2]) rfl ⟨true,_,_,x,HRA.out.1,HRA.out.2.1,HRA.out.2.2,rfl,(by repeat (first|exact HB2.out|refine Below.drew ?_|refine Below.setCell ?_ (by simp) _|refine Below.alloc ?_ (by simp<;>omega) _))⟩
attribute [local go_sem] run_store_float
def CloB(w:World)(A:Nat)(t:ByteArray)(y:Int)(p:Addr)(X:Nat)(W:World):Prop:=Below w.heap.size w W∧W.cell? ⟨A,0,none⟩=some (.string t)∧W.cell? ⟨A,1,none⟩=some (.int .i64 y)∧W.cell? p=some (.float .f64 X)
theorem CloB.drew{w W:World}{A:Nat}{t:ByteArray}{y:Int}{p:Addr}{X:Nat}(h:CloB w A t y p X W):CloB w A t y p X W.drew:=⟨h.1.drew,h.2⟩
theorem CloB.next{w W W':World}{A:Nat}{t:ByteArray}{y:Int}{p:Addr}{X:Nat}(h:CloB w A t y p X W)(hb:Below W.heap.size W W'):CloB w A t y p X W':=by
 obtain⟨h1,h2,h3,h4⟩:=h
 exact⟨h1.trans (hb.mono h1.size),(hb.cell (lt_cell h2)).trans h2,(hb.cell (lt_cell h3)).trans h3,(hb.cell (lt_cell h4)).trans h4⟩
theorem CloB.new{w:World}{t:ByteArray}{y:Int}{p:Addr}{X:Nat}(hc:w.cell? p=some (.float .f64 X)):CloB w w.heap.size t y p X (w.alloc (.cells #[.string t,.int .i64 y] 69)):=by
 have hb:Below w.heap.size w (w.alloc (.cells #[.string t,.int .i64 y] 69)):=(Below.refl _ _).alloc (Nat.le_refl _) _
 exact⟨hb,by simp[go_sem],by simp[go_sem],(hb.cell (lt_cell hc)).trans hc⟩
set_option maxHeartbeats 4000000 in
set_option maxRecDepth 100000 in
theorem clo_any(t:ByteArray)(y:Int)(p:Addr)(X:Nat)(h0:0<t.size)(hs:t.size≤100)(hg:good 10 t.data.toList)(hy:-1500≤y)(hy':y≤1500)(w:World)(hG:WrG w)(hc:w.cell? p=some (.float .f64 X)) :
  Calls Tryz.prog 30 #[.agg #[.string t,.int .i64 y],.pointer (some p)] w fun e w'=>e=.returned (.bool (Rds X t (y+1)))∧Below w.heap.size w w':=by
 obtain⟨A,hA⟩:∃A,w.heap.size=A:=⟨_,rfl⟩
 obtain⟨W2,hW2⟩:∃W2,w.alloc (.cells #[.string t,.int .i64 y] 69)=W2:=⟨_,rfl⟩
 have HX2:Hid (CloB w A t y p X W2):=by rw[←hW2,←hA];exact CloB.new hc
 obtain⟨D,hD⟩:∃D,decW 10 (valN 10 t.data.toList) (y+1-(t.size:Int))=D:=⟨_,rfl⟩
 obtain⟨B,hB⟩:∃B,Rds X t (y+1)=B:=⟨_,rfl⟩
 have hB':(FloatKind.f64.format.order D X==some .eq)=B:=by rw[←hB,←hD];rfl
 have HG:Hid (WrG w):=hG
 have HF:Hid (∀W,CloB w A t y p X W→Calls Tryz.prog 32 #[.agg #[.string t,.int .i64 y]] W fun r w'=>∃ty v fn,Hid ((∀w,(Go.method 407 ty v "loop.example/grain/impl.write").run Tryz.prog w=.ok (fn,v) w)∧(∀args w,(callFunc fn args).run Tryz.prog w=.ok (.enter fn args) w)∧∀W,CloB w A t y p X W→Calls Tryz.prog fn #[v] W fun r w'=>r=.returned (.string (shortB t (y+1)))∧Hid (CloB w A t y p X w'))∧r=.returned (.iface ty v)∧Hid (CloB w A t y p X w')):=fun W hW=>by
  refine(shortForm_any t y (by omega) (by omega) (by omega) W).mono ?_
  rintro r w' ⟨F,hF,rfl,hb⟩
  obtain⟨ty,v,fn,rfl,hm,he,hw⟩:=shF_writes t y F hF h0 (by omega) (by omega) (by omega)
  refine⟨ty,v,fn,⟨hm,he,fun W' hW'=>?_⟩,rfl,hW.next hb⟩
  refine(hw W' (HG.out.below hW'.1)).mono ?_
  rintro r w' ⟨rfl,hb⟩
  exact⟨rfl,hW'.next hb⟩
 have HR:Hid (∀W,CloB w A t y p X W→Calls Tryz.prog 31 #[.string (shortB t (y+1))] W fun r w'=>r=.returned (.agg #[.bool true,.int .i64 0,.float .f64 D])∧Hid (CloB w A t y p X w')):=fun W hW=>by
  have hr:=read_short t (y+1) h0 hs hg (by omega) (by omega)
  refine(implRead_of (shortB t (y+1)) W (.inr fun ok pl fl h=>(readA_one h hr).1)).mono ?_
  rintro r w' ⟨ok,pl,fl,x,hra,hx,_,rfl,hb⟩
  obtain⟨rfl,rfl,rfl⟩:=readA_one hra hr
  have hx':x=D:=by rw[←hD];exact hx
  exact⟨by rw[hx'],hW.next hb⟩
 have hfd:∀w:World,(Instr.field 73 (.agg #[.bool true,.int .i64 0,.float .f64 D]) 2).run Tryz.prog w=.ok (.float .f64 D) w:=fun _=>by kernel_rfl
 have hc0:=HX2.out.2.1
 have hc1:=HX2.out.2.2.1
 have hc2:=HX2.out.2.2.2
 clear hD hG h0 hg hc
 go_enter Tryz.func30,Tryz.ntmps30
 go_wp2
 refine wp_region_held_drew (S:=fun X'=>CloB w A t y p X X') (by kernel_rfl) HX2.out.drew (fun hHeld=>?_)
 refine tkH 0 ?v0 rfl ?_ ?y0
 case y0=>(intro w' hSw;obtain⟨_,y0,y1,y2⟩:=hSw;go_simp;first|done|with_reducible rfl)
 refine tkH 5 ?v5 rfl ?_ ?y5
 case y5=>(intro w' hSw;obtain⟨_,y0,y1,y2⟩:=hSw;go_simp;first|done|with_reducible rfl)
 have HXd:Hid (CloB w A t y p X W2.drew):=HX2.out.drew
 generalize W2.drew=W3 at *
 refine rdH 1 rfl (fun K hK=>?_)
 go_simp
 refine(HF.out _ HXd.out).mono ?_
 rintro r W4 ⟨ty,v,fn,HMW,rfl,HX4⟩
 dsimp only
 refine hK.out _ _ HX4.out (fun hHeld=>?_)
 clear hK K
 try simp only[Act.put]
 try simp only[List.setIfInBounds_toArray]
 try simp only[List.set_cons_succ]
 try simp only[List.set_cons_zero]
 have hm:=HMW.out.1
 have he:=HMW.out.2.1
 refine rdH 2 rfl (fun K hK=>?_)
 go_simp
 refine(HMW.out.2.2 _ HX4.out).mono ?_
 rintro r W5 ⟨rfl,HX5⟩
 dsimp only
 refine hK.out _ _ HX5.out (fun hHeld=>?_)
 clear hK K
 try simp only[Act.put]
 try simp only[List.setIfInBounds_toArray]
 try simp only[List.set_cons_succ]
 try simp only[List.set_cons_zero]
 clear hm he
 refine rdH 3 rfl (fun K hK=>?_)
 go_simp
 refine(HR.out _ HX5.out).mono ?_
 rintro r W6 ⟨rfl,HX6⟩
 dsimp only
 refine hK.out _ _ HX6.out (fun hHeld=>?_)
 clear hK K
 refine nmH ?_
 refine tkH 4 ?v4 rfl ?_ ?y4
 case y4=>(intro w' hSw;obtain⟨_,y0,y1,y2⟩:=hSw;go_simp;first|done|with_reducible rfl)
 refine tkH 6 ?v6 rfl ?_ ?y6
 case y6=>(intro w' hSw;obtain⟨_,y0,y1,y2⟩:=hSw;go_simp;first|done|with_reducible rfl)
 refine rdH 7 rfl (fun K hK=>?_)
 go_simp
 refine hK.out _ _ HX6.out (fun hHeld=>?_)
 clear hK K
 refine wpAnyH_done (by kernel_rfl) ?_ _
 go_wp2
 go_ret
 exact⟨by rw[hB];rfl,HX6.out.1⟩
def LdSt(w:World)(H L:Nat)(ds:ByteArray)(x:Int)(p:Addr)(X:Nat)(t:ByteArray)(y:Int)(W:World):Prop:=
 Below w.heap.size w W∧W.cell? ⟨H,0,none⟩=some (.string ds)∧W.cell? ⟨H,1,none⟩=some (.int .i64 x)
 ∧ (W.cell? ⟨H+1,0,none⟩=some (.string ⟨#[]⟩)∧W.cell? ⟨H+1,1,none⟩=some (.int .i64 0)∧W.frozen? ⟨H+1,0,none⟩=false∧W.frozen? ⟨H+1,1,none⟩=false)
 ∧ (W.cell? ⟨L,0,none⟩=some (.string t)∧W.cell? ⟨L,1,none⟩=some (.int .i64 y)∧W.frozen? ⟨L,0,none⟩=false∧W.frozen? ⟨L,1,none⟩=false)
 ∧ W.cell? p=some (.float .f64 X)
theorem LdSt.next{w:World}{H L:Nat}{ds:ByteArray}{x:Int}{p:Addr}{X:Nat}{t:ByteArray}{y:Int}{W W':World}(h:LdSt w H L ds x p X t y W)(hb:Below W.heap.size W W'):LdSt w H L ds x p X t y W':=by
 obtain⟨h1,h2,h3,⟨r1,r2,r3,r4⟩,⟨l1,l2,l3,l4⟩,h4⟩:=h
 exact⟨h1.trans (hb.mono h1.size),(hb.cell (lt_cell h2)).trans h2,(hb.cell (lt_cell h3)).trans h3,
  ⟨(hb.cell (lt_cell r1)).trans r1,(hb.cell (lt_cell r2)).trans r2,(hb.frozen (p:=⟨H+1,0,none⟩) (lt_cell r1)).trans r3,(hb.frozen (p:=⟨H+1,1,none⟩) (lt_cell r2)).trans r4⟩,
  ⟨(hb.cell (lt_cell l1)).trans l1,(hb.cell (lt_cell l2)).trans l2,(hb.frozen (p:=⟨L,0,none⟩) (lt_cell l1)).trans l3,(hb.frozen (p:=⟨L,1,none⟩) (lt_cell l2)).trans l4⟩,(hb.cell (lt_cell h4)).trans h4⟩
theorem LdSt.store{w:World}{H L:Nat}{ds:ByteArray}{x:Int}{p:Addr}{X:Nat}{t:ByteArray}{y:Int}{W:World}(h:LdSt w H L ds x p X t y W)(hL:H+1<L)(hw:w.heap.size≤L)(hp:p.block<w.heap.size)(t':ByteArray)(y':Int) :
  LdSt w H L ds x p X t' y' ((W.setCell ⟨L,0,none⟩ (.string t')).setCell ⟨L,1,none⟩ (.int .i64 y')):=by
 obtain⟨h1,h2,h3,⟨r1,r2,r3,r4⟩,⟨l1,l2,l3,l4⟩,h4⟩:=h
 have hb:Below L W ((W.setCell ⟨L,0,none⟩ (.string t')).setCell ⟨L,1,none⟩ (.int .i64 y')):=by
  refine Below.setCell (Below.setCell (Below.refl _ _) ?_ _) ?_ _<;>exact Nat.le_refl L
 exact⟨h1.trans (hb.mono hw),(hb.cell (by show H<L;omega)).trans h2,(hb.cell (by show H<L;omega)).trans h3,
  ⟨(hb.cell (by show H+1<L;omega)).trans r1,(hb.cell (by show H+1<L;omega)).trans r2,(hb.frozen (p:=⟨H+1,0,none⟩) (by show H+1<L;omega)).trans r3,(hb.frozen (p:=⟨H+1,1,none⟩) (by show H+1<L;omega)).trans r4⟩,
  ⟨by simp[go_sem,l1],by simp[go_sem,l2],by simp[go_sem,l3],by simp[go_sem,l4]⟩,(hb.cell (by omega)).trans h4⟩
set_option maxHeartbeats 4000000 in
set_option maxRecDepth 100000 in
theorem leastDigits_any(ds:ByteArray)(x:Int)(p:Addr)(X:Nat)(hs:ds.size≤1200)(hx:-1200≤x)(hx':x≤1200)(hg:good 10 ds.data.toList)(hf:∀h:0<ds.size,ds[0].toNat≠48)
  (hX:X≤9218868437227405312) (hr:Rds X ds (x+1)=true) (hst:∀t y,RndD ds x 17 t y→LeaI ds x X t y∧t.size≤17∧x≤y∧y≤x+1) (w:World) (hG:WrG w) (hc:w.cell? p=some (.float .f64 X)) :
  Calls Tryz.prog 29 #[.agg #[.string ds,.int .i64 x],.func (.func 30) #[] #[.pointer (some p)]] w fun e w'=>
   ∃t y d,LeastD ds (x+1) X d (y+1)∧TrimD d t∧t.size≤17∧-1201≤y∧y≤1201∧e=.returned (.agg #[.string t,.int .i64 y])∧Below w.heap.size w w':=by
 have HG:Hid (WrG w):=hG
 have HR:Hid _:=fun(w:World)=>round_any ds x 17 (by omega) (by omega) (by omega) hg w
 have HA:Hid _:=fun(n:Nat) (h:n<ds.size) (w:World)=>around_any ds x n (by omega) (by omega) (by omega) h hg w
 have HF:Hid ((∀h:0<ds.size,ds[0].toNat≠48)∧X≤9218868437227405312∧Rds X ds (x+1)=true∧good 10 ds.data.toList∧∀t y,RndD ds x 17 t y→LeaI ds x X t y∧t.size≤17∧x≤y∧y≤x+1):=⟨hf,hX,hr,hg,hst⟩
 have HC:Hid (w.cell? p=some (.float .f64 X)):=hc
 obtain⟨H,hH⟩:∃H,w.heap.size=H:=⟨_,rfl⟩
 clear hf hX hr hst hg hG hc
 go_enter Tryz.func29,Tryz.ntmps29
 go_wp2_with fail
 refine(HR.out _).mono ?_
 rintro e W1 ⟨t,y,ht,rfl,hb1⟩
 obtain⟨L,hL⟩:∃L,W1.heap.size=L:=⟨_,rfl⟩
 have hHL:H+1<L:=by have:=hb1.size;simp at this;omega
 obtain⟨W2,hW2⟩:∃W2,W1.alloc (.cells #[.string t,.int .i64 y] 69)=W2:=⟨_,rfl⟩
 have HS2:Hid (LdSt w H L ds x p X t y W2):=by
  have hb2:Below L W1 W2:=by rw[←hW2,←hL];exact(Below.refl _ _).alloc (Nat.le_refl _) _
  have q1:=(hb1.cell (p:=⟨H,0,none⟩) (by simp<;>omega)).trans (by simp[go_sem,←hH]:_=some (.string ds))
  have q2:=(hb1.cell (p:=⟨H,1,none⟩) (by simp<;>omega)).trans (by simp[go_sem,←hH]:_=some (.int .i64 x))
  have q3:=(hb1.cell (p:=⟨H+1,0,none⟩) (by simp<;>omega)).trans (by simp[go_sem,←hH]:_=some (.string ⟨#[]⟩))
  have q4:=(hb1.cell (p:=⟨H+1,1,none⟩) (by simp<;>omega)).trans (by simp[go_sem,←hH]:_=some (.int .i64 0))
  have q5:=(hb1.frozen (p:=⟨H+1,0,none⟩) (by simp<;>omega)).trans (by simp[go_sem,←hH]:_=false)
  have q6:=(hb1.frozen (p:=⟨H+1,1,none⟩) (by simp<;>omega)).trans (by simp[go_sem,←hH]:_=false)
  have b0:Below w.heap.size w W1:=(((Below.refl _ _).alloc (Nat.le_refl _) _).alloc (by simp) _).trans (hb1.mono (by simp<;>omega))
  refine⟨b0.trans (hb2.mono (by omega)),(hb2.cell (by show H<L;omega)).trans q1,(hb2.cell (by show H<L;omega)).trans q2,
   ⟨(hb2.cell (by show H+1<L;omega)).trans q3,(hb2.cell (by show H+1<L;omega)).trans q4,(hb2.frozen (p:=⟨H+1,0,none⟩) (by show H+1<L;omega)).trans q5,(hb2.frozen (p:=⟨H+1,1,none⟩) (by show H+1<L;omega)).trans q6⟩,
   ⟨by rw[←hW2,←hL];simp[go_sem],by rw[←hW2,←hL];simp[go_sem],by rw[←hW2,←hL];simp[go_sem],by rw[←hW2,←hL];simp[go_sem]⟩,?_⟩
  exact((b0.trans (hb2.mono (by omega))).cell (lt_cell HC.out)).trans HC.out
 have HT:Hid (RndD ds x 17 t y):=ht
 have hz:=(HF.out.2.2.2.2 t y ht).2.1
 have l0:=HS2.out.2.2.2.2.1.1
 have l1:=HS2.out.2.2.2.2.1.2.1
 clear hb1 ht HR
 go_wp2_with fail
 clear l0 l1 hL hW2
 go_loopw [6] (fun vn wr=>∃ (t:ByteArray) (y:Int),vn=.int .i64 ((t.size:Int)-1)∧Hid (LeaI ds x X t y∧x≤y∧y≤x+1)∧t.size≤17∧Hid (LdSt w H L ds x p X t y wr)) (fun vn _=>(intOf vn).toNat)
 case atStart=>exact⟨t,y,rfl,⟨(HF.out.2.2.2.2 t y HT.out).1,(HF.out.2.2.2.2 t y HT.out).2.2⟩,hz,HS2.out⟩
 case round=>
  clear HS2 HT hz
  obtain⟨t,y,rfl,HL,hz,HS⟩:=hrel
  have h0:=HL.out.1.1
  have hle:=HL.out.1.2.1
  have d0:=HS.out.2.1
  have d1:=HS.out.2.2.1
  have l0:=HS.out.2.2.2.2.1.1
  have l1:=HS.out.2.2.2.2.1.2.1
  have r0:=HS.out.2.2.2.1.1
  have r1:=HS.out.2.2.2.1.2.1
  have g0:=HS.out.2.2.2.1.2.2.1
  have g1:=HS.out.2.2.2.1.2.2.2
  have hHw:H+1<wr.heap.size:=lt_cell r0
  by_cases h1:t.size=1
  ·obtain⟨d,hd1,hd2⟩:=lea_end ds x X t y HF.out.2.1 HF.out.2.2.2.1 HF.out.1 HF.out.2.2.1 HL.out.1 (.inl h1)
   have HD:Hid (LeastD ds (x+1) X d (y+1)∧TrimD d t):=⟨hd1,hd2⟩
   have hHwl:w.heap.size≤H+1:=by omega
   clear hd1 hd2
   go_wp2
   refine bodyPost_ret (v:=.agg #[.string t,.int .i64 y]) (by simp[results,Tryz.results29,go_sem,r0,r1]) rfl ⟨t,y,d,HD.out.1,HD.out.2,hz,by have:=HL.out.2;omega,by have:=HL.out.2;omega,rfl,(by repeat (first|exact HS.out.1|with_reducible refine Below.alloc ?_ (by simp<;>omega) _|with_reducible refine Below.setCell ?_ (by simp<;>omega) _))⟩
  ·obtain⟨n,hn⟩:∃n:Nat,t.size=n+1:=⟨t.size-1,by omega⟩
   have en:(t.size:Int)-1=(n:Int):=by omega
   rw[en]
   have hn0:(0:Int)<(n:Int):=by omega
   go_wp2_with fail
   refine(HA.out n (by omega) _).mono ?_
   rintro e W3 ⟨tl,yl,th,yh,hlo,hhi,hb3,hcase⟩
   obtain⟨a,ya,b,yb,hab,rfl⟩:∃a ya b yb,((roundsB ds (n:Int)=true∧a=th∧ya=yh∧b=tl∧yb=yl)∨(roundsB ds (n:Int)=false∧a=tl∧ya=yl∧b=th∧yb=yh))∧e=.returned (.tuple #[.agg #[.string a,.int .i64 ya],.agg #[.string b,.int .i64 yb]]):=by
    rcases hcase with⟨h,rfl⟩|⟨h,rfl⟩
    ·exact⟨th,yh,tl,yl,.inl ⟨h,rfl,rfl,rfl,rfl⟩,rfl⟩
    ·exact⟨tl,yl,th,yh,.inr ⟨h,rfl,rfl,rfl,rfl⟩,rfl⟩
   have HRO:Hid _:=lea_round ds x X n (by omega) (by omega) HF.out.2.2.2.1 HF.out.1 tl yl th yh hlo hhi a ya b yb hab
   have HS3:Hid (LdSt w H L ds x p X t y W3):=HS.out.next hb3
   clear hb3 hcase hab hlo hhi d0 d1 l0 l1 r0 r1 g0 g1 HS hHw
   obtain⟨N,hN⟩:∃N,W3.heap.size=N:=⟨_,rfl⟩
   obtain⟨W4,hW4⟩:∃W4,(W3.alloc (.cells #[.string a,.int .i64 ya] 69)).alloc (.cells #[.string b,.int .i64 yb] 69)=W4:=⟨_,rfl⟩
   have hb4:Below N W3 W4:=by rw[←hW4,←hN];exact((Below.refl _ _).alloc (Nat.le_refl _) _).alloc (by simp) _
   have HS4:Hid (LdSt w H L ds x p X t y W4):=HS3.out.next (by rw[hN];exact hb4)
   have n0:W4.cell? ⟨N,0,none⟩=some (.string a):=by rw[←hW4,←hN];simp[go_sem]
   have n1:W4.cell? ⟨N,1,none⟩=some (.int .i64 ya):=by rw[←hW4,←hN];simp[go_sem]
   have f0:W4.cell? ⟨N+1,0,none⟩=some (.string b):=by rw[←hW4,←hN];simp[go_sem]
   have f1:W4.cell? ⟨N+1,1,none⟩=some (.int .i64 yb):=by rw[←hW4,←hN];simp[go_sem]
   have HCA:Hid (∀W,LdSt w H L ds x p X t y W→Calls Tryz.prog 30 #[.agg #[.string a,.int .i64 ya],.pointer (some p)] W fun e w'=>e=.returned (.bool (Rds X a (ya+1)))∧Below W.heap.size W w'):=fun W hW=>by
    obtain⟨a1,a2,a3,a4,a5⟩:=HRO.out.1
    exact clo_any a ya p X a1 (by omega) a3 (by omega) (by omega) W (HG.out.below hW.1) hW.2.2.2.2.2
   have HCB:Hid (∀W,LdSt w H L ds x p X t y W→Calls Tryz.prog 30 #[.agg #[.string b,.int .i64 yb],.pointer (some p)] W fun e w'=>e=.returned (.bool (Rds X b (yb+1)))∧Below W.heap.size W w'):=fun W hW=>by
    obtain⟨a1,a2,a3,a4,a5⟩:=HRO.out.2.1
    exact clo_any b yb p X a1 (by omega) a3 (by omega) (by omega) W (HG.out.below hW.1) hW.2.2.2.2.2
   clear hb4
   go_wp2_with fail
   refine(HCA.out _ HS4.out).mono ?_
   rintro e W5 ⟨rfl,hb5⟩
   have hl4:N+1<W4.heap.size:=lt_cell f0
   have n05:=(hb5.cell (p:=⟨N,0,none⟩) (by show N<_;omega)).trans n0
   have n15:=(hb5.cell (p:=⟨N,1,none⟩) (by show N<_;omega)).trans n1
   have f05:=(hb5.cell (p:=⟨N+1,0,none⟩) hl4).trans f0
   have f15:=(hb5.cell (p:=⟨N+1,1,none⟩) hl4).trans f1
   have HS5:Hid (LdSt w H L ds x p X t y W5):=HS4.out.next hb5
   clear hb5 n0 n1 f0 f1 HS4 HS3 hW4 hN hl4
   obtain⟨A,hA⟩:∃A,Rds X a (ya+1)=A:=⟨_,rfl⟩
   rw[hA]
   cases A
   ·have HA0:Hid (Rds X a (ya+1)=false):=hA
    clear hA n05 n15
    go_wp2_with fail
    refine(HCB.out _ HS5.out).mono ?_
    rintro e W6 ⟨rfl,hb6⟩
    have f06:=(hb6.cell (p:=⟨N+1,0,none⟩) (lt_cell f05)).trans f05
    have f16:=(hb6.cell (p:=⟨N+1,1,none⟩) (lt_cell f15)).trans f15
    have HS6:Hid (LdSt w H L ds x p X t y W6):=HS5.out.next hb6
    clear hb6 f05 f15 HS5
    obtain⟨B,hB⟩:∃B,Rds X b (yb+1)=B:=⟨_,rfl⟩
    rw[hB]
    have l0:=HS6.out.2.2.2.2.1.1
    have l1:=HS6.out.2.2.2.2.1.2.1
    cases B
    ·obtain⟨d,hd1,hd2⟩:=lea_end ds x X t y HF.out.2.1 HF.out.2.2.2.1 HF.out.1 HF.out.2.2.1 HL.out.1 (.inr (by rw[hn,Nat.add_sub_cancel];exact HRO.out.2.2.2.2 HA0.out hB))
     have HD:Hid (LeastD ds (x+1) X d (y+1)∧TrimD d t):=⟨hd1,hd2⟩
     have hHwl:w.heap.size≤H+1:=by omega
     have r0:=HS6.out.2.2.2.1.1
     have r1:=HS6.out.2.2.2.1.2.1
     have g0:=HS6.out.2.2.2.1.2.2.1
     have g1:=HS6.out.2.2.2.1.2.2.2
     have hHw:H+1<W6.heap.size:=lt_cell r0
     clear hd1 hd2 hB f06 f16
     go_wp2
     refine bodyPost_ret (v:=.agg #[.string t,.int .i64 y]) (by simp[results,Tryz.results29,go_sem,r0,r1]) rfl ⟨t,y,d,HD.out.1,HD.out.2,hz,by have:=HL.out.2;omega,by have:=HL.out.2;omega,rfl,(by repeat (first|exact HS6.out.1|with_reducible refine Below.alloc ?_ (by simp<;>omega) _|with_reducible refine Below.setCell ?_ (by simp<;>omega) _))⟩
    ·have HB1:Hid (LeaI ds x X b yb):=HRO.out.2.2.2.1 HA0.out hB
     have g0:=HS6.out.2.2.2.2.1.2.2.1
     have g1:=HS6.out.2.2.2.2.1.2.2.2
     have hbs:(b.size:Int)≤100:=by have:=HRO.out.2.1.2.1;omega
     clear hB
     go_wp2
     obtain⟨_,b2,_,b4,b5⟩:=HRO.out.2.1
     exact⟨⟨b,yb,rfl,⟨HB1.out,b4,b5⟩,by omega,HS6.out.store hHL (by omega) (lt_cell HC.out) b yb⟩,by simp only[intOf];omega⟩
   ·have HB1:Hid (LeaI ds x X a ya):=HRO.out.2.2.1 hA
    clear hA f05 f15
    have l0:=HS5.out.2.2.2.2.1.1
    have l1:=HS5.out.2.2.2.2.1.2.1
    have g0:=HS5.out.2.2.2.2.1.2.2.1
    have g1:=HS5.out.2.2.2.2.1.2.2.2
    have has:(a.size:Int)≤100:=by have:=HRO.out.1.2.1;omega
    go_wp2
    obtain⟨_,b2,_,b4,b5⟩:=HRO.out.1
    exact⟨⟨a,ya,rfl,⟨HB1.out,b4,b5⟩,by omega,HS5.out.store hHL (by omega) (lt_cell HC.out) a ya⟩,by simp only[intOf];omega⟩
def LdR(q:Nat)(e:Int)(ds:ByteArray)(x:Int)(t:ByteArray)(y:Int):Prop:=(q=0∧t=⟨#[]⟩∧y=0)∨(0<q∧∃d,LeastD ds (x+1) (fw false q e) d (y+1)∧TrimD d t∧t.size≤17∧-1201≤y∧y≤1201)
theorem rnd_small(ds:ByteArray)(x:Int)(hg:good 10 ds.data.toList)(hf:∀h:0<ds.size,ds[0].toNat≠48)(t:ByteArray)(y:Int)(h:RndD ds x 17 t y):t.size≤17∧x≤y∧y≤x+1:=by
 rcases h with⟨h,_⟩|⟨h1,_,rfl,rfl⟩|⟨_,h17,⟨_,h⟩|⟨_,h⟩⟩
 ·omega
 ·exact⟨by omega,by omega,by omega⟩
 ·obtain⟨_,a,_,b,c⟩:=high_ok ds x 17 t y (by omega) (by omega) hg h
  exact⟨a,b,c⟩
 ·obtain⟨_,a,_,b⟩:=low_ok ds x 17 t y (by omega) (by omega) hg hf h
  exact⟨a,by omega,by omega⟩
theorem start_ok(x:Nat)(k:Int)(s:Bool)(q:Nat)(e:Int)(hp:partsV x k s (q:Int) e)(hq:0<q)(ds:ByteArray)(y:Int)(hd:ExD ds (y+1) q e) :
  fw false q e≤9218868437227405312∧Rds (fw false q e) ds (y+1)=true∧∀t z,RndD ds y 17 t z→LeaI ds y (fw false q e) t z∧t.size≤17∧y≤z∧z≤y+1:=by
 have hX:=fw_top q e
 refine⟨hX,?_,fun t z h=>⟨?_,rnd_small ds y hd.2.1 hd.2.2.1 t z h⟩⟩
 ·rw[rds_is _ hX]
  apply decide_eq_true
  rw[exD_reads ds (y+1) q e hq hd]
 ·rcases hp with⟨_,_,_,h0,_⟩|⟨_,_,h0,_⟩|⟨_,_,h0,_⟩|⟨n,p,q',j,hc,hn,_,hn',_,_,hqq,rfl⟩
  ·omega
  ·omega
  ·omega
  ·have e1:q'=q:=by omega
   subst e1
   have hfw:fw false q' (p+j)=fw false n p:=by
    have:=fw_scale false q' j (p+j)
    rw[show p+(j:Int)-j=p by omega,←hn']at this
    exact this.symm
   rw[hfw]
   exact lea_start n p q' j ds y hc hn hn' hd t z h fun N=>high_ex ds y hd.2.1 N
theorem short_signed(x:Nat)(k:Int)(s:Bool)(q:Nat)(e:Int)(hp:partsV x k s (q:Int) e)(ds:ByteArray)(y:Int)(hd:DofR q e ds y)(t:ByteArray)(z:Int)(hl:LdR q e ds y t z) :
  ∃u,shortV x u∧u.size≤5000∧∀F,ShF t z F→∀W,WrG W→Calls Tryz.prog 33 #[.agg #[.int .i64 k,.bool s,.int .i64 (q:Int),.int .i64 e],F] W fun r w'=>r=.returned (.string u)∧Below W.heap.size W w':=by
 rcases hp with⟨hn,rfl,rfl,h0,rfl⟩|⟨rfl,rfl,h0,rfl⟩|⟨rfl,rfl,h0,rfl⟩|⟨n,p,q',j,hc,hn,rfl,hn',hodd,rfl,hqq,rfl⟩
 ·exact⟨_,.inl ⟨hn,rfl⟩,by decide,fun F _ W _=>signed_nan F _ 0 W⟩
 ·exact⟨_,.inr (.inl ⟨s,rfl,rfl⟩),by cases s<;>decide,fun F _ W _=>signed_inf F s _ 0 W⟩
 ·rcases hl with⟨_,rfl,rfl⟩|⟨h,_⟩
  ·refine⟨_,.inr (.inr (.inl ⟨s,rfl,rfl⟩)),by cases s<;>decide,fun F hF W _=>?_⟩
   rcases hF with⟨h,_⟩|⟨_,_,rfl⟩
   ·omega
   ·have e1:fixB ⟨#[]⟩ (0+1) ((((⟨#[]⟩:ByteArray).size:Int)-(0+1)).toNat)=⟨#[48]⟩:=by decide
    have:=signed_plain (.agg #[.string ⟨#[]⟩,.int .i64 0,.int .i64 ((((⟨#[]⟩:ByteArray).size:Int)-(0+1)).toNat:Int)]) 0 (.inl rfl) s (q:Int) 0 ⟨#[48]⟩ (by decide) W fun W1 _=>by
     have:=plainWrite_any ⟨#[]⟩ 0 ((((⟨#[]⟩:ByteArray).size:Int)-(0+1)).toNat) (by decide) (by decide) (by decide) (by decide) W1
     rw[e1]at this
     exact this
    exact this
  ·omega
 ·have e1:q'=q:=by omega
  subst e1
  have hq0:0<q':=by omega
  have hfw:fw false q' (p+j)=fw false n p:=by
   have:=fw_scale false q' j (p+j)
   rw[show p+(j:Int)-j=p by omega,←hn']at this
   exact this.symm
  rcases hl with⟨h,_⟩|⟨_,d,hle,htr,h17,z1,z2⟩
  ·omega
  ·rcases hd.1 with⟨h,_⟩|⟨_,hx⟩
   ·omega
   ·rw[hfw]at hle
    have ht0:=htr.1
    have hsz:=shortB_size t (z+1) (by omega)
    refine⟨_,.inr (.inr (.inr ⟨s,n,p,q',j,ds,y+1,d,z+1,t,hc,hn,rfl,hn',hodd,hx,hle,htr,rfl⟩)),?_,fun F hF W hG=>?_⟩
    ·have:(sgnB s).size≤1:=by cases s<;>decide
     rw[append_size]
     omega
    ·rcases hF with⟨h,rfl⟩|⟨h1,h2,rfl⟩
     ·refine signed_power _ 1 (.inr rfl) s (q':Int) (p+j) _ (by omega) W fun W1 hb1=>?_
      have hG1:=hG.below hb1
      refine(powerWrite_any t z t.size (by omega) (by omega) (by omega) ht0 (by omega) W1 hG1.2.1 hG1.2.2.2).mono ?_
      rintro r w' ⟨rfl,hb⟩
      rw[padB_whole]
      unfold shortB
      rw[if_neg (by omega)]
      exact⟨rfl,hb⟩
     ·refine signed_plain _ 1 (.inr rfl) s (q':Int) (p+j) _ (by omega) W fun W1 hb1=>?_
      refine(plainWrite_any t z _ (by omega) (by omega) (by omega) (by omega) W1).mono ?_
      rintro r w' ⟨rfl,hb⟩
      unfold shortB
      rw[if_pos (by omega),plainB_fix t (z+1) ht0]
      exact⟨rfl,hb⟩
set_option maxHeartbeats 2000000 in
set_option maxRecDepth 100000 in
theorem leastDigits_zero(ds:ByteArray)(h0:ds.size=0)(y:Int)(hy:-1200≤y)(hy':y≤1200)(hg:good 10 ds.data.toList)(p:Addr)(w:World) :
  Calls Tryz.prog 29 #[.agg #[.string ds,.int .i64 y],.func (.func 30) #[] #[.pointer (some p)]] w fun e w'=>e=.returned (.agg #[.string ds,.int .i64 y])∧Below w.heap.size w w':=by
 have HR:Hid (∀w:World,Calls Tryz.prog 68 #[.agg #[.string ds,.int .i64 y],.int .i64 17] w fun e w'=>e=.returned (.agg #[.string ds,.int .i64 y])∧Below w.heap.size w w'):=fun w=>by
  refine(round_any ds y 17 (by omega) (by omega) (by omega) hg w).mono ?_
  rintro e w' ⟨t,y,h,rfl,hb⟩
  rcases h with⟨h,_⟩|⟨_,_,rfl,rfl⟩|⟨_,h,_⟩
  ·omega
  ·exact⟨rfl,hb⟩
  ·omega
 have h0':(ds.size:Int)=0:=by omega
 obtain⟨H,hH⟩:∃H,w.heap.size=H:=⟨_,rfl⟩
 go_enter Tryz.func29,Tryz.ntmps29
 go_wp2_with fail
 refine(HR.out _).mono ?_
 rintro e W1 ⟨rfl,hb1⟩
 obtain⟨L,hL⟩:∃L,W1.heap.size=L:=⟨_,rfl⟩
 have hHL:H+1<L:=by have:=hb1.size;simp at this;omega
 obtain⟨W2,hW2⟩:∃W2,W1.alloc (.cells #[.string ds,.int .i64 y] 69)=W2:=⟨_,rfl⟩
 have hb2:Below L W1 W2:=by rw[←hW2,←hL];exact(Below.refl _ _).alloc (Nat.le_refl _) _
 have r0:=(hb2.cell (p:=⟨H+1,0,none⟩) (by show H+1<L;omega)).trans ((hb1.cell (p:=⟨H+1,0,none⟩) (by simp<;>omega)).trans (by simp[go_sem,←hH]:_=some (.string ⟨#[]⟩)))
 have r1:=(hb2.cell (p:=⟨H+1,1,none⟩) (by show H+1<L;omega)).trans ((hb1.cell (p:=⟨H+1,1,none⟩) (by simp<;>omega)).trans (by simp[go_sem,←hH]:_=some (.int .i64 0)))
 have g0:=(hb2.frozen (p:=⟨H+1,0,none⟩) (by show H+1<L;omega)).trans ((hb1.frozen (p:=⟨H+1,0,none⟩) (by simp<;>omega)).trans (by simp[go_sem,←hH]:_=false))
 have g1:=(hb2.frozen (p:=⟨H+1,1,none⟩) (by show H+1<L;omega)).trans ((hb1.frozen (p:=⟨H+1,1,none⟩) (by simp<;>omega)).trans (by simp[go_sem,←hH]:_=false))
 have HB:Hid (Below w.heap.size w W2):=by
  have b0:Below w.heap.size w W1:=(((Below.refl _ _).alloc (Nat.le_refl _) _).alloc (by simp) _).trans (hb1.mono (by simp<;>omega))
  exact b0.trans (hb2.mono (by omega))
 have l0:W2.cell? ⟨L,0,none⟩=some (.string ds):=by rw[←hW2,←hL];simp[go_sem]
 have l1:W2.cell? ⟨L,1,none⟩=some (.int .i64 y):=by rw[←hW2,←hL];simp[go_sem]
 have hHw:H+1<W2.heap.size:=lt_cell r0
 clear hb1 hb2 HR
 go_wp2_with fail
 clear hL hW2
 go_loopw [6] (fun vn wr=>vn=.int .i64 (-1)∧wr=W2) (fun _ _=>0)
 case atStart=>exact⟨rfl,rfl⟩
 obtain⟨rfl,rfl⟩:=hrel
 go_wp2
 refine bodyPost_ret (v:=.agg #[.string ds,.int .i64 y]) (by simp[results,Tryz.results29,go_sem,r0,r1]) rfl ⟨rfl,(by repeat (first|exact HB.out|with_reducible refine Below.alloc ?_ (by simp<;>omega) _|with_reducible refine Below.setCell ?_ (by simp<;>omega) _))⟩
theorem least_ok(x:Nat)(k:Int)(s:Bool)(q:Nat)(e:Int)(hp:partsV x k s (q:Int) e)(ds:ByteArray)(y:Int)(hd:DofR q e ds y)(p:Addr)(W:World)(hG:WrG W)(hc:W.cell? p=some (.float .f64 (fw false q e))) :
  Calls Tryz.prog 29 #[.agg #[.string ds,.int .i64 y],.func (.func 30) #[] #[.pointer (some p)]] W fun r w'=>∃t z,LdR q e ds y t z∧r=.returned (.agg #[.string t,.int .i64 z])∧Below W.heap.size W w':=by
 obtain⟨hd1,hd2,hd3,hd4⟩:=hd
 rcases hd1 with⟨rfl,rfl,rfl⟩|⟨hq,hx⟩
 ·refine(leastDigits_zero ⟨#[]⟩ rfl 0 (by omega) (by omega) (fun _ h=>by cases h) p W).mono ?_
  rintro r w' ⟨rfl,hb⟩
  exact⟨_,_,.inl ⟨rfl,rfl,rfl⟩,rfl,hb⟩
 ·obtain⟨h1,h2,h3⟩:=start_ok x k s q e hp hq ds y hx
  refine(leastDigits_any ds y p (fw false q e) hd2 hd3 hd4 hx.2.1 hx.2.2.1 h1 h2 h3 W hG hc).mono ?_
  rintro r w' ⟨t,z,d,a1,a2,a3,a4,a5,rfl,hb⟩
  exact⟨t,z,.inr ⟨hq,d,a1,a2,a3,a4,a5⟩,rfl,hb⟩
set_option maxHeartbeats 400000 in
theorem wByte_any(w:World)(a:Option Addr)(len cap:Nat)(i:Int)(hi:0≤i)(hi':i≤1000)(hk:Bts w a len) :
  Calls Tryz.prog 9 #[.slice a len cap,.int .i64 i] w fun e w'=>∃v:Int,0≤v∧v≤255∧e=.returned (.int .i64 v)∧w'=w:=by
 by_cases hz:len=0
 ·subst hz
  clear hk
  go_enter Tryz.func9,Tryz.ntmps9
  go_wp2
  go_ret
  exact⟨0,by omega,by omega,rfl,rfl⟩
 ·have hb:((len:Int)==0)=false:=beq_eq_false_iff_ne.2 (by omega)
  have hm0:0≤i % (len:Int):=Int.emod_nonneg _ (by omega)
  have hm1:i % (len:Int)<len:=Int.emod_lt_of_pos _ (by omega)
  obtain⟨hlen,hk⟩:=hk
  obtain⟨x,rfl,z,hz0,hz1,hx⟩:=hk (i % (len:Int)).toNat (by omega)
  clear hk
  go_enter Tryz.func9,Tryz.ntmps9
  go_wp2
  go_ret
  exact⟨z,hz0,hz1,rfl,rfl⟩
end Go.Proofs.YtenbfookfcmpoaaGreatDoor
