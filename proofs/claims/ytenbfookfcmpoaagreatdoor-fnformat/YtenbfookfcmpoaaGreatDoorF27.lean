import Derived.Below
import Derived.Test.YtenbfookfcmpoaaGreatDoorF26
namespace Go.Proofs.YtenbfookfcmpoaaGreatDoor
open Ieee (double)
theorem dec_exact(V q:Nat)(e E:Int)(hV:0<V)(hq:0<q)(h:V*10 ^ e.toNat*2 ^ (-E).toNat=q*2 ^ E.toNat*10 ^ (-e).toNat):decW 10 V e=fw false q E:=by
 unfold decW
 have p2:∀k,0<2 ^ k:=fun k=>Nat.two_pow_pos k
 have p10:∀k,0<10 ^ k:=fun k=>Nat.pow_pos (by omega)
 rw[if_neg (by omega),ratioW_eq (V*10 ^ e.toNat) (10 ^ (-e).toNat) (q*2 ^ E.toNat) (2 ^ (-E).toNat) (Nat.mul_pos hV (p10 _)) (p10 _) (Nat.mul_pos hq (p2 _)) (p2 _) h,ratioW_fw q _ _ hq]
 rw[show((E.toNat:Int)-((-E).toNat:Int))=E by omega]
theorem exD_reads(ds:ByteArray)(pow:Int)(q:Nat)(E:Int)(hq:0<q)(h:ExD ds pow q E):decW 10 (valN 10 ds.data.toList) (pow-(ds.size:Int))=fw false q E:=by
 obtain⟨h0,hg,hf,_,hv⟩:=h
 have hV:0<valN 10 ds.data.toList:=by
  have:=(dec_bounds ds _ ⟨hg,rfl,hf⟩ h0).1
  have h2:0<10 ^ (ds.size-1):=Nat.pow_pos (by omega)
  omega
 refine dec_exact _ q _ E hV hq ?_
 rw[show(-(pow-(ds.size:Int))).toNat=((ds.size:Int)-pow).toNat by omega]
 exact hv
end Go.Proofs.YtenbfookfcmpoaaGreatDoor
namespace Go.Proofs.YtenbfookfcmpoaaGreatDoor
open Go.ChangeShapes Go.WideShapes Go.RowKit
def TrimD(d t:ByteArray):Prop:=0<t.size∧good 10 t.data.toList∧∃j,t=d.extract 0 t.size∧t.size+j=d.size∧valN 10 d.data.toList=valN 10 t.data.toList*10 ^ j∧(t.size=1∨∀h:t.size-1<t.size,t[t.size-1].toNat≠48)
def TrimO(d t:ByteArray)(j:Nat):Prop:=0<t.size∧good 10 t.data.toList∧t=d.extract 0 t.size∧t.size+j=d.size∧valN 10 d.data.toList=valN 10 t.data.toList*10 ^ j
theorem trimO_start(d:ByteArray)(h:0<d.size)(hg:good 10 d.data.toList):TrimO d d 0:=⟨h,hg,by simp,rfl,by rw[Nat.pow_zero,Nat.mul_one]⟩
theorem trimO_next(d t:ByteArray)(j:Nat)(h:TrimO d t j)(h1:1<t.size)(hz:∀h:t.size-1<t.size,t[t.size-1].toNat=48):TrimO d (t.extract 0 (t.size-1)) (j+1):=by
 obtain⟨a1,a2,a3,a4,a5⟩:=h
 have hs:(t.extract 0 (t.size-1)).size=t.size-1:=by simp
 refine⟨by omega,?_,?_,by omega,?_⟩
 ·intro c hc
  exact a2 c (by rw[last_cut t a1];exact List.mem_append_left _ hc)
 ·rw[hs]
  apply ByteArray.ext
  apply Array.toList_inj.1
  have e:t.data.toList=d.data.toList.take t.size:=by
   have h:=congrArg (fun b:ByteArray=>b.data.toList) a3
   simp only[Lib.extract_eq]at h
   simpa using h
  rw[Lib.extract_eq,Lib.extract_eq]
  simp only[List.drop_zero,Nat.sub_zero]
  rw[e,List.take_take,Nat.min_eq_left (by omega)]
 ·rw[a5,valN_last t a1 (hz (by omega)),Nat.pow_succ,Nat.mul_assoc,Nat.mul_comm 10]
set_option maxHeartbeats 2000000 in
set_option maxRecDepth 100000 in
theorem l5trim_any(d:ByteArray)(p:Int)(hd:d.size≤3000)(h0:0<d.size)(hg:good 10 d.data.toList)(w:World) :
  Calls Tryz.prog 87 #[.agg #[.string d,.int .i64 p]] w fun e w'=>∃t,TrimD d t∧e=.returned (.agg #[.string t,.int .i64 p])∧Below w.heap.size w w':=by
 have HO:Hid (TrimO d d 0):=trimO_start d h0 hg
 clear hg
 go_enter Tryz.func87,Tryz.ntmps87
 go_wp2
 go_loopw [3] (fun _ wr=>∃ (t:ByteArray) (j:Nat),wr=(w.alloc (.cells #[.string t,.int .i64 p] 157)).alloc (.cells #[.string ⟨#[]⟩,.int .i64 0] 157)∧Hid (TrimO d t j)∧t.size≤3000∧0<t.size) (fun _ wr=>match wr.cell? ⟨w.heap.size,0,none⟩ with|some (.string t)=>t.size|_=>0)
 case atStart=>exact⟨d,0,rfl,HO.out,hd,h0⟩
 case round=>
  obtain⟨t,j,rfl,HT,hts,ht0⟩:=hrel
  have hts':(t.size:Int)≤3000:=by omega
  obtain⟨k,hk⟩:∃k,t.size=k+1:=⟨t.size-1,by omega⟩
  have hk1:t.size-1=k:=by omega
  have hkl:k<t.size:=by omega
  have hki:(t.size:Int)-1=(k:Int):=by omega
  by_cases h1:1<t.size
  ·by_cases hz:t[k].toNat=48
   ·have HN:Hid (TrimO d (t.extract 0 k) (j+1)):=by
     have:=trimO_next d t j HT.out h1 (fun _=>by simp only[hk1];exact hz)
     rw[hk1]at this
     exact this
    have hz2:(t[k].toNat:Int)=48:=by omega
    have hes:(t.extract 0 k).size=k:=by simp;omega
    clear hk hk1
    go_wp2
    have hm:∀u:ByteArray,((w.alloc (.cells #[.string u,.int .i64 p] 157)).alloc (.cells #[.string ⟨#[]⟩,.int .i64 0] 157)).cell? ⟨w.heap.size,0,none⟩=some (.string u):=fun u=>by simp[go_sem]
    exact⟨⟨_,j+1,rfl,HN.out,by omega,HN.out.1⟩,by simp only[hm];omega⟩
   ·have HX:Hid (TrimD d t):=by
     obtain⟨a1,a2,a3,a4,a5⟩:=HT.out
     exact⟨a1,a2,j,a3,a4,a5,.inr (fun _=>by simp only[hk1];exact hz)⟩
    have hz2:((t[k].toNat:Int)==48)=false:=beq_eq_false_iff_ne.2 (by omega)
    have hz3:¬(t[k].toNat:Int)=48:=by omega
    clear hk hk1
    go_wp2
    refine bodyPost_ret (v:=.agg #[.string t,.int .i64 p]) (by simp[results,Tryz.results87,go_sem]) rfl ⟨t,HX.out,rfl,(by repeat (first|with_reducible exact Below.refl _ _|with_reducible refine Below.alloc ?_ (by simp<;>omega) _|with_reducible refine Below.setCell ?_ (by simp<;>omega) _))⟩
  ·have HX:Hid (TrimD d t):=by
    obtain⟨a1,a2,a3,a4,a5⟩:=HT.out
    exact⟨a1,a2,j,a3,a4,a5,.inl (by omega)⟩
   clear hk hk1
   go_wp2
   refine bodyPost_ret (v:=.agg #[.string t,.int .i64 p]) (by simp[results,Tryz.results87,go_sem]) rfl ⟨t,HX.out,rfl,(by repeat (first|with_reducible exact Below.refl _ _|with_reducible refine Below.alloc ?_ (by simp<;>omega) _|with_reducible refine Below.setCell ?_ (by simp<;>omega) _))⟩
end Go.Proofs.YtenbfookfcmpoaaGreatDoor
namespace Go.Proofs.YtenbfookfcmpoaaGreatDoor
open Ieee (double)
theorem fw_beside(m M d:Nat)(e p:Int)(hc:Canon m p)(hp:p=e+d)(hd:1≤d)(h0:0<M)(h1:m*2 ^ d≤M)(h2:M<(m+1)*2 ^ d):fw false M e=rung m p+(keptOf M d-m)∧m≤keptOf M d∧keptOf M d≤m+1:=by
 have hpd:0<2 ^ d:=Nat.two_pow_pos d
 have hdiv:M / 2 ^ d=m:=by
  have a:m≤M / 2 ^ d:=(Nat.le_div_iff_mul_le hpd).2 h1
  have b:M / 2 ^ d<m+1:=(Nat.div_lt_iff_lt_mul hpd).2 h2
  omega
 have hk:m≤keptOf M d∧keptOf M d≤m+1:=by
  unfold keptOf
  rw[hdiv]
  split<;>omega
 have hm2:m<9007199254740992:=by rcases hc with h|h<;>omega
 have hpl:-1074≤p:=by rcases hc with h|h<;>omega
 have hM2:M<2 ^ (53+d):=by
  rw[Nat.pow_add]
  have:(m+1)*2 ^ d≤2 ^ 53*2 ^ d:=Nat.mul_le_mul_right _ (by omega)
  omega
 have hl:max (e+(M.log2:Int)-52) (-1074)=p:=by
  rcases hc with⟨a,b,c,_⟩|⟨a,b⟩
  ·have hlo:2 ^ (52+d)≤M:=by
    rw[Nat.pow_add]
    have:2 ^ 52*2 ^ d≤m*2 ^ d:=Nat.mul_le_mul_right _ (by omega)
    omega
   have l1:=log2_ge M (52+d) h0 hlo
   have l2:=log2_le M (52+d) h0 (by rw[show 52+d+1=53+d by omega];exact hM2)
   omega
  ·have hhi:M<2 ^ (52+d):=by
    rw[Nat.pow_add]
    have:(m+1)*2 ^ d≤2 ^ 52*2 ^ d:=Nat.mul_le_mul_right _ (by omega)
    omega
   have l2:=log2_le M (51+d) h0 (by rw[show 51+d+1=52+d by omega];exact hhi)
   omega
 have hrl:=rung_lt m p hc
 refine⟨?_,hk⟩
 rw[fw_place false M e h0,hl]
 have hr:roundN M (p-e)=keptOf M d:=by
  unfold roundN
  rw[if_neg (by omega),show(p-e).toNat=d by omega]
 rw[hr]
 unfold rung at hrl ⊢
 show 0+min ((p+1074).toNat*4503599627370496+keptOf M d) 9218868437227405312=_
 rw[Nat.zero_add,Nat.min_eq_left (by omega)]
 omega
theorem kept_below(m M d:Nat)(hd:1≤d)(h1:m*2 ^ d≤M)(h2:M<m*2 ^ d+2 ^ (d-1)):keptOf M d=m:=by
 have hpd:2 ^ d=2*2 ^ (d-1):=by rw[←Nat.pow_succ',show(d-1).succ=d by omega]
 obtain⟨r,rfl⟩:∃r,M=m*2 ^ d+r:=⟨M-m*2 ^ d,by omega⟩
 have hr:r<2 ^ d:=by omega
 have e1:(m*2 ^ d+r) / 2 ^ d=m:=by rw[Nat.mul_comm,Nat.mul_add_div (Nat.two_pow_pos d),Nat.div_eq_of_lt hr,Nat.add_zero]
 have e2:(m*2 ^ d+r) % 2 ^ d=r:=by rw[Nat.mul_comm,Nat.mul_add_mod,Nat.mod_eq_of_lt hr]
 unfold keptOf
 rw[e1,e2,if_neg (by omega)]
theorem kept_above(m M d:Nat)(h1:m*2 ^ d+2 ^ (d-1)<M)(h2:M<(m+1)*2 ^ d):keptOf M d=m+1:=by
 have hp1:0<2 ^ (d-1):=Nat.two_pow_pos _
 obtain⟨r,rfl⟩:∃r,M=m*2 ^ d+r:=⟨M-m*2 ^ d,by omega⟩
 rw[Nat.add_mul,Nat.one_mul]at h2
 have hr:r<2 ^ d:=by omega
 have e1:(m*2 ^ d+r) / 2 ^ d=m:=by rw[Nat.mul_comm,Nat.mul_add_div (Nat.two_pow_pos d),Nat.div_eq_of_lt hr,Nat.add_zero]
 have e2:(m*2 ^ d+r) % 2 ^ d=r:=by rw[Nat.mul_comm,Nat.mul_add_mod,Nat.mod_eq_of_lt hr]
 unfold keptOf
 rw[e1,e2,if_pos (.inl (by omega))]
theorem ratio_long_at(A C K:Nat)(hA:0<A)(hC:0<C)(h:9007199254740992≤A*2 ^ K / C):ratioW A C=if A*2 ^ K % C=0 then fw false (A*2 ^ K / C) (-(K:Int)) else fw false (2*(A*2 ^ K / C)+1) (-(K:Int)-1):=by
 have:=ratioW_at A C K 0 hA hC (by rw[Nat.pow_zero,Nat.mul_one];exact h)
 rw[←this]
 unfold ratioAt
 rw[Nat.pow_zero,Nat.mul_one,show((0:Nat):Int)-(K:Int) = -(K:Int) by omega]
theorem ratio_above(A C m g v:Nat)(p:Int)(hc:Canon m p)(hp:p=(g:Int)-v)(hA:0<A)(hC:0<C)(h1:(2*m+1)*2 ^ g*C<A*2 ^ (v+1))(h2:A*2 ^ v<(m+1)*2 ^ g*C):ratioW A C=rung m p+1:=by
 obtain⟨K,hK1,hK2,hK3⟩:∃K,v+1≤K∧9007199254740992≤A*2 ^ K / C∧v+1+g≤K+g:=by
  refine⟨v+1+(53+C),by omega,?_,by omega⟩
  have a1:C≤2 ^ C:=Nat.le_of_lt Nat.lt_two_pow_self
  have a2:C*2 ^ 53≤A*2 ^ (v+1+(53+C)):=by
   have b1:C*2 ^ 53≤2 ^ C*2 ^ 53:=Nat.mul_le_mul_right _ a1
   have b2:2 ^ C*2 ^ 53≤2 ^ (v+1+(53+C)):=by rw[←Nat.pow_add];exact Nat.pow_le_pow_right (by omega) (by omega)
   have b3:1*2 ^ (v+1+(53+C))≤A*2 ^ (v+1+(53+C)):=Nat.mul_le_mul_right _ hA
   rw[Nat.one_mul]at b3
   exact Nat.le_trans (Nat.le_trans b1 b2) b3
  rw[show(9007199254740992:Nat)=2 ^ 53 from rfl,Nat.le_div_iff_mul_le hC,Nat.mul_comm]
  exact a2
 obtain⟨d',hd'⟩:∃d',K=v+1+d':=⟨K-(v+1),by omega⟩
 have hQlo:(m*2 ^ (g+d'+1)+2 ^ (g+d'))≤A*2 ^ K / C:=by
  rw[Nat.le_div_iff_mul_le hC]
  have e:(m*2 ^ (g+d'+1)+2 ^ (g+d'))*C=((2*m+1)*2 ^ g*C)*2 ^ d':=by
   rw[Nat.pow_succ,Nat.pow_add]
   have:m*(2 ^ g*2 ^ d'*2)+2 ^ g*2 ^ d'=(2*m+1)*(2 ^ g*2 ^ d'):=by
    rw[Nat.add_mul,Nat.one_mul,Nat.mul_comm (2 ^ g*2 ^ d') 2,←Nat.mul_assoc,Nat.mul_comm m 2]
   rw[this,←Nat.mul_assoc,Nat.mul_right_comm]
  have e2:A*2 ^ K=A*2 ^ (v+1)*2 ^ d':=by rw[hd',Nat.pow_add,Nat.mul_assoc]
  rw[e,e2]
  exact Nat.mul_le_mul_right _ (Nat.le_of_lt h1)
 have hQhi:A*2 ^ K / C<(m+1)*2 ^ (g+d'+1):=by
  rw[Nat.div_lt_iff_lt_mul hC]
  have e:(m+1)*2 ^ (g+d'+1)*C=((m+1)*2 ^ g*C)*2 ^ (d'+1):=by
   rw[show g+d'+1=g+(d'+1) by omega,Nat.pow_add,←Nat.mul_assoc,Nat.mul_right_comm]
  have e2:A*2 ^ K=A*2 ^ v*2 ^ (d'+1):=by rw[hd',show v+1+d'=v+(d'+1) by omega,Nat.pow_add,Nat.mul_assoc]
  rw[e,e2]
  exact Nat.mul_lt_mul_of_pos_right h2 (Nat.two_pow_pos _)
 have hp53:0<2 ^ (g+d'):=Nat.two_pow_pos _
 rw[ratio_long_at A C K hA hC hK2]
 split
 ·rename_i hrest
  have hne:A*2 ^ K / C≠m*2 ^ (g+d'+1)+2 ^ (g+d'):=by
   intro he
   have hmul:A*2 ^ K=(m*2 ^ (g+d'+1)+2 ^ (g+d'))*C:=by
    rw[←he]
    exact(Nat.div_mul_cancel (Nat.dvd_of_mod_eq_zero hrest)).symm
   have e:(m*2 ^ (g+d'+1)+2 ^ (g+d'))*C=((2*m+1)*2 ^ g*C)*2 ^ d':=by
    rw[Nat.pow_succ,Nat.pow_add]
    have:m*(2 ^ g*2 ^ d'*2)+2 ^ g*2 ^ d'=(2*m+1)*(2 ^ g*2 ^ d'):=by
     rw[Nat.add_mul,Nat.one_mul,Nat.mul_comm (2 ^ g*2 ^ d') 2,←Nat.mul_assoc,Nat.mul_comm m 2]
    rw[this,←Nat.mul_assoc,Nat.mul_right_comm]
   have e2:A*2 ^ K=A*2 ^ (v+1)*2 ^ d':=by rw[hd',Nat.pow_add,Nat.mul_assoc]
   rw[e,e2]at hmul
   have:=Nat.eq_of_mul_eq_mul_right (Nat.two_pow_pos d') hmul
   omega
  obtain⟨hb,_,_⟩:=fw_beside m (A*2 ^ K / C) (g+d'+1) (-(K:Int)) p hc (by omega) (by omega) (by omega) (by omega) hQhi
  rw[hb,kept_above m _ (g+d'+1) (by rw[Nat.add_sub_cancel];omega) hQhi]
  omega
 ·obtain⟨Q,hQ⟩:∃Q,Q=A*2 ^ K / C:=⟨_,rfl⟩
  rw[←hQ]at hQlo hQhi hK2 ⊢
  have hpp:2 ^ (g+d'+2)=2*2 ^ (g+d'+1):=by rw[←Nat.pow_succ']
  have hpq:2 ^ (g+d'+1)=2*2 ^ (g+d'):=by rw[←Nat.pow_succ']
  have e1:m*2 ^ (g+d'+2)=2*(m*2 ^ (g+d'+1)):=by rw[hpp,Nat.mul_left_comm]
  have e2:(m+1)*2 ^ (g+d'+2)=2*((m+1)*2 ^ (g+d'+1)):=by rw[hpp,Nat.mul_left_comm]
  have u1:2*Q+1<(m+1)*2 ^ (g+d'+2):=by omega
  obtain⟨hb,_,_⟩:=fw_beside m (2*Q+1) (g+d'+2) (-(K:Int)-1) p hc (by omega) (by omega) (by omega) (by omega) u1
  rw[hb,kept_above m _ (g+d'+2) (by rw[show g+d'+2-1=g+d'+1 by omega];omega) u1]
  omega
theorem ratio_below(A C m g v:Nat)(p:Int)(hc:Canon m p)(hp:p=(g:Int)-v)(hA:0<A)(hC:0<C)(h1:m*2 ^ g*C≤A*2 ^ v)(h2:A*2 ^ (v+1)<(2*m+1)*2 ^ g*C):ratioW A C=rung m p:=by
 obtain⟨K,hK1,hK2⟩:∃K,v+1≤K∧9007199254740992≤A*2 ^ K / C:=by
  refine⟨v+1+(53+C),by omega,?_⟩
  have a1:C≤2 ^ C:=Nat.le_of_lt Nat.lt_two_pow_self
  have a2:C*2 ^ 53≤A*2 ^ (v+1+(53+C)):=by
   have b1:C*2 ^ 53≤2 ^ C*2 ^ 53:=Nat.mul_le_mul_right _ a1
   have b2:2 ^ C*2 ^ 53≤2 ^ (v+1+(53+C)):=by rw[←Nat.pow_add];exact Nat.pow_le_pow_right (by omega) (by omega)
   have b3:1*2 ^ (v+1+(53+C))≤A*2 ^ (v+1+(53+C)):=Nat.mul_le_mul_right _ hA
   rw[Nat.one_mul]at b3
   exact Nat.le_trans (Nat.le_trans b1 b2) b3
  rw[show(9007199254740992:Nat)=2 ^ 53 from rfl,Nat.le_div_iff_mul_le hC,Nat.mul_comm]
  exact a2
 obtain⟨d',hd'⟩:∃d',K=v+1+d':=⟨K-(v+1),by omega⟩
 have hQlo:m*2 ^ (g+d'+1)≤A*2 ^ K / C:=by
  rw[Nat.le_div_iff_mul_le hC]
  have e:m*2 ^ (g+d'+1)*C=(m*2 ^ g*C)*2 ^ (d'+1):=by
   rw[show g+d'+1=g+(d'+1) by omega,Nat.pow_add,←Nat.mul_assoc,Nat.mul_right_comm]
  have e2:A*2 ^ K=A*2 ^ v*2 ^ (d'+1):=by rw[hd',show v+1+d'=v+(d'+1) by omega,Nat.pow_add,Nat.mul_assoc]
  rw[e,e2]
  exact Nat.mul_le_mul_right _ h1
 have hQhi:A*2 ^ K / C<m*2 ^ (g+d'+1)+2 ^ (g+d'):=by
  rw[Nat.div_lt_iff_lt_mul hC]
  have e:(m*2 ^ (g+d'+1)+2 ^ (g+d'))*C=((2*m+1)*2 ^ g*C)*2 ^ d':=by
   rw[Nat.pow_succ,Nat.pow_add]
   have:m*(2 ^ g*2 ^ d'*2)+2 ^ g*2 ^ d'=(2*m+1)*(2 ^ g*2 ^ d'):=by
    rw[Nat.add_mul,Nat.one_mul,Nat.mul_comm (2 ^ g*2 ^ d') 2,←Nat.mul_assoc,Nat.mul_comm m 2]
   rw[this,←Nat.mul_assoc,Nat.mul_right_comm]
  have e2:A*2 ^ K=A*2 ^ (v+1)*2 ^ d':=by rw[hd',Nat.pow_add,Nat.mul_assoc]
  rw[e,e2]
  exact Nat.mul_lt_mul_of_pos_right h2 (Nat.two_pow_pos _)
 have hpq:2 ^ (g+d'+1)=2*2 ^ (g+d'):=by rw[←Nat.pow_succ']
 have hp53:0<2 ^ (g+d'):=Nat.two_pow_pos _
 have hup:∀x,x<m*2 ^ (g+d'+1)+2 ^ (g+d')→x<(m+1)*2 ^ (g+d'+1):=fun x hx=>by rw[Nat.add_mul,Nat.one_mul];omega
 rw[ratio_long_at A C K hA hC hK2]
 split
 ·obtain⟨hb,_,_⟩:=fw_beside m (A*2 ^ K / C) (g+d'+1) (-(K:Int)) p hc (by omega) (by omega) (by omega) hQlo (hup _ hQhi)
  rw[hb,kept_below m _ (g+d'+1) (by omega) hQlo (by rw[Nat.add_sub_cancel];exact hQhi)]
  omega
 ·obtain⟨Q,hQ⟩:∃Q,Q=A*2 ^ K / C:=⟨_,rfl⟩
  rw[←hQ]at hQlo hQhi hK2 ⊢
  have hpp:2 ^ (g+d'+2)=2*2 ^ (g+d'+1):=by rw[←Nat.pow_succ']
  have e1:m*2 ^ (g+d'+2)=2*(m*2 ^ (g+d'+1)):=by rw[hpp,Nat.mul_left_comm]
  have e2:(m+1)*2 ^ (g+d'+2)=2*((m+1)*2 ^ (g+d'+1)):=by rw[hpp,Nat.mul_left_comm]
  have u0:=hup Q hQhi
  have u1:2*Q+1<(m+1)*2 ^ (g+d'+2):=by omega
  obtain⟨hb,_,_⟩:=fw_beside m (2*Q+1) (g+d'+2) (-(K:Int)-1) p hc (by omega) (by omega) (by omega) (by omega) u1
  rw[hb,kept_below m _ (g+d'+2) (by omega) (by omega) (by rw[show g+d'+2-1=g+d'+1 by omega];omega)]
  omega
end Go.Proofs.YtenbfookfcmpoaaGreatDoor
namespace Go.Proofs.YtenbfookfcmpoaaGreatDoor
open Go.ChangeShapes Go.WideShapes Go.RowKit
set_option maxHeartbeats 2000000 in
set_option maxRecDepth 100000 in
theorem signed_nan(v:Value)(m e:Int)(w:World) :
  Calls Tryz.prog 33 #[.agg #[.int .i64 3,.bool false,.int .i64 m,.int .i64 e],v] w fun r w'=>r=.returned (.string ⟨#[110,97,110]⟩)∧Below w.heap.size w w':=by
 go_enter Tryz.func33,Tryz.ntmps33
 go_wp2
 go_ret
 exact⟨rfl,(Below.refl _ _).alloc (Nat.le_refl _) _⟩
set_option maxHeartbeats 2000000 in
set_option maxRecDepth 100000 in
theorem signed_inf(v:Value)(s:Bool)(m e:Int)(w:World) :
  Calls Tryz.prog 33 #[.agg #[.int .i64 2,.bool s,.int .i64 m,.int .i64 e],v] w fun r w'=>r=.returned (.string (sgnB s++⟨#[105,110,102]⟩))∧Below w.heap.size w w':=by
 cases s
 ·go_enter Tryz.func33,Tryz.ntmps33
  go_wp2
  go_ret
  exact⟨rfl,(Below.refl _ _).alloc (Nat.le_refl _) _⟩
 ·go_enter Tryz.func33,Tryz.ntmps33
  go_wp2
  go_ret
  exact⟨rfl,(Below.refl _ _).alloc (Nat.le_refl _) _⟩
theorem meth_plain(v:Value)(w:World):(Go.method 407 139 v "loop.example/grain/impl.write").run Tryz.prog w=.ok (214,v) w:=by kernel_rfl
set_option maxHeartbeats 2000000 in
set_option maxRecDepth 100000 in
theorem signed_plain(v:Value)(k:Int)(hk:k=0∨k=1)(s:Bool)(m e:Int)(T:ByteArray)(hT:T.size≤100000)(w:World)(h:∀W,Below w.heap.size w W→Calls Tryz.prog 214 #[v] W fun r w'=>r=.returned (.string T)∧Below W.heap.size W w') :
  Calls Tryz.prog 33 #[.agg #[.int .i64 k,.bool s,.int .i64 m,.int .i64 e],.iface 139 v] w fun r w'=>r=.returned (.string (sgnB s++T))∧Below w.heap.size w w':=by
 have hm:=fun w=>meth_plain v w
 have hk3:(k==3)=false:=beq_eq_false_iff_ne.2 (by omega)
 have hk2:(k==2)=false:=beq_eq_false_iff_ne.2 (by omega)
 have hk3':¬k=3:=by omega
 have hk2':¬k=2:=by omega
 have HS:Hid (w.heap.size<(w.alloc (.cells #[.int .i64 k,.bool s,.int .i64 m,.int .i64 e] 65)).heap.size∧Below w.heap.size w (w.alloc (.cells #[.int .i64 k,.bool s,.int .i64 m,.int .i64 e] 65))):=⟨by simp,(Below.refl _ _).alloc (Nat.le_refl _) _⟩
 have HC:Hid ((w.alloc (.cells #[.int .i64 k,.bool s,.int .i64 m,.int .i64 e] 65)).cell? ⟨w.heap.size,1,none⟩=some (.bool s)):=by
  show _=_
  simp[go_sem]
 have HW:Hid _:=h (w.alloc (.cells #[.int .i64 k,.bool s,.int .i64 m,.int .i64 e] 65)) HS.out.2
 clear h hk
 go_enter Tryz.func33,Tryz.ntmps33
 go_wp2_with fail
 refine Calls.mono HW.out ?_
 rintro r W1 ⟨rfl,hb⟩
 have hc1:W1.cell? ⟨w.heap.size,1,none⟩=some (.bool s):=(hb.cell (p:=⟨w.heap.size,1,none⟩) HS.out.1).trans HC.out
 have HB:Hid (Below w.heap.size w W1):=HS.out.2.trans (hb.mono (Nat.le_of_lt HS.out.1))
 clear hb hm
 cases s
 ·have E0:Hid (sgnB false++T=T):=bytes_ext _ _ (by rw[append_list];rfl)
  go_wp2
  go_ret
  exact⟨by rw[E0.out];rfl,HB.out⟩
 ·go_wp2
  go_ret
  exact⟨rfl,HB.out⟩
theorem meth_power(v:Value)(w:World):(Go.method 407 137 v "loop.example/grain/impl.write").run Tryz.prog w=.ok (211,v) w:=by kernel_rfl
set_option maxHeartbeats 2000000 in
set_option maxRecDepth 100000 in
theorem signed_power(v:Value)(k:Int)(hk:k=0∨k=1)(s:Bool)(m e:Int)(T:ByteArray)(hT:T.size≤100000)(w:World)(h:∀W,Below w.heap.size w W→Calls Tryz.prog 211 #[v] W fun r w'=>r=.returned (.string T)∧Below W.heap.size W w') :
  Calls Tryz.prog 33 #[.agg #[.int .i64 k,.bool s,.int .i64 m,.int .i64 e],.iface 137 v] w fun r w'=>r=.returned (.string (sgnB s++T))∧Below w.heap.size w w':=by
 have hm:=fun w=>meth_power v w
 have hk3:(k==3)=false:=beq_eq_false_iff_ne.2 (by omega)
 have hk2:(k==2)=false:=beq_eq_false_iff_ne.2 (by omega)
 have hk3':¬k=3:=by omega
 have hk2':¬k=2:=by omega
 have HS:Hid (w.heap.size<(w.alloc (.cells #[.int .i64 k,.bool s,.int .i64 m,.int .i64 e] 65)).heap.size∧Below w.heap.size w (w.alloc (.cells #[.int .i64 k,.bool s,.int .i64 m,.int .i64 e] 65))):=⟨by simp,(Below.refl _ _).alloc (Nat.le_refl _) _⟩
 have HC:Hid ((w.alloc (.cells #[.int .i64 k,.bool s,.int .i64 m,.int .i64 e] 65)).cell? ⟨w.heap.size,1,none⟩=some (.bool s)):=by
  show _=_
  simp[go_sem]
 have HW:Hid _:=h (w.alloc (.cells #[.int .i64 k,.bool s,.int .i64 m,.int .i64 e] 65)) HS.out.2
 clear h hk
 go_enter Tryz.func33,Tryz.ntmps33
 go_wp2_with fail
 refine Calls.mono HW.out ?_
 rintro r W1 ⟨rfl,hb⟩
 have hc1:W1.cell? ⟨w.heap.size,1,none⟩=some (.bool s):=(hb.cell (p:=⟨w.heap.size,1,none⟩) HS.out.1).trans HC.out
 have HB:Hid (Below w.heap.size w W1):=HS.out.2.trans (hb.mono (Nat.le_of_lt HS.out.1))
 clear hb hm
 cases s
 ·have E0:Hid (sgnB false++T=T):=bytes_ext _ _ (by rw[append_list];rfl)
  go_wp2
  go_ret
  exact⟨by rw[E0.out];rfl,HB.out⟩
 ·go_wp2
  go_ret
  exact⟨rfl,HB.out⟩
theorem meth_hex(v:Value)(w:World):(Go.method 407 264 v "loop.example/grain/impl.write").run Tryz.prog w=.ok (229,v) w:=by kernel_rfl
set_option maxHeartbeats 2000000 in
set_option maxRecDepth 100000 in
theorem signed_hex(v:Value)(k:Int)(hk:k=0∨k=1)(s:Bool)(m e:Int)(T:ByteArray)(hT:T.size≤100000)(w:World)(h:∀W,Below w.heap.size w W→Calls Tryz.prog 229 #[v] W fun r w'=>r=.returned (.string T)∧Below W.heap.size W w') :
  Calls Tryz.prog 33 #[.agg #[.int .i64 k,.bool s,.int .i64 m,.int .i64 e],.iface 264 v] w fun r w'=>r=.returned (.string (sgnB s++T))∧Below w.heap.size w w':=by
 have hm:=fun w=>meth_hex v w
 have hk3:(k==3)=false:=beq_eq_false_iff_ne.2 (by omega)
 have hk2:(k==2)=false:=beq_eq_false_iff_ne.2 (by omega)
 have hk3':¬k=3:=by omega
 have hk2':¬k=2:=by omega
 have HS:Hid (w.heap.size<(w.alloc (.cells #[.int .i64 k,.bool s,.int .i64 m,.int .i64 e] 65)).heap.size∧Below w.heap.size w (w.alloc (.cells #[.int .i64 k,.bool s,.int .i64 m,.int .i64 e] 65))):=⟨by simp,(Below.refl _ _).alloc (Nat.le_refl _) _⟩
 have HC:Hid ((w.alloc (.cells #[.int .i64 k,.bool s,.int .i64 m,.int .i64 e] 65)).cell? ⟨w.heap.size,1,none⟩=some (.bool s)):=by
  show _=_
  simp[go_sem]
 have HW:Hid _:=h (w.alloc (.cells #[.int .i64 k,.bool s,.int .i64 m,.int .i64 e] 65)) HS.out.2
 clear h hk
 go_enter Tryz.func33,Tryz.ntmps33
 go_wp2_with fail
 refine Calls.mono HW.out ?_
 rintro r W1 ⟨rfl,hb⟩
 have hc1:W1.cell? ⟨w.heap.size,1,none⟩=some (.bool s):=(hb.cell (p:=⟨w.heap.size,1,none⟩) HS.out.1).trans HC.out
 have HB:Hid (Below w.heap.size w W1):=HS.out.2.trans (hb.mono (Nat.le_of_lt HS.out.1))
 clear hb hm
 cases s
 ·have E0:Hid (sgnB false++T=T):=bytes_ext _ _ (by rw[append_list];rfl)
  go_wp2
  go_ret
  exact⟨by rw[E0.out];rfl,HB.out⟩
 ·go_wp2
  go_ret
  exact⟨rfl,HB.out⟩
def ReadQ(s:ByteArray)(w:World)(e:Ending)(w':World):Prop:=∃ok pl fl x,ReadA s ok pl fl∧fl x∧x<18446744073709551616∧e=.returned (.agg #[.bool ok,.int .i64 pl,.float .f64 x])∧Below w.heap.size w w'
end Go.Proofs.YtenbfookfcmpoaaGreatDoor
namespace Go.Proofs.YtenbfookfcmpoaaGreatDoor
open Go.RowKit Go.Shelf
structure Bd (w:World) (B b o:Nat) (T:TypeId) (cs:Array Value) (v:Value) (out:List Value):Prop where
 base:B≤b
 blk:w.heap[b]? = some (.cells cs T (0,0))
 adr:cs[o]? = some (.pointer none)∨cs[o]? = some (.pointer (some ⟨b,o,none⟩))
 buf:cs[o+1]? = some v
 own:w.ownsRowF B 5 1 v out.length out
 lies:liesAt Tryz.prog Tryz.prog.depth T (cs.size / Tryz.prog.cellsOf T) o 95 1=true
 ne8:T≠5
section
variable {w w':World} {B b o:Nat} {T:TypeId} {cs:Array Value} {v:Value} {out:List Value}
theorem Bd.ne(h:Bd w B b o T cs v out):v.ownBlock≠some b:=Lib.ownBlock_neF h.own h.blk h.ne8
theorem Bd.lt(h:Bd w B b o T cs v out):b<w.heap.size:=(Array.getElem?_eq_some_iff.1 h.blk).1
theorem Bd.osz(h:Bd w B b o T cs v out):o+1<cs.size:=(Array.getElem?_eq_some_iff.1 h.buf).1
theorem Bd.c1(h:Bd w B b o T cs v out):w.cell? ⟨b,o+1,none⟩=some v:=by rw[cell_of_heap h.blk];exact h.buf
theorem Bd.fz(h:Bd w B b o T cs v out)(i:Nat):w.frozen? ⟨b,i,none⟩=false:=frozen_of_heap h.blk i
theorem Bd.shape(h:Bd w B b o T cs v out):w.shape? b=some (T,cs.size):=by have:=h.blk;simp[World.shape?,this]
theorem Bd.drew(h:Bd w B b o T cs v out):Bd w.drew B b o T cs v out:=⟨h.base,h.blk,h.adr,h.buf,h.own,h.lies,h.ne8⟩
theorem own_setRow{g:Nat}{xs:Array Value}{x:Value}{n:Nat}{l:List Value}(h:w.ownsRowF B 5 1 x n l)(hne:x.ownBlock≠some g):(w.setRow g xs).ownsRowF B 5 1 x n l:=by
 refine⟨h.1,?_⟩
 rcases h.2 with hn|⟨k,cap,cur,fz,rfl,hb,hg,rest⟩
 ·exact .inl hn
 ·refine .inr ⟨k,cap,cur,fz,rfl,hb,?_,rest⟩
  have hk:g≠k:=fun e=>hne (by simp[Value.ownBlock,e])
  unfold World.setRow
  simp only[Array.getElem?_modify,if_neg hk]
  exact hg
theorem Bd.used(h:Bd w B b o T cs v out):Bd (w.setCell ⟨b,o,none⟩ (.pointer (some ⟨b,o,none⟩))) B b o T (cs.setIfInBounds o (.pointer (some ⟨b,o,none⟩))) v out:=by
 have hz:=h.osz
 have e:=setCell_eq_setRow w b o cs T (0,0) (.pointer (some ⟨b,o,none⟩)) h.blk
 refine⟨h.base,?_,.inr ?_,?_,?_,?_,h.ne8⟩
 ·rw[e];exact setRow_heap w b _ _ T (0,0) h.blk
 ·rw[Array.getElem?_setIfInBounds_self_of_lt (by omega)]
 ·rw[Array.getElem?_setIfInBounds_ne (by omega)];exact h.buf
 ·rw[e];exact own_setRow h.own h.ne
 ·rw[Array.size_setIfInBounds];exact h.lies
theorem Bd.put(h:Bd w B b o T cs v out)(hb2:w'.heap[b]? = some (.cells cs T (0,0))){v':Value}{out':List Value}(hown:w'.ownsRowF B 5 1 v' out'.length out'):Bd (w'.setCell ⟨b,o+1,none⟩ v') B b o T (cs.setIfInBounds (o+1) v') v' out':=by
 have hz:=h.osz
 have e:=setCell_eq_setRow w' b (o+1) cs T (0,0) v' hb2
 have hne:v'.ownBlock≠some b:=Lib.ownBlock_neF hown hb2 h.ne8
 refine⟨h.base,?_,?_,?_,?_,?_,h.ne8⟩
 ·rw[e];exact setRow_heap w' b _ _ T (0,0) hb2
 ·rw[Array.getElem?_setIfInBounds_ne (by omega)];exact h.adr
 ·rw[Array.getElem?_setIfInBounds_self_of_lt hz]
 ·rw[e];exact own_setRow hown hne
 ·rw[Array.size_setIfInBounds];exact h.lies
end
set_option maxHeartbeats 2000000 in
set_option maxRecDepth 100000 in
theorem gCopyK_any(B b o:Nat)(T:TypeId)(cs:Array Value)(v:Value)(out:List Value)(w:World)(h:Bd w B b o T cs v out) :
  Calls Tryz.prog 119 #[.pointer (some ⟨b,o,none⟩)] w fun e w'=>e=.returned (.tuple #[])∧Bd w' B b o T (cs.setIfInBounds o (.pointer (some ⟨b,o,none⟩))) v out∧Below B w w'∧Lib.OthersKept 5 (some b) w w':=by
 obtain⟨j,hj,hjs⟩:=Option.map_eq_some_iff.1 strExtra.sizeBuilder
 have hsh:=h.shape
 have hz:=h.osz
 have hlies:=h.lies
 have HU:Hid (Bd (w.setCell ⟨b,o,none⟩ (.pointer (some ⟨b,o,none⟩))) B b o T (cs.setIfInBounds o (.pointer (some ⟨b,o,none⟩))) v out):=h.used
 have HB:Hid (Bd w B b o T cs v out):=h
 have hfz:=h.fz o
 have hadr:=h.adr
 have hblk:=h.blk
 clear h
 rcases hadr with ha|ha
 ·have h0:w.cell? ⟨b,o,none⟩=some (.pointer none):=by rw[cell_of_heap hblk];exact ha
  clear hblk ha
  go_enter Tryz.func119,Tryz.ntmps119
  go_wp2
  rw[Lib.run_to_unsafe w ⟨b,o,none⟩ Tryz.underlying93 Tryz.underlying174 hj (by rw[hjs];decide) hsh (by show o<cs.size;omega)]
  simp only[Result.andThen]
  rw[Oper.upon_value]
  go_wp2
  rw[run_callFunc_extern Tryz.func141 (by kernel_rfl) (by kernel_rfl) (by kernel_rfl) (e:=Extern.AbiNoEscape.same) (by kernel_rfl)]
  rw[Lib.run_noEscape]
  simp only[Result.andThen]
  rw[Oper.upon_value]
  go_wp2
  rw[Lib.run_from_unsafe w ⟨b,o,none⟩ Tryz.underlying174 Tryz.underlying93 hj hsh hlies]
  simp only[Result.andThen]
  rw[Oper.upon_value]
  have hc:(w.setCell ⟨b,o,none⟩ (.pointer (some ⟨b,o,none⟩))).cell? ⟨b,o,none⟩=some (.pointer (some ⟨b,o,none⟩)):=World.cell?_setCell_same' _ _ _ (by rw[h0];rfl)
  go_wp2
  go_end0
  exact⟨rfl,HU.out,(Below.refl B w).setCell (p:=⟨b,o,none⟩) HB.out.base _,(Lib.OthersKept.refl _ _ w).setCell ⟨b,o,none⟩ rfl _⟩
 ·have h0:w.cell? ⟨b,o,none⟩=some (.pointer (some ⟨b,o,none⟩)):=by rw[cell_of_heap hblk];exact ha
  have HE:Hid (cs.setIfInBounds o (.pointer (some ⟨b,o,none⟩))=cs):=by
   apply Array.ext
   ·simp
   ·intro i h1 h2
    by_cases hi:o=i
    ·subst hi
     rw[Array.getElem_setIfInBounds_self]
     exact((Array.getElem?_eq_some_iff.1 ha).2).symm
    ·rw[Array.getElem_setIfInBounds_ne _ hi]
  clear hblk ha
  go_enter Tryz.func119,Tryz.ntmps119
  go_wp2
  rw[Lib.run_neq_ptr_same w _ Tryz.underlying93 hj]
  go_wp2
  go_end0
  exact⟨rfl,by rw[HE.out];exact HB.out,Below.refl B _,Lib.OthersKept.refl _ _ _⟩
theorem gCopy_any(B b o:Nat)(T:TypeId)(cs:Array Value)(v:Value)(out:List Value)(w:World)(h:Bd w B b o T cs v out) :
  Calls Tryz.prog 119 #[.pointer (some ⟨b,o,none⟩)] w fun e w'=>e=.returned (.tuple #[])∧Bd w' B b o T (cs.setIfInBounds o (.pointer (some ⟨b,o,none⟩))) v out∧Below B w w':=
 (gCopyK_any B b o T cs v out w h).mono fun _ _ ⟨a,b,c,_⟩=>⟨a,b,c⟩
set_option maxHeartbeats 2000000 in
set_option maxRecDepth 100000 in
theorem gByte_any(B b o:Nat)(T:TypeId)(cs:Array Value)(v:Value)(out:List Value)(c:Int)(w:World)(h:Bd w B b o T cs v out)(hlen:out.length+1≤100000000)(hBw:B≤w.heap.size) :
  Calls Tryz.prog 82 #[.pointer (some ⟨b,o,none⟩),.int .u8 c] w fun e w'=>e=.returned .nilIface∧∃v',Bd w' B b o T ((cs.setIfInBounds o (.pointer (some ⟨b,o,none⟩))).setIfInBounds (o+1) v') v' (out++[.int .u8 c])∧Below B w w':=by
 obtain⟨i0,hi,hz0,hz1,hz2⟩:=info_parts strExtra.infoByte
 go_enter Tryz.func82,Tryz.ntmps82
 go_wp2_with (go_at_call 119;refine(gCopy_any B b o T cs v out _ h).mono ?_)
 rintro e w1 ⟨rfl,h1,hb1⟩
 have c1:=h1.c1
 have hown:=h1.own
 go_wp2_with (at_builtin;refine wpList_append_ownF _ rfl _ _ 22 rfl B 5 i0 (.int .u8 0) 1 1 Tryz.underlying22 hi hz0 hz1 hz2 rfl (by decide) _ _ _ rfl (hown.alloc _) ⟨w1.heap.size,0,none⟩ 1 1 [.int .u8 c] rfl rfl ?c1 ?c2 ?c3 ?c4 ?c5 ?_)
 case c1=>
  intro j u hj
  match j,hj with
  | 0,hj=>simp at hj;subst hj;simp[Addr.add]
 case c2=>intro u hu;simp at hu;subst hu;rfl
 case c3=>unfold maxLen;omega
 case c4=>omega
 case c5=>have:=hb1.size;simp;omega
 intro v' w2 hown' hgrow _
 have hlt:=h1.lt
 have hb2:w2.heap[b]? = some (.cells (cs.setIfInBounds o (.pointer (some ⟨b,o,none⟩))) T (0,0)):=by
  rw[hgrow.block b (by simp;omega) (fun e=>h1.ne e.symm),Lib.alloc_old w1 _ b hlt]
  exact h1.blk
 have hs2:(cs.setIfInBounds o (.pointer (some ⟨b,o,none⟩)))[o+1]? = some v:=h1.buf
 have d1:w2.cell? ⟨b,o+1,none⟩=some v:=by rw[cell_of_heap hb2];exact hs2
 have f1:w2.frozen? ⟨b,o+1,none⟩=false:=frozen_of_heap hb2 (o+1)
 obtain⟨ao,n',cap,rfl⟩:∃ao n' cap,v'=.slice ao n' cap:=by
  rcases hown'.2 with⟨hv,_⟩|⟨g,cap,cur,fz,hv,_⟩
  ·exact⟨_,_,_,hv⟩
  ·exact⟨_,_,_,hv⟩
 go_wp2
 go_ret
 refine⟨rfl,_,h1.put hb2 (out':=out++[.int .u8 c]) (by simpa using hown'),?_⟩
 exact((hb1.alloc (by have:=hb1.size;omega) _).grown hgrow (by have:=hb1.size;simp;omega) (fun k hk=>(hown.lt k hk).1)).setCell (p:=⟨b,o+1,none⟩) h1.base _
set_option maxHeartbeats 2000000 in
set_option maxRecDepth 100000 in
theorem gTextK_any(B b o:Nat)(T:TypeId)(cs:Array Value)(v:Value)(out:List Value)(s:ByteArray)(w:World)(h:Bd w B b o T cs v out)(hlen:out.length+s.size≤100000000)(hBw:B≤w.heap.size) :
  Calls Tryz.prog 144 #[.pointer (some ⟨b,o,none⟩),.string s] w fun e w'=>e=.returned (.tuple #[.int .i64 (s.size:Int),.nilIface])∧∃v',Bd w' B b o T ((cs.setIfInBounds o (.pointer (some ⟨b,o,none⟩))).setIfInBounds (o+1) v') v' (out++Lib.strCells s)∧Below B w w'∧Lib.OthersKept 5 (some b) w w':=by
 obtain⟨i0,hi,hz0,hz1,hz2⟩:=info_parts strExtra.infoByte
 go_enter Tryz.func144,Tryz.ntmps144
 go_wp2_with (go_at_call 119;refine(gCopyK_any B b o T cs v out _ h).mono ?_)
 rintro e w1 ⟨rfl,h1,hb1,hk1⟩
 have c1:=h1.c1
 have hown:=h1.own
 go_wp2_with (at_builtin;refine Lib.wpList_append_own_stringF _ rfl _ _ 22 9 rfl B 5 i0 Tryz.underlying22 Tryz.underlying9 hi hz0 hz1 hz2 _ _ _ rfl hown s rfl ?c3 ?c4 ?c5 ?_)
 case c3=>unfold maxLen;omega
 case c4=>omega
 case c5=>have:=hb1.size;omega
 intro v' w2 hown' hgrow _
 have hlt:=h1.lt
 have hb2:w2.heap[b]? = some (.cells (cs.setIfInBounds o (.pointer (some ⟨b,o,none⟩))) T (0,0)):=by
  rw[hgrow.block b hlt (fun e=>h1.ne e.symm)]
  exact h1.blk
 have hs2:(cs.setIfInBounds o (.pointer (some ⟨b,o,none⟩)))[o+1]? = some v:=h1.buf
 have d1:w2.cell? ⟨b,o+1,none⟩=some v:=by rw[cell_of_heap hb2];exact hs2
 have f1:w2.frozen? ⟨b,o+1,none⟩=false:=frozen_of_heap hb2 (o+1)
 obtain⟨ao,n',cap,rfl⟩:∃ao n' cap,v'=.slice ao n' cap:=by
  rcases hown'.2 with⟨hv,_⟩|⟨g,cap,cur,fz,hv,_⟩
  ·exact⟨_,_,_,hv⟩
  ·exact⟨_,_,_,hv⟩
 go_wp2
 go_ret2
 refine⟨rfl,_,h1.put hb2 (out':=out++Lib.strCells s) (by simpa [Lib.strCells_length] using hown'),?_,(hk1.grown hgrow (Lib.ownsRowF_kind hown)).setCell ⟨b,o+1,none⟩ rfl _⟩
 exact(hb1.grown hgrow (by have:=hb1.size;omega) (fun k hk=>(hown.lt k hk).1)).setCell (p:=⟨b,o+1,none⟩) h1.base _
theorem gText_any(B b o:Nat)(T:TypeId)(cs:Array Value)(v:Value)(out:List Value)(s:ByteArray)(w:World)(h:Bd w B b o T cs v out)(hlen:out.length+s.size≤100000000)(hBw:B≤w.heap.size) :
  Calls Tryz.prog 144 #[.pointer (some ⟨b,o,none⟩),.string s] w fun e w'=>e=.returned (.tuple #[.int .i64 (s.size:Int),.nilIface])∧∃v',Bd w' B b o T ((cs.setIfInBounds o (.pointer (some ⟨b,o,none⟩))).setIfInBounds (o+1) v') v' (out++Lib.strCells s)∧Below B w w':=
 (gTextK_any B b o T cs v out s w h hlen hBw).mono fun _ _ ⟨a,v',b,c,_⟩=>⟨a,v',b,c⟩
set_option maxHeartbeats 400000 in
theorem gLen_any(B b o:Nat)(T:TypeId)(cs:Array Value)(v:Value)(out:List Value)(w:World)(h:Bd w B b o T cs v out) :
  Calls Tryz.prog 172 #[.pointer (some ⟨b,o,none⟩)] w fun e w'=>e=.returned (.int .i64 (out.length:Int))∧w'=w:=by
 have c1:=h.c1
 obtain⟨ao,cap,hv⟩:∃ao cap,v=.slice ao out.length cap:=by
  rcases h.own.2 with⟨hv,e⟩|⟨g,cap,cur,fz,hv,_⟩
  ·exact⟨_,_,by rw[hv,e]⟩
  ·exact⟨_,_,hv⟩
 rw[hv]at c1
 clear h hv
 go_enter Tryz.func172,Tryz.ntmps172
 go_wp2
 go_ret
 exact⟨rfl,rfl⟩
end Go.Proofs.YtenbfookfcmpoaaGreatDoor
