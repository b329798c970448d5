import Derived.Test.YtenbfookfcmpoaaGreatDoorF23
import Derived.Test.YtenbfookfcmpoaaGreatDoorF38
import Derived.Test.YtenbfookfcmpoaaGreatDoorF37
import Derived.Test.YtenbfookfcmpoaaGreatDoorF30
import Derived.Test.YtenbfookfcmpoaaGreatDoorF36
import Derived.OpenShut
namespace Go.Proofs.YtenbfookfcmpoaaGreatDoor
open Go.ChangeShapes Go.WideShapes Go.RowKit
open Ieee (double)
set_option maxHeartbeats 400000 in
theorem fixed_out(x:Nat)(n:Int)(h:n<0∨400<n)(w:World) :
  Calls Tryz.prog 48 #[.float .f64 x,.int .i64 n] w fun e w'=>e=.returned (.string ⟨#[]⟩)∧Below w.heap.size w w':=by
 rcases h with h|h
 all_goals
  go_enter Tryz.func48,Tryz.ntmps48
  go_wp2
  go_ret
  exact⟨rfl,Below.refl _ _⟩
set_option maxHeartbeats 400000 in
theorem fixed_nan(x:Nat)(n:Int)(hn1:0≤n)(hn2:n≤400)(hx:IsNan x)(w:World) :
  Calls Tryz.prog 48 #[.float .f64 x,.int .i64 n] w fun e w'=>e=.returned (.string ⟨#[110,97,110]⟩)∧Below w.heap.size w w':=by
 have H1:Hid _:=fun w=>l5size_nan x hx w
 have H2:Hid _:=fun w=>l5odd_nan x hx w
 clear hx
 go_enter Tryz.func48,Tryz.ntmps48
 go_wp2_with fail
 refine(H1.out _).mono ?_
 rintro e w1 ⟨rfl,rfl⟩
 go_wp2_with fail
 refine(H2.out _).mono ?_
 rintro e w1 ⟨rfl,rfl⟩
 go_wp2
 go_ret
 exact⟨rfl,Below.refl _ _⟩
set_option maxHeartbeats 400000 in
theorem fixed_inf(s:Bool)(n:Int)(hn1:0≤n)(hn2:n≤400)(w:World) :
  Calls Tryz.prog 48 #[.float .f64 (iw s),.int .i64 n] w fun e w'=>e=.returned (.string (sgnB s++⟨#[105,110,102]⟩))∧Below w.heap.size w w':=by
 have H1:Hid (∀w,Calls Tryz.prog 85 #[.float .f64 (iw s)] w fun e w'=>e=.returned (.tuple #[.float .f64 9218868437227405312,.string (sgnB s)])∧w'=w):=fun w=>l5size_any s 9218868437227405312 (by omega) w
 have H2:Hid _:=fun w=>l5odd_inf w
 have z3:=sgnB_size s
 generalize sgnB s=S at *
 generalize iw s=X at *
 go_enter Tryz.func48,Tryz.ntmps48
 go_wp2_with fail
 refine(H1.out _).mono ?_
 rintro e w1 ⟨rfl,rfl⟩
 go_wp2_with fail
 refine(H2.out _).mono ?_
 rintro e w1 ⟨rfl,rfl⟩
 go_wp2
 go_ret
 exact⟨rfl,Below.refl _ _⟩
def fixedV(x:Nat)(n:Int)(t:ByteArray):Prop:=
 ((n<0∨400<n)∧t=⟨#[]⟩)∨((0≤n∧n≤400)∧((IsNan x∧t=⟨#[110,97,110]⟩)∨(∃s,x=iw s∧t=sgnB s++⟨#[105,110,102]⟩)∨(∃s,x=signBit s∧t=sgnB s++fixB ⟨#[]⟩ 1 n.toNat)
 ∨ (∃ (s:Bool) (m:Nat) (p:Int) (q k:Nat) (ds:ByteArray) (pow:Int) (d:ByteArray) (p':Int),Canon m p∧0<m∧x=fw s m p∧m=q*2 ^ k∧q % 2=1∧ExD ds pow q (p+k)∧FixD ds pow n.toNat d p'∧t=sgnB s++fixB d p' n.toNat)))
theorem specFixed_any(x:Nat)(hx:x<18446744073709551616)(n:Int)(w:World) :
  Calls Tryz.prog 48 #[.float .f64 x,.int .i64 n] w fun e w'=>∃t,fixedV x n t∧t.size≤5000∧e=.returned (.string t)∧Below w.heap.size w w':=by
 by_cases ho:n<0∨400<n
 ·refine(fixed_out x n ho w).mono ?_
  rintro e w' ⟨rfl,hb⟩
  exact⟨_,.inl ⟨ho,rfl⟩,by decide,rfl,hb⟩
 ·have h1:0≤n:=by omega
  have h2:n≤400:=by omega
  obtain⟨k,rfl⟩:=Int.eq_ofNat_of_zero_le h1
  rcases float_cases x hx with h|⟨s,rfl⟩|⟨s,m,p,hc,rfl⟩
  ·refine(fixed_nan x _ h1 h2 h w).mono ?_
   rintro e w' ⟨rfl,hb⟩
   exact⟨_,.inr ⟨⟨h1,h2⟩,.inl ⟨h,rfl⟩⟩,by decide,rfl,hb⟩
  ·refine(fixed_inf s _ h1 h2 w).mono ?_
   rintro e w' ⟨rfl,hb⟩
   exact⟨_,.inr ⟨⟨h1,h2⟩,.inr (.inl ⟨s,rfl,rfl⟩)⟩,by cases s<;>decide,rfl,hb⟩
  ·by_cases h0:m=0
   ·subst h0
    rw[fw_zero]
    have:=fixed_go s 0 true 0 0 k (by omega) (by omega) (fun w=>l5odd_num 0 (by omega) w) (fun h=>by cases h) w
    rw[Nat.add_zero]at this
    refine this.mono ?_
    rintro e w' ⟨t,p',hf,hz,rfl,hb⟩
    rcases hf with⟨_,rfl,rfl⟩|⟨h,_⟩
    ·exact⟨_,.inr ⟨⟨h1,h2⟩,.inr (.inr (.inl ⟨s,rfl,rfl⟩))⟩,hz,rfl,hb⟩
    ·cases h
   ·obtain⟨q,j,hq,hq1,hX⟩:=l5exact_any m p hc (by omega)
    have hfw:fw false m p=rung m p:=by rw[fw_canon _ _ _ hc];exact Nat.zero_add _
    have hfs:fw s m p=signBit s+rung m p:=fw_canon _ _ _ hc
    rw[hfw]at hX
    have hr:=rung_lt m p hc
    have:=fixed_go s (rung m p) false q (p+j) k (by omega) (by omega) (fun w=>by
     have:=l5odd_num (rung m p) hr w
     rw[decide_eq_false (fun h=>h0 (rung_zero m p h))]at this
     exact this) (fun _=>hX) w
    rw[←hfs]at this
    refine this.mono ?_
    rintro e w' ⟨t,p',hf,hz,rfl,hb⟩
    rcases hf with⟨h,_⟩|⟨_,ds,pow,hd,hfx⟩
    ·cases h
    ·exact⟨_,.inr ⟨⟨h1,h2⟩,.inr (.inr (.inr ⟨s,m,p,q,j,ds,pow,t,p',hc,by omega,rfl,hq,hq1,hd,hfx,rfl⟩))⟩,hz,rfl,hb⟩
end Go.Proofs.YtenbfookfcmpoaaGreatDoor
namespace Go.Proofs.YtenbfookfcmpoaaGreatDoor
open Go.RowKit
open Ieee (double)
theorem list_get(s:ByteArray)(j:Nat)(h:j<s.size):s.data.toList[j]'(by rw[data_len];exact h)=s[j]:=rfl
theorem good_extract(d:ByteArray)(i j:Nat)(hg:good 10 d.data.toList):good 10 (d.extract i j).data.toList:=fun c hc=>by
 rw[Lib.extract_eq]at hc
 exact hg c (List.mem_of_mem_drop (List.mem_of_mem_take hc))
theorem cut_good(ds:ByteArray)(pow:Int)(n:Nat)(up:Bool)(t:ByteArray)(p':Int)(hg:good 10 ds.data.toList)(h:cutV ds pow n up t p'):good 10 t.data.toList∧n≤t.size∧t.size≤n+1∧pow≤p'∧p'≤pow+1:=by
 rcases h with⟨_,rfl,rfl⟩|⟨_,more,⟨h1,_,h2,_⟩,rfl⟩
 ·refine⟨?_,by rw[padB_size];exact Nat.le_refl _,by rw[padB_size];omega,by omega,by omega⟩
  unfold padB
  rw[append_list,zerosB_list]
  refine good_app ?_ (zeros_good _)
  split
  ·exact good_extract ds _ _ hg
  ·exact hg
 ·rw[padB_size]at h2
  refine⟨h1,?_,?_,?_,?_⟩<;>cases more<;>simp at h2 ⊢ <;> omega
theorem fix_good(d:ByteArray)(p:Int)(k:Nat)(hg:good 10 d.data.toList):good 10 (fxE (fxD d p) (fxP p) k).data.toList:=by
 have h1:good 10 (fxD d p).data.toList:=by
  unfold fxD
  split
  ·rw[append_list];exact good_app (zeros_good _) hg
  ·exact hg
 unfold fxE
 split
 ·rw[append_list];exact good_app h1 (zeros_good _)
 ·exact h1
theorem rounds_half(ds:ByteArray)(N:Nat)(hN:N<ds.size)(hg:good 10 ds.data.toList)(R:Nat)(hv:valN 10 ds.data.toList=valN 10 (padB ds N).data.toList*10 ^ (ds.size-N)+R) :
  (roundsB ds (N:Int)=true→10 ^ (ds.size-N)≤2*R)∧(roundsB ds (N:Int)=false→2*R≤10 ^ (ds.size-N)):=by
 have hl:ds.data.toList.length=ds.size:=data_len ds
 have hdrop:ds.data.toList.drop N=ds[N] :: ds.data.toList.drop (N+1):=by
  rw[List.drop_eq_getElem_cons (by rw[hl];exact hN)]
  rfl
 obtain⟨_,R',hR',hv'⟩:=pad_val ds N hN hg
 have hRR:R=valN 10 (ds.data.toList.drop N):=by
  have e:(padB ds N).data.toList=ds.data.toList.take N:=by
   unfold padB
   rw[if_pos hN,append_list,show N-ds.size=0 by omega,Lib.extract_eq]
   show _++List.replicate 0 48=_
   simp
  have h1:=valN_append (ds.data.toList.take N) (ds.data.toList.drop N)
  rw[List.take_append_drop,List.length_drop,hl,←e]at h1
  omega
 have hc:=ten_digit ds[N] (hg ds[N] (by rw[←list_get ds N hN];exact List.getElem_mem _))
 have hg2:good 10 (ds.data.toList.drop (N+1)):=fun c hc=>hg c (List.mem_of_mem_drop hc)
 have hlt2:=valN_good_lt 10 _ hg2
 rw[List.length_drop,hl]at hlt2
 rw[hdrop,valN_cons,List.length_drop,hl]at hRR
 have hpow:10 ^ (ds.size-N)=10*10 ^ (ds.size-(N+1)):=by rw[show ds.size-N=(ds.size-(N+1))+1 by omega,Nat.pow_succ,Nat.mul_comm]
 obtain⟨g,hgd⟩:∃g:Nat,digN 99 (ds[N].toNat:Int)=(g:Int)∧ds[N].toNat=48+g∧g<10:=⟨ds[N].toNat-48,by omega,by omega,by omega⟩
 rw[hgd.1,Int.toNat_natCast]at hRR
 unfold roundsB
 rw[dif_pos ⟨by omega,by omega⟩]
 simp only[Int.toNat_natCast]
 generalize hP:10 ^ (ds.size-(N+1))=P at *
 generalize valN 10 (ds.data.toList.drop (N+1))=Z at *
 have hP0:0<P:=by rw[←hP];exact Nat.pow_pos (by omega)
 by_cases h5:ds[N].toNat≠53∨N+1<ds.size
 ·rw[if_pos h5]
  refine⟨fun h=>?_,fun h=>?_⟩
  ·have h53:=of_decide_eq_true h
   have:5*P≤g*P:=Nat.mul_le_mul_right _ (by omega)
   omega
  ·have h53:=of_decide_eq_false h
   have:g*P≤4*P:=Nat.mul_le_mul_right _ (by omega)
   omega
 ·rw[if_neg h5]
  have hg5:g=5:=by omega
  have hs1:ds.size-(N+1)=0:=by omega
  rw[hs1,Nat.pow_zero]at hP
  subst hP
  subst hg5
  exact⟨fun _=>by omega,fun _=>by omega⟩
end Go.Proofs.YtenbfookfcmpoaaGreatDoor
namespace Go.Proofs.YtenbfookfcmpoaaGreatDoor
open Go.ChangeShapes Go.WideShapes Go.RowKit
set_option maxHeartbeats 4000000 in
set_option maxRecDepth 100000 in
theorem round_any(ds:ByteArray)(x n:Int)(hs:ds.size≤2000)(hx:-10000≤x)(hx':x≤10000)(hg:good 10 ds.data.toList)(w:World) :
  Calls Tryz.prog 68 #[.agg #[.string ds,.int .i64 x],.int .i64 n] w fun e w'=>∃t y,RndD ds x n t y∧e=.returned (.agg #[.string t,.int .i64 y])∧Below w.heap.size w w':=by
 have hs':(ds.size:Int)≤2000:=by omega
 by_cases h1:n<0
 ·go_enter Tryz.func68,Tryz.ntmps68
  go_wp2
  refine bodyPost_ret (v:=.agg #[.string ⟨#[]⟩,.int .i64 0]) (by simp[results,Tryz.results68,go_sem]) rfl ⟨⟨#[]⟩,0,.inl ⟨h1,rfl,rfl⟩,rfl,(by repeat (first|with_reducible exact Below.refl _ _|with_reducible refine Below.alloc ?_ (by simp<;>omega) _|with_reducible refine Below.setCell ?_ (by simp<;>omega) _))⟩
 ·by_cases h2:(ds.size:Int)≤n
  ·have h1':decide (n<0)=false:=decide_eq_false h1
   go_enter Tryz.func68,Tryz.ntmps68
   go_wp2
   refine bodyPost_ret (v:=.agg #[.string ds,.int .i64 x]) (by simp[results,Tryz.results68,go_sem]) rfl ⟨ds,x,.inr (.inl ⟨h2,by omega,rfl,rfl⟩),rfl,(by repeat (first|with_reducible exact Below.refl _ _|with_reducible refine Below.alloc ?_ (by simp<;>omega) _|with_reducible refine Below.setCell ?_ (by simp<;>omega) _))⟩
  ·obtain⟨k,rfl⟩:=Int.eq_ofNat_of_zero_le (show 0≤n by omega)
   have HA:Hid (∀W,Calls Tryz.prog 69 #[.agg #[.string ds,.int .i64 x],.int .i64 (k:Int)] W fun e w'=>∃t y u z,Hid (RndD ds x (k:Int) t y)∧Hid (Below W.heap.size W w')∧e=.returned (.tuple #[.agg #[.string t,.int .i64 y],.agg #[.string u,.int .i64 z]])):=fun W=>by
    refine(around_any ds x k hs hx hx' (by omega) hg W).mono ?_
    rintro e W' ⟨tl,yl,th,yh,hl,hh,hb,⟨hr,rfl⟩|⟨hr,rfl⟩⟩
    ·exact⟨th,yh,tl,yl,.inr (.inr ⟨by omega,by omega,.inl ⟨hr,by rw[Int.toNat_natCast];exact hh⟩⟩),hb,rfl⟩
    ·exact⟨tl,yl,th,yh,.inr (.inr ⟨by omega,by omega,.inr ⟨hr,by rw[Int.toNat_natCast];exact hl⟩⟩),hb,rfl⟩
   have h2':decide ((ds.size:Int)≤(k:Int))=false:=decide_eq_false h2
   obtain⟨W0,hW0⟩:∃W0,(w.alloc (.cells #[.string ds,.int .i64 x] 69)).alloc (.cells #[.string ⟨#[]⟩,.int .i64 0] 69)=W0:=⟨_,rfl⟩
   have HW0:Hid _:=hW0
   have HN0:Hid (NewD W0 (w.heap.size+1)∧Below w.heap.size w W0):=by
    rw[←hW0]
    refine⟨?_,((Below.refl _ _).alloc (Nat.le_refl _) _).alloc (by simp) _⟩
    have:=NewD.new (w.alloc (.cells #[.string ds,.int .i64 x] 69))
    rwa [World.size_alloc]at this
   clear hg hW0
   go_enter Tryz.func68,Tryz.ntmps68
   go_wp2_with fail
   rw[HW0.out]
   refine(HA.out _).mono ?_
   rintro e W1 ⟨t,y,u,z,HR,HB,rfl⟩
   have HB1:Hid (Below w.heap.size w W1):=HN0.out.2.trans (HB.out.mono HN0.out.2.size)
   have hN2:NewD ((W1.alloc (.cells #[.string t,.int .i64 y] 69)).alloc (.cells #[.string u,.int .i64 z] 69)) (w.heap.size+1):=
    ((HN0.out.1.next HB.out).next ((Below.refl _ _).alloc (Nat.le_refl _) _)).next ((Below.refl _ _).alloc (Nat.le_refl _) _)
   have e10:=hN2.c0
   have e11:=hN2.c1
   have f10:=hN2.f0
   have f11:=hN2.f1
   have hz1:=HB1.out.size
   clear HA hN2
   go_wp2
   refine bodyPost_ret (v:=.agg #[.string t,.int .i64 y]) (by simp[results,Tryz.results68,go_sem,e10,e11]) rfl ⟨t,y,HR.out,rfl,?_⟩
   exact(((HB1.out.alloc (by omega) _).alloc (by simp;omega) _).setCell (p:=⟨w.heap.size+1,0,none⟩) (by simp) _).setCell (p:=⟨w.heap.size+1,1,none⟩) (by simp) _
theorem exd_places(ds:ByteArray)(pow:Int)(q:Nat)(e:Int)(h:ExD ds pow q e)(hq1:q % 2=1):((ds.size:Int)-pow).toNat=(-e).toNat:=by
 obtain⟨h0,hg,hf,hl,hv⟩:=h
 have hm:=last_some ds h0 hg hl
 obtain⟨V,hV⟩:∃V,valN 10 ds.data.toList=V:=⟨_,rfl⟩
 rw[hV]at hv hm
 obtain⟨a,ha⟩:∃a,(pow-(ds.size:Int)).toNat=a:=⟨_,rfl⟩
 obtain⟨b,hb⟩:∃b,((ds.size:Int)-pow).toNat=b:=⟨_,rfl⟩
 obtain⟨s,hs⟩:∃s,(-e).toNat=s:=⟨_,rfl⟩
 obtain⟨g,hg2⟩:∃g,e.toNat=g:=⟨_,rfl⟩
 rw[ha,hb,hs,hg2]at hv
 rw[hb,hs]
 have ht:∀n:Nat,(10:Nat) ^ n=2 ^ n*5 ^ n:=fun n=>by rw[←Nat.mul_pow]
 have five_odd:∀n:Nat,5 ^ n % 2=1:=fun n=>by
  induction n with
  | zero=>rfl
  | succ n ih=>rw[Nat.pow_succ,Nat.mul_mod,ih]
 by_cases hb0:b=0
 ·
  subst hb0
  by_cases hs0:s=0
  ·exact hs0.symm
  ·have hg0:g=0:=by omega
   subst hg0
   obtain⟨r,rfl⟩:∃r,s=r+1:=⟨s-1,by omega⟩
   simp only[Nat.pow_zero,Nat.mul_one]at hv
   rw[Nat.pow_succ,←Nat.mul_assoc]at hv
   omega
 ·have ha0:a=0:=by omega
  subst ha0
  simp only[Nat.pow_zero,Nat.mul_one]at hv
  by_cases hs0:s=0
  ·
   subst hs0
   obtain⟨r,rfl⟩:∃r,b=r+1:=⟨b-1,by omega⟩
   simp only[Nat.pow_zero,Nat.mul_one]at hv
   rw[Nat.pow_succ,←Nat.mul_assoc]at hv
   omega
  ·have hg0:g=0:=by omega
   subst hg0
   simp only[Nat.pow_zero,Nat.mul_one]at hv
   rw[ht b]at hv
   rcases Nat.lt_trichotomy b s with hlt|heq|hlt
   ·obtain⟨r,rfl⟩:∃r,s=b+(r+1):=⟨s-b-1,by omega⟩
    rw[Nat.pow_add,Nat.mul_left_comm,Nat.mul_left_comm q]at hv
    have h3:=Nat.eq_of_mul_eq_mul_left (Nat.two_pow_pos b) hv
    have h4:(q*5 ^ b) % 2=1:=by rw[Nat.mul_mod,hq1,five_odd]
    rw[←h3,Nat.pow_succ,←Nat.mul_assoc]at h4
    omega
   ·exact heq
   ·obtain⟨r,rfl⟩:∃r,b=s+(r+1):=⟨b-s-1,by omega⟩
    rw[Nat.pow_add 2,Nat.mul_assoc,Nat.mul_left_comm q,Nat.mul_comm V]at hv
    have h3:=Nat.eq_of_mul_eq_mul_left (Nat.two_pow_pos s) hv
    have h5:5 ^ (s+(r+1))=5*5 ^ (s+r):=by rw[←Nat.add_assoc,Nat.pow_succ,Nat.mul_comm]
    rw[h5,Nat.pow_succ,show 2 ^ r*2*(5*5 ^ (s+r))=10*(2 ^ r*5 ^ (s+r)) by rw[Nat.mul_assoc,←Nat.mul_assoc 2 5,Nat.mul_left_comm],Nat.mul_left_comm]at h3
    omega
def DofR(q:Nat)(e:Int)(ds:ByteArray)(y:Int):Prop:=((q=0∧ds=⟨#[]⟩∧y=0)∨(0<q∧ExD ds (y+1) q e))∧ds.size≤1200∧-1200≤y∧y≤1200
theorem fixB_size(ds:ByteArray)(x:Int)(k:Nat)(hx:x≤1200)(hk:k≤1200):(fixB ds (x+1) k).size≤10000:=by
 rw[←data_len,←plain_text]
 have h1:∀n,(putL (dAt ds x) (fxP (x+1)-1) (-1) n).length≤2*n:=fun n=>by
  induction n with
  | zero=>simp[putL]
  | succ n ih=>
   rw[putL_succ,List.length_append]
   split<;>simp<;>omega
 have:=h1 ((fxP (x+1)).toNat+k)
 have h2:(fxP (x+1)).toNat≤1201:=by unfold fxP;split<;>omega
 omega
theorem exact_signed(x:Nat)(k:Int)(s:Bool)(m e:Int)(hp:partsV x k s m e)(ds:ByteArray)(y:Int)(hd:DofR m.toNat e ds y):∃t,exactV x t∧∀W,WrG W→Calls Tryz.prog 33 #[.agg #[.int .i64 k,.bool s,.int .i64 m,.int .i64 e],.iface 139 (.agg #[.string ds,.int .i64 y,.int .i64 ((-e).toNat:Int)])] W fun r w'=>r=.returned (.string t)∧Below W.heap.size W w':=by
 obtain⟨hd1,hd2,hd3,hd4⟩:=hd
 have key:∀ (k:Int),(k=0∨k=1)→-1074≤e→∀W,WrG W→Calls Tryz.prog 33 #[.agg #[.int .i64 k,.bool s,.int .i64 m,.int .i64 e],.iface 139 (.agg #[.string ds,.int .i64 y,.int .i64 ((-e).toNat:Int)])] W fun r w'=>r=.returned (.string (sgnB s++fixB ds (y+1) (-e).toNat))∧Below W.heap.size W w':=fun k hk he W _=>
  signed_plain _ k hk s m e _ (by have:=fixB_size ds y (-e).toNat hd4 (by omega);omega) W fun W1 _=>plainWrite_any ds y (-e).toNat (by omega) (by omega) (by omega) (by omega) W1
 rcases hp with⟨hn,rfl,rfl,rfl,rfl⟩|⟨rfl,rfl,rfl,rfl⟩|⟨rfl,rfl,rfl,rfl⟩|⟨n,p,q,t,hc,h0,rfl,hn,hq,rfl,rfl,rfl⟩
 ·exact⟨_,.inl ⟨hn,rfl⟩,fun W _=>signed_nan _ 0 0 W⟩
 ·exact⟨_,.inr (.inl ⟨s,rfl,rfl⟩),fun W _=>signed_inf _ s 0 0 W⟩
 ·rcases hd1 with⟨_,rfl,rfl⟩|⟨h,_⟩
  ·have:=key 0 (.inl rfl) (by omega)
   exact⟨_,.inr (.inr (.inl ⟨s,rfl,rfl⟩)),this⟩
  ·exact absurd h (by decide)
 ·rw[Int.toNat_natCast]at hd1
  obtain⟨_,hq0,he1,_⟩:=parts_bounds n p q t hc h0 hn
  rcases hd1 with⟨h,_⟩|⟨_,hx⟩
  ·omega
  ·have hpl:=exd_places ds (y+1) q (p+t) hx hq
   have:=key 1 (.inr rfl) (by omega)
   rw[←hpl,←plainB_fix ds (y+1) hx.1,hpl]at this
   exact⟨_,.inr (.inr (.inr ⟨s,n,p,q,t,ds,y+1,hc,h0,rfl,hn,hq,hx,rfl⟩)),this⟩
theorem parts_mant(x:Nat)(k:Int)(s:Bool)(m e:Int)(hp:partsV x k s m e):∃q:Nat,m=(q:Int)∧q≤9007199254740992∧-1074≤e∧e≤1023:=by
 rcases hp with⟨hn,rfl,rfl,rfl,rfl⟩|⟨rfl,rfl,rfl,rfl⟩|⟨rfl,rfl,rfl,rfl⟩|⟨n,p,q,t,hc,h0,rfl,hn,hq,rfl,rfl,rfl⟩
 ·exact⟨0,rfl,by omega,by omega,by omega⟩
 ·exact⟨0,rfl,by omega,by omega,by omega⟩
 ·exact⟨0,rfl,by omega,by omega,by omega⟩
 ·obtain⟨h1,_,h2,h3⟩:=parts_bounds n p q t hc h0 hn
  exact⟨q,rfl,h1,h2,h3⟩
theorem rnd_bounds(ds:ByteArray)(x n:Int)(t:ByteArray)(y:Int)(hg:good 10 ds.data.toList)(h:RndD ds x n t y):t.size≤ds.size+1∧(y=0∨y=x∨y=x+1):=by
 rcases h with⟨_,rfl,rfl⟩|⟨_,_,rfl,rfl⟩|⟨h1,h2,⟨_,hh⟩|⟨_,hl⟩⟩
 ·exact⟨Nat.zero_le _,.inl rfl⟩
 ·exact⟨by omega,.inr (.inl rfl)⟩
 ·obtain⟨j,more,_,hy,_,hj,_⟩:=high_pad ds x n.toNat t y (by omega) hg hh
  cases more
  ·simp at hj hy
   exact⟨by omega,.inr (.inl hy)⟩
  ·simp at hj hy
   exact⟨by omega,.inr (.inr hy)⟩
 ·obtain⟨u,⟨⟨j,hj⟩,_⟩,h⟩:=hl
  have h3:=trim_size hj
  have h4:=take_size ds n.toNat (by omega)
  rcases h with⟨_,rfl,rfl⟩|⟨_,rfl,rfl⟩
  ·exact⟨Nat.zero_le _,.inl rfl⟩
  ·exact⟨by omega,.inr (.inl rfl)⟩
theorem good_none:good 10 (⟨#[]⟩:ByteArray).data.toList:=fun c hc=>by cases hc
theorem dof_good{q:Nat}{e:Int}{ds:ByteArray}{y:Int}(h:DofR q e ds y):good 10 ds.data.toList:=by
 rcases h.1 with⟨_,rfl,_⟩|⟨_,hx⟩
 ·exact good_none
 ·exact hx.2.1
theorem digits_signed(x:Nat)(k:Int)(s:Bool)(m e:Int)(hp:partsV x k s m e)(ds:ByteArray)(y:Int)(hd:DofR m.toNat e ds y)(n:Nat)(hn1:1≤n)(hn2:n≤400)(t:ByteArray)(z:Int)(hr:RndD ds y (n:Int) t z):∃u,digitsV x (n:Int) u∧∀W,WrG W→Calls Tryz.prog 33 #[.agg #[.int .i64 k,.bool s,.int .i64 m,.int .i64 e],.iface 137 (.agg #[.string t,.int .i64 z,.int .i64 (n:Int)])] W fun r w'=>r=.returned (.string u)∧Below W.heap.size W w':=by
 obtain⟨b1,b2⟩:=rnd_bounds ds y n t z (dof_good hd) hr
 obtain⟨hd1,hd2,hd3,hd4⟩:=hd
 have key:∀ (k:Int),(k=0∨k=1)→∀W,WrG W→Calls Tryz.prog 33 #[.agg #[.int .i64 k,.bool s,.int .i64 m,.int .i64 e],.iface 137 (.agg #[.string t,.int .i64 z,.int .i64 (n:Int)])] W fun r w'=>r=.returned (.string (sgnB s++sciB (padB t n) (z+1)))∧Below W.heap.size W w':=fun k hk W hW=>
  signed_power _ k hk s m e _ (by have:=sciB_size (padB t n) (z+1);rw[padB_size]at this;omega) W fun W1 hb=>powerWrite_any t z n (by omega) (by omega) (by omega) hn1 (by omega) W1 (hW.below hb).2.1 (hW.below hb).2.2.2
 have hin:(1:Int)≤(n:Int)∧(n:Int)≤400:=by omega
 rcases hp with⟨hn,rfl,rfl,rfl,rfl⟩|⟨rfl,rfl,rfl,rfl⟩|⟨rfl,rfl,rfl,rfl⟩|⟨n',p,q,t',hc,h0,rfl,hn,hq,rfl,rfl,rfl⟩
 ·exact⟨_,.inr ⟨hin,.inl ⟨hn,rfl⟩⟩,fun W _=>signed_nan _ 0 0 W⟩
 ·exact⟨_,.inr ⟨hin,.inr (.inl ⟨s,rfl,rfl⟩)⟩,fun W _=>signed_inf _ s 0 0 W⟩
 ·rcases hd1 with⟨_,rfl,rfl⟩|⟨h,_⟩
  ·have hz:t=⟨#[]⟩∧z=0:=by
    rcases hr with⟨h,_⟩|⟨_,_,rfl,rfl⟩|⟨_,h,_⟩
    ·omega
    ·exact⟨rfl,rfl⟩
    ·exact absurd h (by show ¬((n:Int)<((0:Nat):Int));omega)
   obtain⟨rfl,rfl⟩:=hz
   have:=key 0 (.inl rfl)
   have ez:padB ⟨#[]⟩ n=zerosB n:=by
    rw[pad_long ⟨#[]⟩ n (Nat.zero_le _)]
    apply bytes_ext
    rw[append_list]
    rfl
   rw[ez]at this
   exact⟨_,.inr ⟨hin,.inr (.inr (.inl ⟨s,rfl,rfl⟩))⟩,this⟩
  ·exact absurd h (by decide)
 ·rw[Int.toNat_natCast]at hd1
  obtain⟨_,hq0,_,_⟩:=parts_bounds n' p q t' hc h0 hn
  rcases hd1 with⟨h,_⟩|⟨_,hx⟩
  ·omega
  ·obtain⟨d,p',hcut,htx⟩:=rnd_sci ds y n hn1 t z hx.2.1 hx.1 hx.2.2.1 hr
   have:=key 1 (.inr rfl)
   rw[htx]at this
   exact⟨_,.inr ⟨hin,.inr (.inr (.inr ⟨s,n',p,q,t',ds,y+1,d,p',hc,h0,rfl,hn,hq,hx,hcut,rfl⟩))⟩,this⟩
set_option maxHeartbeats 1000000 in
set_option maxRecDepth 100000 in
theorem implDigits5_out(x:Nat)(n:Int)(hn:n<1∨400<n)(w:World) :
  Calls Tryz.prog 166 #[.float .f64 x,.int .i64 n] w fun e w'=>e=.returned (.string ⟨#[]⟩)∧Below w.heap.size w w':=by
 rcases hn with h|h
 ·go_enter Tryz.func166,Tryz.ntmps166
  go_wp2
  go_ret
  exact⟨rfl,Below.refl _ _⟩
 ·have h1:¬n<1:=by omega
  go_enter Tryz.func166,Tryz.ntmps166
  go_wp2
  go_ret
  exact⟨rfl,Below.refl _ _⟩
set_option maxHeartbeats 1000000 in
set_option maxRecDepth 100000 in
theorem implDigits5_in(x:Nat)(hx:x<18446744073709551616)(n:Nat)(hn1:1≤n)(hn2:n≤400)(w:World)(hG:WrG w) :
  Calls Tryz.prog 166 #[.float .f64 x,.int .i64 (n:Int)] w fun e w'=>∃t,digitsV x (n:Int) t∧e=.returned (.string t)∧Below w.heap.size w w':=by
 obtain⟨k,s,m,e,hp⟩:=parts_ex x hx
 obtain⟨q,rfl,hq,he1,he2⟩:=parts_mant x k s m e hp
 have HP:Hid _:=fun(_:Unit)=>implParts_of x hx k s q e hp w hG.1 hG.2.2.1
 have HG:Hid (WrG w):=hG
 have HS:Hid (∀ds y t z,DofR q e ds y→RndD ds y (n:Int) t z→∃u,digitsV x (n:Int) u∧∀W,WrG W→Calls Tryz.prog 33 #[.agg #[.int .i64 k,.bool s,.int .i64 (q:Int),.int .i64 e],.iface 137 (.agg #[.string t,.int .i64 z,.int .i64 (n:Int)])] W fun r w'=>r=.returned (.string u)∧Below W.heap.size W w'):=fun ds y t z hd hr=>
  digits_signed x k s q e hp ds y (by rw[Int.toNat_natCast];exact hd) n hn1 hn2 t z hr
 have hn1':¬(n:Int)<1:=by omega
 have hn2':¬400<(n:Int):=by omega
 clear hp hG
 go_enter Tryz.func166,Tryz.ntmps166
 go_wp2_with fail
 refine(HP.out ()).mono ?_
 rintro r W1 ⟨rfl,hb1⟩
 obtain⟨A,hA⟩:∃A,W1.heap.size=A:=⟨_,rfl⟩
 obtain⟨W2,hW2⟩:∃W2,W1.alloc (.cells #[.int .i64 k,.bool s,.int .i64 (q:Int),.int .i64 e] 65)=W2:=⟨_,rfl⟩
 have HX2:Hid (Box4 w A k s (q:Int) e W2):=by rw[←hW2,←hA];exact Box4.new hb1
 have HD:Hid (∀W,Box4 w A k s (q:Int) e W→Calls Tryz.prog 28 #[.agg #[.int .i64 k,.bool s,.int .i64 (q:Int),.int .i64 e]] W fun r w'=>∃ds y,Hid (DofR q e ds y)∧r=.returned (.agg #[.string ds,.int .i64 y])∧Hid (Box4 w A k s (q:Int) e w')):=fun W hW=>by
  have hg:=HG.out.below hW.1
  refine(decimalOf_any k s q e hq (by omega) (by omega) W hg.2.1 hg.2.2.2).mono ?_
  rintro r w' ⟨ds,y,h1,h2,h3,h4,rfl,hb⟩
  exact⟨ds,y,⟨h1,h2,h3,h4⟩,rfl,hW.next hb⟩
 have hc0:=HX2.out.2.1
 have hc1:=HX2.out.2.2.1
 have hc2:=HX2.out.2.2.2.1
 have hc3:=HX2.out.2.2.2.2
 clear hb1
 have HRN:Hid (∀ds y,DofR q e ds y→∀W,Box4 w A k s (q:Int) e W→Calls Tryz.prog 68 #[.agg #[.string ds,.int .i64 y],.int .i64 (n:Int)] W fun r w'=>∃t z,Hid (RndD ds y (n:Int) t z)∧r=.returned (.agg #[.string t,.int .i64 z])∧Hid (Box4 w A k s (q:Int) e w')):=fun ds y hd W hW=>by
  refine(round_any ds y (n:Int) (by have:=hd.2.1;omega) (by have:=hd.2.2.1;omega) (by have:=hd.2.2.2;omega) (dof_good hd) W).mono ?_
  rintro r w' ⟨t,z,h1,rfl,hb⟩
  exact⟨t,z,h1,rfl,hW.next hb⟩
 go_wp2
 refine wp_region_held_drew (S:=fun X=>Box4 w A k s (q:Int) e X) (by kernel_rfl) HX2.out.drew (fun hHeld=>?_)
 refine tkH 0 ?v0 rfl ?_ ?y0
 case y0=>(intro w' hSw;obtain⟨_,y0,y1,y2,y3⟩:=hSw;go_simp;first|done|with_reducible rfl)
 refine tkH 1 ?v1 rfl ?_ ?y1
 case y1=>(intro w' hSw;obtain⟨_,y0,y1,y2,y3⟩:=hSw;go_simp;first|done|with_reducible rfl)
 refine tkH 3 ?v3 rfl ?_
 refine tkH 5 ?v5 rfl ?_
 have HXd:Hid (Box4 w A k s (q:Int) e W2.drew):=HX2.out.drew
 generalize W2.drew=W3 at *
 refine rdH 2 rfl (fun K hK=>?_)
 go_simp
 refine(HD.out _ HXd.out).mono ?_
 rintro r W4 ⟨ds,y,HDR,rfl,HX4⟩
 dsimp only
 refine hK.out _ _ HX4.out (fun hHeld=>?_)
 clear hK K
 refine nmH ?_
 refine rdH 4 rfl (fun K hK=>?_)
 go_simp
 refine(HRN.out ds y HDR.out _ HX4.out).mono ?_
 rintro r W5 ⟨t,z,HRD,rfl,HX5⟩
 dsimp only
 refine hK.out _ _ HX5.out (fun hHeld=>?_)
 clear hK K
 refine nmH ?_
 refine tkH 6 ?v6 rfl ?_
 refine tkH 7 ?v7 rfl ?_
 obtain⟨u,hu,hs⟩:=HS.out ds y t z HDR.out HRD.out
 have HV:Hid (digitsV x (n:Int) u):=hu
 have HSG:Hid _:=hs
 clear hu hs
 refine rdH 8 rfl (fun K hK=>?_)
 go_simp
 refine(HSG.out _ (HG.out.below HX5.out.1)).mono ?_
 rintro r W6 ⟨rfl,hb6⟩
 have HX6:Hid (Box4 w A k s (q:Int) e W6):=HX5.out.next hb6
 clear hb6
 dsimp only
 refine hK.out _ _ HX6.out (fun hHeld=>?_)
 clear hK K
 refine nmH ?_
 refine rdH 9 rfl (fun K hK=>?_)
 go_simp
 refine hK.out _ _ HX6.out (fun hHeld=>?_)
 clear hK K
 refine wpAnyH_done (by kernel_rfl) ?_ _
 go_wp2
 go_ret
 exact⟨u,HV.out,rfl,HX6.out.1⟩
theorem implDigits5_any(x:Nat)(hx:x<18446744073709551616)(n:Int)(w:World)(hG:WrG w) :
  Calls Tryz.prog 166 #[.float .f64 x,.int .i64 n] w fun e w'=>∃t,digitsV x n t∧e=.returned (.string t)∧Below w.heap.size w w':=by
 by_cases ho:n<1∨400<n
 ·refine(implDigits5_out x n ho w).mono ?_
  rintro e w' ⟨rfl,hb⟩
  exact⟨_,.inl ⟨ho,rfl⟩,rfl,hb⟩
 ·obtain⟨j,rfl⟩:=Int.eq_ofNat_of_zero_le (show 0≤n by omega)
  exact implDigits5_in x hx j (by omega) (by omega) w hG
def Bts(w:World)(a:Option Addr)(len:Nat):Prop:=len≤1048576∧∀i:Nat,i<len→∃x:Addr,a=some x∧∃z:Int,0≤z∧z≤255∧w.cell? (x.add i)=some (.int .u8 z)
theorem Bts.below{w w':World}{a:Option Addr}{len:Nat}(h:Bts w a len)(hb:Below w.heap.size w w'):Bts w' a len:=
 ⟨h.1,fun i hi=>by
  obtain⟨x,hx,z,h0,h1,hc⟩:=h.2 i hi
  exact⟨x,hx,z,h0,h1,by rw[hb.cell (cell_lt hc)];exact hc⟩⟩
theorem Bts.code{w:World}{a:Option Addr}{len:Nat}(h:Bts w a len):Code w.heap.size w a len:=
 ⟨h.1,fun i hi=>by
  obtain⟨x,hx,z,h0,h1,hc⟩:=h.2 i hi
  have hl:=cell_lt hc
  refine⟨x,hx,fun e=>?_,z,h0,h1,hc⟩
  have:(x.add i).block=x.block:=by unfold Addr.add;split<;>rfl
  omega⟩
def IsRow(w:World)(a:Option Addr)(len cap:Nat)(zs:List Int):Prop:=
 (a=none∧len=0∧cap=0∧zs = []) ∨
 ∃x,a=some x∧len≤cap∧cap≤maxLen∧zs.length=cap∧(∀i,i<zs.length→w.cell? (x.add i)=some (.int .u8 (zs.getD i 0)))∧∀n∈zs,(Lit.int .u8 n).wf=true
theorem IsRow.bts{w:World}{a:Option Addr}{len cap:Nat}{zs:List Int}(h:IsRow w a len cap zs)(hl:len≤1048576):Bts w a len:=by
 refine⟨hl,fun i hi=>?_⟩
 rcases h with⟨_,rfl,_,_⟩|⟨x,rfl,hlc,_,hz,hc,hw⟩
 ·omega
 ·have hi':i<zs.length:=by omega
  have hm:zs.getD i 0∈zs:=by
   have e:zs.getD i 0=zs[i]:=by simp[List.getD,List.getElem?_eq_getElem hi']
   rw[e];exact List.getElem_mem hi'
  have hb:=bounds_u8 (hw _ hm)
  exact⟨x,rfl,zs.getD i 0,hb.1,hb.2,hc i hi'⟩
theorem IsRow.len{w:World}{a:Option Addr}{len cap:Nat}{zs:List Int}(h:IsRow w a len cap zs):len≤maxLen:=by
 rcases h with⟨_,rfl,_,_⟩|⟨x,_,hlc,hm,_,_,_⟩
 ·exact Nat.zero_le _
 ·omega
end Go.Proofs.YtenbfookfcmpoaaGreatDoor
