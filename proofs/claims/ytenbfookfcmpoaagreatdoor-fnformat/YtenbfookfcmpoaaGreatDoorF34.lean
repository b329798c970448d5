import Derived.Test.YtenbfookfcmpoaaGreatDoorF32
namespace Go.Proofs.YtenbfookfcmpoaaGreatDoor
open Go.ChangeShapes Go.WideShapes Go.RowKit
open Ieee (double)
theorem implParts_of(x:Nat)(hx:x<18446744073709551616)(k:Int)(s:Bool)(m e:Int)(h:partsV x k s m e)(w:World)(hT:DTab w)(hz:0<w.heap.size) :
  Calls Tryz.prog 26 #[.float .f64 x] w fun r w'=>r=.returned (.agg #[.int .i64 k,.bool s,.int .i64 m,.int .i64 e])∧Below w.heap.size w w':=by
 rcases h with⟨hn,rfl,rfl,rfl,rfl⟩|⟨rfl,rfl,rfl,rfl⟩|⟨rfl,rfl,rfl,rfl⟩|⟨n,p,q,t,hc,h0,rfl,hn,hq,rfl,rfl,rfl⟩
 ·obtain⟨s,E,M,hE,hM,hU⟩:=word_parts x hx
  have hL:=lays_any x s E M hE hM hU
  have c:¬E*4503599627370496+M≤9218868437227405312:=fun h'=>not_nan s _ h' (by rw[←hU];exact hn)
  obtain rfl:E=2047:=by omega
  exact implParts_nan x s M hL (by omega) w
 ·exact implParts_inf _ s (lays_any _ s 2047 0 (by omega) (by omega) (by unfold iw;omega)) w
 ·exact implParts_zero _ s (lays_any _ s 0 0 (by omega) (by omega) (by omega)) w
 ·have hw:=fw_canon s n p hc
  rcases hc with⟨h1,h2,h3,h4⟩|⟨h1,rfl⟩
  ·obtain⟨M,rfl⟩:∃M,n=4503599627370496+M:=⟨n-4503599627370496,by omega⟩
   obtain⟨E,hE⟩:∃E:Nat,p=(E:Int)-1 + -1074:=⟨(p+1075).toNat,by omega⟩
   have hU:fw s (4503599627370496+M) p=signBit s+(E*4503599627370496+M):=by
    refine hw.trans ?_
    unfold rung
    obtain⟨F,rfl⟩:∃F,E=F+1:=⟨E-1,by omega⟩
    rw[show(p+1074).toNat=F by omega,Nat.succ_mul]
    omega
   refine implParts_normal _ s E M (lays_any _ s E M (by omega) (by omega) hU) (4503599627370496+M) p q t hn hq h2 h3 h4 (fun w=>kind_normal s E M (by omega) (by omega) w) (fun w=>?_) w hT hz
   rw[hE]
   exact size_normal s E M (by omega) (by omega) (by omega) w
  ·have hU:fw s n (-1074)=signBit s+(0*4503599627370496+n):=by
    refine hw.trans ?_
    unfold rung
    rw[show((-1074:Int)+1074).toNat=0 from rfl]
   exact implParts_small _ s n (lays_any _ s 0 n (by omega) h1 hU) n (-1074) q t hn hq (by omega) (by omega) (by omega) (fun w=>kind_small s n (by omega) w) (fun w=>size_small s n w) w hT hz
end Go.Proofs.YtenbfookfcmpoaaGreatDoor
namespace Go.Proofs.YtenbfookfcmpoaaGreatDoor
open Go.RowKit
def WrG(w:World):Prop:=DTab w∧Tab w∧0<w.heap.size∧1<w.heap.size
theorem WrG.below{w w':World}(h:WrG w)(hb:Below w.heap.size w w'):WrG w':=
 ⟨h.1.below h.2.2.1 hb,fun i hi=>by rw[hb.cell (p:=⟨1,i,none⟩) h.2.2.2];exact h.2.1 i hi,Nat.lt_of_lt_of_le h.2.2.1 hb.size,Nat.lt_of_lt_of_le h.2.2.2 hb.size⟩
theorem parts_ex(x:Nat)(hx:x<18446744073709551616):∃k s m e,partsV x k s m e:=by
 rcases float_cases x hx with h|⟨s,rfl⟩|⟨s,n,p,hc,rfl⟩
 ·exact⟨3,false,0,0,.inl ⟨h,rfl,rfl,rfl,rfl⟩⟩
 ·exact⟨2,s,0,0,.inr (.inl ⟨rfl,rfl,rfl,rfl⟩)⟩
 ·by_cases h0:n=0
  ·subst h0
   rw[fw_zero]
   exact⟨0,s,0,0,.inr (.inr (.inl ⟨rfl,rfl,rfl,rfl⟩))⟩
  ·obtain⟨q,t,hq,hq1⟩:=odd_some n (by omega)
   exact⟨1,s,q,p+t,.inr (.inr (.inr ⟨n,p,q,t,hc,by omega,rfl,hq,hq1,rfl,rfl,rfl⟩))⟩
theorem parts_bounds(n:Nat)(p:Int)(q t:Nat)(hc:Canon n p)(h0:0<n)(hq:n=q*2 ^ t):q≤9007199254740992∧0<q∧-1074≤p+t∧p+t≤1023:=by
 have h1:n<9007199254740992:=by rcases hc with h|h<;>omega
 have hq0:0<q:=Nat.pos_of_ne_zero fun h=>by rw[h,Nat.zero_mul]at hq;omega
 have ht:t≤52:=few_halves n t (q:Int) (by rw[Int.toNat_natCast];exact hq) (by omega) h1
 have hqn:q≤n:=by rw[hq];exact Nat.le_mul_of_pos_right _ (Nat.two_pow_pos t)
 rcases hc with h|h<;>omega
end Go.Proofs.YtenbfookfcmpoaaGreatDoor
namespace Go.Proofs.YtenbfookfcmpoaaGreatDoor
open Go.ChangeShapes Go.WideShapes Go.RowKit
def FC(w:World)(G:Nat)(s:ByteArray)(k:Nat)(av p v:Value):Prop:=w.heap[G]? = some (.cells #[.string s,.int .i64 (k:Int),av,p,v] 97 (0,0))
section
variable {w w':World} {G k:Nat} {s:ByteArray} {av p v:Value}
theorem FC.txt(h:FC w G s k av p v):w.cell? ⟨G,0,none⟩=some (.string s):=by rw[cell_of_heap h];rfl
theorem FC.at_(h:FC w G s k av p v):w.cell? ⟨G,1,none⟩=some (.int .i64 (k:Int)):=by rw[cell_of_heap h];rfl
theorem FC.args(h:FC w G s k av p v):w.cell? ⟨G,2,none⟩=some av:=by rw[cell_of_heap h];rfl
theorem FC.froz(h:FC w G s k av p v)(o:Nat):w.frozen? ⟨G,o,none⟩=false:=frozen_of_heap h o
theorem FC.lt(h:FC w G s k av p v):G<w.heap.size:=(Array.getElem?_eq_some_iff.1 h).1
theorem FC.set(h:FC w G s k av p v)(k':Nat):FC (w.setCell ⟨G,1,none⟩ (.int .i64 (k':Int))) G s k' av p v:=by
 unfold FC
 rw[setCell_eq_setRow w G 1 _ _ (0,0) _ h]
 exact setRow_heap w G _ _ _ (0,0) h
theorem FC.set1(h:FC w G s k av p v):FC (w.setCell ⟨G,1,none⟩ (.int .i64 ((k:Int)+1))) G s (k+1) av p v:=h.set (k+1)
theorem FC.setArgs(h:FC w G s k av p v)(a:Value):FC (w.setCell ⟨G,2,none⟩ a) G s k a p v:=by
 unfold FC
 rw[setCell_eq_setRow w G 2 _ _ (0,0) _ h]
 exact setRow_heap w G _ _ _ (0,0) h
theorem FC.drewN(h:FC w G s k av p v)(n:Nat):FC (w.drewN n) G s k av p v:=h
end
theorem fcAt_is{G k:Nat}{w:World}{s:ByteArray}{av p v:Value}(h:FC w G s k av p v):rrAt G w=k:=by
 unfold rrAt
 rw[h.at_]
 exact Int.toNat_natCast k
set_option maxHeartbeats 400000 in
theorem fsees_any(G k:Nat)(s q:ByteArray)(av p v:Value)(w:World)(h:FC w G s k av p v)(hk:k≤s.size) :
  Calls Tryz.prog 81 #[.pointer (some ⟨G,0,none⟩),.string q] w fun e w'=>e=.returned (.bool (pre (s.extract k s.size) q))∧∃n,w'=w.drewN n:=by
 have h1:=h.txt
 have h2:=h.at_
 have hk':(k:Int)≤(s.size:Int):=by omega
 have HC:Hid (∀w,Calls Tryz.prog 118 #[.string (s.extract k s.size),.string q] w fun e w'=>e=.returned (.bool (pre (s.extract k s.size) q))∧w'=w):=fun w=>hasPrefix_any _ q w
 clear h
 go_enter Tryz.func81,Tryz.ntmps81
 go_wp2
 go_quiet (first|(go_at_call 118;exact Calls.quiet_of_same (HC.out _)))
 go_wp2
 go_ret
 exact⟨rfl,_,rfl⟩
end Go.Proofs.YtenbfookfcmpoaaGreatDoor
namespace Go.Proofs.YtenbfookfcmpoaaGreatDoor
open Go.ChangeShapes Go.WideShapes Go.RowKit
open Ieee (double)
set_option maxHeartbeats 8000000 in
set_option maxRecDepth 100000 in
theorem digits_num(s:Bool)(r:Nat)(q:Nat)(E:Int)(n:Nat)(hn1:1≤n)(hn2:n≤400)(hr:r<9218868437227405312)(hr0:r≠0)(hX:∀w,Calls Tryz.prog 92 #[.float .f64 r] w fun e w'=>
  ∃ds pow,ExD ds pow q E∧ds.size≤1100∧-1100≤pow∧pow≤1100∧e=.returned (.agg #[.string ds,.int .i64 pow])∧Below w.heap.size w w') (w:World) :
  Calls Tryz.prog 47 #[.float .f64 (signBit s+r),.int .i64 (n:Int)] w fun e w'=>∃ds pow t p',ExD ds pow q E∧cutV ds pow n (roundsB ds (n:Int)) t p'∧e=.returned (.string (sgnB s++sciB (t.extract 0 n) p'))∧Below w.heap.size w w':=by
 have H1:Hid _:=fun w=>l5size_any s r (by omega) w
 have H2:Hid (∀w,Calls Tryz.prog 86 #[.float .f64 r] w fun e w'=>e=.returned (.tuple #[.string ⟨#[48]⟩,.bool false])∧w'=w):=fun w=>by
  have:=l5odd_num r hr w
  rw[decide_eq_false hr0]at this
  exact this
 have H3:Hid _:=hX
 have z3:=sgnB_size s
 generalize sgnB s=S at *
 generalize signBit s+r=X at *
 clear hX hr hr0
 go_enter Tryz.func47,Tryz.ntmps47
 go_wp2_with fail
 refine(H1.out _).mono ?_
 rintro e w1 ⟨rfl,rfl⟩
 go_wp2_with fail
 refine(H2.out _).mono ?_
 rintro e w1 ⟨rfl,rfl⟩
 go_wp2_with fail
 refine(H3.out _).mono ?_
 rintro e w2 ⟨ds,pow,hd,hs,hp1,hp2,rfl,hb⟩
 have HD:Hid _:=fun(_:Unit)=>And.intro hd hb
 have HR:Hid _:=fun w=>l5rounds_any ds pow (n:Int) (by omega) hd.2.1 w
 have HC:Hid _:=fun up w=>l5cut_any ds pow n up hs hd.2.1 (by omega) (by omega) (by omega) w
 obtain⟨up,hup⟩:∃up,up=roundsB ds (n:Int):=⟨_,rfl⟩
 rw[←hup]at HR
 have HUPB:Hid (up=roundsB ds (n:Int)):=hup
 clear hup
 clear hd hb H1 H2 H3
 go_wp2_with fail
 go_region_with (first|(go_at_call 94;refine(HR.out _).mono ?_;rintro e w' ⟨rfl,rfl⟩)|(go_at_call 93;refine(HC.out _ _).mono ?_;rintro e w5 ⟨t,p',hc,rfl,hb5⟩;have HC5:Hid _:=(fun(_:Unit)=>hc);have k0:=(hb5.cell (p:=⟨w2.heap.size,0,none⟩) (by simp<;>omega)).trans (by simp[go_sem]:_=some (.string ds));have k1:=(hb5.cell (p:=⟨w2.heap.size,1,none⟩) (by simp<;>omega)).trans (by simp[go_sem]:_=some (.int .i64 pow));have f0:=(hb5.frozen (p:=⟨w2.heap.size,0,none⟩) (by simp<;>omega)).trans (by simp[go_sem]:_=false);have f1:=(hb5.frozen (p:=⟨w2.heap.size,1,none⟩) (by simp<;>omega)).trans (by simp[go_sem]:_=false);have hbl:w2.heap.size+1≤w5.heap.size:=(by have h:=hb5.size;simp at h;omega);have HB5:Hid (Below w2.heap.size w2 w5):=(by refine Below.trans ?_ (hb5.mono (by simp<;>omega));repeat (first|with_reducible exact Below.refl _ _|with_reducible refine Below.alloc ?_ (by simp<;>omega) _|with_reducible refine Below.drew ?_|with_reducible refine below_drewN ?_ _));clear hc hb5))
 all_goals
  have hts:=cut5_size ds pow n _ t p' (HC5.out ())
  have het:(t.extract 0 n).size=n:=by simp;omega
  have HSC:Hid _:=fun w=>l5science_any (t.extract 0 n) p' (by omega) (by omega) (by omega) (by omega) w
  have hsz:=sciB_size (t.extract 0 n) p'
  have hti:(n:Int)≤(t.size:Int):=by omega
  obtain⟨Q,hQ⟩:∃Q,Q=sciB (t.extract 0 n) p':=⟨_,rfl⟩
  rw[←hQ]at hsz HSC
  have HQ:Hid (Q=sciB (t.extract 0 n) p'):=hQ
  clear hQ hts
  go_wp2_with fail
  refine(HSC.out _).mono ?_
  rintro e w6 ⟨rfl,hb6⟩
  have hw2:w1.heap.size≤w2.heap.size:=(HD.out ()).2.size
  have HB6:Hid (Below w1.heap.size w1 w6):=by
   refine Below.trans ?_ (hb6.mono (by simp<;>omega))
   refine Below.setCell (Below.setCell (Below.setCell ?_ (by simp<;>omega) _) (by simp<;>omega) _) (by simp<;>omega) _
   exact(HD.out ()).2.trans (HB5.out.mono hw2)
  clear hb6
  go_wp2
  go_ret
  exact⟨ds,pow,t,p',(HD.out ()).1,by rw[←HUPB.out];exact HC5.out (),by rw[←HQ.out];rfl,HB6.out⟩
end Go.Proofs.YtenbfookfcmpoaaGreatDoor
namespace Go.Proofs.YtenbfookfcmpoaaGreatDoor
open Ieee (double)
theorem hexV_one(x:Nat)(t t':ByteArray)(h:hexV x t)(h':hexV x t'):t=t':=by
 rcases h with⟨a,rfl⟩|⟨s,rfl,rfl⟩|⟨s,rfl,rfl⟩|⟨s,n,p,q,k,hc,h0,rfl,hq,hq1,rfl⟩
 ·rcases h' with⟨_,rfl⟩|⟨s,rfl,rfl⟩|⟨s,rfl,rfl⟩|⟨s,n,p,q,k,hc,h0,rfl,hq,hq1,rfl⟩
  ·rfl
  ·exact(nan_not_iw s a).elim
  ·exact(sign_nan s a).elim
  ·exact(nan_not_fw s n p hc a).elim
 ·rcases h' with⟨a,_⟩|⟨t,e,rfl⟩|⟨t,e,rfl⟩|⟨t,n,p,q,k,hc,h0,e,hq,hq1,rfl⟩
  ·exact(nan_not_iw s a).elim
  ·rw[iw_one s t e]
  ·exact(sign_iw t s e.symm).elim
  ·exact(iw_fw s t n p hc e).elim
 ·rcases h' with⟨a,_⟩|⟨t,e,rfl⟩|⟨t,e,rfl⟩|⟨t,n,p,q,k,hc,h0,e,hq,hq1,rfl⟩
  ·exact(sign_nan s a).elim
  ·exact(sign_iw s t e).elim
  ·rw[sign_one s t e]
  ·exact(sign_fw s t n p hc h0 e).elim
 ·rcases h' with⟨a,_⟩|⟨t,e,rfl⟩|⟨t,e,rfl⟩|⟨t,n',p',q',k',hc',h0',e,hq',hq1',rfl⟩
  ·exact(nan_not_fw s n p hc a).elim
  ·exact(iw_fw t s n p hc e.symm).elim
  ·exact(sign_fw t s n p hc h0 e.symm).elim
  ·obtain⟨rfl,rfl,rfl⟩:=fw_one s t n n' p p' hc hc' e
   obtain⟨rfl,rfl⟩:=odd_one q k q' k' (hq.symm.trans hq') hq1 hq1'
   rfl
end Go.Proofs.YtenbfookfcmpoaaGreatDoor
namespace Go.Proofs.YtenbfookfcmpoaaGreatDoor
open Go.RowKit
open Ieee (double)
def exactV(x:Nat)(t:ByteArray):Prop:=(IsNan x∧t=⟨#[110,97,110]⟩)∨(∃s,x=iw s∧t=sgnB s++⟨#[105,110,102]⟩)∨(∃s,x=signBit s∧t=sgnB s++⟨#[48]⟩)
 ∨ (∃ (s:Bool) (n:Nat) (p:Int) (q k:Nat) (ds:ByteArray) (pow:Int),Canon n p∧0<n∧x=fw s n p∧n=q*2 ^ k∧q % 2=1∧ExD ds pow q (p+k)∧t=sgnB s++plainB ds pow)
end Go.Proofs.YtenbfookfcmpoaaGreatDoor
namespace Go.Proofs.YtenbfookfcmpoaaGreatDoor
open Go.RowKit
def Box4(w:World)(H:Nat)(k:Int)(s:Bool)(m e:Int)(W:World):Prop:=Below w.heap.size w W∧W.cell? ⟨H,0,none⟩=some (.int .i64 k)∧W.cell? ⟨H,1,none⟩=some (.bool s)∧W.cell? ⟨H,2,none⟩=some (.int .i64 m)∧W.cell? ⟨H,3,none⟩=some (.int .i64 e)
theorem Box4.drew{w W:World}{H:Nat}{k:Int}{s:Bool}{m e:Int}(h:Box4 w H k s m e W):Box4 w H k s m e W.drew:=⟨h.1.drew,h.2⟩
theorem lt_cell{w:World}{p:Addr}{v:Value}(h:w.cell? p=some v):p.block<w.heap.size:=by
 by_cases hp:p.block<w.heap.size
 ·exact hp
 ·have e:w.heap[p.block]? = Option.none:=Array.getElem?_eq_none (by omega)
  simp[World.cell?,e]at h
theorem Box4.next{w W W':World}{H:Nat}{k:Int}{s:Bool}{m e:Int}(h:Box4 w H k s m e W)(hb:Below W.heap.size W W'):Box4 w H k s m e W':=by
 obtain⟨h1,h2,h3,h4,h5⟩:=h
 exact⟨h1.trans (hb.mono h1.size),(hb.cell (lt_cell h2)).trans h2,(hb.cell (lt_cell h3)).trans h3,(hb.cell (lt_cell h4)).trans h4,(hb.cell (lt_cell h5)).trans h5⟩
theorem Box4.new{w W1:World}{k:Int}{s:Bool}{m e:Int}(hb:Below w.heap.size w W1):Box4 w W1.heap.size k s m e (W1.alloc (.cells #[.int .i64 k,.bool s,.int .i64 m,.int .i64 e] 65)):=
 ⟨hb.alloc hb.size _,by simp[go_sem],by simp[go_sem],by simp[go_sem],by simp[go_sem]⟩
def digsN(N n:Nat):List Nat:=(List.range n).map fun i=>N / 10 ^ i % 10
theorem digsN_len(N n:Nat):(digsN N n).length=n:=by simp[digsN]
theorem digsN_ten(N n:Nat):Ten (digsN N n):=fun d hd=>by
 obtain⟨i,_,rfl⟩:=List.mem_map.1 hd
 exact Nat.mod_lt _ (by omega)
theorem digsN_val(N n:Nat):dval (digsN N n)=N % 10 ^ n:=by
 induction n with
 | zero=>simp[digsN,dval,Nat.mod_one]
 | succ n ih=>
  have e:digsN N (n+1)=digsN N n++[N / 10 ^ n % 10]:=by unfold digsN;rw[List.range_succ,List.map_append];rfl
  rw[e,dval_snoc,ih,digsN_len,Nat.pow_succ,Nat.mod_mul]
def upL(N n:Nat):List UInt8:=(digsN N n).map dchr
def txtB(N n:Nat):ByteArray:=⟨(dtxt (digsN N n)).toArray⟩
theorem upL_len(N n:Nat):(upL N n).length=n:=by rw[upL,List.length_map,digsN_len]
theorem txt_rev(N n:Nat):(txtB N n).data.toList=(upL N n).reverse:=by
 show dtxt _=_
 unfold dtxt upL
 rw[List.map_reverse]
theorem txt_size(N n:Nat):(txtB N n).size=n:=by rw[←data_len,txt_rev,List.length_reverse,upL_len]
theorem dec_exd(q N n s:Nat)(e:Int)(u:ByteArray)(hq:0<q)(hs:s=(-e).toNat)(hN:N=q*5 ^ s*2 ^ e.toNat)(hn:DigN n N)(hu:TrimR 48 (txtB N n) u):0<u.size∧ExD u ((n:Int)-(s:Int)) q e:=by
 have hNp:0<N:=by rw[hN];exact Nat.mul_pos (Nat.mul_pos hq (Nat.pow_pos (by omega))) (Nat.two_pow_pos _)
 have hn0:0<n:=by
  apply Nat.pos_of_ne_zero
  intro h
  have:=hn.1
  rw[h,Nat.pow_zero]at this
  omega
 have hval:valN 10 (txtB N n).data.toList=N:=by
  show valN 10 (dtxt _)=_
  rw[valN_dtxt _ (digsN_ten N n),digsN_val,Nat.mod_eq_of_lt hn.1]
 have hg:good 10 (txtB N n).data.toList:=good_dtxt _ (digsN_ten N n)
 have hsz:=txt_size N n
 have hf:∀h:0<(txtB N n).size,(txtB N n)[0].toNat≠48:=fun h=>by
  have h1:=get_data (txtB N n) 0 h
  rw[txt_rev,List.getElem?_reverse (by rw[upL_len];omega),upL_len,Nat.sub_zero]at h1
  unfold upL digsN at h1
  rw[List.map_map,List.getElem?_map,List.getElem?_range (by omega)]at h1
  have h2:=Option.some.inj h1
  rw[←h2]
  have hd:0<N / 10 ^ (n-1):=(dig_pos hn (n-1)).2 (by omega)
  have hd2:N / 10 ^ (n-1)<10:=by
   rw[Nat.div_lt_iff_lt_mul (Nat.pow_pos (by omega)),←Nat.pow_succ',show(n-1).succ=n by omega]
   exact hn.1
  show(dchr (N / 10 ^ (n-1) % 10)).toNat≠48
  rw[dchr_nat _ (Nat.mod_lt _ (by omega)),Nat.mod_eq_of_lt hd2]
  omega
 have hu0:0<u.size:=trim_some hu (by omega) hf
 obtain⟨⟨j,hj⟩,hl⟩:=hu
 have hsz2:=trim_size hj
 refine⟨hu0,?_⟩
 have hst:Stp (txtB N n) u j:=by
  refine⟨hu0,fun c hc=>hg c (by rw[hj];exact List.mem_append_left _ hc),fun h=>?_,?_,by omega⟩
  ·have h1:=get_data (txtB N n) 0 (by omega)
   rw[hj,List.getElem?_append_left (by rw[data_len];exact h),get_data u 0 h]at h1
   rw[Option.some.inj h1]
   exact hf (by omega)
  ·rw[hj,valN_append,valN_zeros,List.length_replicate,Nat.add_zero]
 have:=stp_end (txtB N n) u j q s e hst hl (by rw[hval,hN,Nat.mul_right_comm]) hs
 rw[hsz]at this
 exact this
theorem digN_ex(N:Nat):∃n,DigN n N:=by
 induction N using Nat.strongRecOn with
 | ind N ih=>
  by_cases h0:N=0
  ·exact⟨0,by rw[h0];exact Nat.pow_pos (by omega),fun h=>by omega⟩
  ·obtain⟨m,h1,h2⟩:=ih (N / 10) (by omega)
   refine⟨m+1,?_,fun _=>?_⟩
   ·rw[Nat.pow_succ]
    omega
   ·show 10 ^ m≤N
    by_cases hm:m=0
    ·rw[hm,Nat.pow_zero]
     omega
    ·have:=h2 (by omega)
     obtain⟨k,rfl⟩:∃k,m=k+1:=⟨m-1,by omega⟩
     rw[Nat.add_sub_cancel]at this
     rw[Nat.pow_succ]
     omega
theorem dof_bounds(t q s g:Nat)(ht:t=1100)(hq:q≤9007199254740992)(hs:s≤1100)(hg:g≤1100)(h0:s=0∨g=0):q*5 ^ s<10 ^ 17*10 ^ t∧q*5 ^ s*2 ^ g<10 ^ 17*10 ^ t:=by
 have hq2:q<10 ^ 17:=by
  have:(10:Nat) ^ 17=100000000000000000:=rfl
  omega
 have h5:5 ^ s≤10 ^ t:=Nat.le_trans (Nat.pow_le_pow_left (by omega) s) (Nat.pow_le_pow_right (by omega) (by omega))
 have h2:2 ^ g≤10 ^ t:=Nat.le_trans (Nat.pow_le_pow_left (by omega) g) (Nat.pow_le_pow_right (by omega) (by omega))
 have hp:0<10 ^ t:=Nat.pow_pos (by omega)
 have key:∀x,x≤10 ^ t→q*x<10 ^ 17*10 ^ t:=fun x hx=>Nat.lt_of_le_of_lt (Nat.mul_le_mul_left q hx) (Nat.mul_lt_mul_of_pos_right hq2 hp)
 refine⟨key _ h5,?_⟩
 rcases h0 with rfl|rfl
 ·rw[Nat.pow_zero,Nat.mul_one]
  exact key _ h2
 ·rw[Nat.pow_zero,Nat.mul_one]
  exact key _ h5
theorem ten_words(t r X:Nat)(ht:t=1100)(hr:r=140)(h:X<10 ^ 17*10 ^ t):X<be ^ r:=by
 rw[be_two]
 rw[←Nat.pow_add]at h
 have h1:10 ^ (17+t)≤(2 ^ 4) ^ (17+t):=Nat.pow_le_pow_left (by omega) _
 rw[←Nat.pow_mul]at h1
 have h2:2 ^ (4*(17+t))≤2 ^ (32*r):=Nat.pow_le_pow_right (by omega) (by omega)
 omega
theorem digN_le{n N:Nat}(t:Nat)(ht:t=1100)(h:DigN n N)(hN:N<10 ^ 17*10 ^ t):n≤1117:=by
 apply Nat.le_of_not_lt
 intro hlt
 rw[←Nat.pow_add]at hN
 have h1:=h.2 (by omega)
 have h2:10 ^ (17+t)≤10 ^ (n-1):=Nat.pow_le_pow_right (by omega) (by omega)
 omega
theorem upL_succ(N n:Nat):upL N (n+1)=upL N n++[dchr (N / 10 ^ n % 10)]:=by
 unfold upL digsN
 rw[List.range_succ,List.map_append,List.map_append]
 rfl
end Go.Proofs.YtenbfookfcmpoaaGreatDoor
