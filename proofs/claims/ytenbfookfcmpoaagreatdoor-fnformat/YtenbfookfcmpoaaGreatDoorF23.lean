import Derived.Test.YtenbfookfcmpoaaGreatDoorF22
import Derived.Deep.Cut
import Derived.Deep.CutRange
namespace Go.Proofs.YtenbfookfcmpoaaGreatDoor
open Go.ChangeShapes Go.WideShapes Go.RowKit
open Ieee (double)
def Pair(w:World)(D:Nat)(ds:ByteArray)(p:Int):Prop:=w.cell? ⟨D,0,none⟩=some (.string ds)∧w.cell? ⟨D,1,none⟩=some (.int .i64 p)∧w.frozen? ⟨D,0,none⟩=false∧w.frozen? ⟨D,1,none⟩=false
theorem Pair.below{w w':World}{D:Nat}{ds:ByteArray}{p:Int}(h:Pair w D ds p)(hb:Below w.heap.size w w'):Pair w' D ds p:=by
 obtain⟨a,b,c,d⟩:=h
 have hl:=cell_lt a
 exact⟨by rw[hb.cell hl];exact a,by rw[hb.cell (p:=⟨D,1,none⟩) hl];exact b,by rw[hb.frozen (p:=⟨D,0,none⟩) hl];exact c,by rw[hb.frozen (p:=⟨D,1,none⟩) hl];exact d⟩
theorem Pair.set{w:World}{D:Nat}{ds ds':ByteArray}{p p':Int}(h:Pair w D ds p):Pair ((w.setCell ⟨D,0,none⟩ (.string ds')).setCell ⟨D,1,none⟩ (.int .i64 p')) D ds' p':=by
 obtain⟨a,b,c,d⟩:=h
 refine⟨?_,?_,?_,?_⟩
 ·rw[World.cell?_setCell_other _ _ _ _ (by intro e;cases e)]
  exact World.cell?_setCell_same _ _ _ a
 ·refine World.cell?_setCell_same _ _ _ (u:=.int .i64 p) ?_
  rw[World.cell?_setCell_other _ _ _ _ (by intro e;cases e)]
  exact b
 ·rw[set_frozen_at,set_frozen_at];exact c
 ·rw[set_frozen_at,set_frozen_at];exact d
theorem Pair.set0{w:World}{D:Nat}{ds ds':ByteArray}{p:Int}(h:Pair w D ds p):Pair (w.setCell ⟨D,0,none⟩ (.string ds')) D ds' p:=by
 obtain⟨a,b,c,d⟩:=h
 exact⟨World.cell?_setCell_same _ _ _ a,by rw[World.cell?_setCell_other _ _ _ _ (by intro e;cases e)];exact b,by rw[set_frozen_at];exact c,by rw[set_frozen_at];exact d⟩
theorem Pair.drewN{w:World}{D:Nat}{ds:ByteArray}{p:Int}(h:Pair w D ds p)(n:Nat):Pair (w.drewN n) D ds p:=h
theorem Pair.drew{w:World}{D:Nat}{ds:ByteArray}{p:Int}(h:Pair w D ds p):Pair w.drew D ds p:=h
theorem Pair.alloc{w:World}{D:Nat}{ds:ByteArray}{p:Int}(h:Pair w D ds p)(o:Obj):Pair (w.alloc o) D ds p:=h.below ((Below.refl _ _).alloc (Nat.le_refl _) o)
def FixR(yes:Bool)(q:Nat)(E:Int)(k:Nat)(t:ByteArray)(p:Int):Prop:=(yes=true∧t=⟨#[]⟩∧p=1)∨(yes=false∧∃ds pow,ExD ds pow q E∧FixD ds pow k t p)
set_option maxHeartbeats 8000000 in
set_option maxRecDepth 100000 in
theorem fixed_go(s:Bool)(r:Nat)(yes:Bool)(q:Nat)(E:Int)(k:Nat)(hk:k≤400)(hr:r≤9218868437227405312)(hO:∀w,Calls Tryz.prog 86 #[.float .f64 r] w fun e w'=>e=.returned (.tuple #[.string ⟨#[48]⟩,.bool yes])∧w'=w)
  (hX:yes=false→∀w,Calls Tryz.prog 92 #[.float .f64 r] w fun e w'=>∃ds pow,ExD ds pow q E∧ds.size≤1100∧-1100≤pow∧pow≤1100∧e=.returned (.agg #[.string ds,.int .i64 pow])∧Below w.heap.size w w') (w:World) :
  Calls Tryz.prog 48 #[.float .f64 (signBit s+r),.int .i64 (k:Int)] w fun e w'=>∃t p,FixR yes q E k t p∧(sgnB s++fixB t p k).size≤5000∧e=.returned (.string (sgnB s++fixB t p k))∧Below w.heap.size w w':=by
 have H1:Hid _:=fun w=>l5size_any s r hr w
 have H2:Hid _:=hO
 have H3:Hid _:=hX
 have z3:=sgnB_size s
 generalize sgnB s=S at *
 generalize signBit s+r=X at *
 clear hX hr hO
 have hk':(k:Int)≤400:=by omega
 go_enter Tryz.func48,Tryz.ntmps48
 go_wp2_with fail
 refine(H1.out _).mono ?_
 rintro e w1 ⟨rfl,rfl⟩
 go_wp2_with fail
 refine(H2.out _).mono ?_
 rintro e w2 ⟨rfl,rfl⟩
 go_upto_region 5 with fail
 go_cut [31] from 27 (fun s31 wc=>s31=.bool false∧wc=w2)
 case first=>
  cases yes
  all_goals
   go_wp2
   go_meet
   case rel=>exact⟨rfl,rfl⟩
 case rest=>
 obtain⟨rfl,hwc⟩:=hcut
 have hwc':=hwc.symm
 subst hwc'
 have HP0:Hid (Pair (w2.alloc (.cells #[.string ⟨#[]⟩,.int .i64 1] 157)) w2.heap.size ⟨#[]⟩ 1):=⟨by simp[go_sem],by simp[go_sem],by simp[go_sem],by simp[go_sem]⟩
 have HB0:Hid (Below w2.heap.size w2 (w2.alloc (.cells #[.string ⟨#[]⟩,.int .i64 1] 157))):=(Below.refl _ _).alloc (Nat.le_refl _) _
 obtain⟨D,hD⟩:∃D,D=w2.heap.size:=⟨_,rfl⟩
 go_upto_if 37 with fail
 go_cut [10] from 36 (fun _ wd=>∃t p,Hid (FixR yes q E k t p)∧t.size≤1700∧-1100≤p∧p≤1102∧Hid (Pair wd w2.heap.size t p)∧Hid (Below w2.heap.size w2 wd))
 case first=>
  cases yes
  ·have H3':Hid _:=H3.out rfl
   clear H3
   go_wp2_with fail
   refine(H3'.out _).mono ?_
   rintro e w3 ⟨ds,pow,hd,hs,hp1,hp2,rfl,hb3⟩
   have HP3:Hid (Pair w3 w2.heap.size ⟨#[]⟩ 1):=HP0.out.below hb3
   have HB3:Hid (Below w2.heap.size w2 w3):=HB0.out.trans (hb3.mono HB0.out.size)
   have HD:Hid (ExD ds pow q E):=hd
   obtain⟨a0,a1,a2,a3⟩:=HP3.out
   have HP4:Hid (Pair ((w3.setCell ⟨w2.heap.size,0,none⟩ (.string ds)).setCell ⟨w2.heap.size,1,none⟩ (.int .i64 pow)) w2.heap.size ds pow):=HP3.out.set
   have HB4:Hid (Below w2.heap.size w2 ((w3.setCell ⟨w2.heap.size,0,none⟩ (.string ds)).setCell ⟨w2.heap.size,1,none⟩ (.int .i64 pow))):=(HB3.out.setCell (p:=⟨w2.heap.size,0,none⟩) (Nat.le_refl _) _).setCell (p:=⟨w2.heap.size,1,none⟩) (Nat.le_refl _) _
   clear hd hb3 HP0 HB0 H3'
   go_upto_region 10 with fail
   generalize (w3.setCell ⟨w2.heap.size,0,none⟩ (.string ds)).setCell ⟨w2.heap.size,1,none⟩ (.int .i64 pow)=w4 at *
   clear a0 a1 a2 a3 HP3 HB3
   obtain⟨a0,a1,a2,a3⟩:=HP4.out
   have hz4:w2.heap.size<w4.heap.size:=cell_lt a0
   by_cases hn:pow+(k:Int)<0
   ·have hn':decide (pow+(k:Int)<0)=true:=decide_eq_true hn
    have HF:Hid (FixR false q E k ⟨#[]⟩ 1):=.inr ⟨rfl,ds,pow,HD.out,.inl ⟨hn,rfl,rfl⟩⟩
    have HP5:Hid (Pair ((w4.setCell ⟨w2.heap.size,0,none⟩ (.string ⟨#[]⟩)).setCell ⟨w2.heap.size,1,none⟩ (.int .i64 1)) w2.heap.size ⟨#[]⟩ 1):=HP4.out.set
    have HB5:Hid (Below w2.heap.size w2 ((w4.setCell ⟨w2.heap.size,0,none⟩ (.string ⟨#[]⟩)).setCell ⟨w2.heap.size,1,none⟩ (.int .i64 1))):=(HB4.out.setCell (p:=⟨w2.heap.size,0,none⟩) (Nat.le_refl _) _).setCell (p:=⟨w2.heap.size,1,none⟩) (Nat.le_refl _) _
    go_wp2
    go_meet
    case rel=>exact⟨⟨#[]⟩,1,HF,by decide,by omega,by omega,HP5,HB5⟩
   ·obtain⟨N,hN⟩:∃N:Nat,pow+(k:Int)=(N:Int):=⟨(pow+(k:Int)).toNat,by omega⟩
    have hN1:N≤1500:=by omega
    have hN0:decide ((N:Int)<0)=false:=decide_eq_false (by omega)
    have HR:Hid _:=fun w=>l5rounds_any ds pow (N:Int) (by omega) HD.out.2.1 w
    have HC:Hid _:=fun up w=>l5cut_any ds pow N up hs HD.out.2.1 (by omega) (by omega) (by omega) w
    obtain⟨up,hup⟩:∃up,up=roundsB ds (N:Int):=⟨_,rfl⟩
    rw[←hup]at HR
    have HF:Hid (∀t p,cutV ds pow N up t p→FixR false q E k t p):=fun t p hc=>.inr ⟨rfl,ds,pow,HD.out,.inr ⟨by omega,by rw[hN,Int.toNat_natCast,←hup];exact hc⟩⟩
    clear hup HD hn
    go_wp2
    go_region_with (first|(go_at_call 94;refine(HR.out _).mono ?_;rintro e w' ⟨rfl,rfl⟩)|(go_at_call 93;refine(HC.out _ _).mono ?_;rintro e w5 ⟨t,p',hc,rfl,hb5⟩;have HF5:Hid (FixR false q E k t p'):=HF.out t p' hc;have hcs:=cut5_size _ _ _ _ _ _ hc;have HP5:Hid (Pair w5 w2.heap.size ds pow):=(by refine Pair.below ?_ hb5;repeat (first|with_reducible exact HP4.out|with_reducible refine Pair.alloc ?_ _|with_reducible refine Pair.drew ?_|with_reducible refine Pair.drewN ?_ _));have HB5:Hid (Below w2.heap.size w2 w5):=(by refine Below.trans ?_ (hb5.mono (by simp<;>omega));repeat (first|with_reducible exact HB4.out|with_reducible refine Below.alloc ?_ (by first|omega|(simp<;>omega)) _|with_reducible refine Below.drew ?_|with_reducible refine below_drewN ?_ _));obtain⟨b0,b1,b2,b3⟩:=HP5.out;clear hc hb5))
    all_goals
     have HP6:Hid (Pair ((w5.setCell ⟨w2.heap.size,0,none⟩ (.string t)).setCell ⟨w2.heap.size,1,none⟩ (.int .i64 p')) w2.heap.size t p'):=HP5.out.set
     have HB6:Hid (Below w2.heap.size w2 ((w5.setCell ⟨w2.heap.size,0,none⟩ (.string t)).setCell ⟨w2.heap.size,1,none⟩ (.int .i64 p'))):=(HB5.out.setCell (p:=⟨w2.heap.size,0,none⟩) (Nat.le_refl _) _).setCell (p:=⟨w2.heap.size,1,none⟩) (Nat.le_refl _) _
     go_wp2
     go_meet
     case rel=>exact⟨t,p',HF5,by omega,by omega,by omega,HP6,HB6⟩
  ·have HF:Hid (FixR true q E k ⟨#[]⟩ 1):=.inl ⟨rfl,rfl,rfl⟩
   go_wp2
   go_meet
   case rel=>exact⟨⟨#[]⟩,1,HF,by decide,by omega,by omega,HP0,HB0⟩
 case rest=>
  obtain⟨t,p,HF,ht,hp1,hp2,HP,HB⟩:=hcut
  generalize wc=wd at *
  clear HP0 HB0 H1 H2 H3 hD
  obtain⟨T2,hT2⟩:∃T2,T2=fxD t p:=⟨_,rfl⟩
  obtain⟨P2,hP2⟩:∃P2,P2=fxP p:=⟨_,rfl⟩
  have HT2:Hid (T2=fxD t p):=hT2
  have HP2:Hid (P2=fxP p):=hP2
  have hz2:T2.size≤3000:=by rw[hT2,fxD_size];split<;>omega
  have hP2a:1≤P2:=by rw[hP2];unfold fxP;split<;>omega
  have hP2b:P2≤1102:=by rw[hP2];unfold fxP;split<;>omega
  clear hT2 hP2
  obtain⟨a0,a1,a2,a3⟩:=HP.out
  have hzd:w2.heap.size<wd.heap.size:=cell_lt a0
  go_upto_if 55 with fail
  go_cut [10] from 53 (fun _ we=>Hid (Pair we w2.heap.size T2 P2)∧Hid (Below w2.heap.size w2 we))
  case first=>
   by_cases hp:p<1
   ·have hp':decide (p<1)=true:=decide_eq_true hp
    have hE2:T2=zerosB (1-p).toNat++t:=by rw[HT2.out];unfold fxD;rw[if_pos hp]
    have hE3:P2=1:=by rw[HP2.out];unfold fxP;rw[if_pos hp]
    have HZ:Hid (∀w,Calls Tryz.prog 51 #[.int .i64 (IntKind.i64.wrap (1-p))] w fun e w'=>e=.returned (.string (zerosB (1-p).toNat))∧w'=w.alloc (.cells (tcells (zerosL (1-p).toNat) (1-p).toNat).toArray 5)):=fun w=>by
     rw[show IntKind.i64.wrap (1-p)=1-p by rw[IntKind.wrap_i64];omega]
     exact zeros_int (1-p) (by omega) (by omega) w
    have hzs:((zerosB (1-p).toNat).size:Int)≤1200:=by rw[zerosB_size];omega
    have hts:(t.size:Int)≤1700:=by omega
    generalize zerosB (1-p).toNat=Z at *
    generalize (tcells (zerosL (1-p).toNat) (1-p).toNat).toArray=C at *
    subst hE2 hE3
    have HPX:Hid (Pair ((wd.setCell ⟨w2.heap.size,0,none⟩ (.string (Z++t))).setCell ⟨w2.heap.size,1,none⟩ (.int .i64 1)) w2.heap.size (Z++t) 1):=HP.out.set
    have HBX:Hid (Below w2.heap.size w2 ((wd.setCell ⟨w2.heap.size,0,none⟩ (.string (Z++t))).setCell ⟨w2.heap.size,1,none⟩ (.int .i64 1))):=(HB.out.setCell (p:=⟨w2.heap.size,0,none⟩) (Nat.le_refl _) _).setCell (p:=⟨w2.heap.size,1,none⟩) (Nat.le_refl _) _
    clear HF HT2 HP2
    go_wp2
    go_region_with (go_at_call 51;refine(HZ.out _).mono ?_;rintro e w' ⟨rfl,rfl⟩)
    all_goals
     go_wp2
     go_meet
     case rel=>exact⟨(HPX.out.alloc _).drew,Below.drew (HBX.out.alloc HBX.out.size _)⟩
   ·have hp':decide (p<1)=false:=decide_eq_false hp
    have hE2:T2=t:=by rw[HT2.out];unfold fxD;rw[if_neg hp]
    have hE3:P2=p:=by rw[HP2.out];unfold fxP;rw[if_neg hp]
    subst hE2 hE3
    go_wp2
    go_meet
    case rel=>exact⟨HP,HB⟩
  case rest=>
   obtain⟨HPe,HBe⟩:=hcut
   generalize wc=we at *
   clear a0 a1 a2 a3 HP HB hzd hp1 hp2 ht
   obtain⟨a0,a1,a2,a3⟩:=HPe.out
   have hze:w2.heap.size<we.heap.size:=cell_lt a0
   obtain⟨T3,hT3⟩:∃T3,T3=fxE T2 P2 k:=⟨_,rfl⟩
   have HT3:Hid (T3=fxE T2 P2 k):=hT3
   obtain⟨hz3a,hz3b⟩:=fxE_size T2 P2 k
   rw[←hT3]at hz3a hz3b
   have hz3:T3.size≤4600:=by omega
   obtain⟨L2,hL2⟩:∃L2:Int,(T2.size:Int)=L2:=⟨_,rfl⟩
   have hL2a:0≤L2:=by omega
   have hL2c:L2≤3000:=by omega
   clear hT3
   go_upto_if 72 with fail
   go_cut [10] from 65 (fun _ wf=>Hid (Pair wf w2.heap.size T3 P2)∧Hid (Below w2.heap.size w2 wf))
   case first=>
    by_cases hp:L2<P2+(k:Int)
    ·have hp':decide (L2<P2+(k:Int))=true:=decide_eq_true hp
     have hE2:T3=T2++zerosB (P2+(k:Int)-L2).toNat:=by rw[HT3.out];unfold fxE;rw[if_pos (by omega),hL2]
     have hzs:((zerosB (P2+(k:Int)-L2).toNat).size:Int)≤1600:=by rw[zerosB_size];omega
     have HZ:Hid (∀w,Calls Tryz.prog 51 #[.int .i64 (IntKind.i64.wrap (IntKind.i64.wrap (P2+(k:Int))-L2))] w fun e w'=>e=.returned (.string (zerosB (P2+(k:Int)-L2).toNat))∧w'=w.alloc (.cells (tcells (zerosL (P2+(k:Int)-L2).toNat) (P2+(k:Int)-L2).toNat).toArray 5)):=fun w=>by
      rw[show IntKind.i64.wrap (P2+(k:Int))=P2+(k:Int) by rw[IntKind.wrap_i64];omega,show IntKind.i64.wrap (P2+(k:Int)-L2)=P2+(k:Int)-L2 by rw[IntKind.wrap_i64];omega]
      exact zeros_int _ (by omega) (by omega) w
     generalize zerosB (P2+(k:Int)-L2).toNat=Z at *
     generalize (tcells (zerosL (P2+(k:Int)-L2).toNat) (P2+(k:Int)-L2).toNat).toArray=C at *
     subst hE2
     have HPX:Hid (Pair (we.setCell ⟨w2.heap.size,0,none⟩ (.string (T2++Z))) w2.heap.size (T2++Z) P2):=HPe.out.set0
     have HBX:Hid (Below w2.heap.size w2 (we.setCell ⟨w2.heap.size,0,none⟩ (.string (T2++Z)))):=HBe.out.setCell (p:=⟨w2.heap.size,0,none⟩) (Nat.le_refl _) _
     clear HT3 HF HT2 HP2
     go_wp2
     go_region_with (go_at_call 51;refine(HZ.out _).mono ?_;rintro e w' ⟨rfl,rfl⟩)
     all_goals
      go_wp2
      go_meet
      case rel=>exact⟨(HPX.out.alloc _).drew,Below.drew (HBX.out.alloc HBX.out.size _)⟩
    ·have hp':decide (L2<P2+(k:Int))=false:=decide_eq_false hp
     have hE2:T3=T2:=by rw[HT3.out];unfold fxE;rw[if_neg (by omega)]
     subst hE2
     go_wp2
     go_meet
     case rel=>exact⟨HPe,HBe⟩
   case rest=>
    obtain⟨HPf,HBf⟩:=hcut
    generalize wc=wf at *
    clear a0 a1 a2 a3 HPe HBe
    obtain⟨a0,a1,a2,a3⟩:=HPf.out
    obtain⟨M,hM⟩:∃M:Nat,P2=(M:Int):=⟨P2.toNat,by omega⟩
    have HFX:Hid (fixB t p k=if k=0 then T3.extract 0 M else T3.extract 0 M++⟨#[46]⟩++T3.extract M (M+k)):=by
     show _=_
     unfold fixB
     rw[←HT2.out,←HP2.out,←HT3.out,hM,Int.toNat_natCast]
    subst hM
    have hMz:M≤T3.size:=by omega
    have hex1:(T3.extract 0 M).size=M:=by rw[ByteArray.size_extract];omega
    have hT3i:(T3.size:Int)≤4600:=by omega
    by_cases hk0:k=0
    ·subst hk0
     rw[if_pos rfl]at HFX
     have HSZ:Hid ((S++fixB t p 0).size≤5000):=by show _≤_;rw[HFX.out,append_size];omega
     go_wp2
     go_ret
     exact⟨t,p,HF.out,(by have:=HSZ.out;first|exact this|(rw[append_size]at this;exact this)),by rw[HFX.out];rfl,HBf.out⟩
    ·rw[if_neg hk0]at HFX
     have hkb:((k:Int)==0)=false:=beq_eq_false_iff_ne.2 (by omega)
     have hMk:M+k≤T3.size:=by omega
     have hex2:(T3.extract M (M+k)).size=k:=by rw[ByteArray.size_extract];omega
     have HSZ:Hid ((S++fixB t p k).size≤5000):=by
      show _≤_
      rw[HFX.out,append_size,append_size,append_size]
      have e1:(⟨#[46]⟩:ByteArray).size=1:=rfl
      omega
     go_wp2
     go_quiet (fail)
     go_wp2
     go_ret
     exact⟨t,p,HF.out,(by have:=HSZ.out;first|exact this|(rw[append_size]at this;exact this)),(by rw[HFX.out];show Ending.returned (.string (S++T3.extract 0 M++⟨#[46]⟩++T3.extract M (M+k)))=_;simp only[ByteArray.append_assoc]),below_drewN HBf.out _⟩
end Go.Proofs.YtenbfookfcmpoaaGreatDoor
