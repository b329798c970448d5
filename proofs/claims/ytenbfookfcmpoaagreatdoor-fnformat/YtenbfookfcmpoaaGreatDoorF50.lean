import Derived.Test.YtenbfookfcmpoaaGreatDoorF49
import Derived.Test.YtenbfookfcmpoaaGreatDoorF42
namespace Go.Proofs.YtenbfookfcmpoaaGreatDoor
open Go.ChangeShapes Go.WideShapes Go.RowKit
set_option maxHeartbeats 400000 in
theorem drawn_any(w:World)(a:Option Addr)(len cap:Nat)(hk:Code w.heap.size w a len) :
  Calls Tryz.prog 8 #[.slice a len cap] w fun e w'=>∃x:Nat,x<18446744073709551616∧e=.returned (.float .f64 x)∧Below w.heap.size w w':=by
 have HK:Hid _:=fun T=>DS.start w a len cap T hk
 clear hk
 go_enter Tryz.func8,Tryz.ntmps8
 go_wp2_with fail
 refine(flt_ds w.heap.size w _ a len cap 0 (HK.out _) (by omega)).mono ?_
 rintro e w1 ⟨r,hr,rfl,hd⟩
 have H1:Hid _:=fun(_:Unit)=>hd
 have HR:Hid (r<18446744073709551616):=hr
 clear hd hr HK
 go_wp2
 go_ret
 exact⟨r,HR.out,rfl,(H1.out ()).done⟩
end Go.Proofs.YtenbfookfcmpoaaGreatDoor
namespace Go.Proofs.YtenbfookfcmpoaaGreatDoor
open Go.RowKit
def fmlS(n:Int):ByteArray:=⟨#[37]⟩++intText n 10++⟨#[103,124,37,45]⟩++intText n 10++⟨#[103]⟩
def fmlK(n:Int):Nat:=(intText n 10).size
def fmlC(n:Nat):Bool:=
 (fmlS (n+1)).size==2*fmlK (n+1)+6&&bAt (fmlS (n+1)) 0==37&&bAt (fmlS (n+1)) 1 != 37&&fEnd (fmlS (n+1)) 1==1&&dEnd (fmlS (n+1)) 1==fmlK (n+1)+1&&countR (fmlS (n+1)) 1 (fmlK (n+1)+1)==(n:Int)+1&&bAt (fmlS (n+1)) (fmlK (n+1)+1)==103
  && bAt (fmlS (n+1)) (fmlK (n+1)+2)==124&&bAt (fmlS (n+1)) (fmlK (n+1)+3)==37&&bAt (fmlS (n+1)) (fmlK (n+1)+4)==45&&fEnd (fmlS (n+1)) (fmlK (n+1)+4)==fmlK (n+1)+5&&dEnd (fmlS (n+1)) (fmlK (n+1)+5)==2*fmlK (n+1)+5&&countR (fmlS (n+1)) (fmlK (n+1)+5) (2*fmlK (n+1)+5)==(n:Int)+1&&bAt (fmlS (n+1)) (2*fmlK (n+1)+5)==103&&decide (fmlK (n+1)≤2)
set_option maxRecDepth 100000 in
theorem fmlC_all:∀n,n<60→fmlC n=true:=by decide +kernel
theorem spad_size(left zero:Bool)(width:Int)(s:ByteArray):((padS left zero false width 103 s).size:Int)=if (s.size:Int)<width then width else s.size:=by
 have e0:(signP false 103 s).size+(restS s).size=s.size:=by
  unfold signP restS
  split
  ·rename_i h
   have h1:0<s.size:=by
    by_cases h1:0<s.size
    ·exact h1
    ·rw[bAt_out s 0 h1]at h;omega
   rw[ByteArray.size_extract]
   show 1+_=_
   omega
  ·rw[if_neg (fun h=>by cases h.1)]
   show 0+_=_
   omega
 have e1:∀k,(spacesB k).size=k:=spacesB_size
 have e2:∀k,(zerosB k).size=k:=zerosB_size
 unfold padS
 split
 ·rw[append_size,if_neg (show ¬(s.size:Int)<width by omega)];omega
 ·rw[if_pos (show(s.size:Int)<width by omega)]
  split
  ·rw[append_size,append_size,e1];omega
  ·split
   ·rw[append_size,append_size,e2];omega
   ·rw[append_size,append_size,e1];omega
theorem hasF_none(c:Int)(s:ByteArray)(k:Nat):hasF c s k k=false:=by
 unfold hasF
 exact @decide_eq_false _ (Classical.propDecidable _) (fun⟨i,h1,h2,_⟩=>by omega)
theorem hasF_one(c:Int)(s:ByteArray)(k:Nat)(h:bAt s k=c):hasF c s k (k+1)=true:=by
 unfold hasF
 exact @decide_eq_true _ (Classical.propDecidable _) ⟨k,by omega,by omega,h⟩
theorem hasF_not(c:Int)(s:ByteArray)(k:Nat)(h:bAt s k≠c):hasF c s k (k+1)=false:=by
 unfold hasF
 exact @decide_eq_false _ (Classical.propDecidable _) (fun⟨i,h1,h2,h3⟩=>by(have e:i=k:=(by omega));exact h (e ▸ h3))
theorem fml_is(n:Nat)(hn:n<60)(x:Nat)(t:ByteArray)(ht:shortV x t)(L:Nat)(hL:(L:Int)=if (t.size:Int)<(n:Int)+1 then (n:Int)+1 else t.size) :
  (fmlS ((n:Int)+1)).size≤1200∧∃out,fmtA (fmlS ((n:Int)+1)) [⟨true,0,x⟩,⟨true,0,x⟩]=.good out∧out.length=2*L+1∧out[L]? = some 124:=by
 have hc:=fmlC_all n hn
 unfold fmlC at hc
 generalize fmlS ((n:Int)+1)=s at hc ⊢
 generalize fmlK ((n:Int)+1)=k at hc
 simp only[Bool.and_eq_true,beq_iff_eq,bne_iff_ne,decide_eq_true_eq]at hc
 obtain⟨⟨⟨⟨⟨⟨⟨⟨⟨⟨⟨⟨⟨⟨c1,c2⟩,c3⟩,c4⟩,c5⟩,c6⟩,c7⟩,c8⟩,c9⟩,c10⟩,c11⟩,c12⟩,c13⟩,c14⟩,c15⟩:=hc
 have hN:numT 103 (-1) ⟨true,0,x⟩=t:=numT_is _ _ _ _ (.inr (.inr (.inl ⟨rfl,ht⟩)))
 have hF:Fits 103 (-1) ⟨true,0,x⟩:=.inr (.inl ⟨.inl rfl,rfl,rfl⟩)
 have hP1:∀ar,placeF s (⟨true,0,x⟩ :: ar) 1=.good (padS false false false ((n:Int)+1) 103 t) (k+2):=fun ar=>by
  unfold placeF
  rw[c4,c5,c6,c7,if_neg (by omega),if_neg (by decide),hasF_none,hasF_none,hasF_none]
  unfold letterF
  simp only[]
  rw[c7,if_pos hF,hN]
 have hP2:∀ar,placeF s (⟨true,0,x⟩ :: ar) (k+4)=.good (padS true false false ((n:Int)+1) 103 t) (2*k+6):=fun ar=>by
  unfold placeF
  rw[c11,c12,c13,c14,if_neg (by omega),if_neg (by decide),hasF_one 45 s (k+4) c10,hasF_not 48 s (k+4) (by rw[c10];decide),hasF_not 43 s (k+4) (by rw[c10];decide)]
  unfold letterF
  simp only[]
  rw[c14,if_pos hF,hN]
 have s0:=FmtS.start s [⟨true,0,x⟩,⟨true,0,x⟩]
 have s1:=s0.place (by omega) c2 c3 (hP1 _) (by omega)
 have s2:=s1.byte (by omega) (by rw[c8];decide)
 have s3:=s2.place (by omega) c9 (by rw[c10];decide) (hP2 _) (by omega)
 have s4:=FmtS.done s3 (by omega)
 have hb:s[k+2]'(by omega)=124:=by
  have h:=bAt_in s (k+2) (by omega)
  rw[c8]at h
  apply UInt8.toNat_inj.1
  show _=124
  omega
 rw[hb]at s4
 have z1:=spad_size false false ((n:Int)+1) t
 have z2:=spad_size true false ((n:Int)+1) t
 rw[←hL]at z1 z2
 refine⟨by omega,_,s4,?_,?_⟩
 ·have l1:=data_len (padS false false false ((n:Int)+1) 103 t)
  have l2:=data_len (padS true false false ((n:Int)+1) 103 t)
  simp only[List.length_append,List.length_nil,List.length_cons]
  omega
 ·have l1:=data_len (padS false false false ((n:Int)+1) 103 t)
  rw[List.append_assoc,List.getElem?_append_right (by simp only[List.nil_append];omega)]
  simp only[List.nil_append]
  rw[show L-(padS false false false ((n:Int)+1) 103 t).data.toList.length=0 by omega]
  rfl
end Go.Proofs.YtenbfookfcmpoaaGreatDoor
namespace Go.Proofs.YtenbfookfcmpoaaGreatDoor
open Go.ChangeShapes Go.WideShapes Go.RowKit
theorem fmtV_some(r:FmtR):∃x y z,fmtV r=.agg #[.bool x,.int .i64 y,.string z]:=by
 cases r with
 | bad a=>exact⟨false,_,_,rfl⟩
 | good out=>exact⟨true,_,_,rfl⟩
theorem ArgsAt.wide{B B':Nat}{w:World}{av:Value}{ars:List ArgV}(h:ArgsAt B w av ars)(hB:B≤B'):ArgsAt B' w av ars:=by
 obtain⟨ao,cap,h1,h2,h3,h4,h5,h6⟩:=h
 refine⟨ao,cap,h1,h2,h3,h4,h5,fun hne=>?_⟩
 obtain⟨g,o,e,hg,hc⟩:=h6 hne
 exact⟨g,o,e,by omega,hc⟩
set_option maxHeartbeats 4000000 in
set_option maxRecDepth 100000 in
theorem lawFnFormat_small(w:World)(a:Option Addr)(len cap:Nat)(a1:Option Addr)(len1 cap1:Nat)(k0:Bts w a len)(k1:Bts w a1 len1)(hG:WrG w) :
  Calls Tryz.prog 3 #[.slice a len cap,.slice a1 len1 cap1] w fun e w'=>e=.returned (.bool true)∧Below w.heap.size w w':=by
 have hl:len≤1048576:=k0.1
 have hl1:len1≤1048576:=k1.1
 have HK0:Hid _:=fun(_:Unit)=>k0.code
 have HK1:Hid (Bts w a1 len1):=k1
 have HG:Hid (WrG w):=hG
 clear k0 k1 hG
 go_enter Tryz.func3,Tryz.ntmps3
 go_wp2_with fail
 refine(drawFormat_any w a len cap (HK0.out ())).mono ?_
 rintro e w1 ⟨t,v,l,ht,rfl,hA,hb1⟩
 have H1:Hid (Below w.heap.size w w1):=hb1
 have HA1:Hid (ArgsAt w1.heap.size w1 v l):=hA
 have HG1:Hid (WrG w1):=HG.out.below hb1
 obtain⟨x,y,z,hv⟩:=fmtV_some (fmtA t l)
 have HIF:Hid (Calls Tryz.prog 6 #[.string t,v] w1 fun e w'=>e=.returned (.agg #[.bool x,.int .i64 y,.string z])∧Below w1.heap.size w1 w'):=(implFormat_any t v l w1 hA HG1.out ht).mono (by rintro e w' ⟨rfl,hb⟩;exact⟨by rw[hv],hb⟩)
 have HSF:Hid (∀w2,Below w1.heap.size w1 w2→Calls Tryz.prog 7 #[.string t,v] w2 fun e w'=>e=.returned (.agg #[.bool x,.int .i64 y,.string z])∧Below w2.heap.size w2 w'):=fun w2 hb=>(specFormat_any t v l w2 ((hA.below hb).wide hb.size) ht).mono (by rintro e w' ⟨rfl,hb⟩;exact⟨by rw[hv],hb⟩)
 clear hb1 hA ht hv HG HK0
 go_wp2_with fail
 refine HIF.out.mono ?_
 rintro e w2 ⟨rfl,hb2⟩
 have H2:Hid (Below w.heap.size w w2):=H1.out.trans (hb2.mono H1.out.size)
 have HG2:Hid (WrG w2):=HG1.out.below hb2
 have HB2:Hid (Below w.heap.size w (w2.alloc (.cells #[.bool x,.int .i64 y,.string z] 27))):=H2.out.alloc H2.out.size _
 have HC2:Hid (Below w1.heap.size w1 (w2.alloc (.cells #[.bool x,.int .i64 y,.string z] 27))):=hb2.alloc hb2.size _
 have HG2':Hid (WrG (w2.alloc (.cells #[.bool x,.int .i64 y,.string z] 27))):=HG2.out.below ((Below.refl _ _).alloc (Nat.le_refl _) _)
 clear HIF hb2 HA1 HG1 H1 HG2 H2
 go_upto_region 5 with fail
 go_cut [32] from 28 (fun s32 wc=>s32=.bool false∧Hid (Below w.heap.size w wc)∧Hid (WrG wc))
 case first=>
  go_region_with (go_at_call 7;refine(HSF.out _ (by repeat (first|with_reducible exact HC2.out|with_reducible refine Below.drew ?_|with_reducible refine below_drewN ?_ _))).mono ?_;rintro e w3 ⟨rfl,hb3⟩;have c0:=(hb3.cell (p:=⟨w2.heap.size,0,none⟩) (by simp)).trans (by simp[go_sem]:_=some (.bool x));have c1:=(hb3.cell (p:=⟨w2.heap.size,1,none⟩) (by simp)).trans (by simp[go_sem]:_=some (.int .i64 y));have c2:=(hb3.cell (p:=⟨w2.heap.size,2,none⟩) (by simp)).trans (by simp[go_sem]:_=some (.string z));have HB3:Hid (Below w.heap.size w w3):=(by refine Below.trans ?_ (hb3.mono (by have:=HB2.out.size;simp at this ⊢ <;> omega));repeat (first|with_reducible exact HB2.out|with_reducible refine Below.drew ?_|with_reducible refine below_drewN ?_ _));have HG3:Hid (WrG w3):=(WrG.below (WrG.below HG2'.out (by repeat (first|with_reducible exact Below.refl _ _|with_reducible refine Below.drew ?_|with_reducible refine below_drewN ?_ _))) hb3);clear hb3)
  all_goals
   go_wp2
   go_meet
   case rel=>exact⟨rfl,(show Below _ _ _ from by repeat (first|with_reducible exact HB3.out|with_reducible refine Below.drew ?_|with_reducible refine below_drewN ?_ _)),WrG.below HG3.out (by repeat (first|with_reducible exact Below.refl _ _|with_reducible refine Below.drew ?_|with_reducible refine below_drewN ?_ _))⟩
 obtain⟨rfl,H3,HG3⟩:=hcut
 have HK3:Hid (Bts wc a1 len1):=HK1.out.below H3.out
 clear HSF HB2 HC2 HG2'
 go_wp2_with fail
 refine(drawn_any wc a1 len1 cap1 HK3.out.code).mono ?_
 rintro e w4 ⟨f,hf,rfl,hb4⟩
 have H4:Hid (Below w.heap.size w w4):=H3.out.trans (hb4.mono H3.out.size)
 have HG4:Hid (WrG w4):=HG3.out.below hb4
 have HK4:Hid (Bts w4 a1 len1):=HK3.out.below hb4
 have HX:Hid (f<18446744073709551616):=hf
 clear hb4 HG3 H3 hf HK3 HK1
 go_wp2_with fail
 refine(wByte_any w4 a1 len1 cap1 0 (by omega) (by omega) HK4.out).mono ?_
 rintro e w4' ⟨b,hb0,hb1,rfl,hw⟩
 subst hw
 have hm0:0≤b % 60:=Int.emod_nonneg _ (by omega)
 have hm1:b % 60<60:=Int.emod_lt_of_pos _ (by omega)
 have hmt:b.tmod 60=b % 60:=Int.tmod_eq_emod_of_nonneg hb0
 obtain⟨n,hn⟩:∃n:Nat,b % 60=(n:Int):=⟨(b % 60).toNat,by omega⟩
 have hn60:n<60:=by omega
 have hni:(n:Int)<60:=by omega
 clear HK4
 obtain⟨D,hD⟩:∃D,intText (1+(n:Int)) 10=D:=⟨_,rfl⟩
 have HWI:Hid (∀w,Calls Tryz.prog 10 #[.int .i64 (1+(n:Int)),.int .i64 10] w fun e w'=>e=.returned (.string D)∧w'=w):=fun w=>by rw[←hD];exact specInt_any _ _ w
 have HDD:Hid (intText (1+(n:Int)) 10=D):=hD
 have hDz:D.size≤65:=by rw[←hD];exact int_size10 _
 clear hD
 go_wp2_with fail
 refine(HWI.out _).mono ?_
 rintro e w5 ⟨rfl,hw⟩
 subst hw
 go_wp2_with fail
 refine(HWI.out _).mono ?_
 rintro e w5 ⟨rfl,hw⟩
 subst hw
 clear HWI
 obtain⟨T,hT,hTz⟩:∃T,shortV f T∧T.size≤5000:=by
  obtain⟨e,w',fr,⟨t,h1,h2,_⟩,_⟩:=implShort_any f HX.out w5 HG4.out []
  exact⟨t,h1,h2⟩
 obtain⟨L,hL⟩:∃L:Nat,(L:Int)=if (T.size:Int)<(n:Int)+1 then (n:Int)+1 else T.size:=by
  split
  ·exact⟨n+1,by omega⟩
  ·exact⟨T.size,rfl⟩
 have HF2:Hid (Calls Tryz.prog 6 #[.string (⟨#[37]⟩++D++⟨#[103,124,37,45]⟩++D++⟨#[103]⟩),.slice (some ⟨w5.heap.size,0,none⟩) 2 2] (w5.alloc (.cells #[.bool true,.int .i64 0,.float .f64 f,.bool true,.int .i64 0,.float .f64 f] 34)) fun e w'=>∃Y,Hid (Y.size=2*L+1∧∃h:L<Y.size,Y[L].toNat=124)∧e=.returned (.agg #[.bool true,.int .i64 0,.string Y])∧Below w.heap.size w w'∧Hid (WrG w')):=by
  obtain⟨hsz,out,ho,hol,ho2⟩:=fml_is n hn60 f T hT L hL
  have hS:fmlS ((n:Int)+1)=(⟨#[37]⟩++D++⟨#[103,124,37,45]⟩++D++⟨#[103]⟩):=by
   unfold fmlS
   rw[show(n:Int)+1=1+(n:Int) by omega,HDD.out]
  rw[hS]at hsz ho
  have hb5:=box_belowD w5 (.cells #[.bool true,.int .i64 0,.float .f64 f,.bool true,.int .i64 0,.float .f64 f] 34)
  have hc5:∀k v,(#[.bool true,.int .i64 0,.float .f64 f,.bool true,.int .i64 0,.float .f64 f]:Array Value)[k]? = some v→(w5.alloc (.cells #[.bool true,.int .i64 0,.float .f64 f,.bool true,.int .i64 0,.float .f64 f] 34)).cell? ⟨w5.heap.size,k,none⟩=some v:=fun k v hv=>(World.cell?_alloc_mark (w:=w5) ..).trans hv
  have hz5:w5.heap.size<(w5.alloc (.cells #[.bool true,.int .i64 0,.float .f64 f,.bool true,.int .i64 0,.float .f64 f] 34)).heap.size:=by simp
  generalize w5.alloc (.cells #[.bool true,.int .i64 0,.float .f64 f,.bool true,.int .i64 0,.float .f64 f] 34)=W5 at hb5 hc5 hz5 ⊢
  have hA5:ArgsAt W5.heap.size W5 (.slice (some ⟨w5.heap.size,0,none⟩) 2 2) [⟨true,0,f⟩,⟨true,0,f⟩]:=by
   refine⟨_,2,rfl,by simp,by simp,by omega,?_,fun _=>⟨w5.heap.size,0,rfl,hz5,fun i a hi=>?_⟩⟩
   ·intro a ha
    simp at ha
    rw[ha]
    exact HX.out
   ·match i,hi with
    | 0,hi=>simp at hi;subst hi;exact⟨hc5 0 _ rfl,hc5 1 _ rfl,hc5 2 _ rfl⟩
    | 1,hi=>simp at hi;subst hi;exact⟨hc5 3 _ rfl,hc5 4 _ rfl,hc5 5 _ rfl⟩
    | i+2,hi=>simp at hi
  refine(implFormat_any _ _ _ W5 hA5 (HG4.out.below hb5) hsz).mono ?_
  rintro e w' ⟨rfl,hb⟩
  have hlt:L<out.length:=by omega
  refine⟨⟨out.toArray⟩,⟨?_,?_,?_⟩,by rw[ho];rfl,H4.out.trans ((hb5.trans (hb.mono hb5.size)).mono H4.out.size),(HG4.out.below hb5).below hb⟩
  ·show out.toArray.size=_
   simpa using hol
  ·show L<out.toArray.size
   simpa using hlt
  ·show(out.toArray[L]'_).toNat=124
   rw[List.getElem?_eq_getElem hlt]at ho2
   have:=Option.some.inj ho2
   simp[this]
 have HSH:Hid (∀w,WrG w→Calls Tryz.prog 11 #[.float .f64 f] w fun e w'=>e=.returned (.string T)∧Below w.heap.size w w'):=fun w hG=>by
  refine(implShort_any f HX.out w hG).mono ?_
  rintro e w' ⟨t,ht,_,rfl,hb⟩
  obtain rfl:=shortV_one f t T ht hT
  exact⟨rfl,hb⟩
 have HLL:Hid ((L:Int)=if (T.size:Int)<(n:Int)+1 then (n:Int)+1 else T.size):=hL
 clear hT hL HX HDD HG4 H4
 go_wp2_with fail
 refine HF2.out.mono ?_
 rintro e w6 ⟨Y,HY,rfl,hb6,HG6⟩
 have H6:Hid (Below w.heap.size w w6):=hb6
 clear hb6 HF2
 go_wp2_with fail
 refine(HSH.out _ (HG6.out.below (box_belowD _ _))).mono ?_
 rintro e w7 ⟨rfl,hb7⟩
 have q0:w7.cell? ⟨w6.heap.size,0,none⟩=some (.bool true):=(hb7.cell (p:=⟨w6.heap.size,0,none⟩) (by simp)).trans (by simp[go_sem])
 have q2:w7.cell? ⟨w6.heap.size,2,none⟩=some (.string Y):=(hb7.cell (p:=⟨w6.heap.size,2,none⟩) (by simp)).trans (by simp[go_sem])
 have q1:w7.cell? ⟨w6.heap.size,1,none⟩=some (.int .i64 0):=(hb7.cell (p:=⟨w6.heap.size,1,none⟩) (by simp)).trans (by simp[go_sem])
 have H7:Hid (Below w.heap.size w w7):=(H6.out.alloc H6.out.size _).trans (hb7.mono (by have:=H6.out.size;simp;omega))
 clear hb7 HSH HG6 H6
 obtain⟨hY1,hY2,hY3⟩:=HY.out
 have hY1':(Y.size:Int)=2*(L:Int)+1:=by omega
 have hL:=HLL.out
 by_cases hlt:(T.size:Int)<1+(n:Int)
 ·rw[if_pos (by omega)]at hL
  have hLn:1+(n:Int)=(L:Int):=by omega
  go_wp2_with fail
  go_ret
  obtain rfl:L=n+1:=by omega
  exact⟨by show Ending.returned (.bool (((Y[n+1]'hY2).toNat:Int)==124))=_;rw[hY3];rfl,H7.out⟩
 ·rw[if_neg (by omega)]at hL
  go_wp2_with fail
  go_ret
  obtain rfl:L=T.size:=by omega
  exact⟨by show Ending.returned (.bool (((Y[T.size]'hY2).toNat:Int)==124))=_;rw[hY3];rfl,H7.out⟩
set_option maxHeartbeats 400000 in
theorem lawFnFormat_any(w:World)(a:Option Addr)(len cap:Nat)(z:List Int)(k:IsRow w a len cap z)(a1:Option Addr)(len1 cap1:Nat)(z1:List Int)(k1:IsRow w a1 len1 cap1 z1)(hG:WrG w) :
  Calls Tryz.prog 3 #[.slice a len cap,.slice a1 len1 cap1] w fun e w'=>e=.returned (.bool true)∧Below w.heap.size w w':=by
 have m0:=k.len
 have m1:=k1.len
 by_cases h0:len≤1048576
 ·by_cases h1:len1≤1048576
  ·exact lawFnFormat_small w a len cap a1 len1 cap1 (k.bts h0) (k1.bts h1) hG
  ·unfold maxLen at m0 m1
   have h1':1048576<len1:=by omega
   clear k k1 h1 hG
   go_enter Tryz.func3,Tryz.ntmps3
   go_wp2
   go_ret
   exact⟨rfl,Below.refl _ _⟩
 ·unfold maxLen at m0 m1
  have h0':1048576<len:=by omega
  clear k k1 h0 hG
  go_enter Tryz.func3,Tryz.ntmps3
  go_wp2
  go_ret
  exact⟨rfl,Below.refl _ _⟩
end Go.Proofs.YtenbfookfcmpoaaGreatDoor
