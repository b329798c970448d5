import Derived.Test.YtenbfookfcmpoaaGreatDoorF45
namespace Go.Proofs.YtenbfookfcmpoaaGreatDoor
open Go.ChangeShapes Go.WideShapes Go.RowKit
theorem writeArg_any(B G k:Nat)(s:ByteArray)(av:Value)(ars:List ArgV)(out:List UInt8)(l z q:Bool)(wd pr:Int)(w:World)(h:FB w B G s k av out)(hA:ArgsAt B w av ars)(hG:WrG w)(hs:s.size≤1200)(hk:k≤s.size)(hw0:0≤wd)(hw4:wd≤400)(hp:-1≤pr)(hp4:pr≤400)(ho:out.length≤10000000) :
  Calls Tryz.prog 122 #[.pointer (some ⟨G,0,none⟩),plV l z q wd pr false 0 0] w fun e w'=>ArgQ B G s k av ars out l z q wd pr w e w':=by
 by_cases hn:k=s.size∨ars = []
 ·exact writeArg_none B G k s av ars out l z q wd pr w h hA hs hk hn
 ·cases ars with
  | nil=>exact absurd (.inr rfl) hn
  | cons a ars=>exact writeArg_some B G k s av a ars out l z q wd pr w h hA hG hs (by have:k≠s.size:=fun e=>hn (.inl e);omega) hw0 hw4 hp hp4 ho
def PlcQ(B G:Nat)(s:ByteArray)(k:Nat)(av:Value)(ars:List ArgV)(out:List UInt8)(w:World)(e:Ending)(w':World):Prop:=∃ok,e=.returned (.bool ok)∧Below B w w' ∧
 ((ok=false∧∃a,a≤s.size∧placeF s ars k=.bad a∧FB w' B G s a av out)∨(ok=true∧∃t k' av',placeF s ars k=.good t k'∧k<k'∧k'≤s.size∧t.size≤6000∧FB w' B G s k' av' (out++t.data.toList)∧ArgsAt B w' av' ars.tail))
section
variable {s:ByteArray} {ars:List ArgV} {k i j j2:Nat}
theorem place_bad1(hf:FRun s k i)(hr:Run 10 s i j)(hc:countR s i j = -2):placeF s ars k=.bad i:=by
 unfold placeF
 rw[fEnd_is s k i hf,dEnd_is s i j hr,if_pos hc]
theorem place_nodot(hf:FRun s k i)(hr:Run 10 s i j)(hc:countR s i j≠-2)(hd:bAt s j≠46):placeF s ars k=letterF s ars (hasF 45 s k i) (hasF 48 s k i) (hasF 43 s k i) (countR s i j) (-1) j:=by
 unfold placeF
 rw[fEnd_is s k i hf,dEnd_is s i j hr,if_neg hc,if_neg hd]
theorem place_dotbad(hf:FRun s k i)(hr:Run 10 s i j)(hc:countR s i j≠-2)(hd:bAt s j=46)(h2:Run 10 s (j+1) j2)(hc2:countR s (j+1) j2<0):placeF s ars k=.bad (j+1):=by
 unfold placeF
 rw[fEnd_is s k i hf,dEnd_is s i j hr,if_neg hc,if_pos hd,dEnd_is s (j+1) j2 h2,if_pos hc2]
theorem place_dot(hf:FRun s k i)(hr:Run 10 s i j)(hc:countR s i j≠-2)(hd:bAt s j=46)(h2:Run 10 s (j+1) j2)(hc2:¬countR s (j+1) j2<0):placeF s ars k=letterF s ars (hasF 45 s k i) (hasF 48 s k i) (hasF 43 s k i) (countR s i j) (countR s (j+1) j2) j2:=by
 unfold placeF
 rw[fEnd_is s k i hf,dEnd_is s i j hr,if_neg hc,if_pos hd,dEnd_is s (j+1) j2 h2,if_neg hc2]
theorem count_wd(hr:Run 10 s i j)(h:runV 10 s i j≤400):countR s i j≠-2∧∀l z q pr x,letterF s ars l z q (countR s i j) pr x=letterF s ars l z q (runV 10 s i j:Int) pr x:=by
 rcases count_yes s i j hr.2.1 h with⟨_,e,e0⟩|⟨_,e⟩
 ·rw[e,e0]
  exact⟨by omega,fun l z q pr x=>letterF_none s ars l z q pr x⟩
 ·rw[e]
  exact⟨by omega,fun _ _ _ _ _=>rfl⟩
end
structure FlS (B G P:Nat) (s:ByteArray) (k i:Nat) (av:Value) (out:List UInt8) (l z q:Bool) (w wl:World):Prop where
 fb:FB wl B G s i av out
 pb:PB wl P l z q 0 (-1) false 0 0
 lf:l=hasF 45 s k i
 zf:z=hasF 48 s k i
 qf:q=hasF 43 s k i
 fl:∀i',k≤i'→i'<i→isFlag (bAt s i')
 bl:Below B w wl
theorem pb_block{w:World}{P:Nat}{l z q r:Bool}{wd pr n:Int}{f:Nat}(h:PB w P l z q wd pr r n f):∃cs T fz,w.heap[P]? = some (.cells cs T fz)∧T≠5:=⟨_,_,_,h,by decide⟩
attribute [local go_sem] run_store_float
set_option maxHeartbeats 4000000 in
set_option maxRecDepth 100000 in
theorem writePlace_any(B G k:Nat)(s:ByteArray)(av:Value)(ars:List ArgV)(out:List UInt8)(w:World)(h:FB w B G s k av out)(hA:ArgsAt B w av ars)(hG:WrG w)(hT:0<B∧1<B)(hs:s.size≤1200)(hk:k≤s.size)(ho:out.length≤10000000) :
  Calls Tryz.prog 83 #[.pointer (some ⟨G,0,none⟩)] w fun e w'=>PlcQ B G s k av ars out w e w':=by
 have HF:Hid (FB w B G s k av out):=h
 have HA:Hid (ArgsAt B w av ars):=hA
 have HG:Hid (WrG w):=hG
 have HT:Hid (0<B∧1<B):=hT
 have hB:B≤w.heap.size:=by obtain⟨p,v,hb⟩:=h;have:=hb.lt;have:=hb.base;omega
 have hBG:B≤G:=by obtain⟨p,v,hb⟩:=h;exact hb.base
 have hGlt:=h.lt
 obtain⟨P,hP⟩:∃P,w.heap.size=P:=⟨_,rfl⟩
 have hBP:B≤P:=by omega
 have hPG:P≠G:=by omega
 have hGP:G≠P:=by omega
 have HL0:Hid (FlS B G P s k k av out false false false w (w.alloc (.cells #[.bool false,.bool false,.bool false,.int .i64 0,.int .i64 (-1),.bool false,.int .i64 0,.float .f64 0] 196))):=by
  rw[←hP]
  exact⟨h.below (box_below w _),heap_alloc_last w _,(hasF_zero _ _ _).symm,(hasF_zero _ _ _).symm,(hasF_zero _ _ _).symm,fun i' h1 h2=>by omega,(box_below w _).mono hB⟩
 have hsi:(s.size:Int)≤1200:=by omega
 have HPe:Hid (w.heap.size=P):=hP
 clear h hA hG hT hP
 go_enter Tryz.func83,Tryz.ntmps83
 go_wp2_with fail
 rw[HPe.out]
 go_loopw [] (fun wl=>∃ (i:Nat) (l z q:Bool),k≤i∧i≤s.size∧Hid (FlS B G P s k i av out l z q w wl)) (fun wl=>s.size-rrAt G wl)
 case atStart=>exact⟨k,false,false,false,Nat.le_refl _,hk,HL0⟩
 case round=>
  clear HL0 HF
  obtain⟨i,l,z,q,hki,his,HL⟩:=hrel
  obtain⟨p,v,hfc⟩:=HL.out.fb.fc
  have htx:=hfc.txt
  have hat:=hfc.at_
  have hfr:=hfc.froz 1
  have HAT:Hid (rrAt G wr=i):=fcAt_is hfc
  have hGwr:G<wr.heap.size:=hfc.lt
  have hPwr:P<wr.heap.size:=HL.out.pb.lt
  clear hfc
  by_cases hlt:i<s.size
  ·have hlt':(i:Int)<(s.size:Int):=by omega
   have HBA:Hid (bAt s i=(s[i].toNat:Int)):=bAt_in s i hlt
   by_cases hfl:isFlag (bAt s i)
   ·have HTK:Hid (∀m,Calls Tryz.prog 120 #[.pointer (some ⟨P,0,none⟩),.int .u8 (s[i].toNat:Int)] (wr.drewN m) fun e w'=>e=.returned (.bool true)∧w'.cell? ⟨G,0,none⟩=some (.string s)∧w'.cell? ⟨G,1,none⟩=some (.int .i64 (i:Int))∧w'.frozen? ⟨G,1,none⟩=false∧Hid (FlS B G P s k (i+1) av out (l || decide (bAt s i=45)) (z || decide (bAt s i=48)) (q || decide (bAt s i=43)) w (w'.setCell ⟨G,1,none⟩ (.int .i64 ((i:Int)+1))))):=fun m=>by
     have h1:PB (wr.drewN m) P l z q 0 (-1) false 0 0:=HL.out.pb
     have h2:FB (wr.drewN m) B G s i av out:=HL.out.fb.drewN m
     have h5:Below B w (wr.drewN m):=below_drewN HL.out.bl m
     rw[←HBA.out]
     refine(take_yes P l z q 0 (-1) false 0 0 (bAt s i) (wr.drewN m) h1 hfl).mono ?_
     rintro e w' ⟨rfl,hpb,hm⟩
     have hfb:=h2.mod hm (pb_block h1) hPG
     obtain⟨p',v',hbd⟩:=hfb
     have hfc:FC w' G s i av p' v':=hbd.blk
     refine⟨rfl,hfc.txt,hfc.at_,hfc.froz 1,⟨⟨p',v',FB.row hbd hfc.set1 ((Mod.refl G w').setCell _ _)⟩,hpb.other ((Mod.refl G w').setCell _ _) hPG,?_,?_,?_,?_,?_⟩⟩
     ·rw[hasF_next _ _ _ _ hki,←HL.out.lf]
     ·rw[hasF_next _ _ _ _ hki,←HL.out.zf]
     ·rw[hasF_next _ _ _ _ hki,←HL.out.qf]
     ·intro i' a b
      by_cases e:i'=i
      ·rw[e];exact hfl
      ·exact HL.out.fl i' a (by omega)
     ·exact(h5.trans (hm.belowB (by omega) (Nat.le_trans hB h5.size))).setCell (p:=⟨G,1,none⟩) hBG _
    go_wp2_with fail
    go_region_held3 (fun w'=>w'.cell? ⟨G,0,none⟩=some (.string s)∧w'.cell? ⟨G,1,none⟩=some (.int .i64 (i:Int))) (go_keep) (first|(go_at_call 120;refine(HTK.out 1).mono ?_;rintro e w' ⟨rfl,t0,t1,t2,HN⟩))
    all_goals go_wp2_with fail
    obtain⟨p2,v2,hfc2⟩:=HN.out.fb.fc
    refine⟨⟨i+1,_,_,_,by omega,by omega,HN⟩,?_⟩
    rw[HAT.out,fcAt_is hfc2]
    omega
   ·have HTK:Hid (∀W,Calls Tryz.prog 120 #[.pointer (some ⟨P,0,none⟩),.int .u8 (s[i].toNat:Int)] W fun e w'=>e=.returned (.bool false)∧w'=W):=fun W=>by
     rw[←HBA.out]
     exact take_no P (bAt s i) W hfl
    have HFR:Hid (FRun s k i):=⟨hki,his,HL.out.fl,hfl⟩
    go_wp2_with fail
    go_region_held3 (fun w'=>w'.cell? ⟨G,0,none⟩=some (.string s)∧w'.cell? ⟨G,1,none⟩=some (.int .i64 (i:Int))) (go_keep) (first|(go_at_call 120;refine(HTK.out _).mono ?_;rintro e w' ⟨rfl,rfl⟩))
    all_goals go_wp2_with fail
    have HC:Hid (∀m,Calls Tryz.prog 121 #[.pointer (some ⟨G,0,none⟩)] (wr.drewN m) fun e w'=>∃j n ok k',Hid (CountV s i j n ok k')∧e=.returned (.tuple #[.int .i64 n,.bool ok])∧Hid (FB w' B G s k' av out∧PB w' P l z q 0 (-1) false 0 0∧Below B w w')):=fun m=>by
     refine(fcountF B G i s av out (wr.drewN m) (HL.out.fb.drewN m) his hs).mono ?_
     rintro e w' ⟨j,n,ok,k',h1,h2,h3,h4⟩
     have hb:Below B w (wr.drewN m):=below_drewN HL.out.bl m
     exact⟨j,n,ok,k',h1,h2,h3,(show PB (wr.drewN m) P l z q 0 (-1) false 0 0 from HL.out.pb).other h4 hPG,hb.trans (h4.belowB hBG (Nat.le_trans hB hb.size))⟩
    first|refine(HC.out 1).mono ?_|refine(HC.out _).mono ?_
    rintro e W2 ⟨j,n,ok,k',HV,rfl,HS2⟩
    have q3:=HS2.out.2.1.c3
    have qf3:=HS2.out.2.1.froz 3
    have HB2:Hid (∀y,Below B w (W2.setCell ⟨P,3,none⟩ (.int .i64 y))):=fun y=>HS2.out.2.2.setCell (p:=⟨P,3,none⟩) hBP _
    have HF2:Hid (∀y,FB (W2.setCell ⟨P,3,none⟩ (.int .i64 y)) B G s k' av out):=fun y=>HS2.out.1.mod ((Mod.refl P W2).setCell _ _) (pb_block HS2.out.2.1) hPG
    obtain⟨hrun,hcv⟩:=HV.out
    have HRU:Hid (Run 10 s i j):=hrun
    have hjs:j≤s.size:=hrun.2.1
    have hij:i≤j:=hrun.1
    rcases hcv with⟨hbig,rfl,rfl,rfl⟩|⟨hsm,rfl,rfl,rfl⟩
    ·have HBD:Hid (placeF s ars k=.bad k'):=place_bad1 HFR.out HRU.out (count_no _ _ _ hbig)
     clear hbig HV hrun
     go_wp2_with fail
     go_ret
     exact⟨false,rfl,HB2.out _,.inl ⟨rfl,k',his,HBD.out,HF2.out _⟩⟩
    ·have HW:Hid (countR s i k'≠-2∧∀l z q pr x,letterF s ars l z q (countR s i k') pr x=letterF s ars l z q (runV 10 s i k':Int) pr x):=count_wd HRU.out hsm
     obtain⟨Y,hY⟩:∃Y:Int,(runV 10 s i k':Int)=Y:=⟨_,rfl⟩
     have hY0:0≤Y:=by omega
     have hY4:Y≤400:=by omega
     rw[hY]at HW ⊢
     have HP3:Hid (PB (W2.setCell ⟨P,3,none⟩ (.int .i64 Y)) P l z q Y (-1) false 0 0):=HS2.out.2.1.set3 Y
     have HF3:Hid (FB (W2.setCell ⟨P,3,none⟩ (.int .i64 Y)) B G s k' av out):=HF2.out Y
     have HB3:Hid (Below B w (W2.setCell ⟨P,3,none⟩ (.int .i64 Y))):=HB2.out Y
     clear hY hsm HV hrun HF2 HB2
     go_wp2_with fail
     obtain⟨W3,hW3⟩:∃W3,W2.setCell ⟨P,3,none⟩ (.int .i64 Y)=W3:=⟨_,rfl⟩
     rw[hW3]at HP3 HF3 HB3 ⊢
     clear hW3 q3 qf3 HS2 HC
     have HPL:Hid (∀pr x,letterF s ars (hasF 45 s k i) (hasF 48 s k i) (hasF 43 s k i) (countR s i k') pr x=letterF s ars l z q Y pr x):=fun pr x=>by rw[←HL.out.lf,←HL.out.zf,←HL.out.qf];exact HW.out.2 l z q pr x
     have HSE:Hid (Calls Tryz.prog 81 #[.pointer (some ⟨G,0,none⟩),.string ⟨#[46]⟩] W3 fun e w'=>e=.returned (.bool (decide (bAt s k'=46)))∧∃n,w'=W3.drewN n):=by
      have:=fseesF B G k' s ⟨#[46]⟩ av out W3 HF3.out hjs
      rw[pre_one s k' 46 (by decide)]at this
      exact this
     refine HSE.out.mono ?_
     rintro e w' ⟨rfl,m3,rfl⟩
     have HWA:Hid (∀ (pr:Int) (x:Nat) (W:World),FB W B G s x av out→PB W P l z q Y pr false 0 0→Below B w W→x≤s.size→-1≤pr→pr≤400→k<x+1→placeF s ars k=letterF s ars l z q Y pr x→Calls Tryz.prog 122 #[.pointer (some ⟨G,0,none⟩),.agg #[.bool l,.bool z,.bool q,.int .i64 Y,.int .i64 pr,.bool false,.int .i64 0,.float .f64 0]] W fun e w'=>∃ok3,e=.returned (.bool ok3)∧Hid (PlcQ B G s k av ars out w (.returned (.bool ok3)) w')):=fun pr x W h1 h2 h3 h4 h5 h6 h7 h8=>by
      have:=writeArg_any B G x s av ars out l z q Y pr W h1 (HA.out.below h3) (HG.out.belowB HT.out h3) hs h4 hY0 hY4 h5 h6 ho
      refine Calls.mono (show Calls Tryz.prog _ #[.pointer (some ⟨G,0,none⟩),.agg #[.bool l,.bool z,.bool q,.int .i64 Y,.int .i64 pr,.bool false,.int .i64 0,.float .f64 0]] W _ from this) ?_
      rintro e w' ⟨ok3,rfl,hb,hh⟩
      refine⟨ok3,rfl,ok3,rfl,h3.trans hb,?_⟩
      rcases hh with⟨rfl,a1,a2⟩|⟨rfl,t,av',a1,a2,a2b,a3,a4⟩
      ·exact .inl ⟨rfl,x,h4,h8.trans a1,a2⟩
      ·exact .inr ⟨rfl,t,x+1,av',h8.trans a1,h7,a2,a2b,a3,a4⟩
     by_cases hd:bAt s k'=46
     ·rw[decide_eq_true hd]
      have hk1:k'<s.size:=by
       by_cases hh:k'<s.size
       ·exact hh
       ·rw[bAt_out s k' hh]at hd;omega
      obtain⟨p3,v3,hbd3⟩:=HF3.out
      have hfc3:FC W3 G s k' av p3 v3:=hbd3.blk
      have a1:=hfc3.at_
      have af1:=hfc3.froz 1
      have HD:Hid (bAt s k'=46):=hd
      have hki':(k':Int)<(s.size:Int):=by omega
      have HFS:Hid (∀m,FB ((W3.drewN m).setCell ⟨G,1,none⟩ (.int .i64 ((k':Int)+1))) B G s (k'+1) av out):=fun m=>⟨p3,v3,FB.row (w:=W3.drewN m) ⟨hbd3.base,hbd3.blk,hbd3.adr,hbd3.buf,hbd3.own,hbd3.lies,hbd3.ne8⟩ (show FC (W3.drewN m) G s k' av p3 v3 from hfc3).set1 ((Mod.refl G _).setCell _ _)⟩
      have HC2:Hid (∀m,Calls Tryz.prog 121 #[.pointer (some ⟨G,0,none⟩)] ((W3.drewN m).setCell ⟨G,1,none⟩ (.int .i64 ((k':Int)+1))) fun e w'=>∃j n ok k2,Hid (CountV s (k'+1) j n ok k2)∧e=.returned (.tuple #[.int .i64 n,.bool ok])∧Hid (FB w' B G s k2 av out∧PB w' P l z q Y (-1) false 0 0∧Below B w w')):=fun m=>by
       refine(fcountF B G (k'+1) s av out _ (HFS.out m) (by omega) hs).mono ?_
       rintro e w' ⟨j,n,ok,k2,h1,h2,h3,h4⟩
       have hb:Below B w ((W3.drewN m).setCell ⟨G,1,none⟩ (.int .i64 ((k':Int)+1))):=(below_drewN HB3.out m).setCell (p:=⟨G,1,none⟩) hBG _
       have hp:PB ((W3.drewN m).setCell ⟨G,1,none⟩ (.int .i64 ((k':Int)+1))) P l z q Y (-1) false 0 0:=(show PB (W3.drewN m) P l z q Y (-1) false 0 0 from HP3.out).other ((Mod.refl G _).setCell _ _) hPG
       exact⟨j,n,ok,k2,h1,h2,h3,hp.other h4 hPG,hb.trans (h4.belowB hBG (Nat.le_trans hB hb.size))⟩
      clear hd hfc3 hbd3
      go_wp2_with fail
      refine(HC2.out _).mono ?_
      rintro e W5 ⟨j2,n2,ok2,k2,HV2,rfl,HS5⟩
      have q4:=HS5.out.2.1.c4
      have qf4:=HS5.out.2.1.froz 4
      obtain⟨p5,v5,hfc5⟩:=HS5.out.1.fc
      have b1:=hfc5.at_
      clear hfc5
      have HB5:Hid (∀y,Below B w (W5.setCell ⟨P,4,none⟩ (.int .i64 y))):=fun y=>HS5.out.2.2.setCell (p:=⟨P,4,none⟩) hBP _
      have HF5:Hid (∀y,FB (W5.setCell ⟨P,4,none⟩ (.int .i64 y)) B G s k2 av out):=fun y=>HS5.out.1.mod ((Mod.refl P W5).setCell _ _) (pb_block HS5.out.2.1) hPG
      obtain⟨hrun2,hcv2⟩:=HV2.out
      have HR2:Hid (Run 10 s (k'+1) j2):=hrun2
      have hj2s:j2≤s.size:=hrun2.2.1
      have hj2k:k'+1≤j2:=hrun2.1
      clear HV2 hrun2 HC2 a1 af1
      rcases hcv2 with⟨hbig,rfl,rfl,rfl⟩|⟨hsm,rfl,rfl,rfl⟩
      ·have HBD:Hid (placeF s ars k=.bad (k'+1)):=place_dotbad HFR.out HRU.out HW.out.1 HD.out HR2.out (by rw[count_no _ _ _ hbig];omega)
       clear hbig
       go_wp2_with fail
       go_ret
       exact⟨false,rfl,HB5.out _,.inl ⟨rfl,k'+1,by omega,HBD.out,HF5.out _⟩⟩
      ·have HCY:Hid _:=count_yes s (k'+1) k2 hj2s hsm
       obtain⟨Z,hZ⟩:∃Z:Int,(runV 10 s (k'+1) k2:Int)=Z:=⟨_,rfl⟩
       have hZ0:0≤Z:=by omega
       have hZ4:Z≤400:=by omega
       rw[hZ]at HCY ⊢
       clear hsm hZ
       by_cases hem:k'+1<k2
       ·have hcz:countR s (k'+1) k2=Z:=by
         rcases HCY.out with⟨h,_⟩|⟨_,h⟩
         ·omega
         ·exact h
        have HPE:Hid (placeF s ars k=letterF s ars l z q Y Z k2):=by
         have:=place_dot (ars:=ars) HFR.out HRU.out HW.out.1 HD.out HR2.out (by rw[hcz];omega)
         rw[hcz]at this
         exact this.trans (HPL.out Z k2)
        have hbq:((k2:Int)==(k':Int)+1)=false:=beq_eq_false_iff_ne.2 (by omega)
        have HPZ:Hid (PB (W5.setCell ⟨P,4,none⟩ (.int .i64 Z)) P l z q Y Z false 0 0):=HS5.out.2.1.set4 Z
        have HWX:Hid _:=fun(_:Unit)=>HWA.out Z k2 (W5.setCell ⟨P,4,none⟩ (.int .i64 Z)) (HF5.out Z) HPZ.out (HB5.out Z) hj2s (by omega) hZ4 (by omega) HPE.out
        have r0:=HS5.out.2.1.c0
        have r1:=HS5.out.2.1.c1
        have r2:=HS5.out.2.1.c2
        have r3:=HS5.out.2.1.c3
        have r5:=HS5.out.2.1.c5
        have r6:=HS5.out.2.1.c6
        have r7:=HS5.out.2.1.c7
        clear hcz HCY HWA
        go_wp2_with fail
        refine(HWX.out ()).mono ?_
        rintro e w' ⟨ok3,rfl,HQ⟩
        go_wp2_with fail
        go_ret
        exact HQ.out
       ·obtain rfl:k2=k'+1:=by omega
        have HBD:Hid (placeF s ars k=.bad (k'+1)):=place_dotbad HFR.out HRU.out HW.out.1 HD.out HR2.out (by
         rcases HCY.out with⟨_,h,_⟩|⟨h,_⟩
         ·rw[h];omega
         ·omega)
        clear hem HCY HWA
        go_wp2_with fail
        go_ret
        exact⟨false,rfl,HB5.out _,.inl ⟨rfl,k'+1,by omega,HBD.out,HF5.out _⟩⟩
     ·rw[decide_eq_false hd]
      have HPE:Hid (placeF s ars k=letterF s ars l z q Y (-1) k'):=(place_nodot HFR.out HRU.out HW.out.1 hd).trans (HPL.out (-1) k')
      have HWX:Hid _:=fun m=>HWA.out (-1) k' (W3.drewN m) (HF3.out.drewN m) HP3.out (below_drewN HB3.out m) hjs (by omega) (by omega) (by omega) HPE.out
      have r0:=HP3.out.c0
      have r1:=HP3.out.c1
      have r2:=HP3.out.c2
      have r3:=HP3.out.c3
      have r4:=HP3.out.c4
      have r5:=HP3.out.c5
      have r6:=HP3.out.c6
      have r7:=HP3.out.c7
      clear hd HWA
      go_wp2_with fail
      refine(HWX.out _).mono ?_
      rintro e w' ⟨ok3,rfl,HQ⟩
      go_wp2_with fail
      go_ret
      exact HQ.out
  ·have hlt':decide ((i:Int)<(s.size:Int))=false:=decide_eq_false (by omega)
   have HFR:Hid (FRun s k i):=⟨hki,his,HL.out.fl,fun hf=>hlt (flag_in s i hf)⟩
   go_wp2_with fail
   go_quiet (fail)
   go_wp2_with fail
   have HC:Hid (∀m,Calls Tryz.prog 121 #[.pointer (some ⟨G,0,none⟩)] (wr.drewN m) fun e w'=>∃j n ok k',Hid (CountV s i j n ok k')∧e=.returned (.tuple #[.int .i64 n,.bool ok])∧Hid (FB w' B G s k' av out∧PB w' P l z q 0 (-1) false 0 0∧Below B w w')):=fun m=>by
    refine(fcountF B G i s av out (wr.drewN m) (HL.out.fb.drewN m) his hs).mono ?_
    rintro e w' ⟨j,n,ok,k',h1,h2,h3,h4⟩
    have hb:Below B w (wr.drewN m):=below_drewN HL.out.bl m
    exact⟨j,n,ok,k',h1,h2,h3,(show PB (wr.drewN m) P l z q 0 (-1) false 0 0 from HL.out.pb).other h4 hPG,hb.trans (h4.belowB hBG (Nat.le_trans hB hb.size))⟩
   first|refine(HC.out 1).mono ?_|refine(HC.out _).mono ?_
   rintro e W2 ⟨j,n,ok,k',HV,rfl,HS2⟩
   have q3:=HS2.out.2.1.c3
   have qf3:=HS2.out.2.1.froz 3
   have HB2:Hid (∀y,Below B w (W2.setCell ⟨P,3,none⟩ (.int .i64 y))):=fun y=>HS2.out.2.2.setCell (p:=⟨P,3,none⟩) hBP _
   have HF2:Hid (∀y,FB (W2.setCell ⟨P,3,none⟩ (.int .i64 y)) B G s k' av out):=fun y=>HS2.out.1.mod ((Mod.refl P W2).setCell _ _) (pb_block HS2.out.2.1) hPG
   obtain⟨hrun,hcv⟩:=HV.out
   have HRU:Hid (Run 10 s i j):=hrun
   have hjs:j≤s.size:=hrun.2.1
   have hij:i≤j:=hrun.1
   rcases hcv with⟨hbig,rfl,rfl,rfl⟩|⟨hsm,rfl,rfl,rfl⟩
   ·have HBD:Hid (placeF s ars k=.bad k'):=place_bad1 HFR.out HRU.out (count_no _ _ _ hbig)
    clear hbig HV hrun
    go_wp2_with fail
    go_ret
    exact⟨false,rfl,HB2.out _,.inl ⟨rfl,k',his,HBD.out,HF2.out _⟩⟩
   ·have HW:Hid (countR s i k'≠-2∧∀l z q pr x,letterF s ars l z q (countR s i k') pr x=letterF s ars l z q (runV 10 s i k':Int) pr x):=count_wd HRU.out hsm
    obtain⟨Y,hY⟩:∃Y:Int,(runV 10 s i k':Int)=Y:=⟨_,rfl⟩
    have hY0:0≤Y:=by omega
    have hY4:Y≤400:=by omega
    rw[hY]at HW ⊢
    have HP3:Hid (PB (W2.setCell ⟨P,3,none⟩ (.int .i64 Y)) P l z q Y (-1) false 0 0):=HS2.out.2.1.set3 Y
    have HF3:Hid (FB (W2.setCell ⟨P,3,none⟩ (.int .i64 Y)) B G s k' av out):=HF2.out Y
    have HB3:Hid (Below B w (W2.setCell ⟨P,3,none⟩ (.int .i64 Y))):=HB2.out Y
    clear hY hsm HV hrun HF2 HB2
    go_wp2_with fail
    obtain⟨W3,hW3⟩:∃W3,W2.setCell ⟨P,3,none⟩ (.int .i64 Y)=W3:=⟨_,rfl⟩
    rw[hW3]at HP3 HF3 HB3 ⊢
    clear hW3 q3 qf3 HS2 HC
    have HPL:Hid (∀pr x,letterF s ars (hasF 45 s k i) (hasF 48 s k i) (hasF 43 s k i) (countR s i k') pr x=letterF s ars l z q Y pr x):=fun pr x=>by rw[←HL.out.lf,←HL.out.zf,←HL.out.qf];exact HW.out.2 l z q pr x
    have HSE:Hid (Calls Tryz.prog 81 #[.pointer (some ⟨G,0,none⟩),.string ⟨#[46]⟩] W3 fun e w'=>e=.returned (.bool (decide (bAt s k'=46)))∧∃n,w'=W3.drewN n):=by
     have:=fseesF B G k' s ⟨#[46]⟩ av out W3 HF3.out hjs
     rw[pre_one s k' 46 (by decide)]at this
     exact this
    refine HSE.out.mono ?_
    rintro e w' ⟨rfl,m3,rfl⟩
    have HWA:Hid (∀ (pr:Int) (x:Nat) (W:World),FB W B G s x av out→PB W P l z q Y pr false 0 0→Below B w W→x≤s.size→-1≤pr→pr≤400→k<x+1→placeF s ars k=letterF s ars l z q Y pr x→Calls Tryz.prog 122 #[.pointer (some ⟨G,0,none⟩),.agg #[.bool l,.bool z,.bool q,.int .i64 Y,.int .i64 pr,.bool false,.int .i64 0,.float .f64 0]] W fun e w'=>∃ok3,e=.returned (.bool ok3)∧Hid (PlcQ B G s k av ars out w (.returned (.bool ok3)) w')):=fun pr x W h1 h2 h3 h4 h5 h6 h7 h8=>by
     have:=writeArg_any B G x s av ars out l z q Y pr W h1 (HA.out.below h3) (HG.out.belowB HT.out h3) hs h4 hY0 hY4 h5 h6 ho
     refine Calls.mono (show Calls Tryz.prog _ #[.pointer (some ⟨G,0,none⟩),.agg #[.bool l,.bool z,.bool q,.int .i64 Y,.int .i64 pr,.bool false,.int .i64 0,.float .f64 0]] W _ from this) ?_
     rintro e w' ⟨ok3,rfl,hb,hh⟩
     refine⟨ok3,rfl,ok3,rfl,h3.trans hb,?_⟩
     rcases hh with⟨rfl,a1,a2⟩|⟨rfl,t,av',a1,a2,a2b,a3,a4⟩
     ·exact .inl ⟨rfl,x,h4,h8.trans a1,a2⟩
     ·exact .inr ⟨rfl,t,x+1,av',h8.trans a1,h7,a2,a2b,a3,a4⟩
    by_cases hd:bAt s k'=46
    ·rw[bAt_out s k' (by omega)]at hd
     omega
    ·rw[decide_eq_false hd]
     have HPE:Hid (placeF s ars k=letterF s ars l z q Y (-1) k'):=(place_nodot HFR.out HRU.out HW.out.1 hd).trans (HPL.out (-1) k')
     have HWX:Hid _:=fun m=>HWA.out (-1) k' (W3.drewN m) (HF3.out.drewN m) HP3.out (below_drewN HB3.out m) hjs (by omega) (by omega) (by omega) HPE.out
     have r0:=HP3.out.c0
     have r1:=HP3.out.c1
     have r2:=HP3.out.c2
     have r3:=HP3.out.c3
     have r4:=HP3.out.c4
     have r5:=HP3.out.c5
     have r6:=HP3.out.c6
     have r7:=HP3.out.c7
     clear hd HWA
     go_wp2_with fail
     refine(HWX.out _).mono ?_
     rintro e w' ⟨ok3,rfl,HQ⟩
     go_wp2_with fail
     go_ret
     exact HQ.out
def WalQ(B G:Nat)(s:ByteArray)(ars:List ArgV)(w:World)(e:Ending)(w':World):Prop:=∃ok,e=.returned (.bool ok)∧Below B w w' ∧
 ((ok=false∧∃a av out,a≤s.size∧fmtA s ars=.bad a∧FB w' B G s a av out)∨(ok=true∧∃k av out,fmtA s ars=.good out∧FB w' B G s k av out∧out.length≤700000))
structure WaS (B G:Nat) (s:ByteArray) (ars0:List ArgV) (k:Nat) (av:Value) (ars:List ArgV) (out:List UInt8) (w wl:World):Prop where
 fb:FB wl B G s k av out
 ar:ArgsAt B wl av ars
 st:FmtS s ars0 k ars out
 bl:Below B w wl
 ln:out.length+6001*ars.length≤600100+k
theorem WaS.drewN{B G k:Nat}{s:ByteArray}{ars0 ars:List ArgV}{av:Value}{out:List UInt8}{w wl:World}(h:WaS B G s ars0 k av ars out w wl)(n:Nat):WaS B G s ars0 k av ars out w (wl.drewN n):=⟨h.fb.drewN n,h.ar,h.st,below_drewN h.bl n,h.ln⟩
theorem letterF_some(s:ByteArray)(ars:List ArgV)(l z q:Bool)(wd pr:Int)(j:Nat)(t:ByteArray)(k':Nat)(h:letterF s ars l z q wd pr j=.good t k'):ars≠[]:=by
 rintro rfl
 cases h
theorem placeF_some(s:ByteArray)(ars:List ArgV)(k:Nat)(t:ByteArray)(k':Nat)(h:placeF s ars k=.good t k'):ars≠[]:=by
 unfold placeF at h
 split at h
 ·cases h
 ·split at h
  ·split at h
   ·cases h
   ·exact letterF_some _ _ _ _ _ _ _ _ _ _ h
  ·exact letterF_some _ _ _ _ _ _ _ _ _ _ h
theorem pre_any2(s:ByteArray)(k:Nat):pre (s.extract k s.size) ⟨#[37,37]⟩=decide (bAt s k=37∧bAt s (k+1)=37):=by
 rw[pre_two]
 show decide (bAt s k=37∧k+1<s.size∧bAt s (k+1)=37)=_
 congr 1
 apply propext
 constructor
 ·rintro⟨a,_,b⟩;exact⟨a,b⟩
 ·rintro⟨a,b⟩
  refine⟨a,?_,b⟩
  by_cases h:k+1<s.size
  ·exact h
  ·rw[bAt_out s (k+1) h]at b;omega
theorem fbyteF(B G k:Nat)(s:ByteArray)(av:Value)(out:List UInt8)(c:UInt8)(w:World)(h:FB w B G s k av out)(ho:out.length≤10000000) :
  Calls Tryz.prog 82 #[.pointer (some ⟨G,3,none⟩),.int .u8 (c.toNat:Int)] w fun e w'=>e=.returned .nilIface∧FB w' B G s k av (out++[c])∧Below B w w':=by
 obtain⟨p,v,hb⟩:=h
 refine(gByte_any B G 3 _ _ _ _ (c.toNat:Int) w hb (by rw[Lib.byteCells_length];omega) (by have:=hb.lt;have:=hb.base;omega)).mono ?_
 rintro e w' ⟨rfl,v2,h1,h2⟩
 refine⟨rfl,⟨.pointer (some ⟨G,3,none⟩),v2,?_⟩,h2⟩
 rw[Lib.byteCells_append]
 exact h1
theorem FB.set1{w:World}{B G k:Nat}{s:ByteArray}{av:Value}{out:List UInt8}(h:FB w B G s k av out)(d:Nat):FB (w.setCell ⟨G,1,none⟩ (.int .i64 ((k:Int)+(d:Int)))) B G s (k+d) av out:=by
 obtain⟨p,v,h⟩:=h
 have hf:FC w G s k av p v:=h.blk
 exact⟨p,v,FB.row h (hf.set (k+d)) ((Mod.refl G w).setCell _ _)⟩
set_option maxHeartbeats 4000000 in
set_option maxRecDepth 100000 in
theorem writeAll_any(B G:Nat)(s:ByteArray)(av:Value)(ars:List ArgV)(w:World)(h:FB w B G s 0 av [])(hA:ArgsAt B w av ars)(hG:WrG w)(hT:0<B∧1<B)(hs:s.size≤1200) :
  Calls Tryz.prog 41 #[.pointer (some ⟨G,0,none⟩)] w fun e w'=>WalQ B G s ars w e w':=by
 have HG:Hid (WrG w):=hG
 have HT:Hid (0<B∧1<B):=hT
 have hBG:B≤G:=by obtain⟨p,v,hb⟩:=h;exact hb.base
 have HL0:Hid (WaS B G s ars 0 av ars [] w w):=⟨h,hA,FmtS.start s ars,Below.refl _ _,by obtain⟨_,_,_,_,h3,_⟩:=hA;simp;omega⟩
 have hsi:(s.size:Int)≤1200:=by omega
 clear h hA hG hT
 go_enter Tryz.func41,Tryz.ntmps41
 go_wp2_with fail
 go_loopw [] (fun wl=>∃ (i:Nat) (va:Value) (ar:List ArgV) (out:List UInt8),i≤s.size∧Hid (WaS B G s ars i va ar out w wl)) (fun wl=>s.size-rrAt G wl)
 case atStart=>exact⟨0,av,ars,[],by omega,HL0⟩
 case round=>
  clear HL0
  obtain⟨i,va,ar,out,his,HL⟩:=hrel
  obtain⟨p,v,hfc⟩:=HL.out.fb.fc
  have htx:=hfc.txt
  have hat:=hfc.at_
  have hfr:=hfc.froz 1
  have HAT:Hid (rrAt G wr=i):=fcAt_is hfc
  have hol:out.length≤700000:=by have:=HL.out.ln;omega
  have hmin:min (s.size:Int) 1200=(s.size:Int):=by omega
  clear hfc
  have hif:(if (1200:Int)<(s.size:Int) then (1200:Int) else (s.size:Int))=(s.size:Int):=if_neg (by omega)
  have HSE:Hid (∀ (W:World) (q:ByteArray),WaS B G s ars i va ar out w W→Calls Tryz.prog 81 #[.pointer (some ⟨G,0,none⟩),.string q] W fun e w'=>e=.returned (.bool (pre (s.extract i s.size) q))∧Hid (WaS B G s ars i va ar out w w')):=fun W q hW=>by
   refine(fseesF B G i s q va out W hW.fb his).mono ?_
   rintro e w' ⟨rfl,n,rfl⟩
   exact⟨rfl,hW.drewN n⟩
  have HWB:Hid (∀ (W:World) (c:UInt8),WaS B G s ars i va ar out w W→Calls Tryz.prog 82 #[.pointer (some ⟨G,3,none⟩),.int .u8 (c.toNat:Int)] W fun e w'=>e=.returned .nilIface∧Hid (FB w' B G s i va (out++[c])∧ArgsAt B w' va ar∧Below B w w')):=fun W c hW=>by
   refine(fbyteF B G i s va out c W hW.fb (by omega)).mono ?_
   rintro e w' ⟨rfl,h1,h2⟩
   exact⟨rfl,h1,hW.ar.below h2,hW.bl.trans h2⟩
  have hln:=HL.out.ln
  have hif:(if (1200:Int)<(s.size:Int) then (1200:Int) else (s.size:Int))=(s.size:Int):=if_neg (by omega)
  have HSE:Hid (∀ (W:World) (q:ByteArray),WaS B G s ars i va ar out w W→Calls Tryz.prog 81 #[.pointer (some ⟨G,0,none⟩),.string q] W fun e w'=>e=.returned (.bool (pre (s.extract i s.size) q))∧Hid (WaS B G s ars i va ar out w w')):=fun W q hW=>by
   refine(fseesF B G i s q va out W hW.fb his).mono ?_
   rintro e w' ⟨rfl,n,rfl⟩
   exact⟨rfl,hW.drewN n⟩
  have HWB:Hid (∀ (W:World) (c:UInt8),WaS B G s ars i va ar out w W→Calls Tryz.prog 82 #[.pointer (some ⟨G,3,none⟩),.int .u8 (c.toNat:Int)] W fun e w'=>e=.returned .nilIface∧Hid (FB w' B G s i va (out++[c])∧ArgsAt B w' va ar∧Below B w w')):=fun W c hW=>by
   refine(fbyteF B G i s va out c W hW.fb (by omega)).mono ?_
   rintro e w' ⟨rfl,h1,h2⟩
   exact⟨rfl,h1,hW.ar.below h2,hW.bl.trans h2⟩
  have hln:=HL.out.ln
  by_cases hlt:i<s.size
  ·have hlt':(i:Int)<(s.size:Int):=by omega
   have HL1:Hid (∀m,WaS B G s ars i va ar out w (wr.drewN m)):=fun m=>HL.out.drewN m
   by_cases h37:bAt s i=37
   ·by_cases h372:bAt s (i+1)=37
    ·have hp:pre (s.extract i s.size) ⟨#[37,37]⟩=true:=by rw[pre_any2];exact decide_eq_true ⟨h37,h372⟩
     have hi2:i+2≤s.size:=by
      by_cases hh:i+1<s.size
      ·omega
      ·rw[bAt_out s (i+1) hh]at h372;omega
     have HST:Hid (FmtS s ars (i+2) ar (out++[37])):=HL.out.st.twice hlt h37 h372
     clear h37 h372
     go_wp2_with fail
     go_region_held3 (fun w'=>w'.cell? ⟨G,0,none⟩=some (.string s)∧w'.cell? ⟨G,1,none⟩=some (.int .i64 (i:Int))) (go_keep) (fail)
     all_goals go_wp2_with fail
     refine(HSE.out _ _ (HL1.out 1)).mono ?_
     rintro e W1 ⟨rfl,HW1⟩
     rw[hp]
     go_wp2_with fail
     refine(HWB.out _ 37 HW1.out).mono ?_
     rintro e W2 ⟨rfl,HW2⟩
     obtain⟨p2,v2,hfc2⟩:=HW2.out.1.fc
     have a1:=hfc2.at_
     have af1:=hfc2.froz 1
     clear hfc2
     go_wp2_with fail
     have HFB:Hid (FB (W2.setCell ⟨G,1,none⟩ (.int .i64 ((i:Int)+2))) B G s (i+2) va (out++[37])):=HW2.out.1.set1 2
     refine⟨⟨i+2,va,ar,out++[37],by omega,⟨HFB.out,HW2.out.2.1.below ((Below.refl B W2).setCell (p:=⟨G,1,none⟩) hBG _),HST.out,HW2.out.2.2.setCell (p:=⟨G,1,none⟩) hBG _,by simp;omega⟩⟩,?_⟩
     obtain⟨p9,v9,hfc9⟩:=HFB.out.fc
     rw[HAT.out,fcAt_is hfc9]
     omega
    ·have hp:pre (s.extract i s.size) ⟨#[37,37]⟩=false:=by rw[pre_any2];exact decide_eq_false (fun h=>h372 h.2)
     have hp1:pre (s.extract i s.size) ⟨#[37]⟩=true:=by rw[pre_one s i 37 (by decide)];exact decide_eq_true h37
     have HBAD:Hid (∀a,placeF s ar (i+1)=.bad a→fmtA s ars=.bad a):=fun a ha=>HL.out.st.fault hlt h37 h372 ha
     have HGOOD:Hid (∀t k',placeF s ar (i+1)=.good t k'→i<k'→FmtS s ars k' ar.tail (out++t.data.toList)):=fun t k' ha hk=>HL.out.st.place hlt h37 h372 ha hk
     have HNIL:Hid (∀t k',placeF s ar (i+1)=.good t k'→ar≠[]):=fun t k' ha=>placeF_some s ar (i+1) t k' ha
     clear h37 h372
     go_wp2_with fail
     go_region_held3 (fun w'=>w'.cell? ⟨G,0,none⟩=some (.string s)∧w'.cell? ⟨G,1,none⟩=some (.int .i64 (i:Int))) (go_keep) (fail)
     all_goals go_wp2_with fail
     refine(HSE.out _ _ (HL1.out 1)).mono ?_
     rintro e W1 ⟨rfl,HW1⟩
     rw[hp]
     go_wp2_with fail
     refine(HSE.out _ _ HW1.out).mono ?_
     rintro e W2 ⟨rfl,HW2⟩
     rw[hp1]
     obtain⟨p2,v2,hfc2⟩:=HW2.out.fb.fc
     have a1:=hfc2.at_
     have af1:=hfc2.froz 1
     clear hfc2
     have HPL:Hid (Calls Tryz.prog 83 #[.pointer (some ⟨G,0,none⟩)] (W2.setCell ⟨G,1,none⟩ (.int .i64 ((i:Int)+1))) fun e w'=>PlcQ B G s (i+1) va ar out (W2.setCell ⟨G,1,none⟩ (.int .i64 ((i:Int)+1))) e w'):=by
      have hb:=(Below.refl B W2).setCell (p:=⟨G,1,none⟩) hBG (.int .i64 ((i:Int)+1))
      exact writePlace_any B G (i+1) s va ar out _ (HW2.out.fb.set1 1) (HW2.out.ar.below hb) (HG.out.belowB HT.out (HW2.out.bl.trans hb)) HT.out hs (by omega) (by omega)
     have HB2:Hid (Below B w (W2.setCell ⟨G,1,none⟩ (.int .i64 ((i:Int)+1)))):=HW2.out.bl.setCell (p:=⟨G,1,none⟩) hBG _
     go_wp2_with fail
     refine HPL.out.mono ?_
     rintro e W3 ⟨ok,rfl,hb3,hcase⟩
     rcases hcase with⟨rfl,a,ha,hpl,hfb⟩|⟨rfl,t,k',av',hpl,hk,hk2,htz,hfb,har⟩
     ·have HE:Hid (WalQ B G s ars w (.returned (.bool false)) W3):=⟨false,rfl,HB2.out.trans hb3,.inl ⟨rfl,a,va,out,ha,HBAD.out a hpl,hfb⟩⟩
      clear hpl hfb hb3
      go_wp2_with fail
      try rw[Exit.noGoto_ret]
      go_ret
      exact HE.out
     ·have HFB:Hid (FB W3 B G s k' av' (out++t.data.toList)):=hfb
      have hne:=HNIL.out t k' hpl
      have HWS:Hid (WaS B G s ars k' av' ar.tail (out++t.data.toList) w W3):=⟨hfb,har,HGOOD.out t k' hpl (by omega),HB2.out.trans hb3,by
       cases ar with
       | nil=>exact absurd rfl hne
       | cons a ar'=>
        simp only[List.length_append,List.tail_cons,List.length_cons]at hln ⊢
        rw[data_len]
        omega⟩
      clear hpl hfb hb3 har hne
      go_wp2_with fail
      refine⟨⟨k',av',ar.tail,out++t.data.toList,hk2,HWS⟩,?_⟩
      obtain⟨p9,v9,hfc9⟩:=HFB.out.fc
      rw[HAT.out,fcAt_is hfc9]
      omega
   ·have hp:pre (s.extract i s.size) ⟨#[37,37]⟩=false:=by rw[pre_any2];exact decide_eq_false (fun h=>h37 h.1)
    have hp1:pre (s.extract i s.size) ⟨#[37]⟩=false:=by rw[pre_one s i 37 (by decide)];exact decide_eq_false h37
    have HST:Hid (FmtS s ars (i+1) ar (out++[s[i]])):=HL.out.st.byte hlt h37
    clear h37
    go_wp2_with fail
    go_region_held3 (fun w'=>w'.cell? ⟨G,0,none⟩=some (.string s)∧w'.cell? ⟨G,1,none⟩=some (.int .i64 (i:Int))) (go_keep) (fail)
    all_goals go_wp2_with fail
    refine(HSE.out _ _ (HL1.out 1)).mono ?_
    rintro e W1 ⟨rfl,HW1⟩
    rw[hp]
    go_wp2_with fail
    refine(HSE.out _ _ HW1.out).mono ?_
    rintro e W2 ⟨rfl,HW2⟩
    rw[hp1]
    obtain⟨p2,v2,hfc2⟩:=HW2.out.fb.fc
    have a0:=hfc2.txt
    have a1:=hfc2.at_
    clear hfc2
    have HWX:Hid (∀m,Calls Tryz.prog 82 #[.pointer (some ⟨G,3,none⟩),.int .u8 (s[i].toNat:Int)] (W2.drewN m) fun e w'=>e=.returned .nilIface∧w'.cell? ⟨G,0,none⟩=some (.string s)∧w'.cell? ⟨G,1,none⟩=some (.int .i64 (i:Int))∧w'.frozen? ⟨G,1,none⟩=false∧Hid (FB w' B G s i va (out++[s[i]])∧ArgsAt B w' va ar∧Below B w w')):=fun m=>by
     refine(HWB.out _ s[i] (HW2.out.drewN m)).mono ?_
     rintro e w' ⟨rfl,H⟩
     obtain⟨p2,v2,hfc2⟩:=H.out.1.fc
     exact⟨rfl,hfc2.txt,hfc2.at_,hfc2.froz 1,H⟩
    go_wp2_with fail
    go_region_held3 (fun w'=>w'.cell? ⟨G,0,none⟩=some (.string s)∧w'.cell? ⟨G,1,none⟩=some (.int .i64 (i:Int))) (go_keep) (first|(go_at_call 82;refine(HWX.out 1).mono ?_;rintro e w' ⟨rfl,t0,t1,t2,HN⟩))
    all_goals go_wp2_with fail
    have HFB:Hid (FB (w'.setCell ⟨G,1,none⟩ (.int .i64 ((i:Int)+1))) B G s (i+1) va (out++[s[i]])):=HN.out.1.set1 1
    refine⟨⟨i+1,va,ar,out++[s[i]],by omega,⟨HFB.out,HN.out.2.1.below ((Below.refl B w').setCell (p:=⟨G,1,none⟩) hBG _),HST.out,HN.out.2.2.setCell (p:=⟨G,1,none⟩) hBG _,by simp;omega⟩⟩,?_⟩
    obtain⟨p9,v9,hfc9⟩:=HFB.out.fc
    rw[HAT.out,fcAt_is hfc9]
    omega
  ·obtain rfl:i=s.size:=by omega
   obtain⟨ao,cap,hva,hz1,hz2,hz3,_,_⟩:=HL.out.ar
   obtain⟨p2,v2,hfc2⟩:=HL.out.fb.fc
   have a2:=hfc2.args
   rw[hva]at a2
   clear hfc2
   have HLm:Hid (∀m,WaS B G s ars s.size va ar out w (wr.drewN m)):=fun m=>HL.out.drewN m
   by_cases hem:ar = []
   ·subst hem
    have HE:Hid (∀m,WalQ B G s ars w (.returned (.bool true)) (wr.drewN m)):=fun m=>⟨true,rfl,(HLm.out m).bl,.inr ⟨rfl,s.size,va,out,HL.out.st.done (by omega),(HLm.out m).fb,hol⟩⟩
    clear hva
    go_wp2_with fail
    go_region_held3 (fun w'=>w'.cell? ⟨G,0,none⟩=some (.string s)∧w'.cell? ⟨G,1,none⟩=some (.int .i64 (s.size:Int))) (go_keep) (fail)
    all_goals go_wp2_with fail
    try rw[Exit.noGoto_ret]
    go_ret
    exact HE.out 1
   ·have HE:Hid (∀m,WalQ B G s ars w (.returned (.bool false)) (wr.drewN m)):=fun m=>⟨false,rfl,(HLm.out m).bl,.inl ⟨rfl,s.size,va,out,Nat.le_refl _,HL.out.st.left (by omega) hem,(HLm.out m).fb⟩⟩
    have hlen:((ar.length:Int)==0)=false:=beq_eq_false_iff_ne.2 (by have:ar.length≠0:=fun h=>hem (List.length_eq_zero_iff.1 h);omega)
    clear hva hem
    go_wp2_with fail
    go_region_held3 (fun w'=>w'.cell? ⟨G,0,none⟩=some (.string s)∧w'.cell? ⟨G,1,none⟩=some (.int .i64 (s.size:Int))) (go_keep) (fail)
    all_goals go_wp2_with fail
    try rw[Exit.noGoto_ret]
    go_ret
    exact HE.out 1
def fmtV:FmtR→Value
 | .bad a=>.agg #[.bool false,.int .i64 (a:Int),.string ⟨#[]⟩]
 | .good out=>.agg #[.bool true,.int .i64 0,.string ⟨out.toArray⟩]
theorem lies3:liesAt Tryz.prog Tryz.prog.depth 97 (5 / Tryz.prog.cellsOf 97) 3 95 1=true:=by kernel_rfl
def ResB(w:World)(R:Nat)(a b c:Value):Prop:=w.heap[R]? = some (.cells #[a,b,c] 27 (0,0))
theorem ResB.put{w:World}{R:Nat}{a b c:Value}(h:ResB w R a b c)(x y z:Value):ResB (((w.setCell ⟨R,0,none⟩ x).setCell ⟨R,1,none⟩ y).setCell ⟨R,2,none⟩ z) R x y z:=by
 have h1:ResB (w.setCell ⟨R,0,none⟩ x) R x b c:=by
  unfold ResB
  rw[setCell_eq_setRow w R 0 _ _ (0,0) _ h]
  exact setRow_heap w R _ _ _ (0,0) h
 have h2:ResB ((w.setCell ⟨R,0,none⟩ x).setCell ⟨R,1,none⟩ y) R x y c:=by
  unfold ResB
  rw[setCell_eq_setRow _ R 1 _ _ (0,0) _ h1]
  exact setRow_heap _ R _ _ _ (0,0) h1
 unfold ResB
 rw[setCell_eq_setRow _ R 2 _ _ (0,0) _ h2]
 exact setRow_heap _ R _ _ _ (0,0) h2
set_option maxHeartbeats 4000000 in
set_option maxRecDepth 100000 in
theorem formatted_any(s:ByteArray)(av:Value)(ars:List ArgV)(w:World)(hA:ArgsAt w.heap.size w av ars)(hG:WrG w)(hs:s.size≤1200) :
  Calls Tryz.prog 19 #[.string s,av] w fun e w'=>e=.returned (fmtV (fmtA s ars))∧Below w.heap.size w w':=by
 obtain⟨R,hR⟩:∃R,w.heap.size=R:=⟨_,rfl⟩
 have hA':=hA
 obtain⟨ao,cap,rfl,hx1,hx2,hx3,hx4,hx5⟩:=hA'
 obtain⟨W2,hW2⟩:∃W2,(w.alloc (.cells #[.bool false,.int .i64 0,.string ⟨#[]⟩] 27)).alloc (.cells #[.string s,.int .i64 0,.slice ao ars.length cap,.pointer none,.slice none 0 0] 97)=W2:=⟨_,rfl⟩
 have hb1:Below w.heap.size w (w.alloc (.cells #[.bool false,.int .i64 0,.string ⟨#[]⟩] 27)):=box_below w _
 have hz1:(w.alloc (.cells #[.bool false,.int .i64 0,.string ⟨#[]⟩] 27)).heap.size=R+1:=by rw[←hR];simp
 have hb2:Below w.heap.size w W2:=by rw[←hW2];exact hb1.alloc hb1.size _
 have HRB:Hid (ResB W2 R (.bool false) (.int .i64 0) (.string ⟨#[]⟩)):=by
  rw[←hW2]
  exact(Below.heap_alloc _ _ _ (by omega)).trans (by rw[←hR];exact heap_alloc_last w _)
 have HFB:Hid (FB W2 (R+1) (R+1) s 0 (.slice ao ars.length cap) []):=by
  refine⟨.pointer none,.slice none 0 0,Nat.le_refl _,?_,.inl rfl,rfl,World.ownsRowF_nil W2 _ _ _,lies3,by decide⟩
  rw[←hW2,←hz1]
  exact heap_alloc_last _ _
 have HAR:Hid (ArgsAt (R+1) W2 (.slice ao ars.length cap) ars):=by
  have:=hA.below hb2
  rw[hR]at this
  obtain⟨ao',cap',e1,e2,e3,e4,e5,e6⟩:=this
  refine⟨ao',cap',e1,e2,e3,e4,e5,fun hne=>?_⟩
  obtain⟨g,o,e7,e8,e9⟩:=e6 hne
  exact⟨g,o,e7,by omega,e9⟩
 have HALL:Hid (Calls Tryz.prog 41 #[.pointer (some ⟨R+1,0,none⟩)] W2 fun e w'=>WalQ (R+1) (R+1) s ars W2 e w'):=
  writeAll_any (R+1) (R+1) s _ ars W2 HFB.out HAR.out (hG.below hb2) (by have h1:=hG.2.2.1;have h2:=hG.2.2.2;rw[hR]at h1 h2;exact⟨by omega,by omega⟩) hs
 have HB2:Hid (Below w.heap.size w W2):=hb2
 have HRe:Hid (w.heap.size=R):=hR
 have hsi:(s.size:Int)≤1200:=by omega
 have HW2:Hid ((w.alloc (.cells #[.bool false,.int .i64 0,.string ⟨#[]⟩] 27)).alloc (.cells #[.string s,.int .i64 0,.slice ao ars.length cap,.pointer none,.slice none 0 0] 97)=W2):=hW2
 clear hb1 hb2 hA hx5 hx4 hG hW2 hz1
 go_enter Tryz.func19,Tryz.ntmps19
 go_wp2_with fail
 rw[HW2.out]
 refine HALL.out.mono ?_
 rintro e W3 ⟨ok,rfl,hb3,hc⟩
 have HR3:Hid (ResB W3 R (.bool false) (.int .i64 0) (.string ⟨#[]⟩)):=(hb3.block R (by omega)).trans HRB.out
 have HB3:Hid (Below w.heap.size w W3):=by
  have h1:=HB2.out
  exact h1.trans (hb3.mono (by rw[HRe.out];omega))
 clear HW2 HALL HRB
 rcases hc with⟨rfl,a,av',out,ha,hfm,hfb⟩|⟨rfl,k,av',out,hfm,hfb,hol⟩
 ·obtain⟨p,v,hfc⟩:=hfb.fc
  have a1:=hfc.at_
  have hmn:min (a:Int) 1200=(a:Int):=by omega
  have q0:W3.cell? ⟨R,0,none⟩=some (.bool false):=by rw[cell_of_heap HR3.out];rfl
  have q1:W3.cell? ⟨R,1,none⟩=some (.int .i64 0):=by rw[cell_of_heap HR3.out];rfl
  have q2:W3.cell? ⟨R,2,none⟩=some (.string ⟨#[]⟩):=by rw[cell_of_heap HR3.out];rfl
  have f0:=frozen_of_heap HR3.out 0
  have f1:=frozen_of_heap HR3.out 1
  have f2:=frozen_of_heap HR3.out 2
  have HV:Hid (fmtV (fmtA s ars)=.agg #[.bool false,.int .i64 (a:Int),.string ⟨#[]⟩]):=by rw[hfm];rfl
  clear hfb hfc hb3 hfm
  go_wp2_with fail
  have hp:=HR3.out.put (.bool false) (.int .i64 (a:Int)) (.string ⟨#[]⟩)
  have hb:=((HB3.out.setCell (p:=⟨R,0,none⟩) (by show w.heap.size≤R;omega) (.bool false)).setCell (p:=⟨R,1,none⟩) (by show w.heap.size≤R;omega) (.int .i64 (a:Int))).setCell (p:=⟨R,2,none⟩) (by show w.heap.size≤R;omega) (.string ⟨#[]⟩)
  generalize (World.setCell _ _ _)=X at hp hb ⊢
  have e0:X.cell? ⟨R,0,none⟩=some (.bool false):=by rw[cell_of_heap hp];rfl
  have e1:X.cell? ⟨R,1,none⟩=some (.int .i64 (a:Int)):=by rw[cell_of_heap hp];rfl
  have e2:X.cell? ⟨R,2,none⟩=some (.string ⟨#[]⟩):=by rw[cell_of_heap hp];rfl
  exact bodyPost_ret (v:=.agg #[.bool false,.int .i64 (a:Int),.string ⟨#[]⟩]) (by simp[results,Tryz.results19,go_sem,e0,e1,e2]) rfl ⟨by rw[HV.out],hb⟩
 ·obtain⟨p,v,hbd⟩:=hfb
  have HST:Hid (Calls Tryz.prog 42 #[.pointer (some ⟨R+1,3,none⟩)] W3 fun e w'=>e=.returned (.string ⟨out.toArray⟩)∧Hid (ResB w' R (.bool false) (.int .i64 0) (.string ⟨#[]⟩)∧Below w.heap.size w w')):=by
   refine(gString_any (R+1) (R+1) 3 _ _ _ out W3 hbd (by have:=hbd.lt;omega)).mono ?_
   rintro e w' ⟨rfl,hb⟩
   exact⟨rfl,(hb.block R (by omega)).trans HR3.out,HB3.out.trans (hb.mono (by rw[HRe.out];omega))⟩
  have HV:Hid (fmtV (fmtA s ars)=.agg #[.bool true,.int .i64 0,.string ⟨out.toArray⟩]):=by rw[hfm];rfl
  clear hbd hb3 hfm
  go_wp2_with fail
  refine HST.out.mono ?_
  rintro e W4 ⟨rfl,H4⟩
  obtain⟨T,hT⟩:∃T:ByteArray,(⟨out.toArray⟩:ByteArray)=T:=⟨_,rfl⟩
  rw[hT]at HV ⊢
  have q0:W4.cell? ⟨R,0,none⟩=some (.bool false):=by rw[cell_of_heap H4.out.1];rfl
  have q1:W4.cell? ⟨R,1,none⟩=some (.int .i64 0):=by rw[cell_of_heap H4.out.1];rfl
  have q2:W4.cell? ⟨R,2,none⟩=some (.string ⟨#[]⟩):=by rw[cell_of_heap H4.out.1];rfl
  have f0:=frozen_of_heap H4.out.1 0
  have f1:=frozen_of_heap H4.out.1 1
  have f2:=frozen_of_heap H4.out.1 2
  clear hT
  go_wp2_with fail
  have hp:=H4.out.1.put (.bool true) (.int .i64 0) (.string T)
  have hb:=((H4.out.2.setCell (p:=⟨R,0,none⟩) (by show w.heap.size≤R;omega) (.bool true)).setCell (p:=⟨R,1,none⟩) (by show w.heap.size≤R;omega) (.int .i64 0)).setCell (p:=⟨R,2,none⟩) (by show w.heap.size≤R;omega) (.string T)
  generalize (World.setCell _ _ _)=X at hp hb ⊢
  have e0:X.cell? ⟨R,0,none⟩=some (.bool true):=by rw[cell_of_heap hp];rfl
  have e1:X.cell? ⟨R,1,none⟩=some (.int .i64 0):=by rw[cell_of_heap hp];rfl
  have e2:X.cell? ⟨R,2,none⟩=some (.string T):=by rw[cell_of_heap hp];rfl
  exact bodyPost_ret (v:=.agg #[.bool true,.int .i64 0,.string T]) (by simp[results,Tryz.results19,go_sem,e0,e1,e2]) rfl ⟨by rw[HV.out],hb⟩
set_option maxHeartbeats 4000000 in
set_option maxRecDepth 100000 in
theorem implFormat_any(s:ByteArray)(av:Value)(ars:List ArgV)(w:World)(hA:ArgsAt w.heap.size w av ars)(hG:WrG w)(hs:s.size≤1200) :
  Calls Tryz.prog 6 #[.string s,av] w fun e w'=>e=.returned (fmtV (fmtA s ars))∧Below w.heap.size w w':=by
 obtain⟨R,hR⟩:∃R,w.heap.size=R:=⟨_,rfl⟩
 obtain⟨W1,hW1⟩:∃W1,w.alloc (.cells #[.bool false,.int .i64 0,.string ⟨#[]⟩] 27)=W1:=⟨_,rfl⟩
 have hb1:Below w.heap.size w W1:=by rw[←hW1];exact box_below w _
 have hz1:W1.heap.size=R+1:=by rw[←hW1,←hR];simp
 have HRB:Hid (ResB W1 R (.bool false) (.int .i64 0) (.string ⟨#[]⟩)):=by rw[←hW1,←hR];exact heap_alloc_last w _
 have HF:Hid (Calls Tryz.prog 19 #[.string s,av] W1 fun e w'=>∃x y z,Hid (fmtV (fmtA s ars)=.agg #[.bool x,.int .i64 y,.string z])∧e=.returned (.agg #[.bool x,.int .i64 y,.string z])∧Hid (ResB w' R (.bool false) (.int .i64 0) (.string ⟨#[]⟩)∧Below w.heap.size w w')):=by
  have hA1:ArgsAt W1.heap.size W1 av ars:=by
   have:=hA.below hb1
   obtain⟨ao',cap',e1,e2,e3,e4,e5,e6⟩:=this
   refine⟨ao',cap',e1,e2,e3,e4,e5,fun hne=>?_⟩
   obtain⟨g,o,e7,e8,e9⟩:=e6 hne
   exact⟨g,o,e7,by omega,e9⟩
  refine(formatted_any s av ars W1 hA1 (hG.below hb1) hs).mono ?_
  rintro e w' ⟨rfl,hb⟩
  have h2:ResB w' R (.bool false) (.int .i64 0) (.string ⟨#[]⟩)∧Below w.heap.size w w':=⟨(hb.block R (by omega)).trans HRB.out,hb1.trans (hb.mono hb1.size)⟩
  cases hf:fmtA s ars with
  | bad a=>exact⟨false,(a:Int),⟨#[]⟩,rfl,rfl,h2⟩
  | good out=>exact⟨true,0,⟨out.toArray⟩,rfl,rfl,h2⟩
 have HW1:Hid (w.alloc (.cells #[.bool false,.int .i64 0,.string ⟨#[]⟩] 27)=W1):=hW1
 clear hA hG hb1 hW1 hz1
 go_enter Tryz.func6,Tryz.ntmps6
 go_wp2_with fail
 rw[HW1.out]
 refine HF.out.mono ?_
 rintro e W4 ⟨x,y,T,HV,rfl,H4⟩
 have q0:W4.cell? ⟨R,0,none⟩=some (.bool false):=by rw[cell_of_heap H4.out.1];rfl
 have q1:W4.cell? ⟨R,1,none⟩=some (.int .i64 0):=by rw[cell_of_heap H4.out.1];rfl
 have q2:W4.cell? ⟨R,2,none⟩=some (.string ⟨#[]⟩):=by rw[cell_of_heap H4.out.1];rfl
 have f0:=frozen_of_heap H4.out.1 0
 have f1:=frozen_of_heap H4.out.1 1
 have f2:=frozen_of_heap H4.out.1 2
 go_wp2_with fail
 have hp:=H4.out.1.put (.bool x) (.int .i64 y) (.string T)
 have hb:=((H4.out.2.setCell (p:=⟨R,0,none⟩) (by show w.heap.size≤R;omega) (.bool x)).setCell (p:=⟨R,1,none⟩) (by show w.heap.size≤R;omega) (.int .i64 y)).setCell (p:=⟨R,2,none⟩) (by show w.heap.size≤R;omega) (.string T)
 generalize (World.setCell _ _ _)=X at hp hb ⊢
 have e0:X.cell? ⟨R,0,none⟩=some (.bool x):=by rw[cell_of_heap hp];rfl
 have e1:X.cell? ⟨R,1,none⟩=some (.int .i64 y):=by rw[cell_of_heap hp];rfl
 have e2:X.cell? ⟨R,2,none⟩=some (.string T):=by rw[cell_of_heap hp];rfl
 exact bodyPost_ret (v:=.agg #[.bool x,.int .i64 y,.string T]) (by simp[results,Tryz.results6,go_sem,e0,e1,e2]) rfl ⟨by rw[HV.out],hb⟩
section
variable {A X0 X1 X2 X3 R:ByteArray} {l z:Bool} {n:Int}
theorem pdd_0(h:A=if n≤0 then X0 else if l=true then X1 else if z=true∧R≠⟨#[105,110,102]⟩∧R≠⟨#[110,97,110]⟩ then X2 else X3)(hn:n≤0):A=X0:=by rw[h,if_pos hn]
theorem pdd_1(h:A=if n≤0 then X0 else if l=true then X1 else if z=true∧R≠⟨#[105,110,102]⟩∧R≠⟨#[110,97,110]⟩ then X2 else X3)(hn:¬n≤0):A=if l=true then X1 else if z=true∧R≠⟨#[105,110,102]⟩∧R≠⟨#[110,97,110]⟩ then X2 else X3:=by rw[h,if_neg hn]
end
set_option maxHeartbeats 4000000 in
set_option maxRecDepth 100000 in
theorem l6padded_any(l z q:Bool)(wd pr:Int)(c:Int)(t:ByteArray)(w:World)(hw0:-1≤wd)(hw1:wd≤400)(ht:t.size≤5000) :
  Calls Tryz.prog 24 #[.agg #[.bool l,.bool z,.bool q,.int .i64 wd,.int .i64 pr,.int .u8 c],.string t] w fun e w'=>e=.returned (.string (padS l z q wd c t))∧Below w.heap.size w w':=by
 have HSG:Hid _:=fun(W:World)=>l6sign_any t (by omega) W
 have hRz:=rest_size t
 have hsg:signP q c t=if bAt t 0=45 then ⟨#[45]⟩ else if q=true∧c≠120∧t≠⟨#[110,97,110]⟩ then ⟨#[43]⟩ else ⟨#[]⟩:=rfl
 have hss:signS t=if bAt t 0=45 then ⟨#[45]⟩ else ⟨#[]⟩:=rfl
 have hrn:bAt t 0≠45→restS t=t:=fun h=>if_neg h
 have hA:padS l z q wd c t=if wd-((signP q c t).size:Int)-((restS t).size:Int)≤0 then signP q c t++restS t else if l=true then signP q c t++restS t++spacesB (wd-((signP q c t).size:Int)-((restS t).size:Int)).toNat else if z=true∧restS t≠⟨#[105,110,102]⟩∧restS t≠⟨#[110,97,110]⟩ then signP q c t++zerosB (wd-((signP q c t).size:Int)-((restS t).size:Int)).toNat++restS t else spacesB (wd-((signP q c t).size:Int)-((restS t).size:Int)).toNat++signP q c t++restS t:=rfl
 obtain⟨A,hAe⟩:∃A,padS l z q wd c t=A:=⟨_,rfl⟩
 obtain⟨R,hR⟩:∃R,restS t=R:=⟨_,rfl⟩
 obtain⟨S0,hS0⟩:∃S0,signS t=S0:=⟨_,rfl⟩
 rw[hAe]at hA ⊢
 rw[hR]at hA hRz hrn HSG
 rw[hS0]at HSG hss
 have hRi:(R.size:Int)≤5000:=by omega
 have hG:∃G:ByteArray,signP q c t=G∧((S0=⟨#[45]⟩∧G=⟨#[45]⟩)∨(S0=⟨#[]⟩∧q=true∧(c==120)=false∧(R.toList == [110,97,110])=false∧G=⟨#[43]⟩)∨(S0=⟨#[]⟩∧(q=false∨(q=true∧c=120)∨(q=true∧(c==120)=false∧R.toList = [110,97,110]))∧G=⟨#[]⟩)):=by
  refine⟨_,rfl,?_⟩
  by_cases h:bAt t 0=45
  ·rw[if_pos h]at hsg hss
   exact .inl ⟨hss,hsg⟩
  ·rw[if_neg h]at hsg hss
   have e:=hrn h
   by_cases h2:q=true∧c≠120∧t≠⟨#[110,97,110]⟩
   ·rw[if_pos h2]at hsg
    refine .inr (.inl ⟨hss,h2.1,beq_eq_false_iff_ne.2 h2.2.1,beq_eq_false_iff_ne.2 (fun e2=>h2.2.2 ?_),hsg⟩)
    rw[←e];exact(text_is R 110 97 110).1 e2
   ·rw[if_neg h2]at hsg
    refine .inr (.inr ⟨hss,?_,hsg⟩)
    cases q
    ·exact .inl rfl
    ·by_cases h3:c=120
     ·exact .inr (.inl ⟨rfl,h3⟩)
     ·refine .inr (.inr ⟨rfl,beq_eq_false_iff_ne.2 h3,(text_is R 110 97 110).2 ?_⟩)
      by_cases h4:t=⟨#[110,97,110]⟩
      ·rw[e,h4]
      ·exact absurd ⟨rfl,h3,h4⟩ h2
 obtain⟨G,hGe,hG⟩:=hG
 rw[hGe]at hA
 have HA:Hid _:=hA
 have HSP:Hid (∀ (n:Int) (W:World),0<n→n≤400→Calls Tryz.prog 50 #[.int .i64 n] W fun e w'=>e=.returned (.string (spacesB n.toNat))∧w'=W):=fun n W h0 h4=>by
  have:=l6spaces_any n.toNat (by omega) W
  rw[Int.toNat_of_nonneg (by omega)]at this
  exact this
 have HZR:Hid (∀ (n:Int) (W:World),0<n→n≤400→Calls Tryz.prog 51 #[.int .i64 n] W fun e w'=>e=.returned (.string (zerosB n.toNat))∧Below W.heap.size W w'):=fun n W h0 h4=>by
  have:=l5zeros_any n.toNat (by omega) W
  rw[Int.toNat_of_nonneg (by omega)]at this
  exact this
 clear hsg hss hrn hA hAe hR hS0 hGe hRz ht
 rcases hG with⟨rfl,rfl⟩|⟨rfl,rfl,hcb,hnn,rfl⟩|⟨rfl,h3,rfl⟩
 ·have HE:Hid (wd-((⟨#[45]⟩:ByteArray).size:Int)-(R.size:Int)=wd-1-(R.size:Int)):=by show _=_;rw[show((⟨#[45]⟩:ByteArray).size:Int)=1 from rfl]
  rw[HE.out]at HA
  by_cases hle:wd-1-(R.size:Int)≤0
  ·clear HSP HZR
   go_enter Tryz.func24,Tryz.ntmps24
   go_wp2_with (go_at_call 49;refine(HSG.out _).mono ?_;rintro e w' ⟨rfl,m,rfl⟩)
   all_goals
    go_ret
    exact⟨by rw[pdd_0 HA.out hle];rfl,below_drewN (box_below w _) m⟩
  ·have hle':decide (wd-1-(R.size:Int)≤0)=false:=decide_eq_false hle
   have HA2:Hid _:=pdd_1 HA.out hle
   have H1:Hid _:=fun(W:World)=>HSP.out (wd-1-(R.size:Int)) W (by omega) (by omega)
   have H2:Hid _:=fun(W:World)=>HZR.out (wd-1-(R.size:Int)) W (by omega) (by omega)
   have hz1:=spacesB_size (wd-1-(R.size:Int)).toNat
   have hz2:=zerosB_size (wd-1-(R.size:Int)).toNat
   have hz3:((wd-1-(R.size:Int)).toNat:Int)≤400:=by omega
   obtain⟨K,hK⟩:∃K,(wd-1-(R.size:Int)).toNat=K:=⟨_,rfl⟩
   rw[hK]at HA2 H1 H2 hz1 hz2 hz3
   clear hle hK HSP HZR HA
   go_enter Tryz.func24,Tryz.ntmps24
   go_wp2_with (first|(go_at_call 49;refine(HSG.out _).mono ?_;rintro e w' ⟨rfl,m,rfl⟩)|(go_at_call 50;refine(H1.out _).mono ?_;rintro e w' ⟨rfl,rfl⟩)|(go_at_call 51;refine(H2.out _).mono ?_;rintro e w' ⟨rfl,hb⟩))
   all_goals
    go_ret
    refine⟨by first|(rw[pad_l HA2.out (by assumption)];rfl)|(rw[pad_z HA2.out (by assumption) (by assumption) (by assumption)];rfl)|(rw[pad_i HA2.out (by assumption) (by assumption)];rfl)|(rw[pad_n HA2.out (by assumption) (by assumption)];rfl)|(rw[pad_z HA2.out (by assumption) (by assumption) ⟨by assumption,by simp[hnn]⟩];rfl)|(rw[pad_e HA2.out (by assumption) (by assumption)];rfl)|(rw[pad_e HA2.out (by assumption) (.inl (by assumption))];rfl)|(rw[pad_o HA2.out (by assumption) (by assumption)];rfl),?_⟩
    first|exact below_drewN (box_below w _) m|exact Below.trans (below_drewN (box_below w _) m) (hb.mono (below_drewN (box_below w _) m).size)
 ·have hc2:¬c=120:=by simpa using hcb
  have hn2:¬R.toList = [110,97,110]:=by simpa using hnn
  have HE:Hid (wd-((⟨#[43]⟩:ByteArray).size:Int)-(R.size:Int)=wd-1-(R.size:Int)):=by show _=_;rw[show((⟨#[43]⟩:ByteArray).size:Int)=1 from rfl]
  rw[HE.out]at HA
  by_cases hle:wd-1-(R.size:Int)≤0
  ·clear HSP HZR
   go_enter Tryz.func24,Tryz.ntmps24
   go_wp2_with (go_at_call 49;refine(HSG.out _).mono ?_;rintro e w' ⟨rfl,m,rfl⟩)
   all_goals
    go_ret
    exact⟨by rw[pdd_0 HA.out hle];rfl,below_drewN (box_below w _) m⟩
  ·have hle':decide (wd-1-(R.size:Int)≤0)=false:=decide_eq_false hle
   have HA2:Hid _:=pdd_1 HA.out hle
   have H1:Hid _:=fun(W:World)=>HSP.out (wd-1-(R.size:Int)) W (by omega) (by omega)
   have H2:Hid _:=fun(W:World)=>HZR.out (wd-1-(R.size:Int)) W (by omega) (by omega)
   have hz1:=spacesB_size (wd-1-(R.size:Int)).toNat
   have hz2:=zerosB_size (wd-1-(R.size:Int)).toNat
   have hz3:((wd-1-(R.size:Int)).toNat:Int)≤400:=by omega
   obtain⟨K,hK⟩:∃K,(wd-1-(R.size:Int)).toNat=K:=⟨_,rfl⟩
   rw[hK]at HA2 H1 H2 hz1 hz2 hz3
   clear hle hK HSP HZR HA
   go_enter Tryz.func24,Tryz.ntmps24
   go_wp2_with (first|(go_at_call 49;refine(HSG.out _).mono ?_;rintro e w' ⟨rfl,m,rfl⟩)|(go_at_call 50;refine(H1.out _).mono ?_;rintro e w' ⟨rfl,rfl⟩)|(go_at_call 51;refine(H2.out _).mono ?_;rintro e w' ⟨rfl,hb⟩))
   all_goals
    go_ret
    refine⟨by first|(rw[pad_l HA2.out (by assumption)];rfl)|(rw[pad_z HA2.out (by assumption) (by assumption) (by assumption)];rfl)|(rw[pad_i HA2.out (by assumption) (by assumption)];rfl)|(rw[pad_n HA2.out (by assumption) (by assumption)];rfl)|(rw[pad_z HA2.out (by assumption) (by assumption) ⟨by assumption,by simp[hnn]⟩];rfl)|(rw[pad_e HA2.out (by assumption) (by assumption)];rfl)|(rw[pad_e HA2.out (by assumption) (.inl (by assumption))];rfl)|(rw[pad_o HA2.out (by assumption) (by assumption)];rfl),?_⟩
    first|exact below_drewN (box_below w _) m|exact Below.trans (below_drewN (box_below w _) m) (hb.mono (below_drewN (box_below w _) m).size)
 ·rcases h3 with rfl|⟨rfl,rfl⟩|⟨rfl,hcb,hnn⟩
  ·have HE:Hid (wd-((⟨#[]⟩:ByteArray).size:Int)-(R.size:Int)=wd-(R.size:Int)):=by show _=_;rw[show((⟨#[]⟩:ByteArray).size:Int)=0 from rfl];omega
   rw[HE.out]at HA
   by_cases hle:wd-(R.size:Int)≤0
   ·clear HSP HZR
    go_enter Tryz.func24,Tryz.ntmps24
    go_wp2_with (go_at_call 49;refine(HSG.out _).mono ?_;rintro e w' ⟨rfl,m,rfl⟩)
    all_goals
     go_ret
     exact⟨by rw[pdd_0 HA.out hle];rfl,below_drewN (box_below w _) m⟩
   ·have hle':decide (wd-(R.size:Int)≤0)=false:=decide_eq_false hle
    have HA2:Hid _:=pdd_1 HA.out hle
    have H1:Hid _:=fun(W:World)=>HSP.out (wd-(R.size:Int)) W (by omega) (by omega)
    have H2:Hid _:=fun(W:World)=>HZR.out (wd-(R.size:Int)) W (by omega) (by omega)
    have hz1:=spacesB_size (wd-(R.size:Int)).toNat
    have hz2:=zerosB_size (wd-(R.size:Int)).toNat
    have hz3:((wd-(R.size:Int)).toNat:Int)≤400:=by omega
    obtain⟨K,hK⟩:∃K,(wd-(R.size:Int)).toNat=K:=⟨_,rfl⟩
    rw[hK]at HA2 H1 H2 hz1 hz2 hz3
    clear hle hK HSP HZR HA
    go_enter Tryz.func24,Tryz.ntmps24
    go_wp2_with (first|(go_at_call 49;refine(HSG.out _).mono ?_;rintro e w' ⟨rfl,m,rfl⟩)|(go_at_call 50;refine(H1.out _).mono ?_;rintro e w' ⟨rfl,rfl⟩)|(go_at_call 51;refine(H2.out _).mono ?_;rintro e w' ⟨rfl,hb⟩))
    all_goals
     go_ret
     refine⟨by first|(rw[pad_l HA2.out (by assumption)];rfl)|(rw[pad_z HA2.out (by assumption) (by assumption) (by assumption)];rfl)|(rw[pad_i HA2.out (by assumption) (by assumption)];rfl)|(rw[pad_n HA2.out (by assumption) (by assumption)];rfl)|(rw[pad_z HA2.out (by assumption) (by assumption) ⟨by assumption,by simp[hnn]⟩];rfl)|(rw[pad_e HA2.out (by assumption) (by assumption)];rfl)|(rw[pad_e HA2.out (by assumption) (.inl (by assumption))];rfl)|(rw[pad_o HA2.out (by assumption) (by assumption)];rfl),?_⟩
     first|exact below_drewN (box_below w _) m|exact Below.trans (below_drewN (box_below w _) m) (hb.mono (below_drewN (box_below w _) m).size)
  ·have HE:Hid (wd-((⟨#[]⟩:ByteArray).size:Int)-(R.size:Int)=wd-(R.size:Int)):=by show _=_;rw[show((⟨#[]⟩:ByteArray).size:Int)=0 from rfl];omega
   rw[HE.out]at HA
   by_cases hle:wd-(R.size:Int)≤0
   ·clear HSP HZR
    go_enter Tryz.func24,Tryz.ntmps24
    go_wp2_with (go_at_call 49;refine(HSG.out _).mono ?_;rintro e w' ⟨rfl,m,rfl⟩)
    all_goals
     go_ret
     exact⟨by rw[pdd_0 HA.out hle];rfl,below_drewN (box_below w _) m⟩
   ·have hle':decide (wd-(R.size:Int)≤0)=false:=decide_eq_false hle
    have HA2:Hid _:=pdd_1 HA.out hle
    have H1:Hid _:=fun(W:World)=>HSP.out (wd-(R.size:Int)) W (by omega) (by omega)
    have H2:Hid _:=fun(W:World)=>HZR.out (wd-(R.size:Int)) W (by omega) (by omega)
    have hz1:=spacesB_size (wd-(R.size:Int)).toNat
    have hz2:=zerosB_size (wd-(R.size:Int)).toNat
    have hz3:((wd-(R.size:Int)).toNat:Int)≤400:=by omega
    obtain⟨K,hK⟩:∃K,(wd-(R.size:Int)).toNat=K:=⟨_,rfl⟩
    rw[hK]at HA2 H1 H2 hz1 hz2 hz3
    clear hle hK HSP HZR HA
    go_enter Tryz.func24,Tryz.ntmps24
    go_wp2_with (first|(go_at_call 49;refine(HSG.out _).mono ?_;rintro e w' ⟨rfl,m,rfl⟩)|(go_at_call 50;refine(H1.out _).mono ?_;rintro e w' ⟨rfl,rfl⟩)|(go_at_call 51;refine(H2.out _).mono ?_;rintro e w' ⟨rfl,hb⟩))
    all_goals
     go_ret
     refine⟨by first|(rw[pad_l HA2.out (by assumption)];rfl)|(rw[pad_z HA2.out (by assumption) (by assumption) (by assumption)];rfl)|(rw[pad_i HA2.out (by assumption) (by assumption)];rfl)|(rw[pad_n HA2.out (by assumption) (by assumption)];rfl)|(rw[pad_z HA2.out (by assumption) (by assumption) ⟨by assumption,by simp[hnn]⟩];rfl)|(rw[pad_e HA2.out (by assumption) (by assumption)];rfl)|(rw[pad_e HA2.out (by assumption) (.inl (by assumption))];rfl)|(rw[pad_o HA2.out (by assumption) (by assumption)];rfl),?_⟩
     first|exact below_drewN (box_below w _) m|exact Below.trans (below_drewN (box_below w _) m) (hb.mono (below_drewN (box_below w _) m).size)
  ·have hc2:¬c=120:=by simpa using hcb
   have HE:Hid (wd-((⟨#[]⟩:ByteArray).size:Int)-(R.size:Int)=wd-(R.size:Int)):=by show _=_;rw[show((⟨#[]⟩:ByteArray).size:Int)=0 from rfl];omega
   rw[HE.out]at HA
   by_cases hle:wd-(R.size:Int)≤0
   ·clear HSP HZR
    go_enter Tryz.func24,Tryz.ntmps24
    go_wp2_with (go_at_call 49;refine(HSG.out _).mono ?_;rintro e w' ⟨rfl,m,rfl⟩)
    all_goals
     go_ret
     exact⟨by rw[pdd_0 HA.out hle];rfl,below_drewN (box_below w _) m⟩
   ·have hle':decide (wd-(R.size:Int)≤0)=false:=decide_eq_false hle
    have HA2:Hid _:=pdd_1 HA.out hle
    have H1:Hid _:=fun(W:World)=>HSP.out (wd-(R.size:Int)) W (by omega) (by omega)
    have H2:Hid _:=fun(W:World)=>HZR.out (wd-(R.size:Int)) W (by omega) (by omega)
    have hz1:=spacesB_size (wd-(R.size:Int)).toNat
    have hz2:=zerosB_size (wd-(R.size:Int)).toNat
    have hz3:((wd-(R.size:Int)).toNat:Int)≤400:=by omega
    obtain⟨K,hK⟩:∃K,(wd-(R.size:Int)).toNat=K:=⟨_,rfl⟩
    rw[hK]at HA2 H1 H2 hz1 hz2 hz3
    clear hle hK HSP HZR HA
    go_enter Tryz.func24,Tryz.ntmps24
    go_wp2_with (first|(go_at_call 49;refine(HSG.out _).mono ?_;rintro e w' ⟨rfl,m,rfl⟩)|(go_at_call 50;refine(H1.out _).mono ?_;rintro e w' ⟨rfl,rfl⟩)|(go_at_call 51;refine(H2.out _).mono ?_;rintro e w' ⟨rfl,hb⟩))
    all_goals
     go_ret
     refine⟨by first|(rw[pad_l HA2.out (by assumption)];rfl)|(rw[pad_z HA2.out (by assumption) (by assumption) (by assumption)];rfl)|(rw[pad_i HA2.out (by assumption) (by assumption)];rfl)|(rw[pad_n HA2.out (by assumption) (by assumption)];rfl)|(rw[pad_z HA2.out (by assumption) (by assumption) ⟨by assumption,by simp[hnn]⟩];rfl)|(rw[pad_e HA2.out (by assumption) (by assumption)];rfl)|(rw[pad_e HA2.out (by assumption) (.inl (by assumption))];rfl)|(rw[pad_o HA2.out (by assumption) (by assumption)];rfl),?_⟩
     first|exact below_drewN (box_below w _) m|exact Below.trans (below_drewN (box_below w _) m) (hb.mono (below_drewN (box_below w _) m).size)
end Go.Proofs.YtenbfookfcmpoaaGreatDoor
