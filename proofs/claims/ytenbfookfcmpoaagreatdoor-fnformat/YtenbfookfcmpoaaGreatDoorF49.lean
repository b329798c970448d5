import Derived.Test.YtenbfookfcmpoaaGreatDoorF48
namespace Go.Proofs.YtenbfookfcmpoaaGreatDoor
open Go.ChangeShapes Go.WideShapes Go.RowKit Go.Shelf
theorem sfm_ret(w W:World)(R:Nat)(tmps:Array Value)(a b c:Value)(X:FmtR)(ht:tmps[4]?.getD undef=.pointer (some ⟨R,0,none⟩))(hr:ResB W R (.bool false) (.int .i64 0) (.string ⟨#[]⟩))(hb:Below R w W)(hR:w.heap.size=R)(hv:fmtV X=.agg #[a,b,c]) :
  bodyPost Tryz.prog Tryz.f7 (fun e w'=>e=.returned (fmtV X)∧Below w.heap.size w w') Exit.ret ⟨tmps,[]⟩ (((W.setCell ⟨R,0,none⟩ a).setCell ⟨R,1,none⟩ b).setCell ⟨R,2,none⟩ c):=by
 have hp:=hr.put a b c
 have hb2:=((hb.setCell (p:=⟨R,0,none⟩) (Nat.le_refl R) a).setCell (p:=⟨R,1,none⟩) (Nat.le_refl R) b).setCell (p:=⟨R,2,none⟩) (Nat.le_refl R) c
 generalize (World.setCell _ _ _)=Y at hp hb2 ⊢
 have e0:Y.cell? ⟨R,0,none⟩=some a:=by rw[cell_of_heap hp];rfl
 have e1:Y.cell? ⟨R,1,none⟩=some b:=by rw[cell_of_heap hp];rfl
 have e2:Y.cell? ⟨R,2,none⟩=some c:=by rw[cell_of_heap hp];rfl
 exact bodyPost_ret (v:=.agg #[a,b,c]) (by simp[results,Tryz.results7,go_sem,ht,e0,e1,e2]) rfl ⟨by rw[hv],by rw[hR];exact hb2⟩
theorem SfB.adv{w W:World}{R C k:Nat}{s:ByteArray}{av v:Value}{ars:List ArgV}{out:List UInt8}(h:SfB w R C s k av v ars out W):SfB w R C s (k+1) av v ars out (W.setCell ⟨C,1,none⟩ (.int .i64 ((k:Int)+1))):=by
 obtain⟨c0,c1,f1⟩:=h.rd
 exact h.only ((Only.refl C W).setCell 1 _) ⟨by simp[go_sem,c0],by simp[go_sem,c1],by simp[go_sem,f1]⟩
theorem SfB.is_any{w W:World}{R C k:Nat}{s:ByteArray}{av v:Value}{ars:List ArgV}{out:List UInt8}(h:SfB w R C s k av v ars out W)(hs:s.size≤1200)(c:Int)(hc:0<c) :
  Calls Tryz.prog 20 #[.pointer (some ⟨C,0,none⟩),.int .u8 c] W fun e w'=>e=.returned (.bool (decide (bAt s k=c)))∧SfB w R C s (if bAt s k=c then k+1 else k) av v ars out w'∧Only C W w'∧(bAt s k=c→k<s.size):=by
 by_cases hb:bAt s k=c
 ·have hk:k<s.size:=by
   by_cases hk:k<s.size
   ·exact hk
   ·rw[bAt_out s k hk]at hb;omega
  rw[if_pos hb,decide_eq_true hb]
  exact(is_yes' C W s k c h.rd (by omega) hk hb).mono fun e w' ⟨a,b,d⟩=>⟨a,h.only d b,d,fun _=>hk⟩
 ·rw[if_neg hb,decide_eq_false hb]
  exact(is_no' C W s k c h.rd hb).mono fun e w' ⟨a,b,d⟩=>⟨a,h.only d b,d,fun e=>absurd e hb⟩
theorem SfB.res{w W:World}{R C k:Nat}{s:ByteArray}{av v:Value}{ars:List ArgV}{out:List UInt8}(h:SfB w R C s k av v ars out W):W.cell? ⟨R,0,none⟩=some (.bool false)∧W.cell? ⟨R,1,none⟩=some (.int .i64 0)∧W.cell? ⟨R,2,none⟩=some (.string ⟨#[]⟩)∧W.frozen? ⟨R,0,none⟩=false∧W.frozen? ⟨R,1,none⟩=false∧W.frozen? ⟨R,2,none⟩=false:=
 ⟨by rw[cell_of_heap h.rb];rfl,by rw[cell_of_heap h.rb];rfl,by rw[cell_of_heap h.rb];rfl,frozen_of_heap h.rb 0,frozen_of_heap h.rb 1,frozen_of_heap h.rb 2⟩
def isK(c:Int):Prop:=c=100∨c=120∨c=101∨c=102∨c=103∨c=104
theorem fits_isK(c pr:Int)(a:ArgV)(h:Fits c pr a):isK c:=by
 unfold isK
 rcases h with⟨h|h,_⟩|⟨h|h,_⟩|⟨h,_⟩|⟨h,_⟩<;>simp[h]
theorem letter_unknown(s:ByteArray)(ars:List ArgV)(l z q:Bool)(wd pr:Int)(x:Nat)(h:¬isK (bAt s x)):letterF s ars l z q wd pr x=.bad x:=by
 cases ars with
 | nil=>rfl
 | cons a ars=>exact letterF_no s a ars l z q wd pr x (fun hf=>h (fits_isK _ _ _ hf))
theorem padS_size'(l z q:Bool)(wd c:Int)(t:ByteArray)(h0:-1≤wd)(h4:wd≤400)(ht:t.size≤5000):(padS l z q wd c t).size≤6000:=by
 by_cases h:wd = -1
 ·rw[h,padS_none];exact padS_size l z q 0 c t (by omega) (by omega) ht
 ·exact padS_size l z q wd c t (by omega) h4 ht
def SfN(w:World)(R C F:Nat)(s:ByteArray)(x:Nat)(av v:Value)(ars:List ArgV)(out:List UInt8)(l z q:Bool)(wd pr c:Int)(a:ArgV)(v12 v13:Value)(W:World):Prop:=
 ∃ (t:ByteArray) (ok:Bool),v12=.string t∧v13=.bool ok∧numV c pr a t∧(ok=true↔Fits c pr a)∧SfB w R C s x av v ars out W∧FX W F l z q wd pr c
theorem own_string{W:World}{B:Nat}{v:Value}{l:List UInt8}(h:W.ownsRowF B 5 1 v l.length (Lib.byteCells l)):(convert 22 9 v).run Tryz.prog W=.ok (.string ⟨l.toArray⟩) W:=by
 rcases h.2 with⟨rfl,hn⟩|⟨g,cap,cur,fz,rfl,_,hg,h1,h2⟩
 ·have hl:l = []:=List.length_eq_zero_iff.1 hn
  subst hl
  rw[run_convert_bytes_string (P:=Tryz.prog) W 22 9 5 none 0 0 Tryz.underlying22 Tryz.underlying5 Tryz.underlying9]
  rfl
 ·refine run_convert_bytes_back (P:=Tryz.prog) W 22 9 5 ⟨g,0,none⟩ cap l Tryz.underlying22 Tryz.underlying5 Tryz.underlying9 (fun j hj=>?_)
  obtain⟨_,_,hsz,htk⟩:=h2
  have hk:(cur.toList.take (l.length*1))[j]? = (Lib.byteCells l)[j]?:=by rw[htk]
  rw[List.getElem?_take,if_pos (by omega),Array.getElem?_toList]at hk
  rw[show(⟨g,0,none⟩:Addr).add j=⟨g,j,none⟩ by(simp[Addr.add];try omega)]
  have hc:W.cell? ⟨g,j,none⟩=cur[j]?:=by
   unfold World.cell?
   simp[hg]
  refine hc.trans (hk.trans ?_)
  ·simp[Lib.byteCells,List.getElem?_eq_getElem hj]
def SfK(c:Int)(v:Value):Prop:=∃kn:Bool,v=.bool kn∧((kn=true∧isK c)∨(kn=false∧¬isK c))
theorem count_range(s:ByteArray)(i j:Nat):countR s i j = -2∨(-1≤countR s i j∧countR s i j≤400):=by
 unfold countR countV
 split
 ·exact .inr (by decide)
 ·split
  ·exact .inl rfl
  ·exact .inr (by omega)
structure SfF (w:World) (R C F:Nat) (s:ByteArray) (k0 i:Nat) (av v:Value) (ars:List ArgV) (out:List UInt8) (l z q:Bool) (W:World):Prop where
 sb:SfB w R C s i av v ars out W
 fx:FX W F l z q 0 (-1) 0
 lf:l=hasF 45 s k0 i
 zf:z=hasF 48 s k0 i
 qf:q=hasF 43 s k0 i
 fl:∀i',k0≤i'→i'<i→isFlag (bAt s i')
theorem SfF.next{w W W':World}{R C F:Nat}{s:ByteArray}{k0 i:Nat}{av v:Value}{ars:List ArgV}{out:List UInt8}{l z q l' z' q':Bool}(h:SfF w R C F s k0 i av v ars out l z q W)(hk:k0≤i)(hf:isFlag (bAt s i))(hsb:SfB w R C s (i+1) av v ars out W')(hfx:FX W' F l' z' q' 0 (-1) 0)(hl:l'=(l || decide (bAt s i=45)))(hz:z'=(z || decide (bAt s i=48)))(hq:q'=(q || decide (bAt s i=43))):SfF w R C F s k0 (i+1) av v ars out l' z' q' W':=by
 refine⟨hsb,hfx,?_,?_,?_,?_⟩
 ·rw[hasF_next _ _ _ _ hk,←h.lf];exact hl
 ·rw[hasF_next _ _ _ _ hk,←h.zf];exact hz
 ·rw[hasF_next _ _ _ _ hk,←h.qf];exact hq
 ·intro i' a b
  by_cases e:i'=i
  ·rw[e];exact hf
  ·exact h.fl i' a (by omega)
structure SfL (w:World) (R C:Nat) (s:ByteArray) (k:Nat) (av v:Value) (ars:List ArgV) (used:Nat) (out:List UInt8) (W:World):Prop where
 sb:SfB w R C s k av v ars out W
 st:FmtS s ars k (ars.drop used) out
 ln:out.length≤6001*used+k
set_option maxHeartbeats 8000000 in
set_option maxRecDepth 1000000 in
theorem specFormat_any(s:ByteArray)(av:Value)(ars:List ArgV)(w:World)(hA:ArgsAt w.heap.size w av ars)(hs:s.size≤1200) :
  Calls Tryz.prog 7 #[.string s,av] w fun e w'=>e=.returned (fmtV (fmtA s ars))∧Below w.heap.size w w':=by
 obtain⟨i0,hi,hz0,hz1,hz2⟩:=info_parts strExtra.infoByte
 obtain⟨R,hR⟩:∃R,w.heap.size=R:=⟨_,rfl⟩
 obtain⟨W2,hW2⟩:∃W2,(w.alloc (.cells #[.bool false,.int .i64 0,.string ⟨#[]⟩] 27)).alloc (.cells #[.string s,.int .i64 0] 54)=W2:=⟨_,rfl⟩
 have hl100:ars.length≤100:=by obtain⟨_,_,_,_,h,_⟩:=hA;exact h
 have HL0:Hid (SfL w R (R+1) s 0 av (.slice none 0 0) ars 0 [] W2):=by
  have hb1:=box_below w (.cells #[.bool false,.int .i64 0,.string ⟨#[]⟩] 27)
  have hz1:(w.alloc (.cells #[.bool false,.int .i64 0,.string ⟨#[]⟩] 27)).heap.size=R+1:=by rw[←hR];simp
  have hb2:Below w.heap.size w W2:=by rw[←hW2];exact hb1.alloc hb1.size _
  have hC:W2.heap[R+1]? = some (.cells #[.string s,.int .i64 0] 54 (0,0)):=by rw[←hW2,←hz1];exact heap_alloc_last _ _
  refine⟨⟨hR,rfl,⟨by rw[cell_of_heap hC];rfl,by rw[cell_of_heap hC];rfl,frozen_of_heap hC 1⟩,World.ownsRowF_nil W2 _ _ _,?_,by have:=hA.below hb2;rw[hR]at this;exact this,by rw[←hR];exact hb2⟩,by rw[List.drop_zero];exact FmtS.start s ars,by simp⟩
  rw[←hW2]
  exact(Below.heap_alloc _ _ _ (by omega)).trans (by rw[←hR];exact heap_alloc_last w _)
 have HW2:Hid ((w.alloc (.cells #[.bool false,.int .i64 0,.string ⟨#[]⟩] 27)).alloc (.cells #[.string s,.int .i64 0] 54)=W2):=hW2
 have hsi:(s.size:Int)≤1200:=by omega
 obtain⟨C,hC⟩:∃C,R+1=C:=⟨_,rfl⟩
 obtain⟨ao,cap,rfl,_⟩:=hA
 have HRe:Hid (w.heap.size=R∧R+1=C):=⟨hR,hC⟩
 clear hW2
 go_enter Tryz.func7,Tryz.ntmps7
 go_wp2_with fail
 rw[HW2.out]
 rw[hC]at HL0
 clear hC
 obtain⟨av,hav⟩:∃av,Value.slice ao ars.length cap=av:=⟨_,rfl⟩
 rw[hav]at HL0
 have HAV:Hid (Value.slice ao ars.length cap=av):=hav
 clear hav HW2
 go_loopw [6,7] (fun v6 v7 wl=>∃ (k:Nat) (used:Nat) (out:List UInt8),v7=.int .i64 (used:Int)∧k≤s.size∧used≤ars.length∧Hid (SfL w R C s k av v6 ars used out wl)) (fun _ _ wl=>s.size-rdAt C wl)
 case atStart=>exact⟨0,0,[],rfl,by omega,by omega,HL0⟩
 case round=>
  clear HL0
  obtain⟨k,used,out,rfl,hk,hus,HL⟩:=hrel
  obtain⟨r0,r1,r2⟩:=HL.out.sb.rd
  have hui:(used:Int)≤(ars.length:Int):=by omega
  have hli:(ars.length:Int)≤100:=by omega
  have hol:out.length≤700000:=by have:=HL.out.ln;omega
  by_cases hlt:k<s.size
  ·have hlt':(k:Int)<(s.size:Int):=by omega
   have HBA:Hid (bAt s k=(s[k].toNat:Int)):=bAt_in s k hlt
   have HA1:Hid (SfB w R C s (k+1) av u6 ars out (wr.setCell ⟨C,1,none⟩ (.int .i64 ((k:Int)+1)))):=HL.out.sb.adv
   obtain⟨W1,hW1⟩:∃W1,wr.setCell ⟨C,1,none⟩ (.int .i64 ((k:Int)+1))=W1:=⟨_,rfl⟩
   rw[hW1]at HA1
   have HAT:Hid (rdAt C wr=k):=rdAt_is HL.out.sb.rd
   by_cases h37:bAt s k=37
   ·have he37:(s[k].toNat:Int)=37:=by rw[←HBA.out];exact h37
    have HIS:Hid _:=fun(_:Unit)=>HA1.out.is_any hs 37 (by omega)
    have hln:=HL.out.ln
    by_cases h372:bAt s (k+1)=37
    ·have HST:Hid (FmtS s ars (k+2) (ars.drop used) (out++[37])):=HL.out.st.twice hlt h37 h372
     rw[decide_eq_true h372,if_pos h372]at HIS
     have hk2:k+1<s.size:=by
      by_cases hh:k+1<s.size
      ·exact hh
      ·rw[bAt_out s (k+1) hh]at h372;omega
     clear h37 h372
     go_wp2_with fail
     refine(HIS.out ()).mono ?_
     rintro e W3 ⟨rfl,hsb,_,_⟩
     have HA3:Hid (SfB w R C s (k+2) av u6 ars out W3):=hsb
     clear hsb
     go_wp2_with (at_builtin;refine wpList_append_ownF _ rfl _ _ 22 rfl (R+2) 5 i0 (.int .u8 0) 1 1 Tryz.underlying22 hi hz0 hz1 hz2 rfl (by decide) _ _ _ rfl (HA3.out.own.alloc _) ⟨W3.heap.size,0,none⟩ 1 1 [.int .u8 37] rfl rfl ?c1 ?c2 ?c3 ?c4 ?c5 ?_)
     case c1=>
      intro j u hj
      match j,hj with
      | 0,hj=>simp at hj;subst hj;simp[Addr.add]
     case c2=>intro u hu;simp at hu;subst hu;rfl
     case c3=>unfold maxLen;omega
     case c4=>omega
     case c5=>have h1:=HA3.out.clt;have h2:=HA3.out.hC;simp;omega
     intro v' w3 hown' hgrow _
     have HG3:Hid (SfB w R C s (k+2) av v' ars (out++[37]) w3):=by
      have h1:=HA3.out.below (box_belowG _ (.cells #[.int .u8 37] 5))
      refine SfB.grow h1 hgrow ?_
      rw[Lib.byteCells_append,show Lib.byteCells [37] = [.int .u8 37] from rfl]
      simpa using hown'
     clear hown' hgrow
     go_wp2_with fail
     refine⟨⟨k+2,used,out++[37],rfl,by omega,hus,⟨HG3.out,HST.out,by simp;omega⟩⟩,?_⟩
     rw[HAT.out,rdAt_is HG3.out.rd]
     omega
    ·rw[decide_eq_false h372,if_neg h372]at HIS
     have HBAD:Hid (∀a,placeF s (ars.drop used) (k+1)=.bad a→fmtA s ars=.bad a):=fun a ha=>HL.out.st.fault hlt h37 h372 ha
     have HGOOD:Hid (∀t k',placeF s (ars.drop used) (k+1)=.good t k'→k<k'→FmtS s ars k' (ars.drop used).tail (out++t.data.toList)):=fun t k' ha hk=>HL.out.st.place hlt h37 h372 ha hk
     clear h37 h372
     go_wp2_with fail
     refine(HIS.out ()).mono ?_
     rintro e W3 ⟨rfl,hsb,_,_⟩
     have HA3:Hid (SfB w R C s (k+1) av u6 ars out W3):=hsb
     have hW3:=hsb.clt
     clear hsb HIS
     go_upto_block 2 with fail
     obtain⟨F,hF⟩:∃F,W3.heap.size=F:=⟨_,rfl⟩
     have hRC:=HRe.out.2
     have hFR:R+2≤F:=by omega
     have hFC:F≠C:=by omega
     have HF0:Hid (SfF w R C F s (k+1) (k+1) av u6 ars out false false false (W3.alloc (.cells #[.bool false,.bool false,.bool false,.int .i64 0,.int .i64 (-1),.int .u8 0] 57))):=⟨HA3.out.below (box_belowG W3 _),by rw[←hF];exact heap_alloc_last W3 _,(hasF_zero _ _ _).symm,(hasF_zero _ _ _).symm,(hasF_zero _ _ _).symm,fun i' h1 h2=>by omega⟩
     rw[hF]
     clear hF HA3 hW3
     go_cut [] from 21 to 168 (fun wx=>∃ (i:Nat) (l z q:Bool),k+1≤i∧i≤s.size∧Hid (FRun s (k+1) i∧SfF w R C F s (k+1) i av u6 ars out l z q wx))
     case first=>
      go_wp2_with fail
      go_loopw [] (fun wl=>∃ (i:Nat) (l z q:Bool),k+1≤i∧i≤s.size∧Hid (SfF w R C F s (k+1) i av u6 ars out l z q wl)) (fun wl=>s.size-rdAt C wl)
      case atStart=>exact⟨k+1,false,false,false,Nat.le_refl _,by omega,HF0⟩
      case round=>
       clear HF0
       obtain⟨i,l,z,q,hki,his,HI⟩:=hrel
       obtain⟨m0,m1,m2⟩:=HI.out.sb.rd
       have HIT:Hid (rdAt C wr=i):=rdAt_is HI.out.sb.rd
       have HIS:Hid (∀ (W:World) (c:Int),0<c→SfF w R C F s (k+1) i av u6 ars out l z q W→bAt s i≠c→Calls Tryz.prog 20 #[.pointer (some ⟨C,0,none⟩),.int .u8 c] W fun e w'=>e=.returned (.bool false)∧Hid (SfF w R C F s (k+1) i av u6 ars out l z q w')):=fun W c hc hW hne=>by
        have:=hW.sb.is_any hs c hc
        rw[decide_eq_false hne,if_neg hne]at this
        exact this.mono fun e w' ⟨a,b,d,_⟩=>⟨a,b,hW.fx.only d hFC,hW.lf,hW.zf,hW.qf,hW.fl⟩
       have HIY:Hid (∀ (W:World) (c:Int),0<c→SfF w R C F s (k+1) i av u6 ars out l z q W→bAt s i=c→Calls Tryz.prog 20 #[.pointer (some ⟨C,0,none⟩),.int .u8 c] W fun e w'=>e=.returned (.bool true)∧Hid (SfB w R C s (i+1) av u6 ars out w'∧FX w' F l z q 0 (-1) 0)):=fun W c hc hW he=>by
        have:=hW.sb.is_any hs c hc
        rw[decide_eq_true he,if_pos he]at this
        exact this.mono fun e w' ⟨a,b,d,_⟩=>⟨a,b,hW.fx.only d hFC⟩
       by_cases hil:i<s.size
       ·have hil':(i:Int)<(s.size:Int):=by omega
        by_cases e45:bAt s i=45
        ·have HY:Hid _:=fun(_:Unit)=>HIY.out wr 45 (by omega) HI.out e45
         have HN:Hid (∀W,SfB w R C s (i+1) av u6 ars out W→FX W F true z q 0 (-1) 0→SfF w R C F s (k+1) (i+1) av u6 ars out true z q W):=fun W h1 h2=>HI.out.next hki (.inl e45) h1 h2 (by rw[decide_eq_true e45];simp) (by rw[decide_eq_false (by omega)];simp) (by rw[decide_eq_false (by omega)];simp)
         clear e45
         go_wp2_with fail
         refine(HY.out ()).mono ?_
         rintro e W4 ⟨rfl,H4⟩
         have g0:=H4.out.2.c0
         have gf:=H4.out.2.froz 0
         go_wp2_with fail
         have HW5:Hid (SfF w R C F s (k+1) (i+1) av u6 ars out true z q (W4.setCell ⟨F,0,none⟩ (.bool true))):=HN.out _ (H4.out.1.onlyF ((Only.refl F W4).setCell 0 _) hFR H4.out.2.ty) (H4.out.2.set0 true)
         refine⟨⟨i+1,true,z,q,by omega,by omega,HW5⟩,?_⟩
         rw[HIT.out,rdAt_is HW5.out.sb.rd]
         omega
        ·by_cases e48:bAt s i=48
         ·have HN:Hid (∀W,SfB w R C s (i+1) av u6 ars out W→FX W F l true q 0 (-1) 0→SfF w R C F s (k+1) (i+1) av u6 ars out l true q W):=fun W h1 h2=>HI.out.next hki (.inr (.inl e48)) h1 h2 (by rw[decide_eq_false e45];simp) (by rw[decide_eq_true e48];simp) (by rw[decide_eq_false (by omega)];simp)
          have E45:Hid (bAt s i≠45):=e45
          have E48:Hid (bAt s i=48):=e48
          clear e45 e48
          go_wp2_with fail
          refine(HIS.out wr 45 (by omega) HI.out E45.out).mono ?_
          rintro e W4 ⟨rfl,H4⟩
          go_wp2_with fail
          refine(HIY.out W4 48 (by omega) H4.out E48.out).mono ?_
          rintro e W5 ⟨rfl,H5⟩
          have g0:=H5.out.2.c1
          have gf:=H5.out.2.froz 1
          go_wp2_with fail
          have HW5:Hid (SfF w R C F s (k+1) (i+1) av u6 ars out l true q (W5.setCell ⟨F,1,none⟩ (.bool true))):=HN.out _ (H5.out.1.onlyF ((Only.refl F W5).setCell 1 _) hFR H5.out.2.ty) (H5.out.2.set1 true)
          refine⟨⟨i+1,l,true,q,by omega,by omega,HW5⟩,?_⟩
          rw[HIT.out,rdAt_is HW5.out.sb.rd]
          omega
         ·by_cases e43:bAt s i=43
          ·have HN:Hid (∀W,SfB w R C s (i+1) av u6 ars out W→FX W F l z true 0 (-1) 0→SfF w R C F s (k+1) (i+1) av u6 ars out l z true W):=fun W h1 h2=>HI.out.next hki (.inr (.inr e43)) h1 h2 (by rw[decide_eq_false e45];simp) (by rw[decide_eq_false e48];simp) (by rw[decide_eq_true e43];simp)
           have E45:Hid (bAt s i≠45):=e45
           have E48:Hid (bAt s i≠48):=e48
           have E43:Hid (bAt s i=43):=e43
           clear e45 e48 e43
           go_wp2_with fail
           refine(HIS.out wr 45 (by omega) HI.out E45.out).mono ?_
           rintro e W4 ⟨rfl,H4⟩
           go_wp2_with fail
           refine(HIS.out W4 48 (by omega) H4.out E48.out).mono ?_
           rintro e W5 ⟨rfl,H5⟩
           go_wp2_with fail
           refine(HIY.out W5 43 (by omega) H5.out E43.out).mono ?_
           rintro e W6 ⟨rfl,H6⟩
           have g0:=H6.out.2.c2
           have gf:=H6.out.2.froz 2
           go_wp2_with fail
           have HW5:Hid (SfF w R C F s (k+1) (i+1) av u6 ars out l z true (W6.setCell ⟨F,2,none⟩ (.bool true))):=HN.out _ (H6.out.1.onlyF ((Only.refl F W6).setCell 2 _) hFR H6.out.2.ty) (H6.out.2.set2 true)
           refine⟨⟨i+1,l,z,true,by omega,by omega,HW5⟩,?_⟩
           rw[HIT.out,rdAt_is HW5.out.sb.rd]
           omega
          ·have HFR:Hid (FRun s (k+1) i):=⟨hki,his,HI.out.fl,by rintro(h|h|h);exact e45 h;exact e48 h;exact e43 h⟩
           have E45:Hid (bAt s i≠45):=e45
           have E48:Hid (bAt s i≠48):=e48
           have E43:Hid (bAt s i≠43):=e43
           clear e45 e48 e43
           go_wp2_with fail
           refine(HIS.out wr 45 (by omega) HI.out E45.out).mono ?_
           rintro e W4 ⟨rfl,H4⟩
           go_wp2_with fail
           refine(HIS.out W4 48 (by omega) H4.out E48.out).mono ?_
           rintro e W5 ⟨rfl,H5⟩
           go_wp2_with fail
           refine(HIS.out W5 43 (by omega) H5.out E43.out).mono ?_
           rintro e W6 ⟨rfl,H6⟩
           go_wp2_with fail
           go_meet
           exact⟨i,l,z,q,hki,his,HFR.out,H6.out⟩
       ·have hil':decide ((i:Int)<(s.size:Int))=false:=decide_eq_false (by omega)
        have HFR:Hid (FRun s (k+1) i):=⟨hki,his,HI.out.fl,fun hf=>hil (flag_in s i hf)⟩
        go_wp2_with fail
        go_meet
        exact⟨i,l,z,q,hki,his,HFR.out,HI.out⟩
     case rest=>
      obtain⟨i,l,z,q,hki,his,HZ⟩:=hcut
      clear HF0
      obtain⟨m0,m1,m2⟩:=HZ.out.2.sb.rd
      have HCT:Hid (Calls Tryz.prog 21 #[.pointer (some ⟨C,0,none⟩)] wc fun e w'=>∃j,Hid (Run 10 s i j)∧e=.returned (.int .i64 (countR s i j))∧Hid (SfB w R C s j av u6 ars out w'∧FX w' F l z q 0 (-1) 0)):=
       (l6count_any C wc s i HZ.out.2.sb.rd (by omega) his).mono fun e w' ⟨j,a,b,c,d⟩=>⟨j,a,b,HZ.out.2.sb.only d c,HZ.out.2.fx.only d hFC⟩
      have HPL:Hid (FRun s (k+1) i∧l=hasF 45 s (k+1) i∧z=hasF 48 s (k+1) i∧q=hasF 43 s (k+1) i):=⟨HZ.out.1,HZ.out.2.lf,HZ.out.2.zf,HZ.out.2.qf⟩
      clear HZ
      go_wp2_with fail
      refine HCT.out.mono ?_
      rintro e W4 ⟨j,HRJ,rfl,H4⟩
      have hjs:j≤s.size:=HRJ.out.2.1
      have hij:i≤j:=HRJ.out.1
      obtain⟨WD,hWD⟩:∃WD,countR s i j=WD:=⟨_,rfl⟩
      rw[hWD]
      have HWD:Hid (countR s i j=WD):=hWD
      have g3:=H4.out.2.c3
      have gf3:=H4.out.2.froz 3
      have H5:Hid (SfB w R C s j av u6 ars out (W4.setCell ⟨F,3,none⟩ (.int .i64 WD))∧FX (W4.setCell ⟨F,3,none⟩ (.int .i64 WD)) F l z q WD (-1) 0):=⟨H4.out.1.onlyF ((Only.refl F W4).setCell 3 _) hFR H4.out.2.ty,H4.out.2.set3 WD⟩
      clear hWD HCT
      by_cases hw2:WD = -2
      ·have HBD:Hid (fmtV (fmtA s ars)=.agg #[.bool false,.int .i64 (i:Int),.string ⟨#[]⟩]):=by
        rw[HBAD.out i (place_bad1 HPL.out.1 HRJ.out (HWD.out.trans hw2))];rfl
       subst hw2
       have q0:(W4.setCell ⟨F,3,none⟩ (.int .i64 (-2))).cell? ⟨R,0,none⟩=some (.bool false):=by rw[cell_of_heap H5.out.1.rb];rfl
       have q1:(W4.setCell ⟨F,3,none⟩ (.int .i64 (-2))).cell? ⟨R,1,none⟩=some (.int .i64 0):=by rw[cell_of_heap H5.out.1.rb];rfl
       have q2:(W4.setCell ⟨F,3,none⟩ (.int .i64 (-2))).cell? ⟨R,2,none⟩=some (.string ⟨#[]⟩):=by rw[cell_of_heap H5.out.1.rb];rfl
       have f0:=frozen_of_heap H5.out.1.rb 0
       have f1:=frozen_of_heap H5.out.1.rb 1
       have f2:=frozen_of_heap H5.out.1.rb 2
       go_wp2_with fail
       exact sfm_ret w _ R _ _ _ _ (fmtA s ars) rfl H5.out.1.rb H5.out.1.bl hR HBD.out
      ·have HWR:-1≤WD∧WD≤400:=(HWD.out ▸ count_range s i j).resolve_left hw2
       have HWN:Hid (WD≠-2):=hw2
       have hw2b:(WD == -2)=false:=beq_eq_false_iff_ne.2 hw2
       have HIS:Hid _:=fun(_:Unit)=>H5.out.1.is_any hs 46 (by omega)
       have hjle:k+1≤j:=by omega
       go_wp2_with fail
       refine(HIS.out ()).mono ?_
       rintro e W5 ⟨rfl,hsb,ho,hjl⟩
       obtain⟨t,ht⟩:∃t,decide (bAt s j=46)=t:=⟨_,rfl⟩
       have H6:Hid ((t=true∧bAt s j=46∧j<s.size∧SfB w R C s (j+1) av u6 ars out W5∧FX W5 F l z q WD (-1) 0)∨(t=false∧bAt s j≠46∧SfB w R C s j av u6 ars out W5∧FX W5 F l z q WD (-1) 0)):=by
        have hfx:=H5.out.2.only ho hFC
        by_cases hd:bAt s j=46
        ·rw[if_pos hd]at hsb
         exact .inl ⟨by rw[←ht];exact decide_eq_true hd,hd,hjl hd,hsb,hfx⟩
        ·rw[if_neg hd]at hsb
         exact .inr ⟨by rw[←ht];exact decide_eq_false hd,hd,hsb,hfx⟩
       rw[ht]
       clear ht hsb ho hjl HIS H5 H4 g3 gf3
       go_upto_if 82 with fail
       go_cut [10] from 21 to 168 (fun _ wx=>∃ (x:Nat) (pr:Int),x≤s.size∧k+1≤x∧-1≤pr∧pr≤400∧Hid (SfB w R C s x av u6 ars out wx∧FX wx F l z q WD pr 0)∧Hid (placeF s (ars.drop used) (k+1)=letterF s (ars.drop used) l z q WD pr x))
       case first=>
        rcases H6.out with⟨rfl,hd,hjl,hb,hf⟩|⟨rfl,hd,hb,hf⟩
        ·have HD:Hid (bAt s j=46):=hd
         have HC2:Hid (Calls Tryz.prog 21 #[.pointer (some ⟨C,0,none⟩)] W5 fun e w'=>∃j2,Hid (Run 10 s (j+1) j2)∧e=.returned (.int .i64 (countR s (j+1) j2))∧Hid (SfB w R C s j2 av u6 ars out w'∧FX w' F l z q WD (-1) 0)):=
          (l6count_any C W5 s (j+1) hb.rd (by omega) (by omega)).mono fun e w' ⟨j2,a,b,c,d⟩=>⟨j2,a,b,hb.only d c,hf.only d hFC⟩
         obtain⟨m0,m1,m2⟩:=hb.rd
         clear hd hb hf H6
         go_wp2_with fail
         refine HC2.out.mono ?_
         rintro e W6 ⟨j2,HR2,rfl,H7⟩
         have hj2s:j2≤s.size:=HR2.out.2.1
         have hj2:j+1≤j2:=HR2.out.1
         obtain⟨PR,hPR⟩:∃PR,countR s (j+1) j2=PR:=⟨_,rfl⟩
         rw[hPR]
         have HPR:Hid (countR s (j+1) j2=PR):=hPR
         clear hPR HC2
         have g4:=H7.out.2.c4
         have gf4:=H7.out.2.froz 4
         have H8:Hid (SfB w R C s j2 av u6 ars out (W6.setCell ⟨F,4,none⟩ (.int .i64 PR))∧FX (W6.setCell ⟨F,4,none⟩ (.int .i64 PR)) F l z q WD PR 0):=⟨H7.out.1.onlyF ((Only.refl F W6).setCell 4 _) hFR H7.out.2.ty,H7.out.2.set4 PR⟩
         by_cases hneg:PR<0
         ·have HBD:Hid (fmtV (fmtA s ars)=.agg #[.bool false,.int .i64 ((j:Int)+1),.string ⟨#[]⟩]):=by
           rw[HBAD.out (j+1) (place_dotbad HPL.out.1 HRJ.out (by rw[HWD.out];exact HWN.out) HD.out HR2.out (by rw[HPR.out];exact hneg))]
           rfl
          have hq:=H8.out.1.res
          obtain⟨q0,q1,q2,f0,f1,f2⟩:=hq
          go_wp2_with fail
          exact sfm_ret w _ R _ _ _ _ (fmtA s ars) rfl H8.out.1.rb H8.out.1.bl hR HBD.out
         ·have hr2:=(HPR.out ▸ count_range s (j+1) j2:PR = -2∨_)
          have hPL:Hid (placeF s (ars.drop used) (k+1)=letterF s (ars.drop used) l z q WD PR j2):=by
           obtain⟨a,b,c,d⟩:=HPL.out
           have:=place_dot (ars:=ars.drop used) a HRJ.out (by rw[HWD.out];exact HWN.out) HD.out HR2.out (by rw[HPR.out];exact hneg)
           rw[←b,←c,←d,HWD.out,HPR.out]at this
           exact this
          go_wp2_with fail
          go_meet
          exact⟨j2,PR,hj2s,by omega,by omega,by omega,H8,hPL⟩
        ·have hPL:Hid (placeF s (ars.drop used) (k+1)=letterF s (ars.drop used) l z q WD (-1) j):=by
          obtain⟨a,b,c,d⟩:=HPL.out
          have:=place_nodot (ars:=ars.drop used) a HRJ.out (by rw[HWD.out];exact HWN.out) hd
          rw[←b,←c,←d,HWD.out]at this
          exact this
         have H8:Hid (SfB w R C s j av u6 ars out W5∧FX W5 F l z q WD (-1) 0):=⟨hb,hf⟩
         clear hd hb hf H6
         go_wp2_with fail
         go_meet
         exact⟨j,-1,hjs,hjle,by omega,by omega,H8,hPL⟩
       case rest=>
        obtain⟨x,pr,hxs,hkx,hp1,hp4,HX,HPF⟩:=hcut
        clear H6 HPL HRJ HWD
        have HLK:Hid _:=fun(_:Unit)=>look_any C wc s x HX.out.1.rd
        go_wp2_with fail
        refine(HLK.out ()).mono ?_
        rintro e W6 ⟨rfl,nd,rfl⟩
        obtain⟨c,hc⟩:∃c,bAt s x=c:=⟨_,rfl⟩
        rw[hc]
        have HC:Hid (bAt s x=c):=hc
        clear hc HLK
        have H7:Hid (SfB w R C s x av u6 ars out (wc.drewN nd)∧FX (wc.drewN nd) F l z q WD pr 0):=⟨HX.out.1.drewN nd,HX.out.2⟩
        obtain⟨W7,hW7⟩:∃W7,wc.drewN nd=W7:=⟨_,rfl⟩
        rw[hW7]at H7 ⊢
        clear hW7 HX
        have g5:=H7.out.2.c5
        have gf5:=H7.out.2.froz 5
        have H8:Hid (SfB w R C s x av u6 ars out (W7.setCell ⟨F,5,none⟩ (.int .u8 c))∧FX (W7.setCell ⟨F,5,none⟩ (.int .u8 c)) F l z q WD pr c):=⟨H7.out.1.onlyF ((Only.refl F W7).setCell 5 _) hFR H7.out.2.ty,H7.out.2.set5 c⟩
        go_upto_region 31 with fail
        obtain⟨W8,hW8⟩:∃W8,W7.setCell ⟨F,5,none⟩ (.int .u8 c)=W8:=⟨_,rfl⟩
        rw[hW8]at H8 ⊢
        clear hW8 g5 gf5 H7
        have k5:=H8.out.2.c5
        go_cut [11] from 21 to 168 (fun v11 wx=>wx=W8∧SfK c v11)
        case first=>
         by_cases e100:c=100
         ·subst e100
          go_wp2_with fail
          go_meet
          exact⟨rfl,true,rfl,.inl ⟨rfl,.inl rfl⟩⟩
         by_cases e120:c=120
         ·subst e120
          go_wp2_with fail
          go_meet
          exact⟨rfl,true,rfl,.inl ⟨rfl,.inr (.inl rfl)⟩⟩
         by_cases e101:c=101
         ·subst e101
          go_wp2_with fail
          go_meet
          exact⟨rfl,true,rfl,.inl ⟨rfl,.inr (.inr (.inl rfl))⟩⟩
         by_cases e102:c=102
         ·subst e102
          go_wp2_with fail
          go_meet
          exact⟨rfl,true,rfl,.inl ⟨rfl,.inr (.inr (.inr (.inl rfl)))⟩⟩
         by_cases e103:c=103
         ·subst e103
          go_wp2_with fail
          go_meet
          exact⟨rfl,true,rfl,.inl ⟨rfl,.inr (.inr (.inr (.inr (.inl rfl))))⟩⟩
         by_cases e104:c=104
         ·subst e104
          go_wp2_with fail
          go_meet
          exact⟨rfl,true,rfl,.inl ⟨rfl,.inr (.inr (.inr (.inr (.inr rfl))))⟩⟩
         have b100:(c==100)=false:=beq_eq_false_iff_ne.2 e100
         have b120:(c==120)=false:=beq_eq_false_iff_ne.2 e120
         have b101:(c==101)=false:=beq_eq_false_iff_ne.2 e101
         have b102:(c==102)=false:=beq_eq_false_iff_ne.2 e102
         have b103:(c==103)=false:=beq_eq_false_iff_ne.2 e103
         have b104:(c==104)=false:=beq_eq_false_iff_ne.2 e104
         have HNK:Hid (¬isK c):=by rintro(h|h|h|h|h|h);exact e100 h;exact e120 h;exact e101 h;exact e102 h;exact e103 h;exact e104 h
         go_wp2_with fail
         go_meet
         exact⟨rfl,false,rfl,.inr ⟨rfl,HNK.out⟩⟩
        case rest=>
         obtain⟨hwc,kn,rfl,hkn⟩:=hcut
         rw[hwc]
         clear hwc
         obtain⟨m0,m1,m2⟩:=H8.out.1.rd
         obtain⟨q0,q1,q2,f0,f1,f2⟩:=H8.out.1.res
         rcases hkn with⟨rfl,hkc⟩|⟨rfl,hkc⟩
         ·have HKC:Hid (isK c):=hkc
          clear hkc
          by_cases hul:used=ars.length
          ·have HBD:Hid (fmtV (fmtA s ars)=.agg #[.bool false,.int .i64 (x:Int),.string ⟨#[]⟩]):=by
            rw[HBAD.out x (HPF.out.trans (by rw[List.drop_eq_nil_of_le (by omega)];exact letterF_nil _ _ _ _ _ _ _))]
            rfl
           have hue:(used:Int)=(ars.length:Int):=by omega
           have hub:((used:Int)==(ars.length:Int))=true:=beq_iff_eq.2 hue
           rw[hue]
           go_wp2_with fail
           exact sfm_ret w _ R _ _ _ _ (fmtA s ars) rfl H8.out.1.rb H8.out.1.bl hR HBD.out
          ·have hult:used<ars.length:=by omega
           have hub:((used:Int)==(ars.length:Int))=false:=beq_eq_false_iff_ne.2 (by omega)
           have hune:¬(used:Int)=(ars.length:Int):=by omega
           obtain⟨a,ha⟩:∃a,ars[used]? = some a:=⟨ars[used],by simp[hult]⟩
           have HDR:Hid (ars.drop used=a :: ars.drop (used+1)):=by
            rw[List.drop_eq_getElem_cons hult]
            rw[List.getElem?_eq_getElem hult]at ha
            rw[Option.some.inj ha]
            rfl
           obtain⟨g,o,hao,hgR,z0,z1,z2,hflt⟩:∃g o,ao=some ⟨g,o,none⟩∧g<R∧W8.cell? ⟨g,o+used*3,none⟩=some (.bool a.real)∧W8.cell? ⟨g,o+used*3+1,none⟩=some (.int .i64 a.num)∧W8.cell? ⟨g,o+used*3+2,none⟩=some (.float .f64 a.flt)∧a.flt<18446744073709551616:=by
            obtain⟨ao',cap',e,h2,h3,h4,h5,h6⟩:=H8.out.1.ar
            rw[←HAV.out]at e
            injection e with e1 e2 e3
            obtain⟨g,o,hg,hgR,hcl⟩:=h6 (by rintro rfl;simp at hult)
            obtain⟨c1,c2,c3⟩:=hcl used a ha
            rw[Nat.mul_comm 3 used]at c1 c2 c3
            exact⟨g,o,e1.trans hg,hgR,c1,c2,c3,h5 a (List.mem_of_getElem? ha)⟩
           subst hao
           have hult':(used:Int)<(ars.length:Int):=by omega
           clear ha hul
           have HNB:Hid (∀m,Calls Tryz.prog 23 #[.agg #[.bool l,.bool z,.bool q,.int .i64 WD,.int .i64 pr,.int .u8 c],.agg #[.bool a.real,.int .i64 a.num,.float .f64 a.flt]] (W8.drewN m) fun e w'=>∃t ok,e=.returned (.tuple #[.string t,.bool ok])∧w'.cell? ⟨F,0,none⟩=some (.bool l)∧w'.cell? ⟨F,1,none⟩=some (.bool z)∧w'.cell? ⟨F,2,none⟩=some (.bool q)∧w'.cell? ⟨F,3,none⟩=some (.int .i64 WD)∧w'.cell? ⟨F,4,none⟩=some (.int .i64 pr)∧w'.cell? ⟨F,5,none⟩=some (.int .u8 c)∧w'.cell? ⟨g,o+used*3,none⟩=some (.bool a.real)∧w'.cell? ⟨g,o+used*3+1,none⟩=some (.int .i64 a.num)∧w'.cell? ⟨g,o+used*3+2,none⟩=some (.float .f64 a.flt)∧Hid (numV c pr a t∧(ok=true↔Fits c pr a)∧SfB w R C s x av u6 ars out w'∧FX w' F l z q WD pr c)):=fun m=>by
            have hfd:FX (W8.drewN m) F l z q WD pr c:=H8.out.2
            refine(l6number_any l z q WD pr c a hflt hp1 hp4 HKC.out (W8.drewN m)).mono ?_
            rintro e w' ⟨t,ok,he,hv,hft,hb⟩
            have hf:=hfd.below hb
            exact⟨t,ok,he,hf.c0,hf.c1,hf.c2,hf.c3,hf.c4,hf.c5,lt_cells (w:=W8.drewN m) z0 hb,lt_cells (w:=W8.drewN m) z1 hb,lt_cells (w:=W8.drewN m) z2 hb,hv,hft,(H8.out.1.drewN m).below hb,hf⟩
           have k0:=H8.out.2.c0
           have k1:=H8.out.2.c1
           have k2:=H8.out.2.c2
           have k3:=H8.out.2.c3
           have k4:=H8.out.2.c4
           go_upto_region 34 with fail
           go_cut [12,13] from 21 to 168 (fun v12 v13 wx=>SfN w R C F s x av u6 ars out l z q WD pr c a v12 v13 wx)
           case first=>
            clear q0 q1 q2 f0 f1 f2 m0 m1 m2
            go_region_held3 (fun w'=>w'.cell? ⟨F,0,none⟩=some (.bool l)∧w'.cell? ⟨F,1,none⟩=some (.bool z)∧w'.cell? ⟨F,2,none⟩=some (.bool q)∧w'.cell? ⟨F,3,none⟩=some (.int .i64 WD)∧w'.cell? ⟨F,4,none⟩=some (.int .i64 pr)∧w'.cell? ⟨F,5,none⟩=some (.int .u8 c)∧w'.cell? ⟨g,o+used*3,none⟩=some (.bool a.real)∧w'.cell? ⟨g,o+used*3+1,none⟩=some (.int .i64 a.num)∧w'.cell? ⟨g,o+used*3+2,none⟩=some (.float .f64 a.flt)) (go_keep) (first|(go_at_call 23;refine(HNB.out _).mono ?_;rintro e w' ⟨t,ok,rfl,t0,t1,t2,t3,t4,t5,t6,t7,t8,HT⟩))
            all_goals go_wp2_with fail
            all_goals go_meet
            all_goals exact⟨t,ok,rfl,rfl,HT.out⟩
           case rest=>
            clear q0 q1 q2 f0 f1 f2 m0 m1 m2 k0 k1 k2 k3 k4 k5 z0 z1 z2 HNB H8
            obtain⟨t,ok,rfl,rfl,hv,hft,hsb,hfx⟩:=hcut
            have H9:Hid (SfB w R C s x av u6 ars out wc∧FX wc F l z q WD pr c):=⟨hsb,hfx⟩
            obtain⟨m0,m1,m2⟩:=hsb.rd
            obtain⟨q0,q1,q2,f0,f1,f2⟩:=hsb.res
            have HV:Hid (numV c pr a t∧(ok=true↔Fits c pr a)):=⟨hv,hft⟩
            have hts:=numV_size _ _ _ _ hv
            clear hsb hfx hv hft
            cases ok
            ·have HBD:Hid (fmtV (fmtA s ars)=.agg #[.bool false,.int .i64 (x:Int),.string ⟨#[]⟩]):=by
              rw[HBAD.out x (HPF.out.trans (by rw[HDR.out];exact letterF_no _ _ _ _ _ _ _ _ _ (by rw[HC.out];intro h;exact absurd (HV.out.2.2 h) (by decide))))]
              rfl
             go_wp2_with fail
             exact sfm_ret w _ R _ _ _ _ (fmtA s ars) rfl H9.out.1.rb H9.out.1.bl hR HBD.out
            ·have HFT:Hid (Fits c pr a):=HV.out.2.1 rfl
             have hxl:x<s.size:=by
              by_cases hh:x<s.size
              ·exact hh
              ·have:=HC.out
               rw[bAt_out s x hh]at this
               exact absurd this.symm (fits_in _ _ _ HFT.out)
             have HG:Hid (FmtS s ars (x+1) (ars.drop used).tail (out++(padS l z q WD c t).data.toList)):=by
              refine HGOOD.out _ _ (HPF.out.trans ?_) (by omega)
              have:=letterF_yes s a (ars.drop (used+1)) l z q WD pr x (by rw[HC.out];exact HFT.out) t (by rw[HC.out];exact HV.out.1)
              rw[HC.out]at this
              rw[HDR.out]
              exact this
             have hUs:(padS l z q WD c t).size≤6000:=padS_size' l z q WD c t HWR.1 HWR.2 hts
             have HPD:Hid (Calls Tryz.prog 24 #[.agg #[.bool l,.bool z,.bool q,.int .i64 WD,.int .i64 pr,.int .u8 c],.string t] (wc.setCell ⟨C,1,none⟩ (.int .i64 ((x:Int)+1))) fun e w'=>e=.returned (.string (padS l z q WD c t))∧Hid (SfB w R C s (x+1) av u6 ars out w')):=
              (l6padded_any l z q WD pr c t _ HWR.1 HWR.2 hts).mono fun e w' ⟨p,r⟩=>⟨p,H9.out.1.adv.below r⟩
             obtain⟨U,hU⟩:∃U,padS l z q WD c t=U:=⟨_,rfl⟩
             rw[hU]at HG HPD hUs
             clear hU
             have hfy:FX (wc.setCell ⟨C,1,none⟩ (.int .i64 ((x:Int)+1))) F l z q WD pr c:=H9.out.2.only ((Only.refl C wc).setCell 1 _) hFC
             have y0:=hfy.c0
             have y1:=hfy.c1
             have y2:=hfy.c2
             have y3:=hfy.c3
             have y4:=hfy.c4
             have y5:=hfy.c5
             clear hfy q0 q1 q2 f0 f1 f2
             go_wp2_with fail
             refine HPD.out.mono ?_
             rintro e W10 ⟨rfl,H10⟩
             have hclt:=H10.out.clt
             have hRC2:=HRe.out.2
             go_wp2_with (at_builtin;refine Lib.wpList_append_own_stringF _ rfl _ _ 22 9 rfl (R+2) 5 i0 Tryz.underlying22 Tryz.underlying9 hi hz0 hz1 hz2 _ _ _ rfl H10.out.own U rfl ?c3 ?c4 ?c5 ?_)
             case c3=>unfold maxLen;omega
             case c4=>omega
             case c5=>omega
             intro v' w3 hown' hgrow _
             have HG3:Hid (SfB w R C s (x+1) av v' ars (out++U.data.toList) w3):=by
              refine SfB.grow H10.out hgrow ?_
              rw[Lib.strCells_eq,←Lib.byteCells_append]at hown'
              rw[List.length_append]
              exact hown'
             clear hown' hgrow
             go_wp2_with fail
             refine⟨⟨x+1,used+1,out++U.data.toList,by first|rfl|(show Value.int .i64 ((used:Int)+1)=_;rw[Int.natCast_add];rfl),by omega,by omega,⟨HG3.out,by rw[←List.tail_drop];exact HG.out,?_⟩⟩,?_⟩
             ·have hul2:U.data.toList.length=U.size:=Array.length_toList
              rw[List.length_append,hul2]
              omega
             ·rw[HAT.out,rdAt_is HG3.out.rd]
              omega
         ·have HBD:Hid (fmtV (fmtA s ars)=.agg #[.bool false,.int .i64 (x:Int),.string ⟨#[]⟩]):=by
           rw[HBAD.out x (HPF.out.trans (letter_unknown _ _ _ _ _ _ _ _ (by rw[HC.out];exact hkc)))]
           rfl
          clear hkc
          go_wp2_with fail
          exact sfm_ret w _ R _ _ _ _ (fmtA s ars) rfl H8.out.1.rb H8.out.1.bl hR HBD.out
   ·have HST:Hid (FmtS s ars (k+1) (ars.drop used) (out++[s[k]])):=HL.out.st.byte hlt h37
    have hne:((s[k].toNat:Int)==37)=false:=beq_eq_false_iff_ne.2 (by rw[←HBA.out];exact h37)
    have hne2:¬(s[k].toNat:Int)=37:=by rw[←HBA.out];exact h37
    have hln:=HL.out.ln
    clear h37
    go_wp2_with (at_builtin;refine wpList_append_ownF _ rfl _ _ 22 rfl (R+2) 5 i0 (.int .u8 0) 1 1 Tryz.underlying22 hi hz0 hz1 hz2 rfl (by decide) _ _ _ rfl (HA1.out.own.alloc _) ⟨W1.heap.size,0,none⟩ 1 1 [.int .u8 (s[k].toNat:Int)] rfl rfl ?c1 ?c2 ?c3 ?c4 ?c5 ?_)
    case c1=>
     intro j u hj
     match j,hj with
     | 0,hj=>simp at hj;subst hj;simp[Addr.add]
    case c2=>intro u hu;simp at hu;subst hu;rfl
    case c3=>unfold maxLen;omega
    case c4=>omega
    case c5=>have h1:=HA1.out.clt;have h2:=HA1.out.hC;simp;omega
    intro v' w3 hown' hgrow _
    have HG3:Hid (SfB w R C s (k+1) av v' ars (out++[s[k]]) w3):=by
     have h1:=HA1.out.below (box_belowG _ (.cells #[.int .u8 (s[k].toNat:Int)] 5))
     refine SfB.grow h1 hgrow ?_
     rw[Lib.byteCells_append,show Lib.byteCells [s[k]] = [.int .u8 (s[k].toNat:Int)] from rfl]
     simpa using hown'
    clear hown' hgrow
    go_wp2_with fail
    refine⟨⟨k+1,used,out++[s[k]],rfl,by omega,hus,⟨HG3.out,HST.out,by simp;omega⟩⟩,?_⟩
    rw[HAT.out,rdAt_is HG3.out.rd]
    omega
  ·have hlt':decide ((k:Int)<(s.size:Int))=false:=decide_eq_false (by omega)
   obtain⟨q0,q1,q2,f0,f1,f2⟩:=HL.out.sb.res
   by_cases hul:used<ars.length
   ·have HBD:Hid (fmtV (fmtA s ars)=.agg #[.bool false,.int .i64 (s.size:Int),.string ⟨#[]⟩]):=by
     rw[HL.out.st.left hlt (fun h=>by have:=List.drop_eq_nil_iff.1 h;omega)];rfl
    have hul':(used:Int)<(ars.length:Int):=by omega
    go_wp2_with fail
    exact sfm_ret w _ R _ _ _ _ (fmtA s ars) rfl HL.out.sb.rb HL.out.sb.bl hR HBD.out
   ·have hul':decide ((used:Int)<(ars.length:Int))=false:=decide_eq_false (by omega)
    have HBD:Hid (fmtV (fmtA s ars)=.agg #[.bool true,.int .i64 0,.string ⟨out.toArray⟩]):=by
     have:=HL.out.st
     rw[List.drop_eq_nil_of_le (by omega)]at this
     rw[this.done hlt]
     rfl
    have hcv:=own_string HL.out.sb.own
    go_wp2_with fail
    exact sfm_ret w _ R _ _ _ _ (fmtA s ars) rfl HL.out.sb.rb HL.out.sb.bl hR HBD.out
end Go.Proofs.YtenbfookfcmpoaaGreatDoor
