import Derived.Test.YtenbfookfcmpoaaGreatDoorF19
import Derived.Test.YtenbfookfcmpoaaGreatDoorF34
import Derived.Test.YtenbfookfcmpoaaGreatDoorF12
import Derived.Maps.AppendAt
namespace Go.Proofs.YtenbfookfcmpoaaGreatDoor
open Go.ChangeShapes Go.WideShapes Go.RowKit Go.Shelf
attribute [local go_sem] Oper.semAt_some
set_option maxHeartbeats 1000000 in
set_option maxRecDepth 100000 in
theorem digitsUp_any(c N:Nat)(w:World):Calls Tryz.prog 65 #[lgV c N] w fun e w'=>e=.returned (.func (.func 102) #[] #[.pointer (some ⟨w.heap.size,0,none⟩)])∧w'=w.alloc (.cells (blk c (dg N) []) 115):=by
 have hb:=blk_nil c (dg N)
 unfold lgV
 rw[hb]
 generalize blk c (dg N) []=C at *
 go_enter Tryz.func65,Tryz.ntmps65
 go_wp2
 go_ret
 exact⟨rfl,rfl⟩
set_option maxHeartbeats 1000000 in
set_option maxRecDepth 100000 in
theorem placesOf_any(k:Int)(s:Bool)(m e:Int)(he:-100000≤e)(he':e≤100000)(w:World):Calls Tryz.prog 63 #[.agg #[.int .i64 k,.bool s,.int .i64 m,.int .i64 e]] w fun r w'=>r=.returned (.int .i64 ((-e).toNat:Int))∧w'=w.alloc (.cells #[.int .i64 k,.bool s,.int .i64 m,.int .i64 e] 65):=by
 by_cases h0:0 < -e
 ·have hm:((-e).toNat:Int) = -e:=by omega
  rw[hm]
  go_enter Tryz.func63,Tryz.ntmps63
  go_wp2
  go_ret
  exact⟨congrArg (fun z=>Ending.returned (Value.int .i64 z)) (show max (-e) 0 = -e by omega),rfl⟩
 ·have hm:((-e).toNat:Int)=0:=by omega
  rw[hm]
  go_enter Tryz.func63,Tryz.ntmps63
  go_wp2
  go_ret
  exact⟨congrArg (fun z=>Ending.returned (Value.int .i64 z)) (show max (-e) 0=0 by omega),rfl⟩
set_option maxHeartbeats 1000000 in
set_option maxRecDepth 100000 in
theorem reverse_nil(w:World):Calls Tryz.prog 66 #[.slice none 0 0] w fun e w'=>e=.returned (.tuple #[])∧w'=w:=by
 go_enter Tryz.func66,Tryz.ntmps66
 go_wp2
 go_loopw [2,3] (fun iv jv wl=>iv=.int .i64 0∧jv=.int .i64 (-1)∧wl=w) (fun _ _ _=>0)
 case atStart=>exact⟨rfl,rfl,rfl⟩
 case round=>
  obtain⟨rfl,rfl,rfl⟩:=hrel
  go_wp2
  go_end0
  exact⟨rfl,rfl⟩
def upC(N i:Nat):List Value:=(upL N i).map fun c=>.int .u8 (c.toNat:Int)
theorem upC_succ(N i:Nat):upC N (i+1)=upC N i++[.int .u8 (48+((N / 10 ^ i % 10:Nat):Int))]:=by
 unfold upC
 rw[upL_succ,List.map_append]
 have:=dchr_nat (N / 10 ^ i % 10) (Nat.mod_lt _ (by omega))
 simp[this]
theorem byteInfo:(Tryz.prog.info? 5).map (fun i=>(i.zero,i.size,i.bytes))=some (some (.int .u8 0),1,1):=by kernel_rfl
theorem boxed_chg{T:TypeId}{B' N' B:Nat}{t:TypeId}{v:Value}{W W':World}(h:Boxed W B t v)(hc:Chg T B' N' W W')(ht:t≠T):Boxed W' B t v:=hc.2.2.2.2 _ _ h (.inr ⟨_,_,_,rfl,.inl ht⟩)
theorem owns_chg{T:TypeId}{B' N' n₀ k:Nat}{e:TypeId}{v:Value}{xs:List Value}{W W':World}(h:W.ownsRow n₀ e 1 v k xs)(hc:Chg T B' N' W W')(ht:e≠T):W'.ownsRow n₀ e 1 v k xs:=by
 refine⟨h.1,?_⟩
 rcases h.2 with h1|⟨g,cap,cur,h1,h2,h3,h4⟩
 ·exact .inl h1
 ·exact .inr ⟨g,cap,cur,h1,h2,hc.2.2.2.2 _ _ h3 (.inr ⟨_,_,_,rfl,.inl ht⟩),h4⟩
theorem own_kind{w:World}{B:Nat}{e:TypeId}{v:Value}{n:Nat}{xs:List Value}(h:w.ownsRow B e 1 v n xs):∀g,v.ownBlock=some g→∃c fz,w.heap[g]? = some (.cells c e fz):=by
 intro g hg
 rcases h.2 with⟨rfl,_⟩|⟨g',cap,cur,rfl,_,hgg,_⟩
 ·simp[Value.ownBlock]at hg
 ·simp[Value.ownBlock]at hg
  subst hg
  exact⟨cur,_,hgg⟩
theorem put_cell{W:World}{D:Nat}{o:Obj}{a:Addr}(h:a.block≠D):(W.putObj D o).cell? a=W.cell? a:=World.cell?_of_block (w:=W) (World.putObj_heap_other h)
theorem res_kept{H:Nat}{W0 W W':World}{o:Obj}(hb:Below W.heap.size W W')(h:Below (H+2) W0 W)(h0:W0.heap[H+1]? = some o)(hz:H+2≤W0.heap.size):W'.heap[H+1]? = some o:=by
 have hs:=h.size
 rw[hb.block _ (by omega),h.block _ (by omega)]
 exact h0
def RevOk(B:Nat)(W0:World)(H:Nat)(v:Value)(T:ByteArray)(W:World):Prop:=Below (H+2) W0 W∧Boxed W B 22 v∧W.heap[B+2]? = some (.deferred (some []))∧(∀X:World,(∀i,B≤i→i<W.heap.size→X.heap[i]? = W.heap[i]?)→(convert 22 9 v).run Tryz.prog X=.ok (.string T) X)
def RevS(B H:Nat)(k:Int)(sg:Bool)(q:Int)(e:Int)(W8 X:World):Prop:=(∀i,B≤i→i<W8.heap.size→X.heap[i]? = W8.heap[i]?)∧X.cell? ⟨H,0,none⟩=some (.int .i64 k)∧X.cell? ⟨H,1,none⟩=some (.bool sg)∧X.cell? ⟨H,2,none⟩=some (.int .i64 q)∧X.cell? ⟨H,3,none⟩=some (.int .i64 e)
theorem conv_nil(X:World):(convert 22 9 (.slice none 0 0)).run Tryz.prog X=.ok (.string ⟨#[]⟩) X:=by kernel_rfl
theorem turn_any(N n B H:Nat)(W0 W7 W:World)(v:Value)(hn:n≤1200)(hHB:H+2≤B)(hb7:Below (H+2) W0 W7)(hv:Boxed W B 22 v)(hrow:W.ownsRow B 5 1 v n (upC N n))(hBW:Below B W7 W)(h0:n=0→v=.slice none 0 0)(hK:W.heap[B+2]? = some (.deferred (some []))) :
  (∃p cap,v=.slice p n cap)∧Calls Tryz.prog 66 #[v] W fun e w'=>e=.returned (.tuple #[])∧Hid (RevOk B W0 H v (txtB N n) w'):=by
 by_cases hn0:n=0
 ·subst hn0
  obtain rfl:=h0 rfl
  refine⟨⟨none,0,rfl⟩,(reverse_nil W).mono ?_⟩
  rintro e w' ⟨rfl,rfl⟩
  refine⟨rfl,hb7.trans (hBW.mono hHB),hv,hK,fun X _=>?_⟩
  have e0:txtB N 0=⟨#[]⟩:=bytes_ext _ _ (List.length_eq_zero_iff.1 (by rw[data_len];exact txt_size N 0))
  rw[e0]
  exact conv_nil X
 ·rcases hrow.2 with⟨_,h⟩|⟨g,cap,cur,rfl,hg,hgg,hnc,_,hcs,htk⟩
  ·omega
  ·rw[Nat.mul_one]at hcs htk
   have hcell:∀ (Y:World),Y.heap[g]? = some (.cells cur 5 (0,0))→∀j (h:j<(upL N n).length),Y.cell? ⟨g,j,none⟩=some (.int .u8 ((upL N n)[j].toNat:Int)):=fun Y hY j h=>by
    have h1:(cur.toList.take n)[j]? = some (.int .u8 ((upL N n)[j].toNat:Int)):=by
     rw[htk]
     unfold upC
     rw[List.getElem?_map,List.getElem?_eq_getElem h]
     rfl
    rw[upL_len]at h
    rw[List.getElem?_take,if_pos h]at h1
    simp only[World.cell?,hY]
    simpa using h1
   have hfz:∀j,j<(upL N n).length→W.frozen? ⟨g,j,none⟩=false:=fun j _=>by simp[World.frozen?,hgg]
   refine⟨⟨_,cap,rfl⟩,(reverse_any g cap n (upL N n) (upL_len N n) W (by rw[upL_len];omega) (hcell W hgg) hfz).mono ?_⟩
   rintro e w' ⟨rfl,ho,hc⟩
   have hgB:g≠B:=by
    rintro rfl
    rw[show W.heap[g]? = _ from hv]at hgg
    cases hgg
   have hgD:g≠B+2:=by
    rintro rfl
    rw[hK]at hgg
    cases hgg
   refine⟨rfl,hb7.trans ((hBW.trans (ho.below hg)).mono hHB),(ho.2.2.2.2 B (Ne.symm hgB)).trans hv,(ho.2.2.2.2 (B+2) (Ne.symm hgD)).trans hK,fun X hX=>?_⟩
   have hlt:g<w'.heap.size:=by rw[ho.2.2.2.1];exact(Array.getElem?_eq_some_iff.1 hgg).1
   have:=run_convert_bytes_back (P:=Tryz.prog) X 22 9 5 ⟨g,0,none⟩ cap (upL N n).reverse Tryz.underlying22 Tryz.underlying5 Tryz.underlying9 (fun j hj=>by
    rw[List.length_reverse]at hj
    rw[show(⟨g,0,none⟩:Addr).add j=⟨g,j,none⟩ by(simp[Addr.add];try omega),World.cell?_of_block (w:=w') (a:=⟨g,j,none⟩) (hX g hg hlt),hc j hj]
    simp only[List.getElem_reverse])
   rw[List.length_reverse,upL_len]at this
   rw[show(⟨(upL N n).reverse.toArray⟩:ByteArray)=txtB N n from bytes_ext _ _ (txt_rev N n).symm]at this
   exact this
set_option maxHeartbeats 8000000 in
set_option maxRecDepth 100000 in
theorem decimalOf_any(k:Int)(sg:Bool)(q:Nat)(e:Int)(hq:q≤9007199254740992)(he:-1100≤e)(he':e≤1100)(w:World)(ht:Tab w)(hw:1<w.heap.size) :
  Calls Tryz.prog 28 #[.agg #[.int .i64 k,.bool sg,.int .i64 (q:Int),.int .i64 e]] w fun r w'=>∃ds x,((q=0∧ds=⟨#[]⟩∧x=0)∨(0<q∧ExD ds (x+1) q e))∧ds.size≤1200∧-1200≤x∧x≤1200∧r=.returned (.agg #[.string ds,.int .i64 x])∧Below w.heap.size w w':=by
 obtain⟨s,hs⟩:∃s,(-e).toNat=s:=⟨_,rfl⟩
 obtain⟨g,hg⟩:∃g,e.toNat=g:=⟨_,rfl⟩
 have hmax:max e 0=(g:Int):=by omega
 obtain⟨t,htt⟩:∃t:Nat,t=1100:=⟨_,rfl⟩
 obtain⟨z,hzz⟩:∃z:Nat,z=140:=⟨_,rfl⟩
 obtain⟨bd1,bd2⟩:=dof_bounds t q s g htt hq (by omega) (by omega) (by omega)
 have HB1:Hid (q*5 ^ s<be ^ z):=ten_words t z _ htt hzz bd1
 obtain⟨N,hN⟩:∃N,q*5 ^ s*2 ^ g=N:=⟨_,rfl⟩
 obtain⟨n,hn⟩:=digN_ex N
 have hn17:n≤1117:=digN_le t htt hn (by rw[←hN];exact bd2)
 have HN:Hid (q*5 ^ s*2 ^ g=N):=hN
 have HDN:Hid (DigN n N):=hn
 have HTB:Hid (Tab w):=ht
 have HLO:Hid _:=fun(w:World)=>largeOf_any q hq w
 have HPL:Hid (∀w:World,Calls Tryz.prog 63 #[.agg #[.int .i64 k,.bool sg,.int .i64 (q:Int),.int .i64 e]] w fun r w'=>r=.returned (.int .i64 (s:Int))∧w'=w.alloc (.cells #[.int .i64 k,.bool sg,.int .i64 (q:Int),.int .i64 e] 65)):=fun w=>by rw[←hs];exact placesOf_any k sg q e (by omega) (by omega) w
 obtain⟨H,hH⟩:∃H,w.heap.size=H:=⟨_,rfl⟩
 obtain⟨W0,hW0⟩:∃W0,(w.alloc (.cells #[.int .i64 k,.bool sg,.int .i64 (q:Int),.int .i64 e] 65)).alloc (.cells #[.string ⟨#[]⟩,.int .i64 0] 69)=W0:=⟨_,rfl⟩
 have p0:W0.cell? ⟨H,0,none⟩=some (.int .i64 k):=by rw[←hW0,←hH];simp[go_sem]
 have p1:W0.cell? ⟨H,1,none⟩=some (.bool sg):=by rw[←hW0,←hH];simp[go_sem]
 have p2:W0.cell? ⟨H,2,none⟩=some (.int .i64 (q:Int)):=by rw[←hW0,←hH];simp[go_sem]
 have p3:W0.cell? ⟨H,3,none⟩=some (.int .i64 e):=by rw[←hW0,←hH];simp[go_sem]
 have HR0:Hid (W0.heap[H+1]? = some (.cells #[.string ⟨#[]⟩,.int .i64 0] 69 (0,0))):=by
  show _=_
  rw[←hW0,←hH]
  have:=World.alloc_heap_new (w.alloc (.cells #[.int .i64 k,.bool sg,.int .i64 (q:Int),.int .i64 e] 65)) (.cells #[.string ⟨#[]⟩,.int .i64 0] 69)
  rwa [World.size_alloc]at this
 have hz0:W0.heap.size=H+2:=by rw[←hW0,←hH];simp
 have HB0:Hid (Below H w W0):=by rw[←hW0,←hH];exact((Below.refl _ _).alloc (Nat.le_refl _) _).alloc (by simp) _
 have HPT:Hid (∀W:World,Below (H+2) W0 W→W.cell? ⟨H,0,none⟩=some (.int .i64 k)∧W.cell? ⟨H,1,none⟩=some (.bool sg)∧W.cell? ⟨H,2,none⟩=some (.int .i64 (q:Int))∧W.cell? ⟨H,3,none⟩=some (.int .i64 e)):=fun W hb=>by
  have c:∀i,W.cell? ⟨H,i,none⟩=W0.cell? ⟨H,i,none⟩:=fun i=>hb.cell (p:=⟨H,i,none⟩) (by show H<_;omega)
  exact⟨(c 0).trans p0,(c 1).trans p1,(c 2).trans p2,(c 3).trans p3⟩
 have hz:=lg_zero
 rw[dg_nil]at hz
 obtain⟨C,hC⟩:∃C,blk 0 (dg 0) []=C:=⟨_,rfl⟩
 have HC:Hid (blk 0 (dg 0) []=C):=hC
 rw[hC]at hz
 have HNEW:Hid (∀w':World,LB (w'.alloc (.cells C 115)) w'.heap.size 0 (dg 0) [] 115):=fun w'=>by rw[←HC.out];exact LB.new w' 0 (dg 0) [] _
 clear bd1 bd2 hN hn ht htt hC
 refine(callsIn_wide (n:=0)).1 ?_
 refine callsIn_of_wp_marks Tryz.func28 rfl trivial ?_ rfl
 simp only[Tryz.ntmps28,List.size_toArray,List.length_cons,List.length_nil,Nat.reduceAdd,Nat.reduceSub,Array.replicate_succ,Array.replicate_zero,List.push_toArray,List.append_toArray,List.nil_append,List.cons_append]
 gi_wp2
 refine⟨trivial,rfl,(callsIn_wide.2 (HLO.out _)).mono ?_⟩
 rintro r W1 ⟨c0,hc0,hk0,rfl,hb1⟩
 have HB1':Hid (Below (H+2) W0 W1):=hb1.mono (by omega)
 obtain⟨A,hA⟩:∃A,W1.heap.size=A:=⟨_,rfl⟩
 have hAH:H+2≤A:=by rw[←hA,←hz0];exact hb1.size
 obtain⟨W2,hW2⟩:∃W2,(W1.alloc (.cells C 115)).setRow A (lgL c0 (dg q)).toArray=W2:=⟨_,rfl⟩
 have hnew:=HNEW.out W1
 rw[hA]at hnew
 have hst:=hnew.cells c0 (dg q)
 have hln:=lgL_length c0 (dg q)
 rw[hW2]at hst
 have HG2:Hid (Lg W2 A q [] 115):=by rw[←hW2];exact⟨c0,by omega,hk0,hnew.stored⟩
 have HB2:Hid (Below (H+2) W0 W2):=by
  rw[←hW2]
  exact(HB1'.out.alloc (by omega) _).trans (((Mod.refl A (W1.alloc (.cells C 115))).setRow (lgL c0 (dg q)).toArray).below hAH (by simp;omega))
 have hzW2:A+1≤W2.heap.size:=by rw[←hW2];simp;omega
 obtain⟨x0,x1,x2,x3⟩:=HPT.out W2 HB2.out
 clear hb1 hW2 hnew hW0 p0 p1 p2 p3 hk0 HB1'
 unfold lgV
 gi_wp2
 refine⟨trivial,rfl,(callsIn_wide.2 (HPL.out _)).mono ?_⟩
 rintro r W3 ⟨rfl,hW3⟩
 have HG3:Hid (Lg W3 A q [] 115):=by
  obtain⟨c,a1,a2,a3⟩:=HG2.out
  rw[hW3]
  exact⟨c,a1,a2,a3.alloc _⟩
 have HB3:Hid (Below (H+2) W0 W3):=by rw[hW3];exact HB2.out.alloc (by omega) _
 have hzW3:A+1≤W3.heap.size:=by rw[hW3];simp;omega
 clear hW3 x0 x1 x2 x3 hst hln HG2 HB2
 have HRA:Hid _:=fun(_:Unit)=>raise_any A q 5 s [] 115 W3 HG3.out (by omega) (by omega) (by omega) (Nat.lt_of_lt_of_le HB1.out (bpow_le (by omega)))
 gi_wp2
 refine⟨trivial,rfl,(callsIn_wide.2 (HRA.out ())).mono ?_⟩
 rintro r W4 ⟨rfl,hm4,hg4⟩
 obtain⟨c4,hc4,hk4,hl4⟩:=hg4
 have HB4:Hid (Below (H+2) W0 W4):=HB3.out.trans (hm4.below hAH (by omega))
 have hzW4:A+1≤W4.heap.size:=Nat.le_trans hzW3 hm4.size
 obtain⟨x0,x1,x2,x3⟩:=HPT.out W4 HB4.out
 have hsh:c4+g / 32+1≤151:=by
  by_cases hg0:g=0
  ·have:=cnt_le hk4 HB1.out
   subst hg0
   omega
  ·have hs0:s=0:=by omega
   have:q*5 ^ s<be ^ 2:=by rw[hs0,Nat.pow_zero,Nat.mul_one,be_eq];omega
   have:=cnt_le hk4 this
   omega
 have HSH:Hid _:=fun(_:Unit)=>shift_any A (q*5 ^ s) g [] 115 W4 c4 hk4 hl4 hsh
 clear hm4 hk4 hl4 HRA HG3 HB3 hsh
 gi_wp2
 refine⟨trivial,rfl,(callsIn_wide.2 (HSH.out ())).mono ?_⟩
 rintro r W5 ⟨rfl,hm5,hg5⟩
 rw[HN.out]at hg5
 have HB5:Hid (Below (H+2) W0 W5):=HB4.out.trans (hm5.below hAH (by omega))
 have hzW5:A+1≤W5.heap.size:=Nat.le_trans hzW4 hm5.size
 obtain⟨c5,hc5,hk5,hl5⟩:=hg5
 obtain⟨B,hB⟩:∃B,W5.heap.size=B:=⟨_,rfl⟩
 obtain⟨W6,hW6⟩:∃W6,W5.alloc (.cells #[.slice none 0 0] 22)=W6:=⟨_,rfl⟩
 have HL6:Hid (LB W6 A c5 (dg N) [] 115):=by rw[←hW6];exact hl5.alloc _
 have HBX:Hid (Boxed W6 B 22 (.slice none 0 0)):=by rw[←hW6,←hB];exact Boxed.new _ _ _
 have HB6:Hid (Below (H+2) W0 W6):=by rw[←hW6];exact HB5.out.alloc (by omega) _
 have hz6:W6.heap.size=B+1:=by rw[←hW6,←hB];simp
 have HK5:Hid (cntOk c5 N):=hk5
 have HDU:Hid _:=fun(w:World)=>digitsUp_any c5 N w
 unfold lgV at HDU
 clear hm5 hk5 hl5 HSH x0 x1 x2 x3 HB4 HB5
 gi_wp2
 refine HL6.out.wpLoadIn _ rfl rfl ?_
 go_at_K
 gi_wp2
 refine⟨trivial,rfl,(callsIn_wide.2 (HDU.out _)).mono ?_⟩
 rintro r W7 ⟨rfl,hW7⟩
 have HL7:Hid (LB W7 (B+1) c5 (dg N) [] 115):=by
  rw[hW7,←hz6]
  exact LB.new W6 c5 (dg N) [] _
 have HBX7:Hid (Boxed W7 B 22 (.slice none 0 0)):=by rw[hW7];exact HBX.out.alloc _
 have HB7:Hid (Below (H+2) W0 W7):=by rw[hW7];exact HB6.out.alloc (by omega) _
 have hz7:W7.heap.size=B+2:=by rw[hW7];simp[hz6]
 have HT7:Hid (Tab W7):=fun i hi=>by
  have hb:Below H w W7:=HB0.out.trans (HB7.out.mono (by omega))
  rw[hb.cell (p:=⟨1,i,none⟩) (by rw[←hH];exact hw)]
  exact HTB.out i hi
 have HG7:Hid (Gives 115 B 102 #[.pointer (some ⟨B+1,0,none⟩)] (dguE N) n W7):=
  dgu_gives B (B+1) N n c5 HDN.out hc5 HK5.out W7 HL7.out HT7.out (by omega) (by omega)
 rw[hz6]
 clear hW7 hW6 HDU HL6 HBX HB6 HL7
 gi_wp2
 obtain⟨i0,hi,hz0',hz1,hz2⟩:=info_parts byteInfo
 refine range_all (T:=115) (b:=B) (enc:=dguE N) (n:=n) rfl (enters_of Tryz.func102 (by kernel_rfl) rfl) HG7.out (fun _=>rfl) (by omega)
  (fun i W=>Hid (∃v,Boxed W B 22 v∧W.ownsRow B 5 1 v i (upC N i)∧Below B W7 W∧(i=0→v=.slice none 0 0))) ?hI ?h0 ?a1 ?assign ?body ?done
 case hI=>
  rintro i A1 A2 h hc
  obtain⟨v,h1,h2,h3,h4⟩:=h.out
  exact⟨v,boxed_chg h1 hc (by decide),owns_chg h2 hc (by decide),below_chg h3 hc (by omega) (by omega),h4⟩
 case h0=>exact⟨_,HBX7.out,⟨rfl,.inl ⟨rfl,rfl⟩⟩,Below.refl _ _,fun _=>rfl⟩
 case assign=>
  intro l i W K hK
  gi_wp2
  exact hK
 case body=>
  intro l i hi2 W hI hsz
  obtain⟨v,hv,hrow,hBW,_⟩:=hI.out
  have hc:=hv.cell
  have HUS:Hid (upC N (i+1)=upC N i++[.int .u8 (48+((N / 10 ^ i % 10:Nat):Int))]):=upC_succ N i
  unfold dguE
  generalize (48+((N / 10 ^ i % 10:Nat):Int))=d at *
  have hBz:=hBW.size
  gi_wp2_with (gi_at_builtin;refine wpListIn_append_own _ rfl _ _ 22 rfl B 5 i0 (.int .u8 0) 1 1 Tryz.underlying22 hi hz0' hz1 hz2 rfl (by decide) _ _ _ rfl (hrow.alloc _) ⟨W.heap.size,0,none⟩ 1 1 [.int .u8 d] rfl rfl (cell_one_new _ _ _) (by simp[Value.oneCell']) (by unfold maxLen;omega) (by omega) (by simp;omega) ?_;intro v' w1 hown' hgrow _;obtain⟨g',cap',rfl⟩:=ownsRow_succ hown';obtain⟨hv1,hv2,hr2,hk2,hb2⟩:=hv.appended (by decide) hrow (by omega) (Nat.le_refl _) hown' hgrow;have hc1:=hv1.cell;have hf1:=hv1.frozen)
  have hkk:Lib.OthersKept 5 (some B) W (w1.setCell ⟨B,0,none⟩ (.slice (some ⟨g',0,none⟩) (i+1) cap')):=(((Lib.OthersKept.refl _ _ W).alloc _).grown hgrow (own_kind (hrow.alloc _))).setCell ⟨B,0,none⟩ rfl _
  exact⟨hk2.from _,rnd_of_kept hkk hb2,⟨_,hv2,by rw[HUS.out];exact hr2,hBW.trans hb2,fun h=>by omega⟩⟩
 case done=>
  intro W hI hsz hK
  obtain⟨v,hv,hrow,hBW,hv0⟩:=hI.out
  rw[hz7]at hK
  obtain⟨⟨p,cap,rfl⟩,hrev⟩:=turn_any N n B H W0 W7 W v (by omega) (by omega) HB7.out hv hrow hBW hv0 hK
  have hc:=hv.cell
  have HRV:Hid _:=fun(_:Unit)=>hrev
  clear hrev hrow hv hv0 hK hBW
  gi_wp2
  refine⟨trivial,rfl,(callsIn_wide.2 (HRV.out ())).mono ?_⟩
  rintro r W8 ⟨rfl,HR8⟩
  have hbx:=HR8.out.2.1.cell
  obtain⟨x0,x1,x2,x3⟩:=HPT.out W8 HR8.out.1
  obtain⟨W9,hW9⟩:∃W9,W8.drew.alloc (.cells #[.int .i64 k,.bool sg,.int .i64 (q:Int),.int .i64 e] 65)=W9:=⟨_,rfl⟩
  have hb89:Below W8.heap.size W8 W9:=by rw[←hW9];exact((Below.refl _ W8).drew).alloc (Nat.le_refl _) _
  have HB9:Hid (Below (H+2) W0 W9):=HR8.out.1.trans (hb89.mono (by have:=HR8.out.1.size;omega))
  have HK9:Hid (W9.heap[B+2]? = some (.deferred (some []))):=(hb89.block _ (Array.getElem?_eq_some_iff.1 HR8.out.2.2.1).1).trans HR8.out.2.2.1
  have hts:(txtB N n).size=n:=txt_size N n
  have HPL2:Hid (Calls Tryz.prog 63 #[.agg #[.int .i64 k,.bool sg,.int .i64 (q:Int),.int .i64 e]] W8.drew fun r w'=>r=.returned (.int .i64 (s:Int))∧w'=W9):=by rw[←hW9];exact HPL.out _
  have HTR:Hid (Calls Tryz.prog 67 #[.string (txtB N n),.int .i64 ((n:Int)-1-(s:Int))] W9 fun r w'=>∃t y,Hid (∃u,TrimR 48 (txtB N n) u∧((u.size=0∧t=⟨#[]⟩∧y=0)∨(0<u.size∧t=u∧y=(n:Int)-1-(s:Int))))∧t.size≤n∧r=.returned (.agg #[.string t,.int .i64 y])∧Hid (Below W9.heap.size W9 w')):=by
   refine(trimmed_any (txtB N n) ((n:Int)-1-(s:Int)) (by omega) W9).mono ?_
   rintro r w' ⟨t,y,h1,h2,h3,h4⟩
   exact⟨t,y,h1,by omega,h3,h4⟩
  have hn17':(n:Int)≤1117:=by omega
  have hss:(s:Int)≤1100:=by omega
  have HS9:Hid (RevS B H k sg (q:Int) e W8 W9):=by
   obtain⟨y0,y1,y2,y3⟩:=HPT.out W9 HB9.out
   exact⟨fun i _ hi=>hb89.block i hi,y0,y1,y2,y3⟩
  have hz89:=hb89.size
  have hzB:B<W8.heap.size:=HR8.out.2.1.lt
  generalize hTT:txtB N n=T at *
  have HTT:Hid (txtB N n=T):=hTT
  clear hTT
  clear hc HRV hW9 HPL hb89
  gi_wp2
  refine wpIn_of_wp ?_
  refine wp_region_held_drew (S:=fun X=>RevS B H k sg (q:Int) e W8 X) (by kernel_rfl) ⟨fun _ _ _=>rfl,x0,x1,x2,x3⟩ (fun hHeld=>?_)
  refine tkH 0 ?v0 rfl ?_ ?y0
  case y0=>(intro w' hSw;have l0:=(World.cell?_of_block (w:=W8) (a:=⟨B,0,none⟩) (hSw.1 B (Nat.le_refl _) HR8.out.2.1.lt)).trans hbx;go_simp;first|done|with_reducible rfl)
  refine tkH 1 ?v1 rfl ?_ ?y1
  case y1=>(intro w' hSw;have l1:=HR8.out.2.2.2 w' hSw.1;go_simp;first|done|with_reducible rfl)
  refine tkH 2 ?v2 rfl ?_ ?y2
  case y2=>(intro w' hSw;have l0:=(World.cell?_of_block (w:=W8) (a:=⟨B,0,none⟩) (hSw.1 B (Nat.le_refl _) HR8.out.2.1.lt)).trans hbx;go_simp;first|done|with_reducible rfl)
  refine tkH 3 ?v3 rfl ?_
  refine tkH 4 ?v4 rfl ?_
  refine tkH 5 ?v5 rfl ?_ ?y5
  case y5=>(intro w' hSw;obtain⟨_,y0,y1,y2,y3⟩:=hSw;go_simp;first|done|with_reducible rfl)
  refine rdH 6 rfl (fun K hK=>?_)
  go_simp
  refine HPL2.out.mono ?_
  rintro r w' ⟨rfl,rfl⟩
  dsimp only
  refine hK.out _ _ HS9.out (fun hHeld=>?_)
  clear hK K
  refine nmH ?_
  refine tkH 7 ?v7 rfl ?_
  refine rdH 8 rfl (fun K hK=>?_)
  go_simp
  rw[show IntKind.i64.wrap (IntKind.i64.wrap ((n:Int)-1)-(s:Int))=(n:Int)-1-(s:Int) by rw[IntKind.wrap_i64,IntKind.wrap_i64];omega]
  refine HTR.out.mono ?_
  rintro r WA ⟨t,y,HTU,htn,rfl,HBA⟩
  have HBA2:Hid (Below (H+2) W0 WA):=HB9.out.trans (HBA.out.mono (by have:=HB9.out.size;omega))
  have HSA:Hid (RevS B H k sg (q:Int) e W8 WA):=by
   obtain⟨y0,y1,y2,y3⟩:=HPT.out WA HBA2.out
   refine⟨fun i hi1 hi2=>(HBA.out.block i (by omega)).trans (HS9.out.1 i hi1 hi2),y0,y1,y2,y3⟩
  have hrs:WA.heap[H+1]? = some (.cells #[.string ⟨#[]⟩,.int .i64 0] 69 (0,0)):=res_kept HBA.out HB9.out HR0.out (by omega)
  have HKA:Hid (WA.heap[B+2]? = some (.deferred (some []))):=(HBA.out.block _ (Array.getElem?_eq_some_iff.1 HK9.out).1).trans HK9.out
  dsimp only
  refine hK.out _ _ HSA.out (fun hHeld=>?_)
  clear hK K
  refine nmH ?_
  refine rdH 9 rfl (fun K hK=>?_)
  have rc0:WA.cell? ⟨H+1,0,none⟩=some (.string ⟨#[]⟩):=by simp[World.cell?,hrs]
  have rc1:WA.cell? ⟨H+1,1,none⟩=some (.int .i64 0):=by simp[World.cell?,hrs]
  have rf0:WA.frozen? ⟨H+1,0,none⟩=false:=by simp[World.frozen?,hrs]
  have rf1:WA.frozen? ⟨H+1,1,none⟩=false:=by simp[World.frozen?,hrs]
  go_simp
  obtain⟨WB,hWB⟩:∃WB,(WA.setCell ⟨H+1,0,none⟩ (.string t)).setCell ⟨H+1,1,none⟩ (.int .i64 y)=WB:=⟨_,rfl⟩
  rw[hWB]
  have hbl:Below (H+1) WA WB:=by rw[←hWB];exact((Below.refl _ WA).setCell (p:=⟨H+1,0,none⟩) (Nat.le_refl _) _).setCell (p:=⟨H+1,1,none⟩) (Nat.le_refl _) _
  have hot:∀i,i≠H+1→WB.heap[i]? = WA.heap[i]?:=fun i hi=>by rw[←hWB,Below.heap_setCell _ _ _ _ hi,Below.heap_setCell _ _ _ _ hi]
  have HSB:Hid (RevS B H k sg (q:Int) e W8 WB):=by
   obtain⟨y0,y1,y2,y3⟩:=HSA.out.2
   have c:∀i,WB.cell? ⟨H,i,none⟩=WA.cell? ⟨H,i,none⟩:=fun i=>hbl.cell (p:=⟨H,i,none⟩) (by show H<_;omega)
   exact⟨fun i hi1 hi2=>(hot i (by omega)).trans (HSA.out.1 i hi1 hi2),(c 0).trans y0,(c 1).trans y1,(c 2).trans y2,(c 3).trans y3⟩
  have hKB:WB.heap[B+2]? = some (.deferred (some [])):=(hot _ (by omega)).trans HKA.out
  have hR0:WB.cell? ⟨H+1,0,none⟩=some (.string t):=by rw[←hWB];simp[go_sem,rc0]
  have hR1:WB.cell? ⟨H+1,1,none⟩=some (.int .i64 y):=by rw[←hWB];simp[go_sem,rc1]
  have HBF:Hid (Below H w (WB.putObj (B+2) (.deferred none))):=below_put ((HB0.out.trans (HBA2.out.mono (by omega))).trans (hbl.mono (by omega))) _ (by omega)
  clear rc0 rc1 rf0 rf1 hWB hbl hot hrs
  refine hK.out _ _ HSB.out (fun hHeld=>?_)
  clear hK K
  refine wpAnyH_done (by kernel_rfl) ?_ _
  simp only[normalOnly]
  gi_wp2
  refine⟨by simp,.inl ⟨_,_,rfl,run_takeDeferred hKB,?_⟩⟩
  have hF0:(WB.putObj (B+2) (.deferred none)).cell? ⟨H+1,0,none⟩=some (.string t):=(put_cell (by show H+1≠B+2;omega)).trans hR0
  have hF1:(WB.putObj (B+2) (.deferred none)).cell? ⟨H+1,1,none⟩=some (.int .i64 y):=(put_cell (by show H+1≠B+2;omega)).trans hR1
  refine⟨.agg #[.string t,.int .i64 y],by simp[results,Tryz.results28,go_sem,hF0,hF1],t,y,?_,by omega,?_,?_,rfl,by rw[hH];exact HBF.out⟩
  ·obtain⟨u,hu,hcase⟩:=HTU.out
   rw[←HTT.out]at hu
   by_cases hq0:q=0
   ·left
    have hN0:N=0:=by rw[←HN.out,hq0,Nat.zero_mul,Nat.zero_mul]
    have hn0:n=0:=by
     apply Nat.eq_zero_of_not_pos
     intro hp
     have:=HDN.out.2 hp
     have h10:0<10 ^ (n-1):=Nat.pow_pos (by omega)
     omega
    have hu0:u.size=0:=by
     obtain⟨⟨j,hj⟩,_⟩:=hu
     have h1:=trim_size hj
     have h2:=txt_size N n
     omega
    rcases hcase with⟨_,h1,h2⟩|⟨h1,_⟩
    ·exact⟨hq0,h1,h2⟩
    ·omega
   ·right
    obtain⟨hu0,hx⟩:=dec_exd q N n s e u (by omega) hs.symm (by rw[hg];exact HN.out.symm) HDN.out hu
    rcases hcase with⟨h1,_⟩|⟨_,rfl,rfl⟩
    ·omega
    ·refine⟨by omega,?_⟩
     rw[show(n:Int)-1-(s:Int)+1=(n:Int)-(s:Int) by omega]
     exact hx
  ·obtain⟨u,_,⟨_,_,rfl⟩|⟨_,_,rfl⟩⟩:=HTU.out<;>omega
  ·obtain⟨u,_,⟨_,_,rfl⟩|⟨_,_,rfl⟩⟩:=HTU.out<;>omega
end Go.Proofs.YtenbfookfcmpoaaGreatDoor
