import Derived.Test.YtenbfookfcmpoaaGreatDoorF45
namespace Go.Proofs.YtenbfookfcmpoaaGreatDoor
open Go.ChangeShapes Go.WideShapes Go.RowKit
def NumQ(c pr:Int)(a:ArgV)(w:World)(e:Ending)(w':World):Prop:=∃t ok,e=.returned (.tuple #[.string t,.bool ok])∧numV c pr a t∧(ok=true↔Fits c pr a)∧Below w.heap.size w w'
theorem two_boxes(w:World)(l z q:Bool)(wd pr c:Int)(r:Bool)(n:Int)(f:Nat)(W:World)(hW:(w.alloc (.cells #[.bool l,.bool z,.bool q,.int .i64 wd,.int .i64 pr,.int .u8 c] 57)).alloc (.cells #[.bool r,.int .i64 n,.float .f64 f] 34)=W) :
  Below w.heap.size w W∧W.cell? ⟨w.heap.size,4,none⟩=some (.int .i64 pr)∧W.cell? ⟨w.heap.size,5,none⟩=some (.int .u8 c)∧W.cell? ⟨w.heap.size+1,0,none⟩=some (.bool r)∧W.cell? ⟨w.heap.size+1,1,none⟩=some (.int .i64 n)∧W.cell? ⟨w.heap.size+1,2,none⟩=some (.float .f64 f):=by
 subst hW
 refine⟨(box_below w _).alloc (box_below w _).size _,?_,?_,?_,?_,?_⟩<;>simp[go_sem]
theorem lt_cells{w w':World}{P k:Nat}{v:Value}(h:w.cell? ⟨P,k,none⟩=some v)(hb:Below w.heap.size w w'):w'.cell? ⟨P,k,none⟩=some v:=(hb.cell (lt_cell h)).trans h
set_option maxHeartbeats 2000000 in
set_option maxRecDepth 100000 in
theorem numD_0(l z q:Bool)(wd pr n:Int)(f:Nat)(hpr:pr = -1)(w:World) :
  Calls Tryz.prog 23 #[.agg #[.bool l,.bool z,.bool q,.int .i64 wd,.int .i64 pr,.int .u8 100],.agg #[.bool false,.int .i64 n,.float .f64 f]] w fun e w'=>NumQ 100 pr ⟨false,n,f⟩ w e w':=by
 subst hpr
 obtain⟨P,hP⟩:∃P,w.heap.size=P:=⟨_,rfl⟩
 obtain⟨W,hW⟩:∃W,(w.alloc (.cells #[.bool l,.bool z,.bool q,.int .i64 wd,.int .i64 (-1),.int .u8 100] 57)).alloc (.cells #[.bool false,.int .i64 n,.float .f64 f] 34)=W:=⟨_,rfl⟩
 obtain⟨b0,b1,b2,b3,b4,b5⟩:=two_boxes w l z q wd (-1) 100 false n f W hW
 have HX:Hid (∀m,Calls Tryz.prog 10 #[.int .i64 n,.int .i64 10] (W.drewN m) fun e w'=>∃t,Hid (t=intText n 10)∧e=.returned (.string t)∧w'.cell? ⟨P,4,none⟩=some (.int .i64 (-1))∧w'.cell? ⟨P,5,none⟩=some (.int .u8 100)∧w'.cell? ⟨P+1,0,none⟩=some (.bool false)∧w'.cell? ⟨P+1,1,none⟩=some (.int .i64 n)∧w'.cell? ⟨P+1,2,none⟩=some (.float .f64 f)∧Hid (Below w.heap.size w w')):=fun m=>by
  have hsp:Calls Tryz.prog 10 #[.int .i64 n,.int .i64 10] (W.drewN m) fun e w'=>∃t,(t=intText n 10)∧e=.returned (.string t)∧Below (W.drewN m).heap.size (W.drewN m) w':=(specInt_any n 10 (W.drewN m)).mono fun e w' ⟨a,b⟩=>⟨intText n 10,rfl,a,b ▸ Below.refl _ _⟩
  refine hsp.mono ?_
  rintro e w' ⟨t,hv,he,hb⟩
  rw[←hP]
  have hb0:=below_drewN b0 m
  exact⟨t,hv,he,lt_cells (w:=W.drewN m) b1 hb,lt_cells (w:=W.drewN m) b2 hb,lt_cells (w:=W.drewN m) b3 hb,lt_cells (w:=W.drewN m) b4 hb,lt_cells (w:=W.drewN m) b5 hb,hb0.trans (hb.mono hb0.size)⟩
 have HW:Hid ((w.alloc (.cells #[.bool l,.bool z,.bool q,.int .i64 wd,.int .i64 (-1),.int .u8 100] 57)).alloc (.cells #[.bool false,.int .i64 n,.float .f64 f] 34)=W):=hW
 have HFT:Hid (Fits 100 (-1) ⟨false,n,f⟩):=by
  have hft:true=true↔Fits 100 (-1) ⟨false,n,f⟩:=by
   unfold Fits
   constructor
   ·intro _;exact .inl ⟨.inl rfl,rfl,rfl⟩
   ·intro _;rfl
  exact hft.1 rfl
 rw[hP]at b1 b2 b3 b4 b5
 clear b0 hW
 go_enter Tryz.func23,Tryz.ntmps23
 go_wp2_with fail
 rw[HW.out]
 go_region_held3 (fun w'=>w'.cell? ⟨P,4,none⟩=some (.int .i64 (-1))∧w'.cell? ⟨P,5,none⟩=some (.int .u8 100)∧w'.cell? ⟨P+1,0,none⟩=some (.bool false)∧w'.cell? ⟨P+1,1,none⟩=some (.int .i64 n)∧w'.cell? ⟨P+1,2,none⟩=some (.float .f64 f)) (go_keep) (first|(go_at_call 10;refine(HX.out 1).mono ?_;rintro e w' ⟨t,HV,rfl,t0,t1,t2,t3,t4,HB⟩))
 all_goals go_wp2_with fail
 all_goals go_ret2
 all_goals exact⟨t,true,rfl,.inl ⟨rfl,HV.out⟩,⟨fun _=>HFT.out,fun _=>rfl⟩,HB.out⟩
set_option maxHeartbeats 2000000 in
set_option maxRecDepth 100000 in
theorem numD_1(l z q:Bool)(wd pr n:Int)(f:Nat)(hpr:¬pr = -1)(w:World) :
  Calls Tryz.prog 23 #[.agg #[.bool l,.bool z,.bool q,.int .i64 wd,.int .i64 pr,.int .u8 100],.agg #[.bool false,.int .i64 n,.float .f64 f]] w fun e w'=>NumQ 100 pr ⟨false,n,f⟩ w e w':=by
 have hprb:(pr == -1)=false:=beq_eq_false_iff_ne.2 hpr
 obtain⟨P,hP⟩:∃P,w.heap.size=P:=⟨_,rfl⟩
 obtain⟨W,hW⟩:∃W,(w.alloc (.cells #[.bool l,.bool z,.bool q,.int .i64 wd,.int .i64 pr,.int .u8 100] 57)).alloc (.cells #[.bool false,.int .i64 n,.float .f64 f] 34)=W:=⟨_,rfl⟩
 obtain⟨b0,b1,b2,b3,b4,b5⟩:=two_boxes w l z q wd pr 100 false n f W hW
 have HX:Hid (∀m,Calls Tryz.prog 10 #[.int .i64 n,.int .i64 10] (W.drewN m) fun e w'=>∃t,Hid (t=intText n 10)∧e=.returned (.string t)∧w'.cell? ⟨P,4,none⟩=some (.int .i64 pr)∧w'.cell? ⟨P,5,none⟩=some (.int .u8 100)∧w'.cell? ⟨P+1,0,none⟩=some (.bool false)∧w'.cell? ⟨P+1,1,none⟩=some (.int .i64 n)∧w'.cell? ⟨P+1,2,none⟩=some (.float .f64 f)∧Hid (Below w.heap.size w w')):=fun m=>by
  have hsp:Calls Tryz.prog 10 #[.int .i64 n,.int .i64 10] (W.drewN m) fun e w'=>∃t,(t=intText n 10)∧e=.returned (.string t)∧Below (W.drewN m).heap.size (W.drewN m) w':=(specInt_any n 10 (W.drewN m)).mono fun e w' ⟨a,b⟩=>⟨intText n 10,rfl,a,b ▸ Below.refl _ _⟩
  refine hsp.mono ?_
  rintro e w' ⟨t,hv,he,hb⟩
  rw[←hP]
  have hb0:=below_drewN b0 m
  exact⟨t,hv,he,lt_cells (w:=W.drewN m) b1 hb,lt_cells (w:=W.drewN m) b2 hb,lt_cells (w:=W.drewN m) b3 hb,lt_cells (w:=W.drewN m) b4 hb,lt_cells (w:=W.drewN m) b5 hb,hb0.trans (hb.mono hb0.size)⟩
 have HW:Hid ((w.alloc (.cells #[.bool l,.bool z,.bool q,.int .i64 wd,.int .i64 pr,.int .u8 100] 57)).alloc (.cells #[.bool false,.int .i64 n,.float .f64 f] 34)=W):=hW
 have HFT:Hid (¬Fits 100 pr ⟨false,n,f⟩):=by
  have hft:false=true↔Fits 100 pr ⟨false,n,f⟩:=by
   unfold Fits
   constructor
   ·intro h;cases h
   ·rintro(⟨_,h1,h2⟩|⟨h,_⟩|⟨h,_⟩|⟨h,_⟩)
    ·first|exact absurd h2 hpr|exact absurd h1 (by simp)
    ·exact absurd h (by decide)
    ·exact absurd h (by decide)
    ·exact absurd h (by decide)
  exact fun h=>by cases hft.2 h
 rw[hP]at b1 b2 b3 b4 b5
 clear b0 hW
 go_enter Tryz.func23,Tryz.ntmps23
 go_wp2_with fail
 rw[HW.out]
 go_region_held3 (fun w'=>w'.cell? ⟨P,4,none⟩=some (.int .i64 pr)∧w'.cell? ⟨P,5,none⟩=some (.int .u8 100)∧w'.cell? ⟨P+1,0,none⟩=some (.bool false)∧w'.cell? ⟨P+1,1,none⟩=some (.int .i64 n)∧w'.cell? ⟨P+1,2,none⟩=some (.float .f64 f)) (go_keep) (first|(go_at_call 10;refine(HX.out 1).mono ?_;rintro e w' ⟨t,HV,rfl,t0,t1,t2,t3,t4,HB⟩))
 all_goals go_wp2_with fail
 all_goals go_ret2
 all_goals exact⟨t,false,rfl,.inl ⟨rfl,HV.out⟩,⟨(fun h=>by cases h),fun h=>absurd h HFT.out⟩,HB.out⟩
set_option maxHeartbeats 2000000 in
set_option maxRecDepth 100000 in
theorem numD_2(l z q:Bool)(wd pr n:Int)(f:Nat) (w:World) :
  Calls Tryz.prog 23 #[.agg #[.bool l,.bool z,.bool q,.int .i64 wd,.int .i64 pr,.int .u8 100],.agg #[.bool true,.int .i64 n,.float .f64 f]] w fun e w'=>NumQ 100 pr ⟨true,n,f⟩ w e w':=by
 obtain⟨P,hP⟩:∃P,w.heap.size=P:=⟨_,rfl⟩
 obtain⟨W,hW⟩:∃W,(w.alloc (.cells #[.bool l,.bool z,.bool q,.int .i64 wd,.int .i64 pr,.int .u8 100] 57)).alloc (.cells #[.bool true,.int .i64 n,.float .f64 f] 34)=W:=⟨_,rfl⟩
 obtain⟨b0,b1,b2,b3,b4,b5⟩:=two_boxes w l z q wd pr 100 true n f W hW
 have HX:Hid (∀m,Calls Tryz.prog 10 #[.int .i64 n,.int .i64 10] (W.drewN m) fun e w'=>∃t,Hid (t=intText n 10)∧e=.returned (.string t)∧w'.cell? ⟨P,4,none⟩=some (.int .i64 pr)∧w'.cell? ⟨P,5,none⟩=some (.int .u8 100)∧w'.cell? ⟨P+1,0,none⟩=some (.bool true)∧w'.cell? ⟨P+1,1,none⟩=some (.int .i64 n)∧w'.cell? ⟨P+1,2,none⟩=some (.float .f64 f)∧Hid (Below w.heap.size w w')):=fun m=>by
  have hsp:Calls Tryz.prog 10 #[.int .i64 n,.int .i64 10] (W.drewN m) fun e w'=>∃t,(t=intText n 10)∧e=.returned (.string t)∧Below (W.drewN m).heap.size (W.drewN m) w':=(specInt_any n 10 (W.drewN m)).mono fun e w' ⟨a,b⟩=>⟨intText n 10,rfl,a,b ▸ Below.refl _ _⟩
  refine hsp.mono ?_
  rintro e w' ⟨t,hv,he,hb⟩
  rw[←hP]
  have hb0:=below_drewN b0 m
  exact⟨t,hv,he,lt_cells (w:=W.drewN m) b1 hb,lt_cells (w:=W.drewN m) b2 hb,lt_cells (w:=W.drewN m) b3 hb,lt_cells (w:=W.drewN m) b4 hb,lt_cells (w:=W.drewN m) b5 hb,hb0.trans (hb.mono hb0.size)⟩
 have HW:Hid ((w.alloc (.cells #[.bool l,.bool z,.bool q,.int .i64 wd,.int .i64 pr,.int .u8 100] 57)).alloc (.cells #[.bool true,.int .i64 n,.float .f64 f] 34)=W):=hW
 have HFT:Hid (¬Fits 100 pr ⟨true,n,f⟩):=by
  have hft:false=true↔Fits 100 pr ⟨true,n,f⟩:=by
   unfold Fits
   constructor
   ·intro h;cases h
   ·rintro(⟨_,h1,h2⟩|⟨h,_⟩|⟨h,_⟩|⟨h,_⟩)
    ·first|exact absurd h2 hpr|exact absurd h1 (by simp)
    ·exact absurd h (by decide)
    ·exact absurd h (by decide)
    ·exact absurd h (by decide)
  exact fun h=>by cases hft.2 h
 rw[hP]at b1 b2 b3 b4 b5
 clear b0 hW
 go_enter Tryz.func23,Tryz.ntmps23
 go_wp2_with fail
 rw[HW.out]
 refine wp_region_held_drew (S:=(fun w'=>w'.cell? ⟨P,4,none⟩=some (.int .i64 pr)∧w'.cell? ⟨P,5,none⟩=some (.int .u8 100)∧w'.cell? ⟨P+1,0,none⟩=some (.bool true)∧w'.cell? ⟨P+1,1,none⟩=some (.int .i64 n)∧w'.cell? ⟨P+1,2,none⟩=some (.float .f64 f))) (by kernel_rfl) ⟨b1,b2,b3,b4,b5⟩ (fun hHeld=>?_)
 refine tkH 0 ?v0 rfl ?_
 refine tkH 1 ?v1 rfl ?_ ?y1
 case y1=>(intro w' hSw;obtain⟨_,_,y3,y4,y5⟩:=hSw;go_simp;first|done|with_reducible rfl)
 refine tkH 3 ?v3 rfl ?_
 refine tkH 4 ?v4 rfl ?_ ?y4
 case y4=>(intro w' hSw;obtain⟨_,_,y3,y4,y5⟩:=hSw;go_simp;first|done|with_reducible rfl)
 refine tkH 5 ?v5 rfl ?_
 refine rdH 2 rfl (fun K hK=>?_)
 go_simp
 refine(HX.out 1).mono ?_
 rintro e Y ⟨t,HV,rfl,t0,t1,t2,t3,t4,HB⟩
 dsimp only
 refine hK.out _ _ ⟨t0,t1,t2,t3,t4⟩ (fun hHeld=>?_)
 clear hK K
 refine nmH ?_
 refine tkH 6 ?v6 rfl ?_
 refine tkU 7 rfl ?_
 refine tkU 8 rfl ?_
 refine tkU 9 rfl ?_
 refine tkH 10 ?v10 rfl ?_
 refine rdH 11 rfl (fun K hK=>?_)
 go_simp
 refine hK.out _ _ ⟨t0,t1,t2,t3,t4⟩ (fun hHeld=>?_)
 clear hK K
 refine nmH ?_
 refine rdH 12 rfl (fun K hK=>?_)
 go_simp
 refine hK.out _ _ ⟨t0,t1,t2,t3,t4⟩ (fun hHeld=>?_)
 clear hK K
 refine nmH ?_
 refine wpAnyH_done (by kernel_rfl) ?_ _
 all_goals go_wp2_with fail
 all_goals go_ret2
 all_goals exact⟨t,false,rfl,.inl ⟨rfl,HV.out⟩,⟨(fun h=>by cases h),fun h=>absurd h HFT.out⟩,HB.out⟩
set_option maxHeartbeats 2000000 in
set_option maxRecDepth 100000 in
theorem numX_0(l z q:Bool)(wd pr n:Int)(f:Nat)(hpr:pr = -1)(w:World) :
  Calls Tryz.prog 23 #[.agg #[.bool l,.bool z,.bool q,.int .i64 wd,.int .i64 pr,.int .u8 120],.agg #[.bool false,.int .i64 n,.float .f64 f]] w fun e w'=>NumQ 120 pr ⟨false,n,f⟩ w e w':=by
 subst hpr
 obtain⟨P,hP⟩:∃P,w.heap.size=P:=⟨_,rfl⟩
 obtain⟨W,hW⟩:∃W,(w.alloc (.cells #[.bool l,.bool z,.bool q,.int .i64 wd,.int .i64 (-1),.int .u8 120] 57)).alloc (.cells #[.bool false,.int .i64 n,.float .f64 f] 34)=W:=⟨_,rfl⟩
 obtain⟨b0,b1,b2,b3,b4,b5⟩:=two_boxes w l z q wd (-1) 120 false n f W hW
 have HX:Hid (∀m,Calls Tryz.prog 44 #[.int .i64 n,.int .i64 16] (W.drewN m) fun e w'=>∃t,Hid (t=bitsText n 16)∧e=.returned (.string t)∧w'.cell? ⟨P,4,none⟩=some (.int .i64 (-1))∧w'.cell? ⟨P,5,none⟩=some (.int .u8 120)∧w'.cell? ⟨P+1,0,none⟩=some (.bool false)∧w'.cell? ⟨P+1,1,none⟩=some (.int .i64 n)∧w'.cell? ⟨P+1,2,none⟩=some (.float .f64 f)∧Hid (Below w.heap.size w w')):=fun m=>by
  have hsp:Calls Tryz.prog 44 #[.int .i64 n,.int .i64 16] (W.drewN m) fun e w'=>∃t,(t=bitsText n 16)∧e=.returned (.string t)∧Below (W.drewN m).heap.size (W.drewN m) w':=(specBits_any n 16 (W.drewN m)).mono fun e w' ⟨a,b⟩=>⟨bitsText n 16,rfl,a,b ▸ Below.refl _ _⟩
  refine hsp.mono ?_
  rintro e w' ⟨t,hv,he,hb⟩
  rw[←hP]
  have hb0:=below_drewN b0 m
  exact⟨t,hv,he,lt_cells (w:=W.drewN m) b1 hb,lt_cells (w:=W.drewN m) b2 hb,lt_cells (w:=W.drewN m) b3 hb,lt_cells (w:=W.drewN m) b4 hb,lt_cells (w:=W.drewN m) b5 hb,hb0.trans (hb.mono hb0.size)⟩
 have HW:Hid ((w.alloc (.cells #[.bool l,.bool z,.bool q,.int .i64 wd,.int .i64 (-1),.int .u8 120] 57)).alloc (.cells #[.bool false,.int .i64 n,.float .f64 f] 34)=W):=hW
 have HFT:Hid (Fits 120 (-1) ⟨false,n,f⟩):=by
  have hft:true=true↔Fits 120 (-1) ⟨false,n,f⟩:=by
   unfold Fits
   constructor
   ·intro _;exact .inl ⟨.inr rfl,rfl,rfl⟩
   ·intro _;rfl
  exact hft.1 rfl
 rw[hP]at b1 b2 b3 b4 b5
 clear b0 hW
 go_enter Tryz.func23,Tryz.ntmps23
 go_wp2_with fail
 rw[HW.out]
 go_region_held3 (fun w'=>w'.cell? ⟨P,4,none⟩=some (.int .i64 (-1))∧w'.cell? ⟨P,5,none⟩=some (.int .u8 120)∧w'.cell? ⟨P+1,0,none⟩=some (.bool false)∧w'.cell? ⟨P+1,1,none⟩=some (.int .i64 n)∧w'.cell? ⟨P+1,2,none⟩=some (.float .f64 f)) (go_keep) (first|(go_at_call 44;refine(HX.out 1).mono ?_;rintro e w' ⟨t,HV,rfl,t0,t1,t2,t3,t4,HB⟩))
 all_goals go_wp2_with fail
 all_goals go_ret2
 all_goals exact⟨t,true,rfl,.inr (.inl ⟨rfl,HV.out⟩),⟨fun _=>HFT.out,fun _=>rfl⟩,HB.out⟩
set_option maxHeartbeats 2000000 in
set_option maxRecDepth 100000 in
theorem numX_1(l z q:Bool)(wd pr n:Int)(f:Nat)(hpr:¬pr = -1)(w:World) :
  Calls Tryz.prog 23 #[.agg #[.bool l,.bool z,.bool q,.int .i64 wd,.int .i64 pr,.int .u8 120],.agg #[.bool false,.int .i64 n,.float .f64 f]] w fun e w'=>NumQ 120 pr ⟨false,n,f⟩ w e w':=by
 have hprb:(pr == -1)=false:=beq_eq_false_iff_ne.2 hpr
 obtain⟨P,hP⟩:∃P,w.heap.size=P:=⟨_,rfl⟩
 obtain⟨W,hW⟩:∃W,(w.alloc (.cells #[.bool l,.bool z,.bool q,.int .i64 wd,.int .i64 pr,.int .u8 120] 57)).alloc (.cells #[.bool false,.int .i64 n,.float .f64 f] 34)=W:=⟨_,rfl⟩
 obtain⟨b0,b1,b2,b3,b4,b5⟩:=two_boxes w l z q wd pr 120 false n f W hW
 have HX:Hid (∀m,Calls Tryz.prog 44 #[.int .i64 n,.int .i64 16] (W.drewN m) fun e w'=>∃t,Hid (t=bitsText n 16)∧e=.returned (.string t)∧w'.cell? ⟨P,4,none⟩=some (.int .i64 pr)∧w'.cell? ⟨P,5,none⟩=some (.int .u8 120)∧w'.cell? ⟨P+1,0,none⟩=some (.bool false)∧w'.cell? ⟨P+1,1,none⟩=some (.int .i64 n)∧w'.cell? ⟨P+1,2,none⟩=some (.float .f64 f)∧Hid (Below w.heap.size w w')):=fun m=>by
  have hsp:Calls Tryz.prog 44 #[.int .i64 n,.int .i64 16] (W.drewN m) fun e w'=>∃t,(t=bitsText n 16)∧e=.returned (.string t)∧Below (W.drewN m).heap.size (W.drewN m) w':=(specBits_any n 16 (W.drewN m)).mono fun e w' ⟨a,b⟩=>⟨bitsText n 16,rfl,a,b ▸ Below.refl _ _⟩
  refine hsp.mono ?_
  rintro e w' ⟨t,hv,he,hb⟩
  rw[←hP]
  have hb0:=below_drewN b0 m
  exact⟨t,hv,he,lt_cells (w:=W.drewN m) b1 hb,lt_cells (w:=W.drewN m) b2 hb,lt_cells (w:=W.drewN m) b3 hb,lt_cells (w:=W.drewN m) b4 hb,lt_cells (w:=W.drewN m) b5 hb,hb0.trans (hb.mono hb0.size)⟩
 have HW:Hid ((w.alloc (.cells #[.bool l,.bool z,.bool q,.int .i64 wd,.int .i64 pr,.int .u8 120] 57)).alloc (.cells #[.bool false,.int .i64 n,.float .f64 f] 34)=W):=hW
 have HFT:Hid (¬Fits 120 pr ⟨false,n,f⟩):=by
  have hft:false=true↔Fits 120 pr ⟨false,n,f⟩:=by
   unfold Fits
   constructor
   ·intro h;cases h
   ·rintro(⟨_,h1,h2⟩|⟨h,_⟩|⟨h,_⟩|⟨h,_⟩)
    ·first|exact absurd h2 hpr|exact absurd h1 (by simp)
    ·exact absurd h (by decide)
    ·exact absurd h (by decide)
    ·exact absurd h (by decide)
  exact fun h=>by cases hft.2 h
 rw[hP]at b1 b2 b3 b4 b5
 clear b0 hW
 go_enter Tryz.func23,Tryz.ntmps23
 go_wp2_with fail
 rw[HW.out]
 go_region_held3 (fun w'=>w'.cell? ⟨P,4,none⟩=some (.int .i64 pr)∧w'.cell? ⟨P,5,none⟩=some (.int .u8 120)∧w'.cell? ⟨P+1,0,none⟩=some (.bool false)∧w'.cell? ⟨P+1,1,none⟩=some (.int .i64 n)∧w'.cell? ⟨P+1,2,none⟩=some (.float .f64 f)) (go_keep) (first|(go_at_call 44;refine(HX.out 1).mono ?_;rintro e w' ⟨t,HV,rfl,t0,t1,t2,t3,t4,HB⟩))
 all_goals go_wp2_with fail
 all_goals go_ret2
 all_goals exact⟨t,false,rfl,.inr (.inl ⟨rfl,HV.out⟩),⟨(fun h=>by cases h),fun h=>absurd h HFT.out⟩,HB.out⟩
set_option maxHeartbeats 2000000 in
set_option maxRecDepth 100000 in
theorem numX_2(l z q:Bool)(wd pr n:Int)(f:Nat) (w:World) :
  Calls Tryz.prog 23 #[.agg #[.bool l,.bool z,.bool q,.int .i64 wd,.int .i64 pr,.int .u8 120],.agg #[.bool true,.int .i64 n,.float .f64 f]] w fun e w'=>NumQ 120 pr ⟨true,n,f⟩ w e w':=by
 obtain⟨P,hP⟩:∃P,w.heap.size=P:=⟨_,rfl⟩
 obtain⟨W,hW⟩:∃W,(w.alloc (.cells #[.bool l,.bool z,.bool q,.int .i64 wd,.int .i64 pr,.int .u8 120] 57)).alloc (.cells #[.bool true,.int .i64 n,.float .f64 f] 34)=W:=⟨_,rfl⟩
 obtain⟨b0,b1,b2,b3,b4,b5⟩:=two_boxes w l z q wd pr 120 true n f W hW
 have HX:Hid (∀m,Calls Tryz.prog 44 #[.int .i64 n,.int .i64 16] (W.drewN m) fun e w'=>∃t,Hid (t=bitsText n 16)∧e=.returned (.string t)∧w'.cell? ⟨P,4,none⟩=some (.int .i64 pr)∧w'.cell? ⟨P,5,none⟩=some (.int .u8 120)∧w'.cell? ⟨P+1,0,none⟩=some (.bool true)∧w'.cell? ⟨P+1,1,none⟩=some (.int .i64 n)∧w'.cell? ⟨P+1,2,none⟩=some (.float .f64 f)∧Hid (Below w.heap.size w w')):=fun m=>by
  have hsp:Calls Tryz.prog 44 #[.int .i64 n,.int .i64 16] (W.drewN m) fun e w'=>∃t,(t=bitsText n 16)∧e=.returned (.string t)∧Below (W.drewN m).heap.size (W.drewN m) w':=(specBits_any n 16 (W.drewN m)).mono fun e w' ⟨a,b⟩=>⟨bitsText n 16,rfl,a,b ▸ Below.refl _ _⟩
  refine hsp.mono ?_
  rintro e w' ⟨t,hv,he,hb⟩
  rw[←hP]
  have hb0:=below_drewN b0 m
  exact⟨t,hv,he,lt_cells (w:=W.drewN m) b1 hb,lt_cells (w:=W.drewN m) b2 hb,lt_cells (w:=W.drewN m) b3 hb,lt_cells (w:=W.drewN m) b4 hb,lt_cells (w:=W.drewN m) b5 hb,hb0.trans (hb.mono hb0.size)⟩
 have HW:Hid ((w.alloc (.cells #[.bool l,.bool z,.bool q,.int .i64 wd,.int .i64 pr,.int .u8 120] 57)).alloc (.cells #[.bool true,.int .i64 n,.float .f64 f] 34)=W):=hW
 have HFT:Hid (¬Fits 120 pr ⟨true,n,f⟩):=by
  have hft:false=true↔Fits 120 pr ⟨true,n,f⟩:=by
   unfold Fits
   constructor
   ·intro h;cases h
   ·rintro(⟨_,h1,h2⟩|⟨h,_⟩|⟨h,_⟩|⟨h,_⟩)
    ·first|exact absurd h2 hpr|exact absurd h1 (by simp)
    ·exact absurd h (by decide)
    ·exact absurd h (by decide)
    ·exact absurd h (by decide)
  exact fun h=>by cases hft.2 h
 rw[hP]at b1 b2 b3 b4 b5
 clear b0 hW
 go_enter Tryz.func23,Tryz.ntmps23
 go_wp2_with fail
 rw[HW.out]
 refine wp_region_held_drew (S:=(fun w'=>w'.cell? ⟨P,4,none⟩=some (.int .i64 pr)∧w'.cell? ⟨P,5,none⟩=some (.int .u8 120)∧w'.cell? ⟨P+1,0,none⟩=some (.bool true)∧w'.cell? ⟨P+1,1,none⟩=some (.int .i64 n)∧w'.cell? ⟨P+1,2,none⟩=some (.float .f64 f))) (by kernel_rfl) ⟨b1,b2,b3,b4,b5⟩ (fun hHeld=>?_)
 refine tkH 0 ?v0 rfl ?_
 refine tkH 1 ?v1 rfl ?_ ?y1
 case y1=>(intro w' hSw;obtain⟨_,_,y3,y4,y5⟩:=hSw;go_simp;first|done|with_reducible rfl)
 refine tkH 3 ?v3 rfl ?_
 refine tkH 4 ?v4 rfl ?_ ?y4
 case y4=>(intro w' hSw;obtain⟨_,_,y3,y4,y5⟩:=hSw;go_simp;first|done|with_reducible rfl)
 refine tkH 5 ?v5 rfl ?_
 refine rdH 2 rfl (fun K hK=>?_)
 go_simp
 refine(HX.out 1).mono ?_
 rintro e Y ⟨t,HV,rfl,t0,t1,t2,t3,t4,HB⟩
 dsimp only
 refine hK.out _ _ ⟨t0,t1,t2,t3,t4⟩ (fun hHeld=>?_)
 clear hK K
 refine nmH ?_
 refine tkH 6 ?v6 rfl ?_
 refine tkU 7 rfl ?_
 refine tkU 8 rfl ?_
 refine tkU 9 rfl ?_
 refine tkH 10 ?v10 rfl ?_
 refine rdH 11 rfl (fun K hK=>?_)
 go_simp
 refine hK.out _ _ ⟨t0,t1,t2,t3,t4⟩ (fun hHeld=>?_)
 clear hK K
 refine nmH ?_
 refine rdH 12 rfl (fun K hK=>?_)
 go_simp
 refine hK.out _ _ ⟨t0,t1,t2,t3,t4⟩ (fun hHeld=>?_)
 clear hK K
 refine nmH ?_
 refine wpAnyH_done (by kernel_rfl) ?_ _
 all_goals go_wp2_with fail
 all_goals go_ret2
 all_goals exact⟨t,false,rfl,.inr (.inl ⟨rfl,HV.out⟩),⟨(fun h=>by cases h),fun h=>absurd h HFT.out⟩,HB.out⟩
set_option maxHeartbeats 2000000 in
set_option maxRecDepth 100000 in
theorem numG_0(l z q:Bool)(wd pr n:Int)(f:Nat)(hf:f<18446744073709551616)(hpr:pr = -1)(w:World) :
  Calls Tryz.prog 23 #[.agg #[.bool l,.bool z,.bool q,.int .i64 wd,.int .i64 pr,.int .u8 103],.agg #[.bool true,.int .i64 n,.float .f64 f]] w fun e w'=>NumQ 103 pr ⟨true,n,f⟩ w e w':=by
 subst hpr
 obtain⟨P,hP⟩:∃P,w.heap.size=P:=⟨_,rfl⟩
 obtain⟨W,hW⟩:∃W,(w.alloc (.cells #[.bool l,.bool z,.bool q,.int .i64 wd,.int .i64 (-1),.int .u8 103] 57)).alloc (.cells #[.bool true,.int .i64 n,.float .f64 f] 34)=W:=⟨_,rfl⟩
 obtain⟨b0,b1,b2,b3,b4,b5⟩:=two_boxes w l z q wd (-1) 103 true n f W hW
 have HX:Hid (∀m,Calls Tryz.prog 45 #[.float .f64 f] (W.drewN m) fun e w'=>∃t,Hid (shortV f t)∧e=.returned (.string t)∧w'.cell? ⟨P,4,none⟩=some (.int .i64 (-1))∧w'.cell? ⟨P,5,none⟩=some (.int .u8 103)∧w'.cell? ⟨P+1,0,none⟩=some (.bool true)∧w'.cell? ⟨P+1,1,none⟩=some (.int .i64 n)∧w'.cell? ⟨P+1,2,none⟩=some (.float .f64 f)∧Hid (Below w.heap.size w w')):=fun m=>by
  have hsp:Calls Tryz.prog 45 #[.float .f64 f] (W.drewN m) fun e w'=>∃t,(shortV f t)∧e=.returned (.string t)∧Below (W.drewN m).heap.size (W.drewN m) w':=(specShortest_any f hf (W.drewN m)).mono fun e w' ⟨t,a,_,b,c⟩=>⟨t,a,b,c⟩
  refine hsp.mono ?_
  rintro e w' ⟨t,hv,he,hb⟩
  rw[←hP]
  have hb0:=below_drewN b0 m
  exact⟨t,hv,he,lt_cells (w:=W.drewN m) b1 hb,lt_cells (w:=W.drewN m) b2 hb,lt_cells (w:=W.drewN m) b3 hb,lt_cells (w:=W.drewN m) b4 hb,lt_cells (w:=W.drewN m) b5 hb,hb0.trans (hb.mono hb0.size)⟩
 have HW:Hid ((w.alloc (.cells #[.bool l,.bool z,.bool q,.int .i64 wd,.int .i64 (-1),.int .u8 103] 57)).alloc (.cells #[.bool true,.int .i64 n,.float .f64 f] 34)=W):=hW
 have HFT:Hid (Fits 103 (-1) ⟨true,n,f⟩):=by
  have hft:true=true↔Fits 103 (-1) ⟨true,n,f⟩:=by
   unfold Fits
   constructor
   ·intro _;exact .inr (.inl ⟨.inl rfl,rfl,rfl⟩)
   ·intro _;rfl
  exact hft.1 rfl
 rw[hP]at b1 b2 b3 b4 b5
 clear b0 hW hf
 go_enter Tryz.func23,Tryz.ntmps23
 go_wp2_with fail
 rw[HW.out]
 go_region_held3 (fun w'=>w'.cell? ⟨P,4,none⟩=some (.int .i64 (-1))∧w'.cell? ⟨P,5,none⟩=some (.int .u8 103)∧w'.cell? ⟨P+1,0,none⟩=some (.bool true)∧w'.cell? ⟨P+1,1,none⟩=some (.int .i64 n)∧w'.cell? ⟨P+1,2,none⟩=some (.float .f64 f)) (go_keep) (first|(go_at_call 45;refine(HX.out 1).mono ?_;rintro e w' ⟨t,HV,rfl,t0,t1,t2,t3,t4,HB⟩))
 all_goals go_wp2_with fail
 all_goals go_ret2
 all_goals exact⟨t,true,rfl,.inr (.inr (.inl ⟨rfl,HV.out⟩)),⟨fun _=>HFT.out,fun _=>rfl⟩,HB.out⟩
set_option maxHeartbeats 2000000 in
set_option maxRecDepth 100000 in
theorem numG_1(l z q:Bool)(wd pr n:Int)(f:Nat)(hf:f<18446744073709551616)(hpr:¬pr = -1)(w:World) :
  Calls Tryz.prog 23 #[.agg #[.bool l,.bool z,.bool q,.int .i64 wd,.int .i64 pr,.int .u8 103],.agg #[.bool true,.int .i64 n,.float .f64 f]] w fun e w'=>NumQ 103 pr ⟨true,n,f⟩ w e w':=by
 have hprb:(pr == -1)=false:=beq_eq_false_iff_ne.2 hpr
 obtain⟨P,hP⟩:∃P,w.heap.size=P:=⟨_,rfl⟩
 obtain⟨W,hW⟩:∃W,(w.alloc (.cells #[.bool l,.bool z,.bool q,.int .i64 wd,.int .i64 pr,.int .u8 103] 57)).alloc (.cells #[.bool true,.int .i64 n,.float .f64 f] 34)=W:=⟨_,rfl⟩
 obtain⟨b0,b1,b2,b3,b4,b5⟩:=two_boxes w l z q wd pr 103 true n f W hW
 have HX:Hid (∀m,Calls Tryz.prog 45 #[.float .f64 f] (W.drewN m) fun e w'=>∃t,Hid (shortV f t)∧e=.returned (.string t)∧w'.cell? ⟨P,4,none⟩=some (.int .i64 pr)∧w'.cell? ⟨P,5,none⟩=some (.int .u8 103)∧w'.cell? ⟨P+1,0,none⟩=some (.bool true)∧w'.cell? ⟨P+1,1,none⟩=some (.int .i64 n)∧w'.cell? ⟨P+1,2,none⟩=some (.float .f64 f)∧Hid (Below w.heap.size w w')):=fun m=>by
  have hsp:Calls Tryz.prog 45 #[.float .f64 f] (W.drewN m) fun e w'=>∃t,(shortV f t)∧e=.returned (.string t)∧Below (W.drewN m).heap.size (W.drewN m) w':=(specShortest_any f hf (W.drewN m)).mono fun e w' ⟨t,a,_,b,c⟩=>⟨t,a,b,c⟩
  refine hsp.mono ?_
  rintro e w' ⟨t,hv,he,hb⟩
  rw[←hP]
  have hb0:=below_drewN b0 m
  exact⟨t,hv,he,lt_cells (w:=W.drewN m) b1 hb,lt_cells (w:=W.drewN m) b2 hb,lt_cells (w:=W.drewN m) b3 hb,lt_cells (w:=W.drewN m) b4 hb,lt_cells (w:=W.drewN m) b5 hb,hb0.trans (hb.mono hb0.size)⟩
 have HW:Hid ((w.alloc (.cells #[.bool l,.bool z,.bool q,.int .i64 wd,.int .i64 pr,.int .u8 103] 57)).alloc (.cells #[.bool true,.int .i64 n,.float .f64 f] 34)=W):=hW
 have HFT:Hid (¬Fits 103 pr ⟨true,n,f⟩):=by
  have hft:false=true↔Fits 103 pr ⟨true,n,f⟩:=by
   unfold Fits
   constructor
   ·intro h;cases h
   ·rintro(⟨h,_⟩|⟨_,h1,h2⟩|⟨h,_⟩|⟨h,_⟩)
    ·exact absurd h (by decide)
    ·first|exact absurd h2 hpr|exact absurd h1 (by simp)
    ·exact absurd h (by decide)
    ·exact absurd h (by decide)
  exact fun h=>by cases hft.2 h
 rw[hP]at b1 b2 b3 b4 b5
 clear b0 hW hf
 go_enter Tryz.func23,Tryz.ntmps23
 go_wp2_with fail
 rw[HW.out]
 go_region_held3 (fun w'=>w'.cell? ⟨P,4,none⟩=some (.int .i64 pr)∧w'.cell? ⟨P,5,none⟩=some (.int .u8 103)∧w'.cell? ⟨P+1,0,none⟩=some (.bool true)∧w'.cell? ⟨P+1,1,none⟩=some (.int .i64 n)∧w'.cell? ⟨P+1,2,none⟩=some (.float .f64 f)) (go_keep) (first|(go_at_call 45;refine(HX.out 1).mono ?_;rintro e w' ⟨t,HV,rfl,t0,t1,t2,t3,t4,HB⟩))
 all_goals go_wp2_with fail
 all_goals go_ret2
 all_goals exact⟨t,false,rfl,.inr (.inr (.inl ⟨rfl,HV.out⟩)),⟨(fun h=>by cases h),fun h=>absurd h HFT.out⟩,HB.out⟩
set_option maxHeartbeats 2000000 in
set_option maxRecDepth 100000 in
theorem numG_2(l z q:Bool)(wd pr n:Int)(f:Nat)(hf:f<18446744073709551616) (w:World) :
  Calls Tryz.prog 23 #[.agg #[.bool l,.bool z,.bool q,.int .i64 wd,.int .i64 pr,.int .u8 103],.agg #[.bool false,.int .i64 n,.float .f64 f]] w fun e w'=>NumQ 103 pr ⟨false,n,f⟩ w e w':=by
 obtain⟨P,hP⟩:∃P,w.heap.size=P:=⟨_,rfl⟩
 obtain⟨W,hW⟩:∃W,(w.alloc (.cells #[.bool l,.bool z,.bool q,.int .i64 wd,.int .i64 pr,.int .u8 103] 57)).alloc (.cells #[.bool false,.int .i64 n,.float .f64 f] 34)=W:=⟨_,rfl⟩
 obtain⟨b0,b1,b2,b3,b4,b5⟩:=two_boxes w l z q wd pr 103 false n f W hW
 have HX:Hid (∀m,Calls Tryz.prog 45 #[.float .f64 f] (W.drewN m) fun e w'=>∃t,Hid (shortV f t)∧e=.returned (.string t)∧w'.cell? ⟨P,4,none⟩=some (.int .i64 pr)∧w'.cell? ⟨P,5,none⟩=some (.int .u8 103)∧w'.cell? ⟨P+1,0,none⟩=some (.bool false)∧w'.cell? ⟨P+1,1,none⟩=some (.int .i64 n)∧w'.cell? ⟨P+1,2,none⟩=some (.float .f64 f)∧Hid (Below w.heap.size w w')):=fun m=>by
  have hsp:Calls Tryz.prog 45 #[.float .f64 f] (W.drewN m) fun e w'=>∃t,(shortV f t)∧e=.returned (.string t)∧Below (W.drewN m).heap.size (W.drewN m) w':=(specShortest_any f hf (W.drewN m)).mono fun e w' ⟨t,a,_,b,c⟩=>⟨t,a,b,c⟩
  refine hsp.mono ?_
  rintro e w' ⟨t,hv,he,hb⟩
  rw[←hP]
  have hb0:=below_drewN b0 m
  exact⟨t,hv,he,lt_cells (w:=W.drewN m) b1 hb,lt_cells (w:=W.drewN m) b2 hb,lt_cells (w:=W.drewN m) b3 hb,lt_cells (w:=W.drewN m) b4 hb,lt_cells (w:=W.drewN m) b5 hb,hb0.trans (hb.mono hb0.size)⟩
 have HW:Hid ((w.alloc (.cells #[.bool l,.bool z,.bool q,.int .i64 wd,.int .i64 pr,.int .u8 103] 57)).alloc (.cells #[.bool false,.int .i64 n,.float .f64 f] 34)=W):=hW
 have HFT:Hid (¬Fits 103 pr ⟨false,n,f⟩):=by
  have hft:false=true↔Fits 103 pr ⟨false,n,f⟩:=by
   unfold Fits
   constructor
   ·intro h;cases h
   ·rintro(⟨h,_⟩|⟨_,h1,h2⟩|⟨h,_⟩|⟨h,_⟩)
    ·exact absurd h (by decide)
    ·first|exact absurd h2 hpr|exact absurd h1 (by simp)
    ·exact absurd h (by decide)
    ·exact absurd h (by decide)
  exact fun h=>by cases hft.2 h
 rw[hP]at b1 b2 b3 b4 b5
 clear b0 hW hf
 go_enter Tryz.func23,Tryz.ntmps23
 go_wp2_with fail
 rw[HW.out]
 refine wp_region_held_drew (S:=(fun w'=>w'.cell? ⟨P,4,none⟩=some (.int .i64 pr)∧w'.cell? ⟨P,5,none⟩=some (.int .u8 103)∧w'.cell? ⟨P+1,0,none⟩=some (.bool false)∧w'.cell? ⟨P+1,1,none⟩=some (.int .i64 n)∧w'.cell? ⟨P+1,2,none⟩=some (.float .f64 f))) (by kernel_rfl) ⟨b1,b2,b3,b4,b5⟩ (fun hHeld=>?_)
 refine tkH 0 ?v0 rfl ?_
 refine tkH 1 ?v1 rfl ?_ ?y1
 case y1=>(intro w' hSw;obtain⟨_,_,y3,y4,y5⟩:=hSw;go_simp;first|done|with_reducible rfl)
 refine tkH 3 ?v3 rfl ?_
 refine tkH 4 ?v4 rfl ?_ ?y4
 case y4=>(intro w' hSw;obtain⟨_,_,y3,y4,y5⟩:=hSw;go_simp;first|done|with_reducible rfl)
 refine rdH 2 rfl (fun K hK=>?_)
 go_simp
 refine(HX.out 1).mono ?_
 rintro e Y ⟨t,HV,rfl,t0,t1,t2,t3,t4,HB⟩
 dsimp only
 refine hK.out _ _ ⟨t0,t1,t2,t3,t4⟩ (fun hHeld=>?_)
 clear hK K
 refine nmH ?_
 refine tkH 5 ?v5 rfl ?_
 refine tkU 6 rfl ?_
 refine tkU 7 rfl ?_
 refine tkU 8 rfl ?_
 refine tkH 9 ?v9 rfl ?_
 refine rdH 10 rfl (fun K hK=>?_)
 go_simp
 refine hK.out _ _ ⟨t0,t1,t2,t3,t4⟩ (fun hHeld=>?_)
 clear hK K
 refine nmH ?_
 refine rdH 11 rfl (fun K hK=>?_)
 go_simp
 refine hK.out _ _ ⟨t0,t1,t2,t3,t4⟩ (fun hHeld=>?_)
 clear hK K
 refine nmH ?_
 refine wpAnyH_done (by kernel_rfl) ?_ _
 all_goals go_wp2_with fail
 all_goals go_ret2
 all_goals exact⟨t,false,rfl,.inr (.inr (.inl ⟨rfl,HV.out⟩)),⟨(fun h=>by cases h),fun h=>absurd h HFT.out⟩,HB.out⟩
set_option maxHeartbeats 2000000 in
set_option maxRecDepth 100000 in
theorem numH_0(l z q:Bool)(wd pr n:Int)(f:Nat)(hf:f<18446744073709551616)(hpr:pr = -1)(w:World) :
  Calls Tryz.prog 23 #[.agg #[.bool l,.bool z,.bool q,.int .i64 wd,.int .i64 pr,.int .u8 104],.agg #[.bool true,.int .i64 n,.float .f64 f]] w fun e w'=>NumQ 104 pr ⟨true,n,f⟩ w e w':=by
 subst hpr
 obtain⟨P,hP⟩:∃P,w.heap.size=P:=⟨_,rfl⟩
 obtain⟨W,hW⟩:∃W,(w.alloc (.cells #[.bool l,.bool z,.bool q,.int .i64 wd,.int .i64 (-1),.int .u8 104] 57)).alloc (.cells #[.bool true,.int .i64 n,.float .f64 f] 34)=W:=⟨_,rfl⟩
 obtain⟨b0,b1,b2,b3,b4,b5⟩:=two_boxes w l z q wd (-1) 104 true n f W hW
 have HX:Hid (∀m,Calls Tryz.prog 46 #[.float .f64 f] (W.drewN m) fun e w'=>∃t,Hid (hexV f t)∧e=.returned (.string t)∧w'.cell? ⟨P,4,none⟩=some (.int .i64 (-1))∧w'.cell? ⟨P,5,none⟩=some (.int .u8 104)∧w'.cell? ⟨P+1,0,none⟩=some (.bool true)∧w'.cell? ⟨P+1,1,none⟩=some (.int .i64 n)∧w'.cell? ⟨P+1,2,none⟩=some (.float .f64 f)∧Hid (Below w.heap.size w w')):=fun m=>by
  have hsp:Calls Tryz.prog 46 #[.float .f64 f] (W.drewN m) fun e w'=>∃t,(hexV f t)∧e=.returned (.string t)∧Below (W.drewN m).heap.size (W.drewN m) w':=(specHex_any f hf (W.drewN m)).mono fun e w' ⟨t,a,b,c⟩=>⟨t,a,b,c⟩
  refine hsp.mono ?_
  rintro e w' ⟨t,hv,he,hb⟩
  rw[←hP]
  have hb0:=below_drewN b0 m
  exact⟨t,hv,he,lt_cells (w:=W.drewN m) b1 hb,lt_cells (w:=W.drewN m) b2 hb,lt_cells (w:=W.drewN m) b3 hb,lt_cells (w:=W.drewN m) b4 hb,lt_cells (w:=W.drewN m) b5 hb,hb0.trans (hb.mono hb0.size)⟩
 have HW:Hid ((w.alloc (.cells #[.bool l,.bool z,.bool q,.int .i64 wd,.int .i64 (-1),.int .u8 104] 57)).alloc (.cells #[.bool true,.int .i64 n,.float .f64 f] 34)=W):=hW
 have HFT:Hid (Fits 104 (-1) ⟨true,n,f⟩):=by
  have hft:true=true↔Fits 104 (-1) ⟨true,n,f⟩:=by
   unfold Fits
   constructor
   ·intro _;exact .inr (.inl ⟨.inr rfl,rfl,rfl⟩)
   ·intro _;rfl
  exact hft.1 rfl
 rw[hP]at b1 b2 b3 b4 b5
 clear b0 hW hf
 go_enter Tryz.func23,Tryz.ntmps23
 go_wp2_with fail
 rw[HW.out]
 go_region_held3 (fun w'=>w'.cell? ⟨P,4,none⟩=some (.int .i64 (-1))∧w'.cell? ⟨P,5,none⟩=some (.int .u8 104)∧w'.cell? ⟨P+1,0,none⟩=some (.bool true)∧w'.cell? ⟨P+1,1,none⟩=some (.int .i64 n)∧w'.cell? ⟨P+1,2,none⟩=some (.float .f64 f)) (go_keep) (first|(go_at_call 46;refine(HX.out 1).mono ?_;rintro e w' ⟨t,HV,rfl,t0,t1,t2,t3,t4,HB⟩))
 all_goals go_wp2_with fail
 all_goals go_ret2
 all_goals exact⟨t,true,rfl,.inr (.inr (.inr (.inl ⟨rfl,HV.out⟩))),⟨fun _=>HFT.out,fun _=>rfl⟩,HB.out⟩
set_option maxHeartbeats 2000000 in
set_option maxRecDepth 100000 in
theorem numH_1(l z q:Bool)(wd pr n:Int)(f:Nat)(hf:f<18446744073709551616)(hpr:¬pr = -1)(w:World) :
  Calls Tryz.prog 23 #[.agg #[.bool l,.bool z,.bool q,.int .i64 wd,.int .i64 pr,.int .u8 104],.agg #[.bool true,.int .i64 n,.float .f64 f]] w fun e w'=>NumQ 104 pr ⟨true,n,f⟩ w e w':=by
 have hprb:(pr == -1)=false:=beq_eq_false_iff_ne.2 hpr
 obtain⟨P,hP⟩:∃P,w.heap.size=P:=⟨_,rfl⟩
 obtain⟨W,hW⟩:∃W,(w.alloc (.cells #[.bool l,.bool z,.bool q,.int .i64 wd,.int .i64 pr,.int .u8 104] 57)).alloc (.cells #[.bool true,.int .i64 n,.float .f64 f] 34)=W:=⟨_,rfl⟩
 obtain⟨b0,b1,b2,b3,b4,b5⟩:=two_boxes w l z q wd pr 104 true n f W hW
 have HX:Hid (∀m,Calls Tryz.prog 46 #[.float .f64 f] (W.drewN m) fun e w'=>∃t,Hid (hexV f t)∧e=.returned (.string t)∧w'.cell? ⟨P,4,none⟩=some (.int .i64 pr)∧w'.cell? ⟨P,5,none⟩=some (.int .u8 104)∧w'.cell? ⟨P+1,0,none⟩=some (.bool true)∧w'.cell? ⟨P+1,1,none⟩=some (.int .i64 n)∧w'.cell? ⟨P+1,2,none⟩=some (.float .f64 f)∧Hid (Below w.heap.size w w')):=fun m=>by
  have hsp:Calls Tryz.prog 46 #[.float .f64 f] (W.drewN m) fun e w'=>∃t,(hexV f t)∧e=.returned (.string t)∧Below (W.drewN m).heap.size (W.drewN m) w':=(specHex_any f hf (W.drewN m)).mono fun e w' ⟨t,a,b,c⟩=>⟨t,a,b,c⟩
  refine hsp.mono ?_
  rintro e w' ⟨t,hv,he,hb⟩
  rw[←hP]
  have hb0:=below_drewN b0 m
  exact⟨t,hv,he,lt_cells (w:=W.drewN m) b1 hb,lt_cells (w:=W.drewN m) b2 hb,lt_cells (w:=W.drewN m) b3 hb,lt_cells (w:=W.drewN m) b4 hb,lt_cells (w:=W.drewN m) b5 hb,hb0.trans (hb.mono hb0.size)⟩
 have HW:Hid ((w.alloc (.cells #[.bool l,.bool z,.bool q,.int .i64 wd,.int .i64 pr,.int .u8 104] 57)).alloc (.cells #[.bool true,.int .i64 n,.float .f64 f] 34)=W):=hW
 have HFT:Hid (¬Fits 104 pr ⟨true,n,f⟩):=by
  have hft:false=true↔Fits 104 pr ⟨true,n,f⟩:=by
   unfold Fits
   constructor
   ·intro h;cases h
   ·rintro(⟨h,_⟩|⟨_,h1,h2⟩|⟨h,_⟩|⟨h,_⟩)
    ·exact absurd h (by decide)
    ·first|exact absurd h2 hpr|exact absurd h1 (by simp)
    ·exact absurd h (by decide)
    ·exact absurd h (by decide)
  exact fun h=>by cases hft.2 h
 rw[hP]at b1 b2 b3 b4 b5
 clear b0 hW hf
 go_enter Tryz.func23,Tryz.ntmps23
 go_wp2_with fail
 rw[HW.out]
 go_region_held3 (fun w'=>w'.cell? ⟨P,4,none⟩=some (.int .i64 pr)∧w'.cell? ⟨P,5,none⟩=some (.int .u8 104)∧w'.cell? ⟨P+1,0,none⟩=some (.bool true)∧w'.cell? ⟨P+1,1,none⟩=some (.int .i64 n)∧w'.cell? ⟨P+1,2,none⟩=some (.float .f64 f)) (go_keep) (first|(go_at_call 46;refine(HX.out 1).mono ?_;rintro e w' ⟨t,HV,rfl,t0,t1,t2,t3,t4,HB⟩))
 all_goals go_wp2_with fail
 all_goals go_ret2
 all_goals exact⟨t,false,rfl,.inr (.inr (.inr (.inl ⟨rfl,HV.out⟩))),⟨(fun h=>by cases h),fun h=>absurd h HFT.out⟩,HB.out⟩
set_option maxHeartbeats 2000000 in
set_option maxRecDepth 100000 in
theorem numH_2(l z q:Bool)(wd pr n:Int)(f:Nat)(hf:f<18446744073709551616) (w:World) :
  Calls Tryz.prog 23 #[.agg #[.bool l,.bool z,.bool q,.int .i64 wd,.int .i64 pr,.int .u8 104],.agg #[.bool false,.int .i64 n,.float .f64 f]] w fun e w'=>NumQ 104 pr ⟨false,n,f⟩ w e w':=by
 obtain⟨P,hP⟩:∃P,w.heap.size=P:=⟨_,rfl⟩
 obtain⟨W,hW⟩:∃W,(w.alloc (.cells #[.bool l,.bool z,.bool q,.int .i64 wd,.int .i64 pr,.int .u8 104] 57)).alloc (.cells #[.bool false,.int .i64 n,.float .f64 f] 34)=W:=⟨_,rfl⟩
 obtain⟨b0,b1,b2,b3,b4,b5⟩:=two_boxes w l z q wd pr 104 false n f W hW
 have HX:Hid (∀m,Calls Tryz.prog 46 #[.float .f64 f] (W.drewN m) fun e w'=>∃t,Hid (hexV f t)∧e=.returned (.string t)∧w'.cell? ⟨P,4,none⟩=some (.int .i64 pr)∧w'.cell? ⟨P,5,none⟩=some (.int .u8 104)∧w'.cell? ⟨P+1,0,none⟩=some (.bool false)∧w'.cell? ⟨P+1,1,none⟩=some (.int .i64 n)∧w'.cell? ⟨P+1,2,none⟩=some (.float .f64 f)∧Hid (Below w.heap.size w w')):=fun m=>by
  have hsp:Calls Tryz.prog 46 #[.float .f64 f] (W.drewN m) fun e w'=>∃t,(hexV f t)∧e=.returned (.string t)∧Below (W.drewN m).heap.size (W.drewN m) w':=(specHex_any f hf (W.drewN m)).mono fun e w' ⟨t,a,b,c⟩=>⟨t,a,b,c⟩
  refine hsp.mono ?_
  rintro e w' ⟨t,hv,he,hb⟩
  rw[←hP]
  have hb0:=below_drewN b0 m
  exact⟨t,hv,he,lt_cells (w:=W.drewN m) b1 hb,lt_cells (w:=W.drewN m) b2 hb,lt_cells (w:=W.drewN m) b3 hb,lt_cells (w:=W.drewN m) b4 hb,lt_cells (w:=W.drewN m) b5 hb,hb0.trans (hb.mono hb0.size)⟩
 have HW:Hid ((w.alloc (.cells #[.bool l,.bool z,.bool q,.int .i64 wd,.int .i64 pr,.int .u8 104] 57)).alloc (.cells #[.bool false,.int .i64 n,.float .f64 f] 34)=W):=hW
 have HFT:Hid (¬Fits 104 pr ⟨false,n,f⟩):=by
  have hft:false=true↔Fits 104 pr ⟨false,n,f⟩:=by
   unfold Fits
   constructor
   ·intro h;cases h
   ·rintro(⟨h,_⟩|⟨_,h1,h2⟩|⟨h,_⟩|⟨h,_⟩)
    ·exact absurd h (by decide)
    ·first|exact absurd h2 hpr|exact absurd h1 (by simp)
    ·exact absurd h (by decide)
    ·exact absurd h (by decide)
  exact fun h=>by cases hft.2 h
 rw[hP]at b1 b2 b3 b4 b5
 clear b0 hW hf
 go_enter Tryz.func23,Tryz.ntmps23
 go_wp2_with fail
 rw[HW.out]
 refine wp_region_held_drew (S:=(fun w'=>w'.cell? ⟨P,4,none⟩=some (.int .i64 pr)∧w'.cell? ⟨P,5,none⟩=some (.int .u8 104)∧w'.cell? ⟨P+1,0,none⟩=some (.bool false)∧w'.cell? ⟨P+1,1,none⟩=some (.int .i64 n)∧w'.cell? ⟨P+1,2,none⟩=some (.float .f64 f))) (by kernel_rfl) ⟨b1,b2,b3,b4,b5⟩ (fun hHeld=>?_)
 refine tkH 0 ?v0 rfl ?_
 refine tkH 1 ?v1 rfl ?_ ?y1
 case y1=>(intro w' hSw;obtain⟨_,_,y3,y4,y5⟩:=hSw;go_simp;first|done|with_reducible rfl)
 refine tkH 3 ?v3 rfl ?_
 refine tkH 4 ?v4 rfl ?_ ?y4
 case y4=>(intro w' hSw;obtain⟨_,_,y3,y4,y5⟩:=hSw;go_simp;first|done|with_reducible rfl)
 refine rdH 2 rfl (fun K hK=>?_)
 go_simp
 refine(HX.out 1).mono ?_
 rintro e Y ⟨t,HV,rfl,t0,t1,t2,t3,t4,HB⟩
 dsimp only
 refine hK.out _ _ ⟨t0,t1,t2,t3,t4⟩ (fun hHeld=>?_)
 clear hK K
 refine nmH ?_
 refine tkH 5 ?v5 rfl ?_
 refine tkU 6 rfl ?_
 refine tkU 7 rfl ?_
 refine tkU 8 rfl ?_
 refine tkH 9 ?v9 rfl ?_
 refine rdH 10 rfl (fun K hK=>?_)
 go_simp
 refine hK.out _ _ ⟨t0,t1,t2,t3,t4⟩ (fun hHeld=>?_)
 clear hK K
 refine nmH ?_
 refine rdH 11 rfl (fun K hK=>?_)
 go_simp
 refine hK.out _ _ ⟨t0,t1,t2,t3,t4⟩ (fun hHeld=>?_)
 clear hK K
 refine nmH ?_
 refine wpAnyH_done (by kernel_rfl) ?_ _
 all_goals go_wp2_with fail
 all_goals go_ret2
 all_goals exact⟨t,false,rfl,.inr (.inr (.inr (.inl ⟨rfl,HV.out⟩))),⟨(fun h=>by cases h),fun h=>absurd h HFT.out⟩,HB.out⟩
set_option maxHeartbeats 2000000 in
set_option maxRecDepth 100000 in
theorem numE_0(l z q:Bool)(wd n:Int)(f:Nat)(hf:f<18446744073709551616) (w:World) :
  Calls Tryz.prog 23 #[.agg #[.bool l,.bool z,.bool q,.int .i64 wd,.int .i64 (-1),.int .u8 101],.agg #[.bool true,.int .i64 n,.float .f64 f]] w fun e w'=>NumQ 101 (-1) ⟨true,n,f⟩ w e w':=by
 obtain⟨P,hP⟩:∃P,w.heap.size=P:=⟨_,rfl⟩
 obtain⟨W,hW⟩:∃W,(w.alloc (.cells #[.bool l,.bool z,.bool q,.int .i64 wd,.int .i64 (-1),.int .u8 101] 57)).alloc (.cells #[.bool true,.int .i64 n,.float .f64 f] 34)=W:=⟨_,rfl⟩
 obtain⟨b0,b1,b2,b3,b4,b5⟩:=two_boxes w l z q wd (-1) 101 true n f W hW
 have HX:Hid (∀m,Calls Tryz.prog 47 #[.float .f64 f,.int .i64 (7)] (W.drewN m) fun e w'=>∃t,Hid (digitsV f (7) t)∧e=.returned (.string t)∧w'.cell? ⟨P,4,none⟩=some (.int .i64 (-1))∧w'.cell? ⟨P,5,none⟩=some (.int .u8 101)∧w'.cell? ⟨P+1,0,none⟩=some (.bool true)∧w'.cell? ⟨P+1,1,none⟩=some (.int .i64 n)∧w'.cell? ⟨P+1,2,none⟩=some (.float .f64 f)∧Hid (Below w.heap.size w w')):=fun m=>by
  have hsp:Calls Tryz.prog 47 #[.float .f64 f,.int .i64 (7)] (W.drewN m) fun e w'=>∃t,(digitsV f (7) t)∧e=.returned (.string t)∧Below (W.drewN m).heap.size (W.drewN m) w':=(specDigits5_any f hf (7) (W.drewN m)).mono fun e w' ⟨t,a,b,c⟩=>⟨t,a,b,c⟩
  skip
  refine hsp.mono ?_
  rintro e w' ⟨t,hv,he,hb⟩
  rw[←hP]
  have hb0:=below_drewN b0 m
  exact⟨t,hv,he,lt_cells (w:=W.drewN m) b1 hb,lt_cells (w:=W.drewN m) b2 hb,lt_cells (w:=W.drewN m) b3 hb,lt_cells (w:=W.drewN m) b4 hb,lt_cells (w:=W.drewN m) b5 hb,hb0.trans (hb.mono hb0.size)⟩
 have HW:Hid ((w.alloc (.cells #[.bool l,.bool z,.bool q,.int .i64 wd,.int .i64 (-1),.int .u8 101] 57)).alloc (.cells #[.bool true,.int .i64 n,.float .f64 f] 34)=W):=hW
 have HFT:Hid (Fits 101 (-1) ⟨true,n,f⟩):=.inr (.inr (.inl ⟨rfl,rfl,by decide⟩))
 rw[hP]at b1 b2 b3 b4 b5
 clear b0 hW hf
 go_enter Tryz.func23,Tryz.ntmps23
 go_wp2_with fail
 rw[HW.out]
 refine wp_region_held_drew (S:=(fun w'=>w'.cell? ⟨P,4,none⟩=some (.int .i64 (-1))∧w'.cell? ⟨P,5,none⟩=some (.int .u8 101)∧w'.cell? ⟨P+1,0,none⟩=some (.bool true)∧w'.cell? ⟨P+1,1,none⟩=some (.int .i64 n)∧w'.cell? ⟨P+1,2,none⟩=some (.float .f64 f))) (by kernel_rfl) ⟨b1,b2,b3,b4,b5⟩ (fun hHeld=>?_)
 refine tkH 0 ?v0 rfl ?_
 refine tkH 1 ?v1 rfl ?_ ?y1
 case y1=>(intro w' hSw;obtain⟨y1,y2,y3,y4,y5⟩:=hSw;go_simp;first|done|with_reducible rfl)
 refine tkH 2 ?v2 rfl ?_
 refine tkH 3 ?v3 rfl ?_
 refine tkH 5 ?v5 rfl ?_
 refine tkH 6 ?v6 rfl ?_ ?y6
 case y6=>(intro w' hSw;obtain⟨y1,y2,y3,y4,y5⟩:=hSw;go_simp;first|done|with_reducible rfl)
 refine rdH 4 rfl (fun K hK=>?_)
 go_simp
 refine(HX.out 1).mono ?_
 rintro e Y ⟨t,HV,rfl,t0,t1,t2,t3,t4,HB⟩
 dsimp only
 refine hK.out _ _ ⟨t0,t1,t2,t3,t4⟩ (fun hHeld=>?_)
 clear hK K
 refine nmH ?_
 refine tkH 7 ?v7 rfl ?_
 refine tkH 8 ?v8 rfl ?_
 refine tkH 9 ?v9 rfl ?_
 refine tkH 10 ?v10 rfl ?_
 refine rdH 11 rfl (fun K hK=>?_)
 go_simp
 refine hK.out _ _ ⟨t0,t1,t2,t3,t4⟩ (fun hHeld=>?_)
 clear hK K
 refine nmH ?_
 refine rdH 12 rfl (fun K hK=>?_)
 go_simp
 refine hK.out _ _ ⟨t0,t1,t2,t3,t4⟩ (fun hHeld=>?_)
 clear hK K
 refine nmH ?_
 refine wpAnyH_done (by kernel_rfl) ?_ _
 go_wp2_with fail
 go_ret2
 exact⟨t,true,rfl,.inr (.inr (.inr (.inr (.inl ⟨rfl,by rw[show prec6 (-1)=6 by unfold prec6;exact if_pos (by decide)];exact HV.out⟩)))),⟨fun _=>HFT.out,fun _=>rfl⟩,HB.out⟩
set_option maxHeartbeats 2000000 in
set_option maxRecDepth 100000 in
theorem numE_1(l z q:Bool)(wd pr n:Int)(f:Nat)(hf:f<18446744073709551616)(hp0:¬pr<0)(hp4:pr≤400)(hlt:pr<400)(w:World) :
  Calls Tryz.prog 23 #[.agg #[.bool l,.bool z,.bool q,.int .i64 wd,.int .i64 pr,.int .u8 101],.agg #[.bool true,.int .i64 n,.float .f64 f]] w fun e w'=>NumQ 101 pr ⟨true,n,f⟩ w e w':=by
 obtain⟨P,hP⟩:∃P,w.heap.size=P:=⟨_,rfl⟩
 obtain⟨W,hW⟩:∃W,(w.alloc (.cells #[.bool l,.bool z,.bool q,.int .i64 wd,.int .i64 pr,.int .u8 101] 57)).alloc (.cells #[.bool true,.int .i64 n,.float .f64 f] 34)=W:=⟨_,rfl⟩
 obtain⟨b0,b1,b2,b3,b4,b5⟩:=two_boxes w l z q wd pr 101 true n f W hW
 have HX:Hid (∀m,Calls Tryz.prog 47 #[.float .f64 f,.int .i64 (IntKind.i64.wrap (pr+1))] (W.drewN m) fun e w'=>∃t,Hid (digitsV f (pr+1) t)∧e=.returned (.string t)∧w'.cell? ⟨P,4,none⟩=some (.int .i64 pr)∧w'.cell? ⟨P,5,none⟩=some (.int .u8 101)∧w'.cell? ⟨P+1,0,none⟩=some (.bool true)∧w'.cell? ⟨P+1,1,none⟩=some (.int .i64 n)∧w'.cell? ⟨P+1,2,none⟩=some (.float .f64 f)∧Hid (Below w.heap.size w w')):=fun m=>by
  have hsp:Calls Tryz.prog 47 #[.float .f64 f,.int .i64 (pr+1)] (W.drewN m) fun e w'=>∃t,(digitsV f (pr+1) t)∧e=.returned (.string t)∧Below (W.drewN m).heap.size (W.drewN m) w':=(specDigits5_any f hf (pr+1) (W.drewN m)).mono fun e w' ⟨t,a,b,c⟩=>⟨t,a,b,c⟩
  rw[show IntKind.i64.wrap (pr+1)=pr+1 by rw[IntKind.wrap_i64];omega]
  refine hsp.mono ?_
  rintro e w' ⟨t,hv,he,hb⟩
  rw[←hP]
  have hb0:=below_drewN b0 m
  exact⟨t,hv,he,lt_cells (w:=W.drewN m) b1 hb,lt_cells (w:=W.drewN m) b2 hb,lt_cells (w:=W.drewN m) b3 hb,lt_cells (w:=W.drewN m) b4 hb,lt_cells (w:=W.drewN m) b5 hb,hb0.trans (hb.mono hb0.size)⟩
 have HW:Hid ((w.alloc (.cells #[.bool l,.bool z,.bool q,.int .i64 wd,.int .i64 pr,.int .u8 101] 57)).alloc (.cells #[.bool true,.int .i64 n,.float .f64 f] 34)=W):=hW
 have HFT:Hid (Fits 101 pr ⟨true,n,f⟩):=.inr (.inr (.inl ⟨rfl,rfl,hlt⟩))
 have hpd:decide (pr<0)=false:=decide_eq_false hp0
 have hp00:0≤pr:=by omega
 have hld:decide (pr<400)=true:=decide_eq_true hlt
 rw[hP]at b1 b2 b3 b4 b5
 clear b0 hW hf
 go_enter Tryz.func23,Tryz.ntmps23
 go_wp2_with fail
 rw[HW.out]
 refine wp_region_held_drew (S:=(fun w'=>w'.cell? ⟨P,4,none⟩=some (.int .i64 pr)∧w'.cell? ⟨P,5,none⟩=some (.int .u8 101)∧w'.cell? ⟨P+1,0,none⟩=some (.bool true)∧w'.cell? ⟨P+1,1,none⟩=some (.int .i64 n)∧w'.cell? ⟨P+1,2,none⟩=some (.float .f64 f))) (by kernel_rfl) ⟨b1,b2,b3,b4,b5⟩ (fun hHeld=>?_)
 refine tkH 0 ?v0 rfl ?_
 refine tkH 1 ?v1 rfl ?_ ?y1
 case y1=>(intro w' hSw;obtain⟨y1,y2,y3,y4,y5⟩:=hSw;go_simp;first|done|with_reducible rfl)
 refine tkH 2 ?v2 rfl ?_
 refine tkH 3 ?v3 rfl ?_
 refine tkH 5 ?v5 rfl ?_
 refine tkH 6 ?v6 rfl ?_ ?y6
 case y6=>(intro w' hSw;obtain⟨y1,y2,y3,y4,y5⟩:=hSw;go_simp;first|done|with_reducible rfl)
 refine rdH 4 rfl (fun K hK=>?_)
 go_simp
 refine(HX.out 1).mono ?_
 rintro e Y ⟨t,HV,rfl,t0,t1,t2,t3,t4,HB⟩
 dsimp only
 refine hK.out _ _ ⟨t0,t1,t2,t3,t4⟩ (fun hHeld=>?_)
 clear hK K
 refine nmH ?_
 refine tkH 7 ?v7 rfl ?_
 refine tkH 8 ?v8 rfl ?_
 refine tkH 9 ?v9 rfl ?_
 refine tkH 10 ?v10 rfl ?_
 refine rdH 11 rfl (fun K hK=>?_)
 go_simp
 refine hK.out _ _ ⟨t0,t1,t2,t3,t4⟩ (fun hHeld=>?_)
 clear hK K
 refine nmH ?_
 refine rdH 12 rfl (fun K hK=>?_)
 go_simp
 refine hK.out _ _ ⟨t0,t1,t2,t3,t4⟩ (fun hHeld=>?_)
 clear hK K
 refine nmH ?_
 refine wpAnyH_done (by kernel_rfl) ?_ _
 go_wp2_with fail
 go_ret2
 exact⟨t,true,rfl,.inr (.inr (.inr (.inr (.inl ⟨rfl,by rw[show prec6 pr=pr by unfold prec6;exact if_neg (by omega)];exact HV.out⟩)))),⟨fun _=>HFT.out,fun _=>rfl⟩,HB.out⟩
set_option maxHeartbeats 2000000 in
set_option maxRecDepth 100000 in
theorem numE_2(l z q:Bool)(wd pr n:Int)(f:Nat)(hf:f<18446744073709551616)(hp0:¬pr<0)(hp4:pr≤400)(hlt:¬pr<400)(w:World) :
  Calls Tryz.prog 23 #[.agg #[.bool l,.bool z,.bool q,.int .i64 wd,.int .i64 pr,.int .u8 101],.agg #[.bool true,.int .i64 n,.float .f64 f]] w fun e w'=>NumQ 101 pr ⟨true,n,f⟩ w e w':=by
 obtain⟨P,hP⟩:∃P,w.heap.size=P:=⟨_,rfl⟩
 obtain⟨W,hW⟩:∃W,(w.alloc (.cells #[.bool l,.bool z,.bool q,.int .i64 wd,.int .i64 pr,.int .u8 101] 57)).alloc (.cells #[.bool true,.int .i64 n,.float .f64 f] 34)=W:=⟨_,rfl⟩
 obtain⟨b0,b1,b2,b3,b4,b5⟩:=two_boxes w l z q wd pr 101 true n f W hW
 have HX:Hid (∀m,Calls Tryz.prog 47 #[.float .f64 f,.int .i64 (IntKind.i64.wrap (pr+1))] (W.drewN m) fun e w'=>∃t,Hid (digitsV f (pr+1) t)∧e=.returned (.string t)∧w'.cell? ⟨P,4,none⟩=some (.int .i64 pr)∧w'.cell? ⟨P,5,none⟩=some (.int .u8 101)∧w'.cell? ⟨P+1,0,none⟩=some (.bool true)∧w'.cell? ⟨P+1,1,none⟩=some (.int .i64 n)∧w'.cell? ⟨P+1,2,none⟩=some (.float .f64 f)∧Hid (Below w.heap.size w w')):=fun m=>by
  have hsp:Calls Tryz.prog 47 #[.float .f64 f,.int .i64 (pr+1)] (W.drewN m) fun e w'=>∃t,(digitsV f (pr+1) t)∧e=.returned (.string t)∧Below (W.drewN m).heap.size (W.drewN m) w':=(specDigits5_any f hf (pr+1) (W.drewN m)).mono fun e w' ⟨t,a,b,c⟩=>⟨t,a,b,c⟩
  rw[show IntKind.i64.wrap (pr+1)=pr+1 by rw[IntKind.wrap_i64];omega]
  refine hsp.mono ?_
  rintro e w' ⟨t,hv,he,hb⟩
  rw[←hP]
  have hb0:=below_drewN b0 m
  exact⟨t,hv,he,lt_cells (w:=W.drewN m) b1 hb,lt_cells (w:=W.drewN m) b2 hb,lt_cells (w:=W.drewN m) b3 hb,lt_cells (w:=W.drewN m) b4 hb,lt_cells (w:=W.drewN m) b5 hb,hb0.trans (hb.mono hb0.size)⟩
 have HW:Hid ((w.alloc (.cells #[.bool l,.bool z,.bool q,.int .i64 wd,.int .i64 pr,.int .u8 101] 57)).alloc (.cells #[.bool true,.int .i64 n,.float .f64 f] 34)=W):=hW
 have HFT:Hid (¬Fits 101 pr ⟨true,n,f⟩):=by
  unfold Fits
  rintro(⟨h|h,_⟩|⟨h|h,_⟩|⟨_,h1,h2⟩|⟨h,_⟩)
  ·exact absurd h (by decide)
  ·exact absurd h (by decide)
  ·exact absurd h (by decide)
  ·exact absurd h (by decide)
  ·first|omega|exact absurd h1 (by simp)
  ·exact absurd h (by decide)
 have hpd:decide (pr<0)=false:=decide_eq_false hp0
 have hp00:0≤pr:=by omega
 have hld:decide (pr<400)=false:=decide_eq_false hlt
 rw[hP]at b1 b2 b3 b4 b5
 clear b0 hW hf
 go_enter Tryz.func23,Tryz.ntmps23
 go_wp2_with fail
 rw[HW.out]
 refine wp_region_held_drew (S:=(fun w'=>w'.cell? ⟨P,4,none⟩=some (.int .i64 pr)∧w'.cell? ⟨P,5,none⟩=some (.int .u8 101)∧w'.cell? ⟨P+1,0,none⟩=some (.bool true)∧w'.cell? ⟨P+1,1,none⟩=some (.int .i64 n)∧w'.cell? ⟨P+1,2,none⟩=some (.float .f64 f))) (by kernel_rfl) ⟨b1,b2,b3,b4,b5⟩ (fun hHeld=>?_)
 refine tkH 0 ?v0 rfl ?_
 refine tkH 1 ?v1 rfl ?_ ?y1
 case y1=>(intro w' hSw;obtain⟨y1,y2,y3,y4,y5⟩:=hSw;go_simp;first|done|with_reducible rfl)
 refine tkH 2 ?v2 rfl ?_
 refine tkH 3 ?v3 rfl ?_
 refine tkH 5 ?v5 rfl ?_
 refine tkH 6 ?v6 rfl ?_ ?y6
 case y6=>(intro w' hSw;obtain⟨y1,y2,y3,y4,y5⟩:=hSw;go_simp;first|done|with_reducible rfl)
 refine rdH 4 rfl (fun K hK=>?_)
 go_simp
 refine(HX.out 1).mono ?_
 rintro e Y ⟨t,HV,rfl,t0,t1,t2,t3,t4,HB⟩
 dsimp only
 refine hK.out _ _ ⟨t0,t1,t2,t3,t4⟩ (fun hHeld=>?_)
 clear hK K
 refine nmH ?_
 refine tkH 7 ?v7 rfl ?_
 refine tkH 8 ?v8 rfl ?_
 refine tkH 9 ?v9 rfl ?_
 refine tkH 10 ?v10 rfl ?_
 refine rdH 11 rfl (fun K hK=>?_)
 go_simp
 refine hK.out _ _ ⟨t0,t1,t2,t3,t4⟩ (fun hHeld=>?_)
 clear hK K
 refine nmH ?_
 refine rdH 12 rfl (fun K hK=>?_)
 go_simp
 refine hK.out _ _ ⟨t0,t1,t2,t3,t4⟩ (fun hHeld=>?_)
 clear hK K
 refine nmH ?_
 refine wpAnyH_done (by kernel_rfl) ?_ _
 go_wp2_with fail
 go_ret2
 exact⟨t,false,rfl,.inr (.inr (.inr (.inr (.inl ⟨rfl,by rw[show prec6 pr=pr by unfold prec6;exact if_neg (by omega)];exact HV.out⟩)))),⟨(fun h=>by cases h),fun h=>absurd h HFT.out⟩,HB.out⟩
set_option maxHeartbeats 2000000 in
set_option maxRecDepth 100000 in
theorem numE_3(l z q:Bool)(wd n:Int)(f:Nat)(hf:f<18446744073709551616) (w:World) :
  Calls Tryz.prog 23 #[.agg #[.bool l,.bool z,.bool q,.int .i64 wd,.int .i64 (-1),.int .u8 101],.agg #[.bool false,.int .i64 n,.float .f64 f]] w fun e w'=>NumQ 101 (-1) ⟨false,n,f⟩ w e w':=by
 obtain⟨P,hP⟩:∃P,w.heap.size=P:=⟨_,rfl⟩
 obtain⟨W,hW⟩:∃W,(w.alloc (.cells #[.bool l,.bool z,.bool q,.int .i64 wd,.int .i64 (-1),.int .u8 101] 57)).alloc (.cells #[.bool false,.int .i64 n,.float .f64 f] 34)=W:=⟨_,rfl⟩
 obtain⟨b0,b1,b2,b3,b4,b5⟩:=two_boxes w l z q wd (-1) 101 false n f W hW
 have HX:Hid (∀m,Calls Tryz.prog 47 #[.float .f64 f,.int .i64 (7)] (W.drewN m) fun e w'=>∃t,Hid (digitsV f (7) t)∧e=.returned (.string t)∧w'.cell? ⟨P,4,none⟩=some (.int .i64 (-1))∧w'.cell? ⟨P,5,none⟩=some (.int .u8 101)∧w'.cell? ⟨P+1,0,none⟩=some (.bool false)∧w'.cell? ⟨P+1,1,none⟩=some (.int .i64 n)∧w'.cell? ⟨P+1,2,none⟩=some (.float .f64 f)∧Hid (Below w.heap.size w w')):=fun m=>by
  have hsp:Calls Tryz.prog 47 #[.float .f64 f,.int .i64 (7)] (W.drewN m) fun e w'=>∃t,(digitsV f (7) t)∧e=.returned (.string t)∧Below (W.drewN m).heap.size (W.drewN m) w':=(specDigits5_any f hf (7) (W.drewN m)).mono fun e w' ⟨t,a,b,c⟩=>⟨t,a,b,c⟩
  skip
  refine hsp.mono ?_
  rintro e w' ⟨t,hv,he,hb⟩
  rw[←hP]
  have hb0:=below_drewN b0 m
  exact⟨t,hv,he,lt_cells (w:=W.drewN m) b1 hb,lt_cells (w:=W.drewN m) b2 hb,lt_cells (w:=W.drewN m) b3 hb,lt_cells (w:=W.drewN m) b4 hb,lt_cells (w:=W.drewN m) b5 hb,hb0.trans (hb.mono hb0.size)⟩
 have HW:Hid ((w.alloc (.cells #[.bool l,.bool z,.bool q,.int .i64 wd,.int .i64 (-1),.int .u8 101] 57)).alloc (.cells #[.bool false,.int .i64 n,.float .f64 f] 34)=W):=hW
 have HFT:Hid (¬Fits 101 (-1) ⟨false,n,f⟩):=by
  unfold Fits
  rintro(⟨h|h,_⟩|⟨h|h,_⟩|⟨_,h1,h2⟩|⟨h,_⟩)
  ·exact absurd h (by decide)
  ·exact absurd h (by decide)
  ·exact absurd h (by decide)
  ·exact absurd h (by decide)
  ·first|omega|exact absurd h1 (by simp)
  ·exact absurd h (by decide)
 rw[hP]at b1 b2 b3 b4 b5
 clear b0 hW hf
 go_enter Tryz.func23,Tryz.ntmps23
 go_wp2_with fail
 rw[HW.out]
 refine wp_region_held_drew (S:=(fun w'=>w'.cell? ⟨P,4,none⟩=some (.int .i64 (-1))∧w'.cell? ⟨P,5,none⟩=some (.int .u8 101)∧w'.cell? ⟨P+1,0,none⟩=some (.bool false)∧w'.cell? ⟨P+1,1,none⟩=some (.int .i64 n)∧w'.cell? ⟨P+1,2,none⟩=some (.float .f64 f))) (by kernel_rfl) ⟨b1,b2,b3,b4,b5⟩ (fun hHeld=>?_)
 refine tkH 0 ?v0 rfl ?_
 refine tkH 1 ?v1 rfl ?_ ?y1
 case y1=>(intro w' hSw;obtain⟨y1,y2,y3,y4,y5⟩:=hSw;go_simp;first|done|with_reducible rfl)
 refine tkH 2 ?v2 rfl ?_
 refine tkH 3 ?v3 rfl ?_
 refine tkH 5 ?v5 rfl ?_
 refine tkH 6 ?v6 rfl ?_ ?y6
 case y6=>(intro w' hSw;obtain⟨y1,y2,y3,y4,y5⟩:=hSw;go_simp;first|done|with_reducible rfl)
 refine rdH 4 rfl (fun K hK=>?_)
 go_simp
 refine(HX.out 1).mono ?_
 rintro e Y ⟨t,HV,rfl,t0,t1,t2,t3,t4,HB⟩
 dsimp only
 refine hK.out _ _ ⟨t0,t1,t2,t3,t4⟩ (fun hHeld=>?_)
 clear hK K
 refine nmH ?_
 refine tkH 7 ?v7 rfl ?_
 refine tkU 8 rfl ?_
 refine tkU 9 rfl ?_
 refine tkH 10 ?v10 rfl ?_
 refine rdH 11 rfl (fun K hK=>?_)
 go_simp
 refine hK.out _ _ ⟨t0,t1,t2,t3,t4⟩ (fun hHeld=>?_)
 clear hK K
 refine nmH ?_
 refine rdH 12 rfl (fun K hK=>?_)
 go_simp
 refine hK.out _ _ ⟨t0,t1,t2,t3,t4⟩ (fun hHeld=>?_)
 clear hK K
 refine nmH ?_
 refine wpAnyH_done (by kernel_rfl) ?_ _
 go_wp2_with fail
 go_ret2
 exact⟨t,false,rfl,.inr (.inr (.inr (.inr (.inl ⟨rfl,by rw[show prec6 (-1)=6 by unfold prec6;exact if_pos (by decide)];exact HV.out⟩)))),⟨(fun h=>by cases h),fun h=>absurd h HFT.out⟩,HB.out⟩
set_option maxHeartbeats 2000000 in
set_option maxRecDepth 100000 in
theorem numE_4(l z q:Bool)(wd pr n:Int)(f:Nat)(hf:f<18446744073709551616)(hp0:¬pr<0)(hp4:pr≤400)(w:World) :
  Calls Tryz.prog 23 #[.agg #[.bool l,.bool z,.bool q,.int .i64 wd,.int .i64 pr,.int .u8 101],.agg #[.bool false,.int .i64 n,.float .f64 f]] w fun e w'=>NumQ 101 pr ⟨false,n,f⟩ w e w':=by
 obtain⟨P,hP⟩:∃P,w.heap.size=P:=⟨_,rfl⟩
 obtain⟨W,hW⟩:∃W,(w.alloc (.cells #[.bool l,.bool z,.bool q,.int .i64 wd,.int .i64 pr,.int .u8 101] 57)).alloc (.cells #[.bool false,.int .i64 n,.float .f64 f] 34)=W:=⟨_,rfl⟩
 obtain⟨b0,b1,b2,b3,b4,b5⟩:=two_boxes w l z q wd pr 101 false n f W hW
 have HX:Hid (∀m,Calls Tryz.prog 47 #[.float .f64 f,.int .i64 (IntKind.i64.wrap (pr+1))] (W.drewN m) fun e w'=>∃t,Hid (digitsV f (pr+1) t)∧e=.returned (.string t)∧w'.cell? ⟨P,4,none⟩=some (.int .i64 pr)∧w'.cell? ⟨P,5,none⟩=some (.int .u8 101)∧w'.cell? ⟨P+1,0,none⟩=some (.bool false)∧w'.cell? ⟨P+1,1,none⟩=some (.int .i64 n)∧w'.cell? ⟨P+1,2,none⟩=some (.float .f64 f)∧Hid (Below w.heap.size w w')):=fun m=>by
  have hsp:Calls Tryz.prog 47 #[.float .f64 f,.int .i64 (pr+1)] (W.drewN m) fun e w'=>∃t,(digitsV f (pr+1) t)∧e=.returned (.string t)∧Below (W.drewN m).heap.size (W.drewN m) w':=(specDigits5_any f hf (pr+1) (W.drewN m)).mono fun e w' ⟨t,a,b,c⟩=>⟨t,a,b,c⟩
  rw[show IntKind.i64.wrap (pr+1)=pr+1 by rw[IntKind.wrap_i64];omega]
  refine hsp.mono ?_
  rintro e w' ⟨t,hv,he,hb⟩
  rw[←hP]
  have hb0:=below_drewN b0 m
  exact⟨t,hv,he,lt_cells (w:=W.drewN m) b1 hb,lt_cells (w:=W.drewN m) b2 hb,lt_cells (w:=W.drewN m) b3 hb,lt_cells (w:=W.drewN m) b4 hb,lt_cells (w:=W.drewN m) b5 hb,hb0.trans (hb.mono hb0.size)⟩
 have HW:Hid ((w.alloc (.cells #[.bool l,.bool z,.bool q,.int .i64 wd,.int .i64 pr,.int .u8 101] 57)).alloc (.cells #[.bool false,.int .i64 n,.float .f64 f] 34)=W):=hW
 have HFT:Hid (¬Fits 101 pr ⟨false,n,f⟩):=by
  unfold Fits
  rintro(⟨h|h,_⟩|⟨h|h,_⟩|⟨_,h1,h2⟩|⟨h,_⟩)
  ·exact absurd h (by decide)
  ·exact absurd h (by decide)
  ·exact absurd h (by decide)
  ·exact absurd h (by decide)
  ·first|omega|exact absurd h1 (by simp)
  ·exact absurd h (by decide)
 have hpd:decide (pr<0)=false:=decide_eq_false hp0
 have hp00:0≤pr:=by omega
 rw[hP]at b1 b2 b3 b4 b5
 clear b0 hW hf
 go_enter Tryz.func23,Tryz.ntmps23
 go_wp2_with fail
 rw[HW.out]
 refine wp_region_held_drew (S:=(fun w'=>w'.cell? ⟨P,4,none⟩=some (.int .i64 pr)∧w'.cell? ⟨P,5,none⟩=some (.int .u8 101)∧w'.cell? ⟨P+1,0,none⟩=some (.bool false)∧w'.cell? ⟨P+1,1,none⟩=some (.int .i64 n)∧w'.cell? ⟨P+1,2,none⟩=some (.float .f64 f))) (by kernel_rfl) ⟨b1,b2,b3,b4,b5⟩ (fun hHeld=>?_)
 refine tkH 0 ?v0 rfl ?_
 refine tkH 1 ?v1 rfl ?_ ?y1
 case y1=>(intro w' hSw;obtain⟨y1,y2,y3,y4,y5⟩:=hSw;go_simp;first|done|with_reducible rfl)
 refine tkH 2 ?v2 rfl ?_
 refine tkH 3 ?v3 rfl ?_
 refine tkH 5 ?v5 rfl ?_
 refine tkH 6 ?v6 rfl ?_ ?y6
 case y6=>(intro w' hSw;obtain⟨y1,y2,y3,y4,y5⟩:=hSw;go_simp;first|done|with_reducible rfl)
 refine rdH 4 rfl (fun K hK=>?_)
 go_simp
 refine(HX.out 1).mono ?_
 rintro e Y ⟨t,HV,rfl,t0,t1,t2,t3,t4,HB⟩
 dsimp only
 refine hK.out _ _ ⟨t0,t1,t2,t3,t4⟩ (fun hHeld=>?_)
 clear hK K
 refine nmH ?_
 refine tkH 7 ?v7 rfl ?_
 refine tkU 8 rfl ?_
 refine tkU 9 rfl ?_
 refine tkH 10 ?v10 rfl ?_
 refine rdH 11 rfl (fun K hK=>?_)
 go_simp
 refine hK.out _ _ ⟨t0,t1,t2,t3,t4⟩ (fun hHeld=>?_)
 clear hK K
 refine nmH ?_
 refine rdH 12 rfl (fun K hK=>?_)
 go_simp
 refine hK.out _ _ ⟨t0,t1,t2,t3,t4⟩ (fun hHeld=>?_)
 clear hK K
 refine nmH ?_
 refine wpAnyH_done (by kernel_rfl) ?_ _
 go_wp2_with fail
 go_ret2
 exact⟨t,false,rfl,.inr (.inr (.inr (.inr (.inl ⟨rfl,by rw[show prec6 pr=pr by unfold prec6;exact if_neg (by omega)];exact HV.out⟩)))),⟨(fun h=>by cases h),fun h=>absurd h HFT.out⟩,HB.out⟩
set_option maxHeartbeats 2000000 in
set_option maxRecDepth 100000 in
theorem numF_0(l z q:Bool)(wd n:Int)(f:Nat)(hf:f<18446744073709551616) (w:World) :
  Calls Tryz.prog 23 #[.agg #[.bool l,.bool z,.bool q,.int .i64 wd,.int .i64 (-1),.int .u8 102],.agg #[.bool true,.int .i64 n,.float .f64 f]] w fun e w'=>NumQ 102 (-1) ⟨true,n,f⟩ w e w':=by
 obtain⟨P,hP⟩:∃P,w.heap.size=P:=⟨_,rfl⟩
 obtain⟨W,hW⟩:∃W,(w.alloc (.cells #[.bool l,.bool z,.bool q,.int .i64 wd,.int .i64 (-1),.int .u8 102] 57)).alloc (.cells #[.bool true,.int .i64 n,.float .f64 f] 34)=W:=⟨_,rfl⟩
 obtain⟨b0,b1,b2,b3,b4,b5⟩:=two_boxes w l z q wd (-1) 102 true n f W hW
 have HX:Hid (∀m,Calls Tryz.prog 48 #[.float .f64 f,.int .i64 (6)] (W.drewN m) fun e w'=>∃t,Hid (fixedV f (6) t)∧e=.returned (.string t)∧w'.cell? ⟨P,4,none⟩=some (.int .i64 (-1))∧w'.cell? ⟨P,5,none⟩=some (.int .u8 102)∧w'.cell? ⟨P+1,0,none⟩=some (.bool true)∧w'.cell? ⟨P+1,1,none⟩=some (.int .i64 n)∧w'.cell? ⟨P+1,2,none⟩=some (.float .f64 f)∧Hid (Below w.heap.size w w')):=fun m=>by
  have hsp:Calls Tryz.prog 48 #[.float .f64 f,.int .i64 (6)] (W.drewN m) fun e w'=>∃t,(fixedV f (6) t)∧e=.returned (.string t)∧Below (W.drewN m).heap.size (W.drewN m) w':=(specFixed_any f hf (6) (W.drewN m)).mono fun e w' ⟨t,a,_,b,c⟩=>⟨t,a,b,c⟩
  skip
  refine hsp.mono ?_
  rintro e w' ⟨t,hv,he,hb⟩
  rw[←hP]
  have hb0:=below_drewN b0 m
  exact⟨t,hv,he,lt_cells (w:=W.drewN m) b1 hb,lt_cells (w:=W.drewN m) b2 hb,lt_cells (w:=W.drewN m) b3 hb,lt_cells (w:=W.drewN m) b4 hb,lt_cells (w:=W.drewN m) b5 hb,hb0.trans (hb.mono hb0.size)⟩
 have HW:Hid ((w.alloc (.cells #[.bool l,.bool z,.bool q,.int .i64 wd,.int .i64 (-1),.int .u8 102] 57)).alloc (.cells #[.bool true,.int .i64 n,.float .f64 f] 34)=W):=hW
 have HFT:Hid (Fits 102 (-1) ⟨true,n,f⟩):=.inr (.inr (.inr ⟨rfl,rfl⟩))
 rw[hP]at b1 b2 b3 b4 b5
 clear b0 hW hf
 go_enter Tryz.func23,Tryz.ntmps23
 go_wp2_with fail
 rw[HW.out]
 refine wp_region_held_drew (S:=(fun w'=>w'.cell? ⟨P,4,none⟩=some (.int .i64 (-1))∧w'.cell? ⟨P,5,none⟩=some (.int .u8 102)∧w'.cell? ⟨P+1,0,none⟩=some (.bool true)∧w'.cell? ⟨P+1,1,none⟩=some (.int .i64 n)∧w'.cell? ⟨P+1,2,none⟩=some (.float .f64 f))) (by kernel_rfl) ⟨b1,b2,b3,b4,b5⟩ (fun hHeld=>?_)
 refine tkH 0 ?v0 rfl ?_
 refine tkH 1 ?v1 rfl ?_ ?y1
 case y1=>(intro w' hSw;obtain⟨y1,y2,y3,y4,y5⟩:=hSw;go_simp;first|done|with_reducible rfl)
 refine tkH 2 ?v2 rfl ?_
 refine tkH 4 ?v4 rfl ?_
 refine tkH 5 ?v5 rfl ?_ ?y5
 case y5=>(intro w' hSw;obtain⟨y1,y2,y3,y4,y5⟩:=hSw;go_simp;first|done|with_reducible rfl)
 refine rdH 3 rfl (fun K hK=>?_)
 go_simp
 refine(HX.out 1).mono ?_
 rintro e Y ⟨t,HV,rfl,t0,t1,t2,t3,t4,HB⟩
 dsimp only
 refine hK.out _ _ ⟨t0,t1,t2,t3,t4⟩ (fun hHeld=>?_)
 clear hK K
 refine nmH ?_
 refine tkH 6 ?v6 rfl ?_
 refine tkH 7 ?v7 rfl ?_
 refine tkH 8 ?v8 rfl ?_ ?y8
 case y8=>(intro w' hSw;obtain⟨y1,y2,y3,y4,y5⟩:=hSw;go_simp;first|done|with_reducible rfl)
 refine tkH 9 ?v9 rfl ?_
 refine tkH 10 ?v10 rfl ?_
 refine rdH 11 rfl (fun K hK=>?_)
 go_simp
 refine hK.out _ _ ⟨t0,t1,t2,t3,t4⟩ (fun hHeld=>?_)
 clear hK K
 refine nmH ?_
 refine rdH 12 rfl (fun K hK=>?_)
 go_simp
 refine hK.out _ _ ⟨t0,t1,t2,t3,t4⟩ (fun hHeld=>?_)
 clear hK K
 refine nmH ?_
 refine wpAnyH_done (by kernel_rfl) ?_ _
 go_wp2_with fail
 go_ret2
 exact⟨t,true,rfl,.inr (.inr (.inr (.inr (.inr ⟨rfl,by rw[show prec6 (-1)=6 by unfold prec6;exact if_pos (by decide)];exact HV.out⟩)))),⟨fun _=>HFT.out,fun _=>rfl⟩,HB.out⟩
set_option maxHeartbeats 2000000 in
set_option maxRecDepth 100000 in
theorem numF_1(l z q:Bool)(wd pr n:Int)(f:Nat)(hf:f<18446744073709551616)(hp0:¬pr<0)(hp4:pr≤400)(w:World) :
  Calls Tryz.prog 23 #[.agg #[.bool l,.bool z,.bool q,.int .i64 wd,.int .i64 pr,.int .u8 102],.agg #[.bool true,.int .i64 n,.float .f64 f]] w fun e w'=>NumQ 102 pr ⟨true,n,f⟩ w e w':=by
 obtain⟨P,hP⟩:∃P,w.heap.size=P:=⟨_,rfl⟩
 obtain⟨W,hW⟩:∃W,(w.alloc (.cells #[.bool l,.bool z,.bool q,.int .i64 wd,.int .i64 pr,.int .u8 102] 57)).alloc (.cells #[.bool true,.int .i64 n,.float .f64 f] 34)=W:=⟨_,rfl⟩
 obtain⟨b0,b1,b2,b3,b4,b5⟩:=two_boxes w l z q wd pr 102 true n f W hW
 have HX:Hid (∀m,Calls Tryz.prog 48 #[.float .f64 f,.int .i64 (pr)] (W.drewN m) fun e w'=>∃t,Hid (fixedV f (pr) t)∧e=.returned (.string t)∧w'.cell? ⟨P,4,none⟩=some (.int .i64 pr)∧w'.cell? ⟨P,5,none⟩=some (.int .u8 102)∧w'.cell? ⟨P+1,0,none⟩=some (.bool true)∧w'.cell? ⟨P+1,1,none⟩=some (.int .i64 n)∧w'.cell? ⟨P+1,2,none⟩=some (.float .f64 f)∧Hid (Below w.heap.size w w')):=fun m=>by
  have hsp:Calls Tryz.prog 48 #[.float .f64 f,.int .i64 (pr)] (W.drewN m) fun e w'=>∃t,(fixedV f (pr) t)∧e=.returned (.string t)∧Below (W.drewN m).heap.size (W.drewN m) w':=(specFixed_any f hf (pr) (W.drewN m)).mono fun e w' ⟨t,a,_,b,c⟩=>⟨t,a,b,c⟩
  skip
  refine hsp.mono ?_
  rintro e w' ⟨t,hv,he,hb⟩
  rw[←hP]
  have hb0:=below_drewN b0 m
  exact⟨t,hv,he,lt_cells (w:=W.drewN m) b1 hb,lt_cells (w:=W.drewN m) b2 hb,lt_cells (w:=W.drewN m) b3 hb,lt_cells (w:=W.drewN m) b4 hb,lt_cells (w:=W.drewN m) b5 hb,hb0.trans (hb.mono hb0.size)⟩
 have HW:Hid ((w.alloc (.cells #[.bool l,.bool z,.bool q,.int .i64 wd,.int .i64 pr,.int .u8 102] 57)).alloc (.cells #[.bool true,.int .i64 n,.float .f64 f] 34)=W):=hW
 have HFT:Hid (Fits 102 pr ⟨true,n,f⟩):=.inr (.inr (.inr ⟨rfl,rfl⟩))
 have hpd:decide (pr<0)=false:=decide_eq_false hp0
 have hp00:0≤pr:=by omega
 rw[hP]at b1 b2 b3 b4 b5
 clear b0 hW hf
 go_enter Tryz.func23,Tryz.ntmps23
 go_wp2_with fail
 rw[HW.out]
 refine wp_region_held_drew (S:=(fun w'=>w'.cell? ⟨P,4,none⟩=some (.int .i64 pr)∧w'.cell? ⟨P,5,none⟩=some (.int .u8 102)∧w'.cell? ⟨P+1,0,none⟩=some (.bool true)∧w'.cell? ⟨P+1,1,none⟩=some (.int .i64 n)∧w'.cell? ⟨P+1,2,none⟩=some (.float .f64 f))) (by kernel_rfl) ⟨b1,b2,b3,b4,b5⟩ (fun hHeld=>?_)
 refine tkH 0 ?v0 rfl ?_
 refine tkH 1 ?v1 rfl ?_ ?y1
 case y1=>(intro w' hSw;obtain⟨y1,y2,y3,y4,y5⟩:=hSw;go_simp;first|done|with_reducible rfl)
 refine tkH 2 ?v2 rfl ?_
 refine tkH 4 ?v4 rfl ?_
 refine tkH 5 ?v5 rfl ?_ ?y5
 case y5=>(intro w' hSw;obtain⟨y1,y2,y3,y4,y5⟩:=hSw;go_simp;first|done|with_reducible rfl)
 refine rdH 3 rfl (fun K hK=>?_)
 go_simp
 refine(HX.out 1).mono ?_
 rintro e Y ⟨t,HV,rfl,t0,t1,t2,t3,t4,HB⟩
 dsimp only
 refine hK.out _ _ ⟨t0,t1,t2,t3,t4⟩ (fun hHeld=>?_)
 clear hK K
 refine nmH ?_
 refine tkH 6 ?v6 rfl ?_
 refine tkH 7 ?v7 rfl ?_
 refine tkH 8 ?v8 rfl ?_ ?y8
 case y8=>(intro w' hSw;obtain⟨y1,y2,y3,y4,y5⟩:=hSw;go_simp;first|done|with_reducible rfl)
 refine tkH 9 ?v9 rfl ?_
 refine tkH 10 ?v10 rfl ?_
 refine rdH 11 rfl (fun K hK=>?_)
 go_simp
 refine hK.out _ _ ⟨t0,t1,t2,t3,t4⟩ (fun hHeld=>?_)
 clear hK K
 refine nmH ?_
 refine rdH 12 rfl (fun K hK=>?_)
 go_simp
 refine hK.out _ _ ⟨t0,t1,t2,t3,t4⟩ (fun hHeld=>?_)
 clear hK K
 refine nmH ?_
 refine wpAnyH_done (by kernel_rfl) ?_ _
 go_wp2_with fail
 go_ret2
 exact⟨t,true,rfl,.inr (.inr (.inr (.inr (.inr ⟨rfl,by rw[show prec6 pr=pr by unfold prec6;exact if_neg (by omega)];exact HV.out⟩)))),⟨fun _=>HFT.out,fun _=>rfl⟩,HB.out⟩
set_option maxHeartbeats 2000000 in
set_option maxRecDepth 100000 in
theorem numF_2(l z q:Bool)(wd n:Int)(f:Nat)(hf:f<18446744073709551616) (w:World) :
  Calls Tryz.prog 23 #[.agg #[.bool l,.bool z,.bool q,.int .i64 wd,.int .i64 (-1),.int .u8 102],.agg #[.bool false,.int .i64 n,.float .f64 f]] w fun e w'=>NumQ 102 (-1) ⟨false,n,f⟩ w e w':=by
 obtain⟨P,hP⟩:∃P,w.heap.size=P:=⟨_,rfl⟩
 obtain⟨W,hW⟩:∃W,(w.alloc (.cells #[.bool l,.bool z,.bool q,.int .i64 wd,.int .i64 (-1),.int .u8 102] 57)).alloc (.cells #[.bool false,.int .i64 n,.float .f64 f] 34)=W:=⟨_,rfl⟩
 obtain⟨b0,b1,b2,b3,b4,b5⟩:=two_boxes w l z q wd (-1) 102 false n f W hW
 have HX:Hid (∀m,Calls Tryz.prog 48 #[.float .f64 f,.int .i64 (6)] (W.drewN m) fun e w'=>∃t,Hid (fixedV f (6) t)∧e=.returned (.string t)∧w'.cell? ⟨P,4,none⟩=some (.int .i64 (-1))∧w'.cell? ⟨P,5,none⟩=some (.int .u8 102)∧w'.cell? ⟨P+1,0,none⟩=some (.bool false)∧w'.cell? ⟨P+1,1,none⟩=some (.int .i64 n)∧w'.cell? ⟨P+1,2,none⟩=some (.float .f64 f)∧Hid (Below w.heap.size w w')):=fun m=>by
  have hsp:Calls Tryz.prog 48 #[.float .f64 f,.int .i64 (6)] (W.drewN m) fun e w'=>∃t,(fixedV f (6) t)∧e=.returned (.string t)∧Below (W.drewN m).heap.size (W.drewN m) w':=(specFixed_any f hf (6) (W.drewN m)).mono fun e w' ⟨t,a,_,b,c⟩=>⟨t,a,b,c⟩
  skip
  refine hsp.mono ?_
  rintro e w' ⟨t,hv,he,hb⟩
  rw[←hP]
  have hb0:=below_drewN b0 m
  exact⟨t,hv,he,lt_cells (w:=W.drewN m) b1 hb,lt_cells (w:=W.drewN m) b2 hb,lt_cells (w:=W.drewN m) b3 hb,lt_cells (w:=W.drewN m) b4 hb,lt_cells (w:=W.drewN m) b5 hb,hb0.trans (hb.mono hb0.size)⟩
 have HW:Hid ((w.alloc (.cells #[.bool l,.bool z,.bool q,.int .i64 wd,.int .i64 (-1),.int .u8 102] 57)).alloc (.cells #[.bool false,.int .i64 n,.float .f64 f] 34)=W):=hW
 have HFT:Hid (¬Fits 102 (-1) ⟨false,n,f⟩):=by
  unfold Fits
  rintro(⟨h|h,_⟩|⟨h|h,_⟩|⟨h,_⟩|⟨_,h1⟩)
  ·exact absurd h (by decide)
  ·exact absurd h (by decide)
  ·exact absurd h (by decide)
  ·exact absurd h (by decide)
  ·exact absurd h (by decide)
  ·exact absurd h1 (by simp)
 rw[hP]at b1 b2 b3 b4 b5
 clear b0 hW hf
 go_enter Tryz.func23,Tryz.ntmps23
 go_wp2_with fail
 rw[HW.out]
 refine wp_region_held_drew (S:=(fun w'=>w'.cell? ⟨P,4,none⟩=some (.int .i64 (-1))∧w'.cell? ⟨P,5,none⟩=some (.int .u8 102)∧w'.cell? ⟨P+1,0,none⟩=some (.bool false)∧w'.cell? ⟨P+1,1,none⟩=some (.int .i64 n)∧w'.cell? ⟨P+1,2,none⟩=some (.float .f64 f))) (by kernel_rfl) ⟨b1,b2,b3,b4,b5⟩ (fun hHeld=>?_)
 refine tkH 0 ?v0 rfl ?_
 refine tkH 1 ?v1 rfl ?_ ?y1
 case y1=>(intro w' hSw;obtain⟨y1,y2,y3,y4,y5⟩:=hSw;go_simp;first|done|with_reducible rfl)
 refine tkH 2 ?v2 rfl ?_
 refine tkH 4 ?v4 rfl ?_
 refine tkH 5 ?v5 rfl ?_ ?y5
 case y5=>(intro w' hSw;obtain⟨y1,y2,y3,y4,y5⟩:=hSw;go_simp;first|done|with_reducible rfl)
 refine rdH 3 rfl (fun K hK=>?_)
 go_simp
 refine(HX.out 1).mono ?_
 rintro e Y ⟨t,HV,rfl,t0,t1,t2,t3,t4,HB⟩
 dsimp only
 refine hK.out _ _ ⟨t0,t1,t2,t3,t4⟩ (fun hHeld=>?_)
 clear hK K
 refine nmH ?_
 refine tkH 6 ?v6 rfl ?_
 refine tkU 7 rfl ?_
 refine tkU 8 rfl ?_
 refine tkU 9 rfl ?_
 refine tkH 10 ?v10 rfl ?_
 refine rdH 11 rfl (fun K hK=>?_)
 go_simp
 refine hK.out _ _ ⟨t0,t1,t2,t3,t4⟩ (fun hHeld=>?_)
 clear hK K
 refine nmH ?_
 refine rdH 12 rfl (fun K hK=>?_)
 go_simp
 refine hK.out _ _ ⟨t0,t1,t2,t3,t4⟩ (fun hHeld=>?_)
 clear hK K
 refine nmH ?_
 refine wpAnyH_done (by kernel_rfl) ?_ _
 go_wp2_with fail
 go_ret2
 exact⟨t,false,rfl,.inr (.inr (.inr (.inr (.inr ⟨rfl,by rw[show prec6 (-1)=6 by unfold prec6;exact if_pos (by decide)];exact HV.out⟩)))),⟨(fun h=>by cases h),fun h=>absurd h HFT.out⟩,HB.out⟩
set_option maxHeartbeats 2000000 in
set_option maxRecDepth 100000 in
theorem numF_3(l z q:Bool)(wd pr n:Int)(f:Nat)(hf:f<18446744073709551616)(hp0:¬pr<0)(hp4:pr≤400)(w:World) :
  Calls Tryz.prog 23 #[.agg #[.bool l,.bool z,.bool q,.int .i64 wd,.int .i64 pr,.int .u8 102],.agg #[.bool false,.int .i64 n,.float .f64 f]] w fun e w'=>NumQ 102 pr ⟨false,n,f⟩ w e w':=by
 obtain⟨P,hP⟩:∃P,w.heap.size=P:=⟨_,rfl⟩
 obtain⟨W,hW⟩:∃W,(w.alloc (.cells #[.bool l,.bool z,.bool q,.int .i64 wd,.int .i64 pr,.int .u8 102] 57)).alloc (.cells #[.bool false,.int .i64 n,.float .f64 f] 34)=W:=⟨_,rfl⟩
 obtain⟨b0,b1,b2,b3,b4,b5⟩:=two_boxes w l z q wd pr 102 false n f W hW
 have HX:Hid (∀m,Calls Tryz.prog 48 #[.float .f64 f,.int .i64 (pr)] (W.drewN m) fun e w'=>∃t,Hid (fixedV f (pr) t)∧e=.returned (.string t)∧w'.cell? ⟨P,4,none⟩=some (.int .i64 pr)∧w'.cell? ⟨P,5,none⟩=some (.int .u8 102)∧w'.cell? ⟨P+1,0,none⟩=some (.bool false)∧w'.cell? ⟨P+1,1,none⟩=some (.int .i64 n)∧w'.cell? ⟨P+1,2,none⟩=some (.float .f64 f)∧Hid (Below w.heap.size w w')):=fun m=>by
  have hsp:Calls Tryz.prog 48 #[.float .f64 f,.int .i64 (pr)] (W.drewN m) fun e w'=>∃t,(fixedV f (pr) t)∧e=.returned (.string t)∧Below (W.drewN m).heap.size (W.drewN m) w':=(specFixed_any f hf (pr) (W.drewN m)).mono fun e w' ⟨t,a,_,b,c⟩=>⟨t,a,b,c⟩
  skip
  refine hsp.mono ?_
  rintro e w' ⟨t,hv,he,hb⟩
  rw[←hP]
  have hb0:=below_drewN b0 m
  exact⟨t,hv,he,lt_cells (w:=W.drewN m) b1 hb,lt_cells (w:=W.drewN m) b2 hb,lt_cells (w:=W.drewN m) b3 hb,lt_cells (w:=W.drewN m) b4 hb,lt_cells (w:=W.drewN m) b5 hb,hb0.trans (hb.mono hb0.size)⟩
 have HW:Hid ((w.alloc (.cells #[.bool l,.bool z,.bool q,.int .i64 wd,.int .i64 pr,.int .u8 102] 57)).alloc (.cells #[.bool false,.int .i64 n,.float .f64 f] 34)=W):=hW
 have HFT:Hid (¬Fits 102 pr ⟨false,n,f⟩):=by
  unfold Fits
  rintro(⟨h|h,_⟩|⟨h|h,_⟩|⟨h,_⟩|⟨_,h1⟩)
  ·exact absurd h (by decide)
  ·exact absurd h (by decide)
  ·exact absurd h (by decide)
  ·exact absurd h (by decide)
  ·exact absurd h (by decide)
  ·exact absurd h1 (by simp)
 have hpd:decide (pr<0)=false:=decide_eq_false hp0
 have hp00:0≤pr:=by omega
 rw[hP]at b1 b2 b3 b4 b5
 clear b0 hW hf
 go_enter Tryz.func23,Tryz.ntmps23
 go_wp2_with fail
 rw[HW.out]
 refine wp_region_held_drew (S:=(fun w'=>w'.cell? ⟨P,4,none⟩=some (.int .i64 pr)∧w'.cell? ⟨P,5,none⟩=some (.int .u8 102)∧w'.cell? ⟨P+1,0,none⟩=some (.bool false)∧w'.cell? ⟨P+1,1,none⟩=some (.int .i64 n)∧w'.cell? ⟨P+1,2,none⟩=some (.float .f64 f))) (by kernel_rfl) ⟨b1,b2,b3,b4,b5⟩ (fun hHeld=>?_)
 refine tkH 0 ?v0 rfl ?_
 refine tkH 1 ?v1 rfl ?_ ?y1
 case y1=>(intro w' hSw;obtain⟨y1,y2,y3,y4,y5⟩:=hSw;go_simp;first|done|with_reducible rfl)
 refine tkH 2 ?v2 rfl ?_
 refine tkH 4 ?v4 rfl ?_
 refine tkH 5 ?v5 rfl ?_ ?y5
 case y5=>(intro w' hSw;obtain⟨y1,y2,y3,y4,y5⟩:=hSw;go_simp;first|done|with_reducible rfl)
 refine rdH 3 rfl (fun K hK=>?_)
 go_simp
 refine(HX.out 1).mono ?_
 rintro e Y ⟨t,HV,rfl,t0,t1,t2,t3,t4,HB⟩
 dsimp only
 refine hK.out _ _ ⟨t0,t1,t2,t3,t4⟩ (fun hHeld=>?_)
 clear hK K
 refine nmH ?_
 refine tkH 6 ?v6 rfl ?_
 refine tkU 7 rfl ?_
 refine tkU 8 rfl ?_
 refine tkU 9 rfl ?_
 refine tkH 10 ?v10 rfl ?_
 refine rdH 11 rfl (fun K hK=>?_)
 go_simp
 refine hK.out _ _ ⟨t0,t1,t2,t3,t4⟩ (fun hHeld=>?_)
 clear hK K
 refine nmH ?_
 refine rdH 12 rfl (fun K hK=>?_)
 go_simp
 refine hK.out _ _ ⟨t0,t1,t2,t3,t4⟩ (fun hHeld=>?_)
 clear hK K
 refine nmH ?_
 refine wpAnyH_done (by kernel_rfl) ?_ _
 go_wp2_with fail
 go_ret2
 exact⟨t,false,rfl,.inr (.inr (.inr (.inr (.inr ⟨rfl,by rw[show prec6 pr=pr by unfold prec6;exact if_neg (by omega)];exact HV.out⟩)))),⟨(fun h=>by cases h),fun h=>absurd h HFT.out⟩,HB.out⟩
end Go.Proofs.YtenbfookfcmpoaaGreatDoor
