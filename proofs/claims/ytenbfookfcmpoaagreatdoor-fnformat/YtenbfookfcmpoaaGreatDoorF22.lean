import Derived.Test.YtenbfookfcmpoaaGreatDoorF20
namespace Go.Proofs.YtenbfookfcmpoaaGreatDoor
open Go.ChangeShapes Go.WideShapes Go.RowKit
def padB(ds:ByteArray)(n:Nat):ByteArray:=(if n<ds.size then ds.extract 0 n else ds)++zerosB (n-ds.size)
theorem padB_size(ds:ByteArray)(n:Nat):(padB ds n).size=n:=by
 unfold padB
 rw[append_size,zerosB_size]
 split
 ·have:(ds.extract 0 n).size=n:=by simp;omega
  omega
 ·omega
theorem padB_good(ds:ByteArray)(n:Nat)(h:good 10 ds.data.toList):good 10 (padB ds n).data.toList:=by
 unfold padB
 rw[append_list]
 refine good_append _ _ ?_ (good_zeros _)
 split
 ·intro c hc
  rw[Lib.extract_eq]at hc
  exact h c (List.mem_of_mem_drop (List.mem_of_mem_take hc))
 ·exact h
def cutV(ds:ByteArray)(pow:Int)(n:Nat)(up:Bool)(t:ByteArray)(p':Int):Prop:=
 (up=false∧t=padB ds n∧p'=pow)∨(up=true∧∃more,UpD (padB ds n) t more∧p'=pow+(if more then 1 else 0))
set_option maxHeartbeats 4000000 in
set_option maxRecDepth 100000 in
theorem l5cut_plain(ds:ByteArray)(p:Int)(n:Nat)(hs:ds.size≤1100)(hn:n≤1600)(w:World) :
  Calls Tryz.prog 93 #[.agg #[.string ds,.int .i64 p],.int .i64 (n:Int),.bool false] w fun e w'=>e=.returned (.agg #[.string (padB ds n),.int .i64 p])∧Below w.heap.size w w':=by
 unfold padB
 have hs':(ds.size:Int)≤1100:=by omega
 by_cases h:n<ds.size
 ·rw[if_pos h]
  have he:(ds.extract 0 n).size=n:=by simp;omega
  have hz:n-ds.size=0:=by omega
  rw[hz]
  have HZ:Hid (∀w,Calls Tryz.prog 51 #[.int .i64 0] w fun e w'=>e=.returned (.string (zerosB 0))∧w'=w.alloc (.cells (tcells (zerosL 0) 0).toArray 5)):=fun w=>zeros_int 0 (by omega) (by omega) w
  have hz0:=zerosB_size 0
  generalize zerosB 0=Z at *
  generalize (tcells (zerosL 0) 0).toArray=C at *
  go_enter Tryz.func93,Tryz.ntmps93
  go_wp2_with fail
  refine(HZ.out _).mono ?_
  rintro e w' ⟨rfl,rfl⟩
  go_wp2
  refine bodyPost_ret (v:=.agg #[.string (ds.extract 0 n++Z),.int .i64 p]) (by simp[results,Tryz.results93,go_sem]) rfl ⟨rfl,(by repeat (first|with_reducible exact Below.refl _ _|with_reducible refine Below.alloc ?_ (by simp<;>omega) _|with_reducible refine Below.drew ?_|with_reducible refine below_drewN ?_ _|with_reducible refine Below.setCell ?_ (by simp<;>omega) _))⟩
 ·rw[if_neg h]
  have hn':(ds.size:Int)≤(n:Int):=by omega
  have HZ:Hid (∀w,Calls Tryz.prog 51 #[.int .i64 ((n:Int)-(ds.size:Int))] w fun e w'=>e=.returned (.string (zerosB (n-ds.size)))∧w'=w.alloc (.cells (tcells (zerosL (n-ds.size)) (n-ds.size)).toArray 5)):=fun w=>by
   have:=zeros_int ((n:Int)-(ds.size:Int)) (by omega) (by omega) w
   rw[show((n:Int)-(ds.size:Int)).toNat=n-ds.size by omega]at this
   exact this
  have hz0:((zerosB (n-ds.size)).size:Int)≤1600:=by rw[zerosB_size];omega
  generalize zerosB (n-ds.size)=Z at *
  generalize (tcells (zerosL (n-ds.size)) (n-ds.size)).toArray=C at *
  clear h
  go_enter Tryz.func93,Tryz.ntmps93
  go_wp2_with fail
  refine(HZ.out _).mono ?_
  rintro e w' ⟨rfl,rfl⟩
  go_wp2
  refine bodyPost_ret (v:=.agg #[.string (ds++Z),.int .i64 p]) (by simp[results,Tryz.results93,go_sem]) rfl ⟨rfl,(by repeat (first|with_reducible exact Below.refl _ _|with_reducible refine Below.alloc ?_ (by simp<;>omega) _|with_reducible refine Below.drew ?_|with_reducible refine below_drewN ?_ _|with_reducible refine Below.setCell ?_ (by simp<;>omega) _))⟩
theorem cutV_one(ds:ByteArray)(pow:Int)(n:Nat)(up:Bool)(t t':ByteArray)(p p':Int)(h:cutV ds pow n up t p)(h':cutV ds pow n up t' p'):t=t'∧p=p':=by
 rcases h with⟨rfl,rfl,rfl⟩|⟨rfl,m,h,rfl⟩
 ·rcases h' with⟨_,rfl,rfl⟩|⟨h,_⟩
  ·exact⟨rfl,rfl⟩
  ·cases h
 ·rcases h' with⟨h,_⟩|⟨_,m',h',rfl⟩
  ·cases h
  ·obtain⟨rfl,rfl⟩:=upD_one _ _ _ _ _ h h'
   exact⟨rfl,rfl⟩
theorem cut5_size(ds:ByteArray)(pow:Int)(n:Nat)(up:Bool)(t:ByteArray)(p':Int)(h:cutV ds pow n up t p'):n≤t.size∧t.size≤n+1∧pow≤p'∧p'≤pow+1:=by
 have:=padB_size ds n
 rcases h with⟨_,rfl,rfl⟩|⟨_,more,⟨_,_,h,_⟩,rfl⟩
 ·omega
 ·cases more
  ·simp at h ⊢;omega
  ·simp at h ⊢;omega
theorem cutV_good(ds:ByteArray)(pow:Int)(n:Nat)(up:Bool)(t:ByteArray)(p:Int)(hg:good 10 ds.data.toList)(h:cutV ds pow n up t p):good 10 t.data.toList:=by
 rcases h with⟨_,rfl,_⟩|⟨_,m,h,_⟩
 ·exact padB_good ds n hg
 ·exact h.1
set_option maxHeartbeats 4000000 in
set_option maxRecDepth 100000 in
theorem l5cut_walk(ds P:ByteArray)(p:Int)(n:Nat)(Z:ByteArray)(C:Array Value)(zi:Int)(w:World)(hs':(ds.size:Int)≤1100)(hn':(n:Int)≤1600)(hz0:(Z.size:Int)≤1600)(hp1:-100000≤p)(hp2:p≤100000)
  (hcase:(n<ds.size∧(ds.extract 0 n).size=n∧zi=0∧P=ds.extract 0 n++Z)∨((ds.size:Int)≤(n:Int)∧zi=(n:Int)-(ds.size:Int)∧P=ds++Z))
  (HZ0:∀w,Calls Tryz.prog 51 #[.int .i64 zi] w fun e w'=>e=.returned (.string Z)∧w'=w.alloc (.cells C 5))
  (HU0:∀w,Calls Tryz.prog 127 #[.string P] w fun e w'=>∃t more,UpD P t more∧e=.returned (.tuple #[.string t,.bool more])∧Below w.heap.size w w') :
  Calls Tryz.prog 93 #[.agg #[.string ds,.int .i64 p],.int .i64 (n:Int),.bool true] w fun e w'=>∃t more,UpD P t more∧e=.returned (.agg #[.string t,.int .i64 (p+(if more then 1 else 0))])∧Below w.heap.size w w':=by
 have HZ:Hid _:=HZ0
 have HU:Hid _:=HU0
 clear HZ0 HU0
 rcases hcase with⟨h,he,rfl,rfl⟩|⟨h,rfl,rfl⟩
 all_goals
  go_enter Tryz.func93,Tryz.ntmps93
  go_wp2_with fail
  refine(HZ.out _).mono ?_
  rintro e w1 ⟨rfl,rfl⟩
  go_wp2_with fail
  refine(HU.out _).mono ?_
  rintro e w2 ⟨t,more,hup,rfl,hb⟩
  have HUP:Hid _:=fun(_:Unit)=>hup
  have r0:=(hb.cell (p:=⟨w.heap.size+1,0,none⟩) (by simp)).trans (by simp[go_sem]:_=some (.string ⟨#[]⟩))
  have r1:=(hb.cell (p:=⟨w.heap.size+1,1,none⟩) (by simp)).trans (by simp[go_sem]:_=some (.int .i64 0))
  have g0:=(hb.frozen (p:=⟨w.heap.size+1,0,none⟩) (by simp)).trans (by simp[go_sem]:_=false)
  have g1:=(hb.frozen (p:=⟨w.heap.size+1,1,none⟩) (by simp)).trans (by simp[go_sem]:_=false)
  have o1:=(hb.cell (p:=⟨w.heap.size+3,1,none⟩) (by simp)).trans (by simp[go_sem]:_=some (.int .i64 p))
  obtain⟨so,o0⟩:∃so,w2.cell? ⟨w.heap.size+3,0,none⟩=some (.string so):=by
   first
    | (refine⟨ds.extract 0 n++Z,(hb.cell (p:=⟨w.heap.size+3,0,none⟩) (by simp)).trans ?_⟩;simp[go_sem];done)
    | (refine⟨ds++Z,(hb.cell (p:=⟨w.heap.size+3,0,none⟩) (by simp)).trans ?_⟩;simp[go_sem];done)
  have q0:=(hb.frozen (p:=⟨w.heap.size+3,0,none⟩) (by simp)).trans (by simp[go_sem]:_=false)
  have q1:=(hb.frozen (p:=⟨w.heap.size+3,1,none⟩) (by simp)).trans (by simp[go_sem]:_=false)
  have HB:Hid (Below w.heap.size w w2):=((((((Below.refl _ _).alloc (Nat.le_refl _) _).alloc (by simp) _).alloc (by simp;omega) _).alloc (by simp;omega) _)).trans (hb.mono (by simp;omega))
  clear hb hup HU HZ
  cases more
  ·go_wp2
   refine bodyPost_ret (v:=.agg #[.string t,.int .i64 p]) (by simp[results,Tryz.results93,go_sem,r0,r1]) rfl ⟨t,false,HUP.out (),by simp,(by repeat (first|exact HB.out|with_reducible refine Below.setCell ?_ (by simp<;>omega) _))⟩
  ·go_wp2
   refine bodyPost_ret (v:=.agg #[.string t,.int .i64 (p+1)]) (by simp[results,Tryz.results93,go_sem,r0,r1]) rfl ⟨t,true,HUP.out (),by simp,(by repeat (first|exact HB.out|with_reducible refine Below.setCell ?_ (by simp<;>omega) _))⟩
theorem l5cut_any(ds:ByteArray)(p:Int)(n:Nat)(up:Bool)(hs:ds.size≤1100)(hg:good 10 ds.data.toList)(hn:n≤1600)(hp1:-100000≤p)(hp2:p≤100000)(w:World) :
  Calls Tryz.prog 93 #[.agg #[.string ds,.int .i64 p],.int .i64 (n:Int),.bool up] w fun e w'=>∃t p',cutV ds p n up t p'∧e=.returned (.agg #[.string t,.int .i64 p'])∧Below w.heap.size w w':=by
 cases up
 ·refine(l5cut_plain ds p n hs hn w).mono ?_
  rintro e w' ⟨rfl,hb⟩
  exact⟨_,_,.inl ⟨rfl,rfl,rfl⟩,rfl,hb⟩
 ·have hz:((zerosB (n-ds.size)).size:Int)≤1600:=by rw[zerosB_size];omega
  have hsz:=padB_size ds n
  refine(l5cut_walk ds (padB ds n) p n (zerosB (n-ds.size)) _ (((n-ds.size:Nat)):Int) w (by omega) (by omega) hz hp1 hp2 ?_ (fun w=>zeros_int ((n-ds.size:Nat):Int) (by omega) (by omega) w) (fun w=>l5up_any (padB ds n) (by omega) (padB_good ds n hg) w)).mono ?_
  ·by_cases h:n<ds.size
   ·exact .inl ⟨h,by simp;omega,by omega,by unfold padB;rw[if_pos h]⟩
   ·exact .inr ⟨by omega,by omega,by unfold padB;rw[if_neg h]⟩
  ·rintro e w' ⟨t,more,hu,rfl,hb⟩
   exact⟨_,_,.inr ⟨rfl,more,hu,rfl⟩,rfl,hb⟩
end Go.Proofs.YtenbfookfcmpoaaGreatDoor
namespace Go.Proofs.YtenbfookfcmpoaaGreatDoor
open Go.ChangeShapes Go.WideShapes Go.RowKit
open Ieee (double)
theorem l5exact_any(n:Nat)(p:Int)(hc:Canon n p)(h0:0<n):∃q k:Nat,n=q*2 ^ k∧q % 2=1∧∀w,Calls Tryz.prog 92 #[.float .f64 (fw false n p)] w fun e w'=>
  ∃ds pow,ExD ds pow q (p+k)∧ds.size≤1100∧-1100≤pow∧pow≤1100∧e=.returned (.agg #[.string ds,.int .i64 pow])∧Below w.heap.size w w':=by
 obtain⟨q,k,hq,hq1⟩:=odd_some n h0
 refine⟨q,k,hq,hq1,fun w=>?_⟩
 have hn:n<9007199254740992:=by rcases hc with h|h<;>omega
 have hp1:-1074≤p:=by rcases hc with h|h<;>omega
 have hp2:p≤971:=by rcases hc with h|h<;>omega
 have hqn:q≤n:=by rw[hq];exact Nat.le_mul_of_pos_right q (Nat.two_pow_pos k)
 have hk:k≤52:=by
  have h1:2 ^ k≤n:=by rw[hq];exact Nat.le_mul_of_pos_left _ (by omega)
  have h2:2 ^ k<2 ^ 53:=Nat.lt_of_le_of_lt h1 hn
  have:=(Nat.pow_lt_pow_iff_right (a:=2) (by omega)).1 h2
  omega
 have hP:=fun w=>parts_fixed false n p q k hc h0 hq hq1 w
 by_cases hE:0≤p+(k:Int)
 ·obtain⟨E,hE'⟩:=Int.eq_ofNat_of_zero_le hE
  rw[hE']at hP ⊢
  exact l5exact_up _ q E hP (by omega) (by omega) (by omega) w
 ·obtain⟨s,hs⟩:∃s:Nat,p+(k:Int) = -(s:Int):=⟨(-(p+(k:Int))).toNat,by omega⟩
  rw[hs]at hP ⊢
  exact l5exact_down _ q s hP (by omega) (by omega) (by omega) (by omega) w
end Go.Proofs.YtenbfookfcmpoaaGreatDoor
namespace Go.Proofs.YtenbfookfcmpoaaGreatDoor
open Go.RowKit
def fxD(ds:ByteArray)(p:Int):ByteArray:=if p<1 then zerosB (1-p).toNat++ds else ds
def fxP(p:Int):Int:=if p<1 then 1 else p
def fxE(ds:ByteArray)(p:Int)(k:Nat):ByteArray:=if (ds.size:Int)<p+k then ds++zerosB (p+k-(ds.size:Int)).toNat else ds
def fixB(ds:ByteArray)(p:Int)(k:Nat):ByteArray:=
 if k=0 then (fxE (fxD ds p) (fxP p) k).extract 0 (fxP p).toNat
 else (fxE (fxD ds p) (fxP p) k).extract 0 (fxP p).toNat++⟨#[46]⟩++(fxE (fxD ds p) (fxP p) k).extract (fxP p).toNat ((fxP p).toNat+k)
def FixD(ds:ByteArray)(pow:Int)(k:Nat)(t:ByteArray)(p:Int):Prop:=
 (pow+k<0∧t=⟨#[]⟩∧p=1)∨(0≤pow+k∧cutV ds pow (pow+k).toNat (roundsB ds (pow+k)) t p)
theorem fixD_one{ds:ByteArray}{pow:Int}{k:Nat}{t t':ByteArray}{p p':Int}(h:FixD ds pow k t p)(h':FixD ds pow k t' p'):t=t'∧p=p':=by
 rcases h with⟨a,rfl,rfl⟩|⟨a,c⟩<;>rcases h' with⟨b,rfl,rfl⟩|⟨b,c'⟩
 ·exact⟨rfl,rfl⟩
 ·omega
 ·omega
 ·exact cutV_one _ _ _ _ _ _ _ _ c c'
theorem fxD_size(ds:ByteArray)(p:Int):(fxD ds p).size=(if p<1 then (1-p).toNat+ds.size else ds.size):=by
 unfold fxD
 split
 ·rw[append_size,zerosB_size]
 ·rfl
theorem fxE_size(ds:ByteArray)(p:Int)(k:Nat):p+k≤((fxE ds p k).size:Int)∧(fxE ds p k).size≤ds.size+(p+k).toNat:=by
 unfold fxE
 split
 ·rw[append_size,zerosB_size];omega
 ·omega
end Go.Proofs.YtenbfookfcmpoaaGreatDoor
