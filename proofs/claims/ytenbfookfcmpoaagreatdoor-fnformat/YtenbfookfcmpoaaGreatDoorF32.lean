import Derived.Test.YtenbfookfcmpoaaGreatDoorF24
import Derived.Test.YtenbfookfcmpoaaGreatDoorF08
import Derived.Test.YtenbfookfcmpoaaGreatDoorF28
import Derived.Test.YtenbfookfcmpoaaGreatDoorF17
import Derived.Test.YtenbfookfcmpoaaGreatDoorF27
import Derived.Shelf.Strings.Builder2
import Derived.Shelf.Bits.Mul64
import Derived.Deep.LoopGhost
import Derived.Deep.DeepCutAuto
import Derived.Deep.DeepFit
import Derived.Deep.CutBlock
namespace Go.Proofs.YtenbfookfcmpoaaGreatDoor
open Go.ChangeShapes Go.WideShapes Go.RowKit
open Ieee (double)
set_option maxHeartbeats 400000 in
theorem implParts_nan(U:Nat)(s:Bool)(M:Nat)(hL:Lays U s 2047 M)(hM:M≠0)(w:World) :
  Calls Tryz.prog 26 #[.float .f64 U] w fun e w'=>e=.returned (.agg #[.int .i64 3,.bool false,.int .i64 0,.int .i64 0])∧Below w.heap.size w w':=by
 have HL:Hid _:=fun w=>layoutOf_any U s 2047 M hL w
 have HK:Hid _:=fun w=>kind_nan s M hM w
 clear hL hM
 go_enter Tryz.func26,Tryz.ntmps26
 go_wp2_with (first|(go_at_call 52;refine(HL.out _).mono ?_;rintro e w' ⟨rfl,rfl⟩)|(go_at_call 53;refine(HK.out _).mono ?_;rintro e w' ⟨rfl,rfl⟩))
 exact bodyPost_ret (v:=.agg #[.int .i64 3,.bool false,.int .i64 0,.int .i64 0]) (by simp[results,Tryz.results26,go_sem]) rfl ⟨rfl,(by repeat (first|exact Below.refl _ _|refine Below.drew ?_|refine below_drewN ?_ _|refine Below.setCell ?_ (by simp<;>omega) _|refine Below.alloc ?_ (by simp<;>omega) _))⟩
set_option maxHeartbeats 400000 in
theorem implParts_inf(U:Nat)(s:Bool)(hL:Lays U s 2047 0)(w:World) :
  Calls Tryz.prog 26 #[.float .f64 U] w fun e w'=>e=.returned (.agg #[.int .i64 2,.bool s,.int .i64 0,.int .i64 0])∧Below w.heap.size w w':=by
 have HL:Hid _:=fun w=>layoutOf_any U s 2047 0 hL w
 have HK:Hid _:=fun w=>kind_inf s w
 clear hL
 go_enter Tryz.func26,Tryz.ntmps26
 go_wp2_with (first|(go_at_call 52;refine(HL.out _).mono ?_;rintro e w' ⟨rfl,rfl⟩)|(go_at_call 53;refine(HK.out _).mono ?_;rintro e w' ⟨rfl,rfl⟩))
 exact bodyPost_ret (v:=.agg #[.int .i64 2,.bool s,.int .i64 0,.int .i64 0]) (by simp[results,Tryz.results26,go_sem]) rfl ⟨rfl,(by repeat (first|exact Below.refl _ _|refine Below.drew ?_|refine below_drewN ?_ _|refine Below.setCell ?_ (by simp<;>omega) _|refine Below.alloc ?_ (by simp<;>omega) _))⟩
set_option maxHeartbeats 400000 in
theorem implParts_zero(U:Nat)(s:Bool)(hL:Lays U s 0 0)(w:World) :
  Calls Tryz.prog 26 #[.float .f64 U] w fun e w'=>e=.returned (.agg #[.int .i64 0,.bool s,.int .i64 0,.int .i64 0])∧Below w.heap.size w w':=by
 have HL:Hid _:=fun w=>layoutOf_any U s 0 0 hL w
 have HK:Hid _:=fun w=>kind_zero s w
 clear hL
 go_enter Tryz.func26,Tryz.ntmps26
 go_wp2_with (first|(go_at_call 52;refine(HL.out _).mono ?_;rintro e w' ⟨rfl,rfl⟩)|(go_at_call 53;refine(HK.out _).mono ?_;rintro e w' ⟨rfl,rfl⟩))
 exact bodyPost_ret (v:=.agg #[.int .i64 0,.bool s,.int .i64 0,.int .i64 0]) (by simp[results,Tryz.results26,go_sem]) rfl ⟨rfl,(by repeat (first|exact Below.refl _ _|refine Below.drew ?_|refine below_drewN ?_ _|refine Below.setCell ?_ (by simp<;>omega) _|refine Below.alloc ?_ (by simp<;>omega) _))⟩
set_option maxHeartbeats 1000000 in
theorem implParts_small(U:Nat)(s:Bool)(M:Nat)(hL:Lays U s 0 M)(n:Nat)(p:Int)(q t:Nat)(hn:n=q*2 ^ t)(hq:q % 2=1)(hn':n<9007199254740992)(hp:-1074≤p)(hp':p≤971)
  (hK:∀w,Calls Tryz.prog 53 #[.agg #[.bool s,.int .u64 ((0:Nat):Int),.int .u64 (M:Int)]] w fun e w'=>e=.returned (.int .i64 1)∧w'=((w.alloc (.cells #[.bool s,.int .u64 ((0:Nat):Int),.int .u64 (M:Int)] 104)).alloc (.cells #[.bool s,.int .u64 2047,.int .u64 0] 104)).drew)
  (hS:∀w,Calls Tryz.prog 54 #[.agg #[.bool s,.int .u64 ((0:Nat):Int),.int .u64 (M:Int)]] w fun e w'=>e=.returned (.tuple #[.int .u64 (n:Int),.int .i64 p])∧w'=(w.alloc (.cells #[.bool s,.int .u64 ((0:Nat):Int),.int .u64 (M:Int)] 104))) (w:World) (hT:DTab w) (hz:0<w.heap.size) :
  Calls Tryz.prog 26 #[.float .f64 U] w fun e w'=>e=.returned (.agg #[.int .i64 1,.bool s,.int .i64 (q:Int),.int .i64 (p+t)])∧Below w.heap.size w w':=by
 have HL:Hid _:=fun w=>layoutOf_any U s 0 M hL w
 have HK:Hid _:=hK
 have HS:Hid _:=hS
 have HT:Hid _:=fun w' (hb:Below w.heap.size w w')=>tz_any n q t hn hq (by omega) w' (DTab.below hT hz hb)
 have ht:=few_halves n t (q:Int) (by rw[Int.toNat_natCast];exact hn) (by omega) hn'
 have hsh:(n:Int) / 2 ^ t=(q:Int):=by
  rw[hn,Int.natCast_mul,Int.natCast_pow]
  exact Int.mul_ediv_cancel _ (by have:=Nat.two_pow_pos t;have e:((2:Nat):Int) ^ t=((2 ^ t:Nat):Int):=(Int.natCast_pow 2 t).symm;rw[e];omega)
 have hq1:(q:Int)<9007199254740992:=by
  have:q*1≤q*2 ^ t:=Nat.mul_le_mul_left _ (Nat.two_pow_pos t)
  omega
 have ht1:(t:Int)≤52:=by omega
 generalize (n:Int)=x at *
 clear hL hK hS hn hq hn' ht hT hz
 go_enter Tryz.func26,Tryz.ntmps26
 go_wp2_with (first|(go_at_call 52;refine(HL.out _).mono ?_;rintro e w' ⟨rfl,rfl⟩)|(go_at_call 53;refine(HK.out _).mono ?_;rintro e w' ⟨rfl,rfl⟩)|(go_at_call 54;refine(HS.out _).mono ?_;rintro e w' ⟨rfl,rfl⟩))
 refine(HT.out _ (by repeat (first|exact Below.refl _ _|refine Below.drew ?_|refine below_drewN ?_ _|refine Below.setCell ?_ (by simp<;>omega) _|refine Below.alloc ?_ (by simp<;>omega) _))).mono ?_
 rintro e w' ⟨rfl,rfl⟩
 go_wp2
 go_region
 all_goals go_wp2
 all_goals exact bodyPost_ret (v:=.agg #[.int .i64 1,.bool s,.int .i64 (q:Int),.int .i64 (p+t)]) (by simp[results,Tryz.results26,go_sem]) rfl ⟨rfl,(by repeat (first|exact Below.refl _ _|refine Below.drew ?_|refine below_drewN ?_ _|refine Below.setCell ?_ (by simp<;>omega) _|refine Below.alloc ?_ (by simp<;>omega) _))⟩
set_option maxHeartbeats 1000000 in
theorem implParts_normal(U:Nat)(s:Bool)(E M:Nat)(hL:Lays U s E M)(n:Nat)(p:Int)(q t:Nat)(hn:n=q*2 ^ t)(hq:q % 2=1)(hn':n<9007199254740992)(hp:-1074≤p)(hp':p≤971)
  (hK:∀w,Calls Tryz.prog 53 #[.agg #[.bool s,.int .u64 ((E:Nat):Int),.int .u64 (M:Int)]] w fun e w'=>e=.returned (.int .i64 1)∧w'=((w.alloc (.cells #[.bool s,.int .u64 ((E:Nat):Int),.int .u64 (M:Int)] 104)).alloc (.cells #[.bool s,.int .u64 2047,.int .u64 0] 104)).drew)
  (hS:∀w,Calls Tryz.prog 54 #[.agg #[.bool s,.int .u64 ((E:Nat):Int),.int .u64 (M:Int)]] w fun e w'=>e=.returned (.tuple #[.int .u64 (n:Int),.int .i64 p])∧w'=(w.alloc (.cells #[.bool s,.int .u64 ((E:Nat):Int),.int .u64 (M:Int)] 104)).drew) (w:World) (hT:DTab w) (hz:0<w.heap.size) :
  Calls Tryz.prog 26 #[.float .f64 U] w fun e w'=>e=.returned (.agg #[.int .i64 1,.bool s,.int .i64 (q:Int),.int .i64 (p+t)])∧Below w.heap.size w w':=by
 have HL:Hid _:=fun w=>layoutOf_any U s E M hL w
 have HK:Hid _:=hK
 have HS:Hid _:=hS
 have HT:Hid _:=fun w' (hb:Below w.heap.size w w')=>tz_any n q t hn hq (by omega) w' (DTab.below hT hz hb)
 have ht:=few_halves n t (q:Int) (by rw[Int.toNat_natCast];exact hn) (by omega) hn'
 have hsh:(n:Int) / 2 ^ t=(q:Int):=by
  rw[hn,Int.natCast_mul,Int.natCast_pow]
  exact Int.mul_ediv_cancel _ (by have:=Nat.two_pow_pos t;have e:((2:Nat):Int) ^ t=((2 ^ t:Nat):Int):=(Int.natCast_pow 2 t).symm;rw[e];omega)
 have hq1:(q:Int)<9007199254740992:=by
  have:q*1≤q*2 ^ t:=Nat.mul_le_mul_left _ (Nat.two_pow_pos t)
  omega
 have ht1:(t:Int)≤52:=by omega
 generalize (n:Int)=x at *
 clear hL hK hS hn hq hn' ht hT hz
 go_enter Tryz.func26,Tryz.ntmps26
 go_wp2_with (first|(go_at_call 52;refine(HL.out _).mono ?_;rintro e w' ⟨rfl,rfl⟩)|(go_at_call 53;refine(HK.out _).mono ?_;rintro e w' ⟨rfl,rfl⟩)|(go_at_call 54;refine(HS.out _).mono ?_;rintro e w' ⟨rfl,rfl⟩))
 refine(HT.out _ (by repeat (first|exact Below.refl _ _|refine Below.drew ?_|refine below_drewN ?_ _|refine Below.setCell ?_ (by simp<;>omega) _|refine Below.alloc ?_ (by simp<;>omega) _))).mono ?_
 rintro e w' ⟨rfl,rfl⟩
 go_wp2
 go_region
 all_goals go_wp2
 all_goals exact bodyPost_ret (v:=.agg #[.int .i64 1,.bool s,.int .i64 (q:Int),.int .i64 (p+t)]) (by simp[results,Tryz.results26,go_sem]) rfl ⟨rfl,(by repeat (first|exact Below.refl _ _|refine Below.drew ?_|refine below_drewN ?_ _|refine Below.setCell ?_ (by simp<;>omega) _|refine Below.alloc ?_ (by simp<;>omega) _))⟩
end Go.Proofs.YtenbfookfcmpoaaGreatDoor
namespace Go.Proofs.YtenbfookfcmpoaaGreatDoor
open Go.ChangeShapes Go.WideShapes Go.RowKit
theorem Handle.below{w w':World}(h:Handle w)(hl:2<w.heap.size)(hb:Below w.heap.size w w'):Handle w':=by
 unfold Handle at h ⊢
 rw[←h]
 exact World.cell?_of_block (w:=w) (hb.block _ hl)
theorem Handle.alloc{w:World}(h:Handle w)(hl:2<w.heap.size)(b:Obj):Handle (w.alloc b):=
 h.below hl ((Below.refl _ w).alloc (Nat.le_refl _) b)
theorem as_place(k:Int)(B:Nat)(old:Value)(w:World)(hg:Handle w)(hlt:2<w.heap.size)(h0:w.cell? ⟨B,0,none⟩=some old)(hf:w.frozen? ⟨B,0,none⟩=false) :
  Calls Tryz.prog 71 #[.iface 133 (.agg #[.int .i64 k]),.iface 135 (.pointer (some ⟨B,0,none⟩))] w fun e w'=>e=.returned (.bool true)∧w'.cell? ⟨B,0,none⟩=some (.int .i64 k)∧Mod B w w':=by
 have hl:B<w.heap.size:=by
  rcases Nat.lt_or_ge B w.heap.size with h|h
  ·exact h
  ·simp[World.cell?,Array.getElem?_eq_none h]at h0
 refine(as_hit k ⟨B,0,none⟩ old w hg hlt h0 hf).mono ?_
 rintro e w' ⟨rfl,rfl⟩
 refine⟨rfl,?_,((((Mod.refl B w).alloc _).alloc _).alloc _).alloc _ |>.setCell 0 _⟩
 refine World.cell?_setCell_same _ _ _ (u:=old) ?_
 rw[World.cell?_alloc_lt _ _ _ (by simp;omega),World.cell?_alloc_lt _ _ _ (by simp;omega),World.cell?_alloc_lt _ _ _ (by simp;omega),World.cell?_alloc_lt _ _ _ hl]
 exact h0
structure ArgV where
 real:Bool
 num:Int
 flt:Nat
def ArgsAt(B:Nat)(w:World)(av:Value)(ars:List ArgV):Prop:=
 ∃ao cap,av=.slice ao ars.length cap∧ars.length≤cap∧ars.length≤100∧cap≤9223372036854775807∧(∀a∈ars,a.flt<18446744073709551616) ∧
  (ars≠[]→∃g o,ao=some ⟨g,o,none⟩∧g<B∧∀i a,ars[i]? = some a→w.cell? ⟨g,o+3*i,none⟩=some (.bool a.real)∧w.cell? ⟨g,o+3*i+1,none⟩=some (.int .i64 a.num)∧w.cell? ⟨g,o+3*i+2,none⟩=some (.float .f64 a.flt))
theorem ArgsAt.below{B:Nat}{w w':World}{av:Value}{ars:List ArgV}(h:ArgsAt B w av ars)(hb:Below B w w'):ArgsAt B w' av ars:=by
 obtain⟨ao,cap,h1,h2,h3,h4,h5,h6⟩:=h
 refine⟨ao,cap,h1,h2,h3,h4,h5,fun hne=>?_⟩
 obtain⟨g,o,e,hg,hc⟩:=h6 hne
 refine⟨g,o,e,hg,fun i a hi=>?_⟩
 obtain⟨c1,c2,c3⟩:=hc i a hi
 exact⟨(hb.cell (p:=⟨g,o+3*i,none⟩) hg).trans c1,(hb.cell (p:=⟨g,o+3*i+1,none⟩) hg).trans c2,(hb.cell (p:=⟨g,o+3*i+2,none⟩) hg).trans c3⟩
theorem args_tail{B:Nat}{w:World}{g o n cap:Nat}{a:ArgV}{ars:List ArgV}(hn:ars.length=n)(h:ArgsAt B w (.slice (some ⟨g,o,none⟩) (n+1) cap) (a :: ars)):ArgsAt B w (.slice (some ⟨g,o+3,none⟩) n (cap-1)) ars:=by
 obtain⟨ao,c,h1,h2,h3,h4,h5,h6⟩:=h
 obtain⟨rfl,_,rfl⟩:some ⟨g,o,none⟩=ao∧n+1=(a :: ars).length∧cap=c:=by simpa using h1
 have hl:(a :: ars).length=ars.length+1:=rfl
 refine⟨_,_,by rw[hn],by omega,by omega,by omega,fun x hx=>h5 x (List.mem_cons_of_mem _ hx),fun _=>?_⟩
 obtain⟨g',o',e,hg,hc⟩:=h6 (by simp)
 obtain⟨rfl,rfl⟩:g=g'∧o=o':=by simpa using e
 refine⟨g,o+3,rfl,hg,fun i x hi=>?_⟩
 have:=hc (i+1) x (by simpa using hi)
 rw[show o+3*(i+1)=o+3+3*i by omega]at this
 exact this
theorem args_last{B:Nat}{w:World}{g o n cap:Nat}{a:ArgV}{ars:List ArgV}(hn:ars.length=n)(hz:n=0)(h:ArgsAt B w (.slice (some ⟨g,o,none⟩) (n+1) cap) (a :: ars)):ArgsAt B w (.slice (some ⟨g,o,none⟩) n 0) ars:=by
 have:ars = []:=List.length_eq_zero_iff.1 (by omega)
 subst this
 exact⟨_,0,by rw[hz];rfl,by simp,by simp,by omega,(fun x hx=>by cases hx),fun h=>absurd rfl h⟩
theorem bits_log{A n:Nat}(h:Bits A n)(h0:0<A):n=A.log2+1:=by
 obtain⟨h1,h2,h3⟩:=bits_pos h h0
 have:=(Nat.log2_eq_iff (by omega)).2 ⟨h2,by rw[show n-1+1=n by omega];exact h3⟩
 omega
theorem log_bits{A:Nat}(h0:0<A):Bits A (A.log2+1):=
 .inr ⟨by omega,by rw[Nat.add_sub_cancel];exact Nat.log2_self_le (by omega),Nat.lt_log2_self⟩
end Go.Proofs.YtenbfookfcmpoaaGreatDoor
namespace Go.Proofs.YtenbfookfcmpoaaGreatDoor
open Ieee (double)
theorem fw_one(s t:Bool)(m n:Nat)(p q:Int)(h:Canon m p)(k:Canon n q)(e:fw s m p=fw t n q):s=t∧m=n∧p=q:=by
 have h1:=read_canon s m p h
 have h2:=read_canon t n q k
 rw[e,h2]at h1
 cases h1
 exact⟨rfl,rfl,rfl⟩
theorem iw_fw(s t:Bool)(m:Nat)(p:Int)(h:Canon m p)(e:iw s=fw t m p):False:=by
 have h1:=read_canon t m p h
 rw[←e,read_iw]at h1
 cases h1
theorem nan_not_fw(s:Bool)(m:Nat)(p:Int)(h:Canon m p)(hn:IsNan (fw s m p)):False:=by
 have h2:=fw_eq_self s m p h
 rw[nan_neq _ hn]at h2
 cases h2
theorem nan_not_iw(s:Bool)(hn:IsNan (iw s)):False:=by
 have h2:=iw_eq_self s
 rw[nan_neq _ hn]at h2
 cases h2
theorem iw_one(s t:Bool)(h:iw s=iw t):s=t:=by
 have h1:=read_iw s
 rw[h,read_iw]at h1
 cases h1;rfl
theorem sign_one(s t:Bool)(h:signBit s=signBit t):s=t:=by cases s<;>cases t<;>first|rfl|(exact absurd h (by decide))
theorem sign_fw(s t:Bool)(m:Nat)(p:Int)(hc:Canon m p)(h0:0<m)(h:signBit s=fw t m p):False:=by
 have h1:=fw_one s t 0 m (-1074) p canon_zero hc (by rw[fw_zero];exact h)
 omega
theorem sign_iw(s t:Bool)(h:signBit s=iw t):False:=by cases s<;>cases t<;>exact absurd h (by decide)
theorem sign_nan(s:Bool)(h:IsNan (signBit s)):False:=nan_not_fw s 0 (-1074) canon_zero (by rw[fw_zero];exact h)
end Go.Proofs.YtenbfookfcmpoaaGreatDoor
namespace Go.Proofs.YtenbfookfcmpoaaGreatDoor
open Go.RowKit
theorem kept_mono(M N d:Nat)(h:M≤N):keptOf M d≤keptOf N d:=by
 have hq:M / 2 ^ d≤N / 2 ^ d:=Nat.div_le_div_right h
 have hm:=Nat.div_add_mod M (2 ^ d)
 have hn:=Nat.div_add_mod N (2 ^ d)
 have b1:M / 2 ^ d≤keptOf M d∧keptOf M d≤M / 2 ^ d+1:=by unfold keptOf;split<;>omega
 have b2:N / 2 ^ d≤keptOf N d:=by unfold keptOf;split<;>omega
 by_cases he:M / 2 ^ d=N / 2 ^ d
 ·have hr:M % 2 ^ d≤N % 2 ^ d:=by
   rw[he]at hm
   omega
  unfold keptOf
  rw[he]
  split
  ·rename_i h1
   rw[if_pos (by omega)]
   exact Nat.le_refl _
  ·split<;>omega
 ·omega
theorem roundN_mono(M N:Nat)(d:Int)(h:M≤N):roundN M d≤roundN N d:=by
 unfold roundN
 split
 ·exact Nat.mul_le_mul_right _ h
 ·exact kept_mono M N _ h
theorem roundN_ge(N:Nat)(d:Int)(h0:0<N)(h:d=(N.log2:Int)-52):4503599627370496≤roundN N d:=by
 have hl:2 ^ N.log2≤N:=Nat.log2_self_le (by omega)
 unfold roundN
 split
 ·have:2 ^ N.log2*2 ^ (-d).toNat≤N*2 ^ (-d).toNat:=Nat.mul_le_mul_right _ hl
  rw[←Nat.pow_add,show N.log2+(-d).toNat=52 by omega]at this
  exact this
 ·have h1:2 ^ 52≤N / 2 ^ d.toNat:=by
   rw[Nat.le_div_iff_mul_le (Nat.two_pow_pos _),←Nat.pow_add,show 52+d.toNat=N.log2 by omega]
   exact hl
  have h2:N / 2 ^ d.toNat≤keptOf N d.toNat:=by unfold keptOf;split<;>omega
  exact Nat.le_trans h1 h2
theorem fw_top(m:Nat)(e:Int):fw false m e≤9218868437227405312:=by
 by_cases h0:m=0
 ·rw[h0,fw_zero]
  decide
 ·by_cases hl:max (e+(m.log2:Int)-52) (-1074)≤971
  ·rw[fw_fits false m e _ (by omega) rfl hl]
   have:=roundN_le m e
   show 0+_≤_
   omega
  ·rw[fw_over false m e _ (by omega) rfl (by omega)]
   decide
theorem log2_mono(M N:Nat)(h0:0<M)(h:M≤N):M.log2≤N.log2:=(Nat.le_log2 (by omega)).2 (Nat.le_trans (Nat.log2_self_le (by omega)) h)
theorem fw_mono(M N:Nat)(e:Int)(h:M≤N):fw false M e≤fw false N e:=by
 by_cases h0:M=0
 ·rw[h0,fw_zero]
  exact Nat.zero_le _
 ·have hlog:=log2_mono M N (by omega) h
  by_cases hN:max (e+(N.log2:Int)-52) (-1074)≤971
  ·rw[fw_fits false M e _ (by omega) rfl (by omega),fw_fits false N e _ (by omega) rfl hN]
   apply Nat.add_le_add_left
   by_cases hs:max (e+(M.log2:Int)-52) (-1074)=max (e+(N.log2:Int)-52) (-1074)
   ·rw[hs]
    exact Nat.add_le_add_left (roundN_mono M N _ h) _
   ·have h1:=roundN_le M e
    have h2:=roundN_ge N (max (e+(N.log2:Int)-52) (-1074)-e) (by omega) (by omega)
    omega
  ·rw[fw_over false N e _ (by omega) rfl (by omega)]
   exact fw_top M e
theorem ratio_mono(A C A' C':Nat)(hA:0<A)(hC:0<C)(hA':0<A')(hC':0<C')(h:A*C'≤A'*C):ratioW A C≤ratioW A' C':=by
 obtain⟨K,k1,k2⟩:∃K,9007199254740992≤A*2 ^ K / C∧9007199254740992≤A'*2 ^ K / C':=by
  refine⟨C+C'+53,?_,?_⟩
  ·rw[Nat.le_div_iff_mul_le hC]
   have h1:C<2 ^ C:=Nat.lt_two_pow_self
   have e:2 ^ (C+C'+53)=2 ^ C*(2 ^ C'*9007199254740992):=by rw[Nat.pow_add,Nat.pow_add,Nat.mul_assoc]
   rw[e]
   have h2:1*(C*(1*9007199254740992))≤A*(2 ^ C*(2 ^ C'*9007199254740992)):=Nat.mul_le_mul hA (Nat.mul_le_mul (Nat.le_of_lt h1) (Nat.mul_le_mul_right _ Nat.one_le_two_pow))
   omega
  ·rw[Nat.le_div_iff_mul_le hC']
   have h1:C'<2 ^ C':=Nat.lt_two_pow_self
   have e:2 ^ (C+C'+53)=2 ^ C'*(2 ^ C*9007199254740992):=by rw[Nat.add_comm C C',Nat.pow_add,Nat.pow_add,Nat.mul_assoc]
   rw[e]
   have h2:1*(C'*(1*9007199254740992))≤A'*(2 ^ C'*(2 ^ C*9007199254740992)):=Nat.mul_le_mul hA' (Nat.mul_le_mul (Nat.le_of_lt h1) (Nat.mul_le_mul_right _ Nat.one_le_two_pow))
   omega
 have form:∀A C:Nat,0<A→0<C→9007199254740992≤A*2 ^ K / C→ratioW A C=fw false (2*(A*2 ^ K / C)+(if A*2 ^ K % C=0 then 0 else 1)) (-(K:Int)-1):=fun A C hA hC hk=>by
  rw[ratio_long_at A C K hA hC hk]
  split
  ·have:=fw_scale false (A*2 ^ K / C) 1 (-(K:Int))
   rw[←this,Nat.pow_one,Nat.mul_comm,Nat.add_zero]
   rfl
  ·rfl
 rw[form A C hA hC k1,form A' C' hA' hC' k2]
 apply fw_mono
 have hle:A*2 ^ K*C'≤A'*2 ^ K*C:=by
  rw[Nat.mul_right_comm,Nat.mul_right_comm A']
  exact Nat.mul_le_mul_right _ h
 generalize A*2 ^ K=X at *
 generalize A'*2 ^ K=Y at *
 have hx:=Nat.div_add_mod X C
 have hy:=Nat.div_add_mod Y C'
 have hq:X / C≤Y / C':=by
  rw[Nat.le_div_iff_mul_le hC']
  have h1:C*(X / C*C')≤C*Y:=by
   have h2:C*(X / C)*C'≤X*C':=Nat.mul_le_mul_right _ (Nat.mul_div_le X C)
   rw[Nat.mul_assoc]at h2
   rw[Nat.mul_comm C Y]
   omega
  exact Nat.le_of_mul_le_mul_left h1 hC
 by_cases he:X / C=Y / C'
 ·rw[he]
  by_cases h0:X % C=0
  ·rw[if_pos h0]
   omega
  ·rw[if_neg h0]
   rw[if_neg]
   ·exact Nat.le_refl _
   ·intro hz
    rw[hz,Nat.add_zero]at hy
    rw[he]at hx
    have hX:C*(Y / C')<X:=by omega
    have h3:C*(Y / C')*C'<X*C':=Nat.mul_lt_mul_of_pos_right hX hC'
    have h4:C*(Y / C')*C'=Y*C:=by
     rw[Nat.mul_assoc,Nat.mul_comm (Y / C') C',hy,Nat.mul_comm]
    omega
 ·split<;>split<;>omega
end Go.Proofs.YtenbfookfcmpoaaGreatDoor
namespace Go.Proofs.YtenbfookfcmpoaaGreatDoor
open Go.RowKit
open Ieee (double)
theorem rung_step(p:Int)(hp:-1074<p):rung 9007199254740991 (p-1)+1=rung 4503599627370496 p:=by
 unfold rung
 omega
theorem near_float(A C X Y n g v:Nat)(p:Int)(hc:Canon n p)(hn:0<n)(hg:p=(g:Int)-v)(hA:0<A)(hC:0<C)(hY:0<Y)(hx:X*2 ^ v=n*2 ^ g*Y)
  (h:(X*C≤A*Y∧20000000000000000*(A*Y-X*C)≤X*C)∨(A*Y<X*C∧20000000000000000*(X*C-A*Y)≤X*C)):ratioW A C=fw false n p:=by
 have hn2:n<9007199254740992:=by rcases hc with h|h<;>omega
 have hfw:fw false n p=rung n p:=by rw[fw_canon _ _ _ hc];exact Nat.zero_add _
 have hG:0<2 ^ g*C:=Nat.mul_pos (Nat.two_pow_pos _) hC
 have p2:0<2 ^ v:=Nat.two_pow_pos _
 have hK:X*C*2 ^ v=n*(2 ^ g*C)*Y:=by
  have e:X*C*2 ^ v=(X*2 ^ v)*C:=by ac_rfl
  rw[e,hx];ac_rfl
 have hP:A*Y*2 ^ v=A*2 ^ v*Y:=by ac_rfl
 have e1:∀k,k*2 ^ g*C=k*(2 ^ g*C):=fun k=>Nat.mul_assoc _ _ _
 have ev1:A*2 ^ (v+1)=2*(A*2 ^ v):=by rw[Nat.pow_succ];ac_rfl
 have ev2:A*2 ^ (v+1+1)=4*(A*2 ^ v):=by rw[Nat.pow_succ,Nat.pow_succ,show(4:Nat)=2*2 from rfl];ac_rfl
 have hlt:n*(2 ^ g*C)<9007199254740992*(2 ^ g*C):=Nat.mul_lt_mul_of_pos_right hn2 hG
 rw[hfw]
 rcases h with⟨h1,h2⟩|⟨h1,h2⟩
 ·have k1:n*(2 ^ g*C)≤A*2 ^ v:=by
   refine Nat.le_of_mul_le_mul_right ?_ hY
   rw[←hK,←hP]
   exact Nat.mul_le_mul_right _ h1
  have k2:20000000000000000*(A*2 ^ v-n*(2 ^ g*C))≤n*(2 ^ g*C):=by
   refine Nat.le_of_mul_le_mul_right ?_ hY
   rw[Nat.mul_assoc,Nat.sub_mul,←hP,←hK,←Nat.sub_mul,←Nat.mul_assoc]
   exact Nat.mul_le_mul_right _ h2
  refine ratio_below A C n g v p hc hg hA hC (by rw[e1];exact k1) ?_
  rw[e1,ev1,Nat.add_mul,Nat.one_mul,Nat.mul_assoc]
  generalize n*(2 ^ g*C)=b at *
  generalize 2 ^ g*C=G at *
  generalize A*2 ^ v=a at *
  omega
 ·have k1:A*2 ^ v<n*(2 ^ g*C):=by
   refine Nat.lt_of_mul_lt_mul_right (a:=Y) ?_
   rw[←hK,←hP]
   exact Nat.mul_lt_mul_of_pos_right h1 p2
  have k2:20000000000000000*(n*(2 ^ g*C)-A*2 ^ v)≤n*(2 ^ g*C):=by
   refine Nat.le_of_mul_le_mul_right ?_ hY
   rw[Nat.mul_assoc,Nat.sub_mul,←hP,←hK,←Nat.sub_mul,←Nat.mul_assoc]
   exact Nat.mul_le_mul_right _ h2
  by_cases hs:n=4503599627370496∧-1074<p
  ·obtain⟨rfl,hp⟩:=hs
   have hc':Canon 9007199254740991 (p-1):=.inl ⟨by omega,by omega,by omega,by rcases hc with h|h<;>omega⟩
   rw[ratio_above A C 9007199254740991 g (v+1) (p-1) hc' (by omega) hA hC (by rw[e1,ev2];generalize 2 ^ g*C=G at *;generalize A*2 ^ v=a at *;omega) (by rw[e1,ev1];generalize 2 ^ g*C=G at *;generalize A*2 ^ v=a at *;omega)]
   exact rung_step p hp
  ·have hc':Canon (n-1) p:=by
    rcases hc with h|h
    ·by_cases h4:n=4503599627370496
     ·exact .inr ⟨by omega,by omega⟩
     ·exact .inl ⟨by omega,by omega,by omega,by omega⟩
    ·exact .inr ⟨by omega,h.2⟩
   obtain⟨m,rfl⟩:∃m,n=m+1:=⟨n-1,by omega⟩
   rw[Nat.add_sub_cancel]at hc'
   have em:(m+1)*(2 ^ g*C)=m*(2 ^ g*C)+2 ^ g*C:=by rw[Nat.add_mul,Nat.one_mul]
   rw[ratio_above A C m g v p hc' hg hA hC (by
    rw[e1,ev1,Nat.add_mul,Nat.one_mul,Nat.mul_assoc]
    rw[em]at k2 hlt
    have k3:=k1
    rw[em]at k3
    clear k1 em hK hP hx ev1 ev2 e1
    generalize m*(2 ^ g*C)=b at *
    generalize 2 ^ g*C=G at *
    generalize A*2 ^ v=a at *
    omega) (by rw[e1];exact k1)]
   unfold rung
   omega
theorem digits_near(n:Nat)(p:Int)(q k:Nat)(ds:ByteArray)(pow:Int)(hc:Canon n p)(hn:0<n)(hq:n=q*2 ^ k)(hd:ExD ds pow q (p+k))(N W:Nat)(hN:17≤N)(hNs:N≤ds.size)(hW:0<W)
  (h:(W*10 ^ (ds.size-N)≤valN 10 ds.data.toList∧2*(valN 10 ds.data.toList-W*10 ^ (ds.size-N))≤10 ^ (ds.size-N))∨(valN 10 ds.data.toList≤W*10 ^ (ds.size-N)∧2*(W*10 ^ (ds.size-N)-valN 10 ds.data.toList)≤10 ^ (ds.size-N))) :
  decW 10 W (pow-(N:Int))=fw false n p:=by
 obtain⟨h0,hg,hf,hl,he⟩:=hd
 have hge:10 ^ (ds.size-1)≤valN 10 ds.data.toList:=by
  rw[text_cons ds h0]
  have h1:=valN_good_ge 10 ds[0] (ds.extract 1 ds.size).data.toList (fun h=>hf h0 ((digN_zero _).1 h))
  have h2:=extract_one ds h0
  rw[data_len]at h1
  rwa [show ds.size-1=(ds.extract 1 ds.size).size by omega]
 generalize valN 10 ds.data.toList=V at *
 have p10:∀n,0<10 ^ n:=fun n=>Nat.pow_pos (by omega)
 have hbig:10000000000000000*10 ^ (ds.size-N)≤V:=by
  refine Nat.le_trans ?_ hge
  have e:10 ^ (ds.size-1)=10 ^ (N-1)*10 ^ (ds.size-N):=by rw[←Nat.pow_add];congr 1;omega
  rw[e]
  refine Nat.mul_le_mul_right _ ?_
  have e2:(10000000000000000:Nat)=10 ^ 16:=by decide
  rw[e2]
  exact Nat.pow_le_pow_right (by omega) (by omega)
 unfold decW
 rw[if_neg (by omega)]
 generalize hM:10 ^ (ds.size-N)=M at *
 obtain⟨T,hT⟩:∃T,T=10 ^ ((pow-(ds.size:Int)).toNat+(-(pow-(N:Int))).toNat):=⟨_,rfl⟩
 have hT0:0<T:=by rw[hT];exact p10 _
 have hAY:W*10 ^ (pow-(N:Int)).toNat*10 ^ ((ds.size:Int)-pow).toNat=W*M*T:=by
  rw[hT,←hM,Nat.mul_assoc,Nat.mul_assoc,←Nat.pow_add,←Nat.pow_add]
  congr 2
  omega
 have hXC:V*10 ^ (pow-(ds.size:Int)).toNat*10 ^ (-(pow-(N:Int))).toNat=V*T:=by
  rw[hT,Nat.mul_assoc,←Nat.pow_add]
 refine near_float _ _ (V*10 ^ (pow-(ds.size:Int)).toNat) (10 ^ ((ds.size:Int)-pow).toNat) n p.toNat (-p).toNat p hc hn (by omega) (Nat.mul_pos hW (p10 _)) (p10 _) (p10 _) ?_ ?_
 ·have h2:0<2 ^ (-(p+(k:Int))).toNat:=Nat.two_pow_pos _
  refine Nat.eq_of_mul_eq_mul_right h2 ?_
  have e1:V*10 ^ (pow-(ds.size:Int)).toNat*2 ^ (-p).toNat*2 ^ (-(p+(k:Int))).toNat=(V*10 ^ (pow-(ds.size:Int)).toNat*2 ^ (-(p+(k:Int))).toNat)*2 ^ (-p).toNat:=by ac_rfl
  have e2:q*2 ^ (p+(k:Int)).toNat*10 ^ ((ds.size:Int)-pow).toNat*2 ^ (-p).toNat=q*(2 ^ (p+(k:Int)).toNat*2 ^ (-p).toNat)*10 ^ ((ds.size:Int)-pow).toNat:=by ac_rfl
  have e3:n*2 ^ p.toNat*10 ^ ((ds.size:Int)-pow).toNat*2 ^ (-(p+(k:Int))).toNat=q*(2 ^ k*2 ^ p.toNat*2 ^ (-(p+(k:Int))).toNat)*10 ^ ((ds.size:Int)-pow).toNat:=by rw[hq];ac_rfl
  rw[e1,he,e2,e3,←Nat.pow_add,←Nat.pow_add,←Nat.pow_add]
  congr 3
  omega
 ·rw[hAY,hXC]
  rcases h with⟨h1,h2⟩|⟨h1,h2⟩
  ·by_cases he:V=W*M
   ·left
    rw[he]
    exact⟨Nat.le_refl _,by rw[Nat.sub_self,Nat.mul_zero];exact Nat.zero_le _⟩
   ·right
    refine⟨Nat.mul_lt_mul_of_pos_right (by omega) hT0,?_⟩
    rw[←Nat.sub_mul,←Nat.mul_assoc]
    refine Nat.mul_le_mul_right _ ?_
    generalize W*M=B at *
    omega
  ·left
   refine⟨Nat.mul_le_mul_right _ h1,?_⟩
   rw[←Nat.sub_mul,←Nat.mul_assoc]
   refine Nat.mul_le_mul_right _ ?_
   generalize W*M=B at *
   omega
end Go.Proofs.YtenbfookfcmpoaaGreatDoor
namespace Go.Proofs.YtenbfookfcmpoaaGreatDoor
open Go.RowKit
theorem run_mid(b:Nat)(u a v:ByteArray)(hg:good (b:Int) a.data.toList)(hv:¬Dig b v 0):Run b (u++a++v) u.size (u.size+a.size):=by
 refine⟨by omega,by rw[append_size,append_size];omega,fun i h1 h2=>?_,fun h=>hv ?_⟩
 ·refine⟨by rw[append_size,append_size];omega,?_⟩
  rw[bAt_append_left _ _ _ (by rw[append_size];omega),show i=u.size+(i-u.size) by omega,bAt_append_right,bAt_in _ _ (show i-u.size<a.size by omega)]
  exact good_at _ a hg (i-u.size) (by omega)
 ·have:=(dig_shift b (u++a) v 0).1 (by rw[append_size,Nat.add_zero];exact h)
  exact this
theorem no_dig_at(b:Nat)(hb:b≤16)(v:ByteArray)(h:bAt v 0=0∨bAt v 0=46∨bAt v 0=112∨(bAt v 0=101∧b=10)):¬Dig b v 0:=by
 rintro⟨_,h2⟩
 unfold digN at h2
 rcases h with h|h|h|⟨h,h'⟩<;>rw[h]at h2<;>simp at h2<;>omega
def Pwr(m:UInt8)(x:ByteArray)(n:Int):Prop:=
 (x=ByteArray.empty∧n=0)∨∃ (neg:Bool) (c:ByteArray),x=⟨#[m]⟩++(if neg then ⟨#[45]⟩ else ByteArray.empty)++c∧0<c.size∧good 10 c.data.toList∧n=expV neg (valN 10 c.data.toList)
theorem pwr_at(m:UInt8)(x:ByteArray)(n:Int)(h:Pwr m x n):(x.size=0∧bAt x 0=0)∨(0<x.size∧bAt x 0=(m.toNat:Int)):=by
 rcases h with⟨rfl,_⟩|⟨neg,c,rfl,_⟩
 ·exact .inl ⟨rfl,rfl⟩
 ·right
  have e1:(⟨#[m]⟩:ByteArray).size=1:=rfl
  refine⟨by rw[append_size,append_size,e1];omega,?_⟩
  rw[bAt_append_left _ _ _ (by rw[append_size];omega),bAt_append_left _ _ _ (by omega)]
  rfl
theorem expo_made(m:UInt8)(hm:m.toNat≠0)(u x:ByteArray)(n:Int)(h:Pwr m x n):Expo (m.toNat:Int) (u++x) u.size (.inl (n,(u++x).size)):=by
 have h0:=bAt_append_right u x 0
 rw[Nat.add_zero]at h0
 have hp:=pwr_at m x n h
 rcases h with⟨rfl,rfl⟩|⟨neg,c,rfl,hc0,hg,rfl⟩
 ·refine .inl ⟨?_,?_⟩
  ·rw[h0]
   show(0:Int)≠_
   omega
  ·rw[append_size];rfl
 ·have e1:(⟨#[m]⟩:ByteArray).size=1:=rfl
  obtain⟨q,hq⟩:∃q:ByteArray,q=(if neg then ⟨#[45]⟩ else ByteArray.empty):=⟨_,rfl⟩
  rw[←hq]at h0 hp ⊢
  have hT:u++(⟨#[m]⟩++q++c)=(u++⟨#[m]⟩++q)++c++ByteArray.empty:=by
   apply ByteArray.ext
   apply Array.toList_inj.1
   simp only[append_list]
   simp
  have hsz:(u++(⟨#[m]⟩++q++c)).size=u.size+1+q.size+c.size:=by simp only[append_size,e1];omega
  have hr:=run_mid 10 (u++⟨#[m]⟩++q) c ByteArray.empty hg (fun h=>by have:=h.1;simp at this)
  rw[←hT]at hr
  have hus:(u++(⟨#[m]⟩:ByteArray)++q).size=u.size+1+q.size:=by simp only[append_size,e1]
  rw[hus]at hr
  have hx:(u++(⟨#[m]⟩++q++c)).extract (u.size+1+q.size) (u.size+1+q.size+c.size)=c:=by
   have:=extract_mid (u++⟨#[m]⟩++q) c ByteArray.empty
   rw[←hT,hus]at this
   exact this
  have hc1:bAt c 0≠45∧bAt c 0≠43:=by
   have:=good_bAt c hg 0 hc0
   omega
  have hs:Sgn (u++(⟨#[m]⟩++q++c)) (u.size+1) neg (u.size+1+q.size):=by
   have hb:bAt (u++(⟨#[m]⟩++q++c)) (u.size+1)=bAt (q++c) 0:=by
    rw[bAt_append_right,ByteArray.append_assoc]
    have:=bAt_append_right (⟨#[m]⟩:ByteArray) (q++c) 0
    rw[e1]at this
    exact this
   cases neg
   ·have hq':q=ByteArray.empty:=by rw[hq];rfl
    subst hq'
    refine .inr (.inr ⟨?_,?_,rfl,rfl⟩)
    ·rw[hb,ByteArray.empty_append];exact hc1.1
    ·rw[hb,ByteArray.empty_append];exact hc1.2
   ·have hq':q=⟨#[45]⟩:=by rw[hq];rfl
    subst hq'
    refine .inl ⟨by rw[hsz];omega,?_,rfl,rfl⟩
    rw[hb,bAt_append_left _ _ _ (by decide)]
    rfl
  have hpa:bAt (u++(⟨#[m]⟩++q++c)) u.size=(m.toNat:Int):=by
   rw[h0]
   rcases hp with⟨h,_⟩|⟨_,h⟩
   ·rw[append_size,append_size,e1]at h;omega
   ·exact h
  refine .inr ⟨hpa,neg,_,_,hs,hr,.inr ⟨by omega,?_⟩⟩
  unfold runV
  rw[hx,hsz]
theorem read_made(neg:Bool)(a f x:ByteArray)(b:ByteArray)(n:Int)(ha0:0<a.size)(hga:good 10 a.data.toList)(hf:(f=ByteArray.empty∧b=ByteArray.empty)∨(f=dotB++b∧0<b.size))(hgb:good 10 b.data.toList)(hx:Pwr 101 x n)
  (hs:(sgnT neg (a++f++x)).size≤1200):ReadA (sgnT neg (a++f++x)) true 0 (· = flW neg 10 (a++b) (-(b.size:Int)+n)):=by
 obtain⟨p,hp,hsg⟩:∃p:ByteArray,sgnT neg (a++f++x)=p++(a++f++x)∧((neg=true∧p=⟨#[45]⟩)∨(neg=false∧p=ByteArray.empty)):=by
  cases neg
  ·exact⟨ByteArray.empty,by rw[ByteArray.empty_append];rfl,.inr ⟨rfl,rfl⟩⟩
  ·exact⟨⟨#[45]⟩,rfl,.inl ⟨rfl,rfl⟩⟩
 rw[hp]at hs ⊢
 have hd0:=good_bAt a hga 0 ha0
 have hA0:∀k,k<a.size→bAt (p++(a++f++x)) (p.size+k)=bAt a k:=fun k hk=>by
  rw[bAt_append_right,bAt_append_left _ _ _ (by rw[append_size];omega),bAt_append_left _ _ _ hk]
 have hpx:=pwr_at 101 x n hx
 have e101:((101:UInt8).toNat:Int)=101:=rfl
 rw[e101]at hpx
 have hfx:bAt (f++x) 0=46∨bAt (f++x) 0=101∨((f++x).size=0∧bAt (f++x) 0=0):=by
  rcases hf with⟨rfl,_⟩|⟨rfl,_⟩
  ·rw[ByteArray.empty_append]
   rcases hpx with h|h
   ·exact .inr (.inr h)
   ·exact .inr (.inl h.2)
  ·left
   rw[ByteArray.append_assoc,bAt_append_left _ _ _ (by decide)]
   rfl
 have hsgn:Sgn (p++(a++f++x)) 0 neg p.size:=by
  rcases hsg with⟨rfl,rfl⟩|⟨rfl,rfl⟩
  ·exact .inl ⟨by rw[append_size];have:(⟨#[45]⟩:ByteArray).size=1:=rfl;omega,by rw[bAt_append_left _ _ _ (by decide)];rfl,rfl,rfl⟩
  ·have h1:=hA0 0 ha0
   have h2:(ByteArray.empty:ByteArray).size+0=0:=rfl
   rw[h2]at h1
   exact .inr (.inr ⟨by omega,by omega,rfl,rfl⟩)
 have h0:=hA0 0 ha0
 rw[Nat.add_zero]at h0
 have hbas:Bas (p++(a++f++x)) p.size 10 p.size:=by
  refine .inr ⟨fun⟨_,h2,h3⟩=>?_,rfl,rfl⟩
  by_cases h1:1<a.size
  ·have h4:=hA0 1 h1
   have h5:=good_bAt a hga 1 h1
   omega
  ·have h4:bAt (p++(a++f++x)) (p.size+1)=bAt (f++x) 0:=by
    rw[bAt_append_right,ByteArray.append_assoc]
    have:=bAt_append_right a (f++x) 0
    rw[show a.size=1 by omega]at this
    exact this
   omega
 have hrun:Run 10 (p++(a++f++x)) p.size (p.size+a.size):=by
  have h1:=run_mid 10 p a (f++x) hga (no_dig_at 10 (by omega) _ (by rcases hfx with h|h|⟨_,h⟩;exact .inr (.inl h);exact .inr (.inr (.inr ⟨h,rfl⟩));exact .inl h))
  have e:p++a++(f++x)=p++(a++f++x):=by simp only[ByteArray.append_assoc]
  rw[e]at h1
  exact h1
 have hea:(p++(a++f++x)).extract p.size (p.size+a.size)=a:=by
  have h1:=extract_mid p a (f++x)
  have e:p++a++(f++x)=p++(a++f++x):=by simp only[ByteArray.append_assoc]
  rw[e]at h1
  exact h1
 have hat:bAt (p++(a++f++x)) (p.size+a.size)=bAt (f++x) 0:=by
  rw[bAt_append_right,ByteArray.append_assoc]
  have:=bAt_append_right a (f++x) 0
  exact this
 have hexpo:Expo 101 (p++(a++f++x)) (p++(a++f)).size (.inl (n,(p++(a++f++x)).size)):=by
  have h1:=expo_made 101 (by decide) (p++(a++f)) x n hx
  have e:p++(a++f)++x=p++(a++f++x):=by simp only[ByteArray.append_assoc]
  rw[e]at h1
  exact h1
 refine .inr ⟨hs,neg,p.size,hsgn,.inr ⟨by omega,by omega,10,p.size,p.size+a.size,hbas,hrun,.inr ⟨by omega,?_⟩⟩⟩
 rcases hf with⟨rfl,rfl⟩|⟨rfl,hb0⟩
 ·refine⟨_,.inl ⟨?_,rfl⟩,.inr ⟨_,_,_,_,rfl,?_,.inr ⟨n,_,rfl,.inr ⟨Nat.lt_irrefl _,rfl,rfl,?_⟩⟩⟩⟩
  ·rw[hat,ByteArray.empty_append]
   rcases hpx with⟨_,h⟩|⟨_,h⟩<;>rw[h]<;>decide
  ·have e:(p++(a++ByteArray.empty)).size=p.size+a.size:=by simp only[append_size];rfl
   rw[e]at hexpo
   exact hexpo
  ·rw[hea,ByteArray.append_empty]
   rfl
 ·have e1:dotB.size=1:=rfl
  have hrb:Run 10 (p++(a++(dotB++b)++x)) (p.size+a.size+1) (p.size+a.size+1+b.size):=by
   have h1:=run_mid 10 (p++a++dotB) b x hgb (no_dig_at 10 (by omega) _ (by rcases hpx with⟨_,h⟩|⟨_,h⟩;exact .inl h;exact .inr (.inr (.inr ⟨h,rfl⟩))))
   have e:p++a++dotB++b++x=p++(a++(dotB++b)++x):=by simp only[ByteArray.append_assoc]
   rw[e,append_size,append_size,e1]at h1
   exact h1
  have heb:(p++(a++(dotB++b)++x)).extract (p.size+a.size+1) (p.size+a.size+1+b.size)=b:=by
   have h1:=extract_mid (p++a++dotB) b x
   have e:p++a++dotB++b++x=p++(a++(dotB++b)++x):=by simp only[ByteArray.append_assoc]
   rw[e,append_size,append_size,e1]at h1
   exact h1
  refine⟨_,.inr ⟨?_,_,hrb,.inr ⟨by omega,rfl⟩⟩,.inr ⟨_,_,_,_,rfl,?_,.inr ⟨n,_,rfl,.inr ⟨Nat.lt_irrefl _,rfl,rfl,?_⟩⟩⟩⟩
  ·rw[hat,ByteArray.append_assoc,bAt_append_left _ _ _ (by decide)]
   rfl
  ·have e:(p++(a++(dotB++b))).size=p.size+a.size+1+b.size:=by simp only[append_size,e1];omega
   rw[e]at hexpo
   exact hexpo
  ·rw[hea,heb]
   unfold expOf
   rw[if_neg (by omega),show p.size+a.size+1+b.size-(p.size+a.size+1)=b.size by omega]
end Go.Proofs.YtenbfookfcmpoaaGreatDoor
namespace Go.Proofs.YtenbfookfcmpoaaGreatDoor
open Go.RowKit
open Ieee (double)
theorem sgn_text(s:Bool)(t:ByteArray):sgnB s++t=sgnT s t:=by
 cases s
 ·show(⟨#[]⟩:ByteArray)++t=t
  exact ByteArray.empty_append
 ·rfl
theorem textN_val(b n:Nat)(h2:2≤b)(h36:b≤36)(hn:n<18446744073709551616):valN b (textOf b n)=n:=by
 have h:=text_val b n h2 h36 hn
 have h1:=valN_cast b (textOf b n)
 rw[h]at h1
 exact_mod_cast h1
theorem expV_small(neg:Bool)(V:Nat)(h:V≤100000):expV neg V=if neg then -(V:Int) else (V:Int):=by
 unfold expV cap
 rw[Nat.min_eq_left h]
theorem pwr_int(m:UInt8)(n:Int)(h:-100000≤n)(h':n≤100000):Pwr m (⟨#[m]⟩++intText n 10) n:=by
 by_cases hn:n<0
 ·rw[intText_neg n 10 (by omega) hn,←ByteArray.append_assoc]
  have hu:unsig (-n)=(-n).toNat:=by unfold unsig;rw[IntKind.wrap_u64];omega
  refine .inr ⟨true,⟨(textOf 10 (unsig (-n))).toArray⟩,rfl,?_,?_,?_⟩
  ·rw[←data_len];exact text_pos 10 _
  ·exact text_good 10 _ (by omega) (by omega)
  ·show n=expV true (valN 10 (textOf 10 (unsig (-n))))
   rw[textN_val 10 _ (by omega) (by omega) (unsig_lt _),hu,expV_small _ _ (by omega)]
   simp;omega
 ·rw[intText_pos n 10 (by omega) hn]
  have hu:unsig n=n.toNat:=by unfold unsig;rw[IntKind.wrap_u64];omega
  refine .inr ⟨false,⟨(textOf 10 (unsig n)).toArray⟩,?_,?_,?_,?_⟩
  ·rw[if_neg (by simp),ByteArray.append_empty];rfl
  ·rw[←data_len];exact text_pos 10 _
  ·exact text_good 10 _ (by omega) (by omega)
  ·show n=expV false (valN 10 (textOf 10 (unsig n)))
   rw[textN_val 10 _ (by omega) (by omega) (unsig_lt _),hu,expV_small _ _ (by omega)]
   simp;omega
theorem dec_zeros(V k:Nat)(e:Int):decW 10 (V*10 ^ k) e=decW 10 V (e+k):=by
 unfold decW
 by_cases hV:V=0
 ·subst hV;rw[Nat.zero_mul,if_pos rfl,if_pos rfl]
 ·have p10:∀n,0<10 ^ n:=fun n=>Nat.pow_pos (by omega)
  have hVk:V*10 ^ k≠0:=Nat.ne_of_gt (Nat.mul_pos (by omega) (p10 k))
  rw[if_neg hV,if_neg hVk]
  refine ratioW_eq _ _ _ _ (Nat.mul_pos (by omega) (p10 _)) (p10 _) (Nat.mul_pos (by omega) (p10 _)) (p10 _) ?_
  have e1:V*10 ^ k*10 ^ e.toNat*10 ^ (-(e+k)).toNat=V*10 ^ (k+e.toNat+(-(e+k)).toNat):=by rw[Nat.pow_add,Nat.pow_add];simp only[Nat.mul_assoc]
  have e2:V*10 ^ (e+k).toNat*10 ^ (-e).toNat=V*10 ^ ((e+k).toNat+(-e).toNat):=by rw[Nat.pow_add];simp only[Nat.mul_assoc]
  rw[e1,e2]
  congr 2
  omega
theorem zerosB_list(n:Nat):(zerosB n).data.toList=List.replicate n 48:=rfl
theorem zeros_good(n:Nat):good 10 (zerosB n).data.toList:=by
 rw[zerosB_list]
 intro c hc
 obtain⟨_,rfl⟩:=List.mem_replicate.1 hc
 decide
theorem good_app{a b:List UInt8}(ha:good 10 a)(hb:good 10 b):good 10 (a++b):=fun c hc=>by
 rcases List.mem_append.1 hc with h|h
 ·exact ha c h
 ·exact hb c h
theorem zeros_ahead(n:Nat)(l:List UInt8):valN 10 (List.replicate n 48++l)=valN 10 l:=by
 induction n with
 | zero=>rfl
 | succ n ih=>rw[List.replicate_succ,List.cons_append,valN_zero _ _ _ rfl,ih]
theorem zeros_behind(l:List UInt8)(n:Nat):valN 10 (l++List.replicate n 48)=valN 10 l*10 ^ n:=by
 rw[valN_append,List.length_replicate]
 have:=zeros_ahead n []
 rw[List.append_nil,valN_nil]at this
 rw[this,Nat.add_zero]
theorem read_plain(s:Bool)(ds:ByteArray)(pow:Int)(h0:0<ds.size)(hg:good 10 ds.data.toList)(hs:(sgnB s++plainB ds pow).size≤1200) :
  ReadA (sgnB s++plainB ds pow) true 0 (· = signBit s+decW 10 (valN 10 ds.data.toList) (pow-(ds.size:Int))):=by
 have hflw:∀ (t:ByteArray) (e:Int),flW s 10 t e=signBit s+decW 10 (valN 10 t.data.toList) e:=fun t e=>by unfold flW;rw[if_neg (by omega)]
 rw[sgn_text]at hs ⊢
 unfold plainB at hs ⊢
 by_cases h1:pow≤0
 ·rw[if_pos h1]at hs ⊢
  have e:(⟨#[48,46]⟩:ByteArray)++zerosB (-pow).toNat++ds=⟨#[48]⟩++(dotB++(zerosB (-pow).toNat++ds))++ByteArray.empty:=by
   apply ByteArray.ext;apply Array.toList_inj.1
   simp only[append_list]
   simp[dotB]
  rw[e]at hs ⊢
  have h:=read_made s ⟨#[48]⟩ (dotB++(zerosB (-pow).toNat++ds)) ByteArray.empty (zerosB (-pow).toNat++ds) 0 (by decide) (zeros_good 1)
   (.inr ⟨rfl,by rw[append_size];omega⟩) (by rw[append_list];exact good_app (zeros_good _) hg) (.inl ⟨rfl,rfl⟩) hs
  have hv:flW s 10 (⟨#[48]⟩++(zerosB (-pow).toNat++ds)) (-((zerosB (-pow).toNat++ds).size:Int)+0)=signBit s+decW 10 (valN 10 ds.data.toList) (pow-(ds.size:Int)):=by
   rw[hflw,append_list,append_list,zerosB_list]
   have e2:valN 10 ((⟨#[48]⟩:ByteArray).data.toList++(List.replicate (-pow).toNat 48++ds.data.toList))=valN 10 ds.data.toList:=by
    show valN 10 (48 :: (List.replicate (-pow).toNat 48++ds.data.toList))=_
    rw[valN_zero _ _ _ rfl,zeros_ahead]
   rw[e2,append_size,zerosB_size]
   congr 2
   omega
  rw[hv]at h
  exact h
 ·rw[if_neg h1]at hs ⊢
  by_cases h2:(ds.size:Int)≤pow
  ·rw[if_pos h2]at hs ⊢
   have e:ds++zerosB (pow.toNat-ds.size)=ds++zerosB (pow.toNat-ds.size)++ByteArray.empty++ByteArray.empty:=by
    rw[ByteArray.append_empty,ByteArray.append_empty]
   rw[e]at hs ⊢
   have h:=read_made s (ds++zerosB (pow.toNat-ds.size)) ByteArray.empty ByteArray.empty ByteArray.empty 0 (by rw[append_size];omega) (by rw[append_list];exact good_app hg (zeros_good _))
    (.inl ⟨rfl,rfl⟩) (fun c hc=>by cases hc) (.inl ⟨rfl,rfl⟩) hs
   have hv:flW s 10 (ds++zerosB (pow.toNat-ds.size)++ByteArray.empty) (-((ByteArray.empty:ByteArray).size:Int)+0)=signBit s+decW 10 (valN 10 ds.data.toList) (pow-(ds.size:Int)):=by
    rw[ByteArray.append_empty,hflw,append_list,zerosB_list,zeros_behind,dec_zeros]
    congr 2
    show -((0:Nat):Int)+0+_=_
    omega
   rw[hv]at h
   exact h
  ·rw[if_neg h2]at hs ⊢
   have hp:pow.toNat<ds.size:=by omega
   have e:ds.extract 0 pow.toNat++dotB++ds.extract pow.toNat ds.size=ds.extract 0 pow.toNat++(dotB++ds.extract pow.toNat ds.size)++ByteArray.empty:=by
    rw[ByteArray.append_empty,ByteArray.append_assoc]
   rw[e]at hs ⊢
   have hz1:(ds.extract 0 pow.toNat).size=pow.toNat:=by rw[ByteArray.size_extract];omega
   have hz2:(ds.extract pow.toNat ds.size).size=ds.size-pow.toNat:=by rw[ByteArray.size_extract];omega
   have hj:ds.extract 0 pow.toNat++ds.extract pow.toNat ds.size=ds:=by
    apply ByteArray.ext;apply Array.toList_inj.1
    rw[append_list,Lib.extract_eq,Lib.extract_eq]
    simp only[Nat.sub_zero,List.drop_zero]
    rw[List.take_of_length_le (l:=List.drop pow.toNat ds.data.toList) (by rw[List.length_drop,data_len];exact Nat.le_refl _),List.take_append_drop]
   have hgj:good 10 ((ds.extract 0 pow.toNat).data.toList++(ds.extract pow.toNat ds.size).data.toList):=by rw[←append_list,hj];exact hg
   have h:=read_made s (ds.extract 0 pow.toNat) (dotB++ds.extract pow.toNat ds.size) ByteArray.empty (ds.extract pow.toNat ds.size) 0 (by omega) (fun c hc=>hgj c (List.mem_append_left _ hc))
    (.inr ⟨rfl,by omega⟩) (fun c hc=>hgj c (List.mem_append_right _ hc)) (.inl ⟨rfl,rfl⟩) hs
   have hv:flW s 10 (ds.extract 0 pow.toNat++ds.extract pow.toNat ds.size) (-((ds.extract pow.toNat ds.size).size:Int)+0)=signBit s+decW 10 (valN 10 ds.data.toList) (pow-(ds.size:Int)):=by
    rw[hj,hflw,hz2]
    congr 2
    omega
   rw[hv]at h
   exact h
theorem sci_parts(ds:ByteArray)(h0:0<ds.size):ds.extract 0 1++ds.extract 1 ds.size=ds∧(ds.extract 0 1).size=1∧(ds.extract 1 ds.size).size=ds.size-1:=by
 refine⟨?_,by rw[ByteArray.size_extract];omega,by rw[ByteArray.size_extract];omega⟩
 apply ByteArray.ext;apply Array.toList_inj.1
 rw[append_list,Lib.extract_eq,Lib.extract_eq]
 simp only[Nat.sub_zero,List.drop_zero]
 rw[List.take_of_length_le (l:=List.drop 1 ds.data.toList) (by rw[List.length_drop,data_len];exact Nat.le_refl _),List.take_append_drop]
theorem read_sci(s:Bool)(ds:ByteArray)(pow:Int)(h0:0<ds.size)(hg:good 10 ds.data.toList)(hp:-90000≤pow)(hp':pow≤90000)(hs:(sgnB s++sciB ds pow).size≤1200) :
  ReadA (sgnB s++sciB ds pow) true 0 (· = signBit s+decW 10 (valN 10 ds.data.toList) (pow-(ds.size:Int))):=by
 have hflw:∀ (t:ByteArray) (e:Int),flW s 10 t e=signBit s+decW 10 (valN 10 t.data.toList) e:=fun t e=>by unfold flW;rw[if_neg (by omega)]
 obtain⟨hj,hz1,hz2⟩:=sci_parts ds h0
 have hgj:good 10 ((ds.extract 0 1).data.toList++(ds.extract 1 ds.size).data.toList):=by rw[←append_list,hj];exact hg
 have hP:=pwr_int 101 (pow-1) (by omega) (by omega)
 rw[sgn_text]at hs ⊢
 unfold sciB at hs ⊢
 by_cases h1:1<ds.size
 ·rw[if_pos h1]at hs ⊢
  have e:ds.extract 0 1++(⟨#[46]⟩++ds.extract 1 ds.size)++⟨#[101]⟩++intText (pow-1) 10=ds.extract 0 1++(dotB++ds.extract 1 ds.size)++(⟨#[101]⟩++intText (pow-1) 10):=by
   rw[ByteArray.append_assoc];rfl
  rw[e]at hs ⊢
  have h:=read_made s (ds.extract 0 1) (dotB++ds.extract 1 ds.size) (⟨#[101]⟩++intText (pow-1) 10) (ds.extract 1 ds.size) (pow-1) (by omega) (fun c hc=>hgj c (List.mem_append_left _ hc))
   (.inr ⟨rfl,by omega⟩) (fun c hc=>hgj c (List.mem_append_right _ hc)) hP hs
  have hv:flW s 10 (ds.extract 0 1++ds.extract 1 ds.size) (-((ds.extract 1 ds.size).size:Int)+(pow-1))=signBit s+decW 10 (valN 10 ds.data.toList) (pow-(ds.size:Int)):=by
   rw[hj,hflw,hz2]
   congr 2
   omega
  rw[hv]at h
  exact h
 ·rw[if_neg h1]at hs ⊢
  have hd1:ds.size=1:=by omega
  have he:ds.extract 0 1=ds:=by
   have h2:ds.extract 1 ds.size=ByteArray.empty:=by
    apply ByteArray.ext;apply Array.toList_inj.1
    rw[Lib.extract_eq,hd1];simp
   rw[h2,ByteArray.append_empty]at hj
   exact hj
  rw[he]at hs ⊢
  have e:ds++⟨#[101]⟩++intText (pow-1) 10=ds++ByteArray.empty++(⟨#[101]⟩++intText (pow-1) 10):=by
   rw[ByteArray.append_empty,ByteArray.append_assoc]
  rw[e]at hs ⊢
  have h:=read_made s ds ByteArray.empty (⟨#[101]⟩++intText (pow-1) 10) ByteArray.empty (pow-1) h0 hg (.inl ⟨rfl,rfl⟩) (fun c hc=>by cases hc) hP hs
  have hv:flW s 10 (ds++ByteArray.empty) (-((ByteArray.empty:ByteArray).size:Int)+(pow-1))=signBit s+decW 10 (valN 10 ds.data.toList) (pow-(ds.size:Int)):=by
   rw[ByteArray.append_empty,hflw]
   congr 2
   show -((0:Nat):Int)+_=_
   omega
  rw[hv]at h
  exact h
end Go.Proofs.YtenbfookfcmpoaaGreatDoor
namespace Go.Proofs.YtenbfookfcmpoaaGreatDoor
open Go.RowKit
theorem ten_two(s d:Nat)(h:s<d):10 ^ d=2 ^ s*(10*(2 ^ (d-s-1)*5 ^ (d-1))):=by
 have e:2 ^ s*(10*(2 ^ (d-s-1)*5 ^ (d-1)))=(2 ^ s*2 ^ (d-s-1)*2)*(5 ^ (d-1)*5):=by
  rw[show(10:Nat)=2*5 from rfl]
  ac_rfl
 rw[e,←Nat.pow_add,←Nat.pow_succ,←Nat.pow_succ,show(s+(d-s-1)).succ=d by omega,show(d-1).succ=d by omega,←Nat.mul_pow]
theorem behind_few(V Q s d:Nat)(h:V*2 ^ s=Q*10 ^ d)(hV:V % 10≠0):d≤s:=by
 apply Nat.le_of_not_lt
 intro hlt
 rw[ten_two s d hlt]at h
 have h2:V*2 ^ s=(Q*(10*(2 ^ (d-s-1)*5 ^ (d-1))))*2 ^ s:=by rw[h];simp only[Nat.mul_comm,Nat.mul_left_comm]
 have h3:=Nat.eq_of_mul_eq_mul_right (Nat.two_pow_pos s) h2
 apply hV
 rw[h3,Nat.mul_left_comm]
 exact Nat.mul_mod_right _ _
theorem ten_33(k:Nat):2 ^ (33*k)≤10 ^ (10*k):=by
 rw[Nat.pow_mul,Nat.pow_mul]
 exact Nat.pow_le_pow_left (by decide) k
theorem first_ge(ds:ByteArray)(h0:0<ds.size)(hz:∀h:0<ds.size,ds[0].toNat≠48):10 ^ (ds.size-1)≤valN 10 ds.data.toList:=by
 rw[text_cons ds h0]
 have h1:=valN_good_ge 10 ds[0] (ds.extract 1 ds.size).data.toList (fun h=>hz h0 ((digN_zero _).1 h))
 have h2:=extract_one ds h0
 rw[data_len]at h1
 rwa [show ds.size-1=(ds.extract 1 ds.size).size by omega]
theorem exD_sizes(ds:ByteArray)(pow:Int)(q:Nat)(E:Int)(h:ExD ds pow q E)(hq:q<9007199254740992)(hE:-1074≤E)(hX:∀N,N=971→q*2 ^ E.toNat<2 ^ 53*2 ^ N) :
  (ds.size:Int)-pow≤1074∧pow≤320∧ds.size≤1090∧-1074≤pow:=by
 obtain⟨h0,hg,hf,hl,he⟩:=h
 have hV:=last_some ds h0 hg hl
 have hge:=first_ge ds h0 hf
 generalize valN 10 ds.data.toList=V at *
 have hd:(ds.size:Int)-pow≤((-E).toNat:Int):=by
  by_cases hp:(ds.size:Int)≤pow
  ·omega
  ·rw[show(pow-(ds.size:Int)).toNat=0 by omega,Nat.pow_zero,Nat.mul_one]at he
   have:=behind_few V (q*2 ^ E.toNat) (-E).toNat ((ds.size:Int)-pow).toNat he hV
   omega
 have hup:0<pow→10 ^ (pow-1).toNat*2 ^ (-E).toNat≤q*2 ^ E.toNat:=fun hp=>by
  by_cases hs:(ds.size:Int)≤pow
  ·rw[show((ds.size:Int)-pow).toNat=0 by omega,Nat.pow_zero,Nat.mul_one]at he
   rw[←he]
   refine Nat.mul_le_mul_right _ ?_
   have:10 ^ (pow-1).toNat=10 ^ (ds.size-1)*10 ^ (pow-(ds.size:Int)).toNat:=by rw[←Nat.pow_add];congr 1;omega
   rw[this]
   exact Nat.mul_le_mul_right _ hge
  ·rw[show(pow-(ds.size:Int)).toNat=0 by omega,Nat.pow_zero,Nat.mul_one]at he
   have h10:0<10 ^ ((ds.size:Int)-pow).toNat:=Nat.pow_pos (by omega)
   refine Nat.le_of_mul_le_mul_right ?_ h10
   rw[←he,Nat.mul_assoc,Nat.mul_comm (2 ^ (-E).toNat),←Nat.mul_assoc]
   refine Nat.mul_le_mul_right _ ?_
   rw[←Nat.pow_add,show(pow-1).toNat+((ds.size:Int)-pow).toNat=ds.size-1 by omega]
   exact hge
 have hpow:pow≤320:=by
  apply Classical.byContradiction
  intro hn
  have h1:=hup (by omega)
  obtain⟨N,hN⟩:∃N:Nat,N=971:=⟨_,rfl⟩
  have h2:=hX N hN
  obtain⟨K,hK⟩:∃K:Nat,K=32:=⟨_,rfl⟩
  have h3:10 ^ (10*K)≤10 ^ (pow-1).toNat:=Nat.pow_le_pow_right (by omega) (by omega)
  have h4:=ten_33 K
  have h5:10 ^ (pow-1).toNat≤10 ^ (pow-1).toNat*2 ^ (-E).toNat:=Nat.le_mul_of_pos_right _ (Nat.two_pow_pos _)
  have h6:2 ^ 53*2 ^ N≤2 ^ (33*K):=by rw[←Nat.pow_add];exact Nat.pow_le_pow_right (by omega) (by omega)
  exact Nat.lt_irrefl _ (Nat.lt_of_le_of_lt (Nat.le_trans h6 (Nat.le_trans h4 (Nat.le_trans h3 (Nat.le_trans h5 h1)))) h2)
 have hneg:E<0→pow≤16:=fun hE0=>by
  apply Classical.byContradiction
  intro hn
  have h1:=hup (by omega)
  rw[show E.toNat=0 by omega,Nat.pow_zero,Nat.mul_one]at h1
  have h3:10 ^ 16≤10 ^ (pow-1).toNat:=Nat.pow_le_pow_right (by omega) (by omega)
  have h5:10 ^ (pow-1).toNat≤10 ^ (pow-1).toNat*2 ^ (-E).toNat:=Nat.le_mul_of_pos_right _ (Nat.two_pow_pos _)
  have h6:(10:Nat) ^ 16=10000000000000000:=by decide
  omega
 refine⟨by omega,hpow,?_,by omega⟩
 by_cases hE0:E<0
 ·have:=hneg hE0;omega
 ·omega
theorem odd_bounds(n:Nat)(p:Int)(q k:Nat)(hc:Canon n p)(hn:0<n)(hq:n=q*2 ^ k):q<9007199254740992∧-1074≤p+k∧p+k≤1100∧k≤52:=by
 have hn2:n<9007199254740992:=by rcases hc with h|h<;>omega
 have hp:-1074≤p∧p≤971:=by rcases hc with h|h<;>omega
 have hk:0<2 ^ k:=Nat.two_pow_pos k
 have hq0:0<q:=by
  apply Nat.pos_of_ne_zero
  intro h
  rw[h,Nat.zero_mul]at hq
  omega
 have h1:q≤n:=by rw[hq];exact Nat.le_mul_of_pos_right _ hk
 have h2:2 ^ k≤n:=by rw[hq];exact Nat.le_mul_of_pos_left _ hq0
 have h3:k≤52:=by
  apply Nat.le_of_not_lt
  intro hlt
  have:2 ^ 53≤2 ^ k:=Nat.pow_le_pow_right (by omega) (by omega)
  have e:(2:Nat) ^ 53=9007199254740992:=by decide
  omega
 omega
theorem exact_sizes(n:Nat)(p:Int)(q k:Nat)(ds:ByteArray)(pow:Int)(hc:Canon n p)(hn:0<n)(hq:n=q*2 ^ k)(hd:ExD ds pow q (p+k)) :
  (ds.size:Int)-pow≤1074∧pow≤320∧ds.size≤1090∧-1074≤pow:=by
 obtain⟨h1,h2,_,_⟩:=odd_bounds n p q k hc hn hq
 have hn2:n<9007199254740992:=by rcases hc with h|h<;>omega
 have hp:-1074≤p∧p≤971:=by rcases hc with h|h<;>omega
 refine exD_sizes ds pow q (p+k) hd h1 h2 fun N hN=>?_
 have e53:(2:Nat) ^ 53=9007199254740992:=by decide
 have hle:q*2 ^ (p+(k:Int)).toNat≤n*2 ^ p.toNat:=by
  rw[hq,Nat.mul_assoc,←Nat.pow_add]
  exact Nat.mul_le_mul_left _ (Nat.pow_le_pow_right (by omega) (by omega))
 refine Nat.lt_of_le_of_lt hle ?_
 have e1:n*2 ^ p.toNat<2 ^ 53*2 ^ p.toNat:=Nat.mul_lt_mul_of_pos_right (by omega) (Nat.two_pow_pos _)
 have e2:2 ^ 53*2 ^ p.toNat≤2 ^ 53*2 ^ N:=Nat.mul_le_mul_left _ (Nat.pow_le_pow_right (by omega) (by omega))
 exact Nat.lt_of_lt_of_le e1 e2
theorem sgn_one{s:ByteArray}{k j j':Nat}{n n':Bool}(h:Sgn s k n j)(h':Sgn s k n' j'):n=n'∧j=j':=by
 rcases h with⟨_,a,rfl,rfl⟩|⟨_,a,rfl,rfl⟩|⟨a,b,rfl,rfl⟩<;>rcases h' with⟨_,c,rfl,rfl⟩|⟨_,c,rfl,rfl⟩|⟨c,d,rfl,rfl⟩<;>first|exact⟨rfl,rfl⟩|(exfalso;omega)
theorem bas_one{s:ByteArray}{k b j b' j':Nat}(h:Bas s k b j)(h':Bas s k b' j'):b=b'∧j=j':=by
 rcases h with⟨a1,a2,a3,rfl,rfl⟩|⟨a,rfl,rfl⟩<;>rcases h' with⟨c1,c2,c3,rfl,rfl⟩|⟨c,rfl,rfl⟩
 ·exact⟨rfl,rfl⟩
 ·exact absurd ⟨a1,a2,a3⟩ c
 ·exact absurd ⟨c1,c2,c3⟩ a
 ·exact⟨rfl,rfl⟩
theorem frac_one{b:Nat}{s:ByteArray}{k j:Nat}{r r':Option (ByteArray × Int × Nat)}(h:Frac b s k j r)(h':Frac b s k j r'):r=r':=by
 rcases h with⟨a,rfl⟩|⟨a,i,hi,h⟩<;>rcases h' with⟨c,rfl⟩|⟨c,i',hi',h'⟩
 ·rfl
 ·exact absurd c a
 ·exact absurd a c
 ·obtain rfl:=run_one _ _ _ _ _ hi hi'
  rcases h with⟨e,rfl⟩|⟨e,rfl⟩<;>rcases h' with⟨e',rfl⟩|⟨e',rfl⟩<;>first|rfl|(exfalso;omega)
theorem expo_one{m:Int}{s:ByteArray}{j:Nat}{r r':Sum (Int × Nat) Nat}(h:Expo m s j r)(h':Expo m s j r'):r=r':=by
 rcases h with⟨a,rfl⟩|⟨a,n,k,i,hs,hi,h⟩<;>rcases h' with⟨c,rfl⟩|⟨c,n',k',i',hs',hi',h'⟩
 ·rfl
 ·exact absurd c a
 ·exact absurd a c
 ·obtain⟨rfl,rfl⟩:=sgn_one hs hs'
  obtain rfl:=run_one _ _ _ _ _ hi hi'
  rcases h with⟨e,rfl⟩|⟨e,rfl⟩<;>rcases h' with⟨e',rfl⟩|⟨e',rfl⟩<;>first|rfl|(exfalso;omega)
theorem word_two(x:Int)(n n':Bool)(h:x=wordC n 0)(h':x=wordC n' 0):n=n':=by
 cases n<;>cases n'<;>first|rfl|(exfalso;simp[wordC]at h h';omega)
theorem word_not(x:Int)(n:Bool)(h:x=wordC n 0)(h1:x≠105)(h2:x≠110):False:=by
 cases n<;>simp[wordC]at h<;>omega
theorem readA_one{s:ByteArray}{ok ok':Bool}{pl pl':Int}{fl fl':Nat→Prop}(h:ReadA s ok pl fl)(h':ReadA s ok' pl' fl'):ok=ok'∧pl=pl'∧fl=fl':=by
 rcases h with⟨hs,rfl,rfl,rfl⟩|⟨hs,neg,k,hg,h⟩<;>rcases h' with⟨hs',rfl,rfl,rfl⟩|⟨hs',neg',k',hg',h'⟩
 ·exact⟨rfl,rfl,rfl⟩
 ·omega
 ·omega
 obtain⟨rfl,rfl⟩:=sgn_one hg hg'
 rcases h with⟨nan,hw,i,hi,hm,h⟩|⟨n1,n2,b,k1,j,hb,hr,h⟩<;>rcases h' with⟨nan',hw',i',hi',hm',h'⟩|⟨n1',n2',b',k1',j',hb',hr',h'⟩
 ·obtain rfl:=word_two _ _ _ hw hw'
  have e:i=i':=by
   rcases Nat.lt_trichotomy i i' with hl|e|hl
   ·exfalso
    have:=hm' i hl
    rcases h with⟨_,h,_⟩|⟨h,_⟩|⟨h,_⟩
    ·exact h this
    ·omega
    ·omega
   ·exact e
   ·exfalso
    have:=hm i' hl
    rcases h' with⟨_,h,_⟩|⟨h,_⟩|⟨h,_⟩
    ·exact h this
    ·omega
    ·omega
  subst e
  rcases h with⟨a,_,rfl,rfl,rfl⟩|⟨a,c,rfl,rfl,rfl⟩|⟨a,c,rfl,rfl,rfl⟩<;>rcases h' with⟨a',_,rfl,rfl,rfl⟩|⟨a',c',rfl,rfl,rfl⟩|⟨a',c',rfl,rfl,rfl⟩<;>first|exact⟨rfl,rfl,rfl⟩|(exfalso;omega)
 ·exact(word_not _ _ hw n1' n2').elim
 ·exact(word_not _ _ hw' n1 n2).elim
 ·obtain⟨rfl,rfl⟩:=bas_one hb hb'
  obtain rfl:=run_one _ _ _ _ _ hr hr'
  rcases h with⟨e,rfl,rfl,rfl⟩|⟨e,r,hf,h⟩<;>rcases h' with⟨e',rfl,rfl,rfl⟩|⟨e',r',hf',h'⟩
  ·exact⟨rfl,rfl,rfl⟩
  ·omega
  ·omega
  obtain rfl:=frac_one hf hf'
  rcases h with⟨rfl,rfl,rfl,rfl⟩|⟨ds,ex,i,x,hr1,hx,h⟩<;>rcases h' with⟨h2,rfl,rfl,rfl⟩|⟨ds',ex',i',x',hr2,hx',h'⟩
  ·exact⟨rfl,rfl,rfl⟩
  ·cases hr2
  ·rw[hr1]at h2;cases h2
  rw[hr1]at hr2
  obtain⟨rfl,rfl,rfl⟩:ds=ds'∧ex=ex'∧i=i':=by simpa using hr2
  obtain rfl:=expo_one hx hx'
  rcases h with⟨a,rfl,rfl,rfl,rfl⟩|⟨n,a,rfl,h⟩<;>rcases h' with⟨a',e',rfl,rfl,rfl⟩|⟨n',a',e',h'⟩
  ·cases e';exact⟨rfl,rfl,rfl⟩
  ·cases e'
  ·cases e'
  ·cases e'
   rcases h with⟨a1,rfl,rfl,rfl⟩|⟨a1,rfl,rfl,rfl⟩<;>rcases h' with⟨a2,rfl,rfl,rfl⟩|⟨a2,rfl,rfl,rfl⟩<;>first|exact⟨rfl,rfl,rfl⟩|exact absurd a1 a2|exact absurd a2 a1
end Go.Proofs.YtenbfookfcmpoaaGreatDoor
namespace Go.Proofs.YtenbfookfcmpoaaGreatDoor
open Go.ChangeShapes Go.WideShapes Go.RowKit
set_option maxHeartbeats 400000 in
theorem implBits_any(n b:Int)(w:World)(ht:Tab w)(hw:1<w.heap.size) :
  Calls Tryz.prog 165 #[.int .i64 n,.int .i64 b] w fun e w'=>e=.returned (.string (bitsText n b))∧Below w.heap.size w w':=by
 have HB:Hid _:=isBase_any b
 by_cases h:2≤b∧b≤36
 ·rw[isB_yes b h.1 h.2]at HB
  have HV:Hid (bitsText n b=⟨(textOf b.toNat (unsig n)).toArray⟩):=by unfold bitsText;exact if_pos h
  have HC:Hid _:=fun(_:Unit)=>implDigits_at _ b (unsig n) (unsig_cast n) w (unsig_lt n) h.1 h.2 ht hw
  obtain⟨h2,h36⟩:=h
  clear ht
  go_enter Tryz.func165,Tryz.ntmps165
  go_wp2_with (go_at_call 181;refine(HB.out _).mono ?_;rintro e w' ⟨rfl,rfl⟩)
  refine(HC.out ()).mono ?_
  rintro e w1 ⟨rfl,hb⟩
  have HX:Hid _:=hb
  clear hb
  go_wp2
  go_ret
  exact⟨by rw[HV.out];rfl,HX.out⟩
 ·rw[isB_no b (by omega)]at HB
  have HV:Hid (bitsText n b=⟨#[]⟩):=by unfold bitsText;exact if_neg h
  clear h ht
  go_enter Tryz.func165,Tryz.ntmps165
  go_wp2_with (go_at_call 181;refine(HB.out _).mono ?_;rintro e w' ⟨rfl,rfl⟩)
  go_ret
  exact⟨by rw[HV.out];rfl,Below.refl _ _⟩
end Go.Proofs.YtenbfookfcmpoaaGreatDoor
namespace Go.Proofs.YtenbfookfcmpoaaGreatDoor
open Go.ChangeShapes Go.WideShapes Go.RowKit Go.Shelf
def repRen:Go.Shelf.Ren:=⟨fun|212=>170|241=>185|263=>183|264=>184|277=>188|n=>n,fun|0=>0|3=>3|5=>5|37=>22|46=>85|51=>112|53=>44|70=>93|72=>95|146=>265|148=>267|n=>n,fun|n=>n⟩
theorem repLays241:Go.Proofs.Lays.n241 Tryz.prog repRen:={
 mixed:=by kernel_rfl
 f241:=Tryz.func185.trans (congrArg some (by kernel_rfl))
 f277:=Tryz.func188.trans (congrArg some (by kernel_rfl))
 t0:=Tryz.underlying0
 a0:=Tryz.isAgg0
 z0:=Tryz.sizeOf0
 v0:=Tryz.zeroValue0
 t3:=Tryz.underlying3
 a3:=Tryz.isAgg3
 z3:=Tryz.sizeOf3
 v3:=Tryz.zeroValue3
 t37:=Tryz.underlying22
 a37:=Tryz.isAgg22
 z37:=Tryz.sizeOf22
 v37:=Tryz.zeroValue22
 t70:=Tryz.underlying93
 a70:=Tryz.isAgg93
 z70:=Tryz.sizeOf93
 v70:=Tryz.zeroValue93
 t72:=Tryz.underlying95
 a72:=Tryz.isAgg95
 z72:=Tryz.sizeOf95
 v72:=Tryz.zeroValue95 }
theorem repLays212:Go.Proofs.Lays.n212 Tryz.prog repRen:={
 mixed:=by kernel_rfl
 f212:=Tryz.func170.trans (congrArg some (by kernel_rfl))
 f263:=Tryz.func183.trans (congrArg some (by kernel_rfl))
 f264:=Tryz.func184.trans (congrArg some (by kernel_rfl))
 t46:=Tryz.underlying85
 a46:=Tryz.isAgg85
 z46:=Tryz.sizeOf85
 v46:=Tryz.zeroValue85
 t51:=Tryz.underlying112
 a51:=Tryz.isAgg112
 z51:=Tryz.sizeOf112
 v51:=Tryz.zeroValue112
 t53:=Tryz.underlying44
 a53:=Tryz.isAgg44
 z53:=Tryz.sizeOf44
 v53:=Tryz.zeroValue44
 t146:=Tryz.underlying265
 a146:=Tryz.isAgg265
 z146:=Tryz.sizeOf265
 v146:=Tryz.zeroValue265
 t148:=Tryz.underlying267
 a148:=Tryz.isAgg267
 z148:=Tryz.sizeOf267
 v148:=Tryz.zeroValue267 }
theorem repExtra:Builder.Extra Tryz.prog repRen:={
 sizeBuilder:=by kernel_rfl
 liesBuilder:=by kernel_rfl
 t5:=Tryz.underlying5
 a5:=Tryz.isAgg5
 z5:=Tryz.sizeOf5
 v5:=Tryz.zeroValue5
 infoByte:=by kernel_rfl
 cellsByte:=by kernel_rfl
 sizeByte:=by kernel_rfl
 neB5:=by decide }
def repB(x:UInt8)(n:Nat):ByteArray:=⟨(List.replicate n x).toArray⟩
theorem repB_size(x:UInt8)(n:Nat):(repB x n).size=n:=by rw[←data_len];show(List.replicate n x).length=n;simp
theorem fast_rep(K:List UInt8)(y:UInt8)(m:Nat)(hK:K=List.replicate m y)(x:UInt8)(S:ByteArray)(hS:S=⟨#[x]⟩)(n:Nat)(hn:n≤m)(hp:pre ⟨K.toArray⟩ S=true):(⟨K.toArray⟩:ByteArray).extract 0 n=repB x n:=by
 have h:=(pre_eq _ _).1 hp
 rw[hS]at h
 have h1:K.take 1 = [x]:=h
 rw[hK,List.take_replicate]at h1
 have hyx:y=x:=by
  have:(List.replicate (min 1 m) y).head? = some x:=by rw[h1];rfl
  have hm:min 1 m=1:=by
   rcases Nat.eq_zero_or_pos m with h0|h0
   ·rw[h0]at h1;simp at h1
   ·omega
  rw[hm]at this
  simpa using this
 apply ByteArray.ext
 apply Array.toList_inj.1
 have e:((⟨K.toArray⟩:ByteArray).extract 0 n).data.toList=K.take n:=by simp
 rw[e,hK,List.take_replicate,hyx,Nat.min_eq_left hn]
 rfl
theorem bgrow_any(B b n:Nat)(w:World)(hB:B≤b)(hbk:w.heap[b]? = some (.cells #[.pointer (some ⟨b,0,none⟩),.slice none 0 0] 95 (0,0)))(hBw:B≤w.heap.size)(hn:n≤281474976710656) :
  Calls Tryz.prog 185 #[.pointer (some ⟨b,0,none⟩),.int .i64 (n:Int)] w fun e w'=>e=.returned (.tuple #[])∧(Lib.BuilderAt 95 5 B b (.pointer (some ⟨b,0,none⟩)) [] w'∧Below B w w'):=
 Any.Builder_grow_fresh repLays241 repExtra B b n w hB hbk hBw hn
theorem bmul_any(n:Nat)(hn:n≤400)(w:World) :
  Calls Tryz.prog 170 #[.int .u64 1,.int .u64 (n:Int)] w fun e w'=>e=.returned (.tuple #[.int .u64 0,.int .u64 (n:Int)])∧w'=w:=by
 have h:=Any.bits_Mul repLays212 1 n (by omega) (by omega) w
 rw[Nat.one_mul,Nat.div_eq_of_lt (by omega),Nat.mod_eq_of_lt (by omega)]at h
 exact h
theorem lies0:liesAt Tryz.prog Tryz.prog.depth 95 (2 / Tryz.prog.cellsOf 95) 0 95 1=true:=by kernel_rfl
set_option maxHeartbeats 2000000 in
set_option maxRecDepth 100000 in
theorem bGrow_any(B b n:Nat)(w:World)(hB:B≤b)(hbk:w.heap[b]? = some (.cells #[.pointer none,.slice none 0 0] 95 (0,0)))(hBw:B≤w.heap.size)(h2:2≤n)(hn:n≤400) :
  Calls Tryz.prog 171 #[.pointer (some ⟨b,0,none⟩),.int .i64 (n:Int)] w fun e w'=>e=.returned (.tuple #[])∧(∃v,Bd w' B b 0 95 #[.pointer (some ⟨b,0,none⟩),v] v [])∧Below B w w':=by
 have hBd:Bd w B b 0 95 #[.pointer none,.slice none 0 0] (.slice none 0 0) []:=⟨hB,hbk,.inl rfl,rfl,World.ownsRowF_nil w B _ _,lies0,by decide⟩
 have HC:Hid _:=fun(_:Unit)=>gCopy_any B b 0 _ _ _ _ w hBd
 have HB:Hid (B≤b∧B≤w.heap.size):=⟨hB,hBw⟩
 have hn':(n:Int)≤400:=by omega
 have h2':2≤(n:Int):=by omega
 clear hBd hbk hB hBw
 go_enter Tryz.func171,Tryz.ntmps171
 go_wp2_with fail
 refine(HC.out ()).mono ?_
 rintro e w1 ⟨rfl,h1,hb1⟩
 have c1:w1.cell? ⟨b,1,none⟩=some (.slice none 0 0):=h1.c1
 have HG:Hid (∀m,Calls Tryz.prog 185 #[.pointer (some ⟨b,0,none⟩),.int .i64 (n:Int)] (w1.drewN m) fun e w'=>e=.returned (.tuple #[])∧(Lib.BuilderAt 95 5 B b (.pointer (some ⟨b,0,none⟩)) [] w'∧Below B (w1.drewN m) w')):=fun m=>bgrow_any B b n (w1.drewN m) HB.out.1 h1.blk (Nat.le_trans HB.out.2 hb1.size) (by omega)
 have HX:Hid (∀m,Below B w (w1.drewN m)):=fun m=>below_drewN hb1 m
 clear h1 hb1 HC
 go_wp2_with fail
 go_quiet (fail)
 go_wp2_with fail
 refine(HG.out _).mono ?_
 rintro e w2 ⟨rfl,hB2,hb2⟩
 go_wp2_with fail
 go_end0
 obtain⟨hB3,v,h4,h5,_⟩:=hB2
 exact⟨rfl,⟨v,hB3,h4,.inr rfl,rfl,World.ownsRowF_of h5,lies0,by decide⟩,(HX.out _).trans hb2⟩
def RepB(w:World)(x:UInt8)(k:Nat)(W:World):Prop:=(∃p v,Bd W w.heap.size w.heap.size 0 95 #[p,v] v (Lib.byteCells (List.replicate k x)))∧Below w.heap.size w W
theorem RepB.isB{w W:World}{x:UInt8}{k:Nat}(h:RepB w x k W):Lib.IsBuilderF 95 5 w.heap.size w.heap.size (Lib.byteCells (List.replicate k x)) W:=by
 obtain⟨⟨p,v,h⟩,_⟩:=h
 rcases h.adr with e|e
 ·exact .inl ⟨h.base,v,by rw[h.blk];simp at e;rw[e],h.own,h.ne⟩
 ·exact .inr ⟨h.base,v,by rw[h.blk];simp at e;rw[e],h.own,h.ne⟩
theorem repB_of{w W W':World}{x:UInt8}{k:Nat}(h:RepB w x k W)(hb:Lib.IsBuilderF 95 5 w.heap.size w.heap.size (Lib.byteCells (List.replicate k x)) W')(hw:Below w.heap.size W W'):RepB w x k W':=by
 rcases hb with⟨hB,v,hk,hown,hne⟩|⟨hB,v,hk,hown,hne⟩
 ·exact⟨⟨_,v,hB,hk,.inl rfl,rfl,hown,lies0,by decide⟩,h.2.trans hw⟩
 ·exact⟨⟨_,v,hB,hk,.inr rfl,rfl,hown,lies0,by decide⟩,h.2.trans hw⟩
theorem run_min3(ts:Array TypeId)(t:TypeId)(a b c d:Int)(hd:min (min a b) c=d)(W:World):(Builtin.min_ ts t #[.int .i64 a,.int .i64 b,.int .i64 c]).run Tryz.prog W=.ok (.int .i64 d) W:=by
 have e:(Builtin.min_ ts t #[.int .i64 a,.int .i64 b,.int .i64 c]).run Tryz.prog W=.ok (.int .i64 (if c<(if b<a then b else a) then c else (if b<a then b else a))) W:=by simp[Builtin.min_,Builtin.min2]
 rw[e]
 congr 2
 rw[←hd]
 split<;>split<;>omega
theorem repB_text(x:UInt8)(k:Nat):Lib.strCells (repB x k)=Lib.byteCells (List.replicate k x):=rfl
theorem repB_take(x:UInt8)(k c:Nat)(h:c≤k):(repB x k).extract 0 c=repB x c:=by
 apply ByteArray.ext
 apply Array.toList_inj.1
 have e:((repB x k).extract 0 c).data.toList=(List.replicate k x).take c:=by unfold repB;simp
 rw[e,List.take_replicate,Nat.min_eq_left h]
 rfl
set_option maxHeartbeats 4000000 in
set_option maxRecDepth 1000000 in
theorem repeat_main(x:UInt8)(n:Nat)(h2:2≤n)(hn:n≤400)(w:World) :
  Calls Tryz.prog 159 #[.string ⟨#[x]⟩,.int .i64 (n:Int)] w fun e w'=>e=.returned (.string (repB x n))∧Below w.heap.size w w':=by
 obtain⟨S,hS⟩:∃S:ByteArray,(⟨#[x]⟩:ByteArray)=S:=⟨_,rfl⟩
 have hsz:S.size=1:=by rw[←hS];rfl
 have HS:Hid (S=⟨#[x]⟩):=hS.symm
 rw[hS]
 have hMul:=bmul_any n hn w
 have hn':(n:Int)≤400:=by omega
 have h2':2≤(n:Int):=by omega
 have HPX:Hid _:=fun K W=>hasPrefix_any K S W
 clear hS
 go_enter Tryz.func159,Tryz.ntmps159
 go_upto_block 1 with(go_at_call 170;go_fit hMul;rintro e w' ⟨rfl,hw⟩;rw[hw])
 clear hMul
 go_cut [] (fun wx=>w=wx)
 case first=>
  go_upto_if 43 with fail
  go_cut [43] (fun s43 wx=>w=wx∧∃F:Bool,s43=.bool F)
  case first=>
   go_wp2
   all_goals (go_meet;exact⟨rfl,_,rfl⟩)
  case rest=>
   obtain⟨rfl,F,rfl⟩:=hcut
   cases F
   ·go_wp2
    go_meet
    rfl
   ·go_wp2_with (go_at_call 118;refine(HPX.out _ _).mono ?_;rintro e w' ⟨rfl,hw⟩;rw[hw])
    all_goals (first
     | (go_meet;rfl)
     | (go_ret;first
       | exact⟨by rw[fast_rep _ 32 128 (by rfl) x S HS.out n (by omega) (by assumption)]<;>rfl,Below.refl _ _⟩
       | exact⟨by rw[fast_rep _ 45 128 (by rfl) x S HS.out n (by omega) (by assumption)]<;>rfl,Below.refl _ _⟩
       | exact⟨by rw[fast_rep _ 48 64 (by rfl) x S HS.out n (by omega) (by assumption)]<;>rfl,Below.refl _ _⟩
       | exact⟨by rw[fast_rep _ 61 128 (by rfl) x S HS.out n (by omega) (by assumption)]<;>rfl,Below.refl _ _⟩
       | exact⟨by rw[fast_rep _ 9 64 (by rfl) x S HS.out n (by omega) (by assumption)]<;>rfl,Below.refl _ _⟩))
 case rest=>
  obtain rfl:=hcut
  clear HPX
  have hb0:Below w.heap.size w (w.alloc (.cells #[.pointer none,.slice none 0 0] 95)):=(Below.refl _ w).alloc (Nat.le_refl _) _
  have HG:Hid _:=fun(_:Unit)=>bGrow_any w.heap.size w.heap.size n (w.alloc (.cells #[.pointer none,.slice none 0 0] 95)) (Nat.le_refl _) (heap_alloc_new w _) hb0.size h2 hn
  go_wp2_with fail
  refine(HG.out ()).mono ?_
  rintro e W1 ⟨rfl,⟨v1,h1⟩,hb1⟩
  have HW:Hid _:=fun(_:Unit)=>gText_any w.heap.size w.heap.size 0 _ _ _ _ S W1 h1 (by simp;omega) (Nat.le_trans hb0.size hb1.size)
  have HB1:Hid (Below w.heap.size w W1):=hb0.trans hb1
  clear HG hb0 h1 hb1
  go_wp2_with fail
  refine(HW.out ()).mono ?_
  rintro e W2 ⟨rfl,v2,h2b,hb2⟩
  have HR:Hid (RepB w x 1 W2):=by
   refine⟨⟨.pointer (some ⟨w.heap.size,0,none⟩),v2,?_⟩,HB1.out.trans hb2⟩
   rw[HS.out]at h2b
   exact h2b
  clear h2b hb2 HW HB1
  try go_wp2_with fail
  go_loopg [] (n-1) (fun g wx=>∃k:Nat,1≤k∧k+g=n∧Hid (RepB w x k wx))
  case atStart=>exact⟨1,Nat.le_refl _,by omega,HR⟩
  case round=>
   clear HR
   obtain⟨k,hk1,hkg,HR⟩:=hrel
   have HL:Hid (Calls Tryz.prog 172 #[.pointer (some ⟨w.heap.size,0,none⟩)] wr fun e w'=>e=.returned (.int .i64 (k:Int))∧w'=wr):=by
    obtain⟨⟨p,v,h⟩,_⟩:=HR.out
    have:=gLen_any _ _ 0 _ _ _ _ wr h
    rw[Lib.byteCells_length,List.length_replicate]at this
    exact this
   have HST:Hid (Calls Tryz.prog 42 #[.pointer (some ⟨w.heap.size,0,none⟩)] wr fun e w'=>e=.returned (.string (repB x k))∧Hid (RepB w x k w')):=
    (bldString_any _ _ (List.replicate k x) wr HR.out.isB HR.out.2.size).mono fun e w' ⟨a,b,c,_⟩=>⟨a,repB_of HR.out b c⟩
   have hk4:(k:Int)≤400:=by omega
   cases gk with
   | zero=>
    obtain rfl:k=n:=by omega
    have hlt:decide ((k:Int)<(k:Int))=false:=decide_eq_false (by omega)
    go_wp2_with (first|(go_at_call 172;refine HL.out.mono ?_;rintro e w' ⟨rfl,hw⟩;rw[hw])|(go_at_call 42;refine HST.out.mono ?_;rintro e w' ⟨rfl,HR2⟩))
    go_ret
    exact⟨rfl,HR2.out.2⟩
   | succ g=>
    obtain⟨c,hc⟩:∃c,min (min (n-k) k) n=c:=⟨_,rfl⟩
    have hc1:1≤c∧c≤k∧k+c≤n:=by omega
    have hmin3:∀ (ts:Array TypeId) (t:TypeId) (W:World),(Builtin.min_ ts t #[.int .i64 ((n:Int)-(k:Int)),.int .i64 (k:Int),.int .i64 (n:Int)]).run Tryz.prog W=.ok (.int .i64 (c:Int)) W:=fun ts t W=>run_min3 ts t _ _ _ _ (by omega) W
    have hz:=repB_size x k
    have HT:Hid ((repB x k).extract 0 c=repB x c):=repB_take x k c hc1.2.1
    obtain⟨R,hR⟩:∃R:ByteArray,repB x k=R:=⟨_,rfl⟩
    rw[hR]at hz HT HST
    have hlt:decide ((k:Int)<(n:Int))=true:=decide_eq_true (by omega)
    have hlt2:(k:Int)<(n:Int):=by omega
    have hck:(c:Int)≤(R.size:Int):=by omega
    clear hc hR
    go_wp2_with (first|(go_at_call 172;refine HL.out.mono ?_;rintro e w' ⟨rfl,hw⟩;rw[hw])|(go_at_call 42;refine HST.out.mono ?_;rintro e w' ⟨rfl,HR2⟩))
    have HW:Hid (Calls Tryz.prog 144 #[.pointer (some ⟨w.heap.size,0,none⟩),.string (R.extract 0 c)] w' fun e w''=>e=.returned (.tuple #[.int .i64 ((R.extract 0 c).size:Int),.nilIface])∧Hid (RepB w x (k+c) w'')):=by
     obtain⟨⟨p,v,hb⟩,hbel⟩:=HR2.out
     rw[HT.out]
     refine(gText_any _ _ 0 _ _ _ _ (repB x c) w' hb (by rw[Lib.byteCells_length,List.length_replicate,repB_size];omega) hbel.size).mono ?_
     rintro e w'' ⟨rfl,v4,h4,hb4⟩
     refine⟨rfl,⟨.pointer (some ⟨w.heap.size,0,none⟩),v4,?_⟩,hbel.trans hb4⟩
     rw[repB_text,←Lib.byteCells_append,List.replicate_append_replicate]at h4
     exact h4
    refine HW.out.mono ?_
    rintro e w'' ⟨rfl,HR3⟩
    go_wp2_with fail
    go_roundg (n-(k+c))
    case measure=>omega
    case rel=>exact⟨k+c,by omega,by omega,HR3⟩
set_option maxRecDepth 1000000 in
theorem repeat_any(x:UInt8)(n:Nat)(hn:n≤400)(w:World) :
  Calls Tryz.prog 159 #[.string ⟨#[x]⟩,.int .i64 (n:Int)] w fun e w'=>e=.returned (.string (repB x n))∧Below w.heap.size w w':=by
 match n,hn with
 | 0,_=>
  go_enter Tryz.func159,Tryz.ntmps159
  go_wp2
  go_ret
  exact⟨rfl,Below.refl _ _⟩
 | 1,_=>
  go_enter Tryz.func159,Tryz.ntmps159
  go_wp2
  go_ret
  exact⟨rfl,Below.refl _ _⟩
 | m+2,hn=>exact repeat_main x (m+2) (by omega) hn w
end Go.Proofs.YtenbfookfcmpoaaGreatDoor
namespace Go.Proofs.YtenbfookfcmpoaaGreatDoor
open Go.ChangeShapes Go.WideShapes Go.RowKit
set_option maxHeartbeats 400000 in
theorem specBits_any(n b:Int)(w:World) :
  Calls Tryz.prog 44 #[.int .i64 n,.int .i64 b] w fun e w'=>e=.returned (.string (bitsText n b))∧w'=w:=by
 by_cases h:2≤b∧b≤36
 ·have HV:Hid (bitsText n b=⟨(textOf b.toNat (unsig n)).toArray⟩):=by unfold bitsText;exact if_pos h
  have HC:Hid _:=fun w=>specDigits_at _ b (unsig n) (unsig_cast n) w (unsig_lt n) h.1 h.2
  obtain⟨h2,h36⟩:=h
  go_enter Tryz.func44,Tryz.ntmps44
  go_wp2_with (go_at_call 25;refine(HC.out _).mono ?_;rintro e w' ⟨rfl,rfl⟩)
  go_ret
  exact⟨by rw[HV.out];rfl,rfl⟩
 ·have HV:Hid (bitsText n b=⟨#[]⟩):=by unfold bitsText;exact if_neg h
  go_enter Tryz.func44,Tryz.ntmps44
  by_cases h2:b<2
  ·clear h
   go_wp2
   go_ret
   exact⟨by rw[HV.out];rfl,rfl⟩
  ·have h36:36<b:=by omega
   clear h
   go_wp2
   go_ret
   exact⟨by rw[HV.out];rfl,rfl⟩
end Go.Proofs.YtenbfookfcmpoaaGreatDoor
