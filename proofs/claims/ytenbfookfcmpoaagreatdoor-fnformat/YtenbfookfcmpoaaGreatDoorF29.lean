import Derived.Test.YtenbfookfcmpoaaGreatDoorF15
import Derived.Test.YtenbfookfcmpoaaGreatDoorF24
namespace Go.Proofs.YtenbfookfcmpoaaGreatDoor
open Go.ChangeShapes Go.WideShapes Go.RowKit
theorem u64n_back(S:Nat)(h:S<18446744073709551616):u64n (IntKind.i64.wrap (S:Int))=S:=by
 unfold u64n
 rw[IntKind.wrap_u64,IntKind.wrap_i64]
 omega
theorem stk_lt{A B q t:Nat}(h:Lng A B 64 q t):stk q t<18446744073709551616:=by
 have h1:=h.2.2
 have h3:(2:Nat) ^ 64=18446744073709551616:=rfl
 unfold stk oddOf
 split<;>omega
def quoW(A C x y:Nat):Nat:=if A=0 then 0 else ratioW (A*2 ^ x) (C*2 ^ y)
theorem quo_fw(neg:Bool)(A C a b la lb q t x y:Nat)(hC:0<C)(h1:bitLen A=la)(h2:bitLen C=lb)(ha:a=lb-la)(hb:b=la-lb)(h:Lng (A*2 ^ a) (C*2 ^ b) 64 q t) :
  fw neg (stk q t) ((x:Int)-y+((la:Int)-lb-63))=signBit neg+quoW A C x y:=by
 rw[fw_sgn]
 congr 1
 unfold quoW
 by_cases hA:A=0
 ·rw[if_pos hA]
  subst hA
  have hB:0<C*2 ^ b:=Nat.mul_pos hC (Nat.two_pow_pos b)
  obtain⟨e,_,_⟩:=h
  rw[Nat.zero_mul,Nat.zero_mul]at e
  have e1:2*q*(C*2 ^ b)=0:=by omega
  have e2:t=0:=by omega
  have e3:q=0:=by
   rcases Nat.mul_eq_zero.1 e1 with h|h<;>omega
  subst e2 e3
  show fw false (stk 0 0) _=0
  unfold stk
  rw[if_pos rfl,fw_zero];rfl
 ·rw[if_neg hA]
  have s1:=(bitLen_spec A).2 hA
  have s2:=(bitLen_spec C).1
  rw[h1]at s1
  rw[h2]at s2
  have hla:1≤la:=by rw[←h1];unfold bitLen;rw[if_neg hA];omega
  refine quo_word A C a b q t x y (la-1+a) _ (by omega) hC h ?_ ?_ (by omega)
  ·rw[Nat.pow_add];exact Nat.mul_le_mul_right _ s1
  ·have:C*2 ^ b<2 ^ lb*2 ^ b:=Nat.mul_lt_mul_of_pos_right s2 (Nat.two_pow_pos b)
   rw[←Nat.pow_add,show lb+b=la-1+a+1 by omega]at this
   exact this
set_option maxHeartbeats 1000000 in
set_option maxRecDepth 100000 in
theorem nearest_any(neg:Bool)(A C c k x y:Nat)(P:Int)(w:World)(hA:cntOk c A)(hc:c≤151)(hC:cntOk k C)(hk:k≤151)(hC0:0<C)(h1:bitLen A≤4798)(h2:bitLen C≤4798)(hP:P=(x:Int)-y)(hP1:-20000000≤P)(hP2:P≤20000000) :
  Calls Tryz.prog 152 #[.bool neg,lgV c A,lgV k C,.int .i64 P] w fun e w'=>e=.returned (.float .f64 (signBit neg+quoW A C x y))∧Below w.heap.size w w':=by
 have HQ:Hid (∀w',Calls Tryz.prog 163 #[lgV c A,lgV k C] w' fun e w''=>∃q t,Lng (A*2 ^ (bitLen C-bitLen A)) (C*2 ^ (bitLen A-bitLen C)) 64 q t∧e=.returned (.tuple #[.int .u64 (stk q t:Int),.int .i64 ((bitLen A:Int)-(bitLen C:Int)-63)])∧Below w'.heap.size w' w''):=
  fun w'=>quo_any A C c k (bitLen A) (bitLen C) (bitLen C-bitLen A) (bitLen A-bitLen C) (max (bitLen A) (bitLen C)) w' hA hc hC hk hC0 rfl rfl rfl rfl rfl (by omega)
 have HF:Hid (∀q t,Lng (A*2 ^ (bitLen C-bitLen A)) (C*2 ^ (bitLen A-bitLen C)) 64 q t→fw neg (stk q t) (P+((bitLen A:Int)-(bitLen C:Int)-63))=signBit neg+quoW A C x y):=fun q t h=>by
  rw[hP];exact quo_fw neg A C (bitLen C-bitLen A) (bitLen A-bitLen C) (bitLen A) (bitLen C) q t x y hC0 rfl rfl rfl rfl h
 obtain⟨E,hE⟩:∃E:Int,(bitLen A:Int)-(bitLen C:Int)-63=E:=⟨_,rfl⟩
 have hE1:-5000≤E:=by omega
 have hE2:E≤5000:=by omega
 rw[hE]at HQ HF
 obtain⟨X,hX⟩:∃X,(lgL c (dg A)).toArray=X:=⟨_,rfl⟩
 obtain⟨Y,hY⟩:∃Y,(lgL k (dg C)).toArray=Y:=⟨_,rfl⟩
 obtain⟨H,hH⟩:∃H,w.heap.size=H:=⟨_,rfl⟩
 obtain⟨W,hW⟩:∃W,(w.alloc (.cells X 115)).alloc (.cells Y 115)=W:=⟨_,rfl⟩
 have HL1:Hid (LB W H c (dg A) [] 115):=by
  have h:=(LB.new w c (dg A) [] 115).alloc (.cells Y 115)
  rw[←blk_nil,hX,hW,hH]at h;exact h
 have HL2:Hid (LB W (H+1) k (dg C) [] 115):=by
  have h:=LB.new (w.alloc (.cells X 115)) k (dg C) [] 115
  rw[←blk_nil,hY,hW,show(w.alloc (.cells X 115)).heap.size=H+1 by simp[hH]]at h;exact h
 have HBW:Hid (Below w.heap.size w W):=by rw[←hW];exact((Below.refl _ w).alloc (Nat.le_refl _) _).alloc (by simp) _
 unfold lgV
 rw[hX,hY]
 clear hX hY hA hC h1 h2 hC0 hP hE
 go_enter Tryz.func152,Tryz.ntmps152
 go_wp2_with fail
 clear hW
 refine HL1.out.wpLoad _ rfl rfl ?_
 go_at_K
 go_wp2_with fail
 refine HL2.out.wpLoad _ rfl rfl ?_
 go_at_K
 go_wp2_with fail
 refine(HQ.out _).mono ?_
 rintro e w1 ⟨q,t,hl,rfl,hb⟩
 have HN:Hid (∀w',Calls Tryz.prog 27 #[.bool neg,.int .i64 (IntKind.i64.wrap (stk q t:Int)),.int .i64 (P+E)] w' fun r w''=>r=.returned (.float .f64 (signBit neg+quoW A C x y))∧Below w'.heap.size w' w''):=fun w'=>by
  have h:=implNear_any neg (IntKind.i64.wrap (stk q t:Int)) (P+E) w'
  rw[u64n_back _ (stk_lt hl),HF.out q t hl]at h
  exact h
 have HB1:Hid (Below w.heap.size w w1):=HBW.out.trans (hb.mono HBW.out.size)
 have hst:(stk q t:Int)<18446744073709551616:=by have:=stk_lt hl;omega
 obtain⟨S,hS⟩:∃S:Int,(stk q t:Int)=S:=⟨_,rfl⟩
 have hS0:0≤S:=by omega
 rw[hS]at HN hst ⊢
 clear hl hb hS
 have hw:IntKind.i64.wrap S=wrap64 S:=by
  first|rfl|(rw[IntKind.wrap_i64];rfl)|(rw[IntKind.wrap_i64];unfold wrap64;omega)
 rw[hw]at HN
 clear hw
 go_wp2_with fail
 refine(HN.out _).mono ?_
 rintro e w2 ⟨rfl,hb2⟩
 go_wp2
 go_ret
 exact⟨rfl,HB1.out.trans (hb2.mono HB1.out.size)⟩
end Go.Proofs.YtenbfookfcmpoaaGreatDoor
