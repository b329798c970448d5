import Derived.Test.YtenbfookfcmpoaaGreatDoorF06
import Derived.Test.YtenbfookfcmpoaaGreatDoorF05
namespace Go.Proofs.YtenbfookfcmpoaaGreatDoor
open Go.RowKit
def dch(d:Nat):UInt8:=if d<10 then UInt8.ofNat (48+d) else UInt8.ofNat (87+d)
def wr:Nat→Nat→Nat→List UInt8→List UInt8
 | 0,_,_,acc=>acc
 | f+1,b,n,acc=>if n=0 then acc else wr f b (n / b) (dch (n % b) :: acc)
def textOf(b n:Nat):List UInt8:=wr 63 b (n / b) [dch (n % b)]
theorem wr_zero(f b:Nat)(acc:List UInt8):wr f b 0 acc=acc:=by cases f<;>simp[wr]
theorem wr_step(f b n:Nat)(acc:List UInt8)(hn:0<n)(hf:n<2 ^ f):∃g,f=g+1∧wr f b n acc=wr g b (n / b) (dch (n % b) :: acc):=by
 cases f with
 | zero=>simp at hf;omega
 | succ g=>exact⟨g,rfl,by simp[wr];omega⟩
theorem wr_bound(g b n:Nat)(hb:2≤b)(hf:n<2 ^ (g+1)):n / b<2 ^ g:=by
 rw[Nat.div_lt_iff_lt_mul (by omega)]
 have h1:2 ^ g*2≤2 ^ g*b:=Nat.mul_le_mul_left _ hb
 rw[Nat.pow_succ]at hf
 omega
theorem wr_length(b:Nat):∀ (f n:Nat) (acc:List UInt8),(wr f b n acc).length≤acc.length+f:=by
 intro f
 induction f with
 | zero=>intro n acc;exact Nat.le_refl _
 | succ f ih=>
  intro n acc
  unfold wr
  split
  ·omega
  ·have:=ih (n / b) (dch (n % b) :: acc)
   simp at this
   omega
theorem textOf_length(b n:Nat):(textOf b n).length≤64:=wr_length b 63 _ _
theorem textOf_pos(b n:Nat)(hn:0<n):wr 64 b n []=textOf b n:=by
 have e:(64:Nat)=63+1:=rfl
 rw[e];unfold wr;rw[if_neg (by omega)];rfl
theorem textOf_zero(b:Nat):textOf b 0 = [48]:=by
 unfold textOf;rw[Nat.zero_div,wr_zero,Nat.zero_mod];rfl
def digitText:ByteArray:=⟨#[48,49,50,51,52,53,54,55,56,57,97,98,99,100,101,102,103,104,105,106,107,108,109,110,111,112,113,114,115,116,117,118,119,120,121,122]⟩
theorem digitText_all:∀d:Fin 36,((digitText.data.toList.drop d.val).take 1) = [dch d.val]:=by decide
theorem digitText_at(d:Nat)(h:d<36):digitText.extract d (d+1)=⟨#[dch d]⟩:=by
 rw[Lib.extract_eq,show d+1-d=1 by omega,digitText_all ⟨d,h⟩]
theorem mod_lo(m b:Nat):0≤(m:Int) % (b:Int):=by rw[←Int.natCast_emod];omega
theorem mod_hi(m b:Nat)(h2:2≤b)(h36:b≤36):(m:Int) % (b:Int)<36:=by
 have:=Int.emod_lt_of_pos (m:Int) (b:=(b:Int)) (by omega);omega
theorem div_lo(m b:Nat):0≤(m:Int) / (b:Int):=by rw[←Int.natCast_ediv];exact Int.natCast_nonneg _
theorem div_hi(m b:Nat):(m:Int) / (b:Int)≤m:=by rw[←Int.natCast_ediv];exact Int.ofNat_le.2 (Nat.div_le_self m b)
theorem div_less(m b:Nat)(h:0<m)(h2:2≤b):m / b<m:=Nat.div_lt_self h (by omega)
theorem push_front(c:UInt8)(l:List UInt8):(⟨#[c]⟩:ByteArray)++⟨l.toArray⟩=⟨(c :: l).toArray⟩:=by
 apply ByteArray.ext
 rw[ByteArray.data_append]
 simp
def St2(b:Nat)(s:ByteArray)(k:Nat)(pt:Bool)(i:Nat)(l:List UInt8)(beh:Nat)(lack:Bool):Prop:=
 (pt=false∧k≤i∧(∀i',k≤i'→i'<i→Dig b s i')∧l=(s.extract k i).data.toList∧beh=0∧lack=decide (i=k)) ∨
 (pt=true∧∃p,k<p∧Run b s k p∧bAt s p=46∧p+1≤i∧(∀i',p+1≤i'→i'<i→Dig b s i')∧l=(s.extract k p).data.toList++(s.extract (p+1) i).data.toList∧beh=i-(p+1)∧lack=decide (i=p+1))
def DgR(b:Nat)(s:ByteArray)(k:Nat)(V beh:Nat)(r:Option Nat)(j:Nat):Prop:=
 ∃p,Run b s k p∧((p=k∧r=some k∧j=k)∨(k<p∧(
  (bAt s p≠46∧r=none∧V=valN b (s.extract k p).data.toList∧beh=0∧j=p) ∨
  (bAt s p=46∧∃i,Run b s (p+1) i∧((i=p+1∧r=some i∧j=i)∨(p+1<i∧r=none∧V=valN b (s.extract k p++s.extract (p+1) i).data.toList∧beh=i-(p+1)∧j=i))))))
theorem extract_nil(s:ByteArray)(k:Nat):(s.extract k k).data.toList = []:=by
 apply List.eq_nil_of_length_eq_zero
 have:(s.extract k k).data.toList.length=(s.extract k k).size:=by simp
 rw[this,ByteArray.size_extract];omega
theorem extract_snoc(s:ByteArray)(k j:Nat)(hk:k≤j)(hj:j<s.size):(s.extract k (j+1)).data.toList=(s.extract k j).data.toList++[s[j]]:=by
 have g:∀i,i≤s.size→(s.extract k i).data.toList=(s.data.toList.drop k).take (i-k):=by intro i _;simp
 rw[g (j+1) hj,g j (by omega),show j+1-k=(j-k)+1 by omega,List.take_succ_eq_append_getElem (by simp;omega)]
 congr 2
 rw[List.getElem_drop]
 have:k+(j-k)=j:=by omega
 simp only[this]
 rfl
theorem extract_len(s:ByteArray)(k j:Nat)(hj:j≤s.size):(s.extract k j).data.toList.length=j-k:=by
 simp;omega
theorem st2_start(b:Nat)(s:ByteArray)(k:Nat):St2 b s k false k [] 0 true:=
 .inl ⟨rfl,Nat.le_refl _,fun i' h1 h2=>by omega,(extract_nil s k).symm,rfl,by simp⟩
theorem st2_digit{b:Nat}{s:ByteArray}{k i beh:Nat}{pt lack:Bool}{l:List UInt8}(h:St2 b s k pt i l beh lack)(hi:i<s.size)(hd:Dig b s i) :
  St2 b s k pt (i+1) (l++[s[i]]) (if pt then beh+1 else beh) false:=by
 rcases h with⟨rfl,h1,h2,rfl,rfl,rfl⟩|⟨rfl,p,h1,h2,h3,h4,h5,rfl,rfl,rfl⟩
 ·refine .inl ⟨rfl,by omega,fun i' a c=>?_,(extract_snoc s k i h1 hi).symm,rfl,by rw[decide_eq_false (by omega)]⟩
  by_cases e:i'=i
  ·subst e;exact hd
  ·exact h2 i' a (by omega)
 ·refine .inr ⟨rfl,p,h1,h2,h3,by omega,fun i' a c=>?_,by rw[extract_snoc s (p+1) i h4 hi,List.append_assoc],by rw[if_pos rfl];omega,by rw[decide_eq_false (by omega)]⟩
  by_cases e:i'=i
  ·subst e;exact hd
  ·exact h5 i' a (by omega)
theorem no_dig(b:Nat)(s:ByteArray)(i:Nat)(hb:b≤36)(h:bAt s i=46):¬Dig b s i:=by
 intro hd
 have:=hd.2
 rw[h]at this
 unfold digN at this
 rw[if_neg (by omega),if_neg (by omega)]at this
 omega
theorem st2_point{b:Nat}{s:ByteArray}{k i beh:Nat}{l:List UInt8}(h:St2 b s k false i l beh false)(hi:i<s.size)(hb:b≤36)(hp:bAt s i=46):St2 b s k true (i+1) l 0 true:=by
 rcases h with⟨_,h1,h2,rfl,_,h3⟩|⟨h,_⟩
 ·have hne:¬i=k:=by intro e;rw[decide_eq_true e]at h3;cases h3
  refine .inr ⟨rfl,i,by omega,⟨h1,by omega,h2,no_dig b s i hb hp⟩,hp,Nat.le_refl _,fun i' a c=>by omega,by rw[extract_nil,List.append_nil],by omega,by simp⟩
 ·cases h
theorem st2_len{b:Nat}{s:ByteArray}{k i beh:Nat}{pt lack:Bool}{l:List UInt8}(h:St2 b s k pt i l beh lack)(hi:i≤s.size):k≤i∧l.length≤i-k∧beh≤i-k∧good (b:Int) l:=by
 have hg:∀k i,i≤s.size→(∀i',k≤i'→i'<i→Dig b s i')→good (b:Int) (s.extract k i).data.toList:=by
  intro k i hi h2
  by_cases hki:k≤i
  ·refine good_of b _ fun x hx=>?_
   have hz:(s.extract k i).size=i-k:=by rw[ByteArray.size_extract];omega
   obtain⟨h',e⟩:=run_get s k i x hi hx
   rw[e,←bAt_in s (k+x) h']
   exact(h2 (k+x) (by omega) (by omega)).2
  ·intro c hc
   have:(s.extract k i).data.toList = []:=by
    apply List.eq_nil_of_length_eq_zero
    rw[extract_len s k i hi];omega
   rw[this]at hc;cases hc
 rcases h with⟨rfl,h1,h2,rfl,rfl,rfl⟩|⟨rfl,p,h1,h2,h3,h4,h5,rfl,rfl,rfl⟩
 ·exact⟨h1,by rw[extract_len s k i hi];exact Nat.le_refl _,by omega,hg k i hi h2⟩
 ·refine⟨by omega,?_,by omega,?_⟩
  ·rw[List.length_append,extract_len s k p h2.2.1,extract_len s (p+1) i hi];omega
  ·intro c hc
   rcases List.mem_append.1 hc with hc|hc
   ·exact hg k p h2.2.1 h2.2.2.1 c hc
   ·exact hg (p+1) i hi h5 c hc
theorem st2_end{b:Nat}{s:ByteArray}{k i beh:Nat}{pt lack:Bool}{l:List UInt8}(h:St2 b s k pt i l beh lack)(hi:i≤s.size)(hd:¬Dig b s i)(hn:¬(bAt s i=46∧pt=false∧lack=false)) :
  (lack=true→∀V beh',DgR b s k V beh' (some i) i)∧(lack=false→DgR b s k (valN b l) beh none i):=by
 rcases h with⟨rfl,h1,h2,rfl,rfl,rfl⟩|⟨rfl,p,h1,h2,h3,h4,h5,rfl,rfl,rfl⟩
 ·constructor
  ·intro hl V beh'
   have e:i=k:=of_decide_eq_true hl
   subst e
   exact⟨i,⟨h1,hi,h2,hd⟩,.inl ⟨rfl,rfl,rfl⟩⟩
  ·intro hl
   have e:¬i=k:=of_decide_eq_false hl
   exact⟨i,⟨h1,hi,h2,hd⟩,.inr ⟨by omega,.inl ⟨fun x=>hn ⟨x,rfl,hl⟩,rfl,rfl,rfl,rfl⟩⟩⟩
 ·constructor
  ·intro hl V beh'
   have e:i=p+1:=of_decide_eq_true hl
   exact⟨p,h2,.inr ⟨h1,.inr ⟨h3,i,⟨h4,hi,h5,hd⟩,.inl ⟨e,rfl,rfl⟩⟩⟩⟩
  ·intro hl
   have e:¬i=p+1:=of_decide_eq_false hl
   refine⟨p,h2,.inr ⟨h1,.inr ⟨h3,i,⟨h4,hi,h5,hd⟩,.inr ⟨by omega,rfl,?_,rfl,rfl⟩⟩⟩⟩
   congr 1
end Go.Proofs.YtenbfookfcmpoaaGreatDoor
namespace Go.Proofs.YtenbfookfcmpoaaGreatDoor
open Go.ChangeShapes Go.WideShapes Go.RowKit
theorem length_any(B N c:Nat)(R:List Value)(t:TypeId)(w:World)(hc:c≤151)(hk:cntOk c N)(h:LB w B c (dg N) R t) :
  Calls Tryz.prog 178 #[.pointer (some ⟨B,0,none⟩)] w fun e w'=>e=.returned (.int .i64 (bitLen N:Int))∧∃n,w'=w.drewN n:=by
 have HW:Hid _:=fun v w=>width_any v w
 have hcnt:=h.cnt
 by_cases h0:c=0
 ·subst h0
  have h1:N=0:=by have:=hk.1;rw[Nat.pow_zero]at this;omega
  subst h1
  rw[show bitLen 0=0 from rfl]
  clear hk h
  go_enter Tryz.func178,Tryz.ntmps178
  go_wp2
  go_ret
  exact⟨rfl,0,rfl⟩
 ·obtain⟨j,rfl⟩:∃j,c=j+1:=⟨c-1,by omega⟩
  have hl:=len_words hk (by omega)
  rw[Nat.add_sub_cancel]at hl
  have hw:=h.wrd' j (by omega)
  have hj:(j:Int)<151:=by omega
  have hb:((j:Int)+1==0)=false:=beq_eq_false_iff_ne.2 (by omega)
  rw[show((j+1:Nat):Int)=(j:Int)+1 by omega]at hcnt
  have hd:=dg_lt N j
  generalize dg N j=d at *
  have HL:Hid _:=fun w=>len64_any (d:Int) (by omega) (by omega) w
  rw[Int.toNat_natCast]at HL
  have h64:bitLen d≤64:=by
   have:=bitLen_spec d
   rcases Nat.lt_or_ge 64 (bitLen d) with h|h
   ·have h1:d≠0:=by rintro rfl;simp[bitLen]at h
    have h2:=this.2 h1
    have h3:(2:Nat) ^ 64≤2 ^ (bitLen d-1):=Nat.pow_le_pow_right (by omega) (by omega)
    have h4:(2:Nat) ^ 64=18446744073709551616:=rfl
    omega
   ·exact h
  rw[←hl]
  generalize bitLen d=L at *
  clear hk h hl h0
  go_enter Tryz.func178,Tryz.ntmps178
  go_wp2
  go_quiet (first|(go_at_call 99;exact Calls.quiet_of_same (HW.out _ _))|(go_at_call 58;exact Calls.quiet_of_same (HL.out _)))
  go_wp2
  go_ret
  exact⟨by congr 2,_,rfl⟩
def ordN(N M:Nat):Int:=if N<M then -1 else if M<N then 1 else 0
theorem isNaN32_any(x:Int)(w:World) :
  Calls Tryz.prog 190 #[.int .u32 x] w fun e w'=>e=.returned (.bool false)∧w'=w:=by
 go_enter Tryz.func190,Tryz.ntmps190
 go_wp2
 go_ret
 exact⟨rfl,rfl⟩
theorem cmp32_any(a b:Nat)(w:World)(hne:a≠b) :
  Calls Tryz.prog 187 #[.int .u32 (a:Int),.int .u32 (b:Int)] w fun e w'=>e=.returned (.int .i64 (if a<b then -1 else 1))∧w'=w:=by
 have HN:Hid _:=fun x w=>isNaN32_any x w
 by_cases h1:a<b
 ·rw[if_pos h1]
  have h1':(a:Int)<(b:Int):=by omega
  go_enter Tryz.func187,Tryz.ntmps187
  go_wp2_with (go_at_call 190;refine(HN.out _ _).mono ?_;rintro e w' ⟨rfl,rfl⟩)
  go_ret
  exact⟨rfl,rfl⟩
 ·rw[if_neg h1]
  have h2:(b:Int)<(a:Int):=by omega
  go_enter Tryz.func187,Tryz.ntmps187
  go_wp2_with (go_at_call 190;refine(HN.out _ _).mono ?_;rintro e w' ⟨rfl,rfl⟩)
  go_ret
  exact⟨rfl,rfl⟩
set_option maxHeartbeats 1000000 in
set_option maxRecDepth 100000 in
theorem order_any(B N M c k:Nat)(R:List Value)(t:TypeId)(w:World)(hc:c≤151)(hk:k≤151)(hN:cntOk c N)(hM:cntOk k M)(h:LB w B c (dg N) R t) :
  Calls Tryz.prog 179 #[.pointer (some ⟨B,0,none⟩),lgV k M] w fun e w'=>e=.returned (.int .i64 (ordN N M))∧Below w.heap.size w w':=by
 have HN:Hid (cntOk c N):=hN
 have HM:Hid (cntOk k M):=hM
 have HL:Hid (LB w B c (dg N) R t):=h
 have hlt:=h.lt
 have h0:(lgL k (dg M)).toArray=blk k (dg M) []:=by unfold blk;rw[List.append_nil]
 unfold lgV
 rw[h0]
 have HB1:Hid (LB (w.alloc (.cells (blk k (dg M) []) 115)) B c (dg N) R t):=h.alloc _
 have HB2:Hid (LB (w.alloc (.cells (blk k (dg M) []) 115)) w.heap.size k (dg M) [] 115):=LB.new w k (dg M) [] _
 obtain⟨C,hC⟩:∃C,blk k (dg M) []=C:=⟨_,rfl⟩
 rw[hC]at HB1 HB2 ⊢
 clear hN hM h h0 hC
 obtain⟨W,hW⟩:∃W,w.alloc (.cells C 115)=W:=⟨_,rfl⟩
 rw[hW]at HB1 HB2
 have HBW:Hid (Below w.heap.size w W):=by rw[←hW];exact(Below.refl _ w).alloc (Nat.le_refl _) _
 have hc1:=HB1.out.cnt
 have hc2:=HB2.out.cnt
 obtain⟨D,hD⟩:∃D,w.heap.size=D:=⟨_,rfl⟩
 have HD:Hid (w.heap.size=D):=hD
 go_enter Tryz.func179,Tryz.ntmps179
 go_wp2
 rw[hD]at hc2 HB2 hlt
 clear hW hD HL
 go_region_held3 (fun w'=>w'.cell? ⟨B,0,none⟩=some (.int .i64 (c:Int))∧w'.cell? ⟨D,0,none⟩=some (.int .i64 (k:Int))) (go_keep) (fail)
 all_goals go_wp2
 all_goals
  have HST:Hid (∃j:Nat,j≤151∧c≤j∧k≤j∧(if c<k then IntKind.i64.wrap ((k:Int)-1) else IntKind.i64.wrap ((c:Int)-1))=(j:Int)-1):=by
   by_cases hck:c<k
   ·refine⟨k,hk,by omega,by omega,?_⟩
    rw[if_pos hck,IntKind.wrap_i64];omega
   ·refine⟨c,hc,by omega,by omega,?_⟩
    rw[if_neg hck,IntKind.wrap_i64];omega
  first
   | rw[if_pos (show c<k by assumption)]at HST
   | rw[if_neg (show ¬c<k by assumption)]at HST
  clear hc1 hc2
  go_loopw [5] (fun iv wl=>∃ (j:Nat) (x:Int),iv=.int .i64 x∧x=(j:Int)-1∧j≤151∧Hid (N / be ^ j=M / be ^ j)∧Hid (LB wl B c (dg N) R t)∧Hid (LB wl D k (dg M) [] 115)∧Hid (Below w.heap.size w wl)) (fun iv _=>(intOf iv+1).toNat)
  case atStart=>
   obtain⟨j,h1,h2,h3,h4⟩:=HST.out
   refine⟨j,_,rfl,h4,h1,?_,HB1.out.drewN 1,HB2.out.drewN 1,HBW.out.drew⟩
   show N / be ^ j=M / be ^ j
   rw[Nat.div_eq_of_lt (Nat.lt_of_lt_of_le HN.out.1 (bpow_le h2)),Nat.div_eq_of_lt (Nat.lt_of_lt_of_le HM.out.1 (bpow_le h3))]
  case round=>
   clear HST HBW HB1 HB2
   obtain⟨j,x,rfl,hx,hj,HE,HB1,HB2,HBW⟩:=hrel
   by_cases h0:0<j
   ·obtain⟨i,rfl⟩:∃i,j=i+1:=⟨j-1,by omega⟩
    obtain rfl:x=(i:Int):=by omega
    have hi0:(0:Int)≤(i:Int):=by omega
    have hi1:(i:Int)<151:=by omega
    have hw1:=HB1.out.wrd' i (by omega)
    have hw2:=HB2.out.wrd' i (by omega)
    obtain⟨e1,e2⟩:=dg_cmp N M i HE.out
    have HE1:Hid _:=fun(_:Unit)=>e1
    have HE2:Hid _:=fun(_:Unit)=>e2
    generalize dg N i=d1 at *
    generalize dg M i=d2 at *
    clear h0 hx e1 e2
    by_cases hd:d1=d2
    ·subst hd
     go_wp2
     go_quiet (fail)
     go_wp2
     refine⟨⟨i,_,rfl,rfl,by omega,?_,HB1.out.drewN _,HB2.out.drewN _,below_drewN HBW.out _⟩,?_⟩
     ·show N / be ^ i=M / be ^ i
      rw[HE1.out (),HE2.out ()]
     ·show((i:Int)-1+1).toNat<((i:Int)+1).toNat;omega
    ·have hb:((d1:Int)==(d2:Int))=false:=beq_eq_false_iff_ne.2 (by omega)
     have HR:Hid ((if d1<d2 then (-1:Int) else 1)=ordN N M):=by
      show _=ordN N M
      unfold ordN
      by_cases hl:d1<d2
      ·rw[if_pos hl,if_pos (div_lt_of N M i (by rw[HE1.out (),HE2.out ()];omega))]
      ·have:M<N:=div_lt_of M N i (by rw[HE1.out (),HE2.out ()];omega)
       rw[if_neg hl,if_neg (by omega),if_pos this]
     have HC:Hid (∀w,Calls Tryz.prog 187 #[.int .u32 (d1:Int),.int .u32 (d2:Int)] w fun e w'=>e=.returned (.int .i64 (ordN N M))∧w'=w):=fun w=>by rw[←HR.out];exact cmp32_any d1 d2 w hd
     clear hd
     go_wp2
     go_quiet (fail)
     go_wp2
     go_region_held3 (fun w'=>w'.cell? ⟨B,1+i,none⟩=some (.int .u32 (d1:Int))∧w'.cell? ⟨D,1+i,none⟩=some (.int .u32 (d2:Int))) (go_keep) (first|(go_at_call 187;refine(HC.out _).mono ?_;rintro e w' ⟨rfl,rfl⟩))
     all_goals go_wp2
     go_ret
     exact⟨rfl,(below_drewN HBW.out _).drew⟩
   ·have h0':decide ((0:Int)≤x)=false:=decide_eq_false (by omega)
    obtain rfl:j=0:=by omega
    have HR:Hid (ordN N M=0):=by
     show ordN N M=0
     have h:=HE.out
     rw[Nat.pow_zero,Nat.div_one,Nat.div_one]at h
     unfold ordN;rw[h,if_neg (by omega),if_neg (by omega)]
    go_wp2
    go_ret
    exact⟨by rw[HR.out];rfl,HBW.out⟩
set_option maxHeartbeats 1000000 in
set_option maxRecDepth 100000 in
theorem sub_any(B N M c k:Nat)(R:List Value)(t:TypeId)(w:World)(hc:c≤151)(hle:M≤N)(hN:cntOk c N)(h:LB w B c (dg N) R t) :
  Calls Tryz.prog 180 #[.pointer (some ⟨B,0,none⟩),lgV k M] w fun e w'=>e=.returned (.tuple #[])∧Mod B w w'∧Lg w' B (N-M) R t:=by
 have HN:Hid (cntOk c N):=hN
 have HLE:Hid (M≤N):=hle
 have hlt:=h.lt
 have h0:(lgL k (dg M)).toArray=blk k (dg M) []:=by unfold blk;rw[List.append_nil]
 unfold lgV
 rw[h0]
 have HB1:Hid (LB (w.alloc (.cells (blk k (dg M) []) 115)) B c (dg N) R t):=h.alloc _
 have HB2:Hid (LB (w.alloc (.cells (blk k (dg M) []) 115)) w.heap.size k (dg M) [] 115):=LB.new w k (dg M) [] _
 obtain⟨C,hC⟩:∃C,blk k (dg M) []=C:=⟨_,rfl⟩
 rw[hC]at HB1 HB2 ⊢
 clear hN h h0 hC hle
 obtain⟨W,hW⟩:∃W,w.alloc (.cells C 115)=W:=⟨_,rfl⟩
 rw[hW]at HB1 HB2
 have HBW:Hid (Mod B w W):=by rw[←hW];exact(Mod.refl _ w).alloc _
 have hc1:=HB1.out.cnt
 obtain⟨D,hD⟩:∃D,w.heap.size=D:=⟨_,rfl⟩
 have HD:Hid (w.heap.size=D):=hD
 go_enter Tryz.func180,Tryz.ntmps180
 go_wp2
 rw[hD]at HB2 hlt
 clear hW hD
 go_loopw [4,11] (fun bv iv wl=>∃ (i b:Nat),iv=.int .i64 (i:Int)∧bv=.int .u64 (b:Int)∧i≤c∧b≤1∧Hid (bor N M i=b)∧Hid (LB wl B c (wmid N (N-M) i) R t)∧Hid (LB wl D k (dg M) [] 115)∧Hid (Mod B w wl)) (fun _ iv _=>c-(intOf iv).toNat)
 case atStart=>exact⟨0,0,rfl,rfl,Nat.zero_le _,by omega,bor_zero N M,HB1.out,HB2.out,HBW.out⟩
 case round=>
  clear hc1 HB1 HB2 HBW
  obtain⟨i,b,rfl,rfl,hi,hb,HBo,HB1,HB2,HBW⟩:=hrel
  by_cases hic:i<c
  ·have hic':(i:Int)<(c:Int):=by omega
   have hi1:(i:Int)<151:=by omega
   have hw1:=HB1.out.wrd' i (by omega)
   rw[wmid_at]at hw1
   have hw2:=HB2.out.wrd' i (by omega)
   have hfr:=HB1.out.froz (1+i)
   have n2:=dg_lt N i
   have m2:=dg_lt M i
   have HS1:Hid _:=fun(_:Unit)=>bor_step N M i
   have HS2:Hid _:=fun(_:Unit)=>bor_word N M i HLE.out
   rw[HBo.out]at HS1 HS2
   generalize dg N i=d1 at *
   generalize dg M i=d2 at *
   go_wp2
   go_quiet (fail)
   go_wp2
   have ev:IntKind.u64.wrap (IntKind.u64.wrap ((d1:Int)-d2)-b) % 4294967296=((dg (N-M) i:Nat):Int):=by
    rw[HS2.out (),IntKind.wrap_u64,IntKind.wrap_u64,be_eq]
    by_cases hq:d1<d2+b
    ·rw[if_pos hq];omega
    ·rw[if_neg hq];omega
   have eb:IntKind.u64.wrap (IntKind.u64.wrap ((d1:Int)-d2)-b) / 9223372036854775808=((bor N M (i+1):Nat):Int):=by
    rw[HS1.out (),IntKind.wrap_u64,IntKind.wrap_u64]
    by_cases hq:d1<d2+b
    ·rw[if_pos hq];omega
    ·rw[if_neg hq];omega
   rw[ev,eb]
   have h1:=HB1.out.setw' i (dg (N-M) i) (by omega)
   rw[wmid_step]at h1
   have hne:D≠B:=by have:=hlt;omega
   refine⟨⟨i+1,bor N M (i+1),rfl,rfl,by omega,bor_le _ _ _,rfl,(HB1.out.drewN nq).setw' i (dg (N-M) i) (by omega) |>.congr _ (fun j _=>by rw[wmid_step]),?_,(HBW.out.drewN _).setCell _ _⟩,?_⟩
   ·exact(HB2.out.drewN nq).other ((Mod.refl B _).setCell _ _) hne
   ·show c-((i:Int)+1).toNat<c-(i:Int).toNat;omega
  ·have hic':decide ((i:Int)<(c:Int))=false:=decide_eq_false (by omega)
   obtain rfl:i=c:=by omega
   have hlt2:Hid (N-M<be ^ i):=Nat.lt_of_le_of_lt (Nat.sub_le _ _) HN.out.1
   have HT:Hid (LB wr B i (dg (N-M)) R t):=HB1.out.congr _ fun j _=>wmid_end N (N-M) i HN.out.1 hlt2.out j
   go_wp2_with (go_at_call 101;refine(trim_any B (N-M) i R t _ hc hlt2.out HT.out).mono ?_;rintro e w' ⟨rfl,hm1,hg⟩)
   go_end0
   exact⟨rfl,HBW.out.trans hm1,hg⟩
end Go.Proofs.YtenbfookfcmpoaaGreatDoor
namespace Go.Proofs.YtenbfookfcmpoaaGreatDoor
open Ieee (double)
def Lng(A B k q t:Nat):Prop:=A*2 ^ k=2*q*B+t∧t<2*B∧q<2 ^ k
theorem lng_start(A B:Nat)(h:A<2*B):Lng A B 0 0 A:=⟨by simp,h,by simp⟩
theorem lng_no{A B k q t:Nat}(h:Lng A B k q t)(ht:t<B):Lng A B (k+1) (2*q) (2*t):=by
 obtain⟨h1,h2,h3⟩:=h
 refine⟨?_,by omega,by rw[Nat.pow_succ];omega⟩
 rw[Nat.pow_succ,←Nat.mul_assoc,h1,Nat.mul_comm _ 2,Nat.mul_add,←Nat.mul_assoc,←Nat.mul_assoc]
theorem lng_yes{A B k q t:Nat}(h:Lng A B k q t)(ht:B≤t):Lng A B (k+1) (2*q+1) (2*(t-B)):=by
 obtain⟨h1,h2,h3⟩:=h
 refine⟨?_,by omega,by rw[Nat.pow_succ];omega⟩
 rw[Nat.pow_succ,←Nat.mul_assoc,h1,Nat.mul_comm _ 2,Nat.mul_add,show 2*(2*q+1)*B=2*(2*q*B)+2*B by rw[Nat.mul_add,Nat.add_mul,Nat.mul_one,Nat.mul_assoc 2 (2*q) B]]
 omega
theorem lng_end{A B k q t:Nat}(hB:0<B)(h:Lng A B (k+1) q t):A*2 ^ k / B=q∧(A*2 ^ k % B=0↔t=0):=by
 obtain⟨h1,h2,h3⟩:=h
 rw[Nat.pow_succ,←Nat.mul_assoc,Nat.mul_assoc 2 q B]at h1
 generalize A*2 ^ k=X at *
 have e:X=B*q+t / 2:=by rw[Nat.mul_comm B q];omega
 have h4:t / 2<B:=by omega
 have h5:t % 2=0:=by omega
 constructor
 ·rw[e,Nat.mul_add_div hB,Nat.div_eq_of_lt h4,Nat.add_zero]
 ·rw[e,Nat.mul_add_mod,Nat.mod_eq_of_lt h4];omega
def stk(q t:Nat):Nat:=if t=0 then q else oddOf q
theorem stk_at(A B q t:Nat)(E:Int)(hB:0<B)(h:Lng A B 64 q t)(hq:18014398509481984≤q):fw false (stk q t) E=ratioAt (A*2 ^ 63) B E:=by
 obtain⟨h1,h2⟩:=lng_end (k:=63) hB h
 unfold stk ratioAt
 rw[h1]
 by_cases ht:t=0
 ·rw[if_pos ht,if_pos (h2.2 ht)]
 ·rw[if_neg ht,if_neg (fun x=>ht (h2.1 x)),fw_stick false q E hq]
theorem lng_long{A B k q t L:Nat}(hB:0<B)(h:Lng A B (k+1) q t)(hA1:2 ^ L≤A)(hB1:B<2 ^ (L+1))(hk:1≤k):2 ^ (k-1)≤q:=by
 obtain⟨h1,_⟩:=lng_end hB h
 rw[←h1,Nat.le_div_iff_mul_le hB]
 have a:2 ^ (k-1)*B≤2 ^ (k-1)*2 ^ (L+1):=Nat.mul_le_mul_left _ (Nat.le_of_lt hB1)
 have b:2 ^ L*2 ^ k≤A*2 ^ k:=Nat.mul_le_mul_right _ hA1
 rw[←Nat.pow_add]at a b
 rw[show k-1+(L+1)=L+k by omega]at a
 omega
theorem ratioW_pow(A C a c x y:Nat)(E:Int)(hA:0<A)(hC:0<C)(h:9007199254740992≤A*2 ^ a / (C*2 ^ c))(hE:E=(c:Int)-a+((x:Int)-y)) :
  ratioAt (A*2 ^ a) (C*2 ^ c) E=ratioW (A*2 ^ x) (C*2 ^ y):=by
 have e1:A*2 ^ x*2 ^ (a+y)=A*2 ^ a*2 ^ (x+y):=by rw[Nat.mul_assoc,←Nat.pow_add,Nat.mul_assoc,←Nat.pow_add];congr 2;omega
 have e2:C*2 ^ y*2 ^ (c+x)=C*2 ^ c*2 ^ (x+y):=by rw[Nat.mul_assoc,←Nat.pow_add,Nat.mul_assoc,←Nat.pow_add];congr 2;omega
 have hq:9007199254740992≤A*2 ^ x*2 ^ (a+y) / (C*2 ^ y*2 ^ (c+x)):=by rw[e1,e2,Nat.mul_div_mul_right _ _ (Nat.two_pow_pos _)];exact h
 rw[←ratioW_at (A*2 ^ x) (C*2 ^ y) (a+y) (c+x) (Nat.mul_pos hA (Nat.two_pow_pos _)) (Nat.mul_pos hC (Nat.two_pow_pos _)) hq,e1,e2,ratio_scale _ _ _ _ (Nat.two_pow_pos _)]
 congr 1
 omega
theorem quo_word(A C a c q t x y L:Nat)(E:Int)(hA:0<A)(hC:0<C)(h:Lng (A*2 ^ a) (C*2 ^ c) 64 q t)(hL:2 ^ L≤A*2 ^ a)(hL':C*2 ^ c<2 ^ (L+1))(hE:E=(c:Int)-a-63+((x:Int)-y)) :
  fw false (stk q t) E=ratioW (A*2 ^ x) (C*2 ^ y):=by
 have hB:0<C*2 ^ c:=Nat.mul_pos hC (Nat.two_pow_pos _)
 have hq:2 ^ (63-1)≤q:=lng_long hB h hL hL' (by omega)
 have hq':18014398509481984≤q:=Nat.le_trans (by decide) hq
 rw[stk_at _ _ q t E hB h hq',Nat.mul_assoc,←Nat.pow_add]
 refine ratioW_pow A C (a+63) c x y E hA hC ?_ (by omega)
 rw[Nat.pow_add,←Nat.mul_assoc,(lng_end hB h).1]
 omega
theorem dec_five(V K:Nat)(hV:0<V):decW 10 V K=ratioW (V*5 ^ K*2 ^ K) (1*2 ^ 0):=by
 unfold decW
 rw[if_neg (by omega),Int.toNat_natCast,show(-(K:Int)).toNat=0 by omega,Nat.pow_zero,Nat.mul_assoc,←Nat.mul_pow]
theorem dec_fifth(V K:Nat)(hV:0<V):decW 10 V (-(K:Int))=ratioW (V*2 ^ 0) (5 ^ K*2 ^ K):=by
 unfold decW
 rw[if_neg (by omega),show(-(-(K:Int))).toNat=K by omega,show(-(K:Int)).toNat=0 by omega,Nat.pow_zero,←Nat.mul_pow]
theorem dec_nil(e:Int):decW 10 0 e=0:=by unfold decW;rw[if_pos rfl]
theorem dec_clamp(V:Nat)(e:Int)(len:Nat)(hV:V<10 ^ len)(hl:len≤1200):decW 10 V e=decW 10 V (min (max e (-1530)) 310):=by
 by_cases h0:V=0
 ·subst h0;rw[dec_nil,dec_nil]
 ·by_cases h1:e < -1530
  ·rw[show min (max e (-1530)) 310 = -1530 by omega]
   have hk:∀e:Int,e≤-1530→decW 10 V e=0:=by
    intro e he
    unfold decW
    rw[if_neg h0]
    obtain⟨k,hk⟩:∃k:Nat,(k:Int) = -e-1200:=⟨(-e-1200).toNat,by omega⟩
    have h1:V*10 ^ e.toNat=V:=by rw[show e.toNat=0 by omega,Nat.pow_zero,Nat.mul_one]
    rw[h1]
    obtain⟨t,ht⟩:∃t:Nat,t=10:=⟨_,rfl⟩
    obtain⟨b,hb⟩:∃b,b=109*t+3*(k-33*t):=⟨_,rfl⟩
    refine ratio_under _ _ b (by omega) (by omega) ?_
    have h3:2 ^ b≤10 ^ k:=by
     rw[hb,Nat.pow_add]
     obtain⟨j,hj⟩:∃j,k=33*t+j:=⟨k-33*t,by omega⟩
     rw[hj,Nat.add_sub_cancel_left,Nat.pow_add,Nat.pow_mul 2 109 t,Nat.pow_mul 10 33 t]
     exact Nat.mul_le_mul (Nat.pow_le_pow_left (by decide) t) (ten_lo j)
    obtain⟨l,hl'⟩:∃l:Nat,l=1200:=⟨_,rfl⟩
    have h2:V*2 ^ b≤10 ^ l*10 ^ k:=Nat.mul_le_mul (Nat.le_of_lt (Nat.lt_of_lt_of_le hV (Nat.pow_le_pow_right (by omega) (by omega)))) h3
    rw[←Nat.pow_add,show l+k=(-e).toNat by omega]at h2
    exact h2
   rw[hk e (by omega),hk (-1530) (by omega)]
  ·by_cases h2:310<e
   ·rw[show min (max e (-1530)) 310=310 by omega]
    have hk:∀e:Int,310≤e→decW 10 V e=iw false:=by
     intro e he
     unfold decW
     rw[if_neg h0]
     obtain⟨k,hk⟩:∃k:Nat,e=310+(k:Int):=⟨(e-310).toNat,by omega⟩
     obtain⟨t,ht⟩:∃t:Nat,t=5:=⟨_,rfl⟩
     refine ratio_over _ _ (205*t) (Nat.pow_pos (by omega)) (by omega) ?_
     rw[show(-e).toNat=0 by omega,show e.toNat=62*t+k by omega,Nat.pow_zero,Nat.one_mul,Nat.pow_add]
     have c1:2 ^ (205*t)≤10 ^ (62*t):=by rw[Nat.pow_mul,Nat.pow_mul];exact Nat.pow_le_pow_left (by decide) t
     have a:2 ^ (205*t)*1≤10 ^ (62*t)*10 ^ k:=Nat.mul_le_mul c1 (Nat.pow_pos (by omega))
     have b:1*(10 ^ (62*t)*10 ^ k)≤V*(10 ^ (62*t)*10 ^ k):=Nat.mul_le_mul_right _ (by omega)
     omega
    rw[hk e (by omega),hk 310 (by omega)]
   ·rw[show min (max e (-1530)) 310=e by omega]
theorem fw_sgn(s:Bool)(m:Nat)(p:Int):fw s m p=signBit s+fw false m p:=by
 by_cases h0:m=0
 ·subst h0;rw[fw_zero,fw_zero];rfl
 ·rw[fw_place s m p (by omega),fw_place false m p (by omega)]
  show _=signBit s+(0+_)
  rw[Nat.zero_add]
end Go.Proofs.YtenbfookfcmpoaaGreatDoor
