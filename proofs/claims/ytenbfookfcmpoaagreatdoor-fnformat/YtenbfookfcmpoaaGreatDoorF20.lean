import Derived.Test.YtenbfookfcmpoaaGreatDoorF16
import Derived.Test.YtenbfookfcmpoaaGreatDoorF10
import Derived.Laws.FloatBits
namespace Go.Proofs.YtenbfookfcmpoaaGreatDoor
open Go.ChangeShapes Go.WideShapes Go.RowKit
open Ieee (double)
theorem and_top(U:Nat)(s:Bool)(r:Nat)(hr:r<9223372036854775808)(hU:U=signBit s+r):bits .and .u64 (U:Int) 9223372036854775808=(signBit s:Int):=by
 have hlt:U<18446744073709551616:=by cases s<;>simp only[signBit]at hU<;>simp at hU<;>omega
 have e:=bits_and_u64_nat U 9223372036854775808 hlt (by omega)
 rw[show((9223372036854775808:Nat):Int)=9223372036854775808 from rfl]at e
 rw[e]
 congr 1
 have hb:r.testBit 63=false:=Nat.testBit_lt_two_pow hr
 apply Nat.eq_of_testBit_eq
 intro i
 rw[Nat.testBit_and,show(9223372036854775808:Nat)=2 ^ 63 from rfl,Nat.testBit_two_pow]
 cases s
 ·rw[hU]
  show((0+r).testBit i&&_)=(0:Nat).testBit i
  rw[Nat.zero_add,Nat.zero_testBit]
  by_cases hi:63=i
  ·subst hi;rw[hb];rfl
  ·rw[decide_eq_false hi,Bool.and_false]
 ·rw[hU]
  show((2 ^ 63+r).testBit i&&_)=(2 ^ 63:Nat).testBit i
  rw[Nat.testBit_two_pow]
  by_cases hi:63=i
  ·subst hi
   rw[Nat.testBit_two_pow_add_eq,hb];rfl
  ·rw[decide_eq_false hi,Bool.and_false]
def Lays(U:Nat)(s:Bool)(E M:Nat):Prop:=
 (bits .and .u64 (U:Int) 9223372036854775808 != 0)=s∧bits .and .u64 ((U:Int) / 4503599627370496) 2047=(E:Int)∧bits .and .u64 (U:Int) 4503599627370495=(M:Int)
theorem lays_any(U:Nat)(s:Bool)(E M:Nat)(hE:E<2048)(hM:M<4503599627370496)(hU:U=signBit s+(E*4503599627370496+M)):Lays U s E M:=by
 have hlt:U<18446744073709551616:=by cases s<;>simp only[signBit]at hU<;>simp at hU<;>omega
 have ha:=mask11 ((U:Int) / 4503599627370496) (by omega) (by omega)
 have hb:=mask52 (U:Int) (by omega) (by omega)
 have eE:(U:Int) / 4503599627370496 % 2048=(E:Int):=by cases s<;>simp only[signBit]at hU<;>simp at hU<;>omega
 have eM:(U:Int) % 4503599627370496=(M:Int):=by cases s<;>simp only[signBit]at hU<;>simp at hU<;>omega
 rw[eE]at ha
 rw[eM]at hb
 refine⟨?_,ha,hb⟩
 rw[and_top U s _ (by omega) hU]
 cases s<;>rfl
end Go.Proofs.YtenbfookfcmpoaaGreatDoor
namespace Go.Proofs.YtenbfookfcmpoaaGreatDoor
open Go.ChangeShapes Go.WideShapes Go.RowKit
theorem bytes_new(w:World)(s:ByteArray):∃cap W,(convert 9 22 (.string s)).run Tryz.prog w=.ok (.slice (some ⟨w.heap.size,0,none⟩) s.size cap) W∧Below w.heap.size w W∧w.heap.size<W.heap.size
  ∧ (∀j (h:j<s.size),W.cell? ⟨w.heap.size,j,none⟩=some (.int .u8 (s[j].toNat:Int)))∧(∀j,j<s.size→W.frozen? ⟨w.heap.size,j,none⟩=false):=by
 refine⟨_,_,run_bytes_of_string (P:=Tryz.prog) w 9 22 5 s Tryz.underlying9 Tryz.underlying22 Tryz.underlying5,((Below.refl _ _).drew).alloc (Nat.le_refl _) _,by simp,?_,?_⟩
 ·intro j h
  have hb:(w.drew.alloc (.cells (bytesRow s (grownCap w s.size 0 5)) 5 ((bytesRow s (grownCap w s.size 0 5)).size,(bytesRow s (grownCap w s.size 0 5)).size+1))).heap[w.heap.size]? = some (.cells (bytesRow s (grownCap w s.size 0 5)) 5 ((bytesRow s (grownCap w s.size 0 5)).size,(bytesRow s (grownCap w s.size 0 5)).size+1)):=by
   show(w.heap.push _)[w.heap.size]? = _
   simp
  have hc:(bytesRow s (grownCap w s.size 0 5))[j]? = some (.int .u8 (s[j].toNat:Int)):=by
   unfold bytesRow
   have hl:j<(s.data.map fun b=>Value.int .u8 (b.toNat:Int)).size:=by simpa using h
   rw[Array.getElem?_append_left hl,Array.getElem?_eq_getElem hl]
   simp[ByteArray.getElem_eq_getElem_data]
  simp only[World.cell?,hb]
  simpa using hc
 ·intro j h
  have hb:(w.drew.alloc (.cells (bytesRow s (grownCap w s.size 0 5)) 5 ((bytesRow s (grownCap w s.size 0 5)).size,(bytesRow s (grownCap w s.size 0 5)).size+1))).heap[w.heap.size]? = some (.cells (bytesRow s (grownCap w s.size 0 5)) 5 ((bytesRow s (grownCap w s.size 0 5)).size,(bytesRow s (grownCap w s.size 0 5)).size+1)):=by
   show(w.heap.push _)[w.heap.size]? = _
   simp
  have hsz:j<(bytesRow s (grownCap w s.size 0 5)).size:=by
   unfold bytesRow
   simp
   have:s.data.size=s.size:=rfl
   omega
  simp only[World.frozen?,hb]
  simp
  omega
def UpSt(s:ByteArray)(B k:Nat)(W wr:World):Prop:=Only B W wr∧(∀j (h:j<s.size),j<k→wr.cell? ⟨B,j,none⟩=some (.int .u8 (s[j].toNat:Int)))∧(∀j,j<s.size→k≤j→wr.cell? ⟨B,j,none⟩=some (.int .u8 48))∧(∀j,j<s.size→wr.frozen? ⟨B,j,none⟩=false)
theorem set_cell_at{w:World}{B k:Nat}{v u:Value}(h:w.cell? ⟨B,k,none⟩=some u)(j:Nat):(w.setCell ⟨B,k,none⟩ v).cell? ⟨B,j,none⟩=if j=k then some v else w.cell? ⟨B,j,none⟩:=by
 by_cases hj:j=k
 ·subst hj;rw[if_pos rfl];simp[go_sem,h]
 ·rw[if_neg hj];simp[go_sem]
theorem set_frozen_at{w:World}{B k:Nat}{v:Value}(j:Nat):(w.setCell ⟨B,k,none⟩ v).frozen? ⟨B,j,none⟩=w.frozen? ⟨B,j,none⟩:=by simp[go_sem]
theorem UpSt.zero{s:ByteArray}{B k:Nat}{W wr:World}(h:UpSt s B (k+1) W wr)(hk:k<s.size):UpSt s B k W (wr.setCell ⟨B,k,none⟩ (.int .u8 48)):=by
 obtain⟨h1,h2,h3,h4⟩:=h
 have hc:=h2 k hk (by omega)
 refine⟨h1.setCell _ _,fun j hj hjk=>?_,fun j hj hjk=>?_,fun j hj=>?_⟩
 ·rw[set_cell_at hc,if_neg (by omega)];exact h2 j hj (by omega)
 ·rw[set_cell_at hc]
  split
  ·rfl
  ·exact h3 j hj (by omega)
 ·rw[set_frozen_at];exact h4 j hj
theorem UpSt.text{s:ByteArray}{B k:Nat}{W wr:World}(h:UpSt s B (k+1) W wr)(hk:k<s.size)(c:UInt8)(cap:Nat) :
  (convert 22 9 (.slice (some ⟨B,0,none⟩) s.size cap)).run Tryz.prog (wr.setCell ⟨B,k,none⟩ (.int .u8 (c.toNat:Int)))=.ok (.string ⟨(s.data.toList.take k++[c]++List.replicate (s.data.toList.length-(k+1)) 48).toArray⟩) (wr.setCell ⟨B,k,none⟩ (.int .u8 (c.toNat:Int))):=by
 obtain⟨h1,h2,h3,h4⟩:=h
 have hl:(s.data.toList.take k++[c]++List.replicate (s.data.toList.length-(k+1)) 48).length=s.size:=by
  rw[List.length_append,List.length_append,List.length_take,List.length_replicate,data_len,List.length_singleton];omega
 have:=run_convert_bytes_back (P:=Tryz.prog) (wr.setCell ⟨B,k,none⟩ (.int .u8 (c.toNat:Int))) 22 9 5 ⟨B,0,none⟩ cap (s.data.toList.take k++[c]++List.replicate (s.data.toList.length-(k+1)) 48) Tryz.underlying22 Tryz.underlying5 Tryz.underlying9 (fun j hj=>by
  rw[show(⟨B,0,none⟩:Addr).add j=⟨B,j,none⟩ by(simp[Addr.add];try omega),set_cell_at (h2 k hk (by omega))]
  have hjs:j<s.size:=by omega
  by_cases e1:j=k
  ·rw[if_pos e1]
   subst e1
   have:(s.data.toList.take j++[c]++List.replicate (s.data.toList.length-(j+1)) 48)[j]=c:=by
    rw[List.getElem_append_left (by rw[List.length_append,List.length_take,data_len,List.length_singleton];omega),List.getElem_append_right (by rw[List.length_take,data_len];omega)]
    simp
   rw[this]
  ·rw[if_neg e1]
   by_cases e2:j<k
   ·rw[h2 j hjs (by omega)]
    have:(s.data.toList.take k++[c]++List.replicate (s.data.toList.length-(k+1)) 48)[j]=s[j]:=by
     rw[List.getElem_append_left (by rw[List.length_append,List.length_take,data_len];omega),List.getElem_append_left (by rw[List.length_take,data_len];omega),List.getElem_take]
     rfl
    rw[this]
   ·rw[h3 j hjs (by omega)]
    have:(s.data.toList.take k++[c]++List.replicate (s.data.toList.length-(k+1)) 48)[j]=48:=by
     rw[List.getElem_append_right (by rw[List.length_append,List.length_take,data_len,List.length_singleton];omega),List.getElem_replicate]
    rw[this];rfl)
 rw[hl]at this
 exact this
theorem UpSt.zeros{s:ByteArray}{B:Nat}{W wr:World}(h:UpSt s B 0 W wr)(cap:Nat) :
  (convert 22 9 (.slice (some ⟨B,0,none⟩) s.size cap)).run Tryz.prog wr=.ok (.string ⟨(List.replicate s.size 48).toArray⟩) wr:=by
 obtain⟨h1,h2,h3,h4⟩:=h
 have:=run_convert_bytes_back (P:=Tryz.prog) wr 22 9 5 ⟨B,0,none⟩ cap (List.replicate s.size 48) Tryz.underlying22 Tryz.underlying5 Tryz.underlying9 (fun j hj=>by
  rw[show(⟨B,0,none⟩:Addr).add j=⟨B,j,none⟩ by(simp[Addr.add];try omega),h3 j (by simpa using hj) (by omega),List.getElem_replicate]
  rfl)
 rw[List.length_replicate]at this
 exact this
theorem byte_up(c:UInt8)(h:c.toNat≤57):(UInt8.ofNat (c.toNat+1)).toNat=c.toNat+1:=by rw[UInt8.toNat_ofNat'];omega
set_option maxHeartbeats 2000000 in
set_option maxRecDepth 100000 in
theorem l5up_any(ds:ByteArray)(hs:ds.size≤3000)(hg:good 10 ds.data.toList)(w:World) :
  Calls Tryz.prog 127 #[.string ds] w fun e w'=>∃t more,UpD ds t more∧e=.returned (.tuple #[.string t,.bool more])∧Below w.heap.size w w':=by
 obtain⟨cap,W,hrun,hB,hlt,hcl,hfr⟩:=bytes_new w ds
 have HB:Hid _:=hB
 have HCL:Hid (UpSt ds w.heap.size ds.size W W):=⟨Only.refl _ _,fun j h _=>hcl j h,fun j h hk=>by omega,hfr⟩
 have HG:Hid (good 10 ds.data.toList):=hg
 have hs':(ds.size:Int)≤3000:=by omega
 clear hB hcl hfr hg
 go_enter Tryz.func127,Tryz.ntmps127
 go_wp2
 go_loopw [5] (fun vi wr=>∃k:Nat,vi=.int .i64 ((k:Int)-1)∧k≤ds.size∧Hid (UpSt ds w.heap.size k W wr)∧Hid (Nines ds.data.toList k)) (fun vi _=>(intOf vi+1).toNat)
 case atStart=>exact⟨ds.size,rfl,Nat.le_refl _,HCL.out,by show Nines _ _;have:=nines_start ds.data.toList;rw[data_len]at this;exact this⟩
 case round=>
  obtain⟨k,rfl,hk,HS,HN⟩:=hrel
  cases k with
  | zero=>
   have hcv:=HS.out.zeros cap
   have HU:Hid _:=up_none ds.data.toList HN.out
   have hz:(⟨(List.replicate ds.size (48:UInt8)).toArray⟩:ByteArray).size≤3000:=by rw[←data_len];simp;exact hs
   have HT:Hid (Below w.heap.size w wr):=HB.out.trans (HS.out.1.below (Nat.le_refl _))
   have HD:Hid (UpD ds (⟨#[49]⟩++⟨(List.replicate ds.size (48:UInt8)).toArray⟩) true):=by
    have e:((⟨#[49]⟩:ByteArray)++⟨(List.replicate ds.size (48:UInt8)).toArray⟩).data.toList=(49:UInt8) :: List.replicate ds.data.toList.length 48:=by
     rw[append_list,data_len];rfl
    refine⟨by rw[e];exact HU.out.1,by rw[e];exact HU.out.2,?_⟩
    refine⟨?_,fun _=>by have:=nines_all _ HN.out;rw[data_len]at this;exact this⟩
    rw[append_size,if_pos rfl,Nat.add_comm]
    congr 1
    rw[←data_len];simp
   generalize (⟨(List.replicate ds.size (48:UInt8)).toArray⟩:ByteArray)=Z at *
   go_wp2
   go_ret2
   exact⟨_,true,HD.out,rfl,HT.out⟩
  | succ k=>
   have hkl:k<ds.size:=by omega
   have hx:=HS.out.2.1 k hkl (by omega)
   have hf:=HS.out.2.2.2 k hkl
   obtain⟨d1,d2,_⟩:=good_digit ds[k] (good_at 10 ds HG.out k hkl)
   by_cases h9:ds[k].toNat=57
   ·have HS2:Hid _:=HS.out.zero hkl
    have HN2:Hid (Nines ds.data.toList k):=nines_step _ k (by rw[data_len];exact hkl) HN.out h9
    rw[h9]at hx
    clear d1 d2
    go_wp2
    exact⟨⟨k,rfl,by omega,HS2.out,HN2.out⟩,by simp only[intOf];omega⟩
   ·have hb:=byte_up ds[k] d2
    have hcv:=HS.out.text hkl (UInt8.ofNat (ds[k].toNat+1)) cap
    have HU:Hid _:=up_found ds.data.toList k (by rw[data_len];exact hkl) HG.out HN.out h9 (UInt8.ofNat (ds[k].toNat+1)) hb
    rw[hb]at hcv
    have HD:Hid (UpD ds ⟨(ds.data.toList.take k++[UInt8.ofNat (ds[k].toNat+1)]++List.replicate (ds.data.toList.length-(k+1)) 48).toArray⟩ false):=by
     refine⟨HU.out.1,HU.out.2,?_,fun h=>by cases h⟩
     rw[←data_len]
     show(ds.data.toList.take k++[UInt8.ofNat (ds[k].toNat+1)]++List.replicate (ds.data.toList.length-(k+1)) 48).length=_
     rw[List.length_append,List.length_append,List.length_take,List.length_replicate,data_len,List.length_singleton,if_neg (by decide)];omega
    have HT:Hid (Below w.heap.size w wr):=HB.out.trans (HS.out.1.below (Nat.le_refl _))
    generalize (⟨(ds.data.toList.take k++[UInt8.ofNat (ds[k].toNat+1)]++List.replicate (ds.data.toList.length-(k+1)) 48).toArray⟩:ByteArray)=Z at *
    obtain⟨c,hc⟩:∃c:Int,c=(ds[k].toNat:Int):=⟨_,rfl⟩
    rw[show((ds[k].toNat+1:Nat):Int)=c+1 by omega]at hcv
    rw[←hc]at hx
    have hc9:¬c=57:=by omega
    have hc0:48≤c:=by omega
    have hc1:c≤57:=by omega
    clear hc d1 d2 h9 hb
    go_wp2
    go_ret2
    exact⟨Z,false,HD.out,rfl,HT.out.setCell (by simp) _⟩
theorem bval_drop(a:List Nat)(k:Nat)(h:k<a.length):bval (a.drop k)=a.getD k 0+4294967296*bval (a.drop (k+1)):=by
 rw[List.drop_eq_getElem_cons h]
 simp[bval,List.getElem?_eq_getElem h]
theorem drop_lt{a:List Nat}(hl:Lim a)(k n:Nat)(h:a.length≤n):bval (a.drop k)<4294967296 ^ n:=by
 have h1:=bval_lt (a:=a.drop k) fun x hx=>hl x (List.mem_of_mem_drop hx)
 have h2:4294967296 ^ (a.drop k).length≤4294967296 ^ n:=Nat.pow_le_pow_right (by omega) (by rw[List.length_drop];omega)
 omega
theorem mul_bound{a b n m:Nat}(ha:a<4294967296 ^ n)(hb:b<4294967296 ^ m):a*b<4294967296 ^ (n+m):=by
 rw[Nat.pow_add]
 exact Nat.mul_lt_mul_of_lt_of_le ha (Nat.le_of_lt hb) (Nat.pow_pos (by omega))
theorem times_round(A y d:Nat):A*d*2 ^ 32+(A*y+0)=A*(y+4294967296*d):=by
 have e:(2:Nat) ^ 32=4294967296:=rfl
 rw[e,Nat.mul_add,Nat.add_zero,Nat.mul_comm 4294967296 d,←Nat.mul_assoc]
 omega
theorem shl_bound{x n:Nat}(h:x<4294967296 ^ n):x*2 ^ 32<4294967296 ^ (n+1):=by
 have e:(2:Nat) ^ 32=4294967296:=rfl
 rw[e,Nat.pow_succ]
 exact Nat.mul_lt_mul_of_pos_right h (by omega)
theorem part_bound{A y n:Nat}(h:A<4294967296 ^ n)(hy:y<4294967296):A*y+0<4294967296 ^ (n+n+1):=by
 have h1:=mul_bound h (m:=1) (b:=y) (by omega)
 have h2:4294967296 ^ (n+1)≤4294967296 ^ (n+n+1):=Nat.pow_le_pow_right (by omega) (by omega)
 omega
set_option maxHeartbeats 3200000 in
set_option maxRecDepth 100000 in
theorem l0times_any(v u:Value)(A C n:Nat)(w:World)(h:Big w v A)(h':Big w u C)(hA:A<4294967296 ^ n)(hC:C<4294967296 ^ n)(hn:n<200000) :
  Calls Tryz.prog 79 #[v,u] w fun e w'=>∃v',e=.returned v'∧Below w.heap.size w w'∧Big w' v' (A*C):=by
 obtain⟨ms,b1,b2,b3,rfl⟩:=h'
 have hlen:=trim_len b3 hC
 obtain⟨bo,bcap,rfl,bc,bm,bh⟩:=b1
 have bm':bcap≤9223372036854775807:=bm
 have HA:Hid (Big w v A):=h
 have HB:Hid _:=bh
 have LB:Hid _:=b2
 have HP:Hid _:=fun k=>mul_bound hA (drop_lt b2 k n hlen)
 have HQ:Hid (A<4294967296 ^ n):=hA
 clear h bh bm b2 b3 hC hA
 go_enter Tryz.func79,Tryz.ntmps79
 go_wp2
 go_loopw [5,6] (fun v i wr=>∃k:Nat,i=.int .i64 ((k:Int)-1)∧k≤ms.length∧Hid (Big wr v (A*bval (ms.drop k)))∧Below w.heap.size w wr) (fun _ i _=>(intOf i+1).toNat)
 case atStart=>exact⟨ms.length,rfl,Nat.le_refl _,by show Big _ _ _;rw[List.drop_length];exact⟨[],Row.nil w,fun _ h=>absurd h (by simp),rfl,by simp[bval]⟩,Below.refl _ _⟩
 case round=>
  obtain⟨k,rfl,hk,HD,hbe⟩:=hrel
  have hsz:=hbe.size
  cases k with
  | zero=>
   go_wp2
   go_ret
   exact⟨_,rfl,hbe,HD.out⟩
  | succ k=>
   obtain⟨g,rfl,hg,hcl⟩:=Row.block bc HB.out (t:=k) (by omega)
   have hyl:=lim_get LB.out k
   have HS:Hid _:=bval_drop ms k (by omega)
   have hcy:=hcl k (by omega)
   clear hcl
   generalize ms.getD k 0=y at *
   have HN1:Hid _:=shl_bound (HP.out (k+1))
   have HN2:Hid _:=part_bound HQ.out hyl
   go_wp2_with (first
    | (go_at_call 113;refine(l0shl_big _ _ (n+n) 32 _ HD.out (HP.out (k+1)) (by omega) (by omega)).mono ?_;rintro e w2 ⟨v2,rfl,hb2,hv2⟩;have hbe2:=hbe.trans (hb2.mono hsz);have hy2:w2.cell? ⟨g,k,none⟩=some (.int .u64 (y:Nat)):=(hbe2.cell hg).trans hcy)
    | (go_at_call 111;refine(l0mul_big _ A y 0 n _ (HA.out.below hbe2 (Nat.le_refl _)) HQ.out (by omega) hyl (by omega)).mono ?_;rintro e w3 ⟨v3,rfl,hb3,hv3⟩)
    | (go_at_call 117;refine(l0add_any _ _ _ _ (n+n+1) _ (hv2.below hb3 (Nat.le_refl _)) hv3 HN1.out HN2.out (by omega)).mono ?_;rintro e w4 ⟨v4,rfl,hb4,hv4⟩))
   go_roundw
   case rel=>exact⟨k,rfl,by omega,by show Big _ _ _;rw[HS.out,←times_round];exact hv4,hbe2.trans ((hb3.mono hbe2.size).trans (hb4.mono (Nat.le_trans hbe2.size hb3.size)))⟩
   case measure=>simp only[intOf];omega
end Go.Proofs.YtenbfookfcmpoaaGreatDoor
namespace Go.Proofs.YtenbfookfcmpoaaGreatDoor
open Ieee (double)
theorem width_64:(2:Nat) ^ double.width=18446744073709551616:=by decide
theorem div_rep(s t:Bool)(a b:Nat)(i j:Int)(ha:Rep a i)(hb:Rep b j)(h0:0<b):∃r,double.div (fw s a i) (fw t b j)=some r∧r<18446744073709551616:=by
 obtain⟨m,p,hc,hw,_,_⟩:=rep_canon a i ha
 obtain⟨n,q,kc,kw,_,k0⟩:=rep_canon b j hb
 have hn:=k0 h0
 have:∃r,double.div (fw s a i) (fw t b j)=some r:=by
  rw[hw s,kw t]
  unfold Ieee.Format.div
  rw[read_canon s m p hc,read_canon t n q kc]
  obtain⟨n',rfl⟩:∃n',n=n'+1:=⟨n-1,by omega⟩
  cases m<;>exact⟨_,rfl⟩
 obtain⟨r,hr⟩:=this
 exact⟨r,hr,by rw[←width_64];exact double.div_lt hr⟩
theorem bits_100:(4636737291354636288:Nat)=fw false 100 0:=by
 have e:=fw_scale false 100 46 0
 rw[show(0:Int)-((46:Nat):Int) = -46 by omega,show 100*2 ^ 46=7036874417766400 by decide,fw_canon _ _ _ (.inl ⟨by omega,by omega,by omega,by omega⟩)]at e
 rw[←e];decide
theorem bits_eighth:(4593671619917905920:Nat)=fw false 4503599627370496 (-3-52):=by rw[fw_canon _ _ _ (.inl ⟨by omega,by omega,by omega,by omega⟩)];decide
theorem minus_one_by_zero:double.div 13830554455654793216 0=some (iw true):=by decide
theorem fw_word(s:Bool)(m:Nat)(e:Int):fw s m e<18446744073709551616:=by rw[←width_64];exact double.nearest_lt s m e
theorem neg_lt(x:Nat)(h:x<18446744073709551616):Op.negFloat .f64 x<18446744073709551616:=by
 rcases Nat.lt_or_ge x 9223372036854775808 with h1|h1
 ·have:=neg_word false x h1
  rw[show signBit false+x=x from Nat.zero_add x]at this
  rw[this]
  show 9223372036854775808+x<_
  omega
 ·obtain⟨r,rfl⟩:∃r,x=signBit true+r:=⟨x-9223372036854775808,by show x=9223372036854775808+_;omega⟩
  have hr:r<9223372036854775808:=by have:signBit true=9223372036854775808:=rfl;omega
  rw[neg_word true r hr]
  show 0+r<_
  omega
def rankI(s:Bool)(r:Nat):Int:=if s then -(r:Int) else (r:Int)
theorem rung_lt_sval(m n:Nat)(p q:Int)(h:Canon m p)(k:Canon n q)(hr:rung m p<rung n q):sval false m p<sval false n q:=by
 unfold rung at hr
 by_cases hpq:p=q
 ·subst hpq
  exact sval_lt m n p p (by omega) (by omega)
 ·have hlt:p<q:=by
   rcases h with h|h<;>rcases k with k|k<;>omega
  have hn:4503599627370496≤n:=by rcases k with k|k<;>rcases h with h|h<;>omega
  have hm:m<9007199254740992:=by rcases h with h|h<;>omega
  have hp:-1074≤p:=by rcases h with h|h<;>omega
  have h1:=sval_lt m 9007199254740992 p p hm (by omega)
  have h2:sval false 9007199254740992 p=sval false 4503599627370496 (p+1):=by
   have:=sval_scale false 4503599627370496 1 (p+1) (by omega)
   rw[show(4503599627370496*2 ^ 1:Nat)=9007199254740992 by decide,show(p+1-((1:Nat):Int))=p by omega]at this
   exact this
  have h3:=sval_le n 4503599627370496 q (p+1) hn (by omega)
  omega
theorem rung_eq_sval(m n:Nat)(p q:Int)(h:Canon m p)(k:Canon n q)(hr:rung m p=rung n q):sval false m p=sval false n q:=by
 have e:fw false m p=fw false n q:=by rw[fw_canon _ _ _ h,fw_canon _ _ _ k,hr]
 have h1:=read_canon false m p h
 rw[e,read_canon false n q k]at h1
 cases h1;rfl
theorem sval_nonneg(m:Nat)(p:Int):0≤sval false m p:=by
 by_cases h:m=0
 ·subst h;rw[sval_zero];omega
 ·have:=sval_pos m p (by omega);omega
theorem rung_zero(m:Nat)(p:Int)(hr:rung m p=0):m=0:=by
 unfold rung at hr;omega
theorem cmp_rung(s t:Bool)(m n:Nat)(p q:Int)(h:Canon m p)(k:Canon n q):compare (sval s m p) (sval t n q)=compare (rankI s (rung m p)) (rankI t (rung n q)):=by
 have a0:=sval_nonneg m p
 have b0:=sval_nonneg n q
 have am:0<rung m p→0<sval false m p:=fun h'=>sval_pos m p (by
  rcases Nat.eq_zero_or_pos m with h0|h0
  ·subst h0
   rcases h with h|h
   ·omega
   ·unfold rung at h';rw[h.2]at h';simp at h'
  ·exact h0)
 have bm:0<rung n q→0<sval false n q:=fun h'=>sval_pos n q (by
  rcases Nat.eq_zero_or_pos n with h0|h0
  ·subst h0
   rcases k with k|k
   ·omega
   ·unfold rung at h';rw[k.2]at h';simp at h'
  ·exact h0)
 have az:rung m p=0→sval false m p=0:=fun h'=>by rw[rung_zero m p h',sval_zero]
 have bz:rung n q=0→sval false n q=0:=fun h'=>by rw[rung_zero n q h',sval_zero]
 have l1:=rung_lt_sval m n p q h k
 have l2:=rung_lt_sval n m q p k h
 have l3:=rung_eq_sval m n p q h k
 have hsv:∀ (s:Bool) (m:Nat) (p:Int),sval s m p=if s then-sval false m p else sval false m p:=by
  intro s m p;cases s
  ·rfl
  ·rw[sval_neg];rfl
 rw[hsv s m p,hsv t n q]
 unfold rankI
 generalize sval false m p=A at *
 generalize sval false n q=B at *
 generalize rung m p=a at *
 generalize rung n q=b at *
 have key:∀x y X Y:Int,(X<Y↔x<y)→(X=Y↔x=y)→compare X Y=compare x y:=by
  intro x y X Y h1 h2
  simp only[compare,compareOfLessAndEq]
  by_cases c1:x<y
  ·rw[if_pos c1,if_pos (h1.2 c1)]
  ·rw[if_neg c1,if_neg (fun c=>c1 (h1.1 c))]
   by_cases c2:x=y
   ·rw[if_pos c2,if_pos (h2.2 c2)]
   ·rw[if_neg c2,if_neg (fun c=>c2 (h2.1 c))]
 apply key
 ·rcases Nat.lt_trichotomy a b with c|c|c
  ·have:=l1 c
   cases s<;>cases t<;>simp<;>omega
  ·have:=l3 c
   cases s<;>cases t<;>simp<;>omega
  ·have:=l2 c
   cases s<;>cases t<;>simp<;>omega
 ·rcases Nat.lt_trichotomy a b with c|c|c
  ·have:=l1 c
   cases s<;>cases t<;>simp<;>omega
  ·have:=l3 c
   cases s<;>cases t<;>simp<;>omega
  ·have:=l2 c
   cases s<;>cases t<;>simp<;>omega
theorem canon_parts(E M:Nat)(hM:M<4503599627370496)(hE:E≤2046):∃m p,Canon m p∧rung m p=E*4503599627370496+M∧((E=0∧m=M∧p = -1074)∨(1≤E∧m=4503599627370496+M∧p=(E:Int)-1 + -1074)):=by
 by_cases h:E=0
 ·exact⟨M,-1074,.inr ⟨hM,rfl⟩,by unfold rung;subst h;simp,.inl ⟨h,rfl,rfl⟩⟩
 ·refine⟨4503599627370496+M,(E:Int)-1 + -1074,.inl ⟨by omega,by omega,by omega,by omega⟩,?_,.inr ⟨by omega,rfl,rfl⟩⟩
  unfold rung
  rw[show((E:Int)-1 + -1074+1074).toNat=E-1 by omega]
  omega
theorem order_rank(s t:Bool)(r q:Nat)(hr:r≤9218868437227405312)(hq:q≤9218868437227405312):double.order (signBit s+r) (signBit t+q)=some (compare (rankI s r) (rankI t q)):=by
 have form:∀r:Nat,r<9218868437227405312→∃m p,Canon m p∧rung m p=r:=by
  intro r h
  obtain⟨m,p,h1,h2,_⟩:=canon_parts (r / 4503599627370496) (r % 4503599627370496) (by omega) (by omega)
  exact⟨m,p,h1,by omega⟩
 by_cases c1:r=9218868437227405312
 ·by_cases c2:q=9218868437227405312
  ·subst c1 c2
   cases s<;>cases t<;>decide
  ·obtain⟨n,q',k,hk⟩:=form q (by omega)
   have e:signBit t+q=fw t n q':=by rw[fw_canon _ _ _ k,hk]
   subst c1
   rw[e,show signBit s+9218868437227405312=iw s from rfl,order_iw_fw s t n q' k]
   unfold rankI
   cases s<;>cases t<;>simp only[if_true,Bool.false_eq_true,if_false]<;>first|rw[cmp_lt _ _ (by omega)]|rw[cmp_gt _ _ (by omega)]
 ·obtain⟨m,p,h,hh⟩:=form r (by omega)
  have e1:signBit s+r=fw s m p:=by rw[fw_canon _ _ _ h,hh]
  by_cases c2:q=9218868437227405312
  ·subst c2
   rw[e1,show signBit t+9218868437227405312=iw t from rfl,order_fw_iw t s m p h]
   unfold rankI
   cases s<;>cases t<;>simp only[if_true,Bool.false_eq_true,if_false]<;>first|rw[cmp_lt _ _ (by omega)]|rw[cmp_gt _ _ (by omega)]
  ·obtain⟨n,q',k,hk⟩:=form q (by omega)
   have e2:signBit t+q=fw t n q':=by rw[fw_canon _ _ _ k,hk]
   rw[e1,e2,order_fw s t m n p q' h k,cmp_rung s t m n p q' h k,hh,hk]
end Go.Proofs.YtenbfookfcmpoaaGreatDoor
namespace Go.Proofs.YtenbfookfcmpoaaGreatDoor
open Go.ChangeShapes Go.WideShapes Go.RowKit
open Ieee (double)
def sgnB(s:Bool):ByteArray:=if s then ⟨#[45]⟩ else ⟨#[]⟩
theorem sgnB_size(s:Bool):(sgnB s).size≤1:=by cases s<;>decide
set_option maxHeartbeats 400000 in
theorem l5size_nan(x:Nat)(h:IsNan x)(w:World) :
  Calls Tryz.prog 85 #[.float .f64 x] w fun e w'=>e=.returned (.tuple #[.float .f64 x,.string ⟨#[]⟩])∧w'=w:=by
 obtain⟨s,n,hn⟩:=h
 have h1:FloatKind.f64.format.order x 0=none:=(order_nan x 0 s n hn).1
 go_enter Tryz.func85,Tryz.ntmps85
 go_wp2
 go_ret2
 exact⟨rfl,rfl⟩
set_option maxHeartbeats 400000 in
theorem l5size_some(x y:Nat)(s:Bool)(h:FloatKind.f64.format.order x 0=some (if s then .lt else .gt))(hy:Op.negFloat .f64 x=y)(w:World) :
  Calls Tryz.prog 85 #[.float .f64 x] w fun e w'=>e=.returned (.tuple #[.float .f64 (if s then y else x),.string (sgnB s)])∧w'=w:=by
 have hn:=fun w=>run_neg x w
 rw[hy]at hn
 cases s
 all_goals
  go_enter Tryz.func85,Tryz.ntmps85
  go_wp2
  go_ret2
  exact⟨rfl,rfl⟩
set_option maxHeartbeats 400000 in
theorem l5size_zero(s:Bool)(w:World) :
  Calls Tryz.prog 85 #[.float .f64 (signBit s)] w fun e w'=>e=.returned (.tuple #[.float .f64 0,.string (sgnB s)])∧w'=w:=by
 have hz:FloatKind.f64.format.order (signBit s) 0=some .eq:=ord_zeros s
 have hd:=run_valid (P:=Tryz.prog) .quo 29 _ _ _ (one_by_zero s)
 have hi:FloatKind.f64.format.order (iw s) 0=some (if s then .lt else .gt):=ord_inf_zero s
 have hn:=fun w=>run_neg (signBit s) w
 have hneg:Op.negFloat .f64 (signBit s)=signBit (!s):=by
  have:=neg_word s 0 (by omega)
  simpa using this
 rw[hneg]at hn
 cases s
 ·have HE:Hid (signBit false=0):=rfl
  go_enter Tryz.func85,Tryz.ntmps85
  go_wp2
  go_ret2
  exact⟨rfl,rfl⟩
 ·have e1:signBit (!true)=0:=rfl
  rw[e1]at hn
  generalize signBit true=Z at *
  go_enter Tryz.func85,Tryz.ntmps85
  go_wp2
  go_ret2
  exact⟨rfl,rfl⟩
theorem l5size_any(s:Bool)(r:Nat)(hr:r≤9218868437227405312)(w:World) :
  Calls Tryz.prog 85 #[.float .f64 (signBit s+r)] w fun e w'=>e=.returned (.tuple #[.float .f64 r,.string (sgnB s)])∧w'=w:=by
 by_cases h0:r=0
 ·subst h0;exact l5size_zero s w
 ·have hord:FloatKind.f64.format.order (signBit s+r) 0=some (if s then .lt else .gt):=by
   have:=order_rank s false r 0 hr (by omega)
   rw[show signBit false+0=0 from rfl]at this
   show double.order (signBit s+r) 0=_
   rw[this]
   unfold rankI
   cases s
   ·rw[if_neg (by decide),if_neg (by decide),cmp_gt _ _ (by omega)];rfl
   ·rw[if_pos rfl,if_neg (by decide),cmp_lt _ _ (by omega)];rfl
  refine(l5size_some (signBit s+r) _ s hord (neg_word s r (by omega)) w).mono ?_
  rintro e w' ⟨rfl,rfl⟩
  refine⟨?_,rfl⟩
  cases s
  ·rw[if_neg (by decide),show signBit false+r=r from Nat.zero_add r]
  ·rw[if_pos rfl,show signBit (!true)+r=r from Nat.zero_add r]
set_option maxHeartbeats 400000 in
theorem l5odd_nan(x:Nat)(h:IsNan x)(w:World) :
  Calls Tryz.prog 86 #[.float .f64 x] w fun e w'=>e=.returned (.tuple #[.string ⟨#[110,97,110]⟩,.bool true])∧w'=w:=by
 have h1:(FloatKind.f64.format.order x x != some .eq)=true:=nan_neq x h
 go_enter Tryz.func86,Tryz.ntmps86
 go_wp2
 go_ret2
 exact⟨rfl,rfl⟩
set_option maxHeartbeats 400000 in
theorem l5odd_inf(w:World) :
  Calls Tryz.prog 86 #[.float .f64 9218868437227405312] w fun e w'=>e=.returned (.tuple #[.string ⟨#[105,110,102]⟩,.bool true])∧w'=w:=by
 have h1:FloatKind.f64.format.order 9218868437227405312 9218868437227405312=some .eq:=order_self_iw false
 have h2:FloatKind.f64.format.order 9218868437227405312 9218868437227405311=some .gt:=ord_inf_most
 go_enter Tryz.func86,Tryz.ntmps86
 go_wp2
 go_ret2
 exact⟨rfl,rfl⟩
set_option maxHeartbeats 400000 in
theorem l5odd_num(r:Nat)(hr:r<9218868437227405312)(w:World) :
  Calls Tryz.prog 86 #[.float .f64 r] w fun e w'=>e=.returned (.tuple #[.string ⟨#[48]⟩,.bool (decide (r=0))])∧w'=w:=by
 have h1:FloatKind.f64.format.order r r=some .eq:=by
  have:=order_rank false false r r (by omega) (by omega)
  rw[show signBit false+r=r from Nat.zero_add r,cmp_eq _ _ rfl]at this
  exact this
 have h2:(FloatKind.f64.format.order r 9218868437227405311==some .gt)=false:=by
  have:=order_rank false false r 9218868437227405311 (by omega) (by omega)
  rw[show signBit false+r=r from Nat.zero_add r,show signBit false+9218868437227405311=9218868437227405311 from rfl]at this
  show(double.order r _==_)=false
  rw[this]
  unfold rankI
  rw[if_neg (by decide),if_neg (by decide)]
  by_cases h:r=9218868437227405311
  ·rw[cmp_eq _ _ (by omega)];rfl
  ·rw[cmp_lt _ _ (by omega)];rfl
 have h3:(FloatKind.f64.format.order r 0==some .eq)=decide (r=0):=by
  have:=order_rank false false r 0 (by omega) (by omega)
  rw[show signBit false+r=r from Nat.zero_add r,show signBit false+0=0 from rfl]at this
  show(double.order r _==_)=_
  rw[this]
  unfold rankI
  rw[if_neg (by decide),if_neg (by decide)]
  by_cases h:r=0
  ·rw[cmp_eq _ _ (by omega),decide_eq_true h];rfl
  ·rw[cmp_gt _ _ (by omega),decide_eq_false h];rfl
 clear hr
 go_enter Tryz.func86,Tryz.ntmps86
 go_wp2
 go_ret2
 exact⟨rfl,rfl⟩
end Go.Proofs.YtenbfookfcmpoaaGreatDoor
namespace Go.Proofs.YtenbfookfcmpoaaGreatDoor
theorem down_bound(A s:Nat)(hA:A<4294967296 ^ 2):A<4294967296 ^ (s+2)∧5 ^ s<4294967296 ^ (s+2)∧A*5 ^ s<4294967296 ^ (s+2+(s+2)):=by
 have h1:4294967296 ^ 2≤4294967296 ^ (s+2):=Nat.pow_le_pow_right (by omega) (by omega)
 have h2:5 ^ s<4294967296 ^ (s+2):=Nat.lt_of_le_of_lt (Nat.pow_le_pow_left (show 5≤4294967296 by omega) s) (Nat.pow_lt_pow_right (by omega) (by omega))
 exact⟨by omega,h2,mul_bound (by omega) h2⟩
end Go.Proofs.YtenbfookfcmpoaaGreatDoor
namespace Go.Proofs.YtenbfookfcmpoaaGreatDoor
open Go.ChangeShapes Go.WideShapes Go.RowKit
open Ieee (double)
theorem dec_up_size(ds:ByteArray)(M E:Nat)(hM:M<9007199254740992)(h:IsDec ds (M*2 ^ E))(h0:0<ds.size):3*ds.size≤56+E:=by
 have h1:=(dec_bounds ds _ h h0).1
 have h3:2 ^ (3*(ds.size-1))≤10 ^ (ds.size-1):=by rw[Nat.pow_mul];exact Nat.pow_le_pow_left (by omega) _
 have h5:M*2 ^ E<2 ^ (53+E):=by
  rw[Nat.pow_add]
  exact Nat.mul_lt_mul_of_pos_right (show M<2 ^ 53 from hM) (Nat.two_pow_pos _)
 have h6:=(Nat.pow_lt_pow_iff_right (a:=2) (by omega)).1 (Nat.lt_of_le_of_lt (Nat.le_trans h3 h1) h5)
 omega
theorem dec_down_size(ds:ByteArray)(M s:Nat)(hM:M<9007199254740992)(h:IsDec ds (M*5 ^ s))(h0:0<ds.size):ds.size≤16+s:=by
 have h1:=(dec_bounds ds _ h h0).1
 have h2:5 ^ s≤10 ^ s:=Nat.pow_le_pow_left (by omega) _
 have h3:M*5 ^ s<10 ^ (16+s):=by
  rw[Nat.pow_add]
  exact Nat.mul_lt_mul_of_lt_of_le (show M<10 ^ 16 by omega) h2 (Nat.pow_pos (by omega))
 have h6:=(Nat.pow_lt_pow_iff_right (a:=10) (by omega)).1 (Nat.lt_of_le_of_lt h1 h3)
 omega
set_option maxHeartbeats 2000000 in
set_option maxRecDepth 100000 in
theorem l5exact_up(x q E:Nat)(hP:∀w,Calls Tryz.prog 91 #[.float .f64 x] w fun e w'=>e=.returned (.agg #[.int .i64 1,.bool false,.int .i64 (q:Int),.int .i64 (E:Int)])∧Below w.heap.size w w')
  (hq0:0<q) (hq:q<9007199254740992) (hE:E≤1030) (w:World) :
  Calls Tryz.prog 92 #[.float .f64 x] w fun e w'=>∃ds pow,ExD ds pow q (E:Int)∧ds.size≤1100∧-1100≤pow∧pow≤1100∧e=.returned (.agg #[.string ds,.int .i64 pow])∧Below w.heap.size w w':=by
 have HP:Hid _:=hP
 have HF:Hid _:=fun w=>l0from_any q (by omega) w
 have HA:Hid (q<4294967296 ^ 2):=by show q<_;omega
 have HUP:Hid (q*2 ^ E<4294967296 ^ (2+E)):=by
  show _<_
  rw[Nat.pow_add]
  exact Nat.mul_lt_mul_of_lt_of_le HA.out (Nat.pow_le_pow_left (by omega) E) (Nat.pow_pos (by omega))
 have HP0:Hid (0<q*2 ^ E):=Nat.mul_pos hq0 (Nat.two_pow_pos E)
 have hqi:(q:Int)<9007199254740992:=by omega
 have HQ:Hid (q<9007199254740992):=hq
 clear hP hq
 go_enter Tryz.func92,Tryz.ntmps92
 go_wp2_with fail
 refine(HP.out _).mono ?_
 rintro e w1 ⟨rfl,hb1⟩
 have hw1:w.heap.size<w1.heap.size:=by have:=hb1.size;simp at this;omega
 have HB0:Hid (Below w.heap.size w w1):=((Below.refl _ _).alloc (Nat.le_refl _) _).trans (hb1.mono (by simp))
 have c0:w1.cell? ⟨w.heap.size,0,none⟩=some (.string ⟨#[]⟩):=(hb1.cell (p:=⟨w.heap.size,0,none⟩) (by simp)).trans (by simp[go_sem])
 have c1:w1.cell? ⟨w.heap.size,1,none⟩=some (.int .i64 0):=(hb1.cell (p:=⟨w.heap.size,1,none⟩) (by simp)).trans (by simp[go_sem])
 have f0:w1.frozen? ⟨w.heap.size,0,none⟩=false:=(hb1.frozen (p:=⟨w.heap.size,0,none⟩) (by simp)).trans (by simp[go_sem])
 have f1:w1.frozen? ⟨w.heap.size,1,none⟩=false:=(hb1.frozen (p:=⟨w.heap.size,1,none⟩) (by simp)).trans (by simp[go_sem])
 clear hb1
 go_wp2_with fail
 obtain⟨Wp,hWp⟩:∃Wp,Wp=w1.alloc (.cells #[.int .i64 1,.bool false,.int .i64 (q:Int),.int .i64 (E:Int)] 65):=⟨_,rfl⟩
 rw[←hWp]
 have HKP:Hid (Below w.heap.size w Wp∧w.heap.size<Wp.heap.size∧w1.heap.size<Wp.heap.size∧Wp.cell? ⟨w.heap.size,0,none⟩=some (.string ⟨#[]⟩)∧Wp.cell? ⟨w.heap.size,1,none⟩=some (.int .i64 0)∧Wp.frozen? ⟨w.heap.size,0,none⟩=false∧Wp.frozen? ⟨w.heap.size,1,none⟩=false
   ∧ Wp.cell? ⟨w1.heap.size,3,none⟩=some (.int .i64 (E:Int))):=by
  rw[hWp]
  have hba:=(Below.refl w1.heap.size w1).alloc (Nat.le_refl _) (.cells #[.int .i64 1,.bool false,.int .i64 (q:Int),.int .i64 (E:Int)] 65)
  exact⟨HB0.out.trans (hba.mono (by omega)),by simp;omega,by simp,(hba.cell (p:=⟨w.heap.size,0,none⟩) hw1).trans c0,(hba.cell (p:=⟨w.heap.size,1,none⟩) hw1).trans c1,(hba.frozen (p:=⟨w.heap.size,0,none⟩) hw1).trans f0,(hba.frozen (p:=⟨w.heap.size,1,none⟩) hw1).trans f1,by simp[go_sem]⟩
 clear hWp c0 c1 f0 f1 HB0 hw1
 refine(HF.out _).mono ?_
 rintro e w2 ⟨v2,rfl,hb2,hv2⟩
 have HB2:Hid (Below Wp.heap.size Wp w2):=hb2
 have HV2:Hid (Big w2 v2 q):=hv2
 have hp3:w2.cell? ⟨w1.heap.size,3,none⟩=some (.int .i64 (E:Int)):=(hb2.cell (p:=⟨w1.heap.size,3,none⟩) HKP.out.2.2.1).trans HKP.out.2.2.2.2.2.2.2
 clear hb2 hv2 HF HP
 go_wp2_with fail
 refine(l0shl_big _ q 2 E _ HV2.out HA.out (by omega) (by omega)).mono ?_
 rintro e w3 ⟨v3,rfl,hb3,hv3⟩
 have HB3:Hid (Below Wp.heap.size Wp w3):=HB2.out.trans (hb3.mono HB2.out.size)
 have HV3:Hid (Big w3 v3 (q*2 ^ E)):=hv3
 clear hb3 hv3 hp3
 go_wp2_with fail
 refine(l0digits_any v3 (q*2 ^ E) (2+E) w3 HV3.out HUP.out (by omega)).mono ?_
 rintro e w4 ⟨d0,rfl,hd0,hb4⟩
 have HB4:Hid (Below Wp.heap.size Wp w4):=HB3.out.trans (hb4.mono HB3.out.size)
 have hpos:=dec_pos d0 _ hd0 HP0.out
 have hsz:=dec_up_size d0 q E HQ.out hd0 hpos
 have HST:Hid (Stp d0 d0 0):=stp_start d0 _ hd0 HP0.out
 have HVD:Hid (valN 10 d0.data.toList=q*2 ^ E):=hd0.2.1
 clear hb4 hd0 HV2 HV3 HB2 HB3
 go_wp2
 go_loop [6] (fun vt=>∃ (t:ByteArray) (j:Nat),vt=.string t∧Hid (Stp d0 t j)∧t.size+j=d0.size∧0<t.size) (fun vt=>match vt with | .string t=>t.size|_=>0)
 case atStart=>exact⟨d0,0,rfl,HST.out,rfl,hpos⟩
 case round=>
  obtain⟨t,j,rfl,HS,htj,ht0⟩:=hrel
  obtain⟨k,hk⟩:∃k,t.size=k+1:=⟨t.size-1,by omega⟩
  have hk1:t.size-1=k:=by omega
  have hkl:k<t.size:=by omega
  have hki:(t.size:Int)-1=(k:Int):=by omega
  have hts:(t.size:Int)≤1100:=by omega
  by_cases hz:t[k].toNat=48
  ·have HN:Hid (Stp d0 (t.extract 0 k) (j+1)):=by
    have:=stp_next d0 t j (by rw[HVD.out];exact HP0.out) HS.out (fun _=>by simp only[hk1];exact hz)
    rw[hk1]at this
    exact this
   have hz2:(t[k].toNat:Int)=48:=by omega
   clear hk hk1
   go_wp2
   have hes:(t.extract 0 k).size=k:=by simp;omega
   exact⟨⟨_,j+1,rfl,HN.out,by omega,HN.out.1⟩,by show(t.extract 0 k).size<t.size;omega⟩
  ·have HX:Hid (ExD t ((d0.size:Int)-((0:Nat):Int)) q (E:Int)):=stp_end d0 t j q 0 (E:Int) HS.out (fun _=>by simp only[hk1];exact hz) (by rw[HVD.out];simp) (by omega)
   have hz2:((t[k].toNat:Int)==48)=false:=beq_eq_false_iff_ne.2 (by omega)
   obtain⟨hR,hRl,_,r0,r1,g0,g1,_⟩:=HKP.out
   have hRl4:w.heap.size<w4.heap.size:=Nat.lt_of_lt_of_le hRl HB4.out.size
   have q0:w4.cell? ⟨w.heap.size,0,none⟩=some (.string ⟨#[]⟩):=(HB4.out.cell (p:=⟨w.heap.size,0,none⟩) hRl).trans r0
   have q1:w4.cell? ⟨w.heap.size,1,none⟩=some (.int .i64 0):=(HB4.out.cell (p:=⟨w.heap.size,1,none⟩) hRl).trans r1
   have p0:w4.frozen? ⟨w.heap.size,0,none⟩=false:=(HB4.out.frozen (p:=⟨w.heap.size,0,none⟩) hRl).trans g0
   have p1:w4.frozen? ⟨w.heap.size,1,none⟩=false:=(HB4.out.frozen (p:=⟨w.heap.size,1,none⟩) hRl).trans g1
   have HBE:Hid (Below w.heap.size w w4):=hR.trans (HB4.out.mono (by omega))
   clear r0 r1 g0 g1 hR hk hk1
   go_wp2
   have hba:=(Below.refl ((w4.setCell ⟨w.heap.size,0,none⟩ (.string t)).setCell ⟨w.heap.size,1,none⟩ (.int .i64 (d0.size:Int))).heap.size ((w4.setCell ⟨w.heap.size,0,none⟩ (.string t)).setCell ⟨w.heap.size,1,none⟩ (.int .i64 (d0.size:Int)))).alloc (Nat.le_refl _) (.cells #[.string t,.int .i64 (d0.size:Int)] 157)
   have e0:=(hba.cell (p:=⟨w.heap.size,0,none⟩) (by simpa using hRl4)).trans (by simp[go_sem,q0]:_=some (.string t))
   have e1:=(hba.cell (p:=⟨w.heap.size,1,none⟩) (by simpa using hRl4)).trans (by simp[go_sem,q1]:_=some (.int .i64 (d0.size:Int)))
   refine bodyPost_ret (v:=.agg #[.string t,.int .i64 (d0.size:Int)]) (by simp[results,Tryz.results92,go_sem,e0,e1]) rfl ⟨t,(d0.size:Int),?_,by omega,by omega,by omega,rfl,((HBE.out.setCell (by simp) _).setCell (by simp) _).alloc (by simp;omega) _⟩
   have:=HX.out
   rw[show(d0.size:Int)-((0:Nat):Int)=(d0.size:Int) by omega]at this
   exact this
set_option maxHeartbeats 2000000 in
set_option maxRecDepth 100000 in
theorem l5exact_down(x q s:Nat)(hP:∀w,Calls Tryz.prog 91 #[.float .f64 x] w fun e w'=>e=.returned (.agg #[.int .i64 1,.bool false,.int .i64 (q:Int),.int .i64 (-(s:Int))])∧Below w.heap.size w w')
  (hq0:0<q) (hq:q<9007199254740992) (hs:s≤1074) (hs0:0<s) (w:World) :
  Calls Tryz.prog 92 #[.float .f64 x] w fun e w'=>∃ds pow,ExD ds pow q (-(s:Int))∧ds.size≤1100∧-1100≤pow∧pow≤1100∧e=.returned (.agg #[.string ds,.int .i64 pow])∧Below w.heap.size w w':=by
 have HP:Hid _:=hP
 have HF:Hid _:=fun w=>l0from_any q (by omega) w
 have HA:Hid (q<4294967296 ^ 2):=by show q<_;omega
 have HUP:Hid _:=down_bound q s HA.out
 have HP0:Hid (0<q*5 ^ s):=Nat.mul_pos hq0 (Nat.pow_pos (by omega))
 have hqi:(q:Int)<9007199254740992:=by omega
 have HQ:Hid (q<9007199254740992):=hq
 clear hP hq
 go_enter Tryz.func92,Tryz.ntmps92
 go_wp2_with fail
 refine(HP.out _).mono ?_
 rintro e w1 ⟨rfl,hb1⟩
 have hw1:w.heap.size<w1.heap.size:=by have:=hb1.size;simp at this;omega
 have HB0:Hid (Below w.heap.size w w1):=((Below.refl _ _).alloc (Nat.le_refl _) _).trans (hb1.mono (by simp))
 have c0:w1.cell? ⟨w.heap.size,0,none⟩=some (.string ⟨#[]⟩):=(hb1.cell (p:=⟨w.heap.size,0,none⟩) (by simp)).trans (by simp[go_sem])
 have c1:w1.cell? ⟨w.heap.size,1,none⟩=some (.int .i64 0):=(hb1.cell (p:=⟨w.heap.size,1,none⟩) (by simp)).trans (by simp[go_sem])
 have f0:w1.frozen? ⟨w.heap.size,0,none⟩=false:=(hb1.frozen (p:=⟨w.heap.size,0,none⟩) (by simp)).trans (by simp[go_sem])
 have f1:w1.frozen? ⟨w.heap.size,1,none⟩=false:=(hb1.frozen (p:=⟨w.heap.size,1,none⟩) (by simp)).trans (by simp[go_sem])
 clear hb1
 go_wp2_with fail
 obtain⟨Wp,hWp⟩:∃Wp,Wp=w1.alloc (.cells #[.int .i64 1,.bool false,.int .i64 (q:Int),.int .i64 (-(s:Int))] 65):=⟨_,rfl⟩
 rw[←hWp]
 have HKP:Hid (Below w.heap.size w Wp∧w.heap.size<Wp.heap.size∧w1.heap.size<Wp.heap.size∧Wp.cell? ⟨w.heap.size,0,none⟩=some (.string ⟨#[]⟩)∧Wp.cell? ⟨w.heap.size,1,none⟩=some (.int .i64 0)∧Wp.frozen? ⟨w.heap.size,0,none⟩=false∧Wp.frozen? ⟨w.heap.size,1,none⟩=false
   ∧ Wp.cell? ⟨w1.heap.size,3,none⟩=some (.int .i64 (-(s:Int)))):=by
  rw[hWp]
  have hba:=(Below.refl w1.heap.size w1).alloc (Nat.le_refl _) (.cells #[.int .i64 1,.bool false,.int .i64 (q:Int),.int .i64 (-(s:Int))] 65)
  exact⟨HB0.out.trans (hba.mono (by omega)),by simp;omega,by simp,(hba.cell (p:=⟨w.heap.size,0,none⟩) hw1).trans c0,(hba.cell (p:=⟨w.heap.size,1,none⟩) hw1).trans c1,(hba.frozen (p:=⟨w.heap.size,0,none⟩) hw1).trans f0,(hba.frozen (p:=⟨w.heap.size,1,none⟩) hw1).trans f1,by simp[go_sem]⟩
 clear hWp c0 c1 f0 f1 HB0 hw1
 refine(HF.out _).mono ?_
 rintro e w2 ⟨v2,rfl,hb2,hv2⟩
 have HB2:Hid (Below Wp.heap.size Wp w2):=hb2
 have HV2:Hid (Big w2 v2 q):=hv2
 have hp3:w2.cell? ⟨w1.heap.size,3,none⟩=some (.int .i64 (-(s:Int))):=(hb2.cell (p:=⟨w1.heap.size,3,none⟩) HKP.out.2.2.1).trans HKP.out.2.2.2.2.2.2.2
 clear hb2 hv2 HF HP hqi
 go_wp2_with fail
 refine(l0pow_any 5 s _ (by omega) (by omega)).mono ?_
 rintro e wq ⟨vq,rfl,hbq,hvq⟩
 have HBq:Hid (Below w2.heap.size w2 wq):=hbq
 have HVq:Hid (Big wq vq (5 ^ s)):=hvq
 clear hbq hvq hp3
 go_wp2_with fail
 refine(l0times_any _ _ q (5 ^ s) (s+2) _ (HV2.out.below HBq.out (Nat.le_refl _)) HVq.out HUP.out.1 HUP.out.2.1 (by omega)).mono ?_
 rintro e w3 ⟨v3,rfl,hb3,hv3⟩
 have HB3:Hid (Below Wp.heap.size Wp w3):=HB2.out.trans ((HBq.out.trans (hb3.mono HBq.out.size)).mono HB2.out.size)
 have HV3:Hid (Big w3 v3 (q*5 ^ s)):=hv3
 clear hb3 hv3 HVq HBq
 go_wp2_with fail
 refine(l0digits_any v3 (q*5 ^ s) (s+2+(s+2)) w3 HV3.out HUP.out.2.2 (by omega)).mono ?_
 rintro e w4 ⟨d0,rfl,hd0,hb4⟩
 have HB4:Hid (Below Wp.heap.size Wp w4):=HB3.out.trans (hb4.mono HB3.out.size)
 have hpos:=dec_pos d0 _ hd0 HP0.out
 have hsz:=dec_down_size d0 q s HQ.out hd0 hpos
 have HST:Hid (Stp d0 d0 0):=stp_start d0 _ hd0 HP0.out
 have HVD:Hid (valN 10 d0.data.toList=q*5 ^ s):=hd0.2.1
 clear hb4 hd0 HV2 HV3 HB2 HB3
 go_wp2
 go_loop [6] (fun vt=>∃ (t:ByteArray) (j:Nat),vt=.string t∧Hid (Stp d0 t j)∧t.size+j=d0.size∧0<t.size) (fun vt=>match vt with | .string t=>t.size|_=>0)
 case atStart=>exact⟨d0,0,rfl,HST.out,rfl,hpos⟩
 case round=>
  obtain⟨t,j,rfl,HS,htj,ht0⟩:=hrel
  obtain⟨k,hk⟩:∃k,t.size=k+1:=⟨t.size-1,by omega⟩
  have hk1:t.size-1=k:=by omega
  have hkl:k<t.size:=by omega
  have hki:(t.size:Int)-1=(k:Int):=by omega
  have hts:(t.size:Int)≤1100:=by omega
  by_cases hz:t[k].toNat=48
  ·have HN:Hid (Stp d0 (t.extract 0 k) (j+1)):=by
    have:=stp_next d0 t j (by rw[HVD.out];exact HP0.out) HS.out (fun _=>by simp only[hk1];exact hz)
    rw[hk1]at this
    exact this
   have hz2:(t[k].toNat:Int)=48:=by omega
   clear hk hk1
   go_wp2
   have hes:(t.extract 0 k).size=k:=by simp;omega
   exact⟨⟨_,j+1,rfl,HN.out,by omega,HN.out.1⟩,by show(t.extract 0 k).size<t.size;omega⟩
  ·have HX:Hid (ExD t ((d0.size:Int)-(s:Int)) q (-(s:Int))):=stp_end d0 t j q s (-(s:Int)) HS.out (fun _=>by simp only[hk1];exact hz) (by rw[HVD.out,show(-(s:Int)).toNat=0 by omega,Nat.pow_zero,Nat.mul_one]) (by omega)
   have hz2:((t[k].toNat:Int)==48)=false:=beq_eq_false_iff_ne.2 (by omega)
   obtain⟨hR,hRl,_,r0,r1,g0,g1,_⟩:=HKP.out
   have hRl4:w.heap.size<w4.heap.size:=Nat.lt_of_lt_of_le hRl HB4.out.size
   have q0:w4.cell? ⟨w.heap.size,0,none⟩=some (.string ⟨#[]⟩):=(HB4.out.cell (p:=⟨w.heap.size,0,none⟩) hRl).trans r0
   have q1:w4.cell? ⟨w.heap.size,1,none⟩=some (.int .i64 0):=(HB4.out.cell (p:=⟨w.heap.size,1,none⟩) hRl).trans r1
   have p0:w4.frozen? ⟨w.heap.size,0,none⟩=false:=(HB4.out.frozen (p:=⟨w.heap.size,0,none⟩) hRl).trans g0
   have p1:w4.frozen? ⟨w.heap.size,1,none⟩=false:=(HB4.out.frozen (p:=⟨w.heap.size,1,none⟩) hRl).trans g1
   have HBE:Hid (Below w.heap.size w w4):=hR.trans (HB4.out.mono (by omega))
   clear r0 r1 g0 g1 hR hk hk1
   go_wp2
   have hba:=(Below.refl ((w4.setCell ⟨w.heap.size,0,none⟩ (.string t)).setCell ⟨w.heap.size,1,none⟩ (.int .i64 ((d0.size:Int)-(s:Int)))).heap.size ((w4.setCell ⟨w.heap.size,0,none⟩ (.string t)).setCell ⟨w.heap.size,1,none⟩ (.int .i64 ((d0.size:Int)-(s:Int))))).alloc (Nat.le_refl _) (.cells #[.string t,.int .i64 ((d0.size:Int)-(s:Int))] 157)
   have e0:=(hba.cell (p:=⟨w.heap.size,0,none⟩) (by simpa using hRl4)).trans (by simp[go_sem,q0]:_=some (.string t))
   have e1:=(hba.cell (p:=⟨w.heap.size,1,none⟩) (by simpa using hRl4)).trans (by simp[go_sem,q1]:_=some (.int .i64 ((d0.size:Int)-(s:Int))))
   refine bodyPost_ret (v:=.agg #[.string t,.int .i64 ((d0.size:Int)-(s:Int))]) (by simp[results,Tryz.results92,go_sem,e0,e1]) rfl ⟨t,(d0.size:Int)-(s:Int),HX.out,by omega,by omega,by omega,rfl,((HBE.out.setCell (by simp) _).setCell (by simp) _).alloc (by simp;omega) _⟩
theorem parts_fixed(s:Bool)(n:Nat)(p:Int)(q k:Nat)(hc:Canon n p)(h0:0<n)(hq:n=q*2 ^ k)(hq1:q % 2=1)(w:World) :
  Calls Tryz.prog 91 #[.float .f64 (fw s n p)] w fun e w'=>e=.returned (.agg #[.int .i64 1,.bool s,.int .i64 q,.int .i64 (p+k)])∧Below w.heap.size w w':=by
 refine(parts_number s n p hc h0 w).mono ?_
 rintro e w' ⟨q',t',h1,h2,rfl,hb⟩
 obtain⟨rfl,rfl⟩:=odd_one q' t' q k (h1.symm.trans hq) h2 hq1
 exact⟨rfl,hb⟩
theorem parts_none(w:World) :
  Calls Tryz.prog 91 #[.float .f64 0] w fun e w'=>e=.returned (.agg #[.int .i64 0,.bool false,.int .i64 0,.int .i64 0])∧Below w.heap.size w w':=by
 refine(parts_zero false w).mono ?_
 rintro e w' ⟨rfl,hb⟩
 exact⟨rfl,hb⟩
set_option maxHeartbeats 400000 in
theorem word_any(s:Bool)(E M:Nat)(hE:E<2048)(hM:M<4503599627370496)(w:World) :
  Calls Tryz.prog 97 #[.agg #[.bool s,.int .u64 E,.int .u64 M]] w fun e w'=>e=.returned (.int .u64 ((signBit s+(E*4503599627370496+M):Nat):Int))∧w'=w.alloc (.cells #[.bool s,.int .u64 E,.int .u64 M] 104):=by
 have h1:=or_low E M hM (by omega)
 have HT:Hid _:=or_top (E*4503599627370496+M) (by omega)
 have e0:((E*4503599627370496+M:Nat):Int)=(E:Int)*4503599627370496+(M:Int):=by omega
 rw[e0]at h1 HT
 cases s
 ·have HE:Hid (Ending.returned (.int .u64 ((E:Int)*4503599627370496+(M:Int)))=.returned (.int .u64 ((signBit false+(E*4503599627370496+M):Nat):Int))):=by
   show Ending.returned _=Ending.returned (.int .u64 ((0+(E*4503599627370496+M):Nat):Int))
   rw[Nat.zero_add,e0]
  clear e0 HT
  go_enter Tryz.func97,Tryz.ntmps97
  go_wp2
  go_ret
  exact⟨HE.out,rfl⟩
 ·have h2:=HT.out
  clear e0 HT
  go_enter Tryz.func97,Tryz.ntmps97
  go_wp2
  go_ret
  exact⟨congrArg (fun t=>Ending.returned (.int .u64 t)) (show 9223372036854775808+((E:Int)*4503599627370496+(M:Int))=((9223372036854775808+(E*4503599627370496+M):Nat):Int) by omega),rfl⟩
theorem call_frombits(x:Int)(w:World):(callFunc 96 #[.int .u64 x]).run Tryz.prog w=.ok (.value (.float .f64 x.toNat)) w:=by kernel_rfl
set_option maxHeartbeats 400000 in
theorem float_any(s:Bool)(E M:Nat)(hE:E<2048)(hM:M<4503599627370496)(w:World) :
  Calls Tryz.prog 56 #[.agg #[.bool s,.int .u64 E,.int .u64 M]] w fun e w'=>e=.returned (.float .f64 (signBit s+(E*4503599627370496+M)))∧w'=(w.alloc (.cells #[.bool s,.int .u64 E,.int .u64 M] 104)).alloc (.cells #[.bool s,.int .u64 E,.int .u64 M] 104):=by
 have HW:Hid _:=fun w=>word_any s E M hE hM w
 have hc:=call_frombits ((signBit s+(E*4503599627370496+M):Nat):Int)
 rw[Int.toNat_natCast]at hc
 generalize signBit s+(E*4503599627370496+M)=R at *
 clear hE hM
 go_enter Tryz.func56,Tryz.ntmps56
 go_wp2_with (go_at_call 97;refine(HW.out _).mono ?_;rintro e w' ⟨rfl,rfl⟩)
 go_ret
 exact⟨rfl,rfl⟩
end Go.Proofs.YtenbfookfcmpoaaGreatDoor
