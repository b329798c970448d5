import Derived.Test.YtpmccbkhkaoccaaGreatDoorB43
import Derived.Test.YtpmccbkhkaoccaaGreatDoorB07
import Derived.Test.YtpmccbkhkaoccaaGreatDoorB42
import Derived.Test.YtpmccbkhkaoccaaGreatDoorB13
import Derived.Test.YtpmccbkhkaoccaaGreatDoorB19
import Derived.Test.YtpmccbkhkaoccaaGreatDoorB03
import Derived.Test.YtpmccbkhkaoccaaGreatDoorB09
import Derived.Test.YtpmccbkhkaoccaaGreatDoorB24
/- The iterator over a number's decimal digits. -/
namespace Go.Proofs.YtpmccbkhkaoccaaGreatDoor
open Go.ChangeShapes Go.WideShapes Go.RowKit Go.Shelf

attribute [local go_sem] Oper.semAt_some

/-- What a round is handed: the i-th digit, the lowest first. -/
def dguE (N : Nat) (i : Nat) : Array Value := #[.int .u8 (48 + ((N / 10 ^ i % 10 : Nat) : Int))]
theorem dch_ten (d : Nat) (h : d < 10) : ((dch d).toNat : Int) = 48 + (d : Int) := by
  have : ∀ e : _root_.Fin 10, ((dch e.val).toNat : Int) = 48 + (e.val : Int) := by decide
  exact this ⟨d, h⟩
theorem Own1.of_mod {T : TypeId} {N B : Nat} {w w' : World} {c : Array Value} {fz : Nat × Nat} (h : Mod B w w') (hB : w.heap[B]? = some (.cells c T fz)) (hN : N ≤ B) : Own1 T N w w' :=
  ⟨h.1, h.2.1, h.2.2.1, h.2.2.2.1, fun k o hk hc => by
    have hne : k ≠ B := by
      rintro rfl
      rw [hB] at hk
      cases hk
      rcases hc with hc | hc
      · omega
      · exact hc _ _ rfl
    rw [h.2.2.2.2 k (Array.getElem?_eq_some_iff.1 hk).1 hne]
    exact hk⟩
theorem Tab.mod {B : Nat} {w w' : World} (h : Tab w) (hm : Mod B w w') (hw : 3 < w.heap.size) (hB : B ≠ 3) : Tab w' := fun i hi => by
  rw [hm.cell (p := ⟨3, i, none⟩) (Ne.symm hB) hw]
  exact h i hi
theorem Tab.rnd {b : Nat} {w w' : World} (h : Tab w) (hr : Rnd b w w') (hb : 3 < b) : Tab w' := fun i hi => by
  have := World.cell?_of_block (w := w) (w' := w') (a := ⟨3, i, none⟩) (hr.2.2 _ hb)
  rw [this]
  exact h i hi
theorem Lg.rnd {b B N : Nat} {w w' : World} (h : Lg w B N [] 112) (hr : Rnd b w w') (hb : B ≠ b) : Lg w' B N [] 112 := by
  obtain ⟨c, h1, h2, h3⟩ := h
  exact ⟨c, h1, h2, hr.2.1 _ _ _ _ h3 hb (by decide)⟩
set_option maxHeartbeats 4000000 in
set_option maxRecDepth 100000 in
theorem dgu_gives (b D : Nat) (N n c : Nat) (hn : DigN n N) (hc : c ≤ 151) (hk : cntOk c N) (w : World) (hB : LB w D c (dg N) [] 112) (ht : Tab w) (hb : b < w.heap.size) (hgb : 3 < b) :
    Gives 112 b 99 #[.pointer (some ⟨D, 0, none⟩)] (dguE N) n w := by
  intro l J W hW hJ hY h0
  have HJ : Hid _ := hJ
  have HY : Hid _ := hY
  have HN : Hid (DigN n N) := hn
  have HL : Hid (LB W D c (dg N) [] 112) := (hW.block D hB.lt).trans hB
  have HT0 : Hid (Tab W) := fun i hi => by rw [hW.cell (p := ⟨3, i, none⟩) (by show 3 < _; omega)]; exact ht i hi
  have hWz := hW.size
  have hz := lg_zero
  rw [dg_nil] at hz
  obtain ⟨C, hC⟩ : ∃ C, blk 0 (dg 0) [] = C := ⟨_, rfl⟩
  have HC : Hid (blk 0 (dg 0) [] = C) := hC
  rw [hC] at hz
  clear hC hJ hY hB hn hW ht
  have HNEW : Hid (∀ w' : World, LB (w'.alloc (.cells C 112)) w'.heap.size 0 (dg 0) [] 112) := fun w' => by rw [← HC.out]; exact LB.new w' 0 (dg 0) [] _
  obtain ⟨H, hH⟩ : ∃ H, W.heap.size = H := ⟨_, rfl⟩
  rw [hH] at hWz
  -- a number laid anew: what was said before is said still
  have HLAY : Hid (∀ (i c' M : Nat) (wl : World), J i wl → Tab wl → H ≤ wl.heap.size → c' ≤ 151 → cntOk c' M → ∃ W1, (wl.alloc (.cells C 112)).setRow wl.heap.size (lgL c' (dg M)).toArray = W1 ∧ J i W1 ∧ Tab W1 ∧ Lg W1 wl.heap.size M [] 112 ∧ H ≤ W1.heap.size) := fun i c' M wl h1 h2 h3 h4 h5 => by
    have hnew := HNEW.out wl
    have hb1 : Below wl.heap.size wl (wl.alloc (.cells C 112)) := (Below.refl _ _).alloc (Nat.le_refl _) _
    have hm := (Mod.refl wl.heap.size (wl.alloc (.cells C 112))).setRow (lgL c' (dg M)).toArray
    have hj1 : J i (wl.alloc (.cells C 112)) := HJ.out i _ _ h1 (by rw [hH]; exact Own1.below hb1)
    have ht1 : Tab (wl.alloc (.cells C 112)) := h2.mod (Mod.of_below (B := wl.heap.size) hb1) (by omega) (by omega)
    exact ⟨_, rfl, HJ.out i _ _ hj1 (by rw [hH]; exact Own1.of_mod hm hnew h3), ht1.mod hm (by simp; omega) (by omega), ⟨c', h4, h5, hnew.stored⟩, by simp; omega⟩
  obtain ⟨W1, hW1, hJ1, hT1, hG1, hz1⟩ := HLAY.out 0 c N W h0 HT0.out (by omega) hc hk
  have hst := (HNEW.out W).cells c (dg N)
  have hln := lgL_length c (dg N)
  have HJ1 : Hid _ := hJ1
  have HT1 : Hid _ := hT1
  have HG1 : Hid _ := hG1
  rw [hW1, hH] at hst
  rw [hH] at HG1
  clear hJ1 hT1 hG1 hk hW1 HT0 h0
  refine callsIn_of_wp Tryz.func99 rfl trivial ?_ rfl
  simp only [Tryz.ntmps99, List.size_toArray, List.length_cons, List.length_nil, Nat.reduceAdd, Nat.reduceSub, Array.replicate_succ, Array.replicate_zero, List.push_toArray, List.append_toArray, List.nil_append, List.cons_append]
  gi_wp2
  refine HL.out.wpLoadIn _ rfl rfl ?_
  go_at_K
  gi_wp2
  gi_loopw [3] (fun p wr => ∃ (k L : Nat), p = .pointer (some ⟨L, 0, none⟩) ∧ k ≤ n ∧ H ≤ L ∧ Hid (J k wr) ∧ Hid (Lg wr L (N / 10 ^ k) [] 112) ∧ Hid (Tab wr) ∧ H ≤ wr.heap.size) (fun p wr => lgVal wr p)
  case atStart => exact ⟨0, H, rfl, by omega, Nat.le_refl _, HJ1.out, by show Lg _ _ _ _ _; rw [Nat.pow_zero, Nat.div_one]; exact HG1.out, HT1.out, hz1⟩
  case round =>
    clear HJ1 HG1 HT1 hst hln
    obtain ⟨k, L, rfl, hk, hL, HJk, HG, HT, hzr⟩ := hrel
    by_cases hkn : k < n
    · have HPOS : Hid (0 < N / 10 ^ k) := (dig_pos HN.out k).2 hkn
      obtain ⟨c1, hc1, hk1, hl1⟩ := HG.out
      have hcnt := hl1.cnt
      have hcp : (0 : Int) < (c1 : Int) := by have := (cnt_pos hk1).2 HPOS.out; omega
      have HDV : Hid _ := fun (_ : Unit) => divide_any L (N / 10 ^ k) 1000000000 [] 112 wr HG.out (by omega) (by omega)
      have HL1 : Hid _ := hl1
      clear hl1 hk1 hc1
      gi_wp2
      refine ⟨trivial, rfl, (callsIn_wide.2 (HDV.out ())).mono ?_⟩
      rintro e w2 ⟨rfl, hm, hg⟩
      have HG2 : Hid (Lg w2 L (N / 10 ^ k / 1000000000) [] 112) := hg
      have HJ2 : Hid (J k w2) := HJ.out k wr w2 HJk.out (by rw [hH]; exact Own1.of_mod hm HL1.out hL)
      have HT2 : Hid (Tab w2) := HT.out.mod hm (by omega) (by omega)
      have hz2 : H ≤ w2.heap.size := Nat.le_trans hzr hm.size
      obtain ⟨c0, hc0⟩ : ∃ c0, N / 10 ^ k % 1000000000 = c0 := ⟨_, rfl⟩
      have HC0 : Hid (N / 10 ^ k % 1000000000 = c0) := hc0
      have hc0b : c0 < 1000000000 := by rw [← hc0]; exact Nat.mod_lt _ (by omega)
      have HV1 : Hid (lgVal wr (.pointer (some ⟨L, 0, none⟩)) = N / 10 ^ k) := lgVal_is HG.out
      rw [hc0]
      clear hc0 hm hg HDV HL1 hcnt hcp HG HJk HT
      gi_wp2
      gi_loopw [4, 5] (fun cv iv wl => ∃ i : Nat, iv = .int .i64 (i : Int) ∧ cv = .int .u64 ((c0 / 10 ^ i : Nat) : Int) ∧ i ≤ 9 ∧ k + i ≤ n ∧ Hid (J (k + i) wl) ∧ Hid (Lg wl L (N / 10 ^ k / 1000000000) [] 112) ∧ Hid (Tab wl) ∧ H ≤ wl.heap.size) (fun _ iv _ => 9 - (intOf iv).toNat)
      case atStart => exact ⟨0, rfl, by simp, by omega, by omega, HJ2.out, HG2.out, HT2.out, hz2⟩
      case round =>
        clear HJ2 HG2 HT2 hz2
        obtain ⟨i, rfl, rfl, hi, hki, HJi, HGi, HTi, hzi⟩ := hrel
        obtain ⟨c2, hc2, hk2, hl2⟩ := HGi.out
        have hcnt := hl2.cnt
        have HL2 : Hid (LB wr L c2 (dg (N / 10 ^ k / 1000000000)) [] 112) := hl2
        clear hl2
        by_cases hi9 : i < 9
        · have hmore := chunk_more HN.out k i hi9
          rw [HC0.out] at hmore
          have hi9' : (i : Int) < 9 := by omega
          by_cases hlt : k + i < n
          · obtain ⟨q, hq⟩ : ∃ q, c0 / 10 ^ i = q := ⟨_, rfl⟩
            have hqb : q < 1000000000 := by rw [← hq]; exact Nat.lt_of_le_of_lt (Nat.div_le_self _ _) hc0b
            obtain ⟨d, hd⟩ : ∃ d, q % 10 = d := ⟨_, rfl⟩
            have hd10 : d < 10 := by omega
            have hdi : (q : Int) % 10 = (d : Int) := by omega
            have HDG : Hid (d = N / 10 ^ (k + i) % 10) := by
              show d = _
              rw [← hd, ← hq, ← HC0.out, chunk_digit _ i hi9, div_ten]
            have HQ2 : Hid (((q : Int) / 10) = ((c0 / 10 ^ (i + 1) : Nat) : Int)) := by
              show _ = _
              rw [Nat.pow_succ, ← Nat.div_div_eq_div_mul, hq]
              omega
            rw [hq] at hmore ⊢
            by_cases hq0 : 0 < q
            · have hq0' : (0 : Int) < (q : Int) := by omega
              clear hmore hk2 hd hq
              have hcell := HTi.out d (by omega)
              rw [dch_ten d hd10] at hcell
              obtain ⟨fn, tmps, assign, body, hy, hR⟩ := HY.out (k + i) hlt wr HJi.out
              rw [dguE, ← HDG.out] at hy
              gi_wp2
              refine ⟨rfl, hR.mono ?_⟩
              rintro e W3 ⟨rfl, hJ3, hr3⟩
              have HJ3 : Hid (J (k + (i + 1)) W3) := by rw [← Nat.add_assoc]; exact hJ3
              have HG3 : Hid (Lg W3 L (N / 10 ^ k / 1000000000) [] 112) := HGi.out.rnd hr3 (by omega)
              have HT3 : Hid (Tab W3) := HTi.out.rnd hr3 hgb
              have hz3 : H ≤ W3.heap.size := Nat.le_trans hzi hr3.1
              clear hJ3 hr3 hy hR hcell
              gi_wp2
              go_roundw
              case rel => exact ⟨i + 1, rfl, by rw [← HQ2.out], by omega, by omega, HJ3.out, HG3.out, HT3.out, hz3⟩
              case measure =>
                show 9 - ((i : Int) + 1).toNat < 9 - (i : Int).toNat
                omega
            · obtain rfl : q = 0 := by omega
              have hc2p : (0 : Int) < (c2 : Int) := by
                have := hmore.2 hlt
                have := (cnt_pos hk2).2 (by omega)
                omega
              obtain rfl : d = 0 := by omega
              clear hmore hk2 hd hq hdi hqb hq0
              have hcell := HTi.out 0 (by omega)
              rw [dch_ten 0 hd10, show (48 : Int) + ((0 : Nat) : Int) = 48 from rfl] at hcell
              obtain ⟨fn, tmps, assign, body, hy, hR⟩ := HY.out (k + i) hlt wr HJi.out
              rw [dguE, ← HDG.out, show (48 : Int) + ((0 : Nat) : Int) = 48 from rfl] at hy
              gi_wp2
              refine ⟨rfl, hR.mono ?_⟩
              rintro e W3 ⟨rfl, hJ3, hr3⟩
              have HJ3 : Hid (J (k + (i + 1)) W3) := by rw [← Nat.add_assoc]; exact hJ3
              have HG3 : Hid (Lg W3 L (N / 10 ^ k / 1000000000) [] 112) := HGi.out.rnd hr3 (by omega)
              have HT3 : Hid (Tab W3) := HTi.out.rnd hr3 hgb
              have hz3 : H ≤ W3.heap.size := Nat.le_trans hzi hr3.1
              clear hJ3 hr3 hy hR hcell
              gi_wp2
              go_roundw
              case rel => exact ⟨i + 1, rfl, by rw [← HQ2.out]; rfl, by omega, by omega, HJ3.out, HG3.out, HT3.out, hz3⟩
              case measure =>
                show 9 - ((i : Int) + 1).toNat < 9 - (i : Int).toNat
                omega
          · have HEND : Hid (N / 10 ^ k / 1000000000 = N / 10 ^ (k + i)) := chunk_end HN.out k i hi hki (by omega)
            have hno : ¬ (0 < c0 / 10 ^ i ∨ 0 < N / 10 ^ k / 1000000000) := fun h => hlt (hmore.1 h)
            have hq0 : c0 / 10 ^ i = 0 := Nat.eq_zero_of_not_pos fun h => hno (.inl h)
            have hc2z : (c2 : Int) = 0 := by
              have h1 := (cnt_pos hk2).1
              have h2 : ¬ 0 < c2 := fun h => hno (.inr (h1 h))
              omega
            have hi1 : k < k + i := by omega
            rw [hq0]
            rw [hc2z] at hcnt
            clear hno hmore
            obtain ⟨W4, hW4, hJ4, hT4, hG4, hz4⟩ := HLAY.out (k + i) c2 (N / 10 ^ k / 1000000000) wr HJi.out HTi.out hzi hc2 hk2
            have HJ4 : Hid _ := hJ4
            have HT4 : Hid _ := hT4
            have HG4 : Hid (Lg W4 wr.heap.size (N / 10 ^ (k + i)) [] 112) := by rw [← HEND.out]; exact hG4
            have hst4 := (HNEW.out wr).cells c2 (dg (N / 10 ^ k / 1000000000))
            have hln4 := lgL_length c2 (dg (N / 10 ^ k / 1000000000))
            rw [hW4] at hst4
            have HLT : Hid (N / 10 ^ (k + i) < N / 10 ^ k) := div_less_ten N k (k + i) HPOS.out hi1
            clear hJ4 hT4 hG4 hk2 hW4
            gi_wp2
            refine HL2.out.wpLoadIn _ rfl rfl ?_
            go_at_K
            gi_wp2
            go_roundw
            case rel => exact ⟨k + i, wr.heap.size, rfl, hki, hzi, HJ4.out, HG4.out, HT4.out, hz4⟩
            case measure => rw [HV1.out, lgVal_is HG4.out]; exact HLT.out
        · have HEND : Hid (N / 10 ^ k / 1000000000 = N / 10 ^ (k + i)) := chunk_end HN.out k i hi hki (by omega)
          have hi9' : (i : Int) = 9 := by omega
          have hi1 : k < k + i := by omega
          rw [hi9']
          obtain ⟨W4, hW4, hJ4, hT4, hG4, hz4⟩ := HLAY.out (k + i) c2 (N / 10 ^ k / 1000000000) wr HJi.out HTi.out hzi hc2 hk2
          have HJ4 : Hid _ := hJ4
          have HT4 : Hid _ := hT4
          have HG4 : Hid (Lg W4 wr.heap.size (N / 10 ^ (k + i)) [] 112) := by rw [← HEND.out]; exact hG4
          have hst4 := (HNEW.out wr).cells c2 (dg (N / 10 ^ k / 1000000000))
          have hln4 := lgL_length c2 (dg (N / 10 ^ k / 1000000000))
          rw [hW4] at hst4
          have HLT : Hid (N / 10 ^ (k + i) < N / 10 ^ k) := div_less_ten N k (k + i) HPOS.out hi1
          clear hJ4 hT4 hG4 hk2 hW4
          gi_wp2
          refine HL2.out.wpLoadIn _ rfl rfl ?_
          go_at_K
          gi_wp2
          go_roundw
          case rel => exact ⟨k + i, wr.heap.size, rfl, hki, hzi, HJ4.out, HG4.out, HT4.out, hz4⟩
          case measure => rw [HV1.out, lgVal_is HG4.out]; exact HLT.out
    · obtain rfl : k = n := by omega
      have HZ : Hid (N / 10 ^ k = 0) := Nat.eq_zero_of_not_pos fun h => by have := (dig_pos HN.out k).1 h; omega
      obtain ⟨c1, hc1, hk1, hl1⟩ := HG.out
      have hcnt := hl1.cnt
      have hcz : (c1 : Int) = 0 := by
        have := (cnt_pos hk1).1
        rw [HZ.out] at this
        omega
      rw [hcz] at hcnt
      clear hl1 hk1 hc1
      gi_wp2
      go_end0
      exact ⟨⟨_, rfl⟩, HJk.out⟩
end Go.Proofs.YtpmccbkhkaoccaaGreatDoor

/- What the program's rounding leaves: plain. -/
namespace Go.Proofs.YtpmccbkhkaoccaaGreatDoor
open Go.RowKit

/-- A text without the bytes c at its end. -/
def TrimR (c : UInt8) (s t : ByteArray) : Prop := (∃ j, s.data.toList = t.data.toList ++ List.replicate j c) ∧ (∀ h : t.size - 1 < t.size, t[t.size - 1].toNat ≠ c.toNat)
/-- The first n digits, without zeros at their end. -/
def LowD (ds : ByteArray) (x : Int) (n : Nat) (t : ByteArray) (y : Int) : Prop := ∃ u, TrimR 48 (ds.extract 0 n) u ∧ ((u.size = 0 ∧ t = ⟨#[]⟩ ∧ y = 0) ∨ (0 < u.size ∧ t = u ∧ y = x))
/-- The first n digits counted up. -/
def HighD (ds : ByteArray) (x : Int) (n : Nat) (t : ByteArray) (y : Int) : Prop := ∃ u, TrimR 57 (ds.extract 0 n) u ∧ ((u.size = 0 ∧ t = ⟨#[49]⟩ ∧ y = x + 1)
  ∨ (0 < u.size ∧ (∃ c : UInt8, (∀ h : u.size - 1 < u.size, c.toNat = u[u.size - 1].toNat + 1) ∧ t.data.toList = (u.extract 0 (u.size - 1)).data.toList ++ [c]) ∧ y = x))
/-- What round leaves. -/
def RndD (ds : ByteArray) (x n : Int) (t : ByteArray) (y : Int) : Prop := (n < 0 ∧ t = ⟨#[]⟩ ∧ y = 0) ∨ ((ds.size : Int) ≤ n ∧ 0 ≤ n ∧ t = ds ∧ y = x)
  ∨ (0 ≤ n ∧ n < (ds.size : Int) ∧ ((roundsB ds n = true ∧ HighD ds x n.toNat t y) ∨ (roundsB ds n = false ∧ LowD ds x n.toNat t y)))
theorem pad_take (ds : ByteArray) (n : Nat) (h : n ≤ ds.size) : padB ds n = ds.extract 0 n := by
  apply bytes_ext
  unfold padB
  rw [append_list, show n - ds.size = 0 by omega]
  show _ ++ List.replicate 0 48 = _
  rw [List.replicate_zero, List.append_nil]
  split
  · rfl
  · rw [ext_list, List.drop_zero, List.take_of_length_le (by rw [data_len]; omega)]
theorem pad_long (ds : ByteArray) (n : Nat) (h : ds.size ≤ n) : padB ds n = ds ++ zerosB (n - ds.size) := by
  unfold padB
  rw [if_neg (by omega)]
theorem good_take (d : ByteArray) (i j : Nat) (hg : good 10 d.data.toList) : good 10 (d.extract i j).data.toList := fun c hc => by
  rw [ext_list] at hc
  exact hg c (List.mem_of_mem_drop (List.mem_of_mem_take hc))
theorem take_size (ds : ByteArray) (n : Nat) (h : n ≤ ds.size) : (ds.extract 0 n).size = n := by simp; omega
theorem zeros_data (j : Nat) : (zerosB j).data.toList = List.replicate j 48 := rfl
theorem trim_size {c : UInt8} {s t : ByteArray} {j : Nat} (h : s.data.toList = t.data.toList ++ List.replicate j c) : s.size = t.size + j := by
  rw [← data_len, h, List.length_append, data_len, List.length_replicate]
/-- Where the first digit is none of them something is left. -/
theorem trim_some {c : UInt8} {s t : ByteArray} (h : TrimR c s t) (h0 : 0 < s.size) (hf : ∀ h : 0 < s.size, s[0].toNat ≠ c.toNat) : 0 < t.size := by
  obtain ⟨⟨j, hj⟩, _⟩ := h
  apply Nat.pos_of_ne_zero
  intro hz
  have hs := trim_size hj
  have e : t.data.toList = [] := List.length_eq_zero_iff.1 (by rw [data_len]; exact hz)
  have h1 := get_data s 0 h0
  rw [hj, e, List.nil_append, List.getElem?_replicate, if_pos (by omega)] at h1
  have h2 := Option.some.inj h1
  exact hf h0 (by rw [← h2])
theorem take_first (ds : ByteArray) (n : Nat) (hn : 0 < n) (h : 0 < ds.size) (h' : 0 < (ds.extract 0 n).size) : (ds.extract 0 n)[0] = ds[0] := by
  have h1 := get_data (ds.extract 0 n) 0 h'
  rw [ext_list, List.drop_zero, List.getElem?_take, if_pos (by omega), get_data ds 0 h] at h1
  exact (Option.some.inj h1).symm
theorem low_zero (ds : ByteArray) (x : Int) (t : ByteArray) (y : Int) (h : LowD ds x 0 t y) : t = ⟨#[]⟩ ∧ y = 0 := by
  obtain ⟨u, ⟨⟨j, hj⟩, _⟩, h⟩ := h
  have hs := trim_size hj
  have : (ds.extract 0 0).size = 0 := by simp
  rcases h with ⟨_, h1, h2⟩ | ⟨h0, _⟩
  · exact ⟨h1, h2⟩
  · omega
/-- The lower neighbour is the first n digits. -/
theorem low_pad (ds : ByteArray) (x : Int) (n : Nat) (t : ByteArray) (y : Int) (hn : 0 < n) (hs : n ≤ ds.size) (hf : ∀ h : 0 < ds.size, ds[0].toNat ≠ 48) (h : LowD ds x n t y) :
    ∃ j, padB ds n = t ++ zerosB j ∧ y = x ∧ 0 < t.size ∧ t.size + j = n ∧ (∀ h : t.size - 1 < t.size, t[t.size - 1].toNat ≠ 48) := by
  obtain ⟨u, hT, h⟩ := h
  have hsz := take_size ds n hs
  have hu : 0 < u.size := trim_some hT (by omega) (fun h => by rw [take_first ds n hn (by omega) h]; exact hf (by omega))
  rcases h with ⟨h0, _⟩ | ⟨_, rfl, rfl⟩
  · omega
  · obtain ⟨⟨j, hj⟩, hl⟩ := hT
    refine ⟨j, ?_, rfl, hu, ?_, hl⟩
    · rw [pad_take ds n hs]
      apply bytes_ext
      rw [append_list, hj]
      rfl
    · have := trim_size hj
      omega
/-- The upper neighbour is the first n digits and 1 more. -/
theorem high_pad (ds : ByteArray) (x : Int) (n : Nat) (t : ByteArray) (y : Int) (hs : n ≤ ds.size) (hg : good 10 ds.data.toList) (h : HighD ds x n t y) :
    ∃ j more, UpD (padB ds n) (t ++ zerosB j) more ∧ y = x + (if more then 1 else 0) ∧ 0 < t.size ∧ t.size + j = n + (if more then 1 else 0) ∧ (more = true → t.size = 1) ∧ (∀ h : t.size - 1 < t.size, t[t.size - 1].toNat ≠ 48) := by
  obtain ⟨u, ⟨⟨j, hj⟩, hl⟩, h⟩ := h
  have hsz := take_size ds n hs
  have hs2 := trim_size hj
  have hgt : good 10 (ds.extract 0 n).data.toList := good_take ds 0 n hg
  rw [pad_take ds n hs]
  rcases h with ⟨h0, rfl, rfl⟩ | ⟨h0, ⟨c, hc, ht⟩, rfl⟩
  · have e : u.data.toList = [] := List.length_eq_zero_iff.1 (by rw [data_len]; exact h0)
    have hN : Nines (ds.extract 0 n).data.toList 0 := ⟨j, by rw [List.take_zero, List.nil_append, hj, e, List.nil_append]⟩
    obtain ⟨a, b⟩ := up_none _ hN
    have hall := nines_all _ hN
    rw [data_len] at a b hall
    have ez : (⟨#[49]⟩ ++ zerosB (ds.extract 0 n).size : ByteArray).data.toList = 49 :: List.replicate (ds.extract 0 n).size 48 := by rw [append_list, zeros_data]; rfl
    have e1 : (⟨#[49]⟩ : ByteArray).size = 1 := rfl
    refine ⟨(ds.extract 0 n).size, true, ⟨by rw [ez]; exact a, by rw [ez]; exact b, by rw [append_size, zerosB_size]; simp only [if_true]; omega, fun _ => hall⟩, rfl, by omega, by simp only [if_true]; omega, fun _ => rfl, fun _ => (by decide : (49 : UInt8).toNat ≠ 48)⟩
  · have hlast : u.size - 1 < u.size := by omega
    have hci := hc hlast
    have hcl := hl hlast
    have hlen : (ds.extract 0 n).data.toList.length = n := by rw [data_len]; exact hsz
    have hget : (ds.extract 0 n).data.toList[u.size - 1]'(by omega) = u[u.size - 1] := by
      have h1 : (ds.extract 0 n).data.toList[u.size - 1]? = some u[u.size - 1] := by rw [hj, List.getElem?_append_left (by rw [data_len]; exact hlast)]; exact get_data u _ hlast
      rw [List.getElem?_eq_getElem (by omega)] at h1
      exact Option.some.inj h1
    have htk : ∀ i, i ≤ u.size → (ds.extract 0 n).data.toList.take i = u.data.toList.take i := fun i hi => by rw [hj, List.take_append_of_le_length (by rw [data_len]; exact hi)]
    have hN : Nines (ds.extract 0 n).data.toList (u.size - 1 + 1) := ⟨j, by
      rw [show u.size - 1 + 1 = u.size by omega, htk _ (Nat.le_refl _), List.take_of_length_le (by rw [data_len]; exact Nat.le_refl _)]
      exact hj⟩
    obtain ⟨a, b⟩ := up_found _ (u.size - 1) (by omega) hgt hN (by rw [hget]; exact hcl) c (by rw [hget]; exact hci)
    rw [hlen, show n - (u.size - 1 + 1) = j by omega, htk _ (by omega)] at a b
    have ez : (t ++ zerosB j).data.toList = u.data.toList.take (u.size - 1) ++ [c] ++ List.replicate j 48 := by
      rw [append_list, ht, zeros_data, ext_list, List.drop_zero, Nat.sub_zero]
    have hts : t.size = u.size := by
      rw [← data_len, ht, List.length_append, data_len]
      have := take_size u (u.size - 1) (by omega)
      rw [this]
      simp
      omega
    refine ⟨j, false, ⟨by rw [ez]; exact a, by rw [ez]; exact b, by rw [append_size, zerosB_size, hts]; simp; omega, (fun h => by cases h)⟩, by simp, by omega, by simp; omega, (fun h => by cases h), fun h => ?_⟩
    have h1 := get_data t (t.size - 1) h
    rw [ht, List.getElem?_append_right (by rw [data_len, take_size u (u.size - 1) (by omega)]; omega), data_len, take_size u (u.size - 1) (by omega), show t.size - 1 - (u.size - 1) = 0 by omega] at h1
    have h2 : c = t[t.size - 1] := Option.some.inj h1
    rw [← h2]
    have hd := good_digit (ds.extract 0 n).data.toList[u.size - 1] (hgt _ (List.getElem_mem (by omega)))
    rw [hget] at hd
    omega
theorem zeros_app (t : ByteArray) (j : Nat) (y p : Int) : dAt (t ++ zerosB j) y p = dAt t y p := by
  unfold dAt
  by_cases h : 0 ≤ y - p ∧ y - p < (t.size : Int)
  · rw [dif_pos h, dif_pos ⟨h.1, by rw [append_size]; omega⟩]
    have h1 := get_data (t ++ zerosB j) (y - p).toNat (by rw [append_size]; omega)
    rw [append_list, List.getElem?_append_left (by rw [data_len]; omega), get_data t _ (by omega)] at h1
    exact (Option.some.inj h1).symm
  · rw [dif_neg h]
    by_cases h2 : 0 ≤ y - p ∧ y - p < ((t ++ zerosB j).size : Int)
    · rw [dif_pos h2]
      have h1 := get_data (t ++ zerosB j) (y - p).toNat (by omega)
      rw [append_size, zerosB_size] at h2
      rw [append_list, List.getElem?_append_right (by rw [data_len]; omega), zeros_get, if_pos (by rw [data_len]; omega)] at h1
      exact (Option.some.inj h1).symm
    · rw [dif_neg h2]
theorem fix_zeros (t : ByteArray) (j : Nat) (y : Int) (k : Nat) : fixB (t ++ zerosB j) (y + 1) k = fixB t (y + 1) k := by
  apply bytes_ext
  rw [← plain_text, ← plain_text, show dAt (t ++ zerosB j) y = dAt t y from funext fun p => zeros_app t j y p]
theorem fix_none (p : Int) (hp : p ≤ 1) (k : Nat) : fixB ⟨#[]⟩ p k = fixB ⟨#[]⟩ 1 k := by
  apply bytes_ext
  have e0 : ∀ x, dAt ⟨#[]⟩ x = fun _ => 48 := fun x => funext fun p => by
    unfold dAt
    rw [dif_neg]
    show ¬ (_ ∧ _ < ((0 : Nat) : Int))
    omega
  have h1 := plain_text ⟨#[]⟩ (p - 1) k
  have h2 := plain_text ⟨#[]⟩ 0 k
  have e1 : fxP (p - 1 + 1) = 1 := by unfold fxP; split <;> omega
  have e2 : fxP (0 + 1) = 1 := rfl
  rw [e1, e0] at h1
  rw [e2, e0] at h2
  rw [show p - 1 + 1 = p by omega] at h1
  rw [← h1]
  exact h2
/-- What round leaves is the specification's cut. -/
theorem rnd_cut (ds : ByteArray) (x : Int) (n : Nat) (t : ByteArray) (y : Int) (hg : good 10 ds.data.toList) (h0 : 0 < ds.size) (hf : ∀ h : 0 < ds.size, ds[0].toNat ≠ 48) (h : RndD ds x (n : Int) t y) :
    ∃ d p', cutV ds (x + 1) n (roundsB ds (n : Int)) d p' ∧ ((∃ j, d = t ++ zerosB j ∧ p' = y + 1 ∧ 0 < t.size ∧ (t.size ≤ n ∨ t.size = 1)) ∨ (n = 0 ∧ d = ⟨#[]⟩ ∧ t = ⟨#[]⟩ ∧ y = 0 ∧ p' = x + 1)) := by
  rcases h with ⟨h, _⟩ | ⟨h, _, rfl, rfl⟩ | ⟨_, h, ⟨hr, hh⟩ | ⟨hr, hl⟩⟩
  · omega
  · have hr : roundsB t (n : Int) = false := by unfold roundsB; rw [dif_neg (by omega)]
    rw [hr]
    exact ⟨padB t n, y + 1, .inl ⟨rfl, rfl, rfl⟩, .inl ⟨_, pad_long t n (by omega), rfl, h0, .inl (by omega)⟩⟩
  · rw [Int.toNat_natCast] at hh
    obtain ⟨j, more, hu, hy, ht, hj, hm, _⟩ := high_pad ds x n t y (by omega) hg hh
    rw [hr]
    refine ⟨t ++ zerosB j, y + 1, .inr ⟨rfl, more, hu, by rw [hy]; omega⟩, .inl ⟨j, rfl, rfl, ht, ?_⟩⟩
    cases more
    · simp at hj
      exact .inl (by omega)
    · exact .inr (hm rfl)
  · rw [Int.toNat_natCast] at hl
    rw [hr]
    by_cases hn : n = 0
    · subst hn
      obtain ⟨rfl, rfl⟩ := low_zero ds x t y hl
      refine ⟨padB ds 0, x + 1, .inl ⟨rfl, rfl, rfl⟩, .inr ⟨rfl, ?_, rfl, rfl, rfl⟩⟩
      rw [pad_take ds 0 (by omega)]
      apply bytes_ext
      rw [ext_list]
      rfl
    · obtain ⟨j, hp, rfl, ht, hj, _⟩ := low_pad ds x n t y (by omega) (by omega) hf hl
      exact ⟨padB ds n, y + 1, .inl ⟨rfl, rfl, rfl⟩, .inl ⟨j, hp, rfl, ht, .inl (by omega)⟩⟩
/-- Fixed's text of what round leaves. -/
theorem rnd_fix (ds : ByteArray) (x : Int) (k : Nat) (t : ByteArray) (y : Int) (hg : good 10 ds.data.toList) (h0 : 0 < ds.size) (hf : ∀ h : 0 < ds.size, ds[0].toNat ≠ 48) (h : RndD ds x (x + 1 + k) t y) :
    ∃ d p', FixD ds (x + 1) k d p' ∧ fixB t (y + 1) k = fixB d p' k := by
  by_cases hn : x + 1 + k < 0
  · rcases h with ⟨_, rfl, rfl⟩ | ⟨_, h, _⟩ | ⟨h, _⟩
    · exact ⟨_, _, .inl ⟨hn, rfl, rfl⟩, rfl⟩
    · omega
    · omega
  · obtain ⟨n, hn'⟩ := Int.eq_ofNat_of_zero_le (show 0 ≤ x + 1 + k by omega)
    rw [hn'] at h
    obtain ⟨d, p', hc, hd⟩ := rnd_cut ds x n t y hg h0 hf h
    refine ⟨d, p', .inr ⟨by omega, by rw [hn']; exact hc⟩, ?_⟩
    rcases hd with ⟨j, rfl, rfl, _⟩ | ⟨hz, rfl, rfl, rfl, rfl⟩
    · exact (fix_zeros t j y k).symm
    · rw [fix_none (x + 1) (by omega) k]
      rfl
/-- Digits' text of what round leaves. -/
theorem rnd_sci (ds : ByteArray) (x : Int) (n : Nat) (hn : 1 ≤ n) (t : ByteArray) (y : Int) (hg : good 10 ds.data.toList) (h0 : 0 < ds.size) (hf : ∀ h : 0 < ds.size, ds[0].toNat ≠ 48) (h : RndD ds x (n : Int) t y) :
    ∃ d p', cutV ds (x + 1) n (roundsB ds (n : Int)) d p' ∧ sciB (padB t n) (y + 1) = sciB (d.extract 0 n) p' := by
  obtain ⟨d, p', hc, hd⟩ := rnd_cut ds x n t y hg h0 hf h
  refine ⟨d, p', hc, ?_⟩
  have hz := cut5_size ds (x + 1) n _ d p' hc
  rcases hd with ⟨j, rfl, rfl, ht, hts⟩ | ⟨h, _⟩
  · congr 1
    apply bytes_ext
    rw [append_size, zerosB_size] at hz
    rw [pad_long t n (by omega), ext_list, append_list, append_list, List.drop_zero, Nat.sub_zero, zeros_data, zeros_data, List.take_append, data_len, List.take_of_length_le (by rw [data_len]; omega), List.take_replicate, Nat.min_eq_left (by omega)]
  · omega
end Go.Proofs.YtpmccbkhkaoccaaGreatDoor

/- All decimal digits of a size: plain. -/
namespace Go.Proofs.YtpmccbkhkaoccaaGreatDoor
open Go.RowKit

/-- The digits of a number, the lowest first. -/
def digsN (N n : Nat) : List Nat := (List.range n).map fun i => N / 10 ^ i % 10
theorem digsN_len (N n : Nat) : (digsN N n).length = n := by simp [digsN]
theorem digsN_ten (N n : Nat) : Ten (digsN N n) := fun d hd => by
  obtain ⟨i, _, rfl⟩ := List.mem_map.1 hd
  exact Nat.mod_lt _ (by omega)
theorem digsN_val (N n : Nat) : dval (digsN N n) = N % 10 ^ n := by
  induction n with
  | zero => simp [digsN, dval, Nat.mod_one]
  | succ n ih =>
    have e : digsN N (n + 1) = digsN N n ++ [N / 10 ^ n % 10] := by unfold digsN; rw [List.range_succ, List.map_append]; rfl
    rw [e, dval_snoc, ih, digsN_len, Nat.pow_succ, Nat.mod_mul]
/-- Their bytes as they come, and the text. -/
def upL (N n : Nat) : List UInt8 := (digsN N n).map dchr
def txtB (N n : Nat) : ByteArray := ⟨(dtxt (digsN N n)).toArray⟩
theorem upL_len (N n : Nat) : (upL N n).length = n := by rw [upL, List.length_map, digsN_len]
theorem txt_rev (N n : Nat) : (txtB N n).data.toList = (upL N n).reverse := by
  show dtxt _ = _
  unfold dtxt upL
  rw [List.map_reverse]
theorem txt_size (N n : Nat) : (txtB N n).size = n := by rw [← data_len, txt_rev, List.length_reverse, upL_len]
/-- A text without its zeros at the end is all digits of a number. -/
theorem dec_exd (q N n s : Nat) (e : Int) (u : ByteArray) (hq : 0 < q) (hs : s = (-e).toNat) (hN : N = q * 5 ^ s * 2 ^ e.toNat) (hn : DigN n N) (hu : TrimR 48 (txtB N n) u) : 0 < u.size ∧ ExD u ((n : Int) - (s : Int)) q e := by
  have hNp : 0 < N := by rw [hN]; exact Nat.mul_pos (Nat.mul_pos hq (Nat.pow_pos (by omega))) (Nat.two_pow_pos _)
  have hn0 : 0 < n := by
    apply Nat.pos_of_ne_zero
    intro h
    have := hn.1
    rw [h, Nat.pow_zero] at this
    omega
  have hval : valN 10 (txtB N n).data.toList = N := by
    show valN 10 (dtxt _) = _
    rw [valN_dtxt _ (digsN_ten N n), digsN_val, Nat.mod_eq_of_lt hn.1]
  have hg : good 10 (txtB N n).data.toList := good_dtxt _ (digsN_ten N n)
  have hsz := txt_size N n
  have hf : ∀ h : 0 < (txtB N n).size, (txtB N n)[0].toNat ≠ 48 := fun h => by
    have h1 := get_data (txtB N n) 0 h
    rw [txt_rev, List.getElem?_reverse (by rw [upL_len]; omega), upL_len, Nat.sub_zero] at h1
    unfold upL digsN at h1
    rw [List.map_map, List.getElem?_map, List.getElem?_range (by omega)] at h1
    have h2 := Option.some.inj h1
    rw [← h2]
    have hd : 0 < N / 10 ^ (n - 1) := (dig_pos hn (n - 1)).2 (by omega)
    have hd2 : N / 10 ^ (n - 1) < 10 := by
      rw [Nat.div_lt_iff_lt_mul (Nat.pow_pos (by omega)), ← Nat.pow_succ', show (n - 1).succ = n by omega]
      exact hn.1
    show (dchr (N / 10 ^ (n - 1) % 10)).toNat ≠ 48
    rw [dchr_nat _ (Nat.mod_lt _ (by omega)), Nat.mod_eq_of_lt hd2]
    omega
  have hu0 : 0 < u.size := trim_some hu (by omega) hf
  obtain ⟨⟨j, hj⟩, hl⟩ := hu
  have hsz2 := trim_size hj
  refine ⟨hu0, ?_⟩
  have hst : Stp (txtB N n) u j := by
    refine ⟨hu0, fun c hc => hg c (by rw [hj]; exact List.mem_append_left _ hc), fun h => ?_, ?_, by omega⟩
    · have h1 := get_data (txtB N n) 0 (by omega)
      rw [hj, List.getElem?_append_left (by rw [data_len]; exact h), get_data u 0 h] at h1
      rw [Option.some.inj h1]
      exact hf (by omega)
    · rw [hj, valN_append, valN_zeros, List.length_replicate, Nat.add_zero]
  have := stp_end (txtB N n) u j q s e hst hl (by rw [hval, hN, Nat.mul_right_comm]) hs
  rw [hsz] at this
  exact this
theorem digN_ex (N : Nat) : ∃ n, DigN n N := by
  induction N using Nat.strongRecOn with
  | ind N ih =>
    by_cases h0 : N = 0
    · exact ⟨0, by rw [h0]; exact Nat.pow_pos (by omega), fun h => by omega⟩
    · obtain ⟨m, h1, h2⟩ := ih (N / 10) (by omega)
      refine ⟨m + 1, ?_, fun _ => ?_⟩
      · rw [Nat.pow_succ]
        omega
      · show 10 ^ m ≤ N
        by_cases hm : m = 0
        · rw [hm, Nat.pow_zero]
          omega
        · have := h2 (by omega)
          obtain ⟨k, rfl⟩ : ∃ k, m = k + 1 := ⟨m - 1, by omega⟩
          rw [Nat.add_sub_cancel] at this
          rw [Nat.pow_succ]
          omega
/-- How great the numbers are. -/
theorem dof_bounds (t q s g : Nat) (ht : t = 1100) (hq : q ≤ 9007199254740992) (hs : s ≤ 1100) (hg : g ≤ 1100) (h0 : s = 0 ∨ g = 0) : q * 5 ^ s < 10 ^ 17 * 10 ^ t ∧ q * 5 ^ s * 2 ^ g < 10 ^ 17 * 10 ^ t := by
  have hq2 : q < 10 ^ 17 := by
    have : (10 : Nat) ^ 17 = 100000000000000000 := rfl
    omega
  have h5 : 5 ^ s ≤ 10 ^ t := Nat.le_trans (Nat.pow_le_pow_left (by omega) s) (Nat.pow_le_pow_right (by omega) (by omega))
  have h2 : 2 ^ g ≤ 10 ^ t := Nat.le_trans (Nat.pow_le_pow_left (by omega) g) (Nat.pow_le_pow_right (by omega) (by omega))
  have hp : 0 < 10 ^ t := Nat.pow_pos (by omega)
  have key : ∀ x, x ≤ 10 ^ t → q * x < 10 ^ 17 * 10 ^ t := fun x hx => Nat.lt_of_le_of_lt (Nat.mul_le_mul_left q hx) (Nat.mul_lt_mul_of_pos_right hq2 hp)
  refine ⟨key _ h5, ?_⟩
  rcases h0 with rfl | rfl
  · rw [Nat.pow_zero, Nat.mul_one]
    exact key _ h2
  · rw [Nat.pow_zero, Nat.mul_one]
    exact key _ h5
theorem ten_words (t r X : Nat) (ht : t = 1100) (hr : r = 140) (h : X < 10 ^ 17 * 10 ^ t) : X < be ^ r := by
  rw [be_two]
  rw [← Nat.pow_add] at h
  have h1 : 10 ^ (17 + t) ≤ (2 ^ 4) ^ (17 + t) := Nat.pow_le_pow_left (by omega) _
  rw [← Nat.pow_mul] at h1
  have h2 : 2 ^ (4 * (17 + t)) ≤ 2 ^ (32 * r) := Nat.pow_le_pow_right (by omega) (by omega)
  omega
theorem digN_le {n N : Nat} (t : Nat) (ht : t = 1100) (h : DigN n N) (hN : N < 10 ^ 17 * 10 ^ t) : n ≤ 1117 := by
  apply Nat.le_of_not_lt
  intro hlt
  rw [← Nat.pow_add] at hN
  have h1 := h.2 (by omega)
  have h2 : 10 ^ (17 + t) ≤ 10 ^ (n - 1) := Nat.pow_le_pow_right (by omega) (by omega)
  omega
theorem upL_succ (N n : Nat) : upL N (n + 1) = upL N n ++ [dchr (N / 10 ^ n % 10)] := by
  unfold upL digsN
  rw [List.range_succ, List.map_append, List.map_append]
  rfl
end Go.Proofs.YtpmccbkhkaoccaaGreatDoor

/- slices.Reverse of bytes. -/
namespace Go.Proofs.YtpmccbkhkaoccaaGreatDoor
open Go.ChangeShapes Go.WideShapes Go.RowKit

/-- The bytes of a row while it is turned: the first i and the last i have changed places. -/
def RevSt (B : Nat) (l : List UInt8) (i : Nat) (w wr : World) : Prop := Only B w wr ∧ (∀ j (h : j < l.length), wr.cell? ⟨B, j, none⟩ = some (.int .u8 ((if j < i ∨ l.length - i ≤ j then l[l.length - 1 - j]'(by omega) else l[j]).toNat : Int))) ∧ (∀ j, j < l.length → wr.frozen? ⟨B, j, none⟩ = false)
theorem RevSt.step {B : Nat} {l : List UInt8} {i : Nat} {w wr : World} (h : RevSt B l i w wr) (hi : i + i + 1 < l.length) :
    RevSt B l (i + 1) w ((wr.setCell ⟨B, i, none⟩ (.int .u8 (l[l.length - 1 - i]'(by omega)).toNat)).setCell ⟨B, l.length - 1 - i, none⟩ (.int .u8 (l[i]'(by omega)).toNat)) := by
  obtain ⟨h1, h2, h3⟩ := h
  have c1 := h2 i (by omega)
  have hlt : l.length - 1 - i < l.length := by omega
  have c2 := (set_cell_at (v := .int .u8 ((l[l.length - 1 - i]'(by omega)).toNat : Int)) c1 (l.length - 1 - i)).trans ((if_neg (by omega)).trans (h2 (l.length - 1 - i) hlt))
  refine ⟨(h1.setCell _ _).setCell _ _, fun j hj => ?_, fun j hj => ?_⟩
  · rw [set_cell_at c2]
    by_cases e1 : j = l.length - 1 - i
    · rw [if_pos e1]
      subst e1
      simp only [if_pos (show l.length - 1 - i < i + 1 ∨ l.length - (i + 1) ≤ l.length - 1 - i from .inr (by omega)), show l.length - 1 - (l.length - 1 - i) = i by omega]
    · rw [if_neg e1, set_cell_at c1]
      by_cases e2 : j = i
      · rw [if_pos e2]
        subst e2
        simp only [if_pos (show j < j + 1 ∨ l.length - (j + 1) ≤ j from .inl (by omega))]
      · rw [if_neg e2, h2 j hj]
        by_cases e3 : j < i ∨ l.length - i ≤ j
        · simp only [if_pos e3, if_pos (show j < i + 1 ∨ l.length - (i + 1) ≤ j by omega)]
        · simp only [if_neg e3, if_neg (show ¬ (j < i + 1 ∨ l.length - (i + 1) ≤ j) by omega)]
  · rw [set_frozen_at, set_frozen_at]
    exact h3 j hj
theorem RevSt.drew {B : Nat} {l : List UInt8} {i : Nat} {w wr : World} (h : RevSt B l i w wr) : RevSt B l i w wr.drew := ⟨⟨h.1.1, h.1.2.1, h.1.2.2.1, h.1.2.2.2.1, h.1.2.2.2.2⟩, h.2.1, h.2.2⟩
set_option maxHeartbeats 2000000 in
set_option maxRecDepth 100000 in
theorem reverse_any (B cap m : Nat) (l : List UInt8) (hm : l.length = m) (w : World) (hl : l.length ≤ 100000) (hc : ∀ j (h : j < l.length), w.cell? ⟨B, j, none⟩ = some (.int .u8 (l[j].toNat : Int))) (hf : ∀ j, j < l.length → w.frozen? ⟨B, j, none⟩ = false) :
    Calls Tryz.prog 71 #[.slice (some ⟨B, 0, none⟩) m cap] w fun e w' => e = .returned (.tuple #[]) ∧ Only B w w' ∧ (∀ j (h : j < l.length), w'.cell? ⟨B, j, none⟩ = some (.int .u8 ((l[l.length - 1 - j]'(by omega)).toNat : Int))) := by
  have HS : Hid (RevSt B l 0 w w) := ⟨Only.refl _ _, fun j h => by rw [hc j h]; simp only [if_neg (show ¬ (j < 0 ∨ l.length - 0 ≤ j) by omega)], hf⟩
  have hm' : (m : Int) ≤ 100000 := by omega
  clear hc hf
  go_enter Tryz.func71, Tryz.ntmps71
  go_wp2
  go_loopw [2, 3] (fun iv jv wl => ∃ i : Nat, iv = .int .i64 (i : Int) ∧ jv = .int .i64 ((m : Int) - 1 - (i : Int)) ∧ i + i ≤ m + 1 ∧ Hid (RevSt B l i w wl)) (fun iv _ _ => m - (intOf iv).toNat)
  case atStart => exact ⟨0, rfl, by simp, by omega, HS.out⟩
  case round =>
    clear HS
    obtain ⟨i, rfl, rfl, hi, HS⟩ := hrel
    by_cases hlt : i + i + 1 < m
    · obtain ⟨j, hj⟩ : ∃ j : Nat, j = m - 1 - i := ⟨_, rfl⟩
      have hji : (m : Int) - 1 - (i : Int) = (j : Int) := by omega
      have hij : (i : Int) < (j : Int) := by omega
      have hjm : (j : Int) < (m : Int) := by omega
      have him : (i : Int) < (m : Int) := by omega
      have HN : Hid (RevSt B l (i + 1) w ((wr.setCell ⟨B, i, none⟩ (.int .u8 ((l[l.length - 1 - i]'(by omega)).toNat : Int))).setCell ⟨B, l.length - 1 - i, none⟩ (.int .u8 ((l[i]'(by omega)).toNat : Int)))) := HS.out.step (by omega)
      have ci := HS.out.2.1 i (by omega)
      have cj := HS.out.2.1 (l.length - 1 - i) (by omega)
      simp only [if_neg (show ¬ (i < i ∨ l.length - i ≤ i) by omega)] at ci
      simp only [if_neg (show ¬ (l.length - 1 - i < i ∨ l.length - i ≤ l.length - 1 - i) by omega)] at cj
      have fi := HS.out.2.2 i (by omega)
      have fj := HS.out.2.2 (l.length - 1 - i) (by omega)
      generalize (l[l.length - 1 - i]'(by omega)) = x at *
      generalize (l[i]'(by omega)) = y at *
      rw [show l.length - 1 - i = j by omega] at HN cj fj
      rw [hji]
      have hne : ¬ i = j := by omega
      clear hj
      go_wp2
      go_region
      all_goals
        go_wp2
        exact ⟨⟨i + 1, rfl, by congr 1; omega, by omega, HN.out.drew⟩, by show m - ((i : Int) + 1).toNat < m - (i : Int).toNat; omega⟩
    · have hnl : ¬ (i : Int) < (m : Int) - 1 - (i : Int) := by omega
      have HF : Hid (∀ j (h : j < l.length), wr.cell? ⟨B, j, none⟩ = some (.int .u8 ((l[l.length - 1 - j]'(by omega)).toNat : Int))) := fun j h => by
        rw [HS.out.2.1 j h]
        split
        · rfl
        · have : l.length - 1 - j = j := by omega
          simp only [this]
      go_wp2
      go_end0
      subst hm
      exact ⟨rfl, HS.out.1, HF.out⟩
end Go.Proofs.YtpmccbkhkaoccaaGreatDoor

