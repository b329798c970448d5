import Derived.Test.YtpmccbkhkaoccaaDoorA28
import Derived.Test.YtpmccbkhkaoccaaDoorA03
import Derived.Test.YtpmccbkhkaoccaaDoorA24
import Derived.Test.YtpmccbkhkaoccaaDoorA25
/- digitAt of the program. -/
namespace Go.Proofs.YtpmccbkhkaoccaaDoor
open Go.ChangeShapes Go.WideShapes Go.RowKit

set_option maxHeartbeats 1000000 in
set_option maxRecDepth 100000 in
theorem digitAt_any (ds : ByteArray) (x p : Int) (hs : ds.size ≤ 100000) (hx : -100000 ≤ x) (hx' : x ≤ 100000) (hp : -100000 ≤ p) (hp' : p ≤ 100000) (w : World) :
    Calls Tryd.prog 95 #[.agg #[.string ds, .int .i64 x], .int .i64 p] w fun e w' => e = .returned (.int .u8 ((dAt ds x p).toNat : Int)) ∧ w' = w.alloc (.cells #[.string ds, .int .i64 x] 40) := by
  have hs' : (ds.size : Int) ≤ 100000 := by omega
  by_cases h1 : x - p < 0
  · have e : dAt ds x p = 48 := by unfold dAt; rw [dif_neg (by omega)]
    rw [e]
    have h1' : decide (x - p < 0) = true := decide_eq_true h1
    go_enter Tryd.func95, Tryd.ntmps95
    go_wp2
    go_ret
    exact ⟨rfl, rfl⟩
  · have h1' : decide (x - p < 0) = false := decide_eq_false h1
    obtain ⟨k, hk⟩ := Int.eq_ofNat_of_zero_le (show 0 ≤ x - p by omega)
    by_cases h2 : k < ds.size
    · have e : dAt ds x p = ds[k] := by
        unfold dAt
        rw [dif_pos (by omega)]
        congr 1
        omega
      rw [e]
      have h2' : decide ((ds.size : Int) ≤ (k : Int)) = false := decide_eq_false (by omega)
      go_enter Tryd.func95, Tryd.ntmps95
      go_wp2
      go_ret
      exact ⟨rfl, rfl⟩
    · have e : dAt ds x p = 48 := by unfold dAt; rw [dif_neg (by omega)]
      rw [e]
      have h2' : decide ((ds.size : Int) ≤ (k : Int)) = true := decide_eq_true (by omega)
      go_enter Tryd.func95, Tryd.ntmps95
      go_wp2
      go_ret
      exact ⟨rfl, rfl⟩
end Go.Proofs.YtpmccbkhkaoccaaDoor

/- The iterator over a size's digits. -/
namespace Go.Proofs.YtpmccbkhkaoccaaDoor
open Go.ChangeShapes Go.WideShapes Go.RowKit Go.Shelf

attribute [local go_sem] Oper.semAt_some

set_option maxHeartbeats 1000000 in
set_option maxRecDepth 100000 in
theorem span_any (ds : ByteArray) (x fr lo : Int) (w : World) :
    Calls Tryd.prog 97 #[.agg #[.string ds, .int .i64 x], .int .i64 fr, .int .i64 lo] w fun e w' =>
      e = .returned (.func (.func 100) #[] #[.pointer (some ⟨w.heap.size + 1, 0, none⟩), .pointer (some ⟨w.heap.size + 2, 0, none⟩), .pointer (some ⟨w.heap.size, 0, none⟩)])
      ∧ w' = ((w.alloc (.cells #[.string ds, .int .i64 x] 40)).alloc (.cells #[.int .i64 fr] 3)).alloc (.cells #[.int .i64 lo] 3) := by
  go_enter Tryd.func97, Tryd.ntmps97
  go_wp2
  go_ret
  exact ⟨rfl, rfl⟩
/-- What a round of the span is handed. -/
def spnE (ds : ByteArray) (x fr : Int) (i : Nat) : Array Value := #[.int .i64 (fr - (i : Int)), .int .u8 ((dAt ds x (fr - (i : Int))).toNat : Int)]
/-- The boxes that the iterator has captured. -/
def SpnB (ds : ByteArray) (x fr lo : Int) (D : Nat) (W : World) : Prop := W.heap[D]? = some (.cells #[.string ds, .int .i64 x] 40 (0, 0)) ∧ W.heap[D + 1]? = some (.cells #[.int .i64 fr] 3 (0, 0)) ∧ W.heap[D + 2]? = some (.cells #[.int .i64 lo] 3 (0, 0))
theorem SpnB.rnd {ds : ByteArray} {x fr lo : Int} {D b : Nat} {W W' : World} (h : SpnB ds x fr lo D W) (hr : Rnd b W W') (hb : b < D) : SpnB ds x fr lo D W' :=
  ⟨hr.2.1 _ _ _ _ h.1 (by omega) (by decide), hr.2.1 _ _ _ _ h.2.1 (by omega) (by decide), hr.2.1 _ _ _ _ h.2.2 (by omega) (by decide)⟩
theorem SpnB.below {ds : ByteArray} {x fr lo : Int} {D : Nat} {W W' : World} (h : SpnB ds x fr lo D W) (hr : Below W.heap.size W W') : SpnB ds x fr lo D W' := by
  have k : ∀ i o, W.heap[i]? = some o → W'.heap[i]? = some o := fun i o hi => by rw [hr.block i (Array.getElem?_eq_some_iff.1 hi).1]; exact hi
  exact ⟨k _ _ h.1, k _ _ h.2.1, k _ _ h.2.2⟩
def spnLeft (fr : Int) (n : Nat) (v : Value) : Nat := (n : Int).toNat - (fr - intOf v).toNat
set_option maxHeartbeats 2000000 in
set_option maxRecDepth 100000 in
theorem spn_gives (T : TypeId) (b D : Nat) (ds : ByteArray) (x fr lo : Int) (n : Nat) (hn : (n : Int) = max (fr - lo + 1) 0) (hs : ds.size ≤ 100000) (hx : -90000 ≤ x) (hx' : x ≤ 90000) (hf : -90000 ≤ fr) (hf' : fr ≤ 90000) (ht : -90000 ≤ lo) (ht' : lo ≤ 90000) (w : World) (hB : SpnB ds x fr lo D w) (hbD : b < D) :
    Gives T b 100 #[.pointer (some ⟨D + 1, 0, none⟩), .pointer (some ⟨D + 2, 0, none⟩), .pointer (some ⟨D, 0, none⟩)] (spnE ds x fr) n w := by
  intro l J W hW hJ hY h0
  have HJ : Hid _ := hJ
  have HY : Hid _ := hY
  have HS : Hid (SpnB ds x fr lo D W) := by
    have k : ∀ i o, w.heap[i]? = some o → W.heap[i]? = some o := fun i o hi => by rw [hW.block i (Array.getElem?_eq_some_iff.1 hi).1]; exact hi
    exact ⟨k _ _ hB.1, k _ _ hB.2.1, k _ _ hB.2.2⟩
  have HD : Hid _ := fun p (h1 : -100000 ≤ p) (h2 : p ≤ 100000) (w : World) => digitAt_any ds x p hs (by omega) (by omega) h1 h2 w
  clear hJ hY hB hW
  have hc1 : W.cell? ⟨D + 1, 0, none⟩ = some (.int .i64 fr) := by simp [World.cell?, HS.out.2.1]
  refine callsIn_of_wp Tryd.func100 rfl trivial ?_ rfl
  simp only [Tryd.ntmps100, List.size_toArray, List.length_cons, List.length_nil, Nat.reduceAdd, Nat.reduceSub, Array.replicate_succ, Array.replicate_zero, List.push_toArray, List.append_toArray, List.nil_append, List.cons_append]
  gi_wp2
  gi_loopw [5] (fun p wr => ∃ i : Nat, p = .int .i64 (fr - (i : Int)) ∧ i ≤ n ∧ Hid (J i wr) ∧ Hid (SpnB ds x fr lo D wr)) (fun p _ => spnLeft fr n p)
  case atStart => exact ⟨0, by simp, by omega, h0, HS.out⟩
  case round =>
    clear hc1 HS
    obtain ⟨i, rfl, hi, HJi, HS⟩ := hrel
    have hc2 : wr.cell? ⟨D + 2, 0, none⟩ = some (.int .i64 lo) := by simp [World.cell?, HS.out.2.2]
    have hd0 : wr.cell? ⟨D, 0, none⟩ = some (.string ds) := by simp [World.cell?, HS.out.1]
    have hd1 : wr.cell? ⟨D, 1, none⟩ = some (.int .i64 x) := by simp [World.cell?, HS.out.1]
    by_cases hlt : i < n
    · have hle : lo ≤ fr - (i : Int) := by omega
      gi_wp2
      refine ⟨trivial, rfl, (callsIn_wide.2 (HD.out (fr - (i : Int)) (by omega) (by omega) wr)).mono ?_⟩
      rintro e w2 ⟨rfl, rfl⟩
      obtain ⟨w2, hw2⟩ : ∃ w2, wr.alloc (.cells #[.string ds, .int .i64 x] 40) = w2 := ⟨_, rfl⟩
      have hb2 : Below wr.heap.size wr w2 := by rw [← hw2]; exact (Below.refl _ _).alloc (Nat.le_refl _) _
      have HJ2 : Hid (J i w2) := HJ.out i wr w2 HJi.out (Own1.below hb2)
      have HS2 : Hid (SpnB ds x fr lo D w2) := HS.out.below hb2
      rw [hw2]
      clear hw2 hb2 hc2 hd0 hd1
      obtain ⟨fn, tmps, assign, body, hy, hR⟩ := HY.out i hlt w2 HJ2.out
      unfold spnE at hy
      gi_wp2
      refine ⟨rfl, hR.mono ?_⟩
      rintro e W3 ⟨rfl, hJ3, hr3⟩
      have HJ3 : Hid (J (i + 1) W3) := hJ3
      have HS3 : Hid (SpnB ds x fr lo D W3) := HS2.out.rnd hr3 hbD
      clear hJ3 hr3 hy hR
      gi_wp2
      go_roundw
      case rel => exact ⟨i + 1, by congr 1; omega, by omega, HJ3.out, HS3.out⟩
      case measure =>
        show (n : Int).toNat - (fr - (fr - (i : Int) - 1)).toNat < (n : Int).toNat - (fr - (fr - (i : Int))).toNat
        omega
    · have hle : decide (lo ≤ fr - (i : Int)) = false := decide_eq_false (by omega)
      gi_wp2
      go_end0
      obtain rfl : i = n := by omega
      exact ⟨⟨_, rfl⟩, HJi.out⟩
end Go.Proofs.YtpmccbkhkaoccaaDoor

/- The form without an exponent is written. -/
namespace Go.Proofs.YtpmccbkhkaoccaaDoor
open Go.ChangeShapes Go.WideShapes Go.RowKit Go.Shelf

attribute [local go_sem] Oper.semAt_some

/-- What the builder holds behind i rounds. -/
def putC (ds : ByteArray) (x fr mark : Int) (i : Nat) : List Value := Lib.byteCells (putL (dAt ds x) fr mark i)
theorem putC_len (ds : ByteArray) (x fr mark : Int) (i : Nat) : (putC ds x fr mark i).length ≤ 2 * i := by
  unfold putC
  rw [Lib.byteCells_length]
  induction i with
  | zero => simp [putL]
  | succ i ih =>
    rw [putL_succ, List.length_append]
    split <;> simp <;> omega
theorem putC_succ (ds : ByteArray) (x fr mark : Int) (i : Nat) : putC ds x fr mark (i + 1) = putC ds x fr mark i ++ (if fr - (i : Int) = mark then [.int .u8 46] else []) ++ [.int .u8 ((dAt ds x (fr - (i : Int))).toNat : Int)] := by
  unfold putC
  rw [putL_succ, Lib.byteCells_append, List.append_assoc]
  split <;> rfl
/-- The worlds in which the digits are gone through: the builder in block H + 1, the iterator's boxes behind it. -/
theorem write_world (H : Nat) (w : World) (hH : w.heap.size = H) (o : Obj) (ds : ByteArray) (x fr lo : Int) : ∃ W, W = ((((w.alloc o).alloc (.cells #[.pointer none, .slice none 0 0] 138)).alloc (.cells #[.string ds, .int .i64 x] 40)).alloc (.cells #[.int .i64 fr] 3)).alloc (.cells #[.int .i64 lo] 3)
    ∧ W.heap.size = H + 5 ∧ Below H w W ∧ SpnB ds x fr lo (H + 2) W ∧ Lib.IsBuilderF 138 5 (H + 1) (H + 1) [] W ∧ W.heap[H]? = some o := by
  subst hH
  refine ⟨_, rfl, by simp, ((((((Below.refl _ w).alloc (Nat.le_refl _) _).alloc (by simp) _).alloc (by simp <;> omega) _).alloc (by simp <;> omega) _).alloc (by simp <;> omega) _), ⟨?_, ?_, ?_⟩, ?_, ?_⟩
  · rw [Below.heap_alloc _ _ _ (by simp), Below.heap_alloc _ _ _ (by simp)]
    have := World.alloc_heap_new ((w.alloc o).alloc (.cells #[.pointer none, .slice none 0 0] 138)) (.cells #[.string ds, .int .i64 x] 40)
    rwa [World.size_alloc, World.size_alloc] at this
  · rw [Below.heap_alloc _ _ _ (by simp)]
    have := World.alloc_heap_new (((w.alloc o).alloc (.cells #[.pointer none, .slice none 0 0] 138)).alloc (.cells #[.string ds, .int .i64 x] 40)) (.cells #[.int .i64 fr] 3)
    rwa [World.size_alloc, World.size_alloc, World.size_alloc] at this
  · have := World.alloc_heap_new ((((w.alloc o).alloc (.cells #[.pointer none, .slice none 0 0] 138)).alloc (.cells #[.string ds, .int .i64 x] 40)).alloc (.cells #[.int .i64 fr] 3)) (.cells #[.int .i64 lo] 3)
    rwa [World.size_alloc, World.size_alloc, World.size_alloc, World.size_alloc] at this
  · have h := Lib.IsBuilderF.of (Lib.fresh_isBuilder 138 5 (w.alloc o))
    rw [World.size_alloc] at h
    exact ((h.alloc _).alloc _).alloc _
  · rw [Below.heap_alloc _ _ _ (by simp; omega), Below.heap_alloc _ _ _ (by simp; omega), Below.heap_alloc _ _ _ (by simp; omega), Below.heap_alloc _ _ _ (by simp)]
    exact World.alloc_heap_new w o
set_option maxHeartbeats 4000000 in
set_option maxRecDepth 100000 in
theorem plainWrite_any (ds : ByteArray) (x : Int) (k : Nat) (hs : ds.size ≤ 2000) (hx : -2000 ≤ x) (hx' : x ≤ 2000) (hk : k ≤ 2000) (w : World) :
    Calls Tryd.prog 96 #[.agg #[.string ds, .int .i64 x, .int .i64 (k : Int)]] w fun e w' => e = .returned (.string (fixB ds (x + 1) k)) ∧ Below w.heap.size w w' := by
  have HSP : Hid _ := fun fr lo (w : World) => span_any ds x fr lo w
  obtain ⟨fr, hfr⟩ : ∃ fr, max x 0 = fr := ⟨_, rfl⟩
  obtain ⟨H, hH⟩ : ∃ H, w.heap.size = H := ⟨_, rfl⟩
  obtain ⟨n, hn⟩ : ∃ n : Nat, n = fr.toNat + 1 + k := ⟨_, rfl⟩
  have HT : Hid (putL (dAt ds x) fr (-1) n = (fixB ds (x + 1) k).data.toList) := by
    have h1 := plain_text ds x k
    have e1 : fxP (x + 1) - 1 = fr := by unfold fxP; split <;> omega
    have e2 : (fxP (x + 1)).toNat + k = n := by omega
    rw [e1, e2] at h1
    exact h1
  obtain ⟨W5, hW5, hz5, hb5, hsp5, hbl5, _⟩ := write_world H w hH (.cells #[.string ds, .int .i64 x, .int .i64 (k : Int)] 44) ds x fr (-(k : Int))
  have HW5 : Hid _ := hW5
  have HG : Hid (Gives 74 (H + 1) 100 #[.pointer (some ⟨H + 2 + 1, 0, none⟩), .pointer (some ⟨H + 2 + 2, 0, none⟩), .pointer (some ⟨H + 2, 0, none⟩)] (spnE ds x fr) n W5) :=
    spn_gives 74 (H + 1) (H + 2) ds x fr (-(k : Int)) n (by omega) (by omega) (by omega) (by omega) (by omega) (by omega) (by omega) (by omega) W5 hsp5 (by omega)
  have HB5 : Hid _ := And.intro hb5 hbl5
  clear hW5 hb5 hsp5 hbl5
  refine (callsIn_wide (n := 0)).1 ?_
  refine callsIn_of_wp_marks Tryd.func96 rfl trivial ?_ rfl
  simp only [Tryd.ntmps96, List.size_toArray, List.length_cons, List.length_nil, Nat.reduceAdd, Nat.reduceSub, Array.replicate_succ, Array.replicate_zero, List.push_toArray, List.append_toArray, List.nil_append, List.cons_append]
  gi_wp2
  refine ⟨trivial, rfl, (callsIn_wide.2 (HSP.out _ _ _)).mono ?_⟩
  rintro e w2 ⟨rfl, rfl⟩
  simp only [World.size_alloc, hH, ← HW5.out]
  gi_wp2
  refine range_all (T := 74) (b := H + 1) (enc := spnE ds x fr) (n := n) rfl (enters_of Tryd.func100 (by kernel_rfl) rfl) HG.out (fun _ => rfl) (by omega)
    (fun i W => Hid (Lib.IsBuilderF 138 5 (H + 1) (H + 1) (putC ds x fr (-1) i) W ∧ Below H w W)) ?hI ?h0 ?a1 ?assign ?body ?done
  case hI =>
    rintro i A A' h hc
    exact ⟨isBuilder_chg h.out.1 hc (by decide) (by decide), below_chg h.out.2 hc (by omega) (by omega)⟩
  case h0 => exact ⟨HB5.out.2, HB5.out.1⟩
  case assign =>
    intro l i W K hK
    gi_wp2
    exact hK
  case body =>
    intro l i hi W hI hsz
    have hl := putC_len ds x fr (-1) i
    have hz : H + 1 ≤ W.heap.size := by omega
    have HE : Hid (putC ds x fr (-1) (i + 1) = putC ds x fr (-1) i ++ (if fr - (i : Int) = -1 then [.int .u8 46] else []) ++ [.int .u8 ((dAt ds x (fr - (i : Int))).toNat : Int)]) := putC_succ ds x fr (-1) i
    unfold spnE
    generalize dAt ds x (fr - (i : Int)) = c at *
    generalize putC ds x fr (-1) i = P at *
    generalize putC ds x fr (-1) (i + 1) = P' at *
    by_cases hm : fr - (i : Int) = -1
    · rw [if_pos hm] at HE
      gi_wp2
      refine ⟨trivial, rfl, (CallsIn.inRound l (callsIn_wide.2 (writeByte_any (H + 1) (H + 1) _ 46 W hI.out.1 (by omega) hz))).mono ?_⟩
      rintro e W1 ⟨rfl, h1, b1, k1⟩
      have HI1 : Hid _ := And.intro (Or.inr h1 : Lib.IsBuilderF 138 5 (H + 1) (H + 1) _ W1) (And.intro b1 k1)
      have hz1 : H + 1 ≤ W1.heap.size := Nat.le_trans hz b1.size
      clear h1 b1 k1
      gi_wp2
      refine ⟨trivial, rfl, (CallsIn.inRound l (callsIn_wide.2 (writeByte_any (H + 1) (H + 1) _ (c.toNat : Int) W1 HI1.out.1 (by simp; omega) hz1))).mono ?_⟩
      rintro e W2 ⟨rfl, h2, b2, k2⟩
      have HI2 : Hid (KeepsFrom W5.heap.size W W2 ∧ Rnd (H + 1) W W2 ∧ Hid (Lib.IsBuilderF 138 5 (H + 1) (H + 1) P' W2 ∧ Below H w W2)) := by
        have hk := HI1.out.2.2.trans k2
        have hz2 : W.heap.size ≤ W2.heap.size := Nat.le_trans HI1.out.2.1.size b2.size
        refine ⟨keeps_of_kept hk hz2 (builder_cells hI.out.1), rnd_of_kept hk (HI1.out.2.1.trans b2), ?_, hI.out.2.trans ((HI1.out.2.1.trans b2).mono (by omega))⟩
        rw [HE.out]
        exact .inr h2
      clear h2 b2 k2
      gi_wp2
      exact HI2.out
    · rw [if_neg hm, List.append_nil] at HE
      gi_wp2
      refine ⟨trivial, rfl, (CallsIn.inRound l (callsIn_wide.2 (writeByte_any (H + 1) (H + 1) _ (c.toNat : Int) W hI.out.1 (by omega) hz))).mono ?_⟩
      rintro e W2 ⟨rfl, h2, b2, k2⟩
      have HI2 : Hid (KeepsFrom W5.heap.size W W2 ∧ Rnd (H + 1) W W2 ∧ Hid (Lib.IsBuilderF 138 5 (H + 1) (H + 1) P' W2 ∧ Below H w W2)) := by
        refine ⟨keeps_of_kept k2 b2.size (builder_cells hI.out.1), rnd_of_kept k2 b2, ?_, hI.out.2.trans (b2.mono (by omega))⟩
        rw [HE.out]
        exact .inr h2
      clear h2 b2 k2
      gi_wp2
      exact HI2.out
  case done =>
    intro W hI hsz hK
    have HK : Hid _ := hK
    clear hK
    gi_wp2
    refine ⟨trivial, rfl, (callsIn_wide.2 (bldString_any (H + 1) (H + 1) (putL (dAt ds x) fr (-1) n) W hI.out.1 (by omega))).mono ?_⟩
    rintro e W2 ⟨rfl, _, b2, k2⟩
    have hK2 : W2.heap[W5.heap.size]? = some (.deferred (some [])) := k2 _ _ HK.out (by rw [hz5]; intro e; have := Option.some.inj e; omega) (fun _ _ e => by cases e)
    rw [hz5] at hK2
    have HB : Hid (Below H w W2) := hI.out.2.trans (b2.mono (by omega))
    have HT2 : Hid ((⟨(putL (dAt ds x) fr (-1) n).toArray⟩ : ByteArray) = fixB ds (x + 1) k) := bytes_ext _ _ HT.out
    clear b2 k2
    generalize putL (dAt ds x) fr (-1) n = L at *
    gi_wp2
    refine ⟨by simp, .inl ⟨_, _, rfl, run_takeDeferred hK2, ?_⟩⟩
    exact ⟨_, results_tmp rfl _ _ _, by rw [HT2.out]; rfl, by rw [hH]; exact below_put HB.out _ (by omega)⟩
end Go.Proofs.YtpmccbkhkaoccaaDoor

