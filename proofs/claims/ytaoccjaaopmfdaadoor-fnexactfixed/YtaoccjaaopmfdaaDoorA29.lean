import Derived.Test.YtaoccjaaopmfdaaDoorA24
import Derived.Test.YtaoccjaaopmfdaaDoorA28
import Derived.Test.YtaoccjaaopmfdaaDoorA25
import Derived.Test.YtaoccjaaopmfdaaDoorRows
import Derived.Laws.MathBits
/- The iterator over a size's digits. -/
namespace Go.Proofs.YtaoccjaaopmfdaaDoor
open Go.ChangeShapes Go.WideShapes Go.RowKit Go.Shelf

attribute [local go_sem] Oper.semAt_some

set_option maxHeartbeats 1000000 in
set_option maxRecDepth 100000 in
theorem span_any (ds : ByteArray) (x fr to : Int) (w : World) :
    Calls Tryd.prog 97 #[.agg #[.string ds, .int .i64 x], .int .i64 fr, .int .i64 to] w fun e w' =>
      e = .returned (.func (.func 100) #[] #[.pointer (some ⟨w.heap.size + 1, 0, none⟩), .pointer (some ⟨w.heap.size + 2, 0, none⟩), .pointer (some ⟨w.heap.size, 0, none⟩)])
      ∧ w' = ((w.alloc (.cells #[.string ds, .int .i64 x] 40)).alloc (.cells #[.int .i64 fr] 3)).alloc (.cells #[.int .i64 to] 3) := by
  go_enter Tryd.func97, Tryd.ntmps97
  go_wp2
  go_ret
  exact ⟨rfl, rfl⟩
/-- What a round of the span is handed. -/
def spnE (ds : ByteArray) (x fr : Int) (i : Nat) : Array Value := #[.int .i64 (fr - (i : Int)), .int .u8 ((dAt ds x (fr - (i : Int))).toNat : Int)]
/-- The boxes that the iterator has captured. -/
def SpnB (ds : ByteArray) (x fr to : Int) (D : Nat) (W : World) : Prop := W.heap[D]? = some (.cells #[.string ds, .int .i64 x] 40 (0, 0)) ∧ W.heap[D + 1]? = some (.cells #[.int .i64 fr] 3 (0, 0)) ∧ W.heap[D + 2]? = some (.cells #[.int .i64 to] 3 (0, 0))
theorem SpnB.rnd {ds : ByteArray} {x fr to : Int} {D b : Nat} {W W' : World} (h : SpnB ds x fr to D W) (hr : Rnd b W W') (hb : b < D) : SpnB ds x fr to D W' :=
  ⟨hr.2.1 _ _ _ _ h.1 (by omega) (by decide), hr.2.1 _ _ _ _ h.2.1 (by omega) (by decide), hr.2.1 _ _ _ _ h.2.2 (by omega) (by decide)⟩
theorem SpnB.below {ds : ByteArray} {x fr to : Int} {D : Nat} {W W' : World} (h : SpnB ds x fr to D W) (hr : Below W.heap.size W W') : SpnB ds x fr to D W' := by
  have k : ∀ i o, W.heap[i]? = some o → W'.heap[i]? = some o := fun i o hi => by rw [hr.block i (Array.getElem?_eq_some_iff.1 hi).1]; exact hi
  exact ⟨k _ _ h.1, k _ _ h.2.1, k _ _ h.2.2⟩
def spnLeft (fr : Int) (n : Nat) (v : Value) : Nat := (n : Int).toNat - (fr - intOf v).toNat
set_option maxHeartbeats 2000000 in
set_option maxRecDepth 100000 in
theorem spn_gives (T : TypeId) (b D : Nat) (ds : ByteArray) (x fr to : Int) (n : Nat) (hn : (n : Int) = max (fr - to + 1) 0) (hs : ds.size ≤ 100000) (hx : -90000 ≤ x) (hx' : x ≤ 90000) (hf : -90000 ≤ fr) (hf' : fr ≤ 90000) (ht : -90000 ≤ to) (ht' : to ≤ 90000) (w : World) (hB : SpnB ds x fr to D w) (hbD : b < D) :
    Gives T b 100 #[.pointer (some ⟨D + 1, 0, none⟩), .pointer (some ⟨D + 2, 0, none⟩), .pointer (some ⟨D, 0, none⟩)] (spnE ds x fr) n w := by
  intro l J W hW hJ hY h0
  have HJ : Hid _ := hJ
  have HY : Hid _ := hY
  have HS : Hid (SpnB ds x fr to D W) := by
    have k : ∀ i o, w.heap[i]? = some o → W.heap[i]? = some o := fun i o hi => by rw [hW.block i (Array.getElem?_eq_some_iff.1 hi).1]; exact hi
    exact ⟨k _ _ hB.1, k _ _ hB.2.1, k _ _ hB.2.2⟩
  have HD : Hid _ := fun p (h1 : -100000 ≤ p) (h2 : p ≤ 100000) (w : World) => digitAt_any ds x p hs (by omega) (by omega) h1 h2 w
  clear hJ hY hB hW
  have hc1 : W.cell? ⟨D + 1, 0, none⟩ = some (.int .i64 fr) := by simp [World.cell?, HS.out.2.1]
  refine callsIn_of_wp Tryd.func100 rfl trivial ?_ rfl
  simp only [Tryd.ntmps100, List.size_toArray, List.length_cons, List.length_nil, Nat.reduceAdd, Nat.reduceSub, Array.replicate_succ, Array.replicate_zero, List.push_toArray, List.append_toArray, List.nil_append, List.cons_append]
  gi_wp2
  gi_loopw [5] (fun p wr => ∃ i : Nat, p = .int .i64 (fr - (i : Int)) ∧ i ≤ n ∧ Hid (J i wr) ∧ Hid (SpnB ds x fr to D wr)) (fun p _ => spnLeft fr n p)
  case atStart => exact ⟨0, by simp, by omega, h0, HS.out⟩
  case round =>
    clear hc1 HS
    obtain ⟨i, rfl, hi, HJi, HS⟩ := hrel
    have hc2 : wr.cell? ⟨D + 2, 0, none⟩ = some (.int .i64 to) := by simp [World.cell?, HS.out.2.2]
    have hd0 : wr.cell? ⟨D, 0, none⟩ = some (.string ds) := by simp [World.cell?, HS.out.1]
    have hd1 : wr.cell? ⟨D, 1, none⟩ = some (.int .i64 x) := by simp [World.cell?, HS.out.1]
    by_cases hlt : i < n
    · have hle : to ≤ fr - (i : Int) := by omega
      gi_wp2
      refine ⟨trivial, rfl, (callsIn_wide.2 (HD.out (fr - (i : Int)) (by omega) (by omega) wr)).mono ?_⟩
      rintro e w2 ⟨rfl, rfl⟩
      obtain ⟨w2, hw2⟩ : ∃ w2, wr.alloc (.cells #[.string ds, .int .i64 x] 40) = w2 := ⟨_, rfl⟩
      have hb2 : Below wr.heap.size wr w2 := by rw [← hw2]; exact (Below.refl _ _).alloc (Nat.le_refl _) _
      have HJ2 : Hid (J i w2) := HJ.out i wr w2 HJi.out (Own1.below hb2)
      have HS2 : Hid (SpnB ds x fr to D w2) := HS.out.below hb2
      rw [hw2]
      clear hw2 hb2 hc2 hd0 hd1
      obtain ⟨fn, tmps, assign, body, hy, hR⟩ := HY.out i hlt w2 HJ2.out
      unfold spnE at hy
      gi_wp2
      refine ⟨rfl, hR.mono ?_⟩
      rintro e W3 ⟨rfl, hJ3, hr3⟩
      have HJ3 : Hid (J (i + 1) W3) := hJ3
      have HS3 : Hid (SpnB ds x fr to D W3) := HS2.out.rnd hr3 hbD
      clear hJ3 hr3 hy hR
      gi_wp2
      go_roundw
      case rel => exact ⟨i + 1, by congr 1; omega, by omega, HJ3.out, HS3.out⟩
      case measure =>
        show (n : Int).toNat - (fr - (fr - (i : Int) - 1)).toNat < (n : Int).toNat - (fr - (fr - (i : Int))).toNat
        omega
    · have hle : decide (to ≤ fr - (i : Int)) = false := decide_eq_false (by omega)
      gi_wp2
      go_end0
      obtain rfl : i = n := by omega
      exact ⟨⟨_, rfl⟩, HJi.out⟩
end Go.Proofs.YtaoccjaaopmfdaaDoor

/- The form without an exponent is written. -/
namespace Go.Proofs.YtaoccjaaopmfdaaDoor
open Go.ChangeShapes Go.WideShapes Go.RowKit Go.Shelf

attribute [local go_sem] Oper.semAt_some

/-- What the builder holds behind i rounds. -/
def putC (ds : ByteArray) (x fr mark : Int) (i : Nat) : List Value := Lib.byteCells (putL (dAt ds x) fr mark i)
theorem putC_len (ds : ByteArray) (x fr mark : Int) (i : Nat) : (putC ds x fr mark i).length ≤ 2 * i := by
  unfold putC
  rw [Lib.byteCells_length]
  induction i with
  | zero => simp [putL]
  | succ i ih =>
    rw [putL_succ, List.length_append]
    split <;> simp <;> omega
theorem putC_succ (ds : ByteArray) (x fr mark : Int) (i : Nat) : putC ds x fr mark (i + 1) = putC ds x fr mark i ++ (if fr - (i : Int) = mark then [.int .u8 46] else []) ++ [.int .u8 ((dAt ds x (fr - (i : Int))).toNat : Int)] := by
  unfold putC
  rw [putL_succ, Lib.byteCells_append, List.append_assoc]
  split <;> rfl
/-- The worlds in which the digits are gone through: the builder in block H + 1, the iterator's boxes behind it. -/
theorem write_world (H : Nat) (w : World) (hH : w.heap.size = H) (o : Obj) (ds : ByteArray) (x fr to : Int) : ∃ W, W = ((((w.alloc o).alloc (.cells #[.pointer none, .slice none 0 0] 138)).alloc (.cells #[.string ds, .int .i64 x] 40)).alloc (.cells #[.int .i64 fr] 3)).alloc (.cells #[.int .i64 to] 3)
    ∧ W.heap.size = H + 5 ∧ Below H w W ∧ SpnB ds x fr to (H + 2) W ∧ Lib.IsBuilderF 138 5 (H + 1) (H + 1) [] W ∧ W.heap[H]? = some o := by
  subst hH
  refine ⟨_, rfl, by simp, ((((((Below.refl _ w).alloc (Nat.le_refl _) _).alloc (by simp) _).alloc (by simp <;> omega) _).alloc (by simp <;> omega) _).alloc (by simp <;> omega) _), ⟨?_, ?_, ?_⟩, ?_, ?_⟩
  · rw [Below.heap_alloc _ _ _ (by simp), Below.heap_alloc _ _ _ (by simp)]
    have := World.alloc_heap_new ((w.alloc o).alloc (.cells #[.pointer none, .slice none 0 0] 138)) (.cells #[.string ds, .int .i64 x] 40)
    rwa [World.size_alloc, World.size_alloc] at this
  · rw [Below.heap_alloc _ _ _ (by simp)]
    have := World.alloc_heap_new (((w.alloc o).alloc (.cells #[.pointer none, .slice none 0 0] 138)).alloc (.cells #[.string ds, .int .i64 x] 40)) (.cells #[.int .i64 fr] 3)
    rwa [World.size_alloc, World.size_alloc, World.size_alloc] at this
  · have := World.alloc_heap_new ((((w.alloc o).alloc (.cells #[.pointer none, .slice none 0 0] 138)).alloc (.cells #[.string ds, .int .i64 x] 40)).alloc (.cells #[.int .i64 fr] 3)) (.cells #[.int .i64 to] 3)
    rwa [World.size_alloc, World.size_alloc, World.size_alloc, World.size_alloc] at this
  · have h := Lib.IsBuilderF.of (Lib.fresh_isBuilder 138 5 (w.alloc o))
    rw [World.size_alloc] at h
    exact ((h.alloc _).alloc _).alloc _
  · rw [Below.heap_alloc _ _ _ (by simp; omega), Below.heap_alloc _ _ _ (by simp; omega), Below.heap_alloc _ _ _ (by simp; omega), Below.heap_alloc _ _ _ (by simp)]
    exact World.alloc_heap_new w o
set_option maxHeartbeats 4000000 in
set_option maxRecDepth 100000 in
theorem plainWrite_any (ds : ByteArray) (x : Int) (k : Nat) (hs : ds.size ≤ 2000) (hx : -2000 ≤ x) (hx' : x ≤ 2000) (hk : k ≤ 2000) (w : World) :
    Calls Tryd.prog 96 #[.agg #[.string ds, .int .i64 x, .int .i64 (k : Int)]] w fun e w' => e = .returned (.string (fixB ds (x + 1) k)) ∧ Below w.heap.size w w' := by
  have HSP : Hid _ := fun fr to (w : World) => span_any ds x fr to w
  obtain ⟨fr, hfr⟩ : ∃ fr, max x 0 = fr := ⟨_, rfl⟩
  obtain ⟨H, hH⟩ : ∃ H, w.heap.size = H := ⟨_, rfl⟩
  obtain ⟨n, hn⟩ : ∃ n : Nat, n = fr.toNat + 1 + k := ⟨_, rfl⟩
  have HT : Hid (putL (dAt ds x) fr (-1) n = (fixB ds (x + 1) k).data.toList) := by
    have h1 := plain_text ds x k
    have e1 : fxP (x + 1) - 1 = fr := by unfold fxP; split <;> omega
    have e2 : (fxP (x + 1)).toNat + k = n := by omega
    rw [e1, e2] at h1
    exact h1
  obtain ⟨W5, hW5, hz5, hb5, hsp5, hbl5, _⟩ := write_world H w hH (.cells #[.string ds, .int .i64 x, .int .i64 (k : Int)] 44) ds x fr (-(k : Int))
  have HW5 : Hid _ := hW5
  have HG : Hid (Gives 74 (H + 1) 100 #[.pointer (some ⟨H + 2 + 1, 0, none⟩), .pointer (some ⟨H + 2 + 2, 0, none⟩), .pointer (some ⟨H + 2, 0, none⟩)] (spnE ds x fr) n W5) :=
    spn_gives 74 (H + 1) (H + 2) ds x fr (-(k : Int)) n (by omega) (by omega) (by omega) (by omega) (by omega) (by omega) (by omega) (by omega) W5 hsp5 (by omega)
  have HB5 : Hid _ := And.intro hb5 hbl5
  clear hW5 hb5 hsp5 hbl5
  refine (callsIn_wide (n := 0)).1 ?_
  refine callsIn_of_wp_marks Tryd.func96 rfl trivial ?_ rfl
  simp only [Tryd.ntmps96, List.size_toArray, List.length_cons, List.length_nil, Nat.reduceAdd, Nat.reduceSub, Array.replicate_succ, Array.replicate_zero, List.push_toArray, List.append_toArray, List.nil_append, List.cons_append]
  gi_wp2
  refine ⟨trivial, rfl, (callsIn_wide.2 (HSP.out _ _ _)).mono ?_⟩
  rintro e w2 ⟨rfl, rfl⟩
  simp only [World.size_alloc, hH, ← HW5.out]
  gi_wp2
  refine range_all (T := 74) (b := H + 1) (enc := spnE ds x fr) (n := n) rfl (enters_of Tryd.func100 (by kernel_rfl) rfl) HG.out (fun _ => rfl) (by omega)
    (fun i W => Hid (Lib.IsBuilderF 138 5 (H + 1) (H + 1) (putC ds x fr (-1) i) W ∧ Below H w W)) ?hI ?h0 ?a1 ?assign ?body ?done
  case hI =>
    rintro i A A' h hc
    exact ⟨isBuilder_chg h.out.1 hc (by decide) (by decide), below_chg h.out.2 hc (by omega) (by omega)⟩
  case h0 => exact ⟨HB5.out.2, HB5.out.1⟩
  case assign =>
    intro l i W K hK
    gi_wp2
    exact hK
  case body =>
    intro l i hi W hI hsz
    have hl := putC_len ds x fr (-1) i
    have hz : H + 1 ≤ W.heap.size := by omega
    have HE : Hid (putC ds x fr (-1) (i + 1) = putC ds x fr (-1) i ++ (if fr - (i : Int) = -1 then [.int .u8 46] else []) ++ [.int .u8 ((dAt ds x (fr - (i : Int))).toNat : Int)]) := putC_succ ds x fr (-1) i
    unfold spnE
    generalize dAt ds x (fr - (i : Int)) = c at *
    generalize putC ds x fr (-1) i = P at *
    generalize putC ds x fr (-1) (i + 1) = P' at *
    by_cases hm : fr - (i : Int) = -1
    · rw [if_pos hm] at HE
      gi_wp2
      refine ⟨trivial, rfl, (CallsIn.inRound l (callsIn_wide.2 (writeByte_any (H + 1) (H + 1) _ 46 W hI.out.1 (by omega) hz))).mono ?_⟩
      rintro e W1 ⟨rfl, h1, b1, k1⟩
      have HI1 : Hid _ := And.intro (Or.inr h1 : Lib.IsBuilderF 138 5 (H + 1) (H + 1) _ W1) (And.intro b1 k1)
      have hz1 : H + 1 ≤ W1.heap.size := Nat.le_trans hz b1.size
      clear h1 b1 k1
      gi_wp2
      refine ⟨trivial, rfl, (CallsIn.inRound l (callsIn_wide.2 (writeByte_any (H + 1) (H + 1) _ (c.toNat : Int) W1 HI1.out.1 (by simp; omega) hz1))).mono ?_⟩
      rintro e W2 ⟨rfl, h2, b2, k2⟩
      have HI2 : Hid (KeepsFrom W5.heap.size W W2 ∧ Rnd (H + 1) W W2 ∧ Hid (Lib.IsBuilderF 138 5 (H + 1) (H + 1) P' W2 ∧ Below H w W2)) := by
        have hk := HI1.out.2.2.trans k2
        have hz2 : W.heap.size ≤ W2.heap.size := Nat.le_trans HI1.out.2.1.size b2.size
        refine ⟨keeps_of_kept hk hz2 (builder_cells hI.out.1), rnd_of_kept hk (HI1.out.2.1.trans b2), ?_, hI.out.2.trans ((HI1.out.2.1.trans b2).mono (by omega))⟩
        rw [HE.out]
        exact .inr h2
      clear h2 b2 k2
      gi_wp2
      exact HI2.out
    · rw [if_neg hm, List.append_nil] at HE
      gi_wp2
      refine ⟨trivial, rfl, (CallsIn.inRound l (callsIn_wide.2 (writeByte_any (H + 1) (H + 1) _ (c.toNat : Int) W hI.out.1 (by omega) hz))).mono ?_⟩
      rintro e W2 ⟨rfl, h2, b2, k2⟩
      have HI2 : Hid (KeepsFrom W5.heap.size W W2 ∧ Rnd (H + 1) W W2 ∧ Hid (Lib.IsBuilderF 138 5 (H + 1) (H + 1) P' W2 ∧ Below H w W2)) := by
        refine ⟨keeps_of_kept k2 b2.size (builder_cells hI.out.1), rnd_of_kept k2 b2, ?_, hI.out.2.trans (b2.mono (by omega))⟩
        rw [HE.out]
        exact .inr h2
      clear h2 b2 k2
      gi_wp2
      exact HI2.out
  case done =>
    intro W hI hsz hK
    have HK : Hid _ := hK
    clear hK
    gi_wp2
    refine ⟨trivial, rfl, (callsIn_wide.2 (bldString_any (H + 1) (H + 1) (putL (dAt ds x) fr (-1) n) W hI.out.1 (by omega))).mono ?_⟩
    rintro e W2 ⟨rfl, _, b2, k2⟩
    have hK2 : W2.heap[W5.heap.size]? = some (.deferred (some [])) := k2 _ _ HK.out (by rw [hz5]; intro e; have := Option.some.inj e; omega) (fun _ _ e => by cases e)
    rw [hz5] at hK2
    have HB : Hid (Below H w W2) := hI.out.2.trans (b2.mono (by omega))
    have HT2 : Hid ((⟨(putL (dAt ds x) fr (-1) n).toArray⟩ : ByteArray) = fixB ds (x + 1) k) := bytes_ext _ _ HT.out
    clear b2 k2
    generalize putL (dAt ds x) fr (-1) n = L at *
    gi_wp2
    refine ⟨by simp, .inl ⟨_, _, rfl, run_takeDeferred hK2, ?_⟩⟩
    exact ⟨_, results_tmp rfl _ _ _, by rw [HT2.out]; rfl, by rw [hH]; exact below_put HB.out _ (by omega)⟩
end Go.Proofs.YtaoccjaaopmfdaaDoor

/- Numbers in words of 32 bits: plain. -/
namespace Go.Proofs.YtaoccjaaopmfdaaDoor

/-- The base, kept shut. -/
def be : Nat := 4294967296
theorem be_eq : be = 4294967296 := rfl
theorem be_pos : 0 < be := by unfold be; omega
/-- The i-th word of a number. -/
def dg (N i : Nat) : Nat := N / be ^ i % be
theorem dg_lt (N i : Nat) : dg N i < 4294967296 := Nat.mod_lt _ be_pos
theorem dg_big (N i : Nat) (h : N < be ^ i) : dg N i = 0 := by unfold dg; rw [Nat.div_eq_of_lt h, Nat.zero_mod]
theorem bpow_pos (i : Nat) : 0 < be ^ i := Nat.pow_pos be_pos
theorem bpow_le {i j : Nat} (h : i ≤ j) : be ^ i ≤ be ^ j := Nat.pow_le_pow_right be_pos h
theorem dg_above (N i c : Nat) (h : N < be ^ c) (hi : c ≤ i) : dg N i = 0 := dg_big N i (Nat.lt_of_lt_of_le h (bpow_le hi))
theorem be_two (i : Nat) : be ^ i = 2 ^ (32 * i) := by rw [Nat.pow_mul]; rfl
/-- How many words. -/
def cntOk (c N : Nat) : Prop := N < be ^ c ∧ (0 < c → be ^ (c - 1) ≤ N)
theorem cnt_zero : cntOk 0 0 := ⟨by simp, fun h => by omega⟩
theorem cnt_le {c N n : Nat} (h : cntOk c N) (hN : N < be ^ n) : c ≤ n := by
  rcases Nat.lt_or_ge n c with hlt | hge
  · have a := h.2 (by omega)
    have b := bpow_le (show n ≤ c - 1 by omega)
    omega
  · exact hge
theorem cnt_pos {c N : Nat} (h : cntOk c N) : 0 < c ↔ 0 < N := by
  constructor
  · intro hc; exact Nat.lt_of_lt_of_le (bpow_pos _) (h.2 hc)
  · intro hN
    rcases Nat.eq_zero_or_pos c with rfl | hc
    · have := h.1; rw [Nat.pow_zero] at this; omega
    · exact hc
theorem cnt_top {c N : Nat} (h : cntOk c N) (hc : 0 < c) : 0 < dg N (c - 1) := by
  obtain ⟨h1, h2⟩ := h
  have h3 := h2 hc
  unfold dg
  have h4 : N / be ^ (c - 1) < be := by
    rw [Nat.div_lt_iff_lt_mul (bpow_pos _), Nat.mul_comm, ← Nat.pow_succ, show (c - 1).succ = c by omega]; exact h1
  rw [Nat.mod_eq_of_lt h4]
  exact Nat.div_pos h3 (bpow_pos _)
/-- The words of a number below be^n make it out. -/
theorem dg_split (N i : Nat) : N % be ^ (i + 1) = N % be ^ i + be ^ i * dg N i := by
  unfold dg; rw [Nat.pow_succ, Nat.mod_mul]
theorem dg_ext (N M n : Nat) (hN : N < be ^ n) (hM : M < be ^ n) (h : ∀ i, i < n → dg N i = dg M i) : N = M := by
  have : ∀ k, k ≤ n → N % be ^ k = M % be ^ k := by
    intro k
    induction k with
    | zero => intro _; simp [Nat.mod_one]
    | succ k ih => intro hk; rw [dg_split, dg_split, ih (by omega), h k (by omega)]
  have h1 := this n (Nat.le_refl _)
  rwa [Nat.mod_eq_of_lt hN, Nat.mod_eq_of_lt hM] at h1
/-- Multiplication by a small factor, word by word. -/
def car (N F a i : Nat) : Nat := (N % be ^ i * F + a) / be ^ i
theorem car_zero (N F a : Nat) : car N F a 0 = a := by simp [car, Nat.mod_one]
theorem car_sum (N F a i : Nat) : car N F a i + dg N i * F = (N % be ^ (i + 1) * F + a) / be ^ i := by
  unfold car
  rw [dg_split, Nat.add_mul, show be ^ i * dg N i * F = be ^ i * (dg N i * F) by rw [Nat.mul_assoc], show N % be ^ i * F + be ^ i * (dg N i * F) + a = be ^ i * (dg N i * F) + (N % be ^ i * F + a) by omega, Nat.mul_add_div (bpow_pos i), Nat.add_comm]
theorem car_word (N F a i : Nat) : (car N F a i + dg N i * F) % be = dg (N * F + a) i := by
  rw [car_sum]
  unfold dg
  have e : N * F + a = be ^ i * (be * (N / be ^ (i + 1) * F)) + (N % be ^ (i + 1) * F + a) := by
    have h := Nat.div_add_mod N (be ^ (i + 1))
    rw [← Nat.mul_assoc, ← Nat.pow_succ, ← Nat.mul_assoc, show be ^ i.succ = be ^ (i + 1) from rfl]
    generalize N / be ^ (i + 1) = q at *
    generalize N % be ^ (i + 1) = r at *
    rw [← h, Nat.add_mul]; omega
  rw [e, Nat.mul_add_div (bpow_pos i), Nat.mul_add_mod]
theorem car_next (N F a i : Nat) : (car N F a i + dg N i * F) / be = car N F a (i + 1) := by
  rw [car_sum, Nat.div_div_eq_div_mul, ← Nat.pow_succ]; rfl
theorem car_le (N F a i : Nat) : car N F a i ≤ F + a := by
  unfold car
  have h := Nat.mod_lt N (bpow_pos i)
  have h1 : N % be ^ i * F ≤ be ^ i * F := Nat.mul_le_mul_right _ (Nat.le_of_lt h)
  have h2 : a ≤ be ^ i * a := Nat.le_mul_of_pos_left a (bpow_pos i)
  have h3 : N % be ^ i * F + a ≤ be ^ i * (F + a) := by rw [Nat.mul_add]; omega
  rw [Nat.div_le_iff_le_mul_add_pred (bpow_pos i)]
  omega
theorem car_end (N F a c : Nat) (h : N < be ^ c) : car N F a c = (N * F + a) / be ^ c := by unfold car; rw [Nat.mod_eq_of_lt h]
/-- A shift by whole words. -/
theorem dg_words (N s i : Nat) : dg (N * be ^ s) i = if i < s then 0 else dg N (i - s) := by
  unfold dg
  by_cases h : i < s
  · rw [if_pos h]
    obtain ⟨k, rfl⟩ : ∃ k, s = i + 1 + k := ⟨s - i - 1, by omega⟩
    rw [Nat.pow_add, Nat.pow_succ, show N * (be ^ i * be * be ^ k) = N * be ^ k * be * be ^ i by rw [Nat.mul_assoc (be ^ i), Nat.mul_comm (be ^ i), Nat.mul_comm be, ← Nat.mul_assoc, ← Nat.mul_assoc], Nat.mul_div_cancel _ (bpow_pos i), Nat.mul_mod_left]
  · rw [if_neg h]
    obtain ⟨k, rfl⟩ : ∃ k, i = s + k := ⟨i - s, by omega⟩
    rw [Nat.pow_add, ← Nat.div_div_eq_div_mul, Nat.mul_div_cancel _ (bpow_pos s), Nat.add_sub_cancel_left]
/-- A shift by bits within a word. -/
theorem dg_bits (N m : Nat) (hm : m < 32) (i : Nat) : dg (N * 2 ^ m) i = dg N i * 2 ^ m % be + (if i = 0 then 0 else dg N (i - 1) / 2 ^ (32 - m)) := by
  have hb : be = 2 ^ (32 - m) * 2 ^ m := by rw [← Nat.pow_add, show 32 - m + m = 32 by omega]; rfl
  have hp := Nat.two_pow_pos m
  have hp' := Nat.two_pow_pos (32 - m)
  -- the number below word i, at word i, above
  have key : ∀ X L : Nat, L < be ^ i → dg ((be ^ i * X + L) * 2 ^ m) i = (X * 2 ^ m + L * 2 ^ m / be ^ i) % be := by
    intro X L hL
    unfold dg
    rw [Nat.add_mul, Nat.mul_assoc, Nat.mul_add_div (bpow_pos i)]
  have hN := Nat.div_add_mod N (be ^ i)
  have hL := Nat.mod_lt N (bpow_pos i)
  have h1 := key (N / be ^ i) (N % be ^ i) hL
  rw [hN] at h1
  rw [h1]
  -- what comes up from below
  have hup : N % be ^ i * 2 ^ m / be ^ i = (if i = 0 then 0 else dg N (i - 1) / 2 ^ (32 - m)) := by
    by_cases h0 : i = 0
    · subst h0; simp [Nat.mod_one]
    · rw [if_neg h0]
      obtain ⟨k, rfl⟩ : ∃ k, i = k + 1 := ⟨i - 1, by omega⟩
      rw [Nat.add_sub_cancel, dg_split, Nat.pow_succ]
      have hr := Nat.mod_lt N (bpow_pos k)
      generalize N % be ^ k = r at *
      generalize dg N k = d at *
      rw [← Nat.div_div_eq_div_mul]
      have e2 : (r + be ^ k * d) * 2 ^ m / be ^ k = d * 2 ^ m + r * 2 ^ m / be ^ k := by
        rw [Nat.add_mul, Nat.mul_assoc, Nat.add_comm, Nat.mul_add_div (bpow_pos k)]
      rw [e2]
      have hr2 : r * 2 ^ m / be ^ k < 2 ^ m := by rw [Nat.div_lt_iff_lt_mul (bpow_pos k), Nat.mul_comm]; exact Nat.mul_lt_mul_of_pos_left hr hp
      generalize r * 2 ^ m / be ^ k = y at *
      rw [hb, Nat.mul_comm (2 ^ (32 - m)), ← Nat.div_div_eq_div_mul, Nat.mul_comm d, Nat.mul_add_div hp, Nat.div_eq_of_lt hr2, Nat.add_zero]
  rw [hup]
  have hlow : (if i = 0 then 0 else dg N (i - 1) / 2 ^ (32 - m)) < 2 ^ m := by
    split
    · exact hp
    · rw [Nat.div_lt_iff_lt_mul hp', Nat.mul_comm, ← hb]; exact dg_lt _ _
  generalize (if i = 0 then 0 else dg N (i - 1) / 2 ^ (32 - m)) = y at *
  unfold dg
  generalize N / be ^ i = X at *
  -- the sum does not carry
  have e3 : X % be * 2 ^ m % be = X % 2 ^ (32 - m) * 2 ^ m := by
    conv => lhs; rw [hb]
    rw [Nat.mul_mod_mul_right, Nat.mod_mul_right_mod]
  have e4 : (X * 2 ^ m + y) % be = X % 2 ^ (32 - m) * 2 ^ m + y := by
    have hx := Nat.div_add_mod X (2 ^ (32 - m))
    have hq := Nat.mod_lt X hp'
    generalize X / 2 ^ (32 - m) = q at *
    generalize X % 2 ^ (32 - m) = r at *
    rw [← hx, Nat.add_mul, show 2 ^ (32 - m) * q * 2 ^ m = be * q by rw [hb, Nat.mul_assoc, Nat.mul_comm q, ← Nat.mul_assoc], Nat.add_assoc, Nat.mul_add_mod, Nat.mod_eq_of_lt]
    have : r * 2 ^ m + 2 ^ m ≤ 2 ^ (32 - m) * 2 ^ m := by rw [← Nat.succ_mul]; exact Nat.mul_le_mul_right _ hq
    rw [hb]; omega
  rw [e3, e4]
/-- Both. -/
theorem dg_shift (N by' i : Nat) : dg (N * 2 ^ by') i = (if i < by' / 32 then 0 else dg N (i - by' / 32)) * 2 ^ (by' % 32) % be + (if i < by' / 32 + 1 then 0 else dg N (i - by' / 32 - 1)) / 2 ^ (32 - by' % 32) := by
  have e : N * 2 ^ by' = N * be ^ (by' / 32) * 2 ^ (by' % 32) := by
    rw [be_two, Nat.mul_assoc, ← Nat.pow_add, Nat.div_add_mod]
  rw [e, dg_bits _ _ (Nat.mod_lt _ (by omega)), dg_words, dg_words]
  congr 1
  by_cases h : i < by' / 32 + 1
  · rw [if_pos h, Nat.zero_div]
    by_cases h0 : i = 0
    · rw [if_pos h0]
    · rw [if_neg h0, if_pos (by omega), Nat.zero_div]
  · rw [if_neg h, if_neg (by omega), if_neg (by omega)]
    congr 2
    omega
/-- Order, from above. -/
theorem dg_cmp (N M i : Nat) (h : N / be ^ (i + 1) = M / be ^ (i + 1)) : N / be ^ i = be * (N / be ^ (i + 1)) + dg N i ∧ M / be ^ i = be * (N / be ^ (i + 1)) + dg M i := by
  have a : ∀ X : Nat, X / be ^ i = be * (X / be ^ (i + 1)) + dg X i := by
    intro X
    unfold dg
    rw [Nat.pow_succ, ← Nat.div_div_eq_div_mul, Nat.div_add_mod]
  exact ⟨a N, by rw [h]; exact a M⟩
theorem div_lt_of (N M k : Nat) (h : N / be ^ k < M / be ^ k) : N < M := by
  rcases Nat.lt_or_ge N M with h' | h'
  · exact h'
  · have := Nat.div_le_div_right (c := be ^ k) h'; omega
/-- Subtraction, word by word: in whatever base. -/
theorem sub_low (p d e r s : Nat) (hr : r < p) (hs : s < p) : r + p * d < s + p * e ↔ d < e + (if r < s then 1 else 0) := by
  have hde : d < e ∨ d = e ∨ e < d := by omega
  rcases hde with hlt | heq | hgt
  · have : p * (d + 1) ≤ p * e := Nat.mul_le_mul_left _ hlt
    rw [Nat.mul_succ] at this
    split <;> constructor <;> intro _ <;> omega
  · subst heq; split <;> constructor <;> intro _ <;> omega
  · have : p * (e + 1) ≤ p * d := Nat.mul_le_mul_left _ hgt
    rw [Nat.mul_succ] at this
    split <;> constructor <;> intro _ <;> omega
theorem sub_gen (p u v r s r' : Nat) (hr : r < p) (hs : s < p) (hr' : r' < p) (h4 : p * u + (r' + s) = p * v + r) : u + (if r < s then 1 else 0) = v := by
  by_cases c : r < s
  · rw [if_pos c]
    rcases Nat.lt_trichotomy (u + 1) v with hlt | heq | hgt
    · have : p * (u + 1 + 1) ≤ p * v := Nat.mul_le_mul_left _ hlt
      rw [Nat.mul_succ, Nat.mul_succ] at this; omega
    · exact heq
    · have : p * v ≤ p * u := Nat.mul_le_mul_left _ (by omega)
      omega
  · rw [if_neg c]
    rcases Nat.lt_trichotomy u v with hlt | heq | hgt
    · have : p * (u + 1) ≤ p * v := Nat.mul_le_mul_left _ hlt
      rw [Nat.mul_succ] at this; omega
    · omega
    · have : p * (v + 1) ≤ p * u := Nat.mul_le_mul_left _ hgt
      rw [Nat.mul_succ] at this; omega
theorem sub_word (b X Y d e c D : Nat) (hd : d < b) (he : e < b) (hc : c ≤ 1) (hle : Y ≤ X) (h : D + (b * Y + e) + c = b * X + d) :
    D % b = if d < e + c then d + b - e - c else d - e - c := by
  obtain ⟨Z, rfl⟩ : ∃ Z, X = Y + Z := ⟨X - Y, by omega⟩
  rw [Nat.mul_add] at h
  by_cases hlt : d < e + c
  · rw [if_pos hlt]
    rcases Nat.eq_zero_or_pos Z with rfl | hZ
    · rw [Nat.mul_zero] at h; omega
    · have e5 : D = b * (Z - 1) + (d + b - e - c) := by
        have : b * Z = b * (Z - 1) + b := by rw [← Nat.mul_succ]; congr 1; omega
        omega
      rw [e5, Nat.mul_add_mod, Nat.mod_eq_of_lt (by omega)]
  · rw [if_neg hlt]
    have e5 : D = b * Z + (d - e - c) := by omega
    rw [e5, Nat.mul_add_mod, Nat.mod_eq_of_lt (by omega)]
def bor (N M i : Nat) : Nat := if N % be ^ i < M % be ^ i then 1 else 0
theorem bor_zero (N M : Nat) : bor N M 0 = 0 := by unfold bor; simp [Nat.mod_one]
theorem bor_le (N M i : Nat) : bor N M i ≤ 1 := by unfold bor; split <;> omega
theorem bor_step (N M i : Nat) : bor N M (i + 1) = (if dg N i < dg M i + bor N M i then 1 else 0) := by
  have h := sub_low (be ^ i) (dg N i) (dg M i) (N % be ^ i) (M % be ^ i) (Nat.mod_lt N (bpow_pos i)) (Nat.mod_lt M (bpow_pos i))
  rw [← dg_split, ← dg_split] at h
  change _ ↔ dg N i < dg M i + bor N M i at h
  show (if N % be ^ (i + 1) < M % be ^ (i + 1) then 1 else 0) = _
  by_cases c : dg N i < dg M i + bor N M i
  · rw [if_pos c, if_pos (h.2 c)]
  · rw [if_neg c, if_neg (fun x => c (h.1 x))]
theorem dg_parts (X i : Nat) : X = be ^ i * (be * (X / be ^ (i + 1)) + dg X i) + X % be ^ i := by
  have a : X / be ^ i = be * (X / be ^ (i + 1)) + dg X i := by
    unfold dg
    rw [Nat.pow_succ, ← Nat.div_div_eq_div_mul, Nat.div_add_mod]
  rw [← a, Nat.div_add_mod]
theorem bor_word (N M i : Nat) (h : M ≤ N) : dg (N - M) i = (if dg N i < dg M i + bor N M i then dg N i + be - dg M i - bor N M i else dg N i - dg M i - bor N M i) := by
  refine sub_word be (N / be ^ (i + 1)) (M / be ^ (i + 1)) (dg N i) (dg M i) (bor N M i) ((N - M) / be ^ i) (Nat.mod_lt _ be_pos) (Nat.mod_lt _ be_pos) (bor_le N M i) (Nat.div_le_div_right h) ?_
  refine sub_gen (be ^ i) _ _ (N % be ^ i) (M % be ^ i) ((N - M) % be ^ i) (Nat.mod_lt _ (bpow_pos i)) (Nat.mod_lt _ (bpow_pos i)) (Nat.mod_lt _ (bpow_pos i)) ?_
  have eN := dg_parts N i
  have eM := dg_parts M i
  have eD := Nat.div_add_mod (N - M) (be ^ i)
  rw [Nat.mul_add]
  generalize be ^ i * ((N - M) / be ^ i) = a at *
  generalize (N - M) % be ^ i = b at *
  generalize be ^ i * (be * (N / be ^ (i + 1)) + dg N i) = c at *
  generalize be ^ i * (be * (M / be ^ (i + 1)) + dg M i) = d at *
  generalize N % be ^ i = r at *
  generalize M % be ^ i = s at *
  omega
/-- The length in bits. -/
theorem len_words {c N : Nat} (h : cntOk c N) (hc : 0 < c) : (c - 1) * 32 + bitLen (dg N (c - 1)) = bitLen N := by
  have hp := (cnt_pos h).1 hc
  have ht := cnt_top h hc
  have h1 : N / 2 ^ (32 * (c - 1)) = dg N (c - 1) := by
    unfold dg
    rw [← be_two, Nat.mod_eq_of_lt]
    rw [Nat.div_lt_iff_lt_mul (bpow_pos _), Nat.mul_comm, ← Nat.pow_succ, show (c - 1).succ = c by omega]; exact h.1
  have := bitLen_shift N (32 * (c - 1)) (by rw [h1]; omega)
  rw [h1] at this
  omega
end Go.Proofs.YtaoccjaaopmfdaaDoor

