import Derived.Test.YtpmccbkhkaoccaaDoorE02
import Derived.Test.YtpmccbkhkaoccaaDoorA29
import Derived.Test.YtpmccbkhkaoccaaDoorA10
import Derived.Test.YtpmccbkhkaoccaaDoorE01
import Derived.Test.YtpmccbkhkaoccaaDoorA27
import Derived.Test.YtpmccbkhkaoccaaDoorA28
import Derived.Test.YtpmccbkhkaoccaaDoorA20
import Derived.Deep.RegionWith
/- round of the program. -/
namespace Go.Proofs.YtpmccbkhkaoccaaDoor
open Go.ChangeShapes Go.WideShapes Go.RowKit

set_option maxHeartbeats 4000000 in
set_option maxRecDepth 100000 in
theorem round_any (ds : ByteArray) (x n : Int) (hs : ds.size ≤ 2000) (hx : -10000 ≤ x) (hx' : x ≤ 10000) (hg : good 10 ds.data.toList) (w : World) :
    Calls Tryd.prog 27 #[.agg #[.string ds, .int .i64 x], .int .i64 n] w fun e w' => ∃ t y, RndD ds x n t y ∧ e = .returned (.agg #[.string t, .int .i64 y]) ∧ Below w.heap.size w w' := by
  have hs' : (ds.size : Int) ≤ 2000 := by omega
  by_cases h1 : n < 0
  · go_enter Tryd.func27, Tryd.ntmps27
    go_wp2
    refine bodyPost_ret (v := .agg #[.string ⟨#[]⟩, .int .i64 0]) (by simp [results, Tryd.results27, go_sem]) rfl ⟨⟨#[]⟩, 0, .inl ⟨h1, rfl, rfl⟩, rfl, (by repeat (first | with_reducible exact Below.refl _ _ | with_reducible refine Below.alloc ?_ (by simp <;> omega) _ | with_reducible refine Below.setCell ?_ (by simp <;> omega) _))⟩
  · by_cases h2 : (ds.size : Int) ≤ n
    · have h1' : decide (n < 0) = false := decide_eq_false h1
      go_enter Tryd.func27, Tryd.ntmps27
      go_wp2
      refine bodyPost_ret (v := .agg #[.string ds, .int .i64 x]) (by simp [results, Tryd.results27, go_sem]) rfl ⟨ds, x, .inr (.inl ⟨h2, by omega, rfl, rfl⟩), rfl, (by repeat (first | with_reducible exact Below.refl _ _ | with_reducible refine Below.alloc ?_ (by simp <;> omega) _ | with_reducible refine Below.setCell ?_ (by simp <;> omega) _))⟩
    · obtain ⟨k, rfl⟩ := Int.eq_ofNat_of_zero_le (show 0 ≤ n by omega)
      have HA : Hid (∀ W, Calls Tryd.prog 46 #[.agg #[.string ds, .int .i64 x], .int .i64 (k : Int)] W fun e w' => ∃ t y u z, Hid (RndD ds x (k : Int) t y) ∧ Hid (Below W.heap.size W w') ∧ e = .returned (.tuple #[.agg #[.string t, .int .i64 y], .agg #[.string u, .int .i64 z]])) := fun W => by
        refine (around_any ds x k hs hx hx' (by omega) hg W).mono ?_
        rintro e W' ⟨tl, yl, th, yh, hl, hh, hb, ⟨hr, rfl⟩ | ⟨hr, rfl⟩⟩
        · exact ⟨th, yh, tl, yl, .inr (.inr ⟨by omega, by omega, .inl ⟨hr, by rw [Int.toNat_natCast]; exact hh⟩⟩), hb, rfl⟩
        · exact ⟨tl, yl, th, yh, .inr (.inr ⟨by omega, by omega, .inr ⟨hr, by rw [Int.toNat_natCast]; exact hl⟩⟩), hb, rfl⟩
      have h2' : decide ((ds.size : Int) ≤ (k : Int)) = false := decide_eq_false h2
      obtain ⟨W0, hW0⟩ : ∃ W0, (w.alloc (.cells #[.string ds, .int .i64 x] 40)).alloc (.cells #[.string ⟨#[]⟩, .int .i64 0] 40) = W0 := ⟨_, rfl⟩
      have HW0 : Hid _ := hW0
      have HN0 : Hid (NewD W0 (w.heap.size + 1) ∧ Below w.heap.size w W0) := by
        rw [← hW0]
        refine ⟨?_, ((Below.refl _ _).alloc (Nat.le_refl _) _).alloc (by simp) _⟩
        have := NewD.new (w.alloc (.cells #[.string ds, .int .i64 x] 40))
        rwa [World.size_alloc] at this
      clear hg hW0
      go_enter Tryd.func27, Tryd.ntmps27
      go_wp2_with fail
      rw [HW0.out]
      refine (HA.out _).mono ?_
      rintro e W1 ⟨t, y, u, z, HR, HB, rfl⟩
      have HB1 : Hid (Below w.heap.size w W1) := HN0.out.2.trans (HB.out.mono HN0.out.2.size)
      have hN2 : NewD ((W1.alloc (.cells #[.string t, .int .i64 y] 40)).alloc (.cells #[.string u, .int .i64 z] 40)) (w.heap.size + 1) :=
        ((HN0.out.1.next HB.out).next ((Below.refl _ _).alloc (Nat.le_refl _) _)).next ((Below.refl _ _).alloc (Nat.le_refl _) _)
      have e10 := hN2.c0
      have e11 := hN2.c1
      have f10 := hN2.f0
      have f11 := hN2.f1
      have hz1 := HB1.out.size
      clear HA hN2
      go_wp2
      refine bodyPost_ret (v := .agg #[.string t, .int .i64 y]) (by simp [results, Tryd.results27, go_sem, e10, e11]) rfl ⟨t, y, HR.out, rfl, ?_⟩
      exact (((HB1.out.alloc (by omega) _).alloc (by simp; omega) _).setCell (p := ⟨w.heap.size + 1, 0, none⟩) (by simp) _).setCell (p := ⟨w.heap.size + 1, 1, none⟩) (by simp) _
end Go.Proofs.YtpmccbkhkaoccaaDoor

/- The form with an exponent is written. -/
namespace Go.Proofs.YtpmccbkhkaoccaaDoor
open Go.ChangeShapes Go.WideShapes Go.RowKit Go.Shelf

attribute [local go_sem] Oper.semAt_some

/-- The worlds in which the digits are gone through: one box more. -/
theorem power_world (H : Nat) (w : World) (hH : w.heap.size = H) (o : Obj) (ds : ByteArray) (x fr lo : Int) : ∃ W, W = (((((w.alloc o).alloc (.cells #[.pointer none, .slice none 0 0] 138)).alloc (.cells #[.int .i64 x] 3)).alloc (.cells #[.string ds, .int .i64 x] 40)).alloc (.cells #[.int .i64 fr] 3)).alloc (.cells #[.int .i64 lo] 3)
    ∧ W.heap.size = H + 6 ∧ Below H w W ∧ SpnB ds x fr lo (H + 3) W ∧ Lib.IsBuilderF 138 5 (H + 1) (H + 1) [] W ∧ W.heap[H + 2]? = some (.cells #[.int .i64 x] 3 (0, 0)) := by
  subst hH
  refine ⟨_, rfl, by simp, (((((((Below.refl _ w).alloc (Nat.le_refl _) _).alloc (by simp) _).alloc (by simp <;> omega) _).alloc (by simp <;> omega) _).alloc (by simp <;> omega) _).alloc (by simp <;> omega) _), ⟨?_, ?_, ?_⟩, ?_, ?_⟩
  · rw [Below.heap_alloc _ _ _ (by simp), Below.heap_alloc _ _ _ (by simp)]
    have := World.alloc_heap_new (((w.alloc o).alloc (.cells #[.pointer none, .slice none 0 0] 138)).alloc (.cells #[.int .i64 x] 3)) (.cells #[.string ds, .int .i64 x] 40)
    rwa [World.size_alloc, World.size_alloc, World.size_alloc] at this
  · rw [Below.heap_alloc _ _ _ (by simp)]
    have := World.alloc_heap_new ((((w.alloc o).alloc (.cells #[.pointer none, .slice none 0 0] 138)).alloc (.cells #[.int .i64 x] 3)).alloc (.cells #[.string ds, .int .i64 x] 40)) (.cells #[.int .i64 fr] 3)
    rwa [World.size_alloc, World.size_alloc, World.size_alloc, World.size_alloc] at this
  · have := World.alloc_heap_new (((((w.alloc o).alloc (.cells #[.pointer none, .slice none 0 0] 138)).alloc (.cells #[.int .i64 x] 3)).alloc (.cells #[.string ds, .int .i64 x] 40)).alloc (.cells #[.int .i64 fr] 3)) (.cells #[.int .i64 lo] 3)
    rwa [World.size_alloc, World.size_alloc, World.size_alloc, World.size_alloc, World.size_alloc] at this
  · have h := Lib.IsBuilderF.of (Lib.fresh_isBuilder 138 5 (w.alloc o))
    rw [World.size_alloc] at h
    exact (((h.alloc _).alloc _).alloc _).alloc _
  · rw [Below.heap_alloc _ _ _ (by simp), Below.heap_alloc _ _ _ (by simp), Below.heap_alloc _ _ _ (by simp)]
    have := World.alloc_heap_new ((w.alloc o).alloc (.cells #[.pointer none, .slice none 0 0] 138)) (.cells #[.int .i64 x] 3)
    rwa [World.size_alloc, World.size_alloc] at this
theorem cell_kept2 {b k : Nat} {W W' : World} {v : Value} {t : TypeId} (h : Lib.OthersKept 5 (some b) W W') (hk : W.heap[k]? = some (.cells #[v] t (0, 0))) (hb : k ≠ b) (ht : t ≠ 5) : W'.cell? ⟨k, 0, none⟩ = some v := by
  have := h k _ hk (fun e => hb (Option.some.inj e)) (fun c fz e => by cases e; exact ht rfl)
  simp [World.cell?, this]
set_option maxHeartbeats 4000000 in
set_option maxRecDepth 100000 in
theorem powerWrite_any (ds : ByteArray) (x : Int) (n : Nat) (hs : ds.size ≤ 2000) (hx : -2000 ≤ x) (hx' : x ≤ 2000) (hn0 : 1 ≤ n) (hn : n ≤ 2000) (w : World) (ht : Tab w) (hw : 1 < w.heap.size) :
    Calls Tryd.prog 103 #[.agg #[.string ds, .int .i64 x, .int .i64 (n : Int)]] w fun e w' => e = .returned (.string (sciB (padB ds n) (x + 1))) ∧ Below w.heap.size w w' := by
  have HSP : Hid _ := fun fr lo (w : World) => span_any ds x fr lo w
  have HTB : Hid (∀ W, Below w.heap.size w W → Calls Tryd.prog 104 #[.int .i64 x, .int .i64 10] W fun e w' => e = .returned (.string (intText x 10)) ∧ Below W.heap.size W w') := fun W hb =>
    implInt_any x 10 W (fun i hi => by rw [hb.cell (p := ⟨1, i, none⟩) hw]; exact ht i hi) (Nat.lt_of_lt_of_le hw hb.size)
  obtain ⟨H, hH⟩ : ∃ H, w.heap.size = H := ⟨_, rfl⟩
  have HT : Hid ((⟨(putL (dAt ds x) x (x - 1) n).toArray⟩ : ByteArray) ++ ⟨#[101]⟩ ++ intText x 10 = sciB (padB ds n) (x + 1)) := power_text ds x n hn0
  obtain ⟨W5, hW5, hz5, hb5, hsp5, hbl5, hx5⟩ := power_world H w hH (.cells #[.string ds, .int .i64 x, .int .i64 (n : Int)] 50) ds x x (x + 1 - (n : Int))
  have HW5 : Hid _ := hW5
  have HG : Hid (Gives 74 (H + 1) 100 #[.pointer (some ⟨H + 3 + 1, 0, none⟩), .pointer (some ⟨H + 3 + 2, 0, none⟩), .pointer (some ⟨H + 3, 0, none⟩)] (spnE ds x x) n W5) :=
    spn_gives 74 (H + 1) (H + 3) ds x x (x + 1 - (n : Int)) n (by omega) (by omega) (by omega) (by omega) (by omega) (by omega) (by omega) (by omega) W5 hsp5 (by omega)
  have HB5 : Hid _ := And.intro hb5 (And.intro hbl5 hx5)
  clear hW5 hb5 hsp5 hbl5 hx5 ht
  refine (callsIn_wide (n := 0)).1 ?_
  refine callsIn_of_wp_marks Tryd.func103 rfl trivial ?_ rfl
  simp only [Tryd.ntmps103, List.size_toArray, List.length_cons, List.length_nil, Nat.reduceAdd, Nat.reduceSub, Array.replicate_succ, Array.replicate_zero, List.push_toArray, List.append_toArray, List.nil_append, List.cons_append]
  gi_wp2
  refine ⟨trivial, rfl, (callsIn_wide.2 (HSP.out _ _ _)).mono ?_⟩
  rintro e w2 ⟨rfl, rfl⟩
  simp only [World.size_alloc, hH, ← HW5.out]
  gi_wp2
  refine range_all (T := 74) (b := H + 1) (enc := spnE ds x x) (n := n) rfl (enters_of Tryd.func100 (by kernel_rfl) rfl) HG.out (fun _ => rfl) (by omega)
    (fun i W => Hid (Lib.IsBuilderF 138 5 (H + 1) (H + 1) (putC ds x x (x - 1) i) W ∧ Below H w W ∧ W.heap[H + 2]? = some (.cells #[.int .i64 x] 3 (0, 0)))) ?hI ?h0 ?a1 ?assign ?body ?done
  case hI =>
    rintro i A A' h hc
    exact ⟨isBuilder_chg h.out.1 hc (by decide) (by decide), below_chg h.out.2.1 hc (by omega) (by omega), hc.2.2.2.2 _ _ h.out.2.2 (.inl (by omega))⟩
  case h0 => exact ⟨HB5.out.2.1, HB5.out.1, HB5.out.2.2⟩
  case assign =>
    intro l i W K hK
    gi_wp2
    exact hK
  case body =>
    intro l i hi W hI hsz
    have hl := putC_len ds x x (x - 1) i
    have hz : H + 1 ≤ W.heap.size := by omega
    have HE : Hid (putC ds x x (x - 1) (i + 1) = putC ds x x (x - 1) i ++ (if x - (i : Int) = x - 1 then [.int .u8 46] else []) ++ [.int .u8 ((dAt ds x (x - (i : Int))).toNat : Int)]) := putC_succ ds x x (x - 1) i
    have hxc : W.cell? ⟨H + 2, 0, none⟩ = some (.int .i64 x) := by simp [World.cell?, hI.out.2.2]
    unfold spnE
    generalize dAt ds x (x - (i : Int)) = c at *
    generalize putC ds x x (x - 1) i = P at *
    generalize putC ds x x (x - 1) (i + 1) = P' at *
    by_cases hm : x - (i : Int) = x - 1
    · rw [if_pos hm] at HE
      gi_wp2
      refine ⟨trivial, rfl, (CallsIn.inRound l (callsIn_wide.2 (writeByte_any (H + 1) (H + 1) _ 46 W hI.out.1 (by omega) hz))).mono ?_⟩
      rintro e W1 ⟨rfl, h1, b1, k1⟩
      have HI1 : Hid _ := And.intro (Or.inr h1 : Lib.IsBuilderF 138 5 (H + 1) (H + 1) _ W1) (And.intro b1 k1)
      have hz1 : H + 1 ≤ W1.heap.size := Nat.le_trans hz b1.size
      clear h1 b1 k1 hxc
      gi_wp2
      refine ⟨trivial, rfl, (CallsIn.inRound l (callsIn_wide.2 (writeByte_any (H + 1) (H + 1) _ (c.toNat : Int) W1 HI1.out.1 (by simp; omega) hz1))).mono ?_⟩
      rintro e W2 ⟨rfl, h2, b2, k2⟩
      have HI2 : Hid (KeepsFrom W5.heap.size W W2 ∧ Rnd (H + 1) W W2 ∧ Hid (Lib.IsBuilderF 138 5 (H + 1) (H + 1) P' W2 ∧ Below H w W2 ∧ W2.heap[H + 2]? = some (.cells #[.int .i64 x] 3 (0, 0)))) := by
        have hk := HI1.out.2.2.trans k2
        have hz2 : W.heap.size ≤ W2.heap.size := Nat.le_trans HI1.out.2.1.size b2.size
        refine ⟨keeps_of_kept hk hz2 (builder_cells hI.out.1), rnd_of_kept hk (HI1.out.2.1.trans b2), ?_, hI.out.2.1.trans ((HI1.out.2.1.trans b2).mono (by omega)), (rnd_of_kept hk (HI1.out.2.1.trans b2)).2.1 _ _ _ _ hI.out.2.2 (by omega) (by decide)⟩
        rw [HE.out]
        exact .inr h2
      clear h2 b2 k2
      gi_wp2
      exact HI2.out
    · rw [if_neg hm, List.append_nil] at HE
      gi_wp2
      refine ⟨trivial, rfl, (CallsIn.inRound l (callsIn_wide.2 (writeByte_any (H + 1) (H + 1) _ (c.toNat : Int) W hI.out.1 (by omega) hz))).mono ?_⟩
      rintro e W2 ⟨rfl, h2, b2, k2⟩
      have HI2 : Hid (KeepsFrom W5.heap.size W W2 ∧ Rnd (H + 1) W W2 ∧ Hid (Lib.IsBuilderF 138 5 (H + 1) (H + 1) P' W2 ∧ Below H w W2 ∧ W2.heap[H + 2]? = some (.cells #[.int .i64 x] 3 (0, 0)))) := by
        refine ⟨keeps_of_kept k2 b2.size (builder_cells hI.out.1), rnd_of_kept k2 b2, ?_, hI.out.2.1.trans (b2.mono (by omega)), (rnd_of_kept k2 b2).2.1 _ _ _ _ hI.out.2.2 (by omega) (by decide)⟩
        rw [HE.out]
        exact .inr h2
      clear h2 b2 k2 hxc
      gi_wp2
      exact HI2.out
  case done =>
    intro W hI hsz hK
    have HK : Hid _ := hK
    have hxc : W.cell? ⟨H + 2, 0, none⟩ = some (.int .i64 x) := by simp [World.cell?, hI.out.2.2]
    clear hK
    have HSt : Hid (∀ W1 : World, W1.heap = W.heap → Below H w W1 → Calls Tryd.prog 99 #[.pointer (some ⟨H + 1, 0, none⟩)] W1 fun e w' => e = .returned (.string ⟨(putL (dAt ds x) x (x - 1) n).toArray⟩) ∧ (w'.cell? ⟨H + 2, 0, none⟩ = some (.int .i64 x) ∧ Below H w w' ∧ w'.heap[H + 6]? = some (.deferred (some [])))) := fun W1 h1 hb1 => by
      have hB : Lib.IsBuilderF 138 5 (H + 1) (H + 1) (putC ds x x (x - 1) n) W1 := by
        have := hI.out.1
        unfold Lib.IsBuilderF Lib.BuilderAtF World.ownsRowF at this ⊢
        rw [h1]
        exact this
      refine (bldString_any (H + 1) (H + 1) (putL (dAt ds x) x (x - 1) n) W1 hB (by rw [h1]; omega)).mono ?_
      rintro e W2 ⟨rfl, _, b2, k2⟩
      refine ⟨rfl, cell_kept2 k2 (by rw [h1]; exact hI.out.2.2) (by omega) (by decide), hb1.trans (b2.mono (by omega)), k2 _ _ (by rw [h1, ← hz5]; exact HK.out) (by intro e; have := Option.some.inj e; omega) (fun _ _ e => by cases e)⟩
    have hLs : (⟨(putL (dAt ds x) x (x - 1) n).toArray⟩ : ByteArray).size ≤ 4000 := by
      have h1 := putC_len ds x x (x - 1) n
      unfold putC at h1
      rw [Lib.byteCells_length] at h1
      rw [← data_len]
      show (putL (dAt ds x) x (x - 1) n).length ≤ 4000
      omega
    have hXs : (intText x 10).size ≤ 70 := int_size x
    generalize (⟨(putL (dAt ds x) x (x - 1) n).toArray⟩ : ByteArray) = L at *
    generalize intText x 10 = X at *
    generalize putC ds x x (x - 1) n = P at *
    have hl1 : (L ++ (⟨#[101]⟩ : ByteArray)).size = L.size + 1 := append_size _ _
    gi_wp2
    refine wpIn_normal ?_
    gi_region_with (first
      | (refine ⟨trivial, rfl, ?_⟩; gi_at_call 99; refine (callsIn_wide.2 (HSt.out _ (by rfl) (by repeat (first | exact hI.out.2.1 | with_reducible refine Below.drew ?_)))).mono ?_; rintro e W2 ⟨rfl, hxc2, b2, hk2⟩; have HB2 : Hid (Below H w W2) := b2; have HK2 : Hid (W2.heap[H + 6]? = some (.deferred (some []))) := hk2; clear b2 hk2)
      | (refine ⟨trivial, rfl, ?_⟩; gi_at_call 104; refine (callsIn_wide.2 (HTB.out _ (by rw [hH]; repeat (first | exact HB2.out | with_reducible refine Below.drew ?_)))).mono ?_; rintro e W3 ⟨rfl, b3⟩))
    all_goals simp only [normalOnly]
    all_goals
      have HF : Hid (Below w.heap.size w (W3.putObj (H + 6) (.deferred none))) := by rw [hH]; exact below_put ((show Below H w W2 from HB2.out).trans (b3.mono (by have := HB2.out.size; rw [hH] at this; exact this))) _ (by omega)
      have hK3 : W3.heap[H + 6]? = some (.deferred (some [])) := by rw [b3.block _ (Array.getElem?_eq_some_iff.1 HK2.out).1]; exact HK2.out
      clear b3
      gi_wp2
      refine ⟨by simp, .inl ⟨_, _, rfl, run_takeDeferred hK3, ?_⟩⟩
      exact ⟨_, results_tmp rfl _ _ _, by rw [← HT.out]; rfl, HF.out⟩
end Go.Proofs.YtpmccbkhkaoccaaDoor

/- Digits of the specification: at a number. -/
namespace Go.Proofs.YtpmccbkhkaoccaaDoor
open Go.ChangeShapes Go.WideShapes Go.RowKit
open Ieee (double)

set_option maxHeartbeats 8000000 in
set_option maxRecDepth 100000 in
theorem digits_num (s : Bool) (r : Nat) (q : Nat) (E : Int) (n : Nat) (hn1 : 1 ≤ n) (hn2 : n ≤ 400) (hr : r < 9218868437227405312) (hr0 : r ≠ 0) (hX : ∀ w, Calls Tryd.prog 18 #[.float .f64 r] w fun e w' =>
    ∃ ds pow, ExD ds pow q E ∧ ds.size ≤ 1100 ∧ -1100 ≤ pow ∧ pow ≤ 1100 ∧ e = .returned (.agg #[.string ds, .int .i64 pow]) ∧ Below w.heap.size w w') (w : World) :
    Calls Tryd.prog 9 #[.float .f64 (signBit s + r), .int .i64 (n : Int)] w fun e w' => ∃ ds pow t p', ExD ds pow q E ∧ cutV ds pow n (roundsB ds (n : Int)) t p' ∧ e = .returned (.string (sgnB s ++ sciB (t.extract 0 n) p')) ∧ Below w.heap.size w w' := by
  have H1 : Hid _ := fun w => l5size_any s r (by omega) w
  have H2 : Hid (∀ w, Calls Tryd.prog 16 #[.float .f64 r] w fun e w' => e = .returned (.tuple #[.string ⟨#[48]⟩, .bool false]) ∧ w' = w) := fun w => by
    have := l5odd_num r hr w
    rw [decide_eq_false hr0] at this
    exact this
  have H3 : Hid _ := hX
  have z3 := sgnB_size s
  generalize sgnB s = S at *
  generalize signBit s + r = X at *
  clear hX hr hr0
  go_enter Tryd.func9, Tryd.ntmps9
  go_wp2_with fail
  refine (H1.out _).mono ?_
  rintro e w1 ⟨rfl, rfl⟩
  go_wp2_with fail
  refine (H2.out _).mono ?_
  rintro e w1 ⟨rfl, rfl⟩
  go_wp2_with fail
  refine (H3.out _).mono ?_
  rintro e w2 ⟨ds, pow, hd, hs, hp1, hp2, rfl, hb⟩
  have HD : Hid _ := fun (_ : Unit) => And.intro hd hb
  have HR : Hid _ := fun w => l5rounds_any ds pow (n : Int) (by omega) hd.2.1 w
  have HC : Hid _ := fun up w => l5cut_any ds pow n up hs hd.2.1 (by omega) (by omega) (by omega) w
  obtain ⟨up, hup⟩ : ∃ up, up = roundsB ds (n : Int) := ⟨_, rfl⟩
  rw [← hup] at HR
  have HUPB : Hid (up = roundsB ds (n : Int)) := hup
  clear hup
  clear hd hb H1 H2 H3
  go_wp2_with fail
  go_region_with (first | (go_at_call 26; refine (HR.out _).mono ?_; rintro e w' ⟨rfl, rfl⟩) | (go_at_call 25; refine (HC.out _ _).mono ?_; rintro e w5 ⟨t, p', hc, rfl, hb5⟩; have HC5 : Hid _ := (fun (_ : Unit) => hc); have k0 := (hb5.cell (p := ⟨w2.heap.size, 0, none⟩) (by simp <;> omega)).trans (by simp [go_sem] : _ = some (.string ds)); have k1 := (hb5.cell (p := ⟨w2.heap.size, 1, none⟩) (by simp <;> omega)).trans (by simp [go_sem] : _ = some (.int .i64 pow)); have f0 := (hb5.frozen (p := ⟨w2.heap.size, 0, none⟩) (by simp <;> omega)).trans (by simp [go_sem] : _ = false); have f1 := (hb5.frozen (p := ⟨w2.heap.size, 1, none⟩) (by simp <;> omega)).trans (by simp [go_sem] : _ = false); have hbl : w2.heap.size + 1 ≤ w5.heap.size := (by have h := hb5.size; simp at h; omega); have HB5 : Hid (Below w2.heap.size w2 w5) := (by refine Below.trans ?_ (hb5.mono (by simp <;> omega)); repeat (first | with_reducible exact Below.refl _ _ | with_reducible refine Below.alloc ?_ (by simp <;> omega) _ | with_reducible refine Below.drew ?_ | with_reducible refine below_drewN ?_ _)); clear hc hb5))
  all_goals
    have hts := cut5_size ds pow n _ t p' (HC5.out ())
    have het : (t.extract 0 n).size = n := by simp; omega
    have HSC : Hid _ := fun w => l5science_any (t.extract 0 n) p' (by omega) (by omega) (by omega) (by omega) w
    have hsz := sciB_size (t.extract 0 n) p'
    have hti : (n : Int) ≤ (t.size : Int) := by omega
    obtain ⟨Q, hQ⟩ : ∃ Q, Q = sciB (t.extract 0 n) p' := ⟨_, rfl⟩
    rw [← hQ] at hsz HSC
    have HQ : Hid (Q = sciB (t.extract 0 n) p') := hQ
    clear hQ hts
    go_wp2_with fail
    refine (HSC.out _).mono ?_
    rintro e w6 ⟨rfl, hb6⟩
    have hw2 : w1.heap.size ≤ w2.heap.size := (HD.out ()).2.size
    have HB6 : Hid (Below w1.heap.size w1 w6) := by
      refine Below.trans ?_ (hb6.mono (by simp <;> omega))
      refine Below.setCell (Below.setCell (Below.setCell ?_ (by simp <;> omega) _) (by simp <;> omega) _) (by simp <;> omega) _
      exact (HD.out ()).2.trans (HB5.out.mono hw2)
    clear hb6
    go_wp2
    go_ret
    exact ⟨ds, pow, t, p', (HD.out ()).1, by rw [← HUPB.out]; exact HC5.out (), by rw [← HQ.out]; rfl, HB6.out⟩
end Go.Proofs.YtpmccbkhkaoccaaDoor

