import Derived.Test.YtpmccbkhkaoccaaDoorC02
import Derived.Test.YtpmccbkhkaoccaaDoorA29
import Derived.Test.YtpmccbkhkaoccaaDoorA10
import Derived.Test.YtpmccbkhkaoccaaDoorA36
/- round of the program. -/
namespace Go.Proofs.YtpmccbkhkaoccaaDoor
open Go.ChangeShapes Go.WideShapes Go.RowKit

set_option maxHeartbeats 4000000 in
set_option maxRecDepth 100000 in
theorem round_any (ds : ByteArray) (x n : Int) (hs : ds.size ≤ 2000) (hx : -10000 ≤ x) (hx' : x ≤ 10000) (hg : good 10 ds.data.toList) (w : World) :
    Calls Tryd.prog 27 #[.agg #[.string ds, .int .i64 x], .int .i64 n] w fun e w' => ∃ t y, RndD ds x n t y ∧ e = .returned (.agg #[.string t, .int .i64 y]) ∧ Below w.heap.size w w' := by
  have hs' : (ds.size : Int) ≤ 2000 := by omega
  by_cases h1 : n < 0
  · go_enter Tryd.func27, Tryd.ntmps27
    go_wp2
    refine bodyPost_ret (v := .agg #[.string ⟨#[]⟩, .int .i64 0]) (by simp [results, Tryd.results27, go_sem]) rfl ⟨⟨#[]⟩, 0, .inl ⟨h1, rfl, rfl⟩, rfl, (by repeat (first | with_reducible exact Below.refl _ _ | with_reducible refine Below.alloc ?_ (by simp <;> omega) _ | with_reducible refine Below.setCell ?_ (by simp <;> omega) _))⟩
  · by_cases h2 : (ds.size : Int) ≤ n
    · have h1' : decide (n < 0) = false := decide_eq_false h1
      go_enter Tryd.func27, Tryd.ntmps27
      go_wp2
      refine bodyPost_ret (v := .agg #[.string ds, .int .i64 x]) (by simp [results, Tryd.results27, go_sem]) rfl ⟨ds, x, .inr (.inl ⟨h2, by omega, rfl, rfl⟩), rfl, (by repeat (first | with_reducible exact Below.refl _ _ | with_reducible refine Below.alloc ?_ (by simp <;> omega) _ | with_reducible refine Below.setCell ?_ (by simp <;> omega) _))⟩
    · obtain ⟨k, rfl⟩ := Int.eq_ofNat_of_zero_le (show 0 ≤ n by omega)
      have HA : Hid (∀ W, Calls Tryd.prog 46 #[.agg #[.string ds, .int .i64 x], .int .i64 (k : Int)] W fun e w' => ∃ t y u z, Hid (RndD ds x (k : Int) t y) ∧ Hid (Below W.heap.size W w') ∧ e = .returned (.tuple #[.agg #[.string t, .int .i64 y], .agg #[.string u, .int .i64 z]])) := fun W => by
        refine (around_any ds x k hs hx hx' (by omega) hg W).mono ?_
        rintro e W' ⟨tl, yl, th, yh, hl, hh, hb, ⟨hr, rfl⟩ | ⟨hr, rfl⟩⟩
        · exact ⟨th, yh, tl, yl, .inr (.inr ⟨by omega, by omega, .inl ⟨hr, by rw [Int.toNat_natCast]; exact hh⟩⟩), hb, rfl⟩
        · exact ⟨tl, yl, th, yh, .inr (.inr ⟨by omega, by omega, .inr ⟨hr, by rw [Int.toNat_natCast]; exact hl⟩⟩), hb, rfl⟩
      have h2' : decide ((ds.size : Int) ≤ (k : Int)) = false := decide_eq_false h2
      obtain ⟨W0, hW0⟩ : ∃ W0, (w.alloc (.cells #[.string ds, .int .i64 x] 40)).alloc (.cells #[.string ⟨#[]⟩, .int .i64 0] 40) = W0 := ⟨_, rfl⟩
      have HW0 : Hid _ := hW0
      have HN0 : Hid (NewD W0 (w.heap.size + 1) ∧ Below w.heap.size w W0) := by
        rw [← hW0]
        refine ⟨?_, ((Below.refl _ _).alloc (Nat.le_refl _) _).alloc (by simp) _⟩
        have := NewD.new (w.alloc (.cells #[.string ds, .int .i64 x] 40))
        rwa [World.size_alloc] at this
      clear hg hW0
      go_enter Tryd.func27, Tryd.ntmps27
      go_wp2_with fail
      rw [HW0.out]
      refine (HA.out _).mono ?_
      rintro e W1 ⟨t, y, u, z, HR, HB, rfl⟩
      have HB1 : Hid (Below w.heap.size w W1) := HN0.out.2.trans (HB.out.mono HN0.out.2.size)
      have hN2 : NewD ((W1.alloc (.cells #[.string t, .int .i64 y] 40)).alloc (.cells #[.string u, .int .i64 z] 40)) (w.heap.size + 1) :=
        ((HN0.out.1.next HB.out).next ((Below.refl _ _).alloc (Nat.le_refl _) _)).next ((Below.refl _ _).alloc (Nat.le_refl _) _)
      have e10 := hN2.c0
      have e11 := hN2.c1
      have f10 := hN2.f0
      have f11 := hN2.f1
      have hz1 := HB1.out.size
      clear HA hN2
      go_wp2
      refine bodyPost_ret (v := .agg #[.string t, .int .i64 y]) (by simp [results, Tryd.results27, go_sem, e10, e11]) rfl ⟨t, y, HR.out, rfl, ?_⟩
      exact (((HB1.out.alloc (by omega) _).alloc (by simp; omega) _).setCell (p := ⟨w.heap.size + 1, 0, none⟩) (by simp) _).setCell (p := ⟨w.heap.size + 1, 1, none⟩) (by simp) _
end Go.Proofs.YtpmccbkhkaoccaaDoor

/- The form with an exponent is written. -/
namespace Go.Proofs.YtpmccbkhkaoccaaDoor
open Go.ChangeShapes Go.WideShapes Go.RowKit Go.Shelf

attribute [local go_sem] Oper.semAt_some

/-- The worlds in which the digits are gone through: one box more. -/
theorem power_world (H : Nat) (w : World) (hH : w.heap.size = H) (o : Obj) (ds : ByteArray) (x fr lo : Int) : ∃ W, W = (((((w.alloc o).alloc (.cells #[.pointer none, .slice none 0 0] 138)).alloc (.cells #[.int .i64 x] 3)).alloc (.cells #[.string ds, .int .i64 x] 40)).alloc (.cells #[.int .i64 fr] 3)).alloc (.cells #[.int .i64 lo] 3)
    ∧ W.heap.size = H + 6 ∧ Below H w W ∧ SpnB ds x fr lo (H + 3) W ∧ Lib.IsBuilderF 138 5 (H + 1) (H + 1) [] W ∧ W.heap[H + 2]? = some (.cells #[.int .i64 x] 3 (0, 0)) := by
  subst hH
  refine ⟨_, rfl, by simp, (((((((Below.refl _ w).alloc (Nat.le_refl _) _).alloc (by simp) _).alloc (by simp <;> omega) _).alloc (by simp <;> omega) _).alloc (by simp <;> omega) _).alloc (by simp <;> omega) _), ⟨?_, ?_, ?_⟩, ?_, ?_⟩
  · rw [Below.heap_alloc _ _ _ (by simp), Below.heap_alloc _ _ _ (by simp)]
    have := World.alloc_heap_new (((w.alloc o).alloc (.cells #[.pointer none, .slice none 0 0] 138)).alloc (.cells #[.int .i64 x] 3)) (.cells #[.string ds, .int .i64 x] 40)
    rwa [World.size_alloc, World.size_alloc, World.size_alloc] at this
  · rw [Below.heap_alloc _ _ _ (by simp)]
    have := World.alloc_heap_new ((((w.alloc o).alloc (.cells #[.pointer none, .slice none 0 0] 138)).alloc (.cells #[.int .i64 x] 3)).alloc (.cells #[.string ds, .int .i64 x] 40)) (.cells #[.int .i64 fr] 3)
    rwa [World.size_alloc, World.size_alloc, World.size_alloc, World.size_alloc] at this
  · have := World.alloc_heap_new (((((w.alloc o).alloc (.cells #[.pointer none, .slice none 0 0] 138)).alloc (.cells #[.int .i64 x] 3)).alloc (.cells #[.string ds, .int .i64 x] 40)).alloc (.cells #[.int .i64 fr] 3)) (.cells #[.int .i64 lo] 3)
    rwa [World.size_alloc, World.size_alloc, World.size_alloc, World.size_alloc, World.size_alloc] at this
  · have h := Lib.IsBuilderF.of (Lib.fresh_isBuilder 138 5 (w.alloc o))
    rw [World.size_alloc] at h
    exact (((h.alloc _).alloc _).alloc _).alloc _
  · rw [Below.heap_alloc _ _ _ (by simp), Below.heap_alloc _ _ _ (by simp), Below.heap_alloc _ _ _ (by simp)]
    have := World.alloc_heap_new ((w.alloc o).alloc (.cells #[.pointer none, .slice none 0 0] 138)) (.cells #[.int .i64 x] 3)
    rwa [World.size_alloc, World.size_alloc] at this
theorem cell_kept2 {b k : Nat} {W W' : World} {v : Value} {t : TypeId} (h : Lib.OthersKept 5 (some b) W W') (hk : W.heap[k]? = some (.cells #[v] t (0, 0))) (hb : k ≠ b) (ht : t ≠ 5) : W'.cell? ⟨k, 0, none⟩ = some v := by
  have := h k _ hk (fun e => hb (Option.some.inj e)) (fun c fz e => by cases e; exact ht rfl)
  simp [World.cell?, this]
set_option maxHeartbeats 4000000 in
set_option maxRecDepth 100000 in
theorem powerWrite_any (ds : ByteArray) (x : Int) (n : Nat) (hs : ds.size ≤ 2000) (hx : -2000 ≤ x) (hx' : x ≤ 2000) (hn0 : 1 ≤ n) (hn : n ≤ 2000) (w : World) (ht : Tab w) (hw : 1 < w.heap.size) :
    Calls Tryd.prog 103 #[.agg #[.string ds, .int .i64 x, .int .i64 (n : Int)]] w fun e w' => e = .returned (.string (sciB (padB ds n) (x + 1))) ∧ Below w.heap.size w w' := by
  have HSP : Hid _ := fun fr lo (w : World) => span_any ds x fr lo w
  have HTB : Hid (∀ W, Below w.heap.size w W → Calls Tryd.prog 104 #[.int .i64 x, .int .i64 10] W fun e w' => e = .returned (.string (intText x 10)) ∧ Below W.heap.size W w') := fun W hb =>
    implInt_any x 10 W (fun i hi => by rw [hb.cell (p := ⟨1, i, none⟩) hw]; exact ht i hi) (Nat.lt_of_lt_of_le hw hb.size)
  obtain ⟨H, hH⟩ : ∃ H, w.heap.size = H := ⟨_, rfl⟩
  have HT : Hid ((⟨(putL (dAt ds x) x (x - 1) n).toArray⟩ : ByteArray) ++ ⟨#[101]⟩ ++ intText x 10 = sciB (padB ds n) (x + 1)) := power_text ds x n hn0
  obtain ⟨W5, hW5, hz5, hb5, hsp5, hbl5, hx5⟩ := power_world H w hH (.cells #[.string ds, .int .i64 x, .int .i64 (n : Int)] 50) ds x x (x + 1 - (n : Int))
  have HW5 : Hid _ := hW5
  have HG : Hid (Gives 74 (H + 1) 100 #[.pointer (some ⟨H + 3 + 1, 0, none⟩), .pointer (some ⟨H + 3 + 2, 0, none⟩), .pointer (some ⟨H + 3, 0, none⟩)] (spnE ds x x) n W5) :=
    spn_gives 74 (H + 1) (H + 3) ds x x (x + 1 - (n : Int)) n (by omega) (by omega) (by omega) (by omega) (by omega) (by omega) (by omega) (by omega) W5 hsp5 (by omega)
  have HB5 : Hid _ := And.intro hb5 (And.intro hbl5 hx5)
  clear hW5 hb5 hsp5 hbl5 hx5 ht
  refine (callsIn_wide (n := 0)).1 ?_
  refine callsIn_of_wp_marks Tryd.func103 rfl trivial ?_ rfl
  simp only [Tryd.ntmps103, List.size_toArray, List.length_cons, List.length_nil, Nat.reduceAdd, Nat.reduceSub, Array.replicate_succ, Array.replicate_zero, List.push_toArray, List.append_toArray, List.nil_append, List.cons_append]
  gi_wp2
  refine ⟨trivial, rfl, (callsIn_wide.2 (HSP.out _ _ _)).mono ?_⟩
  rintro e w2 ⟨rfl, rfl⟩
  simp only [World.size_alloc, hH, ← HW5.out]
  gi_wp2
  refine range_all (T := 74) (b := H + 1) (enc := spnE ds x x) (n := n) rfl (enters_of Tryd.func100 (by kernel_rfl) rfl) HG.out (fun _ => rfl) (by omega)
    (fun i W => Hid (Lib.IsBuilderF 138 5 (H + 1) (H + 1) (putC ds x x (x - 1) i) W ∧ Below H w W ∧ W.heap[H + 2]? = some (.cells #[.int .i64 x] 3 (0, 0)))) ?hI ?h0 ?a1 ?assign ?body ?done
  case hI =>
    rintro i A A' h hc
    exact ⟨isBuilder_chg h.out.1 hc (by decide) (by decide), below_chg h.out.2.1 hc (by omega) (by omega), hc.2.2.2.2 _ _ h.out.2.2 (.inl (by omega))⟩
  case h0 => exact ⟨HB5.out.2.1, HB5.out.1, HB5.out.2.2⟩
  case assign =>
    intro l i W K hK
    gi_wp2
    exact hK
  case body =>
    intro l i hi W hI hsz
    have hl := putC_len ds x x (x - 1) i
    have hz : H + 1 ≤ W.heap.size := by omega
    have HE : Hid (putC ds x x (x - 1) (i + 1) = putC ds x x (x - 1) i ++ (if x - (i : Int) = x - 1 then [.int .u8 46] else []) ++ [.int .u8 ((dAt ds x (x - (i : Int))).toNat : Int)]) := putC_succ ds x x (x - 1) i
    have hxc : W.cell? ⟨H + 2, 0, none⟩ = some (.int .i64 x) := by simp [World.cell?, hI.out.2.2]
    unfold spnE
    generalize dAt ds x (x - (i : Int)) = c at *
    generalize putC ds x x (x - 1) i = P at *
    generalize putC ds x x (x - 1) (i + 1) = P' at *
    by_cases hm : x - (i : Int) = x - 1
    · rw [if_pos hm] at HE
      gi_wp2
      refine ⟨trivial, rfl, (CallsIn.inRound l (callsIn_wide.2 (writeByte_any (H + 1) (H + 1) _ 46 W hI.out.1 (by omega) hz))).mono ?_⟩
      rintro e W1 ⟨rfl, h1, b1, k1⟩
      have HI1 : Hid _ := And.intro (Or.inr h1 : Lib.IsBuilderF 138 5 (H + 1) (H + 1) _ W1) (And.intro b1 k1)
      have hz1 : H + 1 ≤ W1.heap.size := Nat.le_trans hz b1.size
      clear h1 b1 k1 hxc
      gi_wp2
      refine ⟨trivial, rfl, (CallsIn.inRound l (callsIn_wide.2 (writeByte_any (H + 1) (H + 1) _ (c.toNat : Int) W1 HI1.out.1 (by simp; omega) hz1))).mono ?_⟩
      rintro e W2 ⟨rfl, h2, b2, k2⟩
      have HI2 : Hid (KeepsFrom W5.heap.size W W2 ∧ Rnd (H + 1) W W2 ∧ Hid (Lib.IsBuilderF 138 5 (H + 1) (H + 1) P' W2 ∧ Below H w W2 ∧ W2.heap[H + 2]? = some (.cells #[.int .i64 x] 3 (0, 0)))) := by
        have hk := HI1.out.2.2.trans k2
        have hz2 : W.heap.size ≤ W2.heap.size := Nat.le_trans HI1.out.2.1.size b2.size
        refine ⟨keeps_of_kept hk hz2 (builder_cells hI.out.1), rnd_of_kept hk (HI1.out.2.1.trans b2), ?_, hI.out.2.1.trans ((HI1.out.2.1.trans b2).mono (by omega)), (rnd_of_kept hk (HI1.out.2.1.trans b2)).2.1 _ _ _ _ hI.out.2.2 (by omega) (by decide)⟩
        rw [HE.out]
        exact .inr h2
      clear h2 b2 k2
      gi_wp2
      exact HI2.out
    · rw [if_neg hm, List.append_nil] at HE
      gi_wp2
      refine ⟨trivial, rfl, (CallsIn.inRound l (callsIn_wide.2 (writeByte_any (H + 1) (H + 1) _ (c.toNat : Int) W hI.out.1 (by omega) hz))).mono ?_⟩
      rintro e W2 ⟨rfl, h2, b2, k2⟩
      have HI2 : Hid (KeepsFrom W5.heap.size W W2 ∧ Rnd (H + 1) W W2 ∧ Hid (Lib.IsBuilderF 138 5 (H + 1) (H + 1) P' W2 ∧ Below H w W2 ∧ W2.heap[H + 2]? = some (.cells #[.int .i64 x] 3 (0, 0)))) := by
        refine ⟨keeps_of_kept k2 b2.size (builder_cells hI.out.1), rnd_of_kept k2 b2, ?_, hI.out.2.1.trans (b2.mono (by omega)), (rnd_of_kept k2 b2).2.1 _ _ _ _ hI.out.2.2 (by omega) (by decide)⟩
        rw [HE.out]
        exact .inr h2
      clear h2 b2 k2 hxc
      gi_wp2
      exact HI2.out
  case done =>
    intro W hI hsz hK
    have HK : Hid _ := hK
    have hxc : W.cell? ⟨H + 2, 0, none⟩ = some (.int .i64 x) := by simp [World.cell?, hI.out.2.2]
    clear hK
    have HSt : Hid (∀ W1 : World, W1.heap = W.heap → Below H w W1 → Calls Tryd.prog 99 #[.pointer (some ⟨H + 1, 0, none⟩)] W1 fun e w' => e = .returned (.string ⟨(putL (dAt ds x) x (x - 1) n).toArray⟩) ∧ (w'.cell? ⟨H + 2, 0, none⟩ = some (.int .i64 x) ∧ Below H w w' ∧ w'.heap[H + 6]? = some (.deferred (some [])))) := fun W1 h1 hb1 => by
      have hB : Lib.IsBuilderF 138 5 (H + 1) (H + 1) (putC ds x x (x - 1) n) W1 := by
        have := hI.out.1
        unfold Lib.IsBuilderF Lib.BuilderAtF World.ownsRowF at this ⊢
        rw [h1]
        exact this
      refine (bldString_any (H + 1) (H + 1) (putL (dAt ds x) x (x - 1) n) W1 hB (by rw [h1]; omega)).mono ?_
      rintro e W2 ⟨rfl, _, b2, k2⟩
      refine ⟨rfl, cell_kept2 k2 (by rw [h1]; exact hI.out.2.2) (by omega) (by decide), hb1.trans (b2.mono (by omega)), k2 _ _ (by rw [h1, ← hz5]; exact HK.out) (by intro e; have := Option.some.inj e; omega) (fun _ _ e => by cases e)⟩
    have hLs : (⟨(putL (dAt ds x) x (x - 1) n).toArray⟩ : ByteArray).size ≤ 4000 := by
      have h1 := putC_len ds x x (x - 1) n
      unfold putC at h1
      rw [Lib.byteCells_length] at h1
      rw [← data_len]
      show (putL (dAt ds x) x (x - 1) n).length ≤ 4000
      omega
    have hXs : (intText x 10).size ≤ 70 := int_size x
    generalize (⟨(putL (dAt ds x) x (x - 1) n).toArray⟩ : ByteArray) = L at *
    generalize intText x 10 = X at *
    generalize putC ds x x (x - 1) n = P at *
    have hl1 : (L ++ (⟨#[101]⟩ : ByteArray)).size = L.size + 1 := append_size _ _
    gi_wp2
    refine wpIn_normal ?_
    gi_region_with (first
      | (refine ⟨trivial, rfl, ?_⟩; gi_at_call 99; refine (callsIn_wide.2 (HSt.out _ (by rfl) (by repeat (first | exact hI.out.2.1 | with_reducible refine Below.drew ?_)))).mono ?_; rintro e W2 ⟨rfl, hxc2, b2, hk2⟩; have HB2 : Hid (Below H w W2) := b2; have HK2 : Hid (W2.heap[H + 6]? = some (.deferred (some []))) := hk2; clear b2 hk2)
      | (refine ⟨trivial, rfl, ?_⟩; gi_at_call 104; refine (callsIn_wide.2 (HTB.out _ (by rw [hH]; repeat (first | exact HB2.out | with_reducible refine Below.drew ?_)))).mono ?_; rintro e W3 ⟨rfl, b3⟩))
    all_goals simp only [normalOnly]
    all_goals
      have HF : Hid (Below w.heap.size w (W3.putObj (H + 6) (.deferred none))) := by rw [hH]; exact below_put ((show Below H w W2 from HB2.out).trans (b3.mono (by have := HB2.out.size; rw [hH] at this; exact this))) _ (by omega)
      have hK3 : W3.heap[H + 6]? = some (.deferred (some [])) := by rw [b3.block _ (Array.getElem?_eq_some_iff.1 HK2.out).1]; exact HK2.out
      clear b3
      gi_wp2
      refine ⟨by simp, .inl ⟨_, _, rfl, run_takeDeferred hK3, ?_⟩⟩
      exact ⟨_, results_tmp rfl _ _ _, by rw [← HT.out]; rfl, HF.out⟩
end Go.Proofs.YtpmccbkhkaoccaaDoor

/- Digits of the program. -/
namespace Go.Proofs.YtpmccbkhkaoccaaDoor
open Go.ChangeShapes Go.WideShapes Go.RowKit

theorem rnd_bounds (ds : ByteArray) (x n : Int) (t : ByteArray) (y : Int) (hg : good 10 ds.data.toList) (h : RndD ds x n t y) : t.size ≤ ds.size + 1 ∧ (y = 0 ∨ y = x ∨ y = x + 1) := by
  rcases h with ⟨_, rfl, rfl⟩ | ⟨_, _, rfl, rfl⟩ | ⟨h1, h2, ⟨_, hh⟩ | ⟨_, hl⟩⟩
  · exact ⟨Nat.zero_le _, .inl rfl⟩
  · exact ⟨by omega, .inr (.inl rfl)⟩
  · obtain ⟨j, more, _, hy, _, hj, _⟩ := high_pad ds x n.toNat t y (by omega) hg hh
    cases more
    · simp at hj hy
      exact ⟨by omega, .inr (.inl hy)⟩
    · simp at hj hy
      exact ⟨by omega, .inr (.inr hy)⟩
  · obtain ⟨u, ⟨⟨j, hj⟩, _⟩, h⟩ := hl
    have h3 := trim_size hj
    have h4 := take_size ds n.toNat (by omega)
    rcases h with ⟨_, rfl, rfl⟩ | ⟨_, rfl, rfl⟩
    · exact ⟨Nat.zero_le _, .inl rfl⟩
    · exact ⟨by omega, .inr (.inl rfl)⟩
theorem good_none : good 10 (⟨#[]⟩ : ByteArray).data.toList := fun c hc => by cases hc
theorem dof_good {q : Nat} {e : Int} {ds : ByteArray} {y : Int} (h : DofR q e ds y) : good 10 ds.data.toList := by
  rcases h.1 with ⟨_, rfl, _⟩ | ⟨_, hx⟩
  · exact good_none
  · exact hx.2.1
/-- What signed answers at a float's parts and its digits rounded. -/
theorem digits_signed (x : Nat) (k : Int) (s : Bool) (m e : Int) (hp : partsV x k s m e) (ds : ByteArray) (y : Int) (hd : DofR m.toNat e ds y) (n : Nat) (hn1 : 1 ≤ n) (hn2 : n ≤ 400) (t : ByteArray) (z : Int) (hr : RndD ds y (n : Int) t z) : ∃ u, digitsV x (n : Int) u ∧ ∀ W, WrG W → Calls Tryd.prog 20 #[.agg #[.int .i64 k, .bool s, .int .i64 m, .int .i64 e], .iface 50 (.agg #[.string t, .int .i64 z, .int .i64 (n : Int)])] W fun r w' => r = .returned (.string u) ∧ Below W.heap.size W w' := by
  obtain ⟨b1, b2⟩ := rnd_bounds ds y n t z (dof_good hd) hr
  obtain ⟨hd1, hd2, hd3, hd4⟩ := hd
  have key : ∀ (k : Int), (k = 0 ∨ k = 1) → ∀ W, WrG W → Calls Tryd.prog 20 #[.agg #[.int .i64 k, .bool s, .int .i64 m, .int .i64 e], .iface 50 (.agg #[.string t, .int .i64 z, .int .i64 (n : Int)])] W fun r w' => r = .returned (.string (sgnB s ++ sciB (padB t n) (z + 1))) ∧ Below W.heap.size W w' := fun k hk W hW =>
    signed_power _ k hk s m e _ (by have := sciB_size (padB t n) (z + 1); rw [padB_size] at this; omega) W fun W1 hb => powerWrite_any t z n (by omega) (by omega) (by omega) hn1 (by omega) W1 (hW.below hb).2.1 (hW.below hb).2.2.2
  have hin : (1 : Int) ≤ (n : Int) ∧ (n : Int) ≤ 400 := by omega
  rcases hp with ⟨hn, rfl, rfl, rfl, rfl⟩ | ⟨rfl, rfl, rfl, rfl⟩ | ⟨rfl, rfl, rfl, rfl⟩ | ⟨n', p, q, t', hc, h0, rfl, hn, hq, rfl, rfl, rfl⟩
  · exact ⟨_, .inr ⟨hin, .inl ⟨hn, rfl⟩⟩, fun W _ => signed_nan _ 0 0 W⟩
  · exact ⟨_, .inr ⟨hin, .inr (.inl ⟨s, rfl, rfl⟩)⟩, fun W _ => signed_inf _ s 0 0 W⟩
  · rcases hd1 with ⟨_, rfl, rfl⟩ | ⟨h, _⟩
    · have hz : t = ⟨#[]⟩ ∧ z = 0 := by
        rcases hr with ⟨h, _⟩ | ⟨_, _, rfl, rfl⟩ | ⟨_, h, _⟩
        · omega
        · exact ⟨rfl, rfl⟩
        · exact absurd h (by show ¬ ((n : Int) < ((0 : Nat) : Int)); omega)
      obtain ⟨rfl, rfl⟩ := hz
      have := key 0 (.inl rfl)
      have ez : padB ⟨#[]⟩ n = zerosB n := by
        rw [pad_long ⟨#[]⟩ n (Nat.zero_le _)]
        apply bytes_ext
        rw [append_list]
        rfl
      rw [ez] at this
      exact ⟨_, .inr ⟨hin, .inr (.inr (.inl ⟨s, rfl, rfl⟩))⟩, this⟩
    · exact absurd h (by decide)
  · rw [Int.toNat_natCast] at hd1
    obtain ⟨_, hq0, _, _⟩ := parts_bounds n' p q t' hc h0 hn
    rcases hd1 with ⟨h, _⟩ | ⟨_, hx⟩
    · omega
    · obtain ⟨d, p', hcut, htx⟩ := rnd_sci ds y n hn1 t z hx.2.1 hx.1 hx.2.2.1 hr
      have := key 1 (.inr rfl)
      rw [htx] at this
      exact ⟨_, .inr ⟨hin, .inr (.inr (.inr ⟨s, n', p, q, t', ds, y + 1, d, p', hc, h0, rfl, hn, hq, hx, hcut, rfl⟩))⟩, this⟩
set_option maxHeartbeats 1000000 in
set_option maxRecDepth 100000 in
theorem implDigits5_out (x : Nat) (n : Int) (hn : n < 1 ∨ 400 < n) (w : World) :
    Calls Tryd.prog 10 #[.float .f64 x, .int .i64 n] w fun e w' => e = .returned (.string ⟨#[]⟩) ∧ Below w.heap.size w w' := by
  rcases hn with h | h
  · go_enter Tryd.func10, Tryd.ntmps10
    go_wp2
    go_ret
    exact ⟨rfl, Below.refl _ _⟩
  · have h1 : ¬ n < 1 := by omega
    go_enter Tryd.func10, Tryd.ntmps10
    go_wp2
    go_ret
    exact ⟨rfl, Below.refl _ _⟩
set_option maxHeartbeats 1000000 in
set_option maxRecDepth 100000 in
theorem implDigits5_in (x : Nat) (hx : x < 18446744073709551616) (n : Nat) (hn1 : 1 ≤ n) (hn2 : n ≤ 400) (w : World) (hG : WrG w) :
    Calls Tryd.prog 10 #[.float .f64 x, .int .i64 (n : Int)] w fun e w' => ∃ t, digitsV x (n : Int) t ∧ e = .returned (.string t) ∧ Below w.heap.size w w' := by
  obtain ⟨k, s, m, e, hp⟩ := parts_ex x hx
  obtain ⟨q, rfl, hq, he1, he2⟩ := parts_mant x k s m e hp
  have HP : Hid _ := fun (_ : Unit) => implParts_of x hx k s q e hp w hG.1 hG.2.2.1
  have HG : Hid (WrG w) := hG
  have HS : Hid (∀ ds y t z, DofR q e ds y → RndD ds y (n : Int) t z → ∃ u, digitsV x (n : Int) u ∧ ∀ W, WrG W → Calls Tryd.prog 20 #[.agg #[.int .i64 k, .bool s, .int .i64 (q : Int), .int .i64 e], .iface 50 (.agg #[.string t, .int .i64 z, .int .i64 (n : Int)])] W fun r w' => r = .returned (.string u) ∧ Below W.heap.size W w') := fun ds y t z hd hr =>
    digits_signed x k s q e hp ds y (by rw [Int.toNat_natCast]; exact hd) n hn1 hn2 t z hr
  have hn1' : ¬ (n : Int) < 1 := by omega
  have hn2' : ¬ 400 < (n : Int) := by omega
  clear hp hG
  go_enter Tryd.func10, Tryd.ntmps10
  go_wp2_with fail
  refine (HP.out ()).mono ?_
  rintro r W1 ⟨rfl, hb1⟩
  obtain ⟨A, hA⟩ : ∃ A, W1.heap.size = A := ⟨_, rfl⟩
  obtain ⟨W2, hW2⟩ : ∃ W2, W1.alloc (.cells #[.int .i64 k, .bool s, .int .i64 (q : Int), .int .i64 e] 36) = W2 := ⟨_, rfl⟩
  have HX2 : Hid (Box4 w A k s (q : Int) e W2) := by rw [← hW2, ← hA]; exact Box4.new hb1
  have HD : Hid (∀ W, Box4 w A k s (q : Int) e W → Calls Tryd.prog 21 #[.agg #[.int .i64 k, .bool s, .int .i64 (q : Int), .int .i64 e]] W fun r w' => ∃ ds y, Hid (DofR q e ds y) ∧ r = .returned (.agg #[.string ds, .int .i64 y]) ∧ Hid (Box4 w A k s (q : Int) e w')) := fun W hW => by
    have hg := HG.out.below hW.1
    refine (decimalOf_any k s q e hq (by omega) (by omega) W hg.2.1 hg.2.2.2).mono ?_
    rintro r w' ⟨ds, y, h1, h2, h3, h4, rfl, hb⟩
    exact ⟨ds, y, ⟨h1, h2, h3, h4⟩, rfl, hW.next hb⟩
  have hc0 := HX2.out.2.1
  have hc1 := HX2.out.2.2.1
  have hc2 := HX2.out.2.2.2.1
  have hc3 := HX2.out.2.2.2.2
  clear hb1
  have HRN : Hid (∀ ds y, DofR q e ds y → ∀ W, Box4 w A k s (q : Int) e W → Calls Tryd.prog 27 #[.agg #[.string ds, .int .i64 y], .int .i64 (n : Int)] W fun r w' => ∃ t z, Hid (RndD ds y (n : Int) t z) ∧ r = .returned (.agg #[.string t, .int .i64 z]) ∧ Hid (Box4 w A k s (q : Int) e w')) := fun ds y hd W hW => by
    refine (round_any ds y (n : Int) (by have := hd.2.1; omega) (by have := hd.2.2.1; omega) (by have := hd.2.2.2; omega) (dof_good hd) W).mono ?_
    rintro r w' ⟨t, z, h1, rfl, hb⟩
    exact ⟨t, z, h1, rfl, hW.next hb⟩
  go_wp2
  refine wp_region_held_drew (S := fun X => Box4 w A k s (q : Int) e X) (by kernel_rfl) HX2.out.drew (fun hHeld => ?_)
  refine wpAnyH_take (i := 0) (oi := _) (v := ?v0) rfl (by kernel_rfl) (by kernel_rfl) (by kernel_rfl) (fun _ _ _ h => h) (Or.inl ⟨by rfl, ?y0⟩) (by assumption) ?_
  case y0 => (intro w' hSw; obtain ⟨_, y0, y1, y2, y3⟩ := hSw; go_simp; first | done | with_reducible rfl)
  try simp only [Act.put]
  try simp only [List.setIfInBounds_toArray]
  try simp only [List.set_cons_succ]
  try simp only [List.set_cons_zero]
  refine wpAnyH_take (i := 1) (oi := _) (v := ?v1) rfl (by kernel_rfl) (by kernel_rfl) (by kernel_rfl) (fun _ _ _ h => h) (Or.inl ⟨by rfl, ?y1⟩) (by assumption) ?_
  case y1 => (intro w' hSw; obtain ⟨_, y0, y1, y2, y3⟩ := hSw; go_simp; first | done | with_reducible rfl)
  try simp only [Act.put]
  try simp only [List.setIfInBounds_toArray]
  try simp only [List.set_cons_succ]
  try simp only [List.set_cons_zero]
  refine wpAnyH_take (i := 3) (oi := _) (v := ?v3) rfl (by kernel_rfl) (by kernel_rfl) (by kernel_rfl) (fun _ _ _ h => h) (Or.inl ⟨by rfl, ?y3⟩) (by assumption) ?_
  case y3 => (intro w' hSw; go_simp; first | done | with_reducible rfl)
  try simp only [Act.put]
  try simp only [List.setIfInBounds_toArray]
  try simp only [List.set_cons_succ]
  try simp only [List.set_cons_zero]
  refine wpAnyH_take (i := 5) (oi := _) (v := ?v5) rfl (by kernel_rfl) (by kernel_rfl) (by kernel_rfl) (fun _ _ _ h => h) (Or.inl ⟨by rfl, ?y5⟩) (by assumption) ?_
  case y5 => (intro w' hSw; go_simp; first | done | with_reducible rfl)
  try simp only [Act.put]
  try simp only [List.setIfInBounds_toArray]
  try simp only [List.set_cons_succ]
  try simp only [List.set_cons_zero]
  have HXd : Hid (Box4 w A k s (q : Int) e W2.drew) := HX2.out.drew
  generalize W2.drew = W3 at *
  refine wpAnyH_ready (rs := [2]) (by kernel_rfl) (by simp) ?_
  refine AllReadyH.cons (o := _) rfl (fun K hK => ?_) AllReadyH.nil
  go_simp
  refine (HD.out _ HXd.out).mono ?_
  rintro r W4 ⟨ds, y, HDR, rfl, HX4⟩
  dsimp only
  refine hK.out _ _ HX4.out (fun hHeld => ?_)
  clear hK K
  try simp only [Act.put]
  try simp only [List.setIfInBounds_toArray]
  try simp only [List.set_cons_succ]
  try simp only [List.set_cons_zero]
  refine wpAnyH_ready (rs := [4]) (by kernel_rfl) (by simp) ?_
  refine AllReadyH.cons (o := _) rfl (fun K hK => ?_) AllReadyH.nil
  go_simp
  refine (HRN.out ds y HDR.out _ HX4.out).mono ?_
  rintro r W5 ⟨t, z, HRD, rfl, HX5⟩
  dsimp only
  refine hK.out _ _ HX5.out (fun hHeld => ?_)
  clear hK K
  try simp only [Act.put]
  try simp only [List.setIfInBounds_toArray]
  try simp only [List.set_cons_succ]
  try simp only [List.set_cons_zero]
  refine wpAnyH_take (i := 6) (oi := _) (v := ?v6) rfl (by kernel_rfl) (by kernel_rfl) (by kernel_rfl) (fun _ _ _ h => h) (Or.inl ⟨by rfl, ?y6⟩) (by assumption) ?_
  case y6 => (intro w' hSw; go_simp; first | done | with_reducible rfl)
  try simp only [Act.put]
  try simp only [List.setIfInBounds_toArray]
  try simp only [List.set_cons_succ]
  try simp only [List.set_cons_zero]
  refine wpAnyH_take (i := 7) (oi := _) (v := ?v7) rfl (by kernel_rfl) (by kernel_rfl) (by kernel_rfl) (fun _ _ _ h => h) (Or.inl ⟨by rfl, ?y7⟩) (by assumption) ?_
  case y7 => (intro w' hSw; go_simp; first | done | with_reducible rfl)
  try simp only [Act.put]
  try simp only [List.setIfInBounds_toArray]
  try simp only [List.set_cons_succ]
  try simp only [List.set_cons_zero]
  obtain ⟨u, hu, hs⟩ := HS.out ds y t z HDR.out HRD.out
  have HV : Hid (digitsV x (n : Int) u) := hu
  have HSG : Hid _ := hs
  clear hu hs
  refine wpAnyH_ready (rs := [8]) (by kernel_rfl) (by simp) ?_
  refine AllReadyH.cons (o := _) rfl (fun K hK => ?_) AllReadyH.nil
  go_simp
  refine (HSG.out _ (HG.out.below HX5.out.1)).mono ?_
  rintro r W6 ⟨rfl, hb6⟩
  have HX6 : Hid (Box4 w A k s (q : Int) e W6) := HX5.out.next hb6
  clear hb6
  dsimp only
  refine hK.out _ _ HX6.out (fun hHeld => ?_)
  clear hK K
  try simp only [Act.put]
  try simp only [List.setIfInBounds_toArray]
  try simp only [List.set_cons_succ]
  try simp only [List.set_cons_zero]
  refine wpAnyH_ready (rs := [9]) (by kernel_rfl) (by simp) ?_
  refine AllReadyH.cons (o := _) rfl (fun K hK => ?_) AllReadyH.nil
  go_simp
  refine hK.out _ _ HX6.out (fun hHeld => ?_)
  clear hK K
  refine wpAnyH_done (by kernel_rfl) ?_ _
  go_wp2
  go_ret
  exact ⟨u, HV.out, rfl, HX6.out.1⟩
theorem implDigits5_any (x : Nat) (hx : x < 18446744073709551616) (n : Int) (w : World) (hG : WrG w) :
    Calls Tryd.prog 10 #[.float .f64 x, .int .i64 n] w fun e w' => ∃ t, digitsV x n t ∧ e = .returned (.string t) ∧ Below w.heap.size w w' := by
  by_cases ho : n < 1 ∨ 400 < n
  · refine (implDigits5_out x n ho w).mono ?_
    rintro e w' ⟨rfl, hb⟩
    exact ⟨_, .inl ⟨ho, rfl⟩, rfl, hb⟩
  · obtain ⟨j, rfl⟩ := Int.eq_ofNat_of_zero_le (show 0 ≤ n by omega)
    exact implDigits5_in x hx j (by omega) (by omega) w hG
end Go.Proofs.YtpmccbkhkaoccaaDoor

