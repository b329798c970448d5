import Derived.Test.YtoedefjngipeiaaGreatDoorA16
import Derived.Deep.AppendLies
import Derived.Test.YtoedefjngipeiaaGreatDoorA10
import Derived.Test.YtoedefjngipeiaaGreatDoorA12
/- The cursor, as a state that is handed on. -/
namespace Go.Proofs.YtoedefjngipeiaaGreatDoor
open Go.ChangeShapes Go.WideShapes Go.RowKit

/-- The cursor stands at some place up to n; nothing but its own block has been written into since w0. -/
def DS (B : Nat) (w0 w : World) (a : Option Addr) (len cap : Nat) (n : Int) : Prop := ∃ pos : Int, 0 ≤ pos ∧ pos ≤ n ∧ Cur B w a len cap pos ∧ Code B w a len ∧ w0.grownBy w (some B)
theorem grown_trans {a b c : World} {r : Option Nat} (h : a.grownBy b r) (k : b.grownBy c r) : a.grownBy c r :=
  ⟨k.os.trans h.os, k.tape.trans h.tape, k.output.trans h.output, Nat.le_trans h.size k.size, fun x hx hr => (k.block x (Nat.lt_of_lt_of_le hx h.size) hr).trans (h.block x hx hr)⟩
theorem grown_refl (a : World) (r : Option Nat) : a.grownBy a r := ⟨rfl, rfl, rfl, Nat.le_refl _, fun _ _ _ => rfl⟩
theorem Only.grown {B : Nat} {w w' : World} (h : Only B w w') : w.grownBy w' (some B) := ⟨h.1, h.2.1, h.2.2.1, by rw [h.2.2.2.1]; exact Nat.le_refl _, fun k _ hr => h.2.2.2.2 k (fun e => hr (by rw [e]))⟩
theorem below_grown {w w' : World} (r : Option Nat) (h : Below w.heap.size w w') : w.grownBy w' r := ⟨h.os, h.tape, h.output, h.size, fun k hk _ => h.block k hk⟩
theorem cur_lt {B : Nat} {w : World} {a : Option Addr} {len cap : Nat} {pos : Int} (h : Cur B w a len cap pos) : B < w.heap.size := by
  obtain ⟨_, c0, _⟩ := h
  exact cell_lt c0
theorem DS.below {B : Nat} {w0 w w' : World} {a : Option Addr} {len cap : Nat} {n : Int} (h : DS B w0 w a len cap n) (hb : Below w.heap.size w w') : DS B w0 w' a len cap n := by
  obtain ⟨pos, h0, h1, hc, hk, hg⟩ := h
  exact ⟨pos, h0, h1, hc.below hb (cur_lt hc), hk.below hb, grown_trans hg (below_grown _ hb)⟩
theorem DS.mono {B : Nat} {w0 w : World} {a : Option Addr} {len cap : Nat} {n m : Int} (h : DS B w0 w a len cap n) (hm : n ≤ m) : DS B w0 w a len cap m := by
  obtain ⟨pos, h0, h1, h2⟩ := h
  exact ⟨pos, h0, by omega, h2⟩
theorem DS.only {B : Nat} {w0 w w' : World} {a : Option Addr} {len cap : Nat} {n m : Int} {pos : Int} (h : DS B w0 w a len cap n) (ho : Only B w w') (h0 : 0 ≤ pos) (h1 : pos ≤ m) (hc : Cur B w' a len cap pos) : DS B w0 w' a len cap m := by
  obtain ⟨_, _, _, _, hk, hg⟩ := h
  exact ⟨pos, h0, h1, hc, hk.only ho, grown_trans hg ho.grown⟩
theorem DS.self {B : Nat} {w0 w : World} {a : Option Addr} {len cap : Nat} {n : Int} (h : DS B w0 w a len cap n) : DS B w w a len cap n := by
  obtain ⟨pos, h0, h1, h2, h3, _⟩ := h
  exact ⟨pos, h0, h1, h2, h3, grown_refl _ _⟩
theorem DS.join {B : Nat} {w0 w w' : World} {a : Option Addr} {len cap : Nat} {n m : Int} (h : DS B w0 w a len cap n) (k : DS B w w' a len cap m) : DS B w0 w' a len cap m := by
  obtain ⟨_, _, _, _, _, hg⟩ := h
  obtain ⟨pos, h0, h1, h2, h3, h4⟩ := k
  exact ⟨pos, h0, h1, h2, h3, grown_trans hg h4⟩
theorem DS.cell {B : Nat} {w w' : World} {a : Option Addr} {len cap : Nat} {m : Int} (k : DS B w w' a len cap m) (p : Addr) (hp : p.block < w.heap.size) (hB : p.block ≠ B) : w'.cell? p = w.cell? p := by
  obtain ⟨pos, h0, h1, h2, h3, h4⟩ := k
  exact h4.cell_far p hp (by intro h; cases h; exact hB rfl)
theorem DS.fresh {B : Nat} {w0 w : World} {a : Option Addr} {len cap : Nat} {n : Int} (h : DS B w0 w a len cap n) : w.heap.size ≠ B := by
  obtain ⟨pos, _, _, hc, _⟩ := h
  have := cur_lt hc
  omega
theorem next_ds (B : Nat) (w0 w : World) (a : Option Addr) (len cap : Nat) (m : Int) (h : DS B w0 w a len cap m) (hm : m ≤ 800000000) :
    Calls Tryz.prog 54 #[.pointer (some ⟨B, 0, none⟩)] w fun e w' => ∃ v : Int, 0 ≤ v ∧ v ≤ 255 ∧ e = .returned (.int .i64 v) ∧ DS B w0 w' a len cap (m + 2) := by
  have H := h
  obtain ⟨pos, h0, h1, hc, hk, hg⟩ := h
  refine (next_any B w a len cap pos hc hk h0 (by omega)).mono ?_
  rintro e w' ⟨v, hv0, hv1, rfl, hc', ho⟩
  exact ⟨v, hv0, hv1, rfl, H.only ho (by omega) (by omega) hc'⟩
theorem pick_ds (B : Nat) (w0 w : World) (a : Option Addr) (len cap : Nat) (m n : Int) (h : DS B w0 w a len cap m) (hm : m ≤ 800000000) (hn : 2 ≤ n) (hn' : n ≤ 1000000) :
    Calls Tryz.prog 30 #[.pointer (some ⟨B, 0, none⟩), .int .i64 n] w fun e w' => ∃ v : Int, 0 ≤ v ∧ v < n ∧ e = .returned (.int .i64 v) ∧ DS B w0 w' a len cap (m + 2) := by
  have H := h
  obtain ⟨pos, h0, h1, hc, hk, hg⟩ := h
  refine (pick_any B w a len cap pos n hc hk h0 (by omega) hn hn').mono ?_
  rintro e w' ⟨v, pos', hv0, hv1, rfl, hp0, hp1, hc', hk', ho⟩
  exact ⟨v, hv0, hv1, rfl, H.only ho (by omega) (by omega) hc'⟩
theorem bits_ds (B : Nat) (w0 w : World) (a : Option Addr) (len cap : Nat) (m : Int) (h : DS B w0 w a len cap m) (hm : m ≤ 800000000) :
    Calls Tryz.prog 71 #[.pointer (some ⟨B, 0, none⟩)] w fun e w' => ∃ v : Int, (Lit.int .i64 v).wf = true ∧ e = .returned (.int .i64 v) ∧ DS B w0 w' a len cap (m + 8) := by
  have H := h
  obtain ⟨pos, h0, h1, hc, hk, hg⟩ := h
  refine (bits_any B w a len cap pos hc hk h0 (by omega)).mono ?_
  rintro e w' ⟨v, hv, rfl, hc', hk', ho⟩
  exact ⟨v, hv, rfl, H.only ho (by omega) (by omega) hc'⟩
theorem DS.start (w : World) (a : Option Addr) (len cap : Nat) (T : Nat) (hk : Code w.heap.size w a len) : DS w.heap.size w (w.alloc (.cells #[.slice a len cap, .int .i64 0, .int .u64 0] T)) a len cap 0 := by
  refine ⟨0, by omega, by omega, ⟨0, ?_, ?_, ?_, ?_, ?_⟩, hk.below ((Below.refl _ _).alloc (Nat.le_refl _) _), below_grown _ ((Below.refl _ _).alloc (Nat.le_refl _) _)⟩
  all_goals simp [go_sem]
theorem DS.done {w w' : World} {a : Option Addr} {len cap : Nat} {n : Int} (h : DS w.heap.size w w' a len cap n) : Below w.heap.size w w' := by
  obtain ⟨_, _, _, _, _, h⟩ := h
  exact ⟨h.os, h.tape, h.output, h.size, fun k hk => h.block k hk (by intro e; cases e; exact Nat.lt_irrefl _ hk)⟩
end Go.Proofs.YtoedefjngipeiaaGreatDoor

/- l7digits of the specification: drawn digits. -/
namespace Go.Proofs.YtoedefjngipeiaaGreatDoor
open Go.ChangeShapes Go.WideShapes Go.RowKit

/-- An append to a row that lies above leaves the cursor and the bytes as they are. -/
theorem DS.append {B : Nat} {w wr w1 : World} {a : Option Addr} {len cap : Nat} {n : Int} {u : Value} {o : Obj} (h : DS B w wr a len cap n) (hk : Code B w a len) (hB : B < w.heap.size)
    (hg : (wr.alloc o).grownBy w1 u.ownBlock) (hu : ∀ g, u.ownBlock = some g → w.heap.size ≤ g) : DS B w w1 a len cap n := by
  obtain ⟨pos, h0, h1, hc, _, hw⟩ := h
  have hsz : w.heap.size ≤ wr.heap.size := hw.size
  have key : ∀ k, k < w.heap.size → w1.heap[k]? = wr.heap[k]? := fun k hk => by
    rw [hg.block k (by simp; omega) (by intro e; have := hu k e.symm; omega)]
    exact ((Below.refl wr.heap.size wr).alloc (Nat.le_refl _) o).block k (by omega)
  have g1 : w.grownBy w1 (some B) := ⟨hg.os.trans hw.os, hg.tape.trans hw.tape, hg.output.trans hw.output, Nat.le_trans hsz (Nat.le_trans (by simp) hg.size), fun k hk hr => (key k hk).trans (hw.block k hk hr)⟩
  refine ⟨pos, h0, h1, ?_, ?_, g1⟩
  · obtain ⟨seed, c0, c1, c2, f1, f2⟩ := hc
    have e : w1.heap[B]? = wr.heap[B]? := key B hB
    exact ⟨seed, (World.cell?_of_block (a := ⟨B, 0, none⟩) e).trans c0, (World.cell?_of_block (a := ⟨B, 1, none⟩) e).trans c1, (World.cell?_of_block (a := ⟨B, 2, none⟩) e).trans c2, (World.frozen?_of_block (a := ⟨B, 1, none⟩) e).trans f1, (World.frozen?_of_block (a := ⟨B, 2, none⟩) e).trans f2⟩
  · refine ⟨hk.1, fun i hi => ?_⟩
    obtain ⟨x, hx, hb, z, z0, z1, hcell⟩ := hk.2 i hi
    have hbl : (x.add i).block = x.block := by unfold Addr.add; split <;> rfl
    exact ⟨x, hx, hb, z, z0, z1, by rw [g1.cell_far (x.add i) (cell_lt hcell) (by intro e; cases e; exact hb hbl.symm)]; exact hcell⟩
theorem own_text {w : World} {B e n : Nat} {v : Value} {os : List Nat} (h : w.ownsRow B e 1 v n (os.map cellD)) (hn : os.length = n) (h0 : 0 < n) :
    (convert 22 9 v).run Tryz.prog w = .ok (.string ⟨(os.map dchr).toArray⟩) w := by
  rcases own_cell h hn with ⟨_, h⟩ | ⟨g, cap, rfl, h1, h2, h3, h4⟩
  · omega
  · have hl : (os.map dchr).length = n := by simp [hn]
    have := run_convert_bytes_back (P := Tryz.prog) w 22 9 5 ⟨g, 0, none⟩ cap (os.map dchr) Tryz.underlying22 Tryz.underlying5 Tryz.underlying9 (fun j hj => by
      rw [show (⟨g, 0, none⟩ : Addr).add j = ⟨g, j, none⟩ by (simp [Addr.add]; try omega), h4 j (by omega)]
      have hj' : j < os.length := by omega
      simp [cellD, List.getElem?_eq_getElem hj'])
    rw [hl] at this
    exact this
theorem good_dchr (os : List Nat) (h : Ten os) : good 10 (os.map dchr) := by
  intro c hc
  obtain ⟨d, hd, rfl⟩ := List.mem_map.1 hc
  rw [digN_dchr d (h d hd)]
  have := h d hd
  omega
theorem digit_pick (v : Int) (h0 : 0 ≤ v) (h1 : v < 10) : ∃ D : Nat, D < 10 ∧ v = (D : Int) ∧ Value.int .u8 (48 + v) = cellD D := by
  obtain ⟨D, rfl⟩ := Int.eq_ofNat_of_zero_le h0
  refine ⟨D, by omega, rfl, ?_⟩
  unfold cellD
  rw [dchr_nat D (by omega)]
  rfl

theorem own_far {w w' : World} {base e n : Nat} {v : Value} {xs : List Value} {B : Nat} (h : w.ownsRow base e 1 v n xs) (hg : w.grownBy w' (some B)) (hB : B < base) : w'.ownsRow base e 1 v n xs := by
  obtain ⟨h0, h⟩ := h
  refine ⟨h0, ?_⟩
  rcases h with h | ⟨g, cap, cur, hv, hb, hh, h1⟩
  · exact .inl h
  · exact .inr ⟨g, cap, cur, hv, hb, (hg.block g (Array.getElem?_eq_some_iff.1 hh).1 (by intro e; cases e; omega)).trans hh, h1⟩

set_option maxHeartbeats 1600000 in
set_option maxRecDepth 100000 in
theorem l7digits_ds (B : Nat) (w0 w : World) (a : Option Addr) (len cap : Nat) (m : Int) (k : Nat) (h : DS B w0 w a len cap m) (hm : m ≤ 700000000) (hk1 : 1 ≤ k) (hk2 : k ≤ 1000) :
    Calls Tryz.prog 58 #[.pointer (some ⟨B, 0, none⟩), .int .i64 (k : Int)] w fun e w' => ∃ s : ByteArray, s.size = k ∧ good 10 s.data.toList ∧ e = .returned (.string s) ∧ DS B w0 w' a len cap (m + 2 * k) := by
  obtain ⟨i1, hi, hz0, hz1, hz2⟩ := info_parts Tryz.infoB
  have H0 : Hid (DS B w0 w a len cap m) := h
  have HK : Hid (Code B w a len) := h.choose_spec.2.2.2.1
  have HB : Hid (B < w.heap.size) := cur_lt h.choose_spec.2.2.1
  clear h
  go_enter Tryz.func58, Tryz.ntmps58
  go_wp2
  go_loopw [1, 5] (fun vn vo wr => ∃ (j : Nat) (os : List Nat), vn = .int .i64 ((k : Int) - (j : Int)) ∧ j ≤ k ∧ os.length = j ∧ Hid (Ten os) ∧ wr.ownsRow w.heap.size 5 1 vo os.length (os.map cellD) ∧ Hid (DS B w wr a len cap (m + 2 * j)) ∧ w.heap.size ≤ wr.heap.size) (fun vn _ _ => (intOf vn).toNat)
  case atStart => exact ⟨0, [], by simp, by omega, rfl, fun _ h => absurd h (by simp), World.ownsRow_nil _ _ _ _, by show DS _ _ _ _ _ _ _; simpa using H0.out.self, Nat.le_refl _⟩
  case round =>
    obtain ⟨j, os, rfl, hj, hjl, HT, hown, HD, hsz⟩ := hrel
    by_cases hlt : j < k
    · go_wp2_with fail
      refine (pick_ds B wr wr a len cap _ 10 HD.out.self (by omega) (by omega) (by omega)).mono ?_
      rintro e wp ⟨v, hv0, hv1, rfl, hdp⟩
      have HDP : Hid (DS B w wp a len cap (m + 2 * (j : Int) + 2)) := HD.out.join hdp
      have hown2 := own_far hown hdp.choose_spec.2.2.2.2 HB.out
      have hsz2 : w.heap.size ≤ wp.heap.size := Nat.le_trans hsz hdp.choose_spec.2.2.2.2.size
      have HO : Hid (∀ g, u5.ownBlock = some g → w.heap.size ≤ g) := fun g hg => (own_block_lt hown g hg).1
      obtain ⟨D, hD, hvD, hcD⟩ := digit_pick v hv0 hv1
      have HCD : Hid (Value.int .u8 (48 + v) = cellD D) := hcD
      clear hdp hown hvD hcD
      go_wp2_with (first
        | (at_builtin; refine wpList_append_lies _ rfl _ _ 22 rfl w.heap.size 5 i1 (.int .u8 0) 1 1 Tryz.underlying22 hi hz0 hz1 hz2 rfl (by decide) _ _ _ rfl (hown2.alloc _) ⟨wp.heap.size, 0, none⟩ 1 1 [.int .u8 (48 + v)] rfl rfl ?c1 ?c2 (by decide) ?c3 ?c4 ?c5 (wp.heap.size + 1) ?c6 ?_)
        | go_in)
      case c1 =>
        intro j u hj
        match j, hj with
        | 0, hj => simp at hj; subst hj; simp [Addr.add]
      case c2 => intro u hu; simp at hu; subst hu; rfl
      case c3 => unfold maxLen; omega
      case c4 => omega
      case c5 => simp; omega
      case c6 => simp
      · intro g1 cap1 w1 hown' hgrow hwhere hlt1
        have HD1 : Hid (DS B w w1 a len cap (m + 2 * (j : Int) + 2)) := HDP.out.append HK.out HB.out hgrow HO.out
        have HS : Hid (w.heap.size ≤ w1.heap.size) := Nat.le_trans hsz2 (Nat.le_trans (by simp) hgrow.size)
        have HW1 : Hid (w1.ownsRow w.heap.size 5 1 (.slice (some ⟨g1, 0, none⟩) (j + 1) cap1) (os ++ [D]).length ((os ++ [D]).map cellD)) := by
          rw [HCD.out] at hown'
          rw [List.map_append, List.length_append, hjl]
          exact hown'
        clear hown' hgrow hwhere hlt1 hown2
        go_wp2
        exact ⟨⟨j + 1, os ++ [D], by simp; omega, by omega, by simp [hjl], ten_snoc HT.out hD, HW1.out, by show DS _ _ _ _ _ _ _; exact HD1.out.mono (by omega), HS.out⟩, by simp only [intOf]; omega⟩
    · obtain rfl : j = k := by omega
      have hcv := own_text hown rfl (by omega)
      have HG : Hid _ := good_dchr os HT.out
      have hjj : decide (0 < (j : Int) - (j : Int)) = false := decide_eq_false (by omega)
      clear hown
      go_wp2
      go_ret
      exact ⟨⟨(os.map dchr).toArray⟩, by rw [← data_len]; simpa using hjl, HG.out, rfl, H0.out.join HD.out⟩
end Go.Proofs.YtoedefjngipeiaaGreatDoor

/- Floats of 64 bits: whole numbers, cut towards zero, floors. -/
namespace Go.Proofs.YtoedefjngipeiaaGreatDoor
open Ieee

theorem bits_63 : (4890909195324358656 : Nat) = fw false 4503599627370496 11 := by rw [fw_canon _ _ _ (.inl ⟨by omega, by omega, by omega, by omega⟩)]; decide
theorem bits_m63 : (14114281232179134464 : Nat) = fw true 4503599627370496 11 := by rw [fw_canon _ _ _ (.inl ⟨by omega, by omega, by omega, by omega⟩)]; decide
theorem rep_63 : Rep 4503599627370496 11 := canon_rep _ _ (.inl ⟨by omega, by omega, by omega, by omega⟩)
theorem p_high (m : Nat) (p : Int) (h : Canon m p) (hp : 11 ≤ p) : 4503599627370496 ≤ m := by rcases h with h | h <;> omega
theorem size_high (m : Nat) (p : Int) (h : Canon m p) (hp : 11 ≤ p) : sval false 4503599627370496 11 ≤ sval false m p := sval_le _ _ _ _ (p_high m p h hp) hp
theorem form_63 : sval false 4503599627370496 11 = sval false 9007199254740992 10 := by
  have := sval_scale false 4503599627370496 1 11 (by omega)
  rw [← this]; rfl
theorem size_low (m : Nat) (p : Int) (h : Canon m p) (hp : p ≤ 10) : sval false m p < sval false 4503599627370496 11 := by
  rw [form_63]
  exact sval_lt _ _ _ _ (by rcases h with h | h <;> omega) hp
/-- At 2^63 and beyond; below it. -/
theorem ord_63_ge (m : Nat) (p : Int) (h : Canon m p) (hp : 11 ≤ p) : double.order (fw false m p) 4890909195324358656 = some .gt ∨ double.order (fw false m p) 4890909195324358656 = some .eq := by
  rw [bits_63, order_rep false false m _ p 11 (canon_rep m p h) rep_63]
  have := size_high m p h hp
  by_cases he : sval false m p = sval false 4503599627370496 11
  · rw [cmp_eq _ _ he]; exact .inr rfl
  · rw [cmp_gt _ _ (by omega)]; exact .inl rfl
theorem ord_63_lt (s : Bool) (m : Nat) (p : Int) (h : Canon m p) (hp : s = true ∨ p ≤ 10) : double.order (fw s m p) 4890909195324358656 = some .lt := by
  rw [bits_63, order_rep s false m _ p 11 (canon_rep m p h) rep_63]
  have h1 := sval_pos 4503599627370496 11 (by omega)
  have h2 : 0 ≤ sval false m p := by
    by_cases h0 : m = 0
    · subst h0; rw [sval_zero]; omega
    · have := sval_pos m p (by omega); omega
  cases s
  · rcases hp with hp | hp
    · cases hp
    · rw [cmp_lt _ _ (size_low m p h hp)]
  · rw [sval_neg, cmp_lt _ _ (by omega)]
theorem ord_m63_le (m : Nat) (p : Int) (h : Canon m p) (hp : 11 ≤ p) : double.order (fw true m p) 14114281232179134464 = some .lt ∨ double.order (fw true m p) 14114281232179134464 = some .eq := by
  rw [bits_m63, order_rep true true m _ p 11 (canon_rep m p h) rep_63, sval_neg, sval_neg]
  have := size_high m p h hp
  by_cases he : sval false m p = sval false 4503599627370496 11
  · rw [cmp_eq _ _ (by omega)]; exact .inr rfl
  · rw [cmp_lt _ _ (by omega)]; exact .inl rfl
theorem ord_m63_gt (s : Bool) (m : Nat) (p : Int) (h : Canon m p) (hp : s = false ∨ p ≤ 10) : double.order (fw s m p) 14114281232179134464 = some .gt := by
  rw [bits_m63, order_rep s true m _ p 11 (canon_rep m p h) rep_63, sval_neg]
  have h1 := sval_pos 4503599627370496 11 (by omega)
  have h2 : 0 ≤ sval false m p := by
    by_cases h0 : m = 0
    · subst h0; rw [sval_zero]; omega
    · have := sval_pos m p (by omega); omega
  cases s
  · rw [cmp_gt _ _ (by omega)]
  · rcases hp with hp | hp
    · cases hp
    · have := size_low m p h hp
      rw [sval_neg, cmp_gt _ _ (by omega)]
/-- Just -2^63. -/
theorem is_m63 (m : Nat) (p : Int) (h : Canon m p) (he : double.order (fw true m p) 14114281232179134464 = some .eq) : m = 4503599627370496 ∧ p = 11 := by
  rw [bits_m63, order_rep true true m _ p 11 (canon_rep m p h) rep_63, sval_neg, sval_neg] at he
  have hv : sval false m p = sval false 4503599627370496 11 := by
    by_cases h1 : - sval false m p < - sval false 4503599627370496 11
    · rw [cmp_lt _ _ h1] at he; cases he
    · by_cases h2 : - sval false m p = - sval false 4503599627370496 11
      · omega
      · rw [cmp_gt _ _ (by omega)] at he; cases he
  have hp : p = 11 := by
    by_cases a : p ≤ 10
    · have := size_low m p h a; omega
    · by_cases b : 12 ≤ p
      · have h1 := p_high m p h (by omega)
        have h2 : sval false 4503599627370496 11 < sval false 9007199254740992 11 := sval_lt _ _ _ _ (by omega) (by omega)
        have h3 : sval false 9007199254740992 11 = sval false 4503599627370496 12 := by
          have := sval_scale false 4503599627370496 1 12 (by omega)
          rw [← this]; rfl
        have h4 : sval false 4503599627370496 12 ≤ sval false m p := sval_le _ _ _ _ h1 b
        omega
      · omega
  subst hp
  refine ⟨?_, rfl⟩
  have h1 := p_high m 11 h (by omega)
  by_cases a : 4503599627370496 < m
  · have := sval_lt 4503599627370496 m 11 11 a (by omega); omega
  · omega
/-- Cut towards zero. -/
def truncN (m : Nat) (p : Int) : Nat := m * 2 ^ p.toNat / 2 ^ (-p).toNat
theorem toInt_fw (s : Bool) (m : Nat) (p : Int) (h : Canon m p) : Datum.toInt .zero (double.read (fw s m p)) = some (if s then -(truncN m p : Int) else (truncN m p : Int)) := by
  rw [read_canon s m p h, toInt_number, signed_eq, Nat.pow_zero, Nat.mul_one]
  unfold truncN
  cases s
  · simp
  · simp
theorem trunc_hi (m : Nat) (p : Int) (h : 0 ≤ p) : truncN m p = m * 2 ^ p.toNat := by
  unfold truncN
  rw [show (-p).toNat = 0 by omega, Nat.pow_zero, Nat.div_one]
theorem trunc_lo (m : Nat) (p : Int) (h : p ≤ 0) : truncN m p = m / 2 ^ (-p).toNat := by
  unfold truncN
  rw [show p.toNat = 0 by omega, Nat.pow_zero, Nat.mul_one]
theorem trunc_lt (m : Nat) (p : Int) (h : Canon m p) (hp : p ≤ 10) : truncN m p < 9223372036854775808 := by
  by_cases h0 : 0 ≤ p
  · rw [trunc_hi m p h0]
    have h1 : m < 9007199254740992 := by rcases h with h | h <;> omega
    have h2 : 2 ^ p.toNat ≤ 2 ^ 10 := Nat.pow_le_pow_right (by omega) (by omega)
    have h3 : m * 2 ^ p.toNat ≤ m * 1024 := Nat.mul_le_mul_left _ h2
    omega
  · rw [trunc_lo m p (by omega)]
    have h1 : m < 9007199254740992 := by rcases h with h | h <;> omega
    have := Nat.div_le_self m (2 ^ (-p).toNat)
    omega
end Go.Proofs.YtoedefjngipeiaaGreatDoor

