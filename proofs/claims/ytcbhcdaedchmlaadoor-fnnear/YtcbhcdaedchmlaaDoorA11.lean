import Derived.Test.YtcbhcdaedchmlaaDoorA10
import Derived.Deep.AppendLies
/- The cursor: pick, bits, num; the int that bytes tell. -/
namespace Go.Proofs.YtcbhcdaedchmlaaDoor
open Go.ChangeShapes Go.WideShapes Go.RowKit

set_option maxHeartbeats 400000 in
theorem pick_any (B : Nat) (w : World) (a : Option Addr) (len cap : Nat) (pos n : Int) (hc : Cur B w a len cap pos) (hk : Code B w a len) (h0 : 0 ≤ pos) (h1 : pos ≤ 900000000) (hn : 2 ≤ n) (hn' : n ≤ 1000000) :
    Calls Tryd.prog 10 #[.pointer (some ⟨B, 0, none⟩), .int .i64 n] w fun e w' => ∃ v pos' : Int, 0 ≤ v ∧ v < n ∧ e = .returned (.int .i64 v) ∧ pos ≤ pos' ∧ pos' ≤ pos + 2 ∧ Cur B w' a len cap pos' ∧ Code B w' a len ∧ Only B w w' := by
  have HN : Hid _ := fun (_ : Unit) => next_any B w a len cap pos hc hk h0 (by omega)
  have HK : Hid _ := fun (_ : Unit) => hk
  clear hc hk
  go_enter Tryd.func10, Tryd.ntmps10
  go_wp2_with fail
  refine (HN.out ()).mono ?_
  rintro e w1 ⟨x, hx0, hx1, rfl, hc1, ho1⟩
  have hk1 := (HK.out ()).only ho1
  by_cases hs : 200 < n
  · have HN2 : Hid _ := fun (_ : Unit) => next_any B w1 a len cap (pos + 1) hc1 hk1 (by omega) (by omega)
    have HO : Hid _ := fun (_ : Unit) => ho1
    have HK1 : Hid _ := fun (_ : Unit) => hk1
    clear hc1 ho1 hk1 HN HK
    go_wp2_with fail
    refine (HN2.out ()).mono ?_
    rintro e w2 ⟨y, hy0, hy1, rfl, hc2, ho2⟩
    have HO2 : Hid _ := fun (_ : Unit) => ho2
    have HC2 : Hid _ := fun (_ : Unit) => hc2
    clear hc2 ho2 HN2
    have hm0 : 0 ≤ (x * 256 + y) % n := Int.emod_nonneg _ (by omega)
    have hm1 : (x * 256 + y) % n < n := Int.emod_lt_of_pos _ (by omega)
    go_wp2
    go_ret
    exact ⟨_, _, hm0, hm1, rfl, by omega, by omega, HC2.out (), (HK1.out ()).only (HO2.out ()), (HO.out ()).trans (HO2.out ())⟩
  · have HO : Hid _ := fun (_ : Unit) => ho1
    have HC1 : Hid _ := fun (_ : Unit) => hc1
    have HK1 : Hid _ := fun (_ : Unit) => hk1
    clear hc1 ho1 hk1 HN HK
    have hm0 : 0 ≤ x % n := Int.emod_nonneg _ (by omega)
    have hm1 : x % n < n := Int.emod_lt_of_pos _ (by omega)
    go_wp2
    go_ret
    exact ⟨_, _, hm0, hm1, rfl, by omega, by omega, HC1.out (), HK1.out (), HO.out ()⟩

set_option maxHeartbeats 400000 in
theorem bits_any (B : Nat) (w : World) (a : Option Addr) (len cap : Nat) (pos : Int) (hc : Cur B w a len cap pos) (hk : Code B w a len) (h0 : 0 ≤ pos) (h1 : pos ≤ 900000000) :
    Calls Tryd.prog 23 #[.pointer (some ⟨B, 0, none⟩)] w fun e w' => ∃ v : Int, (Lit.int .i64 v).wf = true ∧ e = .returned (.int .i64 v) ∧ Cur B w' a len cap (pos + 8) ∧ Code B w' a len ∧ Only B w w' := by
  have HS : Hid _ := fun (_ : Unit) => And.intro hc hk
  clear hc hk
  go_enter Tryd.func23, Tryd.ntmps23
  go_wp2
  go_loopw [3, 4] (fun n k wl => ∃ (j : Nat) (N : Int), j ≤ 8 ∧ n = .int .u64 N ∧ k = .int .i64 j ∧ Hid (Cur B wl a len cap (pos + j) ∧ Code B wl a len ∧ Only B w wl)) (fun _ k _ => 8 - (intOf k).toNat)
  case atStart => exact ⟨0, 0, by omega, rfl, rfl, by have := (HS.out ()).1; simpa using this, (HS.out ()).2, Only.refl _ _⟩
  case round =>
    obtain ⟨j, N, hj, rfl, rfl, HR⟩ := hrel
    by_cases hlt : j < 8
    · obtain ⟨hc, hk, ho⟩ := HR.out
      have HN : Hid _ := fun (_ : Unit) => next_any B wr a len cap (pos + j) hc hk (by omega) (by omega)
      have HX : Hid _ := fun (_ : Unit) => And.intro hk ho
      clear hc hk ho HR
      go_wp2_with fail
      refine (HN.out ()).mono ?_
      rintro e w1 ⟨x, hx0, hx1, rfl, hc1, ho1⟩
      have HY : Hid _ := fun (_ : Unit) => And.intro hc1 ho1
      clear hc1 ho1 HN
      go_wp2
      refine ⟨⟨j + 1, _, by omega, rfl, by go_num, ?_, (HX.out ()).1.only (HY.out ()).2, (HX.out ()).2.trans (HY.out ()).2⟩, by simp [intOf]; omega⟩
      have h := (HY.out ()).1
      rw [show pos + ((j + 1 : Nat) : Int) = pos + (j : Int) + 1 by omega]
      exact h
    · have e8 : j = 8 := by omega
      subst e8
      go_wp2
      go_ret
      exact ⟨_, wrap64_wf N, rfl, HR.out⟩

theorem small_wf (v : Int) (h0 : -1000 ≤ v) (h1 : v ≤ 1000) : (Lit.int .i64 v).wf = true := by
  refine WalkArith.wf_i64 ?_; omega
theorem Only.toBelow {B : Nat} {a b c : World} (h : Only B a b) (k : Below B b c) : Below B a c := (h.below (Nat.le_refl _)).trans k
end Go.Proofs.YtcbhcdaedchmlaaDoor

/- The cursor, as a state that is handed on. -/
namespace Go.Proofs.YtcbhcdaedchmlaaDoor
open Go.ChangeShapes Go.WideShapes Go.RowKit

/-- The cursor stands at some place up to n; nothing but its own block has been written into since w0. -/
def DS (B : Nat) (w0 w : World) (a : Option Addr) (len cap : Nat) (n : Int) : Prop := ∃ pos : Int, 0 ≤ pos ∧ pos ≤ n ∧ Cur B w a len cap pos ∧ Code B w a len ∧ w0.grownBy w (some B)
theorem grown_trans {a b c : World} {r : Option Nat} (h : a.grownBy b r) (k : b.grownBy c r) : a.grownBy c r :=
  ⟨k.os.trans h.os, k.tape.trans h.tape, k.output.trans h.output, Nat.le_trans h.size k.size, fun x hx hr => (k.block x (Nat.lt_of_lt_of_le hx h.size) hr).trans (h.block x hx hr)⟩
theorem grown_refl (a : World) (r : Option Nat) : a.grownBy a r := ⟨rfl, rfl, rfl, Nat.le_refl _, fun _ _ _ => rfl⟩
theorem Only.grown {B : Nat} {w w' : World} (h : Only B w w') : w.grownBy w' (some B) := ⟨h.1, h.2.1, h.2.2.1, by rw [h.2.2.2.1]; exact Nat.le_refl _, fun k _ hr => h.2.2.2.2 k (fun e => hr (by rw [e]))⟩
theorem below_grown {w w' : World} (r : Option Nat) (h : Below w.heap.size w w') : w.grownBy w' r := ⟨h.os, h.tape, h.output, h.size, fun k hk _ => h.block k hk⟩
theorem cur_lt {B : Nat} {w : World} {a : Option Addr} {len cap : Nat} {pos : Int} (h : Cur B w a len cap pos) : B < w.heap.size := by
  obtain ⟨_, c0, _⟩ := h
  exact cell_lt c0
theorem DS.below {B : Nat} {w0 w w' : World} {a : Option Addr} {len cap : Nat} {n : Int} (h : DS B w0 w a len cap n) (hb : Below w.heap.size w w') : DS B w0 w' a len cap n := by
  obtain ⟨pos, h0, h1, hc, hk, hg⟩ := h
  exact ⟨pos, h0, h1, hc.below hb (cur_lt hc), hk.below hb, grown_trans hg (below_grown _ hb)⟩
theorem DS.mono {B : Nat} {w0 w : World} {a : Option Addr} {len cap : Nat} {n m : Int} (h : DS B w0 w a len cap n) (hm : n ≤ m) : DS B w0 w a len cap m := by
  obtain ⟨pos, h0, h1, h2⟩ := h
  exact ⟨pos, h0, by omega, h2⟩
theorem DS.only {B : Nat} {w0 w w' : World} {a : Option Addr} {len cap : Nat} {n m : Int} {pos : Int} (h : DS B w0 w a len cap n) (ho : Only B w w') (h0 : 0 ≤ pos) (h1 : pos ≤ m) (hc : Cur B w' a len cap pos) : DS B w0 w' a len cap m := by
  obtain ⟨_, _, _, _, hk, hg⟩ := h
  exact ⟨pos, h0, h1, hc, hk.only ho, grown_trans hg ho.grown⟩
theorem DS.self {B : Nat} {w0 w : World} {a : Option Addr} {len cap : Nat} {n : Int} (h : DS B w0 w a len cap n) : DS B w w a len cap n := by
  obtain ⟨pos, h0, h1, h2, h3, _⟩ := h
  exact ⟨pos, h0, h1, h2, h3, grown_refl _ _⟩
theorem DS.join {B : Nat} {w0 w w' : World} {a : Option Addr} {len cap : Nat} {n m : Int} (h : DS B w0 w a len cap n) (k : DS B w w' a len cap m) : DS B w0 w' a len cap m := by
  obtain ⟨_, _, _, _, _, hg⟩ := h
  obtain ⟨pos, h0, h1, h2, h3, h4⟩ := k
  exact ⟨pos, h0, h1, h2, h3, grown_trans hg h4⟩
theorem DS.cell {B : Nat} {w w' : World} {a : Option Addr} {len cap : Nat} {m : Int} (k : DS B w w' a len cap m) (p : Addr) (hp : p.block < w.heap.size) (hB : p.block ≠ B) : w'.cell? p = w.cell? p := by
  obtain ⟨pos, h0, h1, h2, h3, h4⟩ := k
  exact h4.cell_far p hp (by intro h; cases h; exact hB rfl)
theorem DS.fresh {B : Nat} {w0 w : World} {a : Option Addr} {len cap : Nat} {n : Int} (h : DS B w0 w a len cap n) : w.heap.size ≠ B := by
  obtain ⟨pos, _, _, hc, _⟩ := h
  have := cur_lt hc
  omega
theorem next_ds (B : Nat) (w0 w : World) (a : Option Addr) (len cap : Nat) (m : Int) (h : DS B w0 w a len cap m) (hm : m ≤ 800000000) :
    Calls Tryd.prog 22 #[.pointer (some ⟨B, 0, none⟩)] w fun e w' => ∃ v : Int, 0 ≤ v ∧ v ≤ 255 ∧ e = .returned (.int .i64 v) ∧ DS B w0 w' a len cap (m + 2) := by
  have H := h
  obtain ⟨pos, h0, h1, hc, hk, hg⟩ := h
  refine (next_any B w a len cap pos hc hk h0 (by omega)).mono ?_
  rintro e w' ⟨v, hv0, hv1, rfl, hc', ho⟩
  exact ⟨v, hv0, hv1, rfl, H.only ho (by omega) (by omega) hc'⟩
theorem pick_ds (B : Nat) (w0 w : World) (a : Option Addr) (len cap : Nat) (m n : Int) (h : DS B w0 w a len cap m) (hm : m ≤ 800000000) (hn : 2 ≤ n) (hn' : n ≤ 1000000) :
    Calls Tryd.prog 10 #[.pointer (some ⟨B, 0, none⟩), .int .i64 n] w fun e w' => ∃ v : Int, 0 ≤ v ∧ v < n ∧ e = .returned (.int .i64 v) ∧ DS B w0 w' a len cap (m + 2) := by
  have H := h
  obtain ⟨pos, h0, h1, hc, hk, hg⟩ := h
  refine (pick_any B w a len cap pos n hc hk h0 (by omega) hn hn').mono ?_
  rintro e w' ⟨v, pos', hv0, hv1, rfl, hp0, hp1, hc', hk', ho⟩
  exact ⟨v, hv0, hv1, rfl, H.only ho (by omega) (by omega) hc'⟩
theorem bits_ds (B : Nat) (w0 w : World) (a : Option Addr) (len cap : Nat) (m : Int) (h : DS B w0 w a len cap m) (hm : m ≤ 800000000) :
    Calls Tryd.prog 23 #[.pointer (some ⟨B, 0, none⟩)] w fun e w' => ∃ v : Int, (Lit.int .i64 v).wf = true ∧ e = .returned (.int .i64 v) ∧ DS B w0 w' a len cap (m + 8) := by
  have H := h
  obtain ⟨pos, h0, h1, hc, hk, hg⟩ := h
  refine (bits_any B w a len cap pos hc hk h0 (by omega)).mono ?_
  rintro e w' ⟨v, hv, rfl, hc', hk', ho⟩
  exact ⟨v, hv, rfl, H.only ho (by omega) (by omega) hc'⟩
theorem DS.start (w : World) (a : Option Addr) (len cap : Nat) (T : Nat) (hk : Code w.heap.size w a len) : DS w.heap.size w (w.alloc (.cells #[.slice a len cap, .int .i64 0, .int .u64 0] T)) a len cap 0 := by
  refine ⟨0, by omega, by omega, ⟨0, ?_, ?_, ?_, ?_, ?_⟩, hk.below ((Below.refl _ _).alloc (Nat.le_refl _) _), below_grown _ ((Below.refl _ _).alloc (Nat.le_refl _) _)⟩
  all_goals simp [go_sem]
theorem DS.done {w w' : World} {a : Option Addr} {len cap : Nat} {n : Int} (h : DS w.heap.size w w' a len cap n) : Below w.heap.size w w' := by
  obtain ⟨_, _, _, _, _, h⟩ := h
  exact ⟨h.os, h.tape, h.output, h.size, fun k hk => h.block k hk (by intro e; cases e; exact Nat.lt_irrefl _ hk)⟩
end Go.Proofs.YtcbhcdaedchmlaaDoor

/- num of the cursor, handed on. -/
namespace Go.Proofs.YtcbhcdaedchmlaaDoor
open Go.ChangeShapes Go.WideShapes Go.RowKit

set_option maxHeartbeats 1000000 in
theorem num_ds (B : Nat) (w0 w : World) (a : Option Addr) (len cap : Nat) (m : Int) (h : DS B w0 w a len cap m) (hm : m ≤ 700000000) :
    Calls Tryd.prog 11 #[.pointer (some ⟨B, 0, none⟩)] w fun e w' => ∃ v : Int, (Lit.int .i64 v).wf = true ∧ e = .returned (.int .i64 v) ∧ DS B w0 w' a len cap (m + 20) := by
  have HP : Hid _ := fun (_ : Unit) => pick_ds B w0 w a len cap m 5 h (by omega) (by omega) (by omega)
  clear h
  go_enter Tryd.func11, Tryd.ntmps11
  go_wp2_with fail
  refine (HP.out ()).mono ?_
  rintro e w1 ⟨x, hx0, hx1, rfl, hd1⟩
  have H1 : Hid _ := fun (_ : Unit) => hd1
  clear HP hd1
  have hx : x = 0 ∨ x = 1 ∨ x = 2 ∨ 3 ≤ x := by omega
  rcases hx with rfl | rfl | rfl | hx
  · go_wp2_with fail
    refine (bits_ds B w0 w1 a len cap _ (H1.out ()) (by omega)).mono ?_
    rintro e w2 ⟨v, hv, rfl, hd2⟩
    have H2 : Hid _ := fun (_ : Unit) => And.intro hv hd2
    clear hv hd2
    go_wp2
    go_ret
    exact ⟨v, (H2.out ()).1, rfl, (H2.out ()).2.mono (by omega)⟩
  · go_wp2_with fail
    refine (bits_ds B w0 w1 a len cap _ (H1.out ()) (by omega)).mono ?_
    rintro e w2 ⟨v, hv, rfl, hd2⟩
    have H2 : Hid _ := fun (_ : Unit) => hd2
    clear hv hd2
    go_wp2_with fail
    refine (pick_ds B w0 w2 a len cap _ 64 (H2.out ()) (by omega) (by omega) (by omega)).mono ?_
    rintro e w3 ⟨y, hy0, hy1, rfl, hd3⟩
    have H3 : Hid _ := fun (_ : Unit) => hd3
    clear hd3
    go_wp2
    go_ret
    exact ⟨_, wrap64_wf _, rfl, (H3.out ()).mono (by omega)⟩
  · have HB : Hid _ := fun (O : Obj) => (H1.out ()).below ((Below.refl _ _).alloc (Nat.le_refl _) O)
    have hB := (H1.out ()).fresh
    go_wp2_with fail
    refine (pick_ds B _ _ a len cap _ 9 (HB.out _).self (by omega) (by omega) (by omega)).mono ?_
    rintro e w2 ⟨y, hy0, hy1, rfl, hd2⟩
    have hcell := fun o => hd2.cell ⟨w1.heap.size, o, none⟩ (by simp) hB
    have H2 : Hid _ := fun (_ : Unit) => (HB.out _).join hd2
    clear hd2 HB
    have hy : y = 0 ∨ y = 1 ∨ y = 2 ∨ y = 3 ∨ y = 4 ∨ y = 5 ∨ y = 6 ∨ y = 7 ∨ y = 8 := by omega
    rcases hy with rfl | rfl | rfl | rfl | rfl | rfl | rfl | rfl | rfl
    all_goals
      go_wp2
      go_ret
      exact ⟨_, by decide, rfl, (H2.out ()).mono (by omega)⟩
  · have e0 : (x == 0) = false := beq_eq_false_iff_ne.2 (by omega)
    have e1 : (x == 1) = false := beq_eq_false_iff_ne.2 (by omega)
    have e2 : (x == 2) = false := beq_eq_false_iff_ne.2 (by omega)
    go_wp2_with fail
    refine (pick_ds B w0 w1 a len cap _ 200 (H1.out ()) (by omega) (by omega) (by omega)).mono ?_
    rintro e w2 ⟨y, hy0, hy1, rfl, hd2⟩
    have H2 : Hid _ := fun (_ : Unit) => hd2
    clear hd2
    go_wp2
    go_ret
    exact ⟨_, small_wf _ (by omega) (by omega), rfl, (H2.out ()).mono (by omega)⟩
end Go.Proofs.YtcbhcdaedchmlaaDoor

