import Derived.Test.YtonobdlncjgfhaaDoorN05
import Derived.Deep.AppendLies
import Derived.OwnWalk
import Derived.OpenShut
import Derived.WalkKit
/- The cursor: pick, bits, num; the int that bytes tell. -/
namespace Go.Proofs.YtonobdlncjgfhaaDoor
open Go.ChangeShapes Go.WideShapes Go.RowKit

set_option maxHeartbeats 400000 in
theorem pick_any (B : Nat) (w : World) (a : Option Addr) (len cap : Nat) (pos n : Int) (hc : Cur B w a len cap pos) (hk : Code B w a len) (h0 : 0 ≤ pos) (h1 : pos ≤ 900000000) (hn : 2 ≤ n) (hn' : n ≤ 1000000) :
    Calls Tryd.prog 10 #[.pointer (some ⟨B, 0, none⟩), .int .i64 n] w fun e w' => ∃ v pos' : Int, 0 ≤ v ∧ v < n ∧ e = .returned (.int .i64 v) ∧ pos ≤ pos' ∧ pos' ≤ pos + 2 ∧ Cur B w' a len cap pos' ∧ Code B w' a len ∧ Only B w w' := by
  have HN : Hid _ := fun (_ : Unit) => next_any B w a len cap pos hc hk h0 (by omega)
  have HK : Hid _ := fun (_ : Unit) => hk
  clear hc hk
  go_enter Tryd.func10, Tryd.ntmps10
  go_wp2_with fail
  refine (HN.out ()).mono ?_
  rintro e w1 ⟨x, hx0, hx1, rfl, hc1, ho1⟩
  have hk1 := (HK.out ()).only ho1
  by_cases hs : 200 < n
  · have HN2 : Hid _ := fun (_ : Unit) => next_any B w1 a len cap (pos + 1) hc1 hk1 (by omega) (by omega)
    have HO : Hid _ := fun (_ : Unit) => ho1
    have HK1 : Hid _ := fun (_ : Unit) => hk1
    clear hc1 ho1 hk1 HN HK
    go_wp2_with fail
    refine (HN2.out ()).mono ?_
    rintro e w2 ⟨y, hy0, hy1, rfl, hc2, ho2⟩
    have HO2 : Hid _ := fun (_ : Unit) => ho2
    have HC2 : Hid _ := fun (_ : Unit) => hc2
    clear hc2 ho2 HN2
    have hm0 : 0 ≤ (x * 256 + y) % n := Int.emod_nonneg _ (by omega)
    have hm1 : (x * 256 + y) % n < n := Int.emod_lt_of_pos _ (by omega)
    go_wp2
    go_ret
    exact ⟨_, _, hm0, hm1, rfl, by omega, by omega, HC2.out (), (HK1.out ()).only (HO2.out ()), (HO.out ()).trans (HO2.out ())⟩
  · have HO : Hid _ := fun (_ : Unit) => ho1
    have HC1 : Hid _ := fun (_ : Unit) => hc1
    have HK1 : Hid _ := fun (_ : Unit) => hk1
    clear hc1 ho1 hk1 HN HK
    have hm0 : 0 ≤ x % n := Int.emod_nonneg _ (by omega)
    have hm1 : x % n < n := Int.emod_lt_of_pos _ (by omega)
    go_wp2
    go_ret
    exact ⟨_, _, hm0, hm1, rfl, by omega, by omega, HC1.out (), HK1.out (), HO.out ()⟩

set_option maxHeartbeats 400000 in
theorem bits_any (B : Nat) (w : World) (a : Option Addr) (len cap : Nat) (pos : Int) (hc : Cur B w a len cap pos) (hk : Code B w a len) (h0 : 0 ≤ pos) (h1 : pos ≤ 900000000) :
    Calls Tryd.prog 23 #[.pointer (some ⟨B, 0, none⟩)] w fun e w' => ∃ v : Int, (Lit.int .i64 v).wf = true ∧ e = .returned (.int .i64 v) ∧ Cur B w' a len cap (pos + 8) ∧ Code B w' a len ∧ Only B w w' := by
  have HS : Hid _ := fun (_ : Unit) => And.intro hc hk
  clear hc hk
  go_enter Tryd.func23, Tryd.ntmps23
  go_wp2
  go_loopw [3, 4] (fun n k wl => ∃ (j : Nat) (N : Int), j ≤ 8 ∧ n = .int .u64 N ∧ k = .int .i64 j ∧ Hid (Cur B wl a len cap (pos + j) ∧ Code B wl a len ∧ Only B w wl)) (fun _ k _ => 8 - (intOf k).toNat)
  case atStart => exact ⟨0, 0, by omega, rfl, rfl, by have := (HS.out ()).1; simpa using this, (HS.out ()).2, Only.refl _ _⟩
  case round =>
    obtain ⟨j, N, hj, rfl, rfl, HR⟩ := hrel
    by_cases hlt : j < 8
    · obtain ⟨hc, hk, ho⟩ := HR.out
      have HN : Hid _ := fun (_ : Unit) => next_any B wr a len cap (pos + j) hc hk (by omega) (by omega)
      have HX : Hid _ := fun (_ : Unit) => And.intro hk ho
      clear hc hk ho HR
      go_wp2_with fail
      refine (HN.out ()).mono ?_
      rintro e w1 ⟨x, hx0, hx1, rfl, hc1, ho1⟩
      have HY : Hid _ := fun (_ : Unit) => And.intro hc1 ho1
      clear hc1 ho1 HN
      go_wp2
      refine ⟨⟨j + 1, _, by omega, rfl, by go_num, ?_, (HX.out ()).1.only (HY.out ()).2, (HX.out ()).2.trans (HY.out ()).2⟩, by simp [intOf]; omega⟩
      have h := (HY.out ()).1
      rw [show pos + ((j + 1 : Nat) : Int) = pos + (j : Int) + 1 by omega]
      exact h
    · have e8 : j = 8 := by omega
      subst e8
      go_wp2
      go_ret
      exact ⟨_, wrap64_wf N, rfl, HR.out⟩

theorem small_wf (v : Int) (h0 : -1000 ≤ v) (h1 : v ≤ 1000) : (Lit.int .i64 v).wf = true := by
  refine WalkArith.wf_i64 ?_; omega
theorem Only.toBelow {B : Nat} {a b c : World} (h : Only B a b) (k : Below B b c) : Below B a c := (h.below (Nat.le_refl _)).trans k
end Go.Proofs.YtonobdlncjgfhaaDoor

/- The cursor, as a state that is handed on. -/
namespace Go.Proofs.YtonobdlncjgfhaaDoor
open Go.ChangeShapes Go.WideShapes Go.RowKit

/-- The cursor stands at some place up to n; nothing but its own block has been written into since w0. -/
def DS (B : Nat) (w0 w : World) (a : Option Addr) (len cap : Nat) (n : Int) : Prop := ∃ pos : Int, 0 ≤ pos ∧ pos ≤ n ∧ Cur B w a len cap pos ∧ Code B w a len ∧ w0.grownBy w (some B)
theorem grown_trans {a b c : World} {r : Option Nat} (h : a.grownBy b r) (k : b.grownBy c r) : a.grownBy c r :=
  ⟨k.os.trans h.os, k.tape.trans h.tape, k.output.trans h.output, Nat.le_trans h.size k.size, fun x hx hr => (k.block x (Nat.lt_of_lt_of_le hx h.size) hr).trans (h.block x hx hr)⟩
theorem grown_refl (a : World) (r : Option Nat) : a.grownBy a r := ⟨rfl, rfl, rfl, Nat.le_refl _, fun _ _ _ => rfl⟩
theorem Only.grown {B : Nat} {w w' : World} (h : Only B w w') : w.grownBy w' (some B) := ⟨h.1, h.2.1, h.2.2.1, by rw [h.2.2.2.1]; exact Nat.le_refl _, fun k _ hr => h.2.2.2.2 k (fun e => hr (by rw [e]))⟩
theorem below_grown {w w' : World} (r : Option Nat) (h : Below w.heap.size w w') : w.grownBy w' r := ⟨h.os, h.tape, h.output, h.size, fun k hk _ => h.block k hk⟩
theorem cur_lt {B : Nat} {w : World} {a : Option Addr} {len cap : Nat} {pos : Int} (h : Cur B w a len cap pos) : B < w.heap.size := by
  obtain ⟨_, c0, _⟩ := h
  exact cell_lt c0
theorem DS.below {B : Nat} {w0 w w' : World} {a : Option Addr} {len cap : Nat} {n : Int} (h : DS B w0 w a len cap n) (hb : Below w.heap.size w w') : DS B w0 w' a len cap n := by
  obtain ⟨pos, h0, h1, hc, hk, hg⟩ := h
  exact ⟨pos, h0, h1, hc.below hb (cur_lt hc), hk.below hb, grown_trans hg (below_grown _ hb)⟩
theorem DS.mono {B : Nat} {w0 w : World} {a : Option Addr} {len cap : Nat} {n m : Int} (h : DS B w0 w a len cap n) (hm : n ≤ m) : DS B w0 w a len cap m := by
  obtain ⟨pos, h0, h1, h2⟩ := h
  exact ⟨pos, h0, by omega, h2⟩
theorem DS.only {B : Nat} {w0 w w' : World} {a : Option Addr} {len cap : Nat} {n m : Int} {pos : Int} (h : DS B w0 w a len cap n) (ho : Only B w w') (h0 : 0 ≤ pos) (h1 : pos ≤ m) (hc : Cur B w' a len cap pos) : DS B w0 w' a len cap m := by
  obtain ⟨_, _, _, _, hk, hg⟩ := h
  exact ⟨pos, h0, h1, hc, hk.only ho, grown_trans hg ho.grown⟩
theorem DS.self {B : Nat} {w0 w : World} {a : Option Addr} {len cap : Nat} {n : Int} (h : DS B w0 w a len cap n) : DS B w w a len cap n := by
  obtain ⟨pos, h0, h1, h2, h3, _⟩ := h
  exact ⟨pos, h0, h1, h2, h3, grown_refl _ _⟩
theorem DS.join {B : Nat} {w0 w w' : World} {a : Option Addr} {len cap : Nat} {n m : Int} (h : DS B w0 w a len cap n) (k : DS B w w' a len cap m) : DS B w0 w' a len cap m := by
  obtain ⟨_, _, _, _, _, hg⟩ := h
  obtain ⟨pos, h0, h1, h2, h3, h4⟩ := k
  exact ⟨pos, h0, h1, h2, h3, grown_trans hg h4⟩
theorem DS.cell {B : Nat} {w w' : World} {a : Option Addr} {len cap : Nat} {m : Int} (k : DS B w w' a len cap m) (p : Addr) (hp : p.block < w.heap.size) (hB : p.block ≠ B) : w'.cell? p = w.cell? p := by
  obtain ⟨pos, h0, h1, h2, h3, h4⟩ := k
  exact h4.cell_far p hp (by intro h; cases h; exact hB rfl)
theorem DS.fresh {B : Nat} {w0 w : World} {a : Option Addr} {len cap : Nat} {n : Int} (h : DS B w0 w a len cap n) : w.heap.size ≠ B := by
  obtain ⟨pos, _, _, hc, _⟩ := h
  have := cur_lt hc
  omega
theorem next_ds (B : Nat) (w0 w : World) (a : Option Addr) (len cap : Nat) (m : Int) (h : DS B w0 w a len cap m) (hm : m ≤ 800000000) :
    Calls Tryd.prog 22 #[.pointer (some ⟨B, 0, none⟩)] w fun e w' => ∃ v : Int, 0 ≤ v ∧ v ≤ 255 ∧ e = .returned (.int .i64 v) ∧ DS B w0 w' a len cap (m + 2) := by
  have H := h
  obtain ⟨pos, h0, h1, hc, hk, hg⟩ := h
  refine (next_any B w a len cap pos hc hk h0 (by omega)).mono ?_
  rintro e w' ⟨v, hv0, hv1, rfl, hc', ho⟩
  exact ⟨v, hv0, hv1, rfl, H.only ho (by omega) (by omega) hc'⟩
theorem pick_ds (B : Nat) (w0 w : World) (a : Option Addr) (len cap : Nat) (m n : Int) (h : DS B w0 w a len cap m) (hm : m ≤ 800000000) (hn : 2 ≤ n) (hn' : n ≤ 1000000) :
    Calls Tryd.prog 10 #[.pointer (some ⟨B, 0, none⟩), .int .i64 n] w fun e w' => ∃ v : Int, 0 ≤ v ∧ v < n ∧ e = .returned (.int .i64 v) ∧ DS B w0 w' a len cap (m + 2) := by
  have H := h
  obtain ⟨pos, h0, h1, hc, hk, hg⟩ := h
  refine (pick_any B w a len cap pos n hc hk h0 (by omega) hn hn').mono ?_
  rintro e w' ⟨v, pos', hv0, hv1, rfl, hp0, hp1, hc', hk', ho⟩
  exact ⟨v, hv0, hv1, rfl, H.only ho (by omega) (by omega) hc'⟩
theorem bits_ds (B : Nat) (w0 w : World) (a : Option Addr) (len cap : Nat) (m : Int) (h : DS B w0 w a len cap m) (hm : m ≤ 800000000) :
    Calls Tryd.prog 23 #[.pointer (some ⟨B, 0, none⟩)] w fun e w' => ∃ v : Int, (Lit.int .i64 v).wf = true ∧ e = .returned (.int .i64 v) ∧ DS B w0 w' a len cap (m + 8) := by
  have H := h
  obtain ⟨pos, h0, h1, hc, hk, hg⟩ := h
  refine (bits_any B w a len cap pos hc hk h0 (by omega)).mono ?_
  rintro e w' ⟨v, hv, rfl, hc', hk', ho⟩
  exact ⟨v, hv, rfl, H.only ho (by omega) (by omega) hc'⟩
theorem DS.start (w : World) (a : Option Addr) (len cap : Nat) (T : Nat) (hk : Code w.heap.size w a len) : DS w.heap.size w (w.alloc (.cells #[.slice a len cap, .int .i64 0, .int .u64 0] T)) a len cap 0 := by
  refine ⟨0, by omega, by omega, ⟨0, ?_, ?_, ?_, ?_, ?_⟩, hk.below ((Below.refl _ _).alloc (Nat.le_refl _) _), below_grown _ ((Below.refl _ _).alloc (Nat.le_refl _) _)⟩
  all_goals simp [go_sem]
theorem DS.done {w w' : World} {a : Option Addr} {len cap : Nat} {n : Int} (h : DS w.heap.size w w' a len cap n) : Below w.heap.size w w' := by
  obtain ⟨_, _, _, _, _, h⟩ := h
  exact ⟨h.os, h.tape, h.output, h.size, fun k hk => h.block k hk (by intro e; cases e; exact Nat.lt_irrefl _ hk)⟩
end Go.Proofs.YtonobdlncjgfhaaDoor

/- num of the cursor, handed on. -/
namespace Go.Proofs.YtonobdlncjgfhaaDoor
open Go.ChangeShapes Go.WideShapes Go.RowKit

set_option maxHeartbeats 1000000 in
theorem num_ds (B : Nat) (w0 w : World) (a : Option Addr) (len cap : Nat) (m : Int) (h : DS B w0 w a len cap m) (hm : m ≤ 700000000) :
    Calls Tryd.prog 11 #[.pointer (some ⟨B, 0, none⟩)] w fun e w' => ∃ v : Int, (Lit.int .i64 v).wf = true ∧ e = .returned (.int .i64 v) ∧ DS B w0 w' a len cap (m + 20) := by
  have HP : Hid _ := fun (_ : Unit) => pick_ds B w0 w a len cap m 5 h (by omega) (by omega) (by omega)
  clear h
  go_enter Tryd.func11, Tryd.ntmps11
  go_wp2_with fail
  refine (HP.out ()).mono ?_
  rintro e w1 ⟨x, hx0, hx1, rfl, hd1⟩
  have H1 : Hid _ := fun (_ : Unit) => hd1
  clear HP hd1
  have hx : x = 0 ∨ x = 1 ∨ x = 2 ∨ 3 ≤ x := by omega
  rcases hx with rfl | rfl | rfl | hx
  · go_wp2_with fail
    refine (bits_ds B w0 w1 a len cap _ (H1.out ()) (by omega)).mono ?_
    rintro e w2 ⟨v, hv, rfl, hd2⟩
    have H2 : Hid _ := fun (_ : Unit) => And.intro hv hd2
    clear hv hd2
    go_wp2
    go_ret
    exact ⟨v, (H2.out ()).1, rfl, (H2.out ()).2.mono (by omega)⟩
  · go_wp2_with fail
    refine (bits_ds B w0 w1 a len cap _ (H1.out ()) (by omega)).mono ?_
    rintro e w2 ⟨v, hv, rfl, hd2⟩
    have H2 : Hid _ := fun (_ : Unit) => hd2
    clear hv hd2
    go_wp2_with fail
    refine (pick_ds B w0 w2 a len cap _ 64 (H2.out ()) (by omega) (by omega) (by omega)).mono ?_
    rintro e w3 ⟨y, hy0, hy1, rfl, hd3⟩
    have H3 : Hid _ := fun (_ : Unit) => hd3
    clear hd3
    go_wp2
    go_ret
    exact ⟨_, wrap64_wf _, rfl, (H3.out ()).mono (by omega)⟩
  · have HB : Hid _ := fun (O : Obj) => (H1.out ()).below ((Below.refl _ _).alloc (Nat.le_refl _) O)
    have hB := (H1.out ()).fresh
    go_wp2_with fail
    refine (pick_ds B _ _ a len cap _ 9 (HB.out _).self (by omega) (by omega) (by omega)).mono ?_
    rintro e w2 ⟨y, hy0, hy1, rfl, hd2⟩
    have hcell := fun o => hd2.cell ⟨w1.heap.size, o, none⟩ (by simp) hB
    have H2 : Hid _ := fun (_ : Unit) => (HB.out _).join hd2
    clear hd2 HB
    have hy : y = 0 ∨ y = 1 ∨ y = 2 ∨ y = 3 ∨ y = 4 ∨ y = 5 ∨ y = 6 ∨ y = 7 ∨ y = 8 := by omega
    rcases hy with rfl | rfl | rfl | rfl | rfl | rfl | rfl | rfl | rfl
    all_goals
      go_wp2
      go_ret
      exact ⟨_, by decide, rfl, (H2.out ()).mono (by omega)⟩
  · have e0 : (x == 0) = false := beq_eq_false_iff_ne.2 (by omega)
    have e1 : (x == 1) = false := beq_eq_false_iff_ne.2 (by omega)
    have e2 : (x == 2) = false := beq_eq_false_iff_ne.2 (by omega)
    go_wp2_with fail
    refine (pick_ds B w0 w1 a len cap _ 200 (H1.out ()) (by omega) (by omega) (by omega)).mono ?_
    rintro e w2 ⟨y, hy0, hy1, rfl, hd2⟩
    have H2 : Hid _ := fun (_ : Unit) => hd2
    clear hd2
    go_wp2
    go_ret
    exact ⟨_, small_wf _ (by omega) (by omega), rfl, (H2.out ()).mono (by omega)⟩
end Go.Proofs.YtonobdlncjgfhaaDoor

/- DrawNear of the specification. -/
namespace Go.Proofs.YtonobdlncjgfhaaDoor
open Go.ChangeShapes Go.WideShapes Go.RowKit

theorem mid_wf (v : Int) (h0 : -100000 ≤ v) (h1 : v ≤ 100000) : (Lit.int .i64 v).wf = true := by
  have e1 : IntKind.i64.min = -9223372036854775808 := by decide
  have e2 : IntKind.i64.max = 9223372036854775807 := by decide
  simp only [Lit.wf, e1, e2]; simp; omega
set_option maxHeartbeats 4000000 in
set_option maxRecDepth 100000 in
theorem drawNear_any (w : World) (a : Option Addr) (len cap : Nat) (hk : Code w.heap.size w a len) :
    Calls Tryd.prog 4 #[.slice a len cap] w fun e' w' => ∃ (neg : Bool) (n e : Int), (Lit.int .i64 n).wf = true ∧ (Lit.int .i64 e).wf = true ∧ e' = .returned (.tuple #[.bool neg, .int .i64 n, .int .i64 e]) ∧ Below w.heap.size w w' := by
  have HK : Hid _ := fun T => DS.start w a len cap T hk
  clear hk
  go_enter Tryd.func4, Tryd.ntmps4
  go_wp2_with fail
  refine (pick_ds w.heap.size w _ a len cap 0 2 (HK.out _) (by omega) (by omega) (by omega)).mono ?_
  rintro e w1 ⟨x1, _, _, rfl, hd1⟩
  have H1 : Hid _ := fun (_ : Unit) => hd1
  clear hd1
  go_wp2_with fail
  refine (num_ds w.heap.size w _ a len cap _ (H1.out ()) (by omega)).mono ?_
  rintro e w2 ⟨m, hm, rfl, hd2⟩
  have H2 : Hid _ := fun (_ : Unit) => hd2
  have HM : Hid _ := fun (_ : Unit) => hm
  clear hd2 hm H1
  go_wp2_with fail
  refine (pick_ds w.heap.size w _ a len cap _ 2400 (H2.out ()) (by omega) (by omega) (by omega)).mono ?_
  rintro e w3 ⟨x3, hx30, hx31, rfl, hd3⟩
  have H3 : Hid _ := fun (_ : Unit) => hd3
  clear hd3 H2
  go_wp2_with fail
  refine (pick_ds w.heap.size w _ a len cap _ 4 (H3.out ()) (by omega) (by omega) (by omega)).mono ?_
  rintro e w4 ⟨x4, hx40, hx41, rfl, hd4⟩
  have H4 : Hid _ := fun (_ : Unit) => hd4
  clear hd4 H3
  have hx : x4 = 0 ∨ x4 = 1 ∨ x4 = 2 ∨ x4 = 3 := by omega
  clear hx40 hx41
  rcases hx with rfl | rfl | rfl | rfl
  · go_wp2_with fail
    refine (pick_ds w.heap.size w _ a len cap _ 40 (H4.out ()) (by omega) (by omega) (by omega)).mono ?_
    rintro e w5 ⟨x5, hx50, hx51, rfl, hd5⟩
    have H5 : Hid _ := fun (_ : Unit) => hd5
    clear hd5 H4
    go_wp2_with fail
    refine (pick_ds w.heap.size w _ a len cap _ 40 (H5.out ()) (by omega) (by omega) (by omega)).mono ?_
    rintro e wt ⟨xt, hxt0, hxt1, rfl, hdt⟩
    have HT : Hid _ := fun (_ : Unit) => hdt
    clear hdt H5
    by_cases hz : xt = 0
    · subst hz
      have HB : Hid _ := fun (O : Obj) => (HT.out ()).below ((Below.refl _ _).alloc (Nat.le_refl _) O)
      have hB := (HT.out ()).fresh
      go_wp2_with fail
      refine (pick_ds w.heap.size _ _ a len cap _ 4 (HB.out _).self (by omega) (by omega) (by omega)).mono ?_
      rintro e wu ⟨y, hy0, hy1, rfl, hdu⟩
      have hcell := fun o => hdu.cell ⟨wt.heap.size, o, none⟩ (by simp) hB
      have HU : Hid _ := fun (_ : Unit) => (HB.out _).join hdu
      clear hdu HB
      have hy : y = 0 ∨ y = 1 ∨ y = 2 ∨ y = 3 := by omega
      rcases hy with rfl | rfl | rfl | rfl
      all_goals
        go_wp2
        go_ret3
        exact ⟨_, _, _, HM.out (), by decide, rfl, (HU.out ()).done⟩
    · have hz' : (xt == 0) = false := beq_eq_false_iff_ne.2 hz
      go_wp2
      go_ret3
      exact ⟨_, _, _, HM.out (), mid_wf _ (by omega) (by omega), rfl, (HT.out ()).done⟩
  · go_wp2_with fail
    refine (pick_ds w.heap.size w _ a len cap _ 40 (H4.out ()) (by omega) (by omega) (by omega)).mono ?_
    rintro e w5 ⟨x5, hx50, hx51, rfl, hd5⟩
    have H5 : Hid _ := fun (_ : Unit) => hd5
    clear hd5 H4
    go_wp2_with fail
    refine (pick_ds w.heap.size w _ a len cap _ 40 (H5.out ()) (by omega) (by omega) (by omega)).mono ?_
    rintro e wt ⟨xt, hxt0, hxt1, rfl, hdt⟩
    have HT : Hid _ := fun (_ : Unit) => hdt
    clear hdt H5
    by_cases hz : xt = 0
    · subst hz
      have HB : Hid _ := fun (O : Obj) => (HT.out ()).below ((Below.refl _ _).alloc (Nat.le_refl _) O)
      have hB := (HT.out ()).fresh
      go_wp2_with fail
      refine (pick_ds w.heap.size _ _ a len cap _ 4 (HB.out _).self (by omega) (by omega) (by omega)).mono ?_
      rintro e wu ⟨y, hy0, hy1, rfl, hdu⟩
      have hcell := fun o => hdu.cell ⟨wt.heap.size, o, none⟩ (by simp) hB
      have HU : Hid _ := fun (_ : Unit) => (HB.out _).join hdu
      clear hdu HB
      have hy : y = 0 ∨ y = 1 ∨ y = 2 ∨ y = 3 := by omega
      rcases hy with rfl | rfl | rfl | rfl
      all_goals
        go_wp2
        go_ret3
        exact ⟨_, _, _, HM.out (), by decide, rfl, (HU.out ()).done⟩
    · have hz' : (xt == 0) = false := beq_eq_false_iff_ne.2 hz
      go_wp2
      go_ret3
      exact ⟨_, _, _, HM.out (), mid_wf _ (by omega) (by omega), rfl, (HT.out ()).done⟩
  · go_wp2_with fail
    refine (pick_ds w.heap.size w _ a len cap _ 5 (H4.out ()) (by omega) (by omega) (by omega)).mono ?_
    rintro e w5 ⟨x5, hx50, hx51, rfl, hd5⟩
    have H5 : Hid _ := fun (_ : Unit) => hd5
    clear hd5 H4
    go_wp2_with fail
    refine (pick_ds w.heap.size w _ a len cap _ 10 (H5.out ()) (by omega) (by omega) (by omega)).mono ?_
    rintro e w6 ⟨x6, hx60, hx61, rfl, hd6⟩
    have H6 : Hid _ := fun (_ : Unit) => hd6
    clear hd6 H5
    go_wp2_with fail
    refine (pick_ds w.heap.size w _ a len cap _ 3 (H6.out ()) (by omega) (by omega) (by omega)).mono ?_
    rintro e w7 ⟨x7, hx70, hx71, rfl, hd7⟩
    have H7 : Hid _ := fun (_ : Unit) => hd7
    clear hd7 H6
    go_wp2_with fail
    refine (pick_ds w.heap.size w _ a len cap _ 40 (H7.out ()) (by omega) (by omega) (by omega)).mono ?_
    rintro e wt ⟨xt, hxt0, hxt1, rfl, hdt⟩
    have HT : Hid _ := fun (_ : Unit) => hdt
    clear hdt H7
    by_cases hz : xt = 0
    · subst hz
      have HB : Hid _ := fun (O : Obj) => (HT.out ()).below ((Below.refl _ _).alloc (Nat.le_refl _) O)
      have hB := (HT.out ()).fresh
      go_wp2_with fail
      refine (pick_ds w.heap.size _ _ a len cap _ 4 (HB.out _).self (by omega) (by omega) (by omega)).mono ?_
      rintro e wu ⟨y, hy0, hy1, rfl, hdu⟩
      have hcell := fun o => hdu.cell ⟨wt.heap.size, o, none⟩ (by simp) hB
      have HU : Hid _ := fun (_ : Unit) => (HB.out _).join hdu
      clear hdu HB
      have hy : y = 0 ∨ y = 1 ∨ y = 2 ∨ y = 3 := by omega
      rcases hy with rfl | rfl | rfl | rfl
      all_goals
        go_wp2
        go_ret3
        exact ⟨_, _, _, wrap64_wf _, by decide, rfl, (HU.out ()).done⟩
    · have hz' : (xt == 0) = false := beq_eq_false_iff_ne.2 hz
      go_wp2
      go_ret3
      exact ⟨_, _, _, wrap64_wf _, mid_wf _ (by omega) (by omega), rfl, (HT.out ()).done⟩
  · go_wp2_with fail
    refine (pick_ds w.heap.size w _ a len cap _ 40 (H4.out ()) (by omega) (by omega) (by omega)).mono ?_
    rintro e wt ⟨xt, hxt0, hxt1, rfl, hdt⟩
    have HT : Hid _ := fun (_ : Unit) => hdt
    clear hdt H4
    by_cases hz : xt = 0
    · subst hz
      have HB : Hid _ := fun (O : Obj) => (HT.out ()).below ((Below.refl _ _).alloc (Nat.le_refl _) O)
      have hB := (HT.out ()).fresh
      go_wp2_with fail
      refine (pick_ds w.heap.size _ _ a len cap _ 4 (HB.out _).self (by omega) (by omega) (by omega)).mono ?_
      rintro e wu ⟨y, hy0, hy1, rfl, hdu⟩
      have hcell := fun o => hdu.cell ⟨wt.heap.size, o, none⟩ (by simp) hB
      have HU : Hid _ := fun (_ : Unit) => (HB.out _).join hdu
      clear hdu HB
      have hy : y = 0 ∨ y = 1 ∨ y = 2 ∨ y = 3 := by omega
      rcases hy with rfl | rfl | rfl | rfl
      all_goals
        go_wp2
        go_ret3
        exact ⟨_, _, _, HM.out (), by decide, rfl, (HU.out ()).done⟩
    · have hz' : (xt == 0) = false := beq_eq_false_iff_ne.2 hz
      go_wp2
      go_ret3
      exact ⟨_, _, _, HM.out (), mid_wf _ (by omega) (by omega), rfl, (HT.out ()).done⟩
end Go.Proofs.YtonobdlncjgfhaaDoor

/- The bytes of a slice that came in. -/
namespace Go.Proofs.YtonobdlncjgfhaaDoor
open Go.ChangeShapes Go.WideShapes Go.RowKit

/-- The bytes of a slice that came in. -/
def Bts (w : World) (a : Option Addr) (len : Nat) : Prop := len ≤ 1048576 ∧ ∀ i : Nat, i < len → ∃ x : Addr, a = some x ∧ ∃ z : Int, 0 ≤ z ∧ z ≤ 255 ∧ w.cell? (x.add i) = some (.int .u8 z)
theorem Bts.below {w w' : World} {a : Option Addr} {len : Nat} (h : Bts w a len) (hb : Below w.heap.size w w') : Bts w' a len :=
  ⟨h.1, fun i hi => by
    obtain ⟨x, hx, z, h0, h1, hc⟩ := h.2 i hi
    exact ⟨x, hx, z, h0, h1, by rw [hb.cell (cell_lt hc)]; exact hc⟩⟩
theorem Bts.code {w : World} {a : Option Addr} {len : Nat} (h : Bts w a len) : Code w.heap.size w a len :=
  ⟨h.1, fun i hi => by
    obtain ⟨x, hx, z, h0, h1, hc⟩ := h.2 i hi
    have hl := cell_lt hc
    refine ⟨x, hx, fun e => ?_, z, h0, h1, hc⟩
    have : (x.add i).block = x.block := by unfold Addr.add; split <;> rfl
    omega⟩
/-- A slice of bytes that came in: nil, or it leads to a row of cells that hold bytes. -/
def IsRow (w : World) (a : Option Addr) (len cap : Nat) (zs : List Int) : Prop :=
  (a = none ∧ len = 0 ∧ cap = 0 ∧ zs = []) ∨
  ∃ x, a = some x ∧ len ≤ cap ∧ cap ≤ maxLen ∧ zs.length = cap ∧ (∀ i, i < zs.length → w.cell? (x.add i) = some (.int .u8 (zs.getD i 0))) ∧ ∀ n ∈ zs, (Lit.int .u8 n).wf = true
theorem IsRow.bts {w : World} {a : Option Addr} {len cap : Nat} {zs : List Int} (h : IsRow w a len cap zs) (hl : len ≤ 1048576) : Bts w a len := by
  refine ⟨hl, fun i hi => ?_⟩
  rcases h with ⟨_, rfl, _, _⟩ | ⟨x, rfl, hlc, _, hz, hc, hw⟩
  · omega
  · have hi' : i < zs.length := by omega
    have hm : zs.getD i 0 ∈ zs := by
      have e : zs.getD i 0 = zs[i] := by simp [List.getD, List.getElem?_eq_getElem hi']
      rw [e]; exact List.getElem_mem hi'
    have hb := bounds_u8 (hw _ hm)
    exact ⟨x, rfl, zs.getD i 0, hb.1, hb.2, hc i hi'⟩
theorem IsRow.len {w : World} {a : Option Addr} {len cap : Nat} {zs : List Int} (h : IsRow w a len cap zs) : len ≤ maxLen := by
  rcases h with ⟨_, rfl, _, _⟩ | ⟨x, _, hlc, hm, _, _, _⟩
  · exact Nat.zero_le _
  · omega
end Go.Proofs.YtonobdlncjgfhaaDoor

/- Big numbers as lists of parts of 32 bits: plain facts; no program is spoken of here. -/
namespace Go.Proofs.YtonobdlncjgfhaaDoor
open Go.RowKit

/-- The value of parts, the lowest first. -/
def bval : List Nat → Nat
  | [] => 0
  | x :: r => x + 4294967296 * bval r
def Lim (ls : List Nat) : Prop := ∀ x ∈ ls, x < 4294967296
/-- The parts without zeros at their end. -/
def btrim : List Nat → List Nat
  | [] => []
  | x :: r => if btrim r = [] ∧ x = 0 then [] else x :: btrim r
theorem bval_append (a b : List Nat) : bval (a ++ b) = bval a + 4294967296 ^ a.length * bval b := by
  induction a with
  | nil => simp [bval]
  | cons x r ih =>
    simp only [List.cons_append, bval, ih, List.length_cons, Nat.pow_succ, Nat.mul_add]
    rw [← Nat.mul_assoc, Nat.mul_comm 4294967296 (4294967296 ^ r.length)]
    omega
theorem bval_trim (a : List Nat) : bval (btrim a) = bval a := by
  induction a with
  | nil => rfl
  | cons x r ih =>
    unfold btrim
    split
    · rename_i h
      rw [h.1] at ih
      simp only [bval] at ih ⊢
      omega
    · simp only [bval, ih]
theorem btrim_length (a : List Nat) : (btrim a).length ≤ a.length := by
  induction a with
  | nil => exact Nat.le_refl _
  | cons x r ih =>
    unfold btrim
    split <;> simp <;> omega
theorem btrim_prefix (a : List Nat) : btrim a = a.take (btrim a).length := by
  induction a with
  | nil => rfl
  | cons x r ih =>
    unfold btrim
    split
    · simp
    · simp only [List.length_cons, List.take_succ_cons]; rw [← ih]
theorem btrim_lim {a : List Nat} (h : Lim a) : Lim (btrim a) := by
  intro x hx
  rw [btrim_prefix] at hx
  exact h x (List.mem_of_mem_take hx)
theorem btrim_snoc_zero (a : List Nat) : btrim (a ++ [0]) = btrim a := by
  induction a with
  | nil => simp [btrim]
  | cons x r ih => simp only [List.cons_append, btrim, ih]
theorem btrim_snoc (a : List Nat) (x : Nat) (hx : x ≠ 0) : btrim (a ++ [x]) = a ++ [x] := by
  induction a with
  | nil => simp [btrim, hx]
  | cons y r ih => simp [btrim, ih]
/-- No zero at the end. -/
def Trim (ls : List Nat) : Prop := btrim ls = ls
theorem btrim_trim (a : List Nat) : Trim (btrim a) := by
  unfold Trim
  induction a with
  | nil => rfl
  | cons x r ih =>
    by_cases h : btrim r = [] ∧ x = 0
    · simp [btrim, h]
    · have e : btrim (x :: r) = x :: btrim r := by simp only [btrim]; rw [if_neg h]
      rw [e]
      simp only [btrim, ih]
      rw [if_neg h]
theorem part_snoc (a : List Nat) (k : Nat) (h : k < a.length) : a.take (k + 1) = a.take k ++ [a.getD k 0] := by
  rw [List.take_add_one, List.getElem?_eq_getElem h]
  simp [List.getElem?_eq_getElem h]
theorem trim_take_zero (a : List Nat) (k : Nat) (h : k < a.length) (hz : a.getD k 0 = 0) : btrim (a.take (k + 1)) = btrim (a.take k) := by
  rw [part_snoc a k h, hz, btrim_snoc_zero]
theorem trim_take_some (a : List Nat) (k : Nat) (h : k < a.length) (hz : a.getD k 0 ≠ 0) : btrim (a.take (k + 1)) = a.take (k + 1) := by
  rw [part_snoc a k h, btrim_snoc _ _ hz]
theorem bval_lt {a : List Nat} (h : Lim a) : bval a < 4294967296 ^ a.length := by
  induction a with
  | nil => simp [bval]
  | cons x r ih =>
    have hx := h x (by simp)
    have hr := ih fun y hy => h y (by simp [hy])
    simp only [bval, List.length_cons, Nat.pow_succ]
    generalize 4294967296 ^ r.length = q at *
    omega
theorem trim_last {a : List Nat} (ht : Trim a) (hn : a ≠ []) : 4294967296 ^ (a.length - 1) ≤ bval a ∧ a.getD (a.length - 1) 0 ≠ 0 := by
  induction a with
  | nil => exact absurd rfl hn
  | cons x r ih =>
    by_cases hr : r = []
    · subst hr
      unfold Trim at ht
      by_cases hx : x = 0
      · subst hx; simp [btrim] at ht
      · simp [bval, hx]; omega
    · have htr : Trim r := by
        unfold Trim at ht ⊢
        by_cases h : btrim r = [] ∧ x = 0
        · simp only [btrim] at ht; rw [if_pos h] at ht; cases ht
        · simp only [btrim] at ht; rw [if_neg h] at ht; exact (List.cons.inj ht).2
      obtain ⟨i1, i2⟩ := ih htr hr
      have hl : 0 < r.length := List.length_pos_iff.2 hr
      obtain ⟨n, hn'⟩ : ∃ n, r.length = n + 1 := ⟨r.length - 1, by omega⟩
      constructor
      · simp only [bval, List.length_cons, Nat.add_sub_cancel]
        rw [hn'] at i1 ⊢
        rw [Nat.add_sub_cancel] at i1
        rw [Nat.pow_succ]
        omega
      · rw [List.length_cons, Nat.add_sub_cancel, hn'] 
        rw [hn', Nat.add_sub_cancel] at i2
        simpa using i2
theorem trim_nil_iff {a : List Nat} (ht : Trim a) : a = [] ↔ bval a = 0 := by
  constructor
  · rintro rfl; rfl
  · intro h
    apply Classical.byContradiction
    intro hn
    have := (trim_last ht hn).1
    have := Nat.pow_pos (n := a.length - 1) (show 0 < 4294967296 by omega)
    omega
theorem take_val (a : List Nat) (k : Nat) (h : k < a.length) : bval (a.take (k + 1)) = bval (a.take k) + 4294967296 ^ k * a.getD k 0 := by
  rw [part_snoc a k h, bval_append, List.length_take, Nat.min_eq_left (by omega)]
  simp [bval]
end Go.Proofs.YtonobdlncjgfhaaDoor

