import Derived.Test.YtpmccbkhkaoccaaGreatDoorB09
import Derived.WalkKit
import Derived.WalkSpells
import Derived.WalkLawsBesides
import Derived.Outline
import Derived.BigQuiet
import Derived.Deep.QuietTactic
import Derived.Laws.BitsAllLaws
import Derived.Deep.AppendLies
import Derived.Test.YtpmccbkhkaoccaaGreatDoorB22
import Derived.Test.YtpmccbkhkaoccaaGreatDoorB03
/- The cursor that draws choices from bytes: it returns, whatever the bytes; it writes into its own block alone. -/
namespace Go.Proofs.YtpmccbkhkaoccaaGreatDoor
open Go.ChangeShapes Go.WideShapes Go.RowKit

/-- The bytes of a slice that came in: its cells hold bytes, and lie in another block than B. -/
def Code (B : Nat) (w : World) (a : Option Addr) (len : Nat) : Prop := len ≤ 1048576 ∧ ∀ i : Nat, i < len → ∃ x : Addr, a = some x ∧ x.block ≠ B ∧ ∃ z : Int, 0 ≤ z ∧ z ≤ 255 ∧ w.cell? (x.add i) = some (.int .u8 z)
/-- The cursor in block B. -/
def Cur (B : Nat) (w : World) (a : Option Addr) (len cap : Nat) (pos : Int) : Prop :=
  ∃ seed : Int, w.cell? ⟨B, 0, none⟩ = some (.slice a len cap) ∧ w.cell? ⟨B, 1, none⟩ = some (.int .i64 pos) ∧ w.cell? ⟨B, 2, none⟩ = some (.int .u64 seed)
    ∧ w.frozen? ⟨B, 1, none⟩ = false ∧ w.frozen? ⟨B, 2, none⟩ = false
theorem Code.only {B : Nat} {w w' : World} {a : Option Addr} {len : Nat} (h : Code B w a len) (ho : Only B w w') : Code B w' a len :=
  ⟨h.1, fun i hi => by
    obtain ⟨x, hx, hb, z, h0, h1, hc⟩ := h.2 i hi
    exact ⟨x, hx, hb, z, h0, h1, by rw [ho.cell (by unfold Addr.add; split <;> exact hb)]; exact hc⟩⟩

theorem Cur.below {B C : Nat} {w w' : World} {a : Option Addr} {len cap : Nat} {pos : Int} (h : Cur B w a len cap pos) (hb : Below C w w') (hB : B < C) : Cur B w' a len cap pos := by
  obtain ⟨seed, c0, c1, c2, f1, f2⟩ := h
  exact ⟨seed, by rw [hb.cell (p := ⟨B, 0, none⟩) hB]; exact c0, by rw [hb.cell (p := ⟨B, 1, none⟩) hB]; exact c1, by rw [hb.cell (p := ⟨B, 2, none⟩) hB]; exact c2, by rw [hb.frozen (p := ⟨B, 1, none⟩) hB]; exact f1, by rw [hb.frozen (p := ⟨B, 2, none⟩) hB]; exact f2⟩
theorem Code.below {B : Nat} {w w' : World} {a : Option Addr} {len : Nat} (h : Code B w a len) (hb : Below w.heap.size w w') : Code B w' a len :=
  ⟨h.1, fun i hi => by
    obtain ⟨x, hx, hne, z, h0, h1, hc⟩ := h.2 i hi
    exact ⟨x, hx, hne, z, h0, h1, by rw [hb.cell (cell_lt hc)]; exact hc⟩⟩
theorem low8 (X : Int) (h0 : 0 ≤ X) (h1 : X < 18446744073709551616) : 0 ≤ wrap64 (bits .and .u64 X 255) ∧ wrap64 (bits .and .u64 X 255) ≤ 255 := by
  rw [u64_and X 255 h0 h1 (by omega) (by omega)]
  have h := Nat.and_le_right (n := X.toNat) (m := (255 : Int).toNat)
  have e : (255 : Int).toNat = 255 := rfl
  rw [e] at h ⊢
  generalize X.toNat &&& 255 = k at *
  unfold wrap64
  omega
theorem u64_in (x : Int) : 0 ≤ IntKind.u64.wrap x ∧ IntKind.u64.wrap x < 18446744073709551616 := by rw [IntKind.wrap_u64]; omega

set_option maxHeartbeats 400000 in
theorem next_any (B : Nat) (w : World) (a : Option Addr) (len cap : Nat) (pos : Int) (hc : Cur B w a len cap pos) (hk : Code B w a len) (h0 : 0 ≤ pos) (h1 : pos ≤ 1000000000) :
    Calls Tryz.prog 88 #[.pointer (some ⟨B, 0, none⟩)] w fun e w' => ∃ v : Int, 0 ≤ v ∧ v ≤ 255 ∧ e = .returned (.int .i64 v) ∧ Cur B w' a len cap (pos + 1) ∧ Only B w w' := by
  obtain ⟨seed, c0, c1, c2, f1, f2⟩ := hc
  by_cases hlt : pos < len
  · obtain ⟨hlen, hk⟩ := hk
    obtain ⟨x, rfl, hb, z, hz0, hz1, hx⟩ := hk pos.toNat (by omega)
    clear hk
    go_enter Tryz.func88, Tryz.ntmps88
    go_wp2
    go_quiet (fail)
    go_wp2
    go_quiet (fail)
    go_wp2
    go_ret
    exact ⟨z, hz0, hz1, rfl, ⟨_, by simp [go_sem, c0], by simp [go_sem, c1], by simp [go_sem, c2]; rfl, by simp [go_sem, f1], by simp [go_sem, f2]⟩, (((Only.refl _ _).drewN _).setCell _ _).setCell _ _⟩
  · go_enter Tryz.func88, Tryz.ntmps88
    clear hk
    go_wp2
    go_quiet (fail)
    go_wp2
    have hl := low8 (IntKind.u64.wrap (IntKind.u64.wrap (seed * 6364136223846793005) + 1442695040888963407) / 1099511627776) (by have := u64_in (IntKind.u64.wrap (seed * 6364136223846793005) + 1442695040888963407); omega) (by have := u64_in (IntKind.u64.wrap (seed * 6364136223846793005) + 1442695040888963407); omega)
    go_ret
    exact ⟨_, hl.1, hl.2, rfl, ⟨_, by simp [go_sem, c0], by simp [go_sem, c1], by simp [go_sem, c2]; rfl, by simp [go_sem, f1], by simp [go_sem, f2]⟩, (((Only.refl _ _).drewN _).setCell _ _).setCell _ _⟩
end Go.Proofs.YtpmccbkhkaoccaaGreatDoor

/- The cursor: pick, bits, num; the int that bytes tell. -/
namespace Go.Proofs.YtpmccbkhkaoccaaGreatDoor
open Go.ChangeShapes Go.WideShapes Go.RowKit

set_option maxHeartbeats 400000 in
theorem pick_any (B : Nat) (w : World) (a : Option Addr) (len cap : Nat) (pos n : Int) (hc : Cur B w a len cap pos) (hk : Code B w a len) (h0 : 0 ≤ pos) (h1 : pos ≤ 900000000) (hn : 2 ≤ n) (hn' : n ≤ 1000000) :
    Calls Tryz.prog 57 #[.pointer (some ⟨B, 0, none⟩), .int .i64 n] w fun e w' => ∃ v pos' : Int, 0 ≤ v ∧ v < n ∧ e = .returned (.int .i64 v) ∧ pos ≤ pos' ∧ pos' ≤ pos + 2 ∧ Cur B w' a len cap pos' ∧ Code B w' a len ∧ Only B w w' := by
  have HN : Hid _ := fun (_ : Unit) => next_any B w a len cap pos hc hk h0 (by omega)
  have HK : Hid _ := fun (_ : Unit) => hk
  clear hc hk
  go_enter Tryz.func57, Tryz.ntmps57
  go_wp2_with fail
  refine (HN.out ()).mono ?_
  rintro e w1 ⟨x, hx0, hx1, rfl, hc1, ho1⟩
  have hk1 := (HK.out ()).only ho1
  by_cases hs : 200 < n
  · have HN2 : Hid _ := fun (_ : Unit) => next_any B w1 a len cap (pos + 1) hc1 hk1 (by omega) (by omega)
    have HO : Hid _ := fun (_ : Unit) => ho1
    have HK1 : Hid _ := fun (_ : Unit) => hk1
    clear hc1 ho1 hk1 HN HK
    go_wp2_with fail
    refine (HN2.out ()).mono ?_
    rintro e w2 ⟨y, hy0, hy1, rfl, hc2, ho2⟩
    have HO2 : Hid _ := fun (_ : Unit) => ho2
    have HC2 : Hid _ := fun (_ : Unit) => hc2
    clear hc2 ho2 HN2
    have hm0 : 0 ≤ (x * 256 + y) % n := Int.emod_nonneg _ (by omega)
    have hm1 : (x * 256 + y) % n < n := Int.emod_lt_of_pos _ (by omega)
    go_wp2
    go_ret
    exact ⟨_, _, hm0, hm1, rfl, by omega, by omega, HC2.out (), (HK1.out ()).only (HO2.out ()), (HO.out ()).trans (HO2.out ())⟩
  · have HO : Hid _ := fun (_ : Unit) => ho1
    have HC1 : Hid _ := fun (_ : Unit) => hc1
    have HK1 : Hid _ := fun (_ : Unit) => hk1
    clear hc1 ho1 hk1 HN HK
    have hm0 : 0 ≤ x % n := Int.emod_nonneg _ (by omega)
    have hm1 : x % n < n := Int.emod_lt_of_pos _ (by omega)
    go_wp2
    go_ret
    exact ⟨_, _, hm0, hm1, rfl, by omega, by omega, HC1.out (), HK1.out (), HO.out ()⟩

set_option maxHeartbeats 400000 in
theorem bits_any (B : Nat) (w : World) (a : Option Addr) (len cap : Nat) (pos : Int) (hc : Cur B w a len cap pos) (hk : Code B w a len) (h0 : 0 ≤ pos) (h1 : pos ≤ 900000000) :
    Calls Tryz.prog 59 #[.pointer (some ⟨B, 0, none⟩)] w fun e w' => ∃ v : Int, (Lit.int .i64 v).wf = true ∧ e = .returned (.int .i64 v) ∧ Cur B w' a len cap (pos + 8) ∧ Code B w' a len ∧ Only B w w' := by
  have HS : Hid _ := fun (_ : Unit) => And.intro hc hk
  clear hc hk
  go_enter Tryz.func59, Tryz.ntmps59
  go_wp2
  go_loopw [3, 4] (fun n k wl => ∃ (j : Nat) (N : Int), j ≤ 8 ∧ n = .int .u64 N ∧ k = .int .i64 j ∧ Hid (Cur B wl a len cap (pos + j) ∧ Code B wl a len ∧ Only B w wl)) (fun _ k _ => 8 - (intOf k).toNat)
  case atStart => exact ⟨0, 0, by omega, rfl, rfl, by have := (HS.out ()).1; simpa using this, (HS.out ()).2, Only.refl _ _⟩
  case round =>
    obtain ⟨j, N, hj, rfl, rfl, HR⟩ := hrel
    by_cases hlt : j < 8
    · obtain ⟨hc, hk, ho⟩ := HR.out
      have HN : Hid _ := fun (_ : Unit) => next_any B wr a len cap (pos + j) hc hk (by omega) (by omega)
      have HX : Hid _ := fun (_ : Unit) => And.intro hk ho
      clear hc hk ho HR
      go_wp2_with fail
      refine (HN.out ()).mono ?_
      rintro e w1 ⟨x, hx0, hx1, rfl, hc1, ho1⟩
      have HY : Hid _ := fun (_ : Unit) => And.intro hc1 ho1
      clear hc1 ho1 HN
      go_wp2
      refine ⟨⟨j + 1, _, by omega, rfl, by go_num, ?_, (HX.out ()).1.only (HY.out ()).2, (HX.out ()).2.trans (HY.out ()).2⟩, by simp [intOf]; omega⟩
      have h := (HY.out ()).1
      rw [show pos + ((j + 1 : Nat) : Int) = pos + (j : Int) + 1 by omega]
      exact h
    · have e8 : j = 8 := by omega
      subst e8
      go_wp2
      go_ret
      exact ⟨_, wrap64_wf N, rfl, HR.out⟩

theorem small_wf (v : Int) (h0 : -1000 ≤ v) (h1 : v ≤ 1000) : (Lit.int .i64 v).wf = true := by
  refine WalkArith.wf_i64 ?_; omega
theorem Only.toBelow {B : Nat} {a b c : World} (h : Only B a b) (k : Below B b c) : Below B a c := (h.below (Nat.le_refl _)).trans k
end Go.Proofs.YtpmccbkhkaoccaaGreatDoor

/- The cursor, as a state that is handed on. -/
namespace Go.Proofs.YtpmccbkhkaoccaaGreatDoor
open Go.ChangeShapes Go.WideShapes Go.RowKit

/-- The cursor stands at some place up to n; nothing but its own block has been written into since w0. -/
def DS (B : Nat) (w0 w : World) (a : Option Addr) (len cap : Nat) (n : Int) : Prop := ∃ pos : Int, 0 ≤ pos ∧ pos ≤ n ∧ Cur B w a len cap pos ∧ Code B w a len ∧ w0.grownBy w (some B)
theorem grown_trans {a b c : World} {r : Option Nat} (h : a.grownBy b r) (k : b.grownBy c r) : a.grownBy c r :=
  ⟨k.os.trans h.os, k.tape.trans h.tape, k.output.trans h.output, Nat.le_trans h.size k.size, fun x hx hr => (k.block x (Nat.lt_of_lt_of_le hx h.size) hr).trans (h.block x hx hr)⟩
theorem grown_refl (a : World) (r : Option Nat) : a.grownBy a r := ⟨rfl, rfl, rfl, Nat.le_refl _, fun _ _ _ => rfl⟩
theorem Only.grown {B : Nat} {w w' : World} (h : Only B w w') : w.grownBy w' (some B) := ⟨h.1, h.2.1, h.2.2.1, by rw [h.2.2.2.1]; exact Nat.le_refl _, fun k _ hr => h.2.2.2.2 k (fun e => hr (by rw [e]))⟩
theorem below_grown {w w' : World} (r : Option Nat) (h : Below w.heap.size w w') : w.grownBy w' r := ⟨h.os, h.tape, h.output, h.size, fun k hk _ => h.block k hk⟩
theorem cur_lt {B : Nat} {w : World} {a : Option Addr} {len cap : Nat} {pos : Int} (h : Cur B w a len cap pos) : B < w.heap.size := by
  obtain ⟨_, c0, _⟩ := h
  exact cell_lt c0
theorem DS.below {B : Nat} {w0 w w' : World} {a : Option Addr} {len cap : Nat} {n : Int} (h : DS B w0 w a len cap n) (hb : Below w.heap.size w w') : DS B w0 w' a len cap n := by
  obtain ⟨pos, h0, h1, hc, hk, hg⟩ := h
  exact ⟨pos, h0, h1, hc.below hb (cur_lt hc), hk.below hb, grown_trans hg (below_grown _ hb)⟩
theorem DS.mono {B : Nat} {w0 w : World} {a : Option Addr} {len cap : Nat} {n m : Int} (h : DS B w0 w a len cap n) (hm : n ≤ m) : DS B w0 w a len cap m := by
  obtain ⟨pos, h0, h1, h2⟩ := h
  exact ⟨pos, h0, by omega, h2⟩
theorem DS.only {B : Nat} {w0 w w' : World} {a : Option Addr} {len cap : Nat} {n m : Int} {pos : Int} (h : DS B w0 w a len cap n) (ho : Only B w w') (h0 : 0 ≤ pos) (h1 : pos ≤ m) (hc : Cur B w' a len cap pos) : DS B w0 w' a len cap m := by
  obtain ⟨_, _, _, _, hk, hg⟩ := h
  exact ⟨pos, h0, h1, hc, hk.only ho, grown_trans hg ho.grown⟩
theorem DS.self {B : Nat} {w0 w : World} {a : Option Addr} {len cap : Nat} {n : Int} (h : DS B w0 w a len cap n) : DS B w w a len cap n := by
  obtain ⟨pos, h0, h1, h2, h3, _⟩ := h
  exact ⟨pos, h0, h1, h2, h3, grown_refl _ _⟩
theorem DS.join {B : Nat} {w0 w w' : World} {a : Option Addr} {len cap : Nat} {n m : Int} (h : DS B w0 w a len cap n) (k : DS B w w' a len cap m) : DS B w0 w' a len cap m := by
  obtain ⟨_, _, _, _, _, hg⟩ := h
  obtain ⟨pos, h0, h1, h2, h3, h4⟩ := k
  exact ⟨pos, h0, h1, h2, h3, grown_trans hg h4⟩
theorem DS.cell {B : Nat} {w w' : World} {a : Option Addr} {len cap : Nat} {m : Int} (k : DS B w w' a len cap m) (p : Addr) (hp : p.block < w.heap.size) (hB : p.block ≠ B) : w'.cell? p = w.cell? p := by
  obtain ⟨pos, h0, h1, h2, h3, h4⟩ := k
  exact h4.cell_far p hp (by intro h; cases h; exact hB rfl)
theorem DS.fresh {B : Nat} {w0 w : World} {a : Option Addr} {len cap : Nat} {n : Int} (h : DS B w0 w a len cap n) : w.heap.size ≠ B := by
  obtain ⟨pos, _, _, hc, _⟩ := h
  have := cur_lt hc
  omega
theorem next_ds (B : Nat) (w0 w : World) (a : Option Addr) (len cap : Nat) (m : Int) (h : DS B w0 w a len cap m) (hm : m ≤ 800000000) :
    Calls Tryz.prog 88 #[.pointer (some ⟨B, 0, none⟩)] w fun e w' => ∃ v : Int, 0 ≤ v ∧ v ≤ 255 ∧ e = .returned (.int .i64 v) ∧ DS B w0 w' a len cap (m + 2) := by
  have H := h
  obtain ⟨pos, h0, h1, hc, hk, hg⟩ := h
  refine (next_any B w a len cap pos hc hk h0 (by omega)).mono ?_
  rintro e w' ⟨v, hv0, hv1, rfl, hc', ho⟩
  exact ⟨v, hv0, hv1, rfl, H.only ho (by omega) (by omega) hc'⟩
theorem pick_ds (B : Nat) (w0 w : World) (a : Option Addr) (len cap : Nat) (m n : Int) (h : DS B w0 w a len cap m) (hm : m ≤ 800000000) (hn : 2 ≤ n) (hn' : n ≤ 1000000) :
    Calls Tryz.prog 57 #[.pointer (some ⟨B, 0, none⟩), .int .i64 n] w fun e w' => ∃ v : Int, 0 ≤ v ∧ v < n ∧ e = .returned (.int .i64 v) ∧ DS B w0 w' a len cap (m + 2) := by
  have H := h
  obtain ⟨pos, h0, h1, hc, hk, hg⟩ := h
  refine (pick_any B w a len cap pos n hc hk h0 (by omega) hn hn').mono ?_
  rintro e w' ⟨v, pos', hv0, hv1, rfl, hp0, hp1, hc', hk', ho⟩
  exact ⟨v, hv0, hv1, rfl, H.only ho (by omega) (by omega) hc'⟩
theorem bits_ds (B : Nat) (w0 w : World) (a : Option Addr) (len cap : Nat) (m : Int) (h : DS B w0 w a len cap m) (hm : m ≤ 800000000) :
    Calls Tryz.prog 59 #[.pointer (some ⟨B, 0, none⟩)] w fun e w' => ∃ v : Int, (Lit.int .i64 v).wf = true ∧ e = .returned (.int .i64 v) ∧ DS B w0 w' a len cap (m + 8) := by
  have H := h
  obtain ⟨pos, h0, h1, hc, hk, hg⟩ := h
  refine (bits_any B w a len cap pos hc hk h0 (by omega)).mono ?_
  rintro e w' ⟨v, hv, rfl, hc', hk', ho⟩
  exact ⟨v, hv, rfl, H.only ho (by omega) (by omega) hc'⟩
theorem DS.start (w : World) (a : Option Addr) (len cap : Nat) (T : Nat) (hk : Code w.heap.size w a len) : DS w.heap.size w (w.alloc (.cells #[.slice a len cap, .int .i64 0, .int .u64 0] T)) a len cap 0 := by
  refine ⟨0, by omega, by omega, ⟨0, ?_, ?_, ?_, ?_, ?_⟩, hk.below ((Below.refl _ _).alloc (Nat.le_refl _) _), below_grown _ ((Below.refl _ _).alloc (Nat.le_refl _) _)⟩
  all_goals simp [go_sem]
theorem DS.done {w w' : World} {a : Option Addr} {len cap : Nat} {n : Int} (h : DS w.heap.size w w' a len cap n) : Below w.heap.size w w' := by
  obtain ⟨_, _, _, _, _, h⟩ := h
  exact ⟨h.os, h.tape, h.output, h.size, fun k hk => h.block k hk (by intro e; cases e; exact Nat.lt_irrefl _ hk)⟩
end Go.Proofs.YtpmccbkhkaoccaaGreatDoor

/- l7digits of the specification: drawn digits. -/
namespace Go.Proofs.YtpmccbkhkaoccaaGreatDoor
open Go.ChangeShapes Go.WideShapes Go.RowKit

/-- An append to a row that lies above leaves the cursor and the bytes as they are. -/
theorem DS.append {B : Nat} {w wr w1 : World} {a : Option Addr} {len cap : Nat} {n : Int} {u : Value} {o : Obj} (h : DS B w wr a len cap n) (hk : Code B w a len) (hB : B < w.heap.size)
    (hg : (wr.alloc o).grownBy w1 u.ownBlock) (hu : ∀ g, u.ownBlock = some g → w.heap.size ≤ g) : DS B w w1 a len cap n := by
  obtain ⟨pos, h0, h1, hc, _, hw⟩ := h
  have hsz : w.heap.size ≤ wr.heap.size := hw.size
  have key : ∀ k, k < w.heap.size → w1.heap[k]? = wr.heap[k]? := fun k hk => by
    rw [hg.block k (by simp; omega) (by intro e; have := hu k e.symm; omega)]
    exact ((Below.refl wr.heap.size wr).alloc (Nat.le_refl _) o).block k (by omega)
  have g1 : w.grownBy w1 (some B) := ⟨hg.os.trans hw.os, hg.tape.trans hw.tape, hg.output.trans hw.output, Nat.le_trans hsz (Nat.le_trans (by simp) hg.size), fun k hk hr => (key k hk).trans (hw.block k hk hr)⟩
  refine ⟨pos, h0, h1, ?_, ?_, g1⟩
  · obtain ⟨seed, c0, c1, c2, f1, f2⟩ := hc
    have e : w1.heap[B]? = wr.heap[B]? := key B hB
    exact ⟨seed, (World.cell?_of_block (a := ⟨B, 0, none⟩) e).trans c0, (World.cell?_of_block (a := ⟨B, 1, none⟩) e).trans c1, (World.cell?_of_block (a := ⟨B, 2, none⟩) e).trans c2, (World.frozen?_of_block (a := ⟨B, 1, none⟩) e).trans f1, (World.frozen?_of_block (a := ⟨B, 2, none⟩) e).trans f2⟩
  · refine ⟨hk.1, fun i hi => ?_⟩
    obtain ⟨x, hx, hb, z, z0, z1, hcell⟩ := hk.2 i hi
    have hbl : (x.add i).block = x.block := by unfold Addr.add; split <;> rfl
    exact ⟨x, hx, hb, z, z0, z1, by rw [g1.cell_far (x.add i) (cell_lt hcell) (by intro e; cases e; exact hb hbl.symm)]; exact hcell⟩
theorem own_text {w : World} {B e n : Nat} {v : Value} {os : List Nat} (h : w.ownsRow B e 1 v n (os.map cellD)) (hn : os.length = n) (h0 : 0 < n) :
    (convert 22 9 v).run Tryz.prog w = .ok (.string ⟨(os.map dchr).toArray⟩) w := by
  rcases own_cell h hn with ⟨_, h⟩ | ⟨g, cap, rfl, h1, h2, h3, h4⟩
  · omega
  · have hl : (os.map dchr).length = n := by simp [hn]
    have := run_convert_bytes_back (P := Tryz.prog) w 22 9 5 ⟨g, 0, none⟩ cap (os.map dchr) Tryz.underlying22 Tryz.underlying5 Tryz.underlying9 (fun j hj => by
      rw [show (⟨g, 0, none⟩ : Addr).add j = ⟨g, j, none⟩ by (simp [Addr.add]; try omega), h4 j (by omega)]
      have hj' : j < os.length := by omega
      simp [cellD, List.getElem?_eq_getElem hj'])
    rw [hl] at this
    exact this
theorem good_dchr (os : List Nat) (h : Ten os) : good 10 (os.map dchr) := by
  intro c hc
  obtain ⟨d, hd, rfl⟩ := List.mem_map.1 hc
  rw [digN_dchr d (h d hd)]
  have := h d hd
  omega
theorem digit_pick (v : Int) (h0 : 0 ≤ v) (h1 : v < 10) : ∃ D : Nat, D < 10 ∧ v = (D : Int) ∧ Value.int .u8 (48 + v) = cellD D := by
  obtain ⟨D, rfl⟩ := Int.eq_ofNat_of_zero_le h0
  refine ⟨D, by omega, rfl, ?_⟩
  unfold cellD
  rw [dchr_nat D (by omega)]
  rfl

theorem own_far {w w' : World} {base e n : Nat} {v : Value} {xs : List Value} {B : Nat} (h : w.ownsRow base e 1 v n xs) (hg : w.grownBy w' (some B)) (hB : B < base) : w'.ownsRow base e 1 v n xs := by
  obtain ⟨h0, h⟩ := h
  refine ⟨h0, ?_⟩
  rcases h with h | ⟨g, cap, cur, hv, hb, hh, h1⟩
  · exact .inl h
  · exact .inr ⟨g, cap, cur, hv, hb, (hg.block g (Array.getElem?_eq_some_iff.1 hh).1 (by intro e; cases e; omega)).trans hh, h1⟩

set_option maxHeartbeats 1600000 in
set_option maxRecDepth 100000 in
theorem l7digits_ds (B : Nat) (w0 w : World) (a : Option Addr) (len cap : Nat) (m : Int) (k : Nat) (h : DS B w0 w a len cap m) (hm : m ≤ 700000000) (hk1 : 1 ≤ k) (hk2 : k ≤ 1000) :
    Calls Tryz.prog 61 #[.pointer (some ⟨B, 0, none⟩), .int .i64 (k : Int)] w fun e w' => ∃ s : ByteArray, s.size = k ∧ good 10 s.data.toList ∧ e = .returned (.string s) ∧ DS B w0 w' a len cap (m + 2 * k) := by
  obtain ⟨i1, hi, hz0, hz1, hz2⟩ := info_parts Tryz.infoB
  have H0 : Hid (DS B w0 w a len cap m) := h
  have HK : Hid (Code B w a len) := h.choose_spec.2.2.2.1
  have HB : Hid (B < w.heap.size) := cur_lt h.choose_spec.2.2.1
  clear h
  go_enter Tryz.func61, Tryz.ntmps61
  go_wp2
  go_loopw [1, 5] (fun vn vo wr => ∃ (j : Nat) (os : List Nat), vn = .int .i64 ((k : Int) - (j : Int)) ∧ j ≤ k ∧ os.length = j ∧ Hid (Ten os) ∧ wr.ownsRow w.heap.size 5 1 vo os.length (os.map cellD) ∧ Hid (DS B w wr a len cap (m + 2 * j)) ∧ w.heap.size ≤ wr.heap.size) (fun vn _ _ => (intOf vn).toNat)
  case atStart => exact ⟨0, [], by simp, by omega, rfl, fun _ h => absurd h (by simp), World.ownsRow_nil _ _ _ _, by show DS _ _ _ _ _ _ _; simpa using H0.out.self, Nat.le_refl _⟩
  case round =>
    obtain ⟨j, os, rfl, hj, hjl, HT, hown, HD, hsz⟩ := hrel
    by_cases hlt : j < k
    · go_wp2_with fail
      refine (pick_ds B wr wr a len cap _ 10 HD.out.self (by omega) (by omega) (by omega)).mono ?_
      rintro e wp ⟨v, hv0, hv1, rfl, hdp⟩
      have HDP : Hid (DS B w wp a len cap (m + 2 * (j : Int) + 2)) := HD.out.join hdp
      have hown2 := own_far hown hdp.choose_spec.2.2.2.2 HB.out
      have hsz2 : w.heap.size ≤ wp.heap.size := Nat.le_trans hsz hdp.choose_spec.2.2.2.2.size
      have HO : Hid (∀ g, u5.ownBlock = some g → w.heap.size ≤ g) := fun g hg => (own_block_lt hown g hg).1
      obtain ⟨D, hD, hvD, hcD⟩ := digit_pick v hv0 hv1
      have HCD : Hid (Value.int .u8 (48 + v) = cellD D) := hcD
      clear hdp hown hvD hcD
      go_wp2_with (first
        | (at_builtin; refine wpList_append_lies _ rfl _ _ 22 rfl w.heap.size 5 i1 (.int .u8 0) 1 1 Tryz.underlying22 hi hz0 hz1 hz2 rfl (by decide) _ _ _ rfl (hown2.alloc _) ⟨wp.heap.size, 0, none⟩ 1 1 [.int .u8 (48 + v)] rfl rfl ?c1 ?c2 (by decide) ?c3 ?c4 ?c5 (wp.heap.size + 1) ?c6 ?_)
        | go_in)
      case c1 =>
        intro j u hj
        match j, hj with
        | 0, hj => simp at hj; subst hj; simp [Addr.add]
      case c2 => intro u hu; simp at hu; subst hu; rfl
      case c3 => unfold maxLen; omega
      case c4 => omega
      case c5 => simp; omega
      case c6 => simp
      · intro g1 cap1 w1 hown' hgrow hwhere hlt1
        have HD1 : Hid (DS B w w1 a len cap (m + 2 * (j : Int) + 2)) := HDP.out.append HK.out HB.out hgrow HO.out
        have HS : Hid (w.heap.size ≤ w1.heap.size) := Nat.le_trans hsz2 (Nat.le_trans (by simp) hgrow.size)
        have HW1 : Hid (w1.ownsRow w.heap.size 5 1 (.slice (some ⟨g1, 0, none⟩) (j + 1) cap1) (os ++ [D]).length ((os ++ [D]).map cellD)) := by
          rw [HCD.out] at hown'
          rw [List.map_append, List.length_append, hjl]
          exact hown'
        clear hown' hgrow hwhere hlt1 hown2
        go_wp2
        exact ⟨⟨j + 1, os ++ [D], by simp; omega, by omega, by simp [hjl], ten_snoc HT.out hD, HW1.out, by show DS _ _ _ _ _ _ _; exact HD1.out.mono (by omega), HS.out⟩, by simp only [intOf]; omega⟩
    · obtain rfl : j = k := by omega
      have hcv := own_text hown rfl (by omega)
      have HG : Hid _ := good_dchr os HT.out
      have hjj : decide (0 < (j : Int) - (j : Int)) = false := decide_eq_false (by omega)
      clear hown
      go_wp2
      go_ret
      exact ⟨⟨(os.map dchr).toArray⟩, by rw [← data_len]; simpa using hjl, HG.out, rfl, H0.out.join HD.out⟩
end Go.Proofs.YtpmccbkhkaoccaaGreatDoor

/- l2nan of the specification. -/
namespace Go.Proofs.YtpmccbkhkaoccaaGreatDoor
open Go.ChangeShapes Go.WideShapes Go.RowKit
open Ieee (double)

set_option maxHeartbeats 400000 in
theorem l2nan_any (w : World) : Calls Tryz.prog 89 #[] w fun e w' => ∃ b, IsNan b ∧ b < 18446744073709551616 ∧ e = .returned (.float .f64 b) ∧ w' = w.drew := by
  obtain ⟨b, hb, hlt, hrun⟩ := run_nan (P := Tryz.prog) 23 w
  go_enter Tryz.func89, Tryz.ntmps89
  go_wp2
  go_ret
  exact ⟨b, hb, hlt, rfl, rfl⟩
end Go.Proofs.YtpmccbkhkaoccaaGreatDoor

/- l2signed of the specification. -/
namespace Go.Proofs.YtpmccbkhkaoccaaGreatDoor
open Go.ChangeShapes Go.WideShapes Go.RowKit
open Ieee (double)

set_option maxHeartbeats 400000 in
theorem l2signed_plus (x : Nat) (w : World) : Calls Tryz.prog 90 #[.bool false, .float .f64 x] w fun e w' => e = .returned (.float .f64 x) ∧ w' = w := by
  go_enter Tryz.func90, Tryz.ntmps90
  go_wp2
  go_ret
  exact ⟨rfl, rfl⟩
set_option maxHeartbeats 400000 in
theorem l2signed_minus (x y : Nat) (hy : Op.negFloat .f64 x = y) (w : World) : Calls Tryz.prog 90 #[.bool true, .float .f64 x] w fun e w' => e = .returned (.float .f64 y) ∧ w' = w := by
  have hng := run_neg x
  rw [hy] at hng
  clear hy
  go_enter Tryz.func90, Tryz.ntmps90
  go_wp2
  go_ret
  exact ⟨rfl, rfl⟩
/-- A sign given to a number. -/
theorem l2signed_fw (s : Bool) (m : Nat) (p : Int) (h : Rep m p) (w : World) : Calls Tryz.prog 90 #[.bool s, .float .f64 (fw false m p)] w fun e w' => e = .returned (.float .f64 (fw s m p)) ∧ w' = w := by
  cases s
  · exact l2signed_plus _ w
  · exact l2signed_minus _ _ (neg_rep false m p h) w
theorem l2signed_iw (s : Bool) (w : World) : Calls Tryz.prog 90 #[.bool s, .float .f64 (iw false)] w fun e w' => e = .returned (.float .f64 (iw s)) ∧ w' = w := by
  cases s
  · exact l2signed_plus _ w
  · exact l2signed_minus _ _ (neg_iw false) w
end Go.Proofs.YtpmccbkhkaoccaaGreatDoor

