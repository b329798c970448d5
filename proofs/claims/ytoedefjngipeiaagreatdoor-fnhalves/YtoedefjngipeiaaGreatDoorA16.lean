import Derived.Test.YtoedefjngipeiaaGreatDoorRows
import Derived.WalkKit
import Derived.WalkSpells
import Derived.WalkLawsBesides
import Derived.Outline
import Derived.BigQuiet
import Derived.Deep.QuietTactic
import Derived.Laws.BitsAllLaws
/- A callee that writes into one block alone. -/
namespace Go.Proofs.YtoedefjngipeiaaGreatDoor
open Go.ChangeShapes Go.WideShapes Go.RowKit

/-- Of what was there nothing has turned but block B. -/
def Only (B : Nat) (w w' : World) : Prop := w'.os = w.os ∧ w'.tape = w.tape ∧ w'.output = w.output ∧ w'.heap.size = w.heap.size ∧ ∀ k, k ≠ B → w'.heap[k]? = w.heap[k]?
theorem Only.refl (B : Nat) (w : World) : Only B w w := ⟨rfl, rfl, rfl, rfl, fun _ _ => rfl⟩
theorem Only.trans {B : Nat} {a b c : World} (h : Only B a b) (k : Only B b c) : Only B a c :=
  ⟨k.1.trans h.1, k.2.1.trans h.2.1, k.2.2.1.trans h.2.2.1, k.2.2.2.1.trans h.2.2.2.1, fun i hi => (k.2.2.2.2 i hi).trans (h.2.2.2.2 i hi)⟩
theorem Only.drewN {B : Nat} {a w : World} (h : Only B a w) (n : Nat) : Only B a (w.drewN n) := h.trans ⟨rfl, rfl, rfl, rfl, fun _ _ => rfl⟩
theorem Only.setCell {B : Nat} {a w : World} (h : Only B a w) (o : Nat) (u : Value) : Only B a (w.setCell ⟨B, o, none⟩ u) :=
  h.trans ⟨rfl, rfl, rfl, by simp [World.setCell], fun k hk => Below.heap_setCell _ _ _ _ hk⟩
theorem Only.cell {B : Nat} {w w' : World} (h : Only B w w') {p : Addr} (hp : p.block ≠ B) : w'.cell? p = w.cell? p := World.cell?_of_block (w := w) (h.2.2.2.2 p.block hp)
theorem Only.frozen {B : Nat} {w w' : World} (h : Only B w w') {p : Addr} (hp : p.block ≠ B) : w'.frozen? p = w.frozen? p := World.frozen?_of_block (w := w) (h.2.2.2.2 p.block hp)
theorem Only.below {B C : Nat} {w w' : World} (h : Only B w w') (hC : C ≤ B) : Below C w w' :=
  ⟨h.1, h.2.1, h.2.2.1, by rw [h.2.2.2.1]; exact Nat.le_refl _, fun k hk => h.2.2.2.2 k (by omega)⟩

theorem cell_lt {w : World} {p : Addr} {v : Value} (h : w.cell? p = some v) : p.block < w.heap.size := by
  by_cases hp : p.block < w.heap.size
  · exact hp
  · have e : w.heap[p.block]? = Option.none := Array.getElem?_eq_none (by omega)
    simp [World.cell?, e] at h
end Go.Proofs.YtoedefjngipeiaaGreatDoor

/- The cursor that draws choices from bytes: it returns, whatever the bytes; it writes into its own block alone. -/
namespace Go.Proofs.YtoedefjngipeiaaGreatDoor
open Go.ChangeShapes Go.WideShapes Go.RowKit

/-- The bytes of a slice that came in: its cells hold bytes, and lie in another block than B. -/
def Code (B : Nat) (w : World) (a : Option Addr) (len : Nat) : Prop := len ≤ 1048576 ∧ ∀ i : Nat, i < len → ∃ x : Addr, a = some x ∧ x.block ≠ B ∧ ∃ z : Int, 0 ≤ z ∧ z ≤ 255 ∧ w.cell? (x.add i) = some (.int .u8 z)
/-- The cursor in block B. -/
def Cur (B : Nat) (w : World) (a : Option Addr) (len cap : Nat) (pos : Int) : Prop :=
  ∃ seed : Int, w.cell? ⟨B, 0, none⟩ = some (.slice a len cap) ∧ w.cell? ⟨B, 1, none⟩ = some (.int .i64 pos) ∧ w.cell? ⟨B, 2, none⟩ = some (.int .u64 seed)
    ∧ w.frozen? ⟨B, 1, none⟩ = false ∧ w.frozen? ⟨B, 2, none⟩ = false
theorem Code.only {B : Nat} {w w' : World} {a : Option Addr} {len : Nat} (h : Code B w a len) (ho : Only B w w') : Code B w' a len :=
  ⟨h.1, fun i hi => by
    obtain ⟨x, hx, hb, z, h0, h1, hc⟩ := h.2 i hi
    exact ⟨x, hx, hb, z, h0, h1, by rw [ho.cell (by unfold Addr.add; split <;> exact hb)]; exact hc⟩⟩

theorem Cur.below {B C : Nat} {w w' : World} {a : Option Addr} {len cap : Nat} {pos : Int} (h : Cur B w a len cap pos) (hb : Below C w w') (hB : B < C) : Cur B w' a len cap pos := by
  obtain ⟨seed, c0, c1, c2, f1, f2⟩ := h
  exact ⟨seed, by rw [hb.cell (p := ⟨B, 0, none⟩) hB]; exact c0, by rw [hb.cell (p := ⟨B, 1, none⟩) hB]; exact c1, by rw [hb.cell (p := ⟨B, 2, none⟩) hB]; exact c2, by rw [hb.frozen (p := ⟨B, 1, none⟩) hB]; exact f1, by rw [hb.frozen (p := ⟨B, 2, none⟩) hB]; exact f2⟩
theorem Code.below {B : Nat} {w w' : World} {a : Option Addr} {len : Nat} (h : Code B w a len) (hb : Below w.heap.size w w') : Code B w' a len :=
  ⟨h.1, fun i hi => by
    obtain ⟨x, hx, hne, z, h0, h1, hc⟩ := h.2 i hi
    exact ⟨x, hx, hne, z, h0, h1, by rw [hb.cell (cell_lt hc)]; exact hc⟩⟩
theorem low8 (X : Int) (h0 : 0 ≤ X) (h1 : X < 18446744073709551616) : 0 ≤ wrap64 (bits .and .u64 X 255) ∧ wrap64 (bits .and .u64 X 255) ≤ 255 := by
  rw [u64_and X 255 h0 h1 (by omega) (by omega)]
  have h := Nat.and_le_right (n := X.toNat) (m := (255 : Int).toNat)
  have e : (255 : Int).toNat = 255 := rfl
  rw [e] at h ⊢
  generalize X.toNat &&& 255 = k at *
  unfold wrap64
  omega
theorem u64_in (x : Int) : 0 ≤ IntKind.u64.wrap x ∧ IntKind.u64.wrap x < 18446744073709551616 := by rw [IntKind.wrap_u64]; omega

set_option maxHeartbeats 400000 in
theorem next_any (B : Nat) (w : World) (a : Option Addr) (len cap : Nat) (pos : Int) (hc : Cur B w a len cap pos) (hk : Code B w a len) (h0 : 0 ≤ pos) (h1 : pos ≤ 1000000000) :
    Calls Tryz.prog 54 #[.pointer (some ⟨B, 0, none⟩)] w fun e w' => ∃ v : Int, 0 ≤ v ∧ v ≤ 255 ∧ e = .returned (.int .i64 v) ∧ Cur B w' a len cap (pos + 1) ∧ Only B w w' := by
  obtain ⟨seed, c0, c1, c2, f1, f2⟩ := hc
  by_cases hlt : pos < len
  · obtain ⟨hlen, hk⟩ := hk
    obtain ⟨x, rfl, hb, z, hz0, hz1, hx⟩ := hk pos.toNat (by omega)
    clear hk
    go_enter Tryz.func54, Tryz.ntmps54
    go_wp2
    go_quiet (fail)
    go_wp2
    go_quiet (fail)
    go_wp2
    go_ret
    exact ⟨z, hz0, hz1, rfl, ⟨_, by simp [go_sem, c0], by simp [go_sem, c1], by simp [go_sem, c2]; rfl, by simp [go_sem, f1], by simp [go_sem, f2]⟩, (((Only.refl _ _).drewN _).setCell _ _).setCell _ _⟩
  · go_enter Tryz.func54, Tryz.ntmps54
    clear hk
    go_wp2
    go_quiet (fail)
    go_wp2
    have hl := low8 (IntKind.u64.wrap (IntKind.u64.wrap (seed * 6364136223846793005) + 1442695040888963407) / 1099511627776) (by have := u64_in (IntKind.u64.wrap (seed * 6364136223846793005) + 1442695040888963407); omega) (by have := u64_in (IntKind.u64.wrap (seed * 6364136223846793005) + 1442695040888963407); omega)
    go_ret
    exact ⟨_, hl.1, hl.2, rfl, ⟨_, by simp [go_sem, c0], by simp [go_sem, c1], by simp [go_sem, c2]; rfl, by simp [go_sem, f1], by simp [go_sem, f2]⟩, (((Only.refl _ _).drewN _).setCell _ _).setCell _ _⟩
end Go.Proofs.YtoedefjngipeiaaGreatDoor

/- The cursor: pick, bits, num; the int that bytes tell. -/
namespace Go.Proofs.YtoedefjngipeiaaGreatDoor
open Go.ChangeShapes Go.WideShapes Go.RowKit

set_option maxHeartbeats 400000 in
theorem pick_any (B : Nat) (w : World) (a : Option Addr) (len cap : Nat) (pos n : Int) (hc : Cur B w a len cap pos) (hk : Code B w a len) (h0 : 0 ≤ pos) (h1 : pos ≤ 900000000) (hn : 2 ≤ n) (hn' : n ≤ 1000000) :
    Calls Tryz.prog 30 #[.pointer (some ⟨B, 0, none⟩), .int .i64 n] w fun e w' => ∃ v pos' : Int, 0 ≤ v ∧ v < n ∧ e = .returned (.int .i64 v) ∧ pos ≤ pos' ∧ pos' ≤ pos + 2 ∧ Cur B w' a len cap pos' ∧ Code B w' a len ∧ Only B w w' := by
  have HN : Hid _ := fun (_ : Unit) => next_any B w a len cap pos hc hk h0 (by omega)
  have HK : Hid _ := fun (_ : Unit) => hk
  clear hc hk
  go_enter Tryz.func30, Tryz.ntmps30
  go_wp2_with fail
  refine (HN.out ()).mono ?_
  rintro e w1 ⟨x, hx0, hx1, rfl, hc1, ho1⟩
  have hk1 := (HK.out ()).only ho1
  by_cases hs : 200 < n
  · have HN2 : Hid _ := fun (_ : Unit) => next_any B w1 a len cap (pos + 1) hc1 hk1 (by omega) (by omega)
    have HO : Hid _ := fun (_ : Unit) => ho1
    have HK1 : Hid _ := fun (_ : Unit) => hk1
    clear hc1 ho1 hk1 HN HK
    go_wp2_with fail
    refine (HN2.out ()).mono ?_
    rintro e w2 ⟨y, hy0, hy1, rfl, hc2, ho2⟩
    have HO2 : Hid _ := fun (_ : Unit) => ho2
    have HC2 : Hid _ := fun (_ : Unit) => hc2
    clear hc2 ho2 HN2
    have hm0 : 0 ≤ (x * 256 + y) % n := Int.emod_nonneg _ (by omega)
    have hm1 : (x * 256 + y) % n < n := Int.emod_lt_of_pos _ (by omega)
    go_wp2
    go_ret
    exact ⟨_, _, hm0, hm1, rfl, by omega, by omega, HC2.out (), (HK1.out ()).only (HO2.out ()), (HO.out ()).trans (HO2.out ())⟩
  · have HO : Hid _ := fun (_ : Unit) => ho1
    have HC1 : Hid _ := fun (_ : Unit) => hc1
    have HK1 : Hid _ := fun (_ : Unit) => hk1
    clear hc1 ho1 hk1 HN HK
    have hm0 : 0 ≤ x % n := Int.emod_nonneg _ (by omega)
    have hm1 : x % n < n := Int.emod_lt_of_pos _ (by omega)
    go_wp2
    go_ret
    exact ⟨_, _, hm0, hm1, rfl, by omega, by omega, HC1.out (), HK1.out (), HO.out ()⟩

set_option maxHeartbeats 400000 in
theorem bits_any (B : Nat) (w : World) (a : Option Addr) (len cap : Nat) (pos : Int) (hc : Cur B w a len cap pos) (hk : Code B w a len) (h0 : 0 ≤ pos) (h1 : pos ≤ 900000000) :
    Calls Tryz.prog 71 #[.pointer (some ⟨B, 0, none⟩)] w fun e w' => ∃ v : Int, (Lit.int .i64 v).wf = true ∧ e = .returned (.int .i64 v) ∧ Cur B w' a len cap (pos + 8) ∧ Code B w' a len ∧ Only B w w' := by
  have HS : Hid _ := fun (_ : Unit) => And.intro hc hk
  clear hc hk
  go_enter Tryz.func71, Tryz.ntmps71
  go_wp2
  go_loopw [3, 4] (fun n k wl => ∃ (j : Nat) (N : Int), j ≤ 8 ∧ n = .int .u64 N ∧ k = .int .i64 j ∧ Hid (Cur B wl a len cap (pos + j) ∧ Code B wl a len ∧ Only B w wl)) (fun _ k _ => 8 - (intOf k).toNat)
  case atStart => exact ⟨0, 0, by omega, rfl, rfl, by have := (HS.out ()).1; simpa using this, (HS.out ()).2, Only.refl _ _⟩
  case round =>
    obtain ⟨j, N, hj, rfl, rfl, HR⟩ := hrel
    by_cases hlt : j < 8
    · obtain ⟨hc, hk, ho⟩ := HR.out
      have HN : Hid _ := fun (_ : Unit) => next_any B wr a len cap (pos + j) hc hk (by omega) (by omega)
      have HX : Hid _ := fun (_ : Unit) => And.intro hk ho
      clear hc hk ho HR
      go_wp2_with fail
      refine (HN.out ()).mono ?_
      rintro e w1 ⟨x, hx0, hx1, rfl, hc1, ho1⟩
      have HY : Hid _ := fun (_ : Unit) => And.intro hc1 ho1
      clear hc1 ho1 HN
      go_wp2
      refine ⟨⟨j + 1, _, by omega, rfl, by go_num, ?_, (HX.out ()).1.only (HY.out ()).2, (HX.out ()).2.trans (HY.out ()).2⟩, by simp [intOf]; omega⟩
      have h := (HY.out ()).1
      rw [show pos + ((j + 1 : Nat) : Int) = pos + (j : Int) + 1 by omega]
      exact h
    · have e8 : j = 8 := by omega
      subst e8
      go_wp2
      go_ret
      exact ⟨_, wrap64_wf N, rfl, HR.out⟩

theorem small_wf (v : Int) (h0 : -1000 ≤ v) (h1 : v ≤ 1000) : (Lit.int .i64 v).wf = true := by
  refine WalkArith.wf_i64 ?_; omega
theorem Only.toBelow {B : Nat} {a b c : World} (h : Only B a b) (k : Below B b c) : Below B a c := (h.below (Nat.le_refl _)).trans k
end Go.Proofs.YtoedefjngipeiaaGreatDoor

