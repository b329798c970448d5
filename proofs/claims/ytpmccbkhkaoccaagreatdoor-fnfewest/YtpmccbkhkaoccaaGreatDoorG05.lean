import Derived.Test.YtpmccbkhkaoccaaGreatDoorG04
import Derived.Test.YtpmccbkhkaoccaaGreatDoorB47
import Derived.Test.YtpmccbkhkaoccaaGreatDoorB46
import Derived.Test.YtpmccbkhkaoccaaGreatDoorB38
import Derived.Test.YtpmccbkhkaoccaaGreatDoorB06
import Derived.Test.YtpmccbkhkaoccaaGreatDoorB33
import Derived.Deep.RegionHeld3
/- leastDigits of the program. -/
namespace Go.Proofs.YtpmccbkhkaoccaaGreatDoor
open Go.ChangeShapes Go.WideShapes Go.RowKit

/-- Its memory between two rounds. -/
def LdSt (w : World) (H L : Nat) (ds : ByteArray) (x : Int) (p : Addr) (X : Nat) (t : ByteArray) (y : Int) (W : World) : Prop :=
  Below w.heap.size w W ∧ W.cell? ⟨H, 0, none⟩ = some (.string ds) ∧ W.cell? ⟨H, 1, none⟩ = some (.int .i64 x)
  ∧ (W.cell? ⟨H + 1, 0, none⟩ = some (.string ⟨#[]⟩) ∧ W.cell? ⟨H + 1, 1, none⟩ = some (.int .i64 0) ∧ W.frozen? ⟨H + 1, 0, none⟩ = false ∧ W.frozen? ⟨H + 1, 1, none⟩ = false)
  ∧ (W.cell? ⟨L, 0, none⟩ = some (.string t) ∧ W.cell? ⟨L, 1, none⟩ = some (.int .i64 y) ∧ W.frozen? ⟨L, 0, none⟩ = false ∧ W.frozen? ⟨L, 1, none⟩ = false)
  ∧ W.cell? p = some (.float .f64 X)
theorem LdSt.next {w : World} {H L : Nat} {ds : ByteArray} {x : Int} {p : Addr} {X : Nat} {t : ByteArray} {y : Int} {W W' : World} (h : LdSt w H L ds x p X t y W) (hb : Below W.heap.size W W') : LdSt w H L ds x p X t y W' := by
  obtain ⟨h1, h2, h3, ⟨r1, r2, r3, r4⟩, ⟨l1, l2, l3, l4⟩, h4⟩ := h
  exact ⟨h1.trans (hb.mono h1.size), (hb.cell (lt_cell h2)).trans h2, (hb.cell (lt_cell h3)).trans h3,
    ⟨(hb.cell (lt_cell r1)).trans r1, (hb.cell (lt_cell r2)).trans r2, (hb.frozen (p := ⟨H + 1, 0, none⟩) (lt_cell r1)).trans r3, (hb.frozen (p := ⟨H + 1, 1, none⟩) (lt_cell r2)).trans r4⟩,
    ⟨(hb.cell (lt_cell l1)).trans l1, (hb.cell (lt_cell l2)).trans l2, (hb.frozen (p := ⟨L, 0, none⟩) (lt_cell l1)).trans l3, (hb.frozen (p := ⟨L, 1, none⟩) (lt_cell l2)).trans l4⟩, (hb.cell (lt_cell h4)).trans h4⟩
theorem LdSt.store {w : World} {H L : Nat} {ds : ByteArray} {x : Int} {p : Addr} {X : Nat} {t : ByteArray} {y : Int} {W : World} (h : LdSt w H L ds x p X t y W) (hL : H + 1 < L) (hw : w.heap.size ≤ L) (hp : p.block < w.heap.size) (t' : ByteArray) (y' : Int) :
    LdSt w H L ds x p X t' y' ((W.setCell ⟨L, 0, none⟩ (.string t')).setCell ⟨L, 1, none⟩ (.int .i64 y')) := by
  obtain ⟨h1, h2, h3, ⟨r1, r2, r3, r4⟩, ⟨l1, l2, l3, l4⟩, h4⟩ := h
  have hb : Below L W ((W.setCell ⟨L, 0, none⟩ (.string t')).setCell ⟨L, 1, none⟩ (.int .i64 y')) := by
    refine Below.setCell (Below.setCell (Below.refl _ _) ?_ _) ?_ _ <;> exact Nat.le_refl L
  exact ⟨h1.trans (hb.mono hw), (hb.cell (by show H < L; omega)).trans h2, (hb.cell (by show H < L; omega)).trans h3,
    ⟨(hb.cell (by show H + 1 < L; omega)).trans r1, (hb.cell (by show H + 1 < L; omega)).trans r2, (hb.frozen (p := ⟨H + 1, 0, none⟩) (by show H + 1 < L; omega)).trans r3, (hb.frozen (p := ⟨H + 1, 1, none⟩) (by show H + 1 < L; omega)).trans r4⟩,
    ⟨by simp [go_sem, l1], by simp [go_sem, l2], by simp [go_sem, l3], by simp [go_sem, l4]⟩, (hb.cell (by omega)).trans h4⟩
set_option maxHeartbeats 4000000 in
set_option maxRecDepth 100000 in
theorem leastDigits_any (ds : ByteArray) (x : Int) (p : Addr) (X : Nat) (hs : ds.size ≤ 1200) (hx : -1200 ≤ x) (hx' : x ≤ 1200) (hg : good 10 ds.data.toList) (hf : ∀ h : 0 < ds.size, ds[0].toNat ≠ 48)
    (hX : X ≤ 9218868437227405312) (hr : Rds X ds (x + 1) = true) (hst : ∀ t y, RndD ds x 17 t y → LeaI ds x X t y ∧ t.size ≤ 17 ∧ x ≤ y ∧ y ≤ x + 1) (w : World) (hG : WrG w) (hc : w.cell? p = some (.float .f64 X)) :
    Calls Tryz.prog 31 #[.agg #[.string ds, .int .i64 x], .func (.func 32) #[] #[.pointer (some p)]] w fun e w' =>
      ∃ t y d, LeastD ds (x + 1) X d (y + 1) ∧ TrimD d t ∧ t.size ≤ 17 ∧ -1201 ≤ y ∧ y ≤ 1201 ∧ e = .returned (.agg #[.string t, .int .i64 y]) ∧ Below w.heap.size w w' := by
  have HG : Hid (WrG w) := hG
  have HR : Hid _ := fun (w : World) => round_any ds x 17 (by omega) (by omega) (by omega) hg w
  have HA : Hid _ := fun (n : Nat) (h : n < ds.size) (w : World) => around_any ds x n (by omega) (by omega) (by omega) h hg w
  have HF : Hid ((∀ h : 0 < ds.size, ds[0].toNat ≠ 48) ∧ X ≤ 9218868437227405312 ∧ Rds X ds (x + 1) = true ∧ good 10 ds.data.toList ∧ ∀ t y, RndD ds x 17 t y → LeaI ds x X t y ∧ t.size ≤ 17 ∧ x ≤ y ∧ y ≤ x + 1) := ⟨hf, hX, hr, hg, hst⟩
  have HC : Hid (w.cell? p = some (.float .f64 X)) := hc
  obtain ⟨H, hH⟩ : ∃ H, w.heap.size = H := ⟨_, rfl⟩
  clear hf hX hr hst hg hG hc
  go_enter Tryz.func31, Tryz.ntmps31
  go_wp2_with fail
  refine (HR.out _).mono ?_
  rintro e W1 ⟨t, y, ht, rfl, hb1⟩
  obtain ⟨L, hL⟩ : ∃ L, W1.heap.size = L := ⟨_, rfl⟩
  have hHL : H + 1 < L := by have := hb1.size; simp at this; omega
  obtain ⟨W2, hW2⟩ : ∃ W2, W1.alloc (.cells #[.string t, .int .i64 y] 51) = W2 := ⟨_, rfl⟩
  have HS2 : Hid (LdSt w H L ds x p X t y W2) := by
    have hb2 : Below L W1 W2 := by rw [← hW2, ← hL]; exact (Below.refl _ _).alloc (Nat.le_refl _) _
    have q1 := (hb1.cell (p := ⟨H, 0, none⟩) (by simp <;> omega)).trans (by simp [go_sem, ← hH] : _ = some (.string ds))
    have q2 := (hb1.cell (p := ⟨H, 1, none⟩) (by simp <;> omega)).trans (by simp [go_sem, ← hH] : _ = some (.int .i64 x))
    have q3 := (hb1.cell (p := ⟨H + 1, 0, none⟩) (by simp <;> omega)).trans (by simp [go_sem, ← hH] : _ = some (.string ⟨#[]⟩))
    have q4 := (hb1.cell (p := ⟨H + 1, 1, none⟩) (by simp <;> omega)).trans (by simp [go_sem, ← hH] : _ = some (.int .i64 0))
    have q5 := (hb1.frozen (p := ⟨H + 1, 0, none⟩) (by simp <;> omega)).trans (by simp [go_sem, ← hH] : _ = false)
    have q6 := (hb1.frozen (p := ⟨H + 1, 1, none⟩) (by simp <;> omega)).trans (by simp [go_sem, ← hH] : _ = false)
    have b0 : Below w.heap.size w W1 := (((Below.refl _ _).alloc (Nat.le_refl _) _).alloc (by simp) _).trans (hb1.mono (by simp <;> omega))
    refine ⟨b0.trans (hb2.mono (by omega)), (hb2.cell (by show H < L; omega)).trans q1, (hb2.cell (by show H < L; omega)).trans q2,
      ⟨(hb2.cell (by show H + 1 < L; omega)).trans q3, (hb2.cell (by show H + 1 < L; omega)).trans q4, (hb2.frozen (p := ⟨H + 1, 0, none⟩) (by show H + 1 < L; omega)).trans q5, (hb2.frozen (p := ⟨H + 1, 1, none⟩) (by show H + 1 < L; omega)).trans q6⟩,
      ⟨by rw [← hW2, ← hL]; simp [go_sem], by rw [← hW2, ← hL]; simp [go_sem], by rw [← hW2, ← hL]; simp [go_sem], by rw [← hW2, ← hL]; simp [go_sem]⟩, ?_⟩
    exact ((b0.trans (hb2.mono (by omega))).cell (lt_cell HC.out)).trans HC.out
  have HT : Hid (RndD ds x 17 t y) := ht
  have hz := (HF.out.2.2.2.2 t y ht).2.1
  have l0 := HS2.out.2.2.2.2.1.1
  have l1 := HS2.out.2.2.2.2.1.2.1
  clear hb1 ht HR
  go_wp2_with fail
  clear l0 l1 hL hW2
  go_loopw [6] (fun vn wr => ∃ (t : ByteArray) (y : Int), vn = .int .i64 ((t.size : Int) - 1) ∧ Hid (LeaI ds x X t y ∧ x ≤ y ∧ y ≤ x + 1) ∧ t.size ≤ 17 ∧ Hid (LdSt w H L ds x p X t y wr)) (fun vn _ => (intOf vn).toNat)
  case atStart => exact ⟨t, y, rfl, ⟨(HF.out.2.2.2.2 t y HT.out).1, (HF.out.2.2.2.2 t y HT.out).2.2⟩, hz, HS2.out⟩
  case round =>
    clear HS2 HT hz
    obtain ⟨t, y, rfl, HL, hz, HS⟩ := hrel
    have h0 := HL.out.1.1
    have hle := HL.out.1.2.1
    have d0 := HS.out.2.1
    have d1 := HS.out.2.2.1
    have l0 := HS.out.2.2.2.2.1.1
    have l1 := HS.out.2.2.2.2.1.2.1
    have r0 := HS.out.2.2.2.1.1
    have r1 := HS.out.2.2.2.1.2.1
    have g0 := HS.out.2.2.2.1.2.2.1
    have g1 := HS.out.2.2.2.1.2.2.2
    have hHw : H + 1 < wr.heap.size := lt_cell r0
    by_cases h1 : t.size = 1
    · obtain ⟨d, hd1, hd2⟩ := lea_end ds x X t y HF.out.2.1 HF.out.2.2.2.1 HF.out.1 HF.out.2.2.1 HL.out.1 (.inl h1)
      have HD : Hid (LeastD ds (x + 1) X d (y + 1) ∧ TrimD d t) := ⟨hd1, hd2⟩
      have hHwl : w.heap.size ≤ H + 1 := by omega
      clear hd1 hd2
      go_wp2
      refine bodyPost_ret (v := .agg #[.string t, .int .i64 y]) (by simp [results, Tryz.results31, go_sem, r0, r1]) rfl ⟨t, y, d, HD.out.1, HD.out.2, hz, by have := HL.out.2; omega, by have := HL.out.2; omega, rfl, (by repeat (first | exact HS.out.1 | with_reducible refine Below.alloc ?_ (by simp <;> omega) _ | with_reducible refine Below.setCell ?_ (by simp <;> omega) _))⟩
    · obtain ⟨n, hn⟩ : ∃ n : Nat, t.size = n + 1 := ⟨t.size - 1, by omega⟩
      have en : (t.size : Int) - 1 = (n : Int) := by omega
      rw [en]
      have hn0 : (0 : Int) < (n : Int) := by omega
      go_wp2_with fail
      refine (HA.out n (by omega) _).mono ?_
      rintro e W3 ⟨tl, yl, th, yh, hlo, hhi, hb3, hcase⟩
      obtain ⟨a, ya, b, yb, hab, rfl⟩ : ∃ a ya b yb, ((roundsB ds (n : Int) = true ∧ a = th ∧ ya = yh ∧ b = tl ∧ yb = yl) ∨ (roundsB ds (n : Int) = false ∧ a = tl ∧ ya = yl ∧ b = th ∧ yb = yh)) ∧ e = .returned (.tuple #[.agg #[.string a, .int .i64 ya], .agg #[.string b, .int .i64 yb]]) := by
        rcases hcase with ⟨h, rfl⟩ | ⟨h, rfl⟩
        · exact ⟨th, yh, tl, yl, .inl ⟨h, rfl, rfl, rfl, rfl⟩, rfl⟩
        · exact ⟨tl, yl, th, yh, .inr ⟨h, rfl, rfl, rfl, rfl⟩, rfl⟩
      have HRO : Hid _ := lea_round ds x X n (by omega) (by omega) HF.out.2.2.2.1 HF.out.1 tl yl th yh hlo hhi a ya b yb hab
      have HS3 : Hid (LdSt w H L ds x p X t y W3) := HS.out.next hb3
      clear hb3 hcase hab hlo hhi d0 d1 l0 l1 r0 r1 g0 g1 HS hHw
      obtain ⟨N, hN⟩ : ∃ N, W3.heap.size = N := ⟨_, rfl⟩
      obtain ⟨W4, hW4⟩ : ∃ W4, (W3.alloc (.cells #[.string a, .int .i64 ya] 51)).alloc (.cells #[.string b, .int .i64 yb] 51) = W4 := ⟨_, rfl⟩
      have hb4 : Below N W3 W4 := by rw [← hW4, ← hN]; exact ((Below.refl _ _).alloc (Nat.le_refl _) _).alloc (by simp) _
      have HS4 : Hid (LdSt w H L ds x p X t y W4) := HS3.out.next (by rw [hN]; exact hb4)
      have n0 : W4.cell? ⟨N, 0, none⟩ = some (.string a) := by rw [← hW4, ← hN]; simp [go_sem]
      have n1 : W4.cell? ⟨N, 1, none⟩ = some (.int .i64 ya) := by rw [← hW4, ← hN]; simp [go_sem]
      have f0 : W4.cell? ⟨N + 1, 0, none⟩ = some (.string b) := by rw [← hW4, ← hN]; simp [go_sem]
      have f1 : W4.cell? ⟨N + 1, 1, none⟩ = some (.int .i64 yb) := by rw [← hW4, ← hN]; simp [go_sem]
      have HCA : Hid (∀ W, LdSt w H L ds x p X t y W → Calls Tryz.prog 32 #[.agg #[.string a, .int .i64 ya], .pointer (some p)] W fun e w' => e = .returned (.bool (Rds X a (ya + 1))) ∧ Below W.heap.size W w') := fun W hW => by
        obtain ⟨a1, a2, a3, a4, a5⟩ := HRO.out.1
        exact clo_any a ya p X a1 (by omega) a3 (by omega) (by omega) W (HG.out.below hW.1) hW.2.2.2.2.2
      have HCB : Hid (∀ W, LdSt w H L ds x p X t y W → Calls Tryz.prog 32 #[.agg #[.string b, .int .i64 yb], .pointer (some p)] W fun e w' => e = .returned (.bool (Rds X b (yb + 1))) ∧ Below W.heap.size W w') := fun W hW => by
        obtain ⟨a1, a2, a3, a4, a5⟩ := HRO.out.2.1
        exact clo_any b yb p X a1 (by omega) a3 (by omega) (by omega) W (HG.out.below hW.1) hW.2.2.2.2.2
      clear hb4
      go_wp2_with fail
      refine (HCA.out _ HS4.out).mono ?_
      rintro e W5 ⟨rfl, hb5⟩
      have hl4 : N + 1 < W4.heap.size := lt_cell f0
      have n05 := (hb5.cell (p := ⟨N, 0, none⟩) (by show N < _; omega)).trans n0
      have n15 := (hb5.cell (p := ⟨N, 1, none⟩) (by show N < _; omega)).trans n1
      have f05 := (hb5.cell (p := ⟨N + 1, 0, none⟩) hl4).trans f0
      have f15 := (hb5.cell (p := ⟨N + 1, 1, none⟩) hl4).trans f1
      have HS5 : Hid (LdSt w H L ds x p X t y W5) := HS4.out.next hb5
      clear hb5 n0 n1 f0 f1 HS4 HS3 hW4 hN hl4
      obtain ⟨A, hA⟩ : ∃ A, Rds X a (ya + 1) = A := ⟨_, rfl⟩
      rw [hA]
      cases A
      · have HA0 : Hid (Rds X a (ya + 1) = false) := hA
        clear hA n05 n15
        go_wp2_with fail
        refine (HCB.out _ HS5.out).mono ?_
        rintro e W6 ⟨rfl, hb6⟩
        have f06 := (hb6.cell (p := ⟨N + 1, 0, none⟩) (lt_cell f05)).trans f05
        have f16 := (hb6.cell (p := ⟨N + 1, 1, none⟩) (lt_cell f15)).trans f15
        have HS6 : Hid (LdSt w H L ds x p X t y W6) := HS5.out.next hb6
        clear hb6 f05 f15 HS5
        obtain ⟨B, hB⟩ : ∃ B, Rds X b (yb + 1) = B := ⟨_, rfl⟩
        rw [hB]
        have l0 := HS6.out.2.2.2.2.1.1
        have l1 := HS6.out.2.2.2.2.1.2.1
        cases B
        · obtain ⟨d, hd1, hd2⟩ := lea_end ds x X t y HF.out.2.1 HF.out.2.2.2.1 HF.out.1 HF.out.2.2.1 HL.out.1 (.inr (by rw [hn, Nat.add_sub_cancel]; exact HRO.out.2.2.2.2 HA0.out hB))
          have HD : Hid (LeastD ds (x + 1) X d (y + 1) ∧ TrimD d t) := ⟨hd1, hd2⟩
          have hHwl : w.heap.size ≤ H + 1 := by omega
          have r0 := HS6.out.2.2.2.1.1
          have r1 := HS6.out.2.2.2.1.2.1
          have g0 := HS6.out.2.2.2.1.2.2.1
          have g1 := HS6.out.2.2.2.1.2.2.2
          have hHw : H + 1 < W6.heap.size := lt_cell r0
          clear hd1 hd2 hB f06 f16
          go_wp2
          refine bodyPost_ret (v := .agg #[.string t, .int .i64 y]) (by simp [results, Tryz.results31, go_sem, r0, r1]) rfl ⟨t, y, d, HD.out.1, HD.out.2, hz, by have := HL.out.2; omega, by have := HL.out.2; omega, rfl, (by repeat (first | exact HS6.out.1 | with_reducible refine Below.alloc ?_ (by simp <;> omega) _ | with_reducible refine Below.setCell ?_ (by simp <;> omega) _))⟩
        · have HB1 : Hid (LeaI ds x X b yb) := HRO.out.2.2.2.1 HA0.out hB
          have g0 := HS6.out.2.2.2.2.1.2.2.1
          have g1 := HS6.out.2.2.2.2.1.2.2.2
          have hbs : (b.size : Int) ≤ 100 := by have := HRO.out.2.1.2.1; omega
          clear hB
          go_wp2
          obtain ⟨_, b2, _, b4, b5⟩ := HRO.out.2.1
          exact ⟨⟨b, yb, rfl, ⟨HB1.out, b4, b5⟩, by omega, HS6.out.store hHL (by omega) (lt_cell HC.out) b yb⟩, by simp only [intOf]; omega⟩
      · have HB1 : Hid (LeaI ds x X a ya) := HRO.out.2.2.1 hA
        clear hA f05 f15
        have l0 := HS5.out.2.2.2.2.1.1
        have l1 := HS5.out.2.2.2.2.1.2.1
        have g0 := HS5.out.2.2.2.2.1.2.2.1
        have g1 := HS5.out.2.2.2.2.1.2.2.2
        have has : (a.size : Int) ≤ 100 := by have := HRO.out.1.2.1; omega
        go_wp2
        obtain ⟨_, b2, _, b4, b5⟩ := HRO.out.1
        exact ⟨⟨a, ya, rfl, ⟨HB1.out, b4, b5⟩, by omega, HS5.out.store hHL (by omega) (lt_cell HC.out) a ya⟩, by simp only [intOf]; omega⟩
end Go.Proofs.YtpmccbkhkaoccaaGreatDoor

/- What Shortest's parts answer together. -/
namespace Go.Proofs.YtpmccbkhkaoccaaGreatDoor
open Go.ChangeShapes Go.WideShapes Go.RowKit

/-- What leastDigits leaves of a float's digits. -/
def LdR (q : Nat) (e : Int) (ds : ByteArray) (x : Int) (t : ByteArray) (y : Int) : Prop := (q = 0 ∧ t = ⟨#[]⟩ ∧ y = 0) ∨ (0 < q ∧ ∃ d, LeastD ds (x + 1) (fw false q e) d (y + 1) ∧ TrimD d t ∧ t.size ≤ 17 ∧ -1201 ≤ y ∧ y ≤ 1201)
theorem rnd_small (ds : ByteArray) (x : Int) (hg : good 10 ds.data.toList) (hf : ∀ h : 0 < ds.size, ds[0].toNat ≠ 48) (t : ByteArray) (y : Int) (h : RndD ds x 17 t y) : t.size ≤ 17 ∧ x ≤ y ∧ y ≤ x + 1 := by
  rcases h with ⟨h, _⟩ | ⟨h1, _, rfl, rfl⟩ | ⟨_, h17, ⟨_, h⟩ | ⟨_, h⟩⟩
  · omega
  · exact ⟨by omega, by omega, by omega⟩
  · obtain ⟨_, a, _, b, c⟩ := high_ok ds x 17 t y (by omega) (by omega) hg h
    exact ⟨a, b, c⟩
  · obtain ⟨_, a, _, b⟩ := low_ok ds x 17 t y (by omega) (by omega) hg hf h
    exact ⟨a, by omega, by omega⟩
theorem start_ok (x : Nat) (k : Int) (s : Bool) (q : Nat) (e : Int) (hp : partsV x k s (q : Int) e) (hq : 0 < q) (ds : ByteArray) (y : Int) (hd : ExD ds (y + 1) q e) :
    fw false q e ≤ 9218868437227405312 ∧ Rds (fw false q e) ds (y + 1) = true ∧ ∀ t z, RndD ds y 17 t z → LeaI ds y (fw false q e) t z ∧ t.size ≤ 17 ∧ y ≤ z ∧ z ≤ y + 1 := by
  have hX := fw_top q e
  refine ⟨hX, ?_, fun t z h => ⟨?_, rnd_small ds y hd.2.1 hd.2.2.1 t z h⟩⟩
  · rw [rds_is _ hX]
    apply decide_eq_true
    rw [exD_reads ds (y + 1) q e hq hd]
  · rcases hp with ⟨_, _, _, h0, _⟩ | ⟨_, _, h0, _⟩ | ⟨_, _, h0, _⟩ | ⟨n, p, q', j, hc, hn, _, hn', _, _, hqq, rfl⟩
    · omega
    · omega
    · omega
    · have e1 : q' = q := by omega
      subst e1
      have hfw : fw false q' (p + j) = fw false n p := by
        have := fw_scale false q' j (p + j)
        rw [show p + (j : Int) - j = p by omega, ← hn'] at this
        exact this.symm
      rw [hfw]
      exact lea_start n p q' j ds y hc hn hn' hd t z h fun N => high_ex ds y hd.2.1 N
/-- What signed answers at the short form. -/
theorem short_signed (x : Nat) (k : Int) (s : Bool) (q : Nat) (e : Int) (hp : partsV x k s (q : Int) e) (ds : ByteArray) (y : Int) (hd : DofR q e ds y) (t : ByteArray) (z : Int) (hl : LdR q e ds y t z) :
    ∃ u, shortV x u ∧ u.size ≤ 5000 ∧ ∀ F, ShF t z F → ∀ W, WrG W → Calls Tryz.prog 34 #[.agg #[.int .i64 k, .bool s, .int .i64 (q : Int), .int .i64 e], F] W fun r w' => r = .returned (.string u) ∧ Below W.heap.size W w' := by
  rcases hp with ⟨hn, rfl, rfl, h0, rfl⟩ | ⟨rfl, rfl, h0, rfl⟩ | ⟨rfl, rfl, h0, rfl⟩ | ⟨n, p, q', j, hc, hn, rfl, hn', hodd, rfl, hqq, rfl⟩
  · exact ⟨_, .inl ⟨hn, rfl⟩, by decide, fun F _ W _ => signed_nan F _ 0 W⟩
  · exact ⟨_, .inr (.inl ⟨s, rfl, rfl⟩), by cases s <;> decide, fun F _ W _ => signed_inf F s _ 0 W⟩
  · rcases hl with ⟨_, rfl, rfl⟩ | ⟨h, _⟩
    · refine ⟨_, .inr (.inr (.inl ⟨s, rfl, rfl⟩)), by cases s <;> decide, fun F hF W _ => ?_⟩
      rcases hF with ⟨h, _⟩ | ⟨_, _, rfl⟩
      · omega
      · have e1 : fixB ⟨#[]⟩ (0 + 1) ((((⟨#[]⟩ : ByteArray).size : Int) - (0 + 1)).toNat) = ⟨#[48]⟩ := by decide
        have := signed_plain (.agg #[.string ⟨#[]⟩, .int .i64 0, .int .i64 ((((⟨#[]⟩ : ByteArray).size : Int) - (0 + 1)).toNat : Int)]) 0 (.inl rfl) s (q : Int) 0 ⟨#[48]⟩ (by decide) W fun W1 _ => by
          have := plainWrite_any ⟨#[]⟩ 0 ((((⟨#[]⟩ : ByteArray).size : Int) - (0 + 1)).toNat) (by decide) (by decide) (by decide) (by decide) W1
          rw [e1] at this
          exact this
        exact this
    · omega
  · have e1 : q' = q := by omega
    subst e1
    have hq0 : 0 < q' := by omega
    have hfw : fw false q' (p + j) = fw false n p := by
      have := fw_scale false q' j (p + j)
      rw [show p + (j : Int) - j = p by omega, ← hn'] at this
      exact this.symm
    rcases hl with ⟨h, _⟩ | ⟨_, d, hle, htr, h17, z1, z2⟩
    · omega
    · rcases hd.1 with ⟨h, _⟩ | ⟨_, hx⟩
      · omega
      · rw [hfw] at hle
        have ht0 := htr.1
        have hsz := shortB_size t (z + 1) (by omega)
        refine ⟨_, .inr (.inr (.inr ⟨s, n, p, q', j, ds, y + 1, d, z + 1, t, hc, hn, rfl, hn', hodd, hx, hle, htr, rfl⟩)), ?_, fun F hF W hG => ?_⟩
        · have : (sgnB s).size ≤ 1 := by cases s <;> decide
          rw [append_size]
          omega
        · rcases hF with ⟨h, rfl⟩ | ⟨h1, h2, rfl⟩
          · refine signed_power _ 1 (.inr rfl) s (q' : Int) (p + j) _ (by omega) W fun W1 hb1 => ?_
            have hG1 := hG.below hb1
            refine (powerWrite_any t z t.size (by omega) (by omega) (by omega) ht0 (by omega) W1 hG1.2.1 hG1.2.2.2).mono ?_
            rintro r w' ⟨rfl, hb⟩
            rw [padB_whole]
            unfold shortB
            rw [if_neg (by omega)]
            exact ⟨rfl, hb⟩
          · refine signed_plain _ 1 (.inr rfl) s (q' : Int) (p + j) _ (by omega) W fun W1 hb1 => ?_
            refine (plainWrite_any t z _ (by omega) (by omega) (by omega) (by omega) W1).mono ?_
            rintro r w' ⟨rfl, hb⟩
            unfold shortB
            rw [if_pos (by omega), plainB_fix t (z + 1) ht0]
            exact ⟨rfl, hb⟩
set_option maxHeartbeats 2000000 in
set_option maxRecDepth 100000 in
theorem leastDigits_zero (ds : ByteArray) (h0 : ds.size = 0) (y : Int) (hy : -1200 ≤ y) (hy' : y ≤ 1200) (hg : good 10 ds.data.toList) (p : Addr) (w : World) :
    Calls Tryz.prog 31 #[.agg #[.string ds, .int .i64 y], .func (.func 32) #[] #[.pointer (some p)]] w fun e w' => e = .returned (.agg #[.string ds, .int .i64 y]) ∧ Below w.heap.size w w' := by
  have HR : Hid (∀ w : World, Calls Tryz.prog 52 #[.agg #[.string ds, .int .i64 y], .int .i64 17] w fun e w' => e = .returned (.agg #[.string ds, .int .i64 y]) ∧ Below w.heap.size w w') := fun w => by
    refine (round_any ds y 17 (by omega) (by omega) (by omega) hg w).mono ?_
    rintro e w' ⟨t, y, h, rfl, hb⟩
    rcases h with ⟨h, _⟩ | ⟨_, _, rfl, rfl⟩ | ⟨_, h, _⟩
    · omega
    · exact ⟨rfl, hb⟩
    · omega
  have h0' : (ds.size : Int) = 0 := by omega
  obtain ⟨H, hH⟩ : ∃ H, w.heap.size = H := ⟨_, rfl⟩
  go_enter Tryz.func31, Tryz.ntmps31
  go_wp2_with fail
  refine (HR.out _).mono ?_
  rintro e W1 ⟨rfl, hb1⟩
  obtain ⟨L, hL⟩ : ∃ L, W1.heap.size = L := ⟨_, rfl⟩
  have hHL : H + 1 < L := by have := hb1.size; simp at this; omega
  obtain ⟨W2, hW2⟩ : ∃ W2, W1.alloc (.cells #[.string ds, .int .i64 y] 51) = W2 := ⟨_, rfl⟩
  have hb2 : Below L W1 W2 := by rw [← hW2, ← hL]; exact (Below.refl _ _).alloc (Nat.le_refl _) _
  have r0 := (hb2.cell (p := ⟨H + 1, 0, none⟩) (by show H + 1 < L; omega)).trans ((hb1.cell (p := ⟨H + 1, 0, none⟩) (by simp <;> omega)).trans (by simp [go_sem, ← hH] : _ = some (.string ⟨#[]⟩)))
  have r1 := (hb2.cell (p := ⟨H + 1, 1, none⟩) (by show H + 1 < L; omega)).trans ((hb1.cell (p := ⟨H + 1, 1, none⟩) (by simp <;> omega)).trans (by simp [go_sem, ← hH] : _ = some (.int .i64 0)))
  have g0 := (hb2.frozen (p := ⟨H + 1, 0, none⟩) (by show H + 1 < L; omega)).trans ((hb1.frozen (p := ⟨H + 1, 0, none⟩) (by simp <;> omega)).trans (by simp [go_sem, ← hH] : _ = false))
  have g1 := (hb2.frozen (p := ⟨H + 1, 1, none⟩) (by show H + 1 < L; omega)).trans ((hb1.frozen (p := ⟨H + 1, 1, none⟩) (by simp <;> omega)).trans (by simp [go_sem, ← hH] : _ = false))
  have HB : Hid (Below w.heap.size w W2) := by
    have b0 : Below w.heap.size w W1 := (((Below.refl _ _).alloc (Nat.le_refl _) _).alloc (by simp) _).trans (hb1.mono (by simp <;> omega))
    exact b0.trans (hb2.mono (by omega))
  have l0 : W2.cell? ⟨L, 0, none⟩ = some (.string ds) := by rw [← hW2, ← hL]; simp [go_sem]
  have l1 : W2.cell? ⟨L, 1, none⟩ = some (.int .i64 y) := by rw [← hW2, ← hL]; simp [go_sem]
  have hHw : H + 1 < W2.heap.size := lt_cell r0
  clear hb1 hb2 HR
  go_wp2_with fail
  clear hL hW2
  go_loopw [6] (fun vn wr => vn = .int .i64 (-1) ∧ wr = W2) (fun _ _ => 0)
  case atStart => exact ⟨rfl, rfl⟩
  obtain ⟨rfl, rfl⟩ := hrel
  go_wp2
  refine bodyPost_ret (v := .agg #[.string ds, .int .i64 y]) (by simp [results, Tryz.results31, go_sem, r0, r1]) rfl ⟨rfl, (by repeat (first | exact HB.out | with_reducible refine Below.alloc ?_ (by simp <;> omega) _ | with_reducible refine Below.setCell ?_ (by simp <;> omega) _))⟩
theorem least_ok (x : Nat) (k : Int) (s : Bool) (q : Nat) (e : Int) (hp : partsV x k s (q : Int) e) (ds : ByteArray) (y : Int) (hd : DofR q e ds y) (p : Addr) (W : World) (hG : WrG W) (hc : W.cell? p = some (.float .f64 (fw false q e))) :
    Calls Tryz.prog 31 #[.agg #[.string ds, .int .i64 y], .func (.func 32) #[] #[.pointer (some p)]] W fun r w' => ∃ t z, LdR q e ds y t z ∧ r = .returned (.agg #[.string t, .int .i64 z]) ∧ Below W.heap.size W w' := by
  obtain ⟨hd1, hd2, hd3, hd4⟩ := hd
  rcases hd1 with ⟨rfl, rfl, rfl⟩ | ⟨hq, hx⟩
  · refine (leastDigits_zero ⟨#[]⟩ rfl 0 (by omega) (by omega) (fun _ h => by cases h) p W).mono ?_
    rintro r w' ⟨rfl, hb⟩
    exact ⟨_, _, .inl ⟨rfl, rfl, rfl⟩, rfl, hb⟩
  · obtain ⟨h1, h2, h3⟩ := start_ok x k s q e hp hq ds y hx
    refine (leastDigits_any ds y p (fw false q e) hd2 hd3 hd4 hx.2.1 hx.2.2.1 h1 h2 h3 W hG hc).mono ?_
    rintro r w' ⟨t, z, d, a1, a2, a3, a4, a5, rfl, hb⟩
    exact ⟨t, z, .inr ⟨hq, d, a1, a2, a3, a4, a5⟩, rfl, hb⟩
end Go.Proofs.YtpmccbkhkaoccaaGreatDoor

/- Shortest of the program. -/
namespace Go.Proofs.YtpmccbkhkaoccaaGreatDoor
open Go.ChangeShapes Go.WideShapes Go.RowKit

attribute [local go_sem] run_store_float
/-- Worlds in which the boxes of the parts and of the digits still lie. -/
def ShB (w : World) (A : Nat) (k : Int) (s : Bool) (m e : Int) (D : Nat) (t : ByteArray) (z : Int) (W : World) : Prop := Box4 w A k s m e W ∧ W.cell? ⟨D, 0, none⟩ = some (.string t) ∧ W.cell? ⟨D, 1, none⟩ = some (.int .i64 z)
theorem ShB.drew {w W : World} {A : Nat} {k : Int} {s : Bool} {m e : Int} {D : Nat} {t : ByteArray} {z : Int} (h : ShB w A k s m e D t z W) : ShB w A k s m e D t z W.drew := ⟨h.1.drew, h.2⟩
theorem ShB.next {w W W' : World} {A : Nat} {k : Int} {s : Bool} {m e : Int} {D : Nat} {t : ByteArray} {z : Int} (h : ShB w A k s m e D t z W) (hb : Below W.heap.size W W') : ShB w A k s m e D t z W' :=
  ⟨h.1.next hb, (hb.cell (lt_cell h.2.1)).trans h.2.1, (hb.cell (lt_cell h.2.2)).trans h.2.2⟩
theorem u64n_nat (q : Nat) (h : q ≤ 9007199254740992) : u64n (q : Int) = q := by
  unfold u64n
  rw [IntKind.wrap_u64]
  omega
set_option maxHeartbeats 4000000 in
set_option maxRecDepth 100000 in
theorem implShort_any (x : Nat) (hx : x < 18446744073709551616) (w : World) (hG : WrG w) :
    Calls Tryz.prog 8 #[.float .f64 x] w fun e w' => ∃ t, shortV x t ∧ t.size ≤ 5000 ∧ e = .returned (.string t) ∧ Below w.heap.size w w' := by
  obtain ⟨k, s, m, e, hp⟩ := parts_ex x hx
  obtain ⟨q, rfl, hq, he1, he2⟩ := parts_mant x k s m e hp
  have HP : Hid _ := fun (_ : Unit) => implParts_of x hx k s q e hp w hG.1 hG.2.2.1
  have HPV : Hid (partsV x k s (q : Int) e) := hp
  have HG : Hid (WrG w) := hG
  obtain ⟨X, hX⟩ : ∃ X, fw false q e = X := ⟨_, rfl⟩
  have HN : Hid (∀ W : World, Calls Tryz.prog 29 #[.bool false, .int .i64 (q : Int), .int .i64 e] W fun r w' => r = .returned (.float .f64 X) ∧ Below W.heap.size W w') := fun W => by
    have := implNear_any false (q : Int) e W
    rw [u64n_nat q hq, hX] at this
    exact this
  clear hp hG
  go_enter Tryz.func8, Tryz.ntmps8
  go_wp2_with fail
  refine (HP.out ()).mono ?_
  rintro r W1 ⟨rfl, hb1⟩
  obtain ⟨A, hA⟩ : ∃ A, W1.heap.size = A := ⟨_, rfl⟩
  obtain ⟨W2, hW2⟩ : ∃ W2, W1.alloc (.cells #[.int .i64 k, .bool s, .int .i64 (q : Int), .int .i64 e] 32) = W2 := ⟨_, rfl⟩
  have HX2 : Hid (Box4 w A k s (q : Int) e W2) := by rw [← hW2, ← hA]; exact Box4.new hb1
  have hc0 := HX2.out.2.1
  have hc1 := HX2.out.2.2.1
  have hc2 := HX2.out.2.2.2.1
  have hc3 := HX2.out.2.2.2.2
  clear hb1 HP
  go_wp2_with fail
  refine (HN.out _).mono ?_
  rintro r W3 ⟨rfl, hb3⟩
  obtain ⟨P, hP⟩ : ∃ P, W3.heap.size = P := ⟨_, rfl⟩
  obtain ⟨W4, hW4⟩ : ∃ W4, W3.alloc (.cells #[.float .f64 X] 23) = W4 := ⟨_, rfl⟩
  have HX4 : Hid (Box4 w A k s (q : Int) e W4) := by
    rw [← hW4]
    exact (HX2.out.next hb3).next ((Below.refl _ _).alloc (Nat.le_refl _) _)
  have hp4 : W4.cell? ⟨P, 0, none⟩ = some (.float .f64 X) := by rw [← hW4, ← hP]; simp [go_sem]
  have HP4 : Hid (W4.cell? ⟨P, 0, none⟩ = some (.float .f64 X)) := hp4
  have hd0 := HX4.out.2.1
  have hd1 := HX4.out.2.2.1
  have hd2 := HX4.out.2.2.2.1
  have hd3 := HX4.out.2.2.2.2
  have HD : Hid (Calls Tryz.prog 30 #[.agg #[.int .i64 k, .bool s, .int .i64 (q : Int), .int .i64 e]] W4 fun r w' => ∃ ds y, Hid (DofR q e ds y) ∧ r = .returned (.agg #[.string ds, .int .i64 y]) ∧ Below W4.heap.size W4 w') := by
    have hg := HG.out.below HX4.out.1
    refine (decimalOf_any k s q e hq (by omega) (by omega) W4 hg.2.1 hg.2.2.2).mono ?_
    rintro r w' ⟨ds, y, h1, h2, h3, h4, rfl, hb⟩
    exact ⟨ds, y, ⟨h1, h2, h3, h4⟩, rfl, hb⟩
  clear hb3 HN hc0 hc1 hc2 hc3 HX2
  go_wp2_with fail
  refine (HD.out).mono ?_
  rintro r W5 ⟨ds, y, HDR, rfl, hb5⟩
  have HX5 : Hid (Box4 w A k s (q : Int) e W5) := HX4.out.next hb5
  have HP5 : Hid (W5.cell? ⟨P, 0, none⟩ = some (.float .f64 X)) := (hb5.cell (lt_cell hp4)).trans hp4
  have HLE : Hid (Calls Tryz.prog 31 #[.agg #[.string ds, .int .i64 y], .func (.func 32) #[] #[.pointer (some ⟨P, 0, none⟩)]] W5 fun r w' => ∃ t z, Hid (LdR q e ds y t z) ∧ r = .returned (.agg #[.string t, .int .i64 z]) ∧ Below W5.heap.size W5 w') :=
    least_ok x k s q e HPV.out ds y HDR.out ⟨P, 0, none⟩ W5 (HG.out.below HX5.out.1) (by rw [hX]; exact HP5.out)
  clear hb5 hp4 hd0 hd1 hd2 hd3 HD HP4 HX4 hW4 hP
  go_wp2_with fail
  refine (HLE.out).mono ?_
  rintro r W6 ⟨t, z, HLD, rfl, hb6⟩
  obtain ⟨D, hD⟩ : ∃ D, W6.heap.size = D := ⟨_, rfl⟩
  obtain ⟨W7, hW7⟩ : ∃ W7, W6.alloc (.cells #[.string t, .int .i64 z] 51) = W7 := ⟨_, rfl⟩
  have HX7 : Hid (ShB w A k s (q : Int) e D t z W7) := by
    rw [← hW7, ← hD]
    exact ⟨(HX5.out.next hb6).next ((Below.refl _ _).alloc (Nat.le_refl _) _), by simp [go_sem], by simp [go_sem]⟩
  obtain ⟨u, hu, hus, hsg⟩ := short_signed x k s q e HPV.out ds y HDR.out t z HLD.out
  have HU : Hid (shortV x u ∧ u.size ≤ 5000) := ⟨hu, hus⟩
  have HSG : Hid _ := hsg
  have HB : Hid (t.size ≤ 17 ∧ -1201 ≤ z ∧ z ≤ 1201) := by
    rcases HLD.out with ⟨_, rfl, rfl⟩ | ⟨_, d, _, _, a, b, c⟩
    · exact ⟨by decide, by decide, by decide⟩
    · exact ⟨a, b, c⟩
  have HF : Hid (∀ W, ShB w A k s (q : Int) e D t z W → Calls Tryz.prog 33 #[.agg #[.string t, .int .i64 z]] W fun r w' => ∃ F, Hid (ShF t z F) ∧ r = .returned F ∧ Hid (ShB w A k s (q : Int) e D t z w')) := fun W hW => by
    have := HB.out
    refine (shortForm_any t z (by omega) (by omega) (by omega) W).mono ?_
    rintro r w' ⟨F, hF, rfl, hb⟩
    exact ⟨F, hF, rfl, hW.next hb⟩
  have hc0 := HX7.out.1.2.1
  have hc1 := HX7.out.1.2.2.1
  have hc2 := HX7.out.1.2.2.2.1
  have hc3 := HX7.out.1.2.2.2.2
  have hc4 := HX7.out.2.1
  have hc5 := HX7.out.2.2
  clear hb6 hu hus hsg HX5 HP5 HLE
  go_wp2
  refine wp_region_held_drew (S := fun X' => ShB w A k s (q : Int) e D t z X') (by kernel_rfl) HX7.out.drew (fun hHeld => ?_)
  refine wpAnyH_take (i := 0) (oi := _) (v := ?v0) rfl (by kernel_rfl) (by kernel_rfl) (by kernel_rfl) (fun _ _ _ h => h) (Or.inl ⟨by rfl, ?y0⟩) (by assumption) ?_
  case y0 => (intro w' hSw; obtain ⟨⟨_, y0, y1, y2, y3⟩, y4, y5⟩ := hSw; go_simp; first | done | with_reducible rfl)
  try simp only [Act.put]
  try simp only [List.setIfInBounds_toArray]
  try simp only [List.set_cons_succ]
  try simp only [List.set_cons_zero]
  refine wpAnyH_take (i := 1) (oi := _) (v := ?v1) rfl (by kernel_rfl) (by kernel_rfl) (by kernel_rfl) (fun _ _ _ h => h) (Or.inl ⟨by rfl, ?y1⟩) (by assumption) ?_
  case y1 => (intro w' hSw; obtain ⟨⟨_, y0, y1, y2, y3⟩, y4, y5⟩ := hSw; go_simp; first | done | with_reducible rfl)
  try simp only [Act.put]
  try simp only [List.setIfInBounds_toArray]
  try simp only [List.set_cons_succ]
  try simp only [List.set_cons_zero]
  have HXd : Hid (ShB w A k s (q : Int) e D t z W7.drew) := HX7.out.drew
  generalize W7.drew = W8 at *
  refine wpAnyH_ready (rs := [2]) (by kernel_rfl) (by simp) ?_
  refine AllReadyH.cons (o := _) rfl (fun K hK => ?_) AllReadyH.nil
  go_simp
  refine (HF.out _ HXd.out).mono ?_
  rintro r W9 ⟨F, HFF, rfl, HX9⟩
  dsimp only
  refine hK.out _ _ HX9.out (fun hHeld => ?_)
  clear hK K
  try simp only [Act.put]
  try simp only [List.setIfInBounds_toArray]
  try simp only [List.set_cons_succ]
  try simp only [List.set_cons_zero]
  refine wpAnyH_ready (rs := [3]) (by kernel_rfl) (by simp) ?_
  refine AllReadyH.cons (o := _) rfl (fun K hK => ?_) AllReadyH.nil
  go_simp
  refine (HSG.out F HFF.out _ (HG.out.below HX9.out.1.1)).mono ?_
  rintro r W10 ⟨rfl, hb10⟩
  have HX10 : Hid (ShB w A k s (q : Int) e D t z W10) := HX9.out.next hb10
  clear hb10
  dsimp only
  refine hK.out _ _ HX10.out (fun hHeld => ?_)
  clear hK K
  try simp only [Act.put]
  try simp only [List.setIfInBounds_toArray]
  try simp only [List.set_cons_succ]
  try simp only [List.set_cons_zero]
  refine wpAnyH_ready (rs := [4]) (by kernel_rfl) (by simp) ?_
  refine AllReadyH.cons (o := _) rfl (fun K hK => ?_) AllReadyH.nil
  go_simp
  refine hK.out _ _ HX10.out (fun hHeld => ?_)
  clear hK K
  refine wpAnyH_done (by kernel_rfl) ?_ _
  go_wp2
  go_ret
  exact ⟨u, HU.out.1, HU.out.2, rfl, HX10.out.1.1⟩
end Go.Proofs.YtpmccbkhkaoccaaGreatDoor

