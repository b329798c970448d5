import Derived.Test.YtoedefjngipeiaaGreatDoorA21
import Derived.Test.YtoedefjngipeiaaGreatDoorA09
import Derived.Test.YtoedefjngipeiaaGreatDoorA03
import Derived.WalkKit
import Derived.Lib.Strings
import Derived.Test.YtoedefjngipeiaaGreatDoorRows
import Derived.WalkSpells
import Derived.WalkLawsBesides
import Derived.Outline
import Derived.BigQuiet
import Derived.Deep.QuietTactic
/- l5least of the specification. -/
namespace Go.Proofs.YtoedefjngipeiaaGreatDoor
open Go.ChangeShapes Go.WideShapes Go.RowKit
open Ieee (double)

/-- Digits that are read as x. -/
def Rds (x : Nat) (t : ByteArray) (p : Int) : Bool := double.order (decW 10 (valN 10 t.data.toList) (p - (t.size : Int))) x == some .eq
/-- What l5least answers. -/
def LeastD (ds : ByteArray) (pow : Int) (x : Nat) (t : ByteArray) (p' : Int) : Prop := ∃ n t2 p2, 1 ≤ n ∧ n ≤ ds.size ∧ cutV ds pow n (decide (n < ds.size)) t2 p2
  ∧ (∀ k, 1 ≤ k → k < n → Rds x (padB ds k) pow = false ∧ ∀ u r, cutV ds pow k (decide (k < ds.size)) u r → Rds x u r = false)
  ∧ ((Rds x (padB ds n) pow = true ∧ (Rds x t2 p2 = true → roundsB ds (n : Int) = false) ∧ t = padB ds n ∧ p' = pow) ∨ (Rds x t2 p2 = true ∧ (Rds x (padB ds n) pow = true → roundsB ds (n : Int) = true) ∧ t = t2 ∧ p' = p2))
/-- A boxed pair of digits and their point. -/
theorem boxed (w : World) (ds : ByteArray) (p : Int) (T : Nat) : ∃ W, W = w.alloc (.cells #[.string ds, .int .i64 p] T) ∧ Below w.heap.size w W ∧ w.heap.size < W.heap.size
    ∧ W.cell? ⟨w.heap.size, 0, none⟩ = some (.string ds) ∧ W.cell? ⟨w.heap.size, 1, none⟩ = some (.int .i64 p) ∧ W.frozen? ⟨w.heap.size, 0, none⟩ = false ∧ W.frozen? ⟨w.heap.size, 1, none⟩ = false :=
  ⟨_, rfl, (Below.refl _ _).alloc (Nat.le_refl _) _, by simp, by simp [go_sem], by simp [go_sem], by simp [go_sem], by simp [go_sem]⟩

set_option maxHeartbeats 8000000 in
set_option maxRecDepth 100000 in
theorem l5least_any (x : Nat) (q : Nat) (E : Int) (hq : 0 < q) (hxq : x = fw false q E) (hself : double.order x x = some .eq) (hX : ∀ w, Calls Tryz.prog 81 #[.float .f64 x] w fun e w' =>
    ∃ ds pow, ExD ds pow q E ∧ ds.size ≤ 1100 ∧ -1100 ≤ pow ∧ pow ≤ 1100 ∧ e = .returned (.agg #[.string ds, .int .i64 pow]) ∧ Below w.heap.size w w') (w : World) :
    Calls Tryz.prog 77 #[.float .f64 x] w fun e w' => ∃ ds pow t p', ExD ds pow q E ∧ ds.size ≤ 1100 ∧ -1100 ≤ pow ∧ pow ≤ 1100 ∧ LeastD ds pow x t p' ∧ e = .returned (.agg #[.string t, .int .i64 p']) ∧ Below w.heap.size w w' := by
  have H3 : Hid _ := hX
  have HXQ : Hid (x = fw false q E ∧ double.order x x = some .eq ∧ 0 < q) := ⟨hxq, hself, hq⟩
  obtain ⟨Wr, hWr, hBr, hlr, r0, r1, g0, g1⟩ := boxed w ⟨#[]⟩ 0 121
  have HWr : Hid _ := hWr
  have HR0 : Hid _ := fun (_ : Unit) => And.intro hBr (And.intro hlr (And.intro r0 (And.intro r1 (And.intro g0 g1))))
  clear hX hWr hBr hlr r0 r1 g0 g1 hxq hself hq
  go_enter Tryz.func77, Tryz.ntmps77
  go_wp2_with fail
  rw [← HWr.out]
  refine (H3.out _).mono ?_
  rintro e w2 ⟨ds, pow, hd, hs, hp1, hp2, rfl, hb2⟩
  obtain ⟨Wd, hWd, hBd, hld, d0, d1, _, _⟩ := boxed w2 ds pow 121
  have HWd : Hid _ := hWd
  have HD : Hid _ := fun (_ : Unit) => hd
  have HRd : Hid (Below w.heap.size w Wd ∧ w.heap.size < Wd.heap.size ∧ Wd.cell? ⟨w.heap.size, 0, none⟩ = some (.string ⟨#[]⟩) ∧ Wd.cell? ⟨w.heap.size, 1, none⟩ = some (.int .i64 0) ∧ Wd.frozen? ⟨w.heap.size, 0, none⟩ = false ∧ Wd.frozen? ⟨w.heap.size, 1, none⟩ = false) := by
    obtain ⟨a1, a2, a3, a4, a5, a6⟩ := HR0.out ()
    have hb : Below Wr.heap.size Wr Wd := hb2.trans (hBd.mono hb2.size)
    exact ⟨a1.trans (hb.mono (by omega)), Nat.lt_of_lt_of_le a2 hb.size, (hb.cell (p := ⟨w.heap.size, 0, none⟩) a2).trans a3, (hb.cell (p := ⟨w.heap.size, 1, none⟩) a2).trans a4, (hb.frozen (p := ⟨w.heap.size, 0, none⟩) a2).trans a5, (hb.frozen (p := ⟨w.heap.size, 1, none⟩) a2).trans a6⟩
  have HDd : Hid _ := fun (_ : Unit) => And.intro hld (And.intro d0 d1)
  have hs1 := hd.1
  clear hd hb2 hBd hld d0 d1 hWd HR0 HWr H3
  go_wp2_with fail
  rw [← HWd.out]
  go_loopw [4] (fun vn wr => ∃ n : Nat, vn = .int .i64 (n : Int) ∧ 1 ≤ n ∧ n ≤ ds.size ∧ Hid (∀ k, 1 ≤ k → k < n → Rds x (padB ds k) pow = false ∧ ∀ u r, cutV ds pow k (decide (k < ds.size)) u r → Rds x u r = false) ∧ Hid (Below Wd.heap.size Wd wr)) (fun vn _ => ds.size + 1 - (intOf vn).toNat)
  case atStart => exact ⟨1, rfl, Nat.le_refl _, hs1, fun k h1 h2 => by omega, Below.refl _ _⟩
  case round =>
    obtain ⟨n, rfl, hn1, hn2, HN, HBn⟩ := hrel
    have hni : (n : Int) ≤ (ds.size : Int) := by omega
    have hsi : (ds.size : Int) ≤ 1100 := by omega
    have d0 : wr.cell? ⟨w2.heap.size, 0, none⟩ = some (.string ds) := (HBn.out.cell (p := ⟨w2.heap.size, 0, none⟩) (HDd.out ()).1).trans (HDd.out ()).2.1
    have d1 : wr.cell? ⟨w2.heap.size, 1, none⟩ = some (.int .i64 pow) := (HBn.out.cell (p := ⟨w2.heap.size, 1, none⟩) (HDd.out ()).1).trans (HDd.out ()).2.2
    go_wp2_with fail
    refine (l5cut_any ds pow n false hs (HD.out ()).2.1 (by omega) (by omega) (by omega) _).mono ?_
    rintro e w5 ⟨t1, p1, hc1, rfl, hb5⟩
    have e1 : t1 = padB ds n ∧ p1 = pow := by
      rcases hc1 with ⟨_, a, b⟩ | ⟨h, _⟩
      · exact ⟨a, b⟩
      · cases h
    obtain ⟨rfl, rfl⟩ := e1
    have hb5' : Below Wd.heap.size Wd w5 := HBn.out.trans (hb5.mono HBn.out.size)
    have hl5 : w2.heap.size < w5.heap.size := Nat.lt_of_lt_of_le (HDd.out ()).1 hb5'.size
    have HB5 : Hid (Below Wd.heap.size Wd w5) := hb5'
    have d05 : w5.cell? ⟨w2.heap.size, 0, none⟩ = some (.string ds) := (hb5'.cell (p := ⟨w2.heap.size, 0, none⟩) (HDd.out ()).1).trans (HDd.out ()).2.1
    have d15 : w5.cell? ⟨w2.heap.size, 1, none⟩ = some (.int .i64 p1) := (hb5'.cell (p := ⟨w2.heap.size, 1, none⟩) (HDd.out ()).1).trans (HDd.out ()).2.2
    have hps := padB_size ds n
    have HPG : Hid _ := padB_good ds n (HD.out ()).2.1
    clear hb5 hc1 d0 d1
    go_wp2_with fail
    refine (l5cut_any ds p1 n _ hs (HD.out ()).2.1 (by omega) (by omega) (by omega) _).mono ?_
    rintro e w6 ⟨t2, p2, hc2, rfl, hb6⟩
    have hz2 := cut5_size _ _ _ _ _ _ hc2
    have HC2 : Hid (cutV ds p1 n (decide (n < ds.size)) t2 p2) := hc2
    have HG2 : Hid _ := cutV_good _ _ _ _ _ _ (HD.out ()).2.1 hc2
    have hl6 : w5.heap.size < w6.heap.size := by have h := hb6.size; simp at h; omega
    have a0 := (hb6.cell (p := ⟨w5.heap.size, 0, none⟩) (by simp)).trans (by simp [go_sem] : _ = some (.string (padB ds n)))
    have a1 := (hb6.cell (p := ⟨w5.heap.size, 1, none⟩) (by simp)).trans (by simp [go_sem] : _ = some (.int .i64 p1))
    have HB6 : Hid (Below Wd.heap.size Wd w6) := (HB5.out.alloc HB5.out.size _).trans (hb6.mono (by have := HB5.out.size; simp; omega))
    clear hb6 hc2 d05 d15
    go_wp2_with fail
    refine (l5value_any (padB ds n) p1 (by omega) HPG.out (by omega) (by omega) _).mono ?_
    rintro e w7 ⟨rfl, hb7⟩
    have hl7 : w6.heap.size < w7.heap.size := by have h := hb7.size; simp at h; omega
    have HB7 : Hid (Below Wd.heap.size Wd w7) := (HB6.out.alloc HB6.out.size _).trans (hb7.mono (by have := HB6.out.size; simp; omega))
    have b0 := (hb7.cell (p := ⟨w6.heap.size, 0, none⟩) (by simp)).trans (by simp [go_sem] : _ = some (.string t2))
    have b1 := (hb7.cell (p := ⟨w6.heap.size, 1, none⟩) (by simp)).trans (by simp [go_sem] : _ = some (.int .i64 p2))
    have a07 := (hb7.cell (p := ⟨w5.heap.size, 0, none⟩) (by simp <;> omega)).trans (((Below.refl w6.heap.size w6).alloc (Nat.le_refl _) _).cell (p := ⟨w5.heap.size, 0, none⟩) hl6 |>.trans a0)
    have a17 := (hb7.cell (p := ⟨w5.heap.size, 1, none⟩) (by simp <;> omega)).trans (((Below.refl w6.heap.size w6).alloc (Nat.le_refl _) _).cell (p := ⟨w5.heap.size, 1, none⟩) hl6 |>.trans a1)
    obtain ⟨D1, hD1⟩ : ∃ D1, D1 = decW 10 (valN 10 (padB ds n).data.toList) (p1 - ((padB ds n).size : Int)) := ⟨_, rfl⟩
    obtain ⟨A, hA⟩ : ∃ A, A = Rds x (padB ds n) p1 := ⟨_, rfl⟩
    have hA' : (FloatKind.f64.format.order D1 x == some .eq) = A := by rw [hA, hD1]; rfl
    have HAE : Hid (A = Rds x (padB ds n) p1) := hA
    rw [← hD1]
    clear hb7 a0 a1 hA hD1
    go_wp2_with fail
    refine (l5value_any t2 p2 (by omega) HG2.out (by omega) (by omega) _).mono ?_
    rintro e w8 ⟨rfl, hb8⟩
    have HB8 : Hid (Below Wd.heap.size Wd w8) := HB7.out.trans (hb8.mono HB7.out.size)
    have hl8 : w7.heap.size ≤ w8.heap.size := hb8.size
    have b08 := (hb8.cell (p := ⟨w6.heap.size, 0, none⟩) hl7).trans b0
    have b18 := (hb8.cell (p := ⟨w6.heap.size, 1, none⟩) hl7).trans b1
    have hl57 : w5.heap.size < w7.heap.size := by omega
    have a08 := (hb8.cell (p := ⟨w5.heap.size, 0, none⟩) hl57).trans a07
    have a18 := (hb8.cell (p := ⟨w5.heap.size, 1, none⟩) hl57).trans a17
    have hl68 : w6.heap.size < w8.heap.size := by omega
    have hl58 : w5.heap.size < w8.heap.size := by omega
    have d08 : w8.cell? ⟨w2.heap.size, 0, none⟩ = some (.string ds) := (HB8.out.cell (p := ⟨w2.heap.size, 0, none⟩) (HDd.out ()).1).trans (HDd.out ()).2.1
    have d18 : w8.cell? ⟨w2.heap.size, 1, none⟩ = some (.int .i64 p1) := (HB8.out.cell (p := ⟨w2.heap.size, 1, none⟩) (HDd.out ()).1).trans (HDd.out ()).2.2
    obtain ⟨D2, hD2⟩ : ∃ D2, D2 = decW 10 (valN 10 t2.data.toList) (p2 - (t2.size : Int)) := ⟨_, rfl⟩
    obtain ⟨B, hB⟩ : ∃ B, B = Rds x t2 p2 := ⟨_, rfl⟩
    have hB' : (FloatKind.f64.format.order D2 x == some .eq) = B := by rw [hB, hD2]; rfl
    have HBE : Hid (B = Rds x t2 p2) := hB
    rw [← hD2]
    clear hb8 b0 b1 a07 a17 hB hD2
    obtain ⟨hRb, hRl, r0d, r1d, g0d, g1d⟩ := HRd.out
    have r0 : w8.cell? ⟨w.heap.size, 0, none⟩ = some (.string ⟨#[]⟩) := (HB8.out.cell (p := ⟨w.heap.size, 0, none⟩) hRl).trans r0d
    have r1 : w8.cell? ⟨w.heap.size, 1, none⟩ = some (.int .i64 0) := (HB8.out.cell (p := ⟨w.heap.size, 1, none⟩) hRl).trans r1d
    have g0 : w8.frozen? ⟨w.heap.size, 0, none⟩ = false := (HB8.out.frozen (p := ⟨w.heap.size, 0, none⟩) hRl).trans g0d
    have g1 : w8.frozen? ⟨w.heap.size, 1, none⟩ = false := (HB8.out.frozen (p := ⟨w.heap.size, 1, none⟩) hRl).trans g1d
    have hRl8 : w.heap.size < w8.heap.size := Nat.lt_of_lt_of_le hRl HB8.out.size
    have HRB : Hid (Below w.heap.size w w8) := hRb.trans (HB8.out.mono (by omega))
    have HROU : Hid _ := fun w => l5rounds_any ds p1 (n : Int) (by omega) (HD.out ()).2.1 w
    clear r0d r1d g0d g1d hRb
    cases A
    · cases B
      · have hend : n < ds.size := by
          apply Classical.byContradiction
          intro hge
          have hn : n = ds.size := by omega
          have hpad : padB ds n = ds := by
            unfold padB
            rw [if_neg hge, show n - ds.size = 0 by omega]
            show ds ++ ByteArray.empty = ds
            simp
          have h1 := HAE.out
          rw [hpad] at h1
          unfold Rds at h1
          rw [exD_reads ds p1 q E HXQ.out.2.2 (HD.out ()), ← HXQ.out.1, HXQ.out.2.1] at h1
          revert h1; decide
        have HN2 : Hid (∀ k, 1 ≤ k → k < n + 1 → Rds x (padB ds k) p1 = false ∧ ∀ u r, cutV ds p1 k (decide (k < ds.size)) u r → Rds x u r = false) := by
          intro k h1 h2
          by_cases hk : k < n
          · exact HN.out k h1 hk
          · obtain rfl : k = n := by omega
            refine ⟨HAE.out.symm, fun u r hu => ?_⟩
            obtain ⟨rfl, rfl⟩ := cutV_one _ _ _ _ _ _ _ _ hu HC2.out
            exact HBE.out.symm
        go_wp2
        exact ⟨⟨n + 1, rfl, by omega, by omega, HN2.out, HB8.out⟩, by simp only [intOf]; omega⟩
      · go_wp2
        refine bodyPost_ret (v := .agg #[.string t2, .int .i64 p2]) (by simp [results, Tryz.results77, go_sem, r0, r1]) rfl ⟨ds, p1, t2, p2, HD.out (), hs, hp1, hp2, ⟨n, t2, p2, hn1, hn2, HC2.out, HN.out, .inr ⟨HBE.out.symm, (fun h => by rw [← HAE.out] at h; cases h), rfl, rfl⟩⟩, rfl, (by repeat (first | exact HRB.out | with_reducible refine Below.alloc ?_ (by simp <;> omega) _ | with_reducible refine Below.setCell ?_ (by simp <;> omega) _))⟩
    · cases B
      · go_wp2
        refine bodyPost_ret (v := .agg #[.string (padB ds n), .int .i64 p1]) (by simp [results, Tryz.results77, go_sem, r0, r1]) rfl ⟨ds, p1, padB ds n, p1, HD.out (), hs, hp1, hp2, ⟨n, t2, p2, hn1, hn2, HC2.out, HN.out, .inl ⟨HAE.out.symm, (fun h => by rw [← HBE.out] at h; cases h), rfl, rfl⟩⟩, rfl, (by repeat (first | exact HRB.out | with_reducible refine Below.alloc ?_ (by simp <;> omega) _ | with_reducible refine Below.setCell ?_ (by simp <;> omega) _))⟩
      · obtain ⟨rb, hrb⟩ : ∃ rb, rb = roundsB ds (n : Int) := ⟨_, rfl⟩
        have HRBE : Hid (rb = roundsB ds (n : Int)) := hrb
        rw [← hrb] at HROU
        clear hrb
        cases rb
        · go_wp2_with (go_at_call 96; refine (HROU.out _).mono ?_; rintro e w9 ⟨rfl, rfl⟩)
          have hba := (Below.refl ((w8.setCell ⟨w.heap.size, 0, none⟩ (.string (padB ds n))).setCell ⟨w.heap.size, 1, none⟩ (.int .i64 p1)).heap.size ((w8.setCell ⟨w.heap.size, 0, none⟩ (.string (padB ds n))).setCell ⟨w.heap.size, 1, none⟩ (.int .i64 p1))).alloc (Nat.le_refl _) (.cells #[.string ds, .int .i64 p1] 121)
          have e0 := (hba.cell (p := ⟨w.heap.size, 0, none⟩) (by simpa using hRl8)).trans (by simp [go_sem, r0] : _ = some (.string (padB ds n)))
          have e1 := (hba.cell (p := ⟨w.heap.size, 1, none⟩) (by simpa using hRl8)).trans (by simp [go_sem, r1] : _ = some (.int .i64 p1))
          refine bodyPost_ret (v := .agg #[.string (padB ds n), .int .i64 p1]) (by simp [results, Tryz.results77, go_sem, e0, e1]) rfl ⟨ds, p1, padB ds n, p1, HD.out (), hs, hp1, hp2, ⟨n, t2, p2, hn1, hn2, HC2.out, HN.out, .inl ⟨HAE.out.symm, (fun _ => HRBE.out.symm), rfl, rfl⟩⟩, rfl, (by repeat (first | exact HRB.out | with_reducible refine Below.alloc ?_ (by simp <;> omega) _ | with_reducible refine Below.setCell ?_ (by simp <;> omega) _))⟩
        · go_wp2_with (go_at_call 96; refine (HROU.out _).mono ?_; rintro e w9 ⟨rfl, rfl⟩)
          have hba := (Below.refl ((w8.setCell ⟨w.heap.size, 0, none⟩ (.string t2)).setCell ⟨w.heap.size, 1, none⟩ (.int .i64 p2)).heap.size ((w8.setCell ⟨w.heap.size, 0, none⟩ (.string t2)).setCell ⟨w.heap.size, 1, none⟩ (.int .i64 p2))).alloc (Nat.le_refl _) (.cells #[.string ds, .int .i64 p1] 121)
          have e0 := (hba.cell (p := ⟨w.heap.size, 0, none⟩) (by simpa using hRl8)).trans (by simp [go_sem, r0] : _ = some (.string t2))
          have e1 := (hba.cell (p := ⟨w.heap.size, 1, none⟩) (by simpa using hRl8)).trans (by simp [go_sem, r1] : _ = some (.int .i64 p2))
          refine bodyPost_ret (v := .agg #[.string t2, .int .i64 p2]) (by simp [results, Tryz.results77, go_sem, e0, e1]) rfl ⟨ds, p1, t2, p2, HD.out (), hs, hp1, hp2, ⟨n, t2, p2, hn1, hn2, HC2.out, HN.out, .inr ⟨HBE.out.symm, (fun _ => HRBE.out.symm), rfl, rfl⟩⟩, rfl, (by repeat (first | exact HRB.out | with_reducible refine Below.alloc ?_ (by simp <;> omega) _ | with_reducible refine Below.setCell ?_ (by simp <;> omega) _))⟩
end Go.Proofs.YtoedefjngipeiaaGreatDoor

/- l5trim of the specification. -/
namespace Go.Proofs.YtoedefjngipeiaaGreatDoor
open Go.ChangeShapes Go.WideShapes Go.RowKit

/-- Zeros at the end are left out, but for one digit. -/
def TrimD (d t : ByteArray) : Prop := 0 < t.size ∧ good 10 t.data.toList ∧ ∃ j, t = d.extract 0 t.size ∧ t.size + j = d.size ∧ valN 10 d.data.toList = valN 10 t.data.toList * 10 ^ j ∧ (t.size = 1 ∨ ∀ h : t.size - 1 < t.size, t[t.size - 1].toNat ≠ 48)
/-- On the way. -/
def TrimO (d t : ByteArray) (j : Nat) : Prop := 0 < t.size ∧ good 10 t.data.toList ∧ t = d.extract 0 t.size ∧ t.size + j = d.size ∧ valN 10 d.data.toList = valN 10 t.data.toList * 10 ^ j
theorem trimO_start (d : ByteArray) (h : 0 < d.size) (hg : good 10 d.data.toList) : TrimO d d 0 := ⟨h, hg, by simp, rfl, by rw [Nat.pow_zero, Nat.mul_one]⟩
theorem trimO_next (d t : ByteArray) (j : Nat) (h : TrimO d t j) (h1 : 1 < t.size) (hz : ∀ h : t.size - 1 < t.size, t[t.size - 1].toNat = 48) : TrimO d (t.extract 0 (t.size - 1)) (j + 1) := by
  obtain ⟨a1, a2, a3, a4, a5⟩ := h
  have hs : (t.extract 0 (t.size - 1)).size = t.size - 1 := by simp
  refine ⟨by omega, ?_, ?_, by omega, ?_⟩
  · intro c hc
    exact a2 c (by rw [last_cut t a1]; exact List.mem_append_left _ hc)
  · rw [hs]
    apply ByteArray.ext
    apply Array.toList_inj.1
    have e : t.data.toList = d.data.toList.take t.size := by
      have h := congrArg (fun b : ByteArray => b.data.toList) a3
      simp only [Lib.extract_eq] at h
      simpa using h
    rw [Lib.extract_eq, Lib.extract_eq]
    simp only [List.drop_zero, Nat.sub_zero]
    rw [e, List.take_take, Nat.min_eq_left (by omega)]
  · rw [a5, valN_last t a1 (hz (by omega)), Nat.pow_succ, Nat.mul_assoc, Nat.mul_comm 10]

set_option maxHeartbeats 2000000 in
set_option maxRecDepth 100000 in
theorem l5trim_any (d : ByteArray) (p : Int) (hd : d.size ≤ 3000) (h0 : 0 < d.size) (hg : good 10 d.data.toList) (w : World) :
    Calls Tryz.prog 76 #[.agg #[.string d, .int .i64 p]] w fun e w' => ∃ t, TrimD d t ∧ e = .returned (.agg #[.string t, .int .i64 p]) ∧ Below w.heap.size w w' := by
  have HO : Hid (TrimO d d 0) := trimO_start d h0 hg
  clear hg
  go_enter Tryz.func76, Tryz.ntmps76
  go_wp2
  go_loopw [3] (fun _ wr => ∃ (t : ByteArray) (j : Nat), wr = (w.alloc (.cells #[.string t, .int .i64 p] 121)).alloc (.cells #[.string ⟨#[]⟩, .int .i64 0] 121) ∧ Hid (TrimO d t j) ∧ t.size ≤ 3000 ∧ 0 < t.size) (fun _ wr => match wr.cell? ⟨w.heap.size, 0, none⟩ with | some (.string t) => t.size | _ => 0)
  case atStart => exact ⟨d, 0, rfl, HO.out, hd, h0⟩
  case round =>
    obtain ⟨t, j, rfl, HT, hts, ht0⟩ := hrel
    have hts' : (t.size : Int) ≤ 3000 := by omega
    obtain ⟨k, hk⟩ : ∃ k, t.size = k + 1 := ⟨t.size - 1, by omega⟩
    have hk1 : t.size - 1 = k := by omega
    have hkl : k < t.size := by omega
    have hki : (t.size : Int) - 1 = (k : Int) := by omega
    by_cases h1 : 1 < t.size
    · by_cases hz : t[k].toNat = 48
      · have HN : Hid (TrimO d (t.extract 0 k) (j + 1)) := by
          have := trimO_next d t j HT.out h1 (fun _ => by simp only [hk1]; exact hz)
          rw [hk1] at this
          exact this
        have hz2 : (t[k].toNat : Int) = 48 := by omega
        have hes : (t.extract 0 k).size = k := by simp; omega
        clear hk hk1
        go_wp2
        have hm : ∀ u : ByteArray, ((w.alloc (.cells #[.string u, .int .i64 p] 121)).alloc (.cells #[.string ⟨#[]⟩, .int .i64 0] 121)).cell? ⟨w.heap.size, 0, none⟩ = some (.string u) := fun u => by simp [go_sem]
        exact ⟨⟨_, j + 1, rfl, HN.out, by omega, HN.out.1⟩, by simp only [hm]; omega⟩
      · have HX : Hid (TrimD d t) := by
          obtain ⟨a1, a2, a3, a4, a5⟩ := HT.out
          exact ⟨a1, a2, j, a3, a4, a5, .inr (fun _ => by simp only [hk1]; exact hz)⟩
        have hz2 : ((t[k].toNat : Int) == 48) = false := beq_eq_false_iff_ne.2 (by omega)
        have hz3 : ¬ (t[k].toNat : Int) = 48 := by omega
        clear hk hk1
        go_wp2
        refine bodyPost_ret (v := .agg #[.string t, .int .i64 p]) (by simp [results, Tryz.results76, go_sem]) rfl ⟨t, HX.out, rfl, (by repeat (first | with_reducible exact Below.refl _ _ | with_reducible refine Below.alloc ?_ (by simp <;> omega) _ | with_reducible refine Below.setCell ?_ (by simp <;> omega) _))⟩
    · have HX : Hid (TrimD d t) := by
        obtain ⟨a1, a2, a3, a4, a5⟩ := HT.out
        exact ⟨a1, a2, j, a3, a4, a5, .inl (by omega)⟩
      clear hk hk1
      go_wp2
      refine bodyPost_ret (v := .agg #[.string t, .int .i64 p]) (by simp [results, Tryz.results76, go_sem]) rfl ⟨t, HX.out, rfl, (by repeat (first | with_reducible exact Below.refl _ _ | with_reducible refine Below.alloc ?_ (by simp <;> omega) _ | with_reducible refine Below.setCell ?_ (by simp <;> omega) _))⟩
end Go.Proofs.YtoedefjngipeiaaGreatDoor

/- Digits written, as plain functions; no program is spoken of here. -/
namespace Go.Proofs.YtoedefjngipeiaaGreatDoor
open Go.RowKit

/-- The byte of a digit. -/
def dch (d : Nat) : UInt8 := if d < 10 then UInt8.ofNat (48 + d) else UInt8.ofNat (87 + d)
/-- The digits of n in a base ahead of what is written already; the first number bounds how many. -/
def wr : Nat → Nat → Nat → List UInt8 → List UInt8
  | 0, _, _, acc => acc
  | f + 1, b, n, acc => if n = 0 then acc else wr f b (n / b) (dch (n % b) :: acc)
/-- A number's text. -/
def textOf (b n : Nat) : List UInt8 := wr 63 b (n / b) [dch (n % b)]
theorem wr_zero (f b : Nat) (acc : List UInt8) : wr f b 0 acc = acc := by cases f <;> simp [wr]
theorem wr_step (f b n : Nat) (acc : List UInt8) (hn : 0 < n) (hf : n < 2 ^ f) : ∃ g, f = g + 1 ∧ wr f b n acc = wr g b (n / b) (dch (n % b) :: acc) := by
  cases f with
  | zero => simp at hf; omega
  | succ g => exact ⟨g, rfl, by simp [wr]; omega⟩
theorem wr_bound (g b n : Nat) (hb : 2 ≤ b) (hf : n < 2 ^ (g + 1)) : n / b < 2 ^ g := by
  rw [Nat.div_lt_iff_lt_mul (by omega)]
  have h1 : 2 ^ g * 2 ≤ 2 ^ g * b := Nat.mul_le_mul_left _ hb
  rw [Nat.pow_succ] at hf
  omega
theorem wr_length (b : Nat) : ∀ (f n : Nat) (acc : List UInt8), (wr f b n acc).length ≤ acc.length + f := by
  intro f
  induction f with
  | zero => intro n acc; exact Nat.le_refl _
  | succ f ih =>
    intro n acc
    unfold wr
    split
    · omega
    · have := ih (n / b) (dch (n % b) :: acc)
      simp at this
      omega
theorem textOf_length (b n : Nat) : (textOf b n).length ≤ 64 := wr_length b 63 _ _
theorem textOf_pos (b n : Nat) (hn : 0 < n) : wr 64 b n [] = textOf b n := by
  have e : (64 : Nat) = 63 + 1 := rfl
  rw [e]; unfold wr; rw [if_neg (by omega)]; rfl
theorem textOf_zero (b : Nat) : textOf b 0 = [48] := by
  unfold textOf; rw [Nat.zero_div, wr_zero, Nat.zero_mod]; rfl
def digitText : ByteArray := ⟨#[48, 49, 50, 51, 52, 53, 54, 55, 56, 57, 97, 98, 99, 100, 101, 102, 103, 104, 105, 106, 107, 108, 109, 110, 111, 112, 113, 114, 115, 116, 117, 118, 119, 120, 121, 122]⟩
theorem digitText_all : ∀ d : Fin 36, ((digitText.data.toList.drop d.val).take 1) = [dch d.val] := by decide
theorem digitText_at (d : Nat) (h : d < 36) : digitText.extract d (d + 1) = ⟨#[dch d]⟩ := by
  rw [Lib.extract_eq, show d + 1 - d = 1 by omega, digitText_all ⟨d, h⟩]
theorem mod_lo (m b : Nat) : 0 ≤ (m : Int) % (b : Int) := by rw [← Int.natCast_emod]; omega
theorem mod_hi (m b : Nat) (h2 : 2 ≤ b) (h36 : b ≤ 36) : (m : Int) % (b : Int) < 36 := by
  have := Int.emod_lt_of_pos (m : Int) (b := (b : Int)) (by omega); omega
theorem div_lo (m b : Nat) : 0 ≤ (m : Int) / (b : Int) := by rw [← Int.natCast_ediv]; exact Int.natCast_nonneg _
theorem div_hi (m b : Nat) : (m : Int) / (b : Int) ≤ m := by rw [← Int.natCast_ediv]; exact Int.ofNat_le.2 (Nat.div_le_self m b)
theorem div_less (m b : Nat) (h : 0 < m) (h2 : 2 ≤ b) : m / b < m := Nat.div_lt_self h (by omega)
theorem push_front (c : UInt8) (l : List UInt8) : (⟨#[c]⟩ : ByteArray) ++ ⟨l.toArray⟩ = ⟨(c :: l).toArray⟩ := by
  apply ByteArray.ext
  rw [ByteArray.data_append]
  simp
end Go.Proofs.YtoedefjngipeiaaGreatDoor

namespace Go.Proofs.YtoedefjngipeiaaGreatDoor
open Go.ChangeShapes Go.WideShapes Go.RowKit

set_option maxHeartbeats 400000 in
theorem specDigits_any (n b : Nat) (w : World) (hn : n < 18446744073709551616) (h2 : 2 ≤ b) (h36 : b ≤ 36) :
    Calls Tryz.prog 82 #[.int .u64 n, .int .i64 b] w fun e w' => e = .returned (.string ⟨(textOf b n).toArray⟩) ∧ w' = w := by
  by_cases hz : n = 0
  · subst hz
    rw [textOf_zero b]
    go_enter Tryz.func82, Tryz.ntmps82
    go_wp2
    go_ret
    exact ⟨rfl, rfl⟩
  · have hb : ((n : Int) == 0) = false := beq_eq_false_iff_ne.2 (by omega)
    go_enter Tryz.func82, Tryz.ntmps82
    go_wp2
    go_loop [0, 6] (fun t o => ∃ (m f : Nat) (acc : List UInt8), t = .int .u64 m ∧ o = .string ⟨acc.toArray⟩ ∧ m < 18446744073709551616 ∧ Hid (m < 2 ^ f) ∧ Hid (wr f b m acc = wr 64 b n []) ∧ acc.length + f = 64) (fun t _ => (intOf t).toNat)
    case atStart => exact ⟨n, 64, [], rfl, rfl, hn, by show n < 2 ^ 64; omega, rfl, rfl⟩
    case round =>
      obtain ⟨m, f, acc, rfl, rfl, hm, HF, HW, hl⟩ := hrel
      by_cases hlt : 0 < m
      · obtain ⟨g, rfl, hg⟩ := wr_step f b m acc hlt HF.out
        have HG : Hid (m / b < 2 ^ g) := wr_bound g b m h2 HF.out
        have HW2 : Hid (wr g b (m / b) (dch (m % b) :: acc) = wr 64 b n []) := hg.symm.trans HW.out
        have HX : Hid _ := digitText_at (m % b) (Nat.lt_of_lt_of_le (Nat.mod_lt m (by omega)) h36)
        have hr0 := mod_lo m b
        have hr1 := mod_hi m b h2 h36
        have hq0 := div_lo m b
        have hq1 := div_hi m b
        clear hg
        go_wp2
        have e := HX.out
        unfold digitText at e
        rw [e, push_front, ← Int.natCast_ediv]
        have hless := div_less m b hlt h2
        exact ⟨⟨m / b, g, _, rfl, rfl, by omega, HG, HW2, by simp; omega⟩, by show Int.toNat ((m / b : Nat) : Int) < Int.toNat (m : Int); rw [Int.toNat_natCast, Int.toNat_natCast]; exact hless⟩
      · have HE : Hid (textOf b n = acc) := by
          have h0 : m = 0 := by omega
          have := HW.out
          rw [h0, wr_zero] at this
          exact (textOf_pos b n (by omega)).symm.trans this.symm
        go_wp2
        go_ret
        exact ⟨by rw [HE.out]; rfl, rfl⟩
end Go.Proofs.YtoedefjngipeiaaGreatDoor

