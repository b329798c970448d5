import Derived.Test.YtpmccbkhkaoccaaGreatDoorB25
import Derived.Test.YtpmccbkhkaoccaaGreatDoorB29
import Derived.Test.YtpmccbkhkaoccaaGreatDoorB16
import Derived.Test.YtpmccbkhkaoccaaGreatDoorB15
import Derived.Test.YtpmccbkhkaoccaaGreatDoorB03
import Derived.Test.YtpmccbkhkaoccaaGreatDoorB24
import Derived.Test.YtpmccbkhkaoccaaGreatDoorB23
import Derived.Test.YtpmccbkhkaoccaaGreatDoorB19
import Derived.Test.YtpmccbkhkaoccaaGreatDoorB17
/- l5least of the specification. -/
namespace Go.Proofs.YtpmccbkhkaoccaaGreatDoor
open Go.ChangeShapes Go.WideShapes Go.RowKit
open Ieee (double)

/-- Digits that are read as x. -/
def Rds (x : Nat) (t : ByteArray) (p : Int) : Bool := double.order (decW 10 (valN 10 t.data.toList) (p - (t.size : Int))) x == some .eq
/-- What l5least answers. -/
def LeastD (ds : ByteArray) (pow : Int) (x : Nat) (t : ByteArray) (p' : Int) : Prop := ∃ n t2 p2, 1 ≤ n ∧ n ≤ ds.size ∧ cutV ds pow n (decide (n < ds.size)) t2 p2
  ∧ (∀ k, 1 ≤ k → k < n → Rds x (padB ds k) pow = false ∧ ∀ u r, cutV ds pow k (decide (k < ds.size)) u r → Rds x u r = false)
  ∧ ((Rds x (padB ds n) pow = true ∧ (Rds x t2 p2 = true → roundsB ds (n : Int) = false) ∧ t = padB ds n ∧ p' = pow) ∨ (Rds x t2 p2 = true ∧ (Rds x (padB ds n) pow = true → roundsB ds (n : Int) = true) ∧ t = t2 ∧ p' = p2))
/-- A boxed pair of digits and their point. -/
theorem boxed (w : World) (ds : ByteArray) (p : Int) (T : Nat) : ∃ W, W = w.alloc (.cells #[.string ds, .int .i64 p] T) ∧ Below w.heap.size w W ∧ w.heap.size < W.heap.size
    ∧ W.cell? ⟨w.heap.size, 0, none⟩ = some (.string ds) ∧ W.cell? ⟨w.heap.size, 1, none⟩ = some (.int .i64 p) ∧ W.frozen? ⟨w.heap.size, 0, none⟩ = false ∧ W.frozen? ⟨w.heap.size, 1, none⟩ = false :=
  ⟨_, rfl, (Below.refl _ _).alloc (Nat.le_refl _) _, by simp, by simp [go_sem], by simp [go_sem], by simp [go_sem], by simp [go_sem]⟩

set_option maxHeartbeats 8000000 in
set_option maxRecDepth 100000 in
theorem l5least_any (x : Nat) (q : Nat) (E : Int) (hq : 0 < q) (hxq : x = fw false q E) (hself : double.order x x = some .eq) (hX : ∀ w, Calls Tryz.prog 42 #[.float .f64 x] w fun e w' =>
    ∃ ds pow, ExD ds pow q E ∧ ds.size ≤ 1100 ∧ -1100 ≤ pow ∧ pow ≤ 1100 ∧ e = .returned (.agg #[.string ds, .int .i64 pow]) ∧ Below w.heap.size w w') (w : World) :
    Calls Tryz.prog 39 #[.float .f64 x] w fun e w' => ∃ ds pow t p', ExD ds pow q E ∧ ds.size ≤ 1100 ∧ -1100 ≤ pow ∧ pow ≤ 1100 ∧ LeastD ds pow x t p' ∧ e = .returned (.agg #[.string t, .int .i64 p']) ∧ Below w.heap.size w w' := by
  have H3 : Hid _ := hX
  have HXQ : Hid (x = fw false q E ∧ double.order x x = some .eq ∧ 0 < q) := ⟨hxq, hself, hq⟩
  obtain ⟨Wr, hWr, hBr, hlr, r0, r1, g0, g1⟩ := boxed w ⟨#[]⟩ 0 70
  have HWr : Hid _ := hWr
  have HR0 : Hid _ := fun (_ : Unit) => And.intro hBr (And.intro hlr (And.intro r0 (And.intro r1 (And.intro g0 g1))))
  clear hX hWr hBr hlr r0 r1 g0 g1 hxq hself hq
  go_enter Tryz.func39, Tryz.ntmps39
  go_wp2_with fail
  rw [← HWr.out]
  refine (H3.out _).mono ?_
  rintro e w2 ⟨ds, pow, hd, hs, hp1, hp2, rfl, hb2⟩
  obtain ⟨Wd, hWd, hBd, hld, d0, d1, _, _⟩ := boxed w2 ds pow 70
  have HWd : Hid _ := hWd
  have HD : Hid _ := fun (_ : Unit) => hd
  have HRd : Hid (Below w.heap.size w Wd ∧ w.heap.size < Wd.heap.size ∧ Wd.cell? ⟨w.heap.size, 0, none⟩ = some (.string ⟨#[]⟩) ∧ Wd.cell? ⟨w.heap.size, 1, none⟩ = some (.int .i64 0) ∧ Wd.frozen? ⟨w.heap.size, 0, none⟩ = false ∧ Wd.frozen? ⟨w.heap.size, 1, none⟩ = false) := by
    obtain ⟨a1, a2, a3, a4, a5, a6⟩ := HR0.out ()
    have hb : Below Wr.heap.size Wr Wd := hb2.trans (hBd.mono hb2.size)
    exact ⟨a1.trans (hb.mono (by omega)), Nat.lt_of_lt_of_le a2 hb.size, (hb.cell (p := ⟨w.heap.size, 0, none⟩) a2).trans a3, (hb.cell (p := ⟨w.heap.size, 1, none⟩) a2).trans a4, (hb.frozen (p := ⟨w.heap.size, 0, none⟩) a2).trans a5, (hb.frozen (p := ⟨w.heap.size, 1, none⟩) a2).trans a6⟩
  have HDd : Hid _ := fun (_ : Unit) => And.intro hld (And.intro d0 d1)
  have hs1 := hd.1
  clear hd hb2 hBd hld d0 d1 hWd HR0 HWr H3
  go_wp2_with fail
  rw [← HWd.out]
  go_loopw [4] (fun vn wr => ∃ n : Nat, vn = .int .i64 (n : Int) ∧ 1 ≤ n ∧ n ≤ ds.size ∧ Hid (∀ k, 1 ≤ k → k < n → Rds x (padB ds k) pow = false ∧ ∀ u r, cutV ds pow k (decide (k < ds.size)) u r → Rds x u r = false) ∧ Hid (Below Wd.heap.size Wd wr)) (fun vn _ => ds.size + 1 - (intOf vn).toNat)
  case atStart => exact ⟨1, rfl, Nat.le_refl _, hs1, fun k h1 h2 => by omega, Below.refl _ _⟩
  case round =>
    obtain ⟨n, rfl, hn1, hn2, HN, HBn⟩ := hrel
    have hni : (n : Int) ≤ (ds.size : Int) := by omega
    have hsi : (ds.size : Int) ≤ 1100 := by omega
    have d0 : wr.cell? ⟨w2.heap.size, 0, none⟩ = some (.string ds) := (HBn.out.cell (p := ⟨w2.heap.size, 0, none⟩) (HDd.out ()).1).trans (HDd.out ()).2.1
    have d1 : wr.cell? ⟨w2.heap.size, 1, none⟩ = some (.int .i64 pow) := (HBn.out.cell (p := ⟨w2.heap.size, 1, none⟩) (HDd.out ()).1).trans (HDd.out ()).2.2
    go_wp2_with fail
    refine (l5cut_any ds pow n false hs (HD.out ()).2.1 (by omega) (by omega) (by omega) _).mono ?_
    rintro e w5 ⟨t1, p1, hc1, rfl, hb5⟩
    have e1 : t1 = padB ds n ∧ p1 = pow := by
      rcases hc1 with ⟨_, a, b⟩ | ⟨h, _⟩
      · exact ⟨a, b⟩
      · cases h
    obtain ⟨rfl, rfl⟩ := e1
    have hb5' : Below Wd.heap.size Wd w5 := HBn.out.trans (hb5.mono HBn.out.size)
    have hl5 : w2.heap.size < w5.heap.size := Nat.lt_of_lt_of_le (HDd.out ()).1 hb5'.size
    have HB5 : Hid (Below Wd.heap.size Wd w5) := hb5'
    have d05 : w5.cell? ⟨w2.heap.size, 0, none⟩ = some (.string ds) := (hb5'.cell (p := ⟨w2.heap.size, 0, none⟩) (HDd.out ()).1).trans (HDd.out ()).2.1
    have d15 : w5.cell? ⟨w2.heap.size, 1, none⟩ = some (.int .i64 p1) := (hb5'.cell (p := ⟨w2.heap.size, 1, none⟩) (HDd.out ()).1).trans (HDd.out ()).2.2
    have hps := padB_size ds n
    have HPG : Hid _ := padB_good ds n (HD.out ()).2.1
    clear hb5 hc1 d0 d1
    go_wp2_with fail
    refine (l5cut_any ds p1 n _ hs (HD.out ()).2.1 (by omega) (by omega) (by omega) _).mono ?_
    rintro e w6 ⟨t2, p2, hc2, rfl, hb6⟩
    have hz2 := cut5_size _ _ _ _ _ _ hc2
    have HC2 : Hid (cutV ds p1 n (decide (n < ds.size)) t2 p2) := hc2
    have HG2 : Hid _ := cutV_good _ _ _ _ _ _ (HD.out ()).2.1 hc2
    have hl6 : w5.heap.size < w6.heap.size := by have h := hb6.size; simp at h; omega
    have a0 := (hb6.cell (p := ⟨w5.heap.size, 0, none⟩) (by simp)).trans (by simp [go_sem] : _ = some (.string (padB ds n)))
    have a1 := (hb6.cell (p := ⟨w5.heap.size, 1, none⟩) (by simp)).trans (by simp [go_sem] : _ = some (.int .i64 p1))
    have HB6 : Hid (Below Wd.heap.size Wd w6) := (HB5.out.alloc HB5.out.size _).trans (hb6.mono (by have := HB5.out.size; simp; omega))
    clear hb6 hc2 d05 d15
    go_wp2_with fail
    refine (l5value_any (padB ds n) p1 (by omega) HPG.out (by omega) (by omega) _).mono ?_
    rintro e w7 ⟨rfl, hb7⟩
    have hl7 : w6.heap.size < w7.heap.size := by have h := hb7.size; simp at h; omega
    have HB7 : Hid (Below Wd.heap.size Wd w7) := (HB6.out.alloc HB6.out.size _).trans (hb7.mono (by have := HB6.out.size; simp; omega))
    have b0 := (hb7.cell (p := ⟨w6.heap.size, 0, none⟩) (by simp)).trans (by simp [go_sem] : _ = some (.string t2))
    have b1 := (hb7.cell (p := ⟨w6.heap.size, 1, none⟩) (by simp)).trans (by simp [go_sem] : _ = some (.int .i64 p2))
    have a07 := (hb7.cell (p := ⟨w5.heap.size, 0, none⟩) (by simp <;> omega)).trans (((Below.refl w6.heap.size w6).alloc (Nat.le_refl _) _).cell (p := ⟨w5.heap.size, 0, none⟩) hl6 |>.trans a0)
    have a17 := (hb7.cell (p := ⟨w5.heap.size, 1, none⟩) (by simp <;> omega)).trans (((Below.refl w6.heap.size w6).alloc (Nat.le_refl _) _).cell (p := ⟨w5.heap.size, 1, none⟩) hl6 |>.trans a1)
    obtain ⟨D1, hD1⟩ : ∃ D1, D1 = decW 10 (valN 10 (padB ds n).data.toList) (p1 - ((padB ds n).size : Int)) := ⟨_, rfl⟩
    obtain ⟨A, hA⟩ : ∃ A, A = Rds x (padB ds n) p1 := ⟨_, rfl⟩
    have hA' : (FloatKind.f64.format.order D1 x == some .eq) = A := by rw [hA, hD1]; rfl
    have HAE : Hid (A = Rds x (padB ds n) p1) := hA
    rw [← hD1]
    clear hb7 a0 a1 hA hD1
    go_wp2_with fail
    refine (l5value_any t2 p2 (by omega) HG2.out (by omega) (by omega) _).mono ?_
    rintro e w8 ⟨rfl, hb8⟩
    have HB8 : Hid (Below Wd.heap.size Wd w8) := HB7.out.trans (hb8.mono HB7.out.size)
    have hl8 : w7.heap.size ≤ w8.heap.size := hb8.size
    have b08 := (hb8.cell (p := ⟨w6.heap.size, 0, none⟩) hl7).trans b0
    have b18 := (hb8.cell (p := ⟨w6.heap.size, 1, none⟩) hl7).trans b1
    have hl57 : w5.heap.size < w7.heap.size := by omega
    have a08 := (hb8.cell (p := ⟨w5.heap.size, 0, none⟩) hl57).trans a07
    have a18 := (hb8.cell (p := ⟨w5.heap.size, 1, none⟩) hl57).trans a17
    have hl68 : w6.heap.size < w8.heap.size := by omega
    have hl58 : w5.heap.size < w8.heap.size := by omega
    have d08 : w8.cell? ⟨w2.heap.size, 0, none⟩ = some (.string ds) := (HB8.out.cell (p := ⟨w2.heap.size, 0, none⟩) (HDd.out ()).1).trans (HDd.out ()).2.1
    have d18 : w8.cell? ⟨w2.heap.size, 1, none⟩ = some (.int .i64 p1) := (HB8.out.cell (p := ⟨w2.heap.size, 1, none⟩) (HDd.out ()).1).trans (HDd.out ()).2.2
    obtain ⟨D2, hD2⟩ : ∃ D2, D2 = decW 10 (valN 10 t2.data.toList) (p2 - (t2.size : Int)) := ⟨_, rfl⟩
    obtain ⟨B, hB⟩ : ∃ B, B = Rds x t2 p2 := ⟨_, rfl⟩
    have hB' : (FloatKind.f64.format.order D2 x == some .eq) = B := by rw [hB, hD2]; rfl
    have HBE : Hid (B = Rds x t2 p2) := hB
    rw [← hD2]
    clear hb8 b0 b1 a07 a17 hB hD2
    obtain ⟨hRb, hRl, r0d, r1d, g0d, g1d⟩ := HRd.out
    have r0 : w8.cell? ⟨w.heap.size, 0, none⟩ = some (.string ⟨#[]⟩) := (HB8.out.cell (p := ⟨w.heap.size, 0, none⟩) hRl).trans r0d
    have r1 : w8.cell? ⟨w.heap.size, 1, none⟩ = some (.int .i64 0) := (HB8.out.cell (p := ⟨w.heap.size, 1, none⟩) hRl).trans r1d
    have g0 : w8.frozen? ⟨w.heap.size, 0, none⟩ = false := (HB8.out.frozen (p := ⟨w.heap.size, 0, none⟩) hRl).trans g0d
    have g1 : w8.frozen? ⟨w.heap.size, 1, none⟩ = false := (HB8.out.frozen (p := ⟨w.heap.size, 1, none⟩) hRl).trans g1d
    have hRl8 : w.heap.size < w8.heap.size := Nat.lt_of_lt_of_le hRl HB8.out.size
    have HRB : Hid (Below w.heap.size w w8) := hRb.trans (HB8.out.mono (by omega))
    have HROU : Hid _ := fun w => l5rounds_any ds p1 (n : Int) (by omega) (HD.out ()).2.1 w
    clear r0d r1d g0d g1d hRb
    cases A
    · cases B
      · have hend : n < ds.size := by
          apply Classical.byContradiction
          intro hge
          have hn : n = ds.size := by omega
          have hpad : padB ds n = ds := by
            unfold padB
            rw [if_neg hge, show n - ds.size = 0 by omega]
            show ds ++ ByteArray.empty = ds
            simp
          have h1 := HAE.out
          rw [hpad] at h1
          unfold Rds at h1
          rw [exD_reads ds p1 q E HXQ.out.2.2 (HD.out ()), ← HXQ.out.1, HXQ.out.2.1] at h1
          revert h1; decide
        have HN2 : Hid (∀ k, 1 ≤ k → k < n + 1 → Rds x (padB ds k) p1 = false ∧ ∀ u r, cutV ds p1 k (decide (k < ds.size)) u r → Rds x u r = false) := by
          intro k h1 h2
          by_cases hk : k < n
          · exact HN.out k h1 hk
          · obtain rfl : k = n := by omega
            refine ⟨HAE.out.symm, fun u r hu => ?_⟩
            obtain ⟨rfl, rfl⟩ := cutV_one _ _ _ _ _ _ _ _ hu HC2.out
            exact HBE.out.symm
        go_wp2
        exact ⟨⟨n + 1, rfl, by omega, by omega, HN2.out, HB8.out⟩, by simp only [intOf]; omega⟩
      · go_wp2
        refine bodyPost_ret (v := .agg #[.string t2, .int .i64 p2]) (by simp [results, Tryz.results39, go_sem, r0, r1]) rfl ⟨ds, p1, t2, p2, HD.out (), hs, hp1, hp2, ⟨n, t2, p2, hn1, hn2, HC2.out, HN.out, .inr ⟨HBE.out.symm, (fun h => by rw [← HAE.out] at h; cases h), rfl, rfl⟩⟩, rfl, (by repeat (first | exact HRB.out | with_reducible refine Below.alloc ?_ (by simp <;> omega) _ | with_reducible refine Below.setCell ?_ (by simp <;> omega) _))⟩
    · cases B
      · go_wp2
        refine bodyPost_ret (v := .agg #[.string (padB ds n), .int .i64 p1]) (by simp [results, Tryz.results39, go_sem, r0, r1]) rfl ⟨ds, p1, padB ds n, p1, HD.out (), hs, hp1, hp2, ⟨n, t2, p2, hn1, hn2, HC2.out, HN.out, .inl ⟨HAE.out.symm, (fun h => by rw [← HBE.out] at h; cases h), rfl, rfl⟩⟩, rfl, (by repeat (first | exact HRB.out | with_reducible refine Below.alloc ?_ (by simp <;> omega) _ | with_reducible refine Below.setCell ?_ (by simp <;> omega) _))⟩
      · obtain ⟨rb, hrb⟩ : ∃ rb, rb = roundsB ds (n : Int) := ⟨_, rfl⟩
        have HRBE : Hid (rb = roundsB ds (n : Int)) := hrb
        rw [← hrb] at HROU
        clear hrb
        cases rb
        · go_wp2_with (go_at_call 53; refine (HROU.out _).mono ?_; rintro e w9 ⟨rfl, rfl⟩)
          have hba := (Below.refl ((w8.setCell ⟨w.heap.size, 0, none⟩ (.string (padB ds n))).setCell ⟨w.heap.size, 1, none⟩ (.int .i64 p1)).heap.size ((w8.setCell ⟨w.heap.size, 0, none⟩ (.string (padB ds n))).setCell ⟨w.heap.size, 1, none⟩ (.int .i64 p1))).alloc (Nat.le_refl _) (.cells #[.string ds, .int .i64 p1] 70)
          have e0 := (hba.cell (p := ⟨w.heap.size, 0, none⟩) (by simpa using hRl8)).trans (by simp [go_sem, r0] : _ = some (.string (padB ds n)))
          have e1 := (hba.cell (p := ⟨w.heap.size, 1, none⟩) (by simpa using hRl8)).trans (by simp [go_sem, r1] : _ = some (.int .i64 p1))
          refine bodyPost_ret (v := .agg #[.string (padB ds n), .int .i64 p1]) (by simp [results, Tryz.results39, go_sem, e0, e1]) rfl ⟨ds, p1, padB ds n, p1, HD.out (), hs, hp1, hp2, ⟨n, t2, p2, hn1, hn2, HC2.out, HN.out, .inl ⟨HAE.out.symm, (fun _ => HRBE.out.symm), rfl, rfl⟩⟩, rfl, (by repeat (first | exact HRB.out | with_reducible refine Below.alloc ?_ (by simp <;> omega) _ | with_reducible refine Below.setCell ?_ (by simp <;> omega) _))⟩
        · go_wp2_with (go_at_call 53; refine (HROU.out _).mono ?_; rintro e w9 ⟨rfl, rfl⟩)
          have hba := (Below.refl ((w8.setCell ⟨w.heap.size, 0, none⟩ (.string t2)).setCell ⟨w.heap.size, 1, none⟩ (.int .i64 p2)).heap.size ((w8.setCell ⟨w.heap.size, 0, none⟩ (.string t2)).setCell ⟨w.heap.size, 1, none⟩ (.int .i64 p2))).alloc (Nat.le_refl _) (.cells #[.string ds, .int .i64 p1] 70)
          have e0 := (hba.cell (p := ⟨w.heap.size, 0, none⟩) (by simpa using hRl8)).trans (by simp [go_sem, r0] : _ = some (.string t2))
          have e1 := (hba.cell (p := ⟨w.heap.size, 1, none⟩) (by simpa using hRl8)).trans (by simp [go_sem, r1] : _ = some (.int .i64 p2))
          refine bodyPost_ret (v := .agg #[.string t2, .int .i64 p2]) (by simp [results, Tryz.results39, go_sem, e0, e1]) rfl ⟨ds, p1, t2, p2, HD.out (), hs, hp1, hp2, ⟨n, t2, p2, hn1, hn2, HC2.out, HN.out, .inr ⟨HBE.out.symm, (fun _ => HRBE.out.symm), rfl, rfl⟩⟩, rfl, (by repeat (first | exact HRB.out | with_reducible refine Below.alloc ?_ (by simp <;> omega) _ | with_reducible refine Below.setCell ?_ (by simp <;> omega) _))⟩
end Go.Proofs.YtpmccbkhkaoccaaGreatDoor

/- l5trim of the specification. -/
namespace Go.Proofs.YtpmccbkhkaoccaaGreatDoor
open Go.ChangeShapes Go.WideShapes Go.RowKit

/-- Zeros at the end are left out, but for one digit. -/
def TrimD (d t : ByteArray) : Prop := 0 < t.size ∧ good 10 t.data.toList ∧ ∃ j, t = d.extract 0 t.size ∧ t.size + j = d.size ∧ valN 10 d.data.toList = valN 10 t.data.toList * 10 ^ j ∧ (t.size = 1 ∨ ∀ h : t.size - 1 < t.size, t[t.size - 1].toNat ≠ 48)
/-- On the way. -/
def TrimO (d t : ByteArray) (j : Nat) : Prop := 0 < t.size ∧ good 10 t.data.toList ∧ t = d.extract 0 t.size ∧ t.size + j = d.size ∧ valN 10 d.data.toList = valN 10 t.data.toList * 10 ^ j
theorem trimO_start (d : ByteArray) (h : 0 < d.size) (hg : good 10 d.data.toList) : TrimO d d 0 := ⟨h, hg, by simp, rfl, by rw [Nat.pow_zero, Nat.mul_one]⟩
theorem trimO_next (d t : ByteArray) (j : Nat) (h : TrimO d t j) (h1 : 1 < t.size) (hz : ∀ h : t.size - 1 < t.size, t[t.size - 1].toNat = 48) : TrimO d (t.extract 0 (t.size - 1)) (j + 1) := by
  obtain ⟨a1, a2, a3, a4, a5⟩ := h
  have hs : (t.extract 0 (t.size - 1)).size = t.size - 1 := by simp
  refine ⟨by omega, ?_, ?_, by omega, ?_⟩
  · intro c hc
    exact a2 c (by rw [last_cut t a1]; exact List.mem_append_left _ hc)
  · rw [hs]
    apply ByteArray.ext
    apply Array.toList_inj.1
    have e : t.data.toList = d.data.toList.take t.size := by
      have h := congrArg (fun b : ByteArray => b.data.toList) a3
      simp only [Lib.extract_eq] at h
      simpa using h
    rw [Lib.extract_eq, Lib.extract_eq]
    simp only [List.drop_zero, Nat.sub_zero]
    rw [e, List.take_take, Nat.min_eq_left (by omega)]
  · rw [a5, valN_last t a1 (hz (by omega)), Nat.pow_succ, Nat.mul_assoc, Nat.mul_comm 10]

set_option maxHeartbeats 2000000 in
set_option maxRecDepth 100000 in
theorem l5trim_any (d : ByteArray) (p : Int) (hd : d.size ≤ 3000) (h0 : 0 < d.size) (hg : good 10 d.data.toList) (w : World) :
    Calls Tryz.prog 38 #[.agg #[.string d, .int .i64 p]] w fun e w' => ∃ t, TrimD d t ∧ e = .returned (.agg #[.string t, .int .i64 p]) ∧ Below w.heap.size w w' := by
  have HO : Hid (TrimO d d 0) := trimO_start d h0 hg
  clear hg
  go_enter Tryz.func38, Tryz.ntmps38
  go_wp2
  go_loopw [3] (fun _ wr => ∃ (t : ByteArray) (j : Nat), wr = (w.alloc (.cells #[.string t, .int .i64 p] 70)).alloc (.cells #[.string ⟨#[]⟩, .int .i64 0] 70) ∧ Hid (TrimO d t j) ∧ t.size ≤ 3000 ∧ 0 < t.size) (fun _ wr => match wr.cell? ⟨w.heap.size, 0, none⟩ with | some (.string t) => t.size | _ => 0)
  case atStart => exact ⟨d, 0, rfl, HO.out, hd, h0⟩
  case round =>
    obtain ⟨t, j, rfl, HT, hts, ht0⟩ := hrel
    have hts' : (t.size : Int) ≤ 3000 := by omega
    obtain ⟨k, hk⟩ : ∃ k, t.size = k + 1 := ⟨t.size - 1, by omega⟩
    have hk1 : t.size - 1 = k := by omega
    have hkl : k < t.size := by omega
    have hki : (t.size : Int) - 1 = (k : Int) := by omega
    by_cases h1 : 1 < t.size
    · by_cases hz : t[k].toNat = 48
      · have HN : Hid (TrimO d (t.extract 0 k) (j + 1)) := by
          have := trimO_next d t j HT.out h1 (fun _ => by simp only [hk1]; exact hz)
          rw [hk1] at this
          exact this
        have hz2 : (t[k].toNat : Int) = 48 := by omega
        have hes : (t.extract 0 k).size = k := by simp; omega
        clear hk hk1
        go_wp2
        have hm : ∀ u : ByteArray, ((w.alloc (.cells #[.string u, .int .i64 p] 70)).alloc (.cells #[.string ⟨#[]⟩, .int .i64 0] 70)).cell? ⟨w.heap.size, 0, none⟩ = some (.string u) := fun u => by simp [go_sem]
        exact ⟨⟨_, j + 1, rfl, HN.out, by omega, HN.out.1⟩, by simp only [hm]; omega⟩
      · have HX : Hid (TrimD d t) := by
          obtain ⟨a1, a2, a3, a4, a5⟩ := HT.out
          exact ⟨a1, a2, j, a3, a4, a5, .inr (fun _ => by simp only [hk1]; exact hz)⟩
        have hz2 : ((t[k].toNat : Int) == 48) = false := beq_eq_false_iff_ne.2 (by omega)
        have hz3 : ¬ (t[k].toNat : Int) = 48 := by omega
        clear hk hk1
        go_wp2
        refine bodyPost_ret (v := .agg #[.string t, .int .i64 p]) (by simp [results, Tryz.results38, go_sem]) rfl ⟨t, HX.out, rfl, (by repeat (first | with_reducible exact Below.refl _ _ | with_reducible refine Below.alloc ?_ (by simp <;> omega) _ | with_reducible refine Below.setCell ?_ (by simp <;> omega) _))⟩
    · have HX : Hid (TrimD d t) := by
        obtain ⟨a1, a2, a3, a4, a5⟩ := HT.out
        exact ⟨a1, a2, j, a3, a4, a5, .inl (by omega)⟩
      clear hk hk1
      go_wp2
      refine bodyPost_ret (v := .agg #[.string t, .int .i64 p]) (by simp [results, Tryz.results38, go_sem]) rfl ⟨t, HX.out, rfl, (by repeat (first | with_reducible exact Below.refl _ _ | with_reducible refine Below.alloc ?_ (by simp <;> omega) _ | with_reducible refine Below.setCell ?_ (by simp <;> omega) _))⟩
end Go.Proofs.YtpmccbkhkaoccaaGreatDoor

/- Shortest of the specification. -/
namespace Go.Proofs.YtpmccbkhkaoccaaGreatDoor
open Go.ChangeShapes Go.WideShapes Go.RowKit
open Ieee (double)

/-- Digits as Shortest writes them. -/
def shortB (u : ByteArray) (p : Int) : ByteArray := if -5 ≤ p ∧ p ≤ 21 then plainB u p else sciB u p
theorem least_facts (ds : ByteArray) (pow : Int) (x : Nat) (t : ByteArray) (p' : Int) (hg : good 10 ds.data.toList) (hs : ds.size ≤ 1100) (h : LeastD ds pow x t p') : 0 < t.size ∧ t.size ≤ 1100 ∧ good 10 t.data.toList ∧ pow ≤ p' ∧ p' ≤ pow + 1 := by
  obtain ⟨n, t2, p2, h1, h2, hc, _, h⟩ := h
  have hz := cut5_size _ _ _ _ _ _ hc
  have hgd := cutV_good _ _ _ _ _ _ hg hc
  have hps := padB_size ds n
  rcases h with ⟨_, _, rfl, rfl⟩ | ⟨_, _, rfl, rfl⟩
  · exact ⟨by omega, by omega, padB_good ds n hg, by omega, by omega⟩
  · refine ⟨by omega, ?_, hgd, hz.2.2.1, hz.2.2.2⟩
    by_cases hn : n < ds.size
    · omega
    · rw [decide_eq_false hn] at hc
      rcases hc with ⟨_, rfl, _⟩ | ⟨h, _⟩
      · omega
      · cases h

set_option maxHeartbeats 1000000 in
theorem shortest_nan (x : Nat) (hx : IsNan x) (w : World) :
    Calls Tryz.prog 11 #[.float .f64 x] w fun e w' => e = .returned (.string ⟨#[110, 97, 110]⟩) ∧ Below w.heap.size w w' := by
  have H1 : Hid _ := fun w => l5size_nan x hx w
  have H2 : Hid _ := fun w => l5odd_nan x hx w
  clear hx
  go_enter Tryz.func11, Tryz.ntmps11
  go_wp2_with fail
  refine (H1.out _).mono ?_
  rintro e w1 ⟨rfl, rfl⟩
  go_wp2_with fail
  refine (H2.out _).mono ?_
  rintro e w1 ⟨rfl, rfl⟩
  go_wp2
  go_ret
  exact ⟨rfl, Below.refl _ _⟩
set_option maxHeartbeats 1000000 in
theorem shortest_odd (s : Bool) (r : Nat) (t : ByteArray) (hr : r ≤ 9218868437227405312) (ht : t.size ≤ 10) (hO : ∀ w, Calls Tryz.prog 37 #[.float .f64 r] w fun e w' => e = .returned (.tuple #[.string t, .bool true]) ∧ w' = w) (w : World) :
    Calls Tryz.prog 11 #[.float .f64 (signBit s + r)] w fun e w' => e = .returned (.string (sgnB s ++ t)) ∧ Below w.heap.size w w' := by
  have H1 : Hid _ := fun w => l5size_any s r hr w
  have H2 : Hid _ := hO
  have z3 := sgnB_size s
  generalize sgnB s = S at *
  generalize signBit s + r = X at *
  clear hO hr
  go_enter Tryz.func11, Tryz.ntmps11
  go_wp2_with fail
  refine (H1.out _).mono ?_
  rintro e w1 ⟨rfl, rfl⟩
  go_wp2_with fail
  refine (H2.out _).mono ?_
  rintro e w1 ⟨rfl, rfl⟩
  go_wp2
  go_ret
  exact ⟨rfl, Below.refl _ _⟩
set_option maxHeartbeats 2000000 in
set_option maxRecDepth 100000 in
theorem shortest_num (s : Bool) (r : Nat) (q : Nat) (E : Int) (hr : r < 9218868437227405312) (hr0 : r ≠ 0) (hL : ∀ w, Calls Tryz.prog 39 #[.float .f64 r] w fun e w' =>
    ∃ ds pow t p', ExD ds pow q E ∧ ds.size ≤ 1100 ∧ -1100 ≤ pow ∧ pow ≤ 1100 ∧ LeastD ds pow r t p' ∧ e = .returned (.agg #[.string t, .int .i64 p']) ∧ Below w.heap.size w w') (w : World) :
    Calls Tryz.prog 11 #[.float .f64 (signBit s + r)] w fun e w' => ∃ ds pow t p' u, ExD ds pow q E ∧ LeastD ds pow r t p' ∧ TrimD t u ∧ (sgnB s ++ shortB u p').size ≤ 3100 ∧ e = .returned (.string (sgnB s ++ shortB u p')) ∧ Below w.heap.size w w' := by
  have H1 : Hid _ := fun w => l5size_any s r (by omega) w
  have H2 : Hid (∀ w, Calls Tryz.prog 37 #[.float .f64 r] w fun e w' => e = .returned (.tuple #[.string ⟨#[48]⟩, .bool false]) ∧ w' = w) := fun w => by
    have := l5odd_num r hr w
    rw [decide_eq_false hr0] at this
    exact this
  have H3 : Hid _ := hL
  have z3 := sgnB_size s
  generalize sgnB s = S at *
  generalize signBit s + r = X at *
  clear hL hr hr0
  go_enter Tryz.func11, Tryz.ntmps11
  go_wp2_with fail
  refine (H1.out _).mono ?_
  rintro e w1 ⟨rfl, rfl⟩
  go_wp2_with fail
  refine (H2.out _).mono ?_
  rintro e w1 ⟨rfl, rfl⟩
  go_wp2_with fail
  refine (H3.out _).mono ?_
  rintro e w2 ⟨ds, pow, t, p', hd, hs, hp1, hp2, hle, rfl, hb2⟩
  obtain ⟨ht0, hts, htg, hq1, hq2⟩ := least_facts ds pow r t p' hd.2.1 hs hle
  have HD : Hid _ := fun (_ : Unit) => And.intro hd (And.intro hle hb2)
  have HT : Hid _ := fun w => l5trim_any t p' (by omega) ht0 htg w
  clear hd hle hb2 htg H1 H2 H3
  go_wp2_with fail
  refine (HT.out _).mono ?_
  rintro e w3 ⟨u, htu, rfl, hb3⟩
  have hus : u.size ≤ 1100 := by obtain ⟨_, _, j, _, h, _⟩ := htu; omega
  have hu0 : 0 < u.size := htu.1
  have HB3 : Hid (Below w1.heap.size w1 w3) := (HD.out ()).2.2.trans (hb3.mono (HD.out ()).2.2.size)
  have HTU : Hid _ := fun (_ : Unit) => htu
  clear htu hb3 HT
  by_cases hp : -5 ≤ p' ∧ p' ≤ 21
  · obtain ⟨hpa, hpb⟩ := hp
    have HS : Hid (shortB u p' = plainB u p') := by show _ = _; unfold shortB; rw [if_pos ⟨hpa, hpb⟩]
    have HPL : Hid _ := fun w => l5plain_any u p' hus (by omega) (by omega) w
    have hsz := plainB_size u p' hus (by omega) (by omega)
    obtain ⟨P, hP⟩ : ∃ P, P = plainB u p' := ⟨_, rfl⟩
    rw [← hP] at hsz HPL HS
    clear hP
    go_wp2_with fail
    refine (HPL.out _).mono ?_
    rintro e w4 ⟨rfl, hb4⟩
    have HB4 : Hid (Below w1.heap.size w1 w4) := (HB3.out.alloc HB3.out.size _).trans (hb4.mono (by have := HB3.out.size; simp; omega))
    clear hb4
    go_wp2
    go_ret
    exact ⟨ds, pow, t, p', u, (HD.out ()).1, (HD.out ()).2.1, HTU.out (), by rw [HS.out, append_size]; omega, by rw [HS.out]; rfl, HB4.out⟩
  · have HS : Hid (shortB u p' = sciB u p') := by show _ = _; unfold shortB; rw [if_neg hp]
    have HPL : Hid _ := fun w => l5science_any u p' (by omega) hu0 (by omega) (by omega) w
    have hsz := sciB_size u p'
    obtain ⟨P, hP⟩ : ∃ P, P = sciB u p' := ⟨_, rfl⟩
    rw [← hP] at hsz HPL HS
    clear hP
    have hpp : p' < -5 ∨ 21 < p' := by omega
    clear hp
    rcases hpp with hpp | hpp
    all_goals
      go_wp2_with fail
      refine (HPL.out _).mono ?_
      rintro e w4 ⟨rfl, hb4⟩
      have HB4 : Hid (Below w1.heap.size w1 w4) := (HB3.out.alloc HB3.out.size _).trans (hb4.mono (by have := HB3.out.size; simp; omega))
      clear hb4
      go_wp2
      go_ret
      exact ⟨ds, pow, t, p', u, (HD.out ()).1, (HD.out ()).2.1, HTU.out (), by rw [HS.out, append_size]; omega, by rw [HS.out]; rfl, HB4.out⟩
/-- What Shortest answers. -/
def shortV (x : Nat) (t : ByteArray) : Prop := (IsNan x ∧ t = ⟨#[110, 97, 110]⟩) ∨ (∃ s, x = iw s ∧ t = sgnB s ++ ⟨#[105, 110, 102]⟩) ∨ (∃ s, x = signBit s ∧ t = sgnB s ++ ⟨#[48]⟩)
  ∨ (∃ (s : Bool) (n : Nat) (p : Int) (q k : Nat) (ds : ByteArray) (pow : Int) (d : ByteArray) (p' : Int) (u : ByteArray), Canon n p ∧ 0 < n ∧ x = fw s n p ∧ n = q * 2 ^ k ∧ q % 2 = 1 ∧ ExD ds pow q (p + k) ∧ LeastD ds pow (fw false n p) d p' ∧ TrimD d u ∧ t = sgnB s ++ shortB u p')
theorem specShortest_any (x : Nat) (hx : x < 18446744073709551616) (w : World) :
    Calls Tryz.prog 11 #[.float .f64 x] w fun e w' => ∃ t, shortV x t ∧ t.size ≤ 3100 ∧ e = .returned (.string t) ∧ Below w.heap.size w w' := by
  rcases float_cases x hx with h | ⟨s, rfl⟩ | ⟨s, n, p, hc, rfl⟩
  · refine (shortest_nan x h w).mono ?_
    rintro e w' ⟨rfl, hb⟩
    exact ⟨_, .inl ⟨h, rfl⟩, by decide, rfl, hb⟩
  · refine (shortest_odd s 9218868437227405312 _ (by omega) (by decide) (fun w => l5odd_inf w) w).mono ?_
    rintro e w' ⟨rfl, hb⟩
    exact ⟨_, .inr (.inl ⟨s, rfl, rfl⟩), by cases s <;> decide, rfl, hb⟩
  · by_cases h0 : n = 0
    · subst h0
      rw [fw_zero]
      have := shortest_odd s 0 ⟨#[48]⟩ (by omega) (by decide) (fun w => l5odd_num 0 (by omega) w) w
      rw [Nat.add_zero] at this
      refine this.mono ?_
      rintro e w' ⟨rfl, hb⟩
      exact ⟨_, .inr (.inr (.inl ⟨s, rfl, rfl⟩)), by cases s <;> decide, rfl, hb⟩
    · obtain ⟨q, k, hq, hq1, hX⟩ := l5exact_any n p hc (by omega)
      have hfw : fw false n p = rung n p := by rw [fw_canon _ _ _ hc]; exact Nat.zero_add _
      have hfs : fw s n p = signBit s + rung n p := fw_canon _ _ _ hc
      have hqk : fw false n p = fw false q (p + k) := by
        have := fw_scale false q k (p + k)
        rw [show p + (k : Int) - (k : Int) = p by omega, ← hq] at this
        exact this
      have hL := fun w => l5least_any (fw false n p) q (p + k) (by rcases Nat.eq_zero_or_pos q with h | h; (subst h; omega); exact h) hqk (order_self_fw false n p hc) hX w
      rw [hfw] at hL
      have := shortest_num s (rung n p) q (p + k) (rung_lt n p hc) (fun h => h0 (rung_zero n p h)) hL w
      rw [← hfs] at this
      refine this.mono ?_
      rintro e w' ⟨ds, pow, d, p', u, hd, hle, htu, hz, rfl, hb⟩
      rw [← hfw] at hle
      exact ⟨_, .inr (.inr (.inr ⟨s, n, p, q, k, ds, pow, d, p', u, hc, by omega, rfl, hq, hq1, hd, hle, htu, rfl⟩)), hz, rfl, hb⟩
end Go.Proofs.YtpmccbkhkaoccaaGreatDoor

/- How long the digits of a float are: plain. -/
namespace Go.Proofs.YtpmccbkhkaoccaaGreatDoor
open Go.RowKit

theorem odd_bounds (n : Nat) (p : Int) (q k : Nat) (hc : Canon n p) (hn : 0 < n) (hq : n = q * 2 ^ k) : q < 9007199254740992 ∧ -1074 ≤ p + k ∧ p + k ≤ 1100 ∧ k ≤ 52 := by
  have hn2 : n < 9007199254740992 := by rcases hc with h | h <;> omega
  have hp : -1074 ≤ p ∧ p ≤ 971 := by rcases hc with h | h <;> omega
  have hk : 0 < 2 ^ k := Nat.two_pow_pos k
  have hq0 : 0 < q := by
    apply Nat.pos_of_ne_zero
    intro h
    rw [h, Nat.zero_mul] at hq
    omega
  have h1 : q ≤ n := by rw [hq]; exact Nat.le_mul_of_pos_right _ hk
  have h2 : 2 ^ k ≤ n := by rw [hq]; exact Nat.le_mul_of_pos_left _ hq0
  have h3 : k ≤ 52 := by
    apply Nat.le_of_not_lt
    intro hlt
    have : 2 ^ 53 ≤ 2 ^ k := Nat.pow_le_pow_right (by omega) (by omega)
    have e : (2 : Nat) ^ 53 = 9007199254740992 := by decide
    omega
  omega
theorem exact_sizes (n : Nat) (p : Int) (q k : Nat) (ds : ByteArray) (pow : Int) (hc : Canon n p) (hn : 0 < n) (hq : n = q * 2 ^ k) (hd : ExD ds pow q (p + k)) :
    (ds.size : Int) - pow ≤ 1074 ∧ pow ≤ 320 ∧ ds.size ≤ 1090 ∧ -1074 ≤ pow := by
  obtain ⟨h1, h2, _, _⟩ := odd_bounds n p q k hc hn hq
  have hn2 : n < 9007199254740992 := by rcases hc with h | h <;> omega
  have hp : -1074 ≤ p ∧ p ≤ 971 := by rcases hc with h | h <;> omega
  refine exD_sizes ds pow q (p + k) hd h1 h2 fun N hN => ?_
  have e53 : (2 : Nat) ^ 53 = 9007199254740992 := by decide
  have hle : q * 2 ^ (p + (k : Int)).toNat ≤ n * 2 ^ p.toNat := by
    rw [hq, Nat.mul_assoc, ← Nat.pow_add]
    exact Nat.mul_le_mul_left _ (Nat.pow_le_pow_right (by omega) (by omega))
  refine Nat.lt_of_le_of_lt hle ?_
  have e1 : n * 2 ^ p.toNat < 2 ^ 53 * 2 ^ p.toNat := Nat.mul_lt_mul_of_pos_right (by omega) (Nat.two_pow_pos _)
  have e2 : 2 ^ 53 * 2 ^ p.toNat ≤ 2 ^ 53 * 2 ^ N := Nat.mul_le_mul_left _ (Nat.pow_le_pow_right (by omega) (by omega))
  exact Nat.lt_of_lt_of_le e1 e2
end Go.Proofs.YtpmccbkhkaoccaaGreatDoor

