import Derived.Test.YtoedefjngipeiaaGreatDoorA20
import Derived.Test.YtoedefjngipeiaaGreatDoorA09
import Derived.Test.YtoedefjngipeiaaGreatDoorA03
import Derived.Test.YtoedefjngipeiaaGreatDoorA18
import Derived.Test.YtoedefjngipeiaaGreatDoorA10
/- l5cut of the specification: with 1 more in the last place. -/
namespace Go.Proofs.YtoedefjngipeiaaGreatDoor
open Go.ChangeShapes Go.WideShapes Go.RowKit

set_option maxHeartbeats 4000000 in
set_option maxRecDepth 100000 in
theorem l5cut_walk (ds P : ByteArray) (p : Int) (n : Nat) (Z : ByteArray) (C : Array Value) (zi : Int) (w : World) (hs' : (ds.size : Int) ≤ 1100) (hn' : (n : Int) ≤ 1600) (hz0 : (Z.size : Int) ≤ 1600) (hp1 : -100000 ≤ p) (hp2 : p ≤ 100000)
    (hcase : (n < ds.size ∧ (ds.extract 0 n).size = n ∧ zi = 0 ∧ P = ds.extract 0 n ++ Z) ∨ ((ds.size : Int) ≤ (n : Int) ∧ zi = (n : Int) - (ds.size : Int) ∧ P = ds ++ Z))
    (HZ0 : ∀ w, Calls Tryz.prog 52 #[.int .i64 zi] w fun e w' => e = .returned (.string Z) ∧ w' = w.alloc (.cells C 5))
    (HU0 : ∀ w, Calls Tryz.prog 104 #[.string P] w fun e w' => ∃ t more, UpD P t more ∧ e = .returned (.tuple #[.string t, .bool more]) ∧ Below w.heap.size w w') :
    Calls Tryz.prog 94 #[.agg #[.string ds, .int .i64 p], .int .i64 (n : Int), .bool true] w fun e w' => ∃ t more, UpD P t more ∧ e = .returned (.agg #[.string t, .int .i64 (p + (if more then 1 else 0))]) ∧ Below w.heap.size w w' := by
  have HZ : Hid _ := HZ0
  have HU : Hid _ := HU0
  clear HZ0 HU0
  rcases hcase with ⟨h, he, rfl, rfl⟩ | ⟨h, rfl, rfl⟩
  all_goals
    go_enter Tryz.func94, Tryz.ntmps94
    go_wp2_with fail
    refine (HZ.out _).mono ?_
    rintro e w1 ⟨rfl, rfl⟩
    go_wp2_with fail
    refine (HU.out _).mono ?_
    rintro e w2 ⟨t, more, hup, rfl, hb⟩
    have HUP : Hid _ := fun (_ : Unit) => hup
    have r0 := (hb.cell (p := ⟨w.heap.size + 1, 0, none⟩) (by simp)).trans (by simp [go_sem] : _ = some (.string ⟨#[]⟩))
    have r1 := (hb.cell (p := ⟨w.heap.size + 1, 1, none⟩) (by simp)).trans (by simp [go_sem] : _ = some (.int .i64 0))
    have g0 := (hb.frozen (p := ⟨w.heap.size + 1, 0, none⟩) (by simp)).trans (by simp [go_sem] : _ = false)
    have g1 := (hb.frozen (p := ⟨w.heap.size + 1, 1, none⟩) (by simp)).trans (by simp [go_sem] : _ = false)
    have o1 := (hb.cell (p := ⟨w.heap.size + 3, 1, none⟩) (by simp)).trans (by simp [go_sem] : _ = some (.int .i64 p))
    obtain ⟨so, o0⟩ : ∃ so, w2.cell? ⟨w.heap.size + 3, 0, none⟩ = some (.string so) := by
      first
        | (refine ⟨ds.extract 0 n ++ Z, (hb.cell (p := ⟨w.heap.size + 3, 0, none⟩) (by simp)).trans ?_⟩; simp [go_sem]; done)
        | (refine ⟨ds ++ Z, (hb.cell (p := ⟨w.heap.size + 3, 0, none⟩) (by simp)).trans ?_⟩; simp [go_sem]; done)
    have q0 := (hb.frozen (p := ⟨w.heap.size + 3, 0, none⟩) (by simp)).trans (by simp [go_sem] : _ = false)
    have q1 := (hb.frozen (p := ⟨w.heap.size + 3, 1, none⟩) (by simp)).trans (by simp [go_sem] : _ = false)
    have HB : Hid (Below w.heap.size w w2) := ((((((Below.refl _ _).alloc (Nat.le_refl _) _).alloc (by simp) _).alloc (by simp; omega) _).alloc (by simp; omega) _)).trans (hb.mono (by simp; omega))
    clear hb hup HU HZ
    cases more
    · go_wp2
      refine bodyPost_ret (v := .agg #[.string t, .int .i64 p]) (by simp [results, Tryz.results94, go_sem, r0, r1]) rfl ⟨t, false, HUP.out (), by simp, (by repeat (first | exact HB.out | with_reducible refine Below.setCell ?_ (by simp <;> omega) _))⟩
    · go_wp2
      refine bodyPost_ret (v := .agg #[.string t, .int .i64 (p + 1)]) (by simp [results, Tryz.results94, go_sem, r0, r1]) rfl ⟨t, true, HUP.out (), by simp, (by repeat (first | exact HB.out | with_reducible refine Below.setCell ?_ (by simp <;> omega) _))⟩
theorem l5cut_any (ds : ByteArray) (p : Int) (n : Nat) (up : Bool) (hs : ds.size ≤ 1100) (hg : good 10 ds.data.toList) (hn : n ≤ 1600) (hp1 : -100000 ≤ p) (hp2 : p ≤ 100000) (w : World) :
    Calls Tryz.prog 94 #[.agg #[.string ds, .int .i64 p], .int .i64 (n : Int), .bool up] w fun e w' => ∃ t p', cutV ds p n up t p' ∧ e = .returned (.agg #[.string t, .int .i64 p']) ∧ Below w.heap.size w w' := by
  cases up
  · refine (l5cut_plain ds p n hs hn w).mono ?_
    rintro e w' ⟨rfl, hb⟩
    exact ⟨_, _, .inl ⟨rfl, rfl, rfl⟩, rfl, hb⟩
  · have hz : ((zerosB (n - ds.size)).size : Int) ≤ 1600 := by rw [zerosB_size]; omega
    have hsz := padB_size ds n
    refine (l5cut_walk ds (padB ds n) p n (zerosB (n - ds.size)) _ (((n - ds.size : Nat)) : Int) w (by omega) (by omega) hz hp1 hp2 ?_ (fun w => zeros_int ((n - ds.size : Nat) : Int) (by omega) (by omega) w) (fun w => l5up_any (padB ds n) (by omega) (padB_good ds n hg) w)).mono ?_
    · by_cases h : n < ds.size
      · exact .inl ⟨h, by simp; omega, by omega, by unfold padB; rw [if_pos h]⟩
      · exact .inr ⟨by omega, by omega, by unfold padB; rw [if_neg h]⟩
    · rintro e w' ⟨t, more, hu, rfl, hb⟩
      exact ⟨_, _, .inr ⟨rfl, more, hu, rfl⟩, rfl, hb⟩
end Go.Proofs.YtoedefjngipeiaaGreatDoor

/- l5rounds of the specification. -/
namespace Go.Proofs.YtoedefjngipeiaaGreatDoor
open Go.ChangeShapes Go.WideShapes Go.RowKit

/-- Whether the digits behind the first n round up. -/
def roundsB (ds : ByteArray) (n : Int) : Bool :=
  if h : 0 ≤ n ∧ n < (ds.size : Int) then
    (if ds[n.toNat].toNat ≠ 53 ∨ n.toNat + 1 < ds.size then decide (53 ≤ ds[n.toNat].toNat) else if h2 : 0 < n.toNat then decide ((ds[n.toNat - 1].toNat - 48) % 2 = 1) else false)
  else false
set_option maxHeartbeats 1000000 in
set_option maxRecDepth 100000 in
theorem l5rounds_out (ds : ByteArray) (p n : Int) (hs : ds.size ≤ 3000) (hn : ¬ (0 ≤ n ∧ n < (ds.size : Int))) (w : World) :
    Calls Tryz.prog 96 #[.agg #[.string ds, .int .i64 p], .int .i64 n] w fun e w' => e = .returned (.bool false) ∧ w' = w.alloc (.cells #[.string ds, .int .i64 p] 121) := by
  have hs' : (ds.size : Int) ≤ 3000 := by omega
  by_cases h : n < 0
  · go_enter Tryz.func96, Tryz.ntmps96
    go_wp2
    go_ret
    exact ⟨rfl, rfl⟩
  · have h2 : (ds.size : Int) ≤ n := by omega
    clear hn
    go_enter Tryz.func96, Tryz.ntmps96
    go_wp2
    go_ret
    exact ⟨rfl, rfl⟩
set_option maxHeartbeats 1000000 in
set_option maxRecDepth 100000 in
theorem l5rounds_in (ds : ByteArray) (p : Int) (k : Nat) (hs : ds.size ≤ 3000) (hk : k < ds.size) (hg : good 10 ds.data.toList) (w : World) :
    Calls Tryz.prog 96 #[.agg #[.string ds, .int .i64 p], .int .i64 (k : Int)] w fun e w' => e = .returned (.bool (roundsB ds (k : Int))) ∧ w' = w.alloc (.cells #[.string ds, .int .i64 p] 121) := by
  have hs' : (ds.size : Int) ≤ 3000 := by omega
  have HR : Hid (roundsB ds (k : Int) = if ds[k].toNat ≠ 53 ∨ k + 1 < ds.size then decide (53 ≤ ds[k].toNat) else if h2 : 0 < k then decide ((ds[k - 1].toNat - 48) % 2 = 1) else false) := by
    show _ = _
    unfold roundsB
    rw [dif_pos ⟨by omega, by omega⟩]
    rfl
  by_cases h1 : ds[k].toNat = 53
  · by_cases h2 : k + 1 < ds.size
    · have HV : Hid (roundsB ds (k : Int) = true) := by show _ = _; rw [HR.out, if_pos (.inr h2), decide_eq_true (by omega)]
      have h1' : (ds[k].toNat : Int) = 53 := by omega
      rw [HV.out]
      clear hg HR HV
      go_enter Tryz.func96, Tryz.ntmps96
      go_wp2
      go_ret
      exact ⟨rfl, rfl⟩
    · have h1' : (ds[k].toNat : Int) = 53 := by omega
      have h2' : ¬ ((k : Int) + 1 < (ds.size : Int)) := by omega
      by_cases h3 : 0 < k
      · obtain ⟨j, rfl⟩ : ∃ j, k = j + 1 := ⟨k - 1, by omega⟩
        have hj : j < ds.size := by omega
        obtain ⟨d1, d2, _⟩ := good_digit ds[j] (good_at 10 ds hg j hj)
        have HV : Hid (roundsB ds ((j + 1 : Nat) : Int) = ((((ds[j].toNat : Int) - 48) % 2) == 1)) := by
          show _ = _
          rw [HR.out, if_neg (by intro h; rcases h with h | h <;> omega), dif_pos (by omega)]
          simp only [Nat.add_sub_cancel]
          by_cases h4 : (ds[j].toNat - 48) % 2 = 1
          · rw [decide_eq_true h4]; symm; exact beq_iff_eq.2 (by omega)
          · rw [decide_eq_false h4]; symm; exact beq_eq_false_iff_ne.2 (by omega)
        have d1' : 48 ≤ (ds[j].toNat : Int) := by omega
        have d2' : (ds[j].toNat : Int) ≤ 57 := by omega
        rw [HV.out]
        clear hg HR h2 HV
        go_enter Tryz.func96, Tryz.ntmps96
        go_wp2
        go_ret
        exact ⟨rfl, rfl⟩
      · obtain rfl : k = 0 := by omega
        have HV : Hid (roundsB ds ((0 : Nat) : Int) = false) := by
          show _ = _
          rw [HR.out, if_neg (by intro h; rcases h with h | h <;> omega), dif_neg (by omega)]
        rw [HV.out]
        have hne : decide (ds = ByteArray.empty) = false := decide_eq_false (fun h => by rw [h] at hk; exact absurd hk (by decide))
        have hs1 : (ds.size : Int) = 1 := by omega
        clear hg HR h2 h3 HV h2'
        go_enter Tryz.func96, Tryz.ntmps96
        go_wp2
        go_ret
        exact ⟨rfl, rfl⟩
  · have HV : Hid (roundsB ds (k : Int) = decide (53 ≤ (ds[k].toNat : Int))) := by
      show _ = _
      rw [HR.out, if_pos (.inl h1)]
      by_cases h4 : 53 ≤ ds[k].toNat
      · rw [decide_eq_true h4, decide_eq_true (by omega)]
      · rw [decide_eq_false h4, decide_eq_false (by omega)]
    have h1' : ((ds[k].toNat : Int) == 53) = false := beq_eq_false_iff_ne.2 (by omega)
    have h1x : ¬ (ds[k].toNat : Int) = 53 := by omega
    rw [HV.out]
    clear hg HR h1 HV
    go_enter Tryz.func96, Tryz.ntmps96
    go_wp2
    go_ret
    exact ⟨rfl, rfl⟩
theorem l5rounds_any (ds : ByteArray) (p n : Int) (hs : ds.size ≤ 3000) (hg : good 10 ds.data.toList) (w : World) :
    Calls Tryz.prog 96 #[.agg #[.string ds, .int .i64 p], .int .i64 n] w fun e w' => e = .returned (.bool (roundsB ds n)) ∧ w' = w.alloc (.cells #[.string ds, .int .i64 p] 121) := by
  by_cases h : 0 ≤ n ∧ n < (ds.size : Int)
  · obtain ⟨k, rfl⟩ := Int.eq_ofNat_of_zero_le h.1
    exact l5rounds_in ds p k hs (by omega) hg w
  · have e : roundsB ds n = false := by unfold roundsB; rw [dif_neg h]
    rw [e]
    exact l5rounds_out ds p n hs h w
end Go.Proofs.YtoedefjngipeiaaGreatDoor

/- l5value of the specification. -/
namespace Go.Proofs.YtoedefjngipeiaaGreatDoor
open Go.ChangeShapes Go.WideShapes Go.RowKit
open Ieee (double)

set_option maxHeartbeats 1000000 in
theorem l5value_any (ds : ByteArray) (p : Int) (hs : ds.size ≤ 1300) (hg : good 10 ds.data.toList) (hp : -100000 ≤ p) (hp2 : p ≤ 100000) (w : World) :
    Calls Tryz.prog 95 #[.agg #[.string ds, .int .i64 p]] w fun e w' => e = .returned (.float .f64 (decW 10 (valN 10 ds.data.toList) (p - (ds.size : Int)))) ∧ Below w.heap.size w w' := by
  have HD : Hid _ := fun w => l4decimal_any ds (p - (ds.size : Int)) w hs hg (by omega) (by omega)
  generalize decW 10 (valN 10 ds.data.toList) (p - (ds.size : Int)) = D at *
  have hs' : (ds.size : Int) ≤ 1300 := by omega
  clear hg
  go_enter Tryz.func95, Tryz.ntmps95
  go_wp2_with fail
  refine (HD.out _).mono ?_
  rintro e w1 ⟨rfl, hb⟩
  have HB : Hid _ := hb
  clear hb
  go_wp2
  go_ret
  exact ⟨rfl, ((Below.refl _ _).alloc (Nat.le_refl _) _).trans (HB.out.mono (by simp))⟩
end Go.Proofs.YtoedefjngipeiaaGreatDoor

/- The fewest digits that are read as a float, as the specification finds them: plain. -/
namespace Go.Proofs.YtoedefjngipeiaaGreatDoor
open Ieee (double)

theorem dec_exact (V q : Nat) (e E : Int) (hV : 0 < V) (hq : 0 < q) (h : V * 10 ^ e.toNat * 2 ^ (-E).toNat = q * 2 ^ E.toNat * 10 ^ (-e).toNat) : decW 10 V e = fw false q E := by
  unfold decW
  have p2 : ∀ k, 0 < 2 ^ k := fun k => Nat.two_pow_pos k
  have p10 : ∀ k, 0 < 10 ^ k := fun k => Nat.pow_pos (by omega)
  rw [if_neg (by omega), ratioW_eq (V * 10 ^ e.toNat) (10 ^ (-e).toNat) (q * 2 ^ E.toNat) (2 ^ (-E).toNat) (Nat.mul_pos hV (p10 _)) (p10 _) (Nat.mul_pos hq (p2 _)) (p2 _) h, ratioW_fw q _ _ hq]
  rw [show ((E.toNat : Int) - ((-E).toNat : Int)) = E by omega]
/-- All digits are read as the float. -/
theorem exD_reads (ds : ByteArray) (pow : Int) (q : Nat) (E : Int) (hq : 0 < q) (h : ExD ds pow q E) : decW 10 (valN 10 ds.data.toList) (pow - (ds.size : Int)) = fw false q E := by
  obtain ⟨h0, hg, hf, _, hv⟩ := h
  have hV : 0 < valN 10 ds.data.toList := by
    have := (dec_bounds ds _ ⟨hg, rfl, hf⟩ h0).1
    have h2 : 0 < 10 ^ (ds.size - 1) := Nat.pow_pos (by omega)
    omega
  refine dec_exact _ q _ E hV hq ?_
  rw [show (-(pow - (ds.size : Int))).toNat = ((ds.size : Int) - pow).toNat by omega]
  exact hv
end Go.Proofs.YtoedefjngipeiaaGreatDoor

