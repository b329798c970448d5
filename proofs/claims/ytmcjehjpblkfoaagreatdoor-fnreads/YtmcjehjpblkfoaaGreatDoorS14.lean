import Derived.Test.YtmcjehjpblkfoaaGreatDoorS13
import Derived.Test.YtmcjehjpblkfoaaGreatDoorS06
import Derived.Test.YtmcjehjpblkfoaaGreatDoorS02
import Derived.Test.YtmcjehjpblkfoaaGreatDoorS12
import Derived.Test.YtmcjehjpblkfoaaGreatDoorS07
/- l5cut of the specification. -/
namespace Go.Proofs.YtmcjehjpblkfoaaGreatDoor
open Go.ChangeShapes Go.WideShapes Go.RowKit

/-- The first n digits, zeros behind them where there are fewer. -/
def padB (ds : ByteArray) (n : Nat) : ByteArray := (if n < ds.size then ds.extract 0 n else ds) ++ zerosB (n - ds.size)
theorem padB_size (ds : ByteArray) (n : Nat) : (padB ds n).size = n := by
  unfold padB
  rw [append_size, zerosB_size]
  split
  · have : (ds.extract 0 n).size = n := by simp; omega
    omega
  · omega
theorem padB_good (ds : ByteArray) (n : Nat) (h : good 10 ds.data.toList) : good 10 (padB ds n).data.toList := by
  unfold padB
  rw [append_list]
  refine good_append _ _ ?_ (good_zeros _)
  split
  · intro c hc
    rw [Lib.extract_eq] at hc
    exact h c (List.mem_of_mem_drop (List.mem_of_mem_take hc))
  · exact h
/-- What l5cut answers. -/
def cutV (ds : ByteArray) (pow : Int) (n : Nat) (up : Bool) (t : ByteArray) (p' : Int) : Prop :=
  (up = false ∧ t = padB ds n ∧ p' = pow) ∨ (up = true ∧ ∃ more, UpD (padB ds n) t more ∧ p' = pow + (if more then 1 else 0))

set_option maxHeartbeats 4000000 in
set_option maxRecDepth 100000 in
theorem l5cut_plain (ds : ByteArray) (p : Int) (n : Nat) (hs : ds.size ≤ 1100) (hn : n ≤ 1600) (w : World) :
    Calls Tryz.prog 94 #[.agg #[.string ds, .int .i64 p], .int .i64 (n : Int), .bool false] w fun e w' => e = .returned (.agg #[.string (padB ds n), .int .i64 p]) ∧ Below w.heap.size w w' := by
  unfold padB
  have hs' : (ds.size : Int) ≤ 1100 := by omega
  by_cases h : n < ds.size
  · rw [if_pos h]
    have he : (ds.extract 0 n).size = n := by simp; omega
    have hz : n - ds.size = 0 := by omega
    rw [hz]
    have HZ : Hid (∀ w, Calls Tryz.prog 52 #[.int .i64 0] w fun e w' => e = .returned (.string (zerosB 0)) ∧ w' = w.alloc (.cells (tcells (zerosL 0) 0).toArray 5)) := fun w => zeros_int 0 (by omega) (by omega) w
    have hz0 := zerosB_size 0
    generalize zerosB 0 = Z at *
    generalize (tcells (zerosL 0) 0).toArray = C at *
    go_enter Tryz.func94, Tryz.ntmps94
    go_wp2_with fail
    refine (HZ.out _).mono ?_
    rintro e w' ⟨rfl, rfl⟩
    go_wp2
    refine bodyPost_ret (v := .agg #[.string (ds.extract 0 n ++ Z), .int .i64 p]) (by simp [results, Tryz.results94, go_sem]) rfl ⟨rfl, (by repeat (first | with_reducible exact Below.refl _ _ | with_reducible refine Below.alloc ?_ (by simp <;> omega) _ | with_reducible refine Below.drew ?_ | with_reducible refine below_drewN ?_ _ | with_reducible refine Below.setCell ?_ (by simp <;> omega) _))⟩
  · rw [if_neg h]
    have hn' : (ds.size : Int) ≤ (n : Int) := by omega
    have HZ : Hid (∀ w, Calls Tryz.prog 52 #[.int .i64 ((n : Int) - (ds.size : Int))] w fun e w' => e = .returned (.string (zerosB (n - ds.size))) ∧ w' = w.alloc (.cells (tcells (zerosL (n - ds.size)) (n - ds.size)).toArray 5)) := fun w => by
      have := zeros_int ((n : Int) - (ds.size : Int)) (by omega) (by omega) w
      rw [show ((n : Int) - (ds.size : Int)).toNat = n - ds.size by omega] at this
      exact this
    have hz0 : ((zerosB (n - ds.size)).size : Int) ≤ 1600 := by rw [zerosB_size]; omega
    generalize zerosB (n - ds.size) = Z at *
    generalize (tcells (zerosL (n - ds.size)) (n - ds.size)).toArray = C at *
    clear h
    go_enter Tryz.func94, Tryz.ntmps94
    go_wp2_with fail
    refine (HZ.out _).mono ?_
    rintro e w' ⟨rfl, rfl⟩
    go_wp2
    refine bodyPost_ret (v := .agg #[.string (ds ++ Z), .int .i64 p]) (by simp [results, Tryz.results94, go_sem]) rfl ⟨rfl, (by repeat (first | with_reducible exact Below.refl _ _ | with_reducible refine Below.alloc ?_ (by simp <;> omega) _ | with_reducible refine Below.drew ?_ | with_reducible refine below_drewN ?_ _ | with_reducible refine Below.setCell ?_ (by simp <;> omega) _))⟩
theorem cutV_one (ds : ByteArray) (pow : Int) (n : Nat) (up : Bool) (t t' : ByteArray) (p p' : Int) (h : cutV ds pow n up t p) (h' : cutV ds pow n up t' p') : t = t' ∧ p = p' := by
  rcases h with ⟨rfl, rfl, rfl⟩ | ⟨rfl, m, h, rfl⟩
  · rcases h' with ⟨_, rfl, rfl⟩ | ⟨h, _⟩
    · exact ⟨rfl, rfl⟩
    · cases h
  · rcases h' with ⟨h, _⟩ | ⟨_, m', h', rfl⟩
    · cases h
    · obtain ⟨rfl, rfl⟩ := upD_one _ _ _ _ _ h h'
      exact ⟨rfl, rfl⟩
theorem cut5_size (ds : ByteArray) (pow : Int) (n : Nat) (up : Bool) (t : ByteArray) (p' : Int) (h : cutV ds pow n up t p') : n ≤ t.size ∧ t.size ≤ n + 1 ∧ pow ≤ p' ∧ p' ≤ pow + 1 := by
  have := padB_size ds n
  rcases h with ⟨_, rfl, rfl⟩ | ⟨_, more, ⟨_, _, h, _⟩, rfl⟩
  · omega
  · cases more
    · simp at h ⊢; omega
    · simp at h ⊢; omega
theorem cutV_good (ds : ByteArray) (pow : Int) (n : Nat) (up : Bool) (t : ByteArray) (p : Int) (hg : good 10 ds.data.toList) (h : cutV ds pow n up t p) : good 10 t.data.toList := by
  rcases h with ⟨_, rfl, _⟩ | ⟨_, m, h, _⟩
  · exact padB_good ds n hg
  · exact h.1
end Go.Proofs.YtmcjehjpblkfoaaGreatDoor

/- l5cut of the specification: with 1 more in the last place. -/
namespace Go.Proofs.YtmcjehjpblkfoaaGreatDoor
open Go.ChangeShapes Go.WideShapes Go.RowKit

set_option maxHeartbeats 4000000 in
set_option maxRecDepth 100000 in
theorem l5cut_walk (ds P : ByteArray) (p : Int) (n : Nat) (Z : ByteArray) (C : Array Value) (zi : Int) (w : World) (hs' : (ds.size : Int) ≤ 1100) (hn' : (n : Int) ≤ 1600) (hz0 : (Z.size : Int) ≤ 1600) (hp1 : -100000 ≤ p) (hp2 : p ≤ 100000)
    (hcase : (n < ds.size ∧ (ds.extract 0 n).size = n ∧ zi = 0 ∧ P = ds.extract 0 n ++ Z) ∨ ((ds.size : Int) ≤ (n : Int) ∧ zi = (n : Int) - (ds.size : Int) ∧ P = ds ++ Z))
    (HZ0 : ∀ w, Calls Tryz.prog 52 #[.int .i64 zi] w fun e w' => e = .returned (.string Z) ∧ w' = w.alloc (.cells C 5))
    (HU0 : ∀ w, Calls Tryz.prog 104 #[.string P] w fun e w' => ∃ t more, UpD P t more ∧ e = .returned (.tuple #[.string t, .bool more]) ∧ Below w.heap.size w w') :
    Calls Tryz.prog 94 #[.agg #[.string ds, .int .i64 p], .int .i64 (n : Int), .bool true] w fun e w' => ∃ t more, UpD P t more ∧ e = .returned (.agg #[.string t, .int .i64 (p + (if more then 1 else 0))]) ∧ Below w.heap.size w w' := by
  have HZ : Hid _ := HZ0
  have HU : Hid _ := HU0
  clear HZ0 HU0
  rcases hcase with ⟨h, he, rfl, rfl⟩ | ⟨h, rfl, rfl⟩
  all_goals
    go_enter Tryz.func94, Tryz.ntmps94
    go_wp2_with fail
    refine (HZ.out _).mono ?_
    rintro e w1 ⟨rfl, rfl⟩
    go_wp2_with fail
    refine (HU.out _).mono ?_
    rintro e w2 ⟨t, more, hup, rfl, hb⟩
    have HUP : Hid _ := fun (_ : Unit) => hup
    have r0 := (hb.cell (p := ⟨w.heap.size + 1, 0, none⟩) (by simp)).trans (by simp [go_sem] : _ = some (.string ⟨#[]⟩))
    have r1 := (hb.cell (p := ⟨w.heap.size + 1, 1, none⟩) (by simp)).trans (by simp [go_sem] : _ = some (.int .i64 0))
    have g0 := (hb.frozen (p := ⟨w.heap.size + 1, 0, none⟩) (by simp)).trans (by simp [go_sem] : _ = false)
    have g1 := (hb.frozen (p := ⟨w.heap.size + 1, 1, none⟩) (by simp)).trans (by simp [go_sem] : _ = false)
    have o1 := (hb.cell (p := ⟨w.heap.size + 3, 1, none⟩) (by simp)).trans (by simp [go_sem] : _ = some (.int .i64 p))
    obtain ⟨so, o0⟩ : ∃ so, w2.cell? ⟨w.heap.size + 3, 0, none⟩ = some (.string so) := by
      first
        | (refine ⟨ds.extract 0 n ++ Z, (hb.cell (p := ⟨w.heap.size + 3, 0, none⟩) (by simp)).trans ?_⟩; simp [go_sem]; done)
        | (refine ⟨ds ++ Z, (hb.cell (p := ⟨w.heap.size + 3, 0, none⟩) (by simp)).trans ?_⟩; simp [go_sem]; done)
    have q0 := (hb.frozen (p := ⟨w.heap.size + 3, 0, none⟩) (by simp)).trans (by simp [go_sem] : _ = false)
    have q1 := (hb.frozen (p := ⟨w.heap.size + 3, 1, none⟩) (by simp)).trans (by simp [go_sem] : _ = false)
    have HB : Hid (Below w.heap.size w w2) := ((((((Below.refl _ _).alloc (Nat.le_refl _) _).alloc (by simp) _).alloc (by simp; omega) _).alloc (by simp; omega) _)).trans (hb.mono (by simp; omega))
    clear hb hup HU HZ
    cases more
    · go_wp2
      refine bodyPost_ret (v := .agg #[.string t, .int .i64 p]) (by simp [results, Tryz.results94, go_sem, r0, r1]) rfl ⟨t, false, HUP.out (), by simp, (by repeat (first | exact HB.out | with_reducible refine Below.setCell ?_ (by simp <;> omega) _))⟩
    · go_wp2
      refine bodyPost_ret (v := .agg #[.string t, .int .i64 (p + 1)]) (by simp [results, Tryz.results94, go_sem, r0, r1]) rfl ⟨t, true, HUP.out (), by simp, (by repeat (first | exact HB.out | with_reducible refine Below.setCell ?_ (by simp <;> omega) _))⟩
theorem l5cut_any (ds : ByteArray) (p : Int) (n : Nat) (up : Bool) (hs : ds.size ≤ 1100) (hg : good 10 ds.data.toList) (hn : n ≤ 1600) (hp1 : -100000 ≤ p) (hp2 : p ≤ 100000) (w : World) :
    Calls Tryz.prog 94 #[.agg #[.string ds, .int .i64 p], .int .i64 (n : Int), .bool up] w fun e w' => ∃ t p', cutV ds p n up t p' ∧ e = .returned (.agg #[.string t, .int .i64 p']) ∧ Below w.heap.size w w' := by
  cases up
  · refine (l5cut_plain ds p n hs hn w).mono ?_
    rintro e w' ⟨rfl, hb⟩
    exact ⟨_, _, .inl ⟨rfl, rfl, rfl⟩, rfl, hb⟩
  · have hz : ((zerosB (n - ds.size)).size : Int) ≤ 1600 := by rw [zerosB_size]; omega
    have hsz := padB_size ds n
    refine (l5cut_walk ds (padB ds n) p n (zerosB (n - ds.size)) _ (((n - ds.size : Nat)) : Int) w (by omega) (by omega) hz hp1 hp2 ?_ (fun w => zeros_int ((n - ds.size : Nat) : Int) (by omega) (by omega) w) (fun w => l5up_any (padB ds n) (by omega) (padB_good ds n hg) w)).mono ?_
    · by_cases h : n < ds.size
      · exact .inl ⟨h, by simp; omega, by omega, by unfold padB; rw [if_pos h]⟩
      · exact .inr ⟨by omega, by omega, by unfold padB; rw [if_neg h]⟩
    · rintro e w' ⟨t, more, hu, rfl, hb⟩
      exact ⟨_, _, .inr ⟨rfl, more, hu, rfl⟩, rfl, hb⟩
end Go.Proofs.YtmcjehjpblkfoaaGreatDoor

/- l5rounds of the specification. -/
namespace Go.Proofs.YtmcjehjpblkfoaaGreatDoor
open Go.ChangeShapes Go.WideShapes Go.RowKit

/-- Whether the digits behind the first n round up. -/
def roundsB (ds : ByteArray) (n : Int) : Bool :=
  if h : 0 ≤ n ∧ n < (ds.size : Int) then
    (if ds[n.toNat].toNat ≠ 53 ∨ n.toNat + 1 < ds.size then decide (53 ≤ ds[n.toNat].toNat) else if h2 : 0 < n.toNat then decide ((ds[n.toNat - 1].toNat - 48) % 2 = 1) else false)
  else false
set_option maxHeartbeats 1000000 in
set_option maxRecDepth 100000 in
theorem l5rounds_out (ds : ByteArray) (p n : Int) (hs : ds.size ≤ 3000) (hn : ¬ (0 ≤ n ∧ n < (ds.size : Int))) (w : World) :
    Calls Tryz.prog 96 #[.agg #[.string ds, .int .i64 p], .int .i64 n] w fun e w' => e = .returned (.bool false) ∧ w' = w.alloc (.cells #[.string ds, .int .i64 p] 121) := by
  have hs' : (ds.size : Int) ≤ 3000 := by omega
  by_cases h : n < 0
  · go_enter Tryz.func96, Tryz.ntmps96
    go_wp2
    go_ret
    exact ⟨rfl, rfl⟩
  · have h2 : (ds.size : Int) ≤ n := by omega
    clear hn
    go_enter Tryz.func96, Tryz.ntmps96
    go_wp2
    go_ret
    exact ⟨rfl, rfl⟩
set_option maxHeartbeats 1000000 in
set_option maxRecDepth 100000 in
theorem l5rounds_in (ds : ByteArray) (p : Int) (k : Nat) (hs : ds.size ≤ 3000) (hk : k < ds.size) (hg : good 10 ds.data.toList) (w : World) :
    Calls Tryz.prog 96 #[.agg #[.string ds, .int .i64 p], .int .i64 (k : Int)] w fun e w' => e = .returned (.bool (roundsB ds (k : Int))) ∧ w' = w.alloc (.cells #[.string ds, .int .i64 p] 121) := by
  have hs' : (ds.size : Int) ≤ 3000 := by omega
  have HR : Hid (roundsB ds (k : Int) = if ds[k].toNat ≠ 53 ∨ k + 1 < ds.size then decide (53 ≤ ds[k].toNat) else if h2 : 0 < k then decide ((ds[k - 1].toNat - 48) % 2 = 1) else false) := by
    show _ = _
    unfold roundsB
    rw [dif_pos ⟨by omega, by omega⟩]
    rfl
  by_cases h1 : ds[k].toNat = 53
  · by_cases h2 : k + 1 < ds.size
    · have HV : Hid (roundsB ds (k : Int) = true) := by show _ = _; rw [HR.out, if_pos (.inr h2), decide_eq_true (by omega)]
      have h1' : (ds[k].toNat : Int) = 53 := by omega
      rw [HV.out]
      clear hg HR HV
      go_enter Tryz.func96, Tryz.ntmps96
      go_wp2
      go_ret
      exact ⟨rfl, rfl⟩
    · have h1' : (ds[k].toNat : Int) = 53 := by omega
      have h2' : ¬ ((k : Int) + 1 < (ds.size : Int)) := by omega
      by_cases h3 : 0 < k
      · obtain ⟨j, rfl⟩ : ∃ j, k = j + 1 := ⟨k - 1, by omega⟩
        have hj : j < ds.size := by omega
        obtain ⟨d1, d2, _⟩ := good_digit ds[j] (good_at 10 ds hg j hj)
        have HV : Hid (roundsB ds ((j + 1 : Nat) : Int) = ((((ds[j].toNat : Int) - 48) % 2) == 1)) := by
          show _ = _
          rw [HR.out, if_neg (by intro h; rcases h with h | h <;> omega), dif_pos (by omega)]
          simp only [Nat.add_sub_cancel]
          by_cases h4 : (ds[j].toNat - 48) % 2 = 1
          · rw [decide_eq_true h4]; symm; exact beq_iff_eq.2 (by omega)
          · rw [decide_eq_false h4]; symm; exact beq_eq_false_iff_ne.2 (by omega)
        have d1' : 48 ≤ (ds[j].toNat : Int) := by omega
        have d2' : (ds[j].toNat : Int) ≤ 57 := by omega
        rw [HV.out]
        clear hg HR h2 HV
        go_enter Tryz.func96, Tryz.ntmps96
        go_wp2
        go_ret
        exact ⟨rfl, rfl⟩
      · obtain rfl : k = 0 := by omega
        have HV : Hid (roundsB ds ((0 : Nat) : Int) = false) := by
          show _ = _
          rw [HR.out, if_neg (by intro h; rcases h with h | h <;> omega), dif_neg (by omega)]
        rw [HV.out]
        have hne : decide (ds = ByteArray.empty) = false := decide_eq_false (fun h => by rw [h] at hk; exact absurd hk (by decide))
        have hs1 : (ds.size : Int) = 1 := by omega
        clear hg HR h2 h3 HV h2'
        go_enter Tryz.func96, Tryz.ntmps96
        go_wp2
        go_ret
        exact ⟨rfl, rfl⟩
  · have HV : Hid (roundsB ds (k : Int) = decide (53 ≤ (ds[k].toNat : Int))) := by
      show _ = _
      rw [HR.out, if_pos (.inl h1)]
      by_cases h4 : 53 ≤ ds[k].toNat
      · rw [decide_eq_true h4, decide_eq_true (by omega)]
      · rw [decide_eq_false h4, decide_eq_false (by omega)]
    have h1' : ((ds[k].toNat : Int) == 53) = false := beq_eq_false_iff_ne.2 (by omega)
    have h1x : ¬ (ds[k].toNat : Int) = 53 := by omega
    rw [HV.out]
    clear hg HR h1 HV
    go_enter Tryz.func96, Tryz.ntmps96
    go_wp2
    go_ret
    exact ⟨rfl, rfl⟩
theorem l5rounds_any (ds : ByteArray) (p n : Int) (hs : ds.size ≤ 3000) (hg : good 10 ds.data.toList) (w : World) :
    Calls Tryz.prog 96 #[.agg #[.string ds, .int .i64 p], .int .i64 n] w fun e w' => e = .returned (.bool (roundsB ds n)) ∧ w' = w.alloc (.cells #[.string ds, .int .i64 p] 121) := by
  by_cases h : 0 ≤ n ∧ n < (ds.size : Int)
  · obtain ⟨k, rfl⟩ := Int.eq_ofNat_of_zero_le h.1
    exact l5rounds_in ds p k hs (by omega) hg w
  · have e : roundsB ds n = false := by unfold roundsB; rw [dif_neg h]
    rw [e]
    exact l5rounds_out ds p n hs h w
end Go.Proofs.YtmcjehjpblkfoaaGreatDoor

/- l5value of the specification. -/
namespace Go.Proofs.YtmcjehjpblkfoaaGreatDoor
open Go.ChangeShapes Go.WideShapes Go.RowKit
open Ieee (double)

set_option maxHeartbeats 1000000 in
theorem l5value_any (ds : ByteArray) (p : Int) (hs : ds.size ≤ 1300) (hg : good 10 ds.data.toList) (hp : -100000 ≤ p) (hp2 : p ≤ 100000) (w : World) :
    Calls Tryz.prog 95 #[.agg #[.string ds, .int .i64 p]] w fun e w' => e = .returned (.float .f64 (decW 10 (valN 10 ds.data.toList) (p - (ds.size : Int)))) ∧ Below w.heap.size w w' := by
  have HD : Hid _ := fun w => l4decimal_any ds (p - (ds.size : Int)) w hs hg (by omega) (by omega)
  generalize decW 10 (valN 10 ds.data.toList) (p - (ds.size : Int)) = D at *
  have hs' : (ds.size : Int) ≤ 1300 := by omega
  clear hg
  go_enter Tryz.func95, Tryz.ntmps95
  go_wp2_with fail
  refine (HD.out _).mono ?_
  rintro e w1 ⟨rfl, hb⟩
  have HB : Hid _ := hb
  clear hb
  go_wp2
  go_ret
  exact ⟨rfl, ((Below.refl _ _).alloc (Nat.le_refl _) _).trans (HB.out.mono (by simp))⟩
end Go.Proofs.YtmcjehjpblkfoaaGreatDoor

/- The fewest digits that are read as a float, as the specification finds them: plain. -/
namespace Go.Proofs.YtmcjehjpblkfoaaGreatDoor
open Ieee (double)

theorem dec_exact (V q : Nat) (e E : Int) (hV : 0 < V) (hq : 0 < q) (h : V * 10 ^ e.toNat * 2 ^ (-E).toNat = q * 2 ^ E.toNat * 10 ^ (-e).toNat) : decW 10 V e = fw false q E := by
  unfold decW
  have p2 : ∀ k, 0 < 2 ^ k := fun k => Nat.two_pow_pos k
  have p10 : ∀ k, 0 < 10 ^ k := fun k => Nat.pow_pos (by omega)
  rw [if_neg (by omega), ratioW_eq (V * 10 ^ e.toNat) (10 ^ (-e).toNat) (q * 2 ^ E.toNat) (2 ^ (-E).toNat) (Nat.mul_pos hV (p10 _)) (p10 _) (Nat.mul_pos hq (p2 _)) (p2 _) h, ratioW_fw q _ _ hq]
  rw [show ((E.toNat : Int) - ((-E).toNat : Int)) = E by omega]
/-- All digits are read as the float. -/
theorem exD_reads (ds : ByteArray) (pow : Int) (q : Nat) (E : Int) (hq : 0 < q) (h : ExD ds pow q E) : decW 10 (valN 10 ds.data.toList) (pow - (ds.size : Int)) = fw false q E := by
  obtain ⟨h0, hg, hf, _, hv⟩ := h
  have hV : 0 < valN 10 ds.data.toList := by
    have := (dec_bounds ds _ ⟨hg, rfl, hf⟩ h0).1
    have h2 : 0 < 10 ^ (ds.size - 1) := Nat.pow_pos (by omega)
    omega
  refine dec_exact _ q _ E hV hq ?_
  rw [show (-(pow - (ds.size : Int))).toNat = ((ds.size : Int) - pow).toNat by omega]
  exact hv
end Go.Proofs.YtmcjehjpblkfoaaGreatDoor

/- l5least of the specification. -/
namespace Go.Proofs.YtmcjehjpblkfoaaGreatDoor
open Go.ChangeShapes Go.WideShapes Go.RowKit
open Ieee (double)

/-- Digits that are read as x. -/
def Rds (x : Nat) (t : ByteArray) (p : Int) : Bool := double.order (decW 10 (valN 10 t.data.toList) (p - (t.size : Int))) x == some .eq
/-- What l5least answers. -/
def LeastD (ds : ByteArray) (pow : Int) (x : Nat) (t : ByteArray) (p' : Int) : Prop := ∃ n t2 p2, 1 ≤ n ∧ n ≤ ds.size ∧ cutV ds pow n (decide (n < ds.size)) t2 p2
  ∧ (∀ k, 1 ≤ k → k < n → Rds x (padB ds k) pow = false ∧ ∀ u r, cutV ds pow k (decide (k < ds.size)) u r → Rds x u r = false)
  ∧ ((Rds x (padB ds n) pow = true ∧ (Rds x t2 p2 = true → roundsB ds (n : Int) = false) ∧ t = padB ds n ∧ p' = pow) ∨ (Rds x t2 p2 = true ∧ (Rds x (padB ds n) pow = true → roundsB ds (n : Int) = true) ∧ t = t2 ∧ p' = p2))
/-- A boxed pair of digits and their point. -/
theorem boxed (w : World) (ds : ByteArray) (p : Int) (T : Nat) : ∃ W, W = w.alloc (.cells #[.string ds, .int .i64 p] T) ∧ Below w.heap.size w W ∧ w.heap.size < W.heap.size
    ∧ W.cell? ⟨w.heap.size, 0, none⟩ = some (.string ds) ∧ W.cell? ⟨w.heap.size, 1, none⟩ = some (.int .i64 p) ∧ W.frozen? ⟨w.heap.size, 0, none⟩ = false ∧ W.frozen? ⟨w.heap.size, 1, none⟩ = false :=
  ⟨_, rfl, (Below.refl _ _).alloc (Nat.le_refl _) _, by simp, by simp [go_sem], by simp [go_sem], by simp [go_sem], by simp [go_sem]⟩

set_option maxHeartbeats 8000000 in
set_option maxRecDepth 100000 in
theorem l5least_any (x : Nat) (q : Nat) (E : Int) (hq : 0 < q) (hxq : x = fw false q E) (hself : double.order x x = some .eq) (hX : ∀ w, Calls Tryz.prog 81 #[.float .f64 x] w fun e w' =>
    ∃ ds pow, ExD ds pow q E ∧ ds.size ≤ 1100 ∧ -1100 ≤ pow ∧ pow ≤ 1100 ∧ e = .returned (.agg #[.string ds, .int .i64 pow]) ∧ Below w.heap.size w w') (w : World) :
    Calls Tryz.prog 77 #[.float .f64 x] w fun e w' => ∃ ds pow t p', ExD ds pow q E ∧ ds.size ≤ 1100 ∧ -1100 ≤ pow ∧ pow ≤ 1100 ∧ LeastD ds pow x t p' ∧ e = .returned (.agg #[.string t, .int .i64 p']) ∧ Below w.heap.size w w' := by
  have H3 : Hid _ := hX
  have HXQ : Hid (x = fw false q E ∧ double.order x x = some .eq ∧ 0 < q) := ⟨hxq, hself, hq⟩
  obtain ⟨Wr, hWr, hBr, hlr, r0, r1, g0, g1⟩ := boxed w ⟨#[]⟩ 0 121
  have HWr : Hid _ := hWr
  have HR0 : Hid _ := fun (_ : Unit) => And.intro hBr (And.intro hlr (And.intro r0 (And.intro r1 (And.intro g0 g1))))
  clear hX hWr hBr hlr r0 r1 g0 g1 hxq hself hq
  go_enter Tryz.func77, Tryz.ntmps77
  go_wp2_with fail
  rw [← HWr.out]
  refine (H3.out _).mono ?_
  rintro e w2 ⟨ds, pow, hd, hs, hp1, hp2, rfl, hb2⟩
  obtain ⟨Wd, hWd, hBd, hld, d0, d1, _, _⟩ := boxed w2 ds pow 121
  have HWd : Hid _ := hWd
  have HD : Hid _ := fun (_ : Unit) => hd
  have HRd : Hid (Below w.heap.size w Wd ∧ w.heap.size < Wd.heap.size ∧ Wd.cell? ⟨w.heap.size, 0, none⟩ = some (.string ⟨#[]⟩) ∧ Wd.cell? ⟨w.heap.size, 1, none⟩ = some (.int .i64 0) ∧ Wd.frozen? ⟨w.heap.size, 0, none⟩ = false ∧ Wd.frozen? ⟨w.heap.size, 1, none⟩ = false) := by
    obtain ⟨a1, a2, a3, a4, a5, a6⟩ := HR0.out ()
    have hb : Below Wr.heap.size Wr Wd := hb2.trans (hBd.mono hb2.size)
    exact ⟨a1.trans (hb.mono (by omega)), Nat.lt_of_lt_of_le a2 hb.size, (hb.cell (p := ⟨w.heap.size, 0, none⟩) a2).trans a3, (hb.cell (p := ⟨w.heap.size, 1, none⟩) a2).trans a4, (hb.frozen (p := ⟨w.heap.size, 0, none⟩) a2).trans a5, (hb.frozen (p := ⟨w.heap.size, 1, none⟩) a2).trans a6⟩
  have HDd : Hid _ := fun (_ : Unit) => And.intro hld (And.intro d0 d1)
  have hs1 := hd.1
  clear hd hb2 hBd hld d0 d1 hWd HR0 HWr H3
  go_wp2_with fail
  rw [← HWd.out]
  go_loopw [4] (fun vn wr => ∃ n : Nat, vn = .int .i64 (n : Int) ∧ 1 ≤ n ∧ n ≤ ds.size ∧ Hid (∀ k, 1 ≤ k → k < n → Rds x (padB ds k) pow = false ∧ ∀ u r, cutV ds pow k (decide (k < ds.size)) u r → Rds x u r = false) ∧ Hid (Below Wd.heap.size Wd wr)) (fun vn _ => ds.size + 1 - (intOf vn).toNat)
  case atStart => exact ⟨1, rfl, Nat.le_refl _, hs1, fun k h1 h2 => by omega, Below.refl _ _⟩
  case round =>
    obtain ⟨n, rfl, hn1, hn2, HN, HBn⟩ := hrel
    have hni : (n : Int) ≤ (ds.size : Int) := by omega
    have hsi : (ds.size : Int) ≤ 1100 := by omega
    have d0 : wr.cell? ⟨w2.heap.size, 0, none⟩ = some (.string ds) := (HBn.out.cell (p := ⟨w2.heap.size, 0, none⟩) (HDd.out ()).1).trans (HDd.out ()).2.1
    have d1 : wr.cell? ⟨w2.heap.size, 1, none⟩ = some (.int .i64 pow) := (HBn.out.cell (p := ⟨w2.heap.size, 1, none⟩) (HDd.out ()).1).trans (HDd.out ()).2.2
    go_wp2_with fail
    refine (l5cut_any ds pow n false hs (HD.out ()).2.1 (by omega) (by omega) (by omega) _).mono ?_
    rintro e w5 ⟨t1, p1, hc1, rfl, hb5⟩
    have e1 : t1 = padB ds n ∧ p1 = pow := by
      rcases hc1 with ⟨_, a, b⟩ | ⟨h, _⟩
      · exact ⟨a, b⟩
      · cases h
    obtain ⟨rfl, rfl⟩ := e1
    have hb5' : Below Wd.heap.size Wd w5 := HBn.out.trans (hb5.mono HBn.out.size)
    have hl5 : w2.heap.size < w5.heap.size := Nat.lt_of_lt_of_le (HDd.out ()).1 hb5'.size
    have HB5 : Hid (Below Wd.heap.size Wd w5) := hb5'
    have d05 : w5.cell? ⟨w2.heap.size, 0, none⟩ = some (.string ds) := (hb5'.cell (p := ⟨w2.heap.size, 0, none⟩) (HDd.out ()).1).trans (HDd.out ()).2.1
    have d15 : w5.cell? ⟨w2.heap.size, 1, none⟩ = some (.int .i64 p1) := (hb5'.cell (p := ⟨w2.heap.size, 1, none⟩) (HDd.out ()).1).trans (HDd.out ()).2.2
    have hps := padB_size ds n
    have HPG : Hid _ := padB_good ds n (HD.out ()).2.1
    clear hb5 hc1 d0 d1
    go_wp2_with fail
    refine (l5cut_any ds p1 n _ hs (HD.out ()).2.1 (by omega) (by omega) (by omega) _).mono ?_
    rintro e w6 ⟨t2, p2, hc2, rfl, hb6⟩
    have hz2 := cut5_size _ _ _ _ _ _ hc2
    have HC2 : Hid (cutV ds p1 n (decide (n < ds.size)) t2 p2) := hc2
    have HG2 : Hid _ := cutV_good _ _ _ _ _ _ (HD.out ()).2.1 hc2
    have hl6 : w5.heap.size < w6.heap.size := by have h := hb6.size; simp at h; omega
    have a0 := (hb6.cell (p := ⟨w5.heap.size, 0, none⟩) (by simp)).trans (by simp [go_sem] : _ = some (.string (padB ds n)))
    have a1 := (hb6.cell (p := ⟨w5.heap.size, 1, none⟩) (by simp)).trans (by simp [go_sem] : _ = some (.int .i64 p1))
    have HB6 : Hid (Below Wd.heap.size Wd w6) := (HB5.out.alloc HB5.out.size _).trans (hb6.mono (by have := HB5.out.size; simp; omega))
    clear hb6 hc2 d05 d15
    go_wp2_with fail
    refine (l5value_any (padB ds n) p1 (by omega) HPG.out (by omega) (by omega) _).mono ?_
    rintro e w7 ⟨rfl, hb7⟩
    have hl7 : w6.heap.size < w7.heap.size := by have h := hb7.size; simp at h; omega
    have HB7 : Hid (Below Wd.heap.size Wd w7) := (HB6.out.alloc HB6.out.size _).trans (hb7.mono (by have := HB6.out.size; simp; omega))
    have b0 := (hb7.cell (p := ⟨w6.heap.size, 0, none⟩) (by simp)).trans (by simp [go_sem] : _ = some (.string t2))
    have b1 := (hb7.cell (p := ⟨w6.heap.size, 1, none⟩) (by simp)).trans (by simp [go_sem] : _ = some (.int .i64 p2))
    have a07 := (hb7.cell (p := ⟨w5.heap.size, 0, none⟩) (by simp <;> omega)).trans (((Below.refl w6.heap.size w6).alloc (Nat.le_refl _) _).cell (p := ⟨w5.heap.size, 0, none⟩) hl6 |>.trans a0)
    have a17 := (hb7.cell (p := ⟨w5.heap.size, 1, none⟩) (by simp <;> omega)).trans (((Below.refl w6.heap.size w6).alloc (Nat.le_refl _) _).cell (p := ⟨w5.heap.size, 1, none⟩) hl6 |>.trans a1)
    obtain ⟨D1, hD1⟩ : ∃ D1, D1 = decW 10 (valN 10 (padB ds n).data.toList) (p1 - ((padB ds n).size : Int)) := ⟨_, rfl⟩
    obtain ⟨A, hA⟩ : ∃ A, A = Rds x (padB ds n) p1 := ⟨_, rfl⟩
    have hA' : (FloatKind.f64.format.order D1 x == some .eq) = A := by rw [hA, hD1]; rfl
    have HAE : Hid (A = Rds x (padB ds n) p1) := hA
    rw [← hD1]
    clear hb7 a0 a1 hA hD1
    go_wp2_with fail
    refine (l5value_any t2 p2 (by omega) HG2.out (by omega) (by omega) _).mono ?_
    rintro e w8 ⟨rfl, hb8⟩
    have HB8 : Hid (Below Wd.heap.size Wd w8) := HB7.out.trans (hb8.mono HB7.out.size)
    have hl8 : w7.heap.size ≤ w8.heap.size := hb8.size
    have b08 := (hb8.cell (p := ⟨w6.heap.size, 0, none⟩) hl7).trans b0
    have b18 := (hb8.cell (p := ⟨w6.heap.size, 1, none⟩) hl7).trans b1
    have hl57 : w5.heap.size < w7.heap.size := by omega
    have a08 := (hb8.cell (p := ⟨w5.heap.size, 0, none⟩) hl57).trans a07
    have a18 := (hb8.cell (p := ⟨w5.heap.size, 1, none⟩) hl57).trans a17
    have hl68 : w6.heap.size < w8.heap.size := by omega
    have hl58 : w5.heap.size < w8.heap.size := by omega
    have d08 : w8.cell? ⟨w2.heap.size, 0, none⟩ = some (.string ds) := (HB8.out.cell (p := ⟨w2.heap.size, 0, none⟩) (HDd.out ()).1).trans (HDd.out ()).2.1
    have d18 : w8.cell? ⟨w2.heap.size, 1, none⟩ = some (.int .i64 p1) := (HB8.out.cell (p := ⟨w2.heap.size, 1, none⟩) (HDd.out ()).1).trans (HDd.out ()).2.2
    obtain ⟨D2, hD2⟩ : ∃ D2, D2 = decW 10 (valN 10 t2.data.toList) (p2 - (t2.size : Int)) := ⟨_, rfl⟩
    obtain ⟨B, hB⟩ : ∃ B, B = Rds x t2 p2 := ⟨_, rfl⟩
    have hB' : (FloatKind.f64.format.order D2 x == some .eq) = B := by rw [hB, hD2]; rfl
    have HBE : Hid (B = Rds x t2 p2) := hB
    rw [← hD2]
    clear hb8 b0 b1 a07 a17 hB hD2
    obtain ⟨hRb, hRl, r0d, r1d, g0d, g1d⟩ := HRd.out
    have r0 : w8.cell? ⟨w.heap.size, 0, none⟩ = some (.string ⟨#[]⟩) := (HB8.out.cell (p := ⟨w.heap.size, 0, none⟩) hRl).trans r0d
    have r1 : w8.cell? ⟨w.heap.size, 1, none⟩ = some (.int .i64 0) := (HB8.out.cell (p := ⟨w.heap.size, 1, none⟩) hRl).trans r1d
    have g0 : w8.frozen? ⟨w.heap.size, 0, none⟩ = false := (HB8.out.frozen (p := ⟨w.heap.size, 0, none⟩) hRl).trans g0d
    have g1 : w8.frozen? ⟨w.heap.size, 1, none⟩ = false := (HB8.out.frozen (p := ⟨w.heap.size, 1, none⟩) hRl).trans g1d
    have hRl8 : w.heap.size < w8.heap.size := Nat.lt_of_lt_of_le hRl HB8.out.size
    have HRB : Hid (Below w.heap.size w w8) := hRb.trans (HB8.out.mono (by omega))
    have HROU : Hid _ := fun w => l5rounds_any ds p1 (n : Int) (by omega) (HD.out ()).2.1 w
    clear r0d r1d g0d g1d hRb
    cases A
    · cases B
      · have hend : n < ds.size := by
          apply Classical.byContradiction
          intro hge
          have hn : n = ds.size := by omega
          have hpad : padB ds n = ds := by
            unfold padB
            rw [if_neg hge, show n - ds.size = 0 by omega]
            show ds ++ ByteArray.empty = ds
            simp
          have h1 := HAE.out
          rw [hpad] at h1
          unfold Rds at h1
          rw [exD_reads ds p1 q E HXQ.out.2.2 (HD.out ()), ← HXQ.out.1, HXQ.out.2.1] at h1
          revert h1; decide
        have HN2 : Hid (∀ k, 1 ≤ k → k < n + 1 → Rds x (padB ds k) p1 = false ∧ ∀ u r, cutV ds p1 k (decide (k < ds.size)) u r → Rds x u r = false) := by
          intro k h1 h2
          by_cases hk : k < n
          · exact HN.out k h1 hk
          · obtain rfl : k = n := by omega
            refine ⟨HAE.out.symm, fun u r hu => ?_⟩
            obtain ⟨rfl, rfl⟩ := cutV_one _ _ _ _ _ _ _ _ hu HC2.out
            exact HBE.out.symm
        go_wp2
        exact ⟨⟨n + 1, rfl, by omega, by omega, HN2.out, HB8.out⟩, by simp only [intOf]; omega⟩
      · go_wp2
        refine bodyPost_ret (v := .agg #[.string t2, .int .i64 p2]) (by simp [results, Tryz.results77, go_sem, r0, r1]) rfl ⟨ds, p1, t2, p2, HD.out (), hs, hp1, hp2, ⟨n, t2, p2, hn1, hn2, HC2.out, HN.out, .inr ⟨HBE.out.symm, (fun h => by rw [← HAE.out] at h; cases h), rfl, rfl⟩⟩, rfl, (by repeat (first | exact HRB.out | with_reducible refine Below.alloc ?_ (by simp <;> omega) _ | with_reducible refine Below.setCell ?_ (by simp <;> omega) _))⟩
    · cases B
      · go_wp2
        refine bodyPost_ret (v := .agg #[.string (padB ds n), .int .i64 p1]) (by simp [results, Tryz.results77, go_sem, r0, r1]) rfl ⟨ds, p1, padB ds n, p1, HD.out (), hs, hp1, hp2, ⟨n, t2, p2, hn1, hn2, HC2.out, HN.out, .inl ⟨HAE.out.symm, (fun h => by rw [← HBE.out] at h; cases h), rfl, rfl⟩⟩, rfl, (by repeat (first | exact HRB.out | with_reducible refine Below.alloc ?_ (by simp <;> omega) _ | with_reducible refine Below.setCell ?_ (by simp <;> omega) _))⟩
      · obtain ⟨rb, hrb⟩ : ∃ rb, rb = roundsB ds (n : Int) := ⟨_, rfl⟩
        have HRBE : Hid (rb = roundsB ds (n : Int)) := hrb
        rw [← hrb] at HROU
        clear hrb
        cases rb
        · go_wp2_with (go_at_call 96; refine (HROU.out _).mono ?_; rintro e w9 ⟨rfl, rfl⟩)
          have hba := (Below.refl ((w8.setCell ⟨w.heap.size, 0, none⟩ (.string (padB ds n))).setCell ⟨w.heap.size, 1, none⟩ (.int .i64 p1)).heap.size ((w8.setCell ⟨w.heap.size, 0, none⟩ (.string (padB ds n))).setCell ⟨w.heap.size, 1, none⟩ (.int .i64 p1))).alloc (Nat.le_refl _) (.cells #[.string ds, .int .i64 p1] 121)
          have e0 := (hba.cell (p := ⟨w.heap.size, 0, none⟩) (by simpa using hRl8)).trans (by simp [go_sem, r0] : _ = some (.string (padB ds n)))
          have e1 := (hba.cell (p := ⟨w.heap.size, 1, none⟩) (by simpa using hRl8)).trans (by simp [go_sem, r1] : _ = some (.int .i64 p1))
          refine bodyPost_ret (v := .agg #[.string (padB ds n), .int .i64 p1]) (by simp [results, Tryz.results77, go_sem, e0, e1]) rfl ⟨ds, p1, padB ds n, p1, HD.out (), hs, hp1, hp2, ⟨n, t2, p2, hn1, hn2, HC2.out, HN.out, .inl ⟨HAE.out.symm, (fun _ => HRBE.out.symm), rfl, rfl⟩⟩, rfl, (by repeat (first | exact HRB.out | with_reducible refine Below.alloc ?_ (by simp <;> omega) _ | with_reducible refine Below.setCell ?_ (by simp <;> omega) _))⟩
        · go_wp2_with (go_at_call 96; refine (HROU.out _).mono ?_; rintro e w9 ⟨rfl, rfl⟩)
          have hba := (Below.refl ((w8.setCell ⟨w.heap.size, 0, none⟩ (.string t2)).setCell ⟨w.heap.size, 1, none⟩ (.int .i64 p2)).heap.size ((w8.setCell ⟨w.heap.size, 0, none⟩ (.string t2)).setCell ⟨w.heap.size, 1, none⟩ (.int .i64 p2))).alloc (Nat.le_refl _) (.cells #[.string ds, .int .i64 p1] 121)
          have e0 := (hba.cell (p := ⟨w.heap.size, 0, none⟩) (by simpa using hRl8)).trans (by simp [go_sem, r0] : _ = some (.string t2))
          have e1 := (hba.cell (p := ⟨w.heap.size, 1, none⟩) (by simpa using hRl8)).trans (by simp [go_sem, r1] : _ = some (.int .i64 p2))
          refine bodyPost_ret (v := .agg #[.string t2, .int .i64 p2]) (by simp [results, Tryz.results77, go_sem, e0, e1]) rfl ⟨ds, p1, t2, p2, HD.out (), hs, hp1, hp2, ⟨n, t2, p2, hn1, hn2, HC2.out, HN.out, .inr ⟨HBE.out.symm, (fun _ => HRBE.out.symm), rfl, rfl⟩⟩, rfl, (by repeat (first | exact HRB.out | with_reducible refine Below.alloc ?_ (by simp <;> omega) _ | with_reducible refine Below.setCell ?_ (by simp <;> omega) _))⟩
end Go.Proofs.YtmcjehjpblkfoaaGreatDoor

