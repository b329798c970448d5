import Derived.Test.YtpmccbkhkaoccaaGreatDoorB24
import Derived.Test.YtpmccbkhkaoccaaGreatDoorB15
import Derived.Test.YtpmccbkhkaoccaaGreatDoorB03
/- l5up of the specification, walked. -/
namespace Go.Proofs.YtpmccbkhkaoccaaGreatDoor
open Go.ChangeShapes Go.WideShapes Go.RowKit

theorem byte_up (c : UInt8) (h : c.toNat ≤ 57) : (UInt8.ofNat (c.toNat + 1)).toNat = c.toNat + 1 := by rw [UInt8.toNat_ofNat']; omega
set_option maxHeartbeats 2000000 in
set_option maxRecDepth 100000 in
theorem l5up_any (ds : ByteArray) (hs : ds.size ≤ 3000) (hg : good 10 ds.data.toList) (w : World) :
    Calls Tryz.prog 82 #[.string ds] w fun e w' => ∃ t more, UpD ds t more ∧ e = .returned (.tuple #[.string t, .bool more]) ∧ Below w.heap.size w w' := by
  obtain ⟨cap, W, hrun, hB, hlt, hcl, hfr⟩ := bytes_new w ds
  have HB : Hid _ := hB
  have HCL : Hid (UpSt ds w.heap.size ds.size W W) := ⟨Only.refl _ _, fun j h _ => hcl j h, fun j h hk => by omega, hfr⟩
  have HG : Hid (good 10 ds.data.toList) := hg
  have hs' : (ds.size : Int) ≤ 3000 := by omega
  clear hB hcl hfr hg
  go_enter Tryz.func82, Tryz.ntmps82
  go_wp2
  go_loopw [5] (fun vi wr => ∃ k : Nat, vi = .int .i64 ((k : Int) - 1) ∧ k ≤ ds.size ∧ Hid (UpSt ds w.heap.size k W wr) ∧ Hid (Nines ds.data.toList k)) (fun vi _ => (intOf vi + 1).toNat)
  case atStart => exact ⟨ds.size, rfl, Nat.le_refl _, HCL.out, by show Nines _ _; have := nines_start ds.data.toList; rw [data_len] at this; exact this⟩
  case round =>
    obtain ⟨k, rfl, hk, HS, HN⟩ := hrel
    cases k with
    | zero =>
      have hcv := HS.out.zeros cap
      have HU : Hid _ := up_none ds.data.toList HN.out
      have hz : (⟨(List.replicate ds.size (48 : UInt8)).toArray⟩ : ByteArray).size ≤ 3000 := by rw [← data_len]; simp; exact hs
      have HT : Hid (Below w.heap.size w wr) := HB.out.trans (HS.out.1.below (Nat.le_refl _))
      have HD : Hid (UpD ds (⟨#[49]⟩ ++ ⟨(List.replicate ds.size (48 : UInt8)).toArray⟩) true) := by
        have e : ((⟨#[49]⟩ : ByteArray) ++ ⟨(List.replicate ds.size (48 : UInt8)).toArray⟩).data.toList = (49 : UInt8) :: List.replicate ds.data.toList.length 48 := by
          rw [append_list, data_len]; rfl
        refine ⟨by rw [e]; exact HU.out.1, by rw [e]; exact HU.out.2, ?_⟩
        refine ⟨?_, fun _ => by have := nines_all _ HN.out; rw [data_len] at this; exact this⟩
        rw [append_size, if_pos rfl, Nat.add_comm]
        congr 1
        rw [← data_len]; simp
      generalize (⟨(List.replicate ds.size (48 : UInt8)).toArray⟩ : ByteArray) = Z at *
      go_wp2
      go_ret2
      exact ⟨_, true, HD.out, rfl, HT.out⟩
    | succ k =>
      have hkl : k < ds.size := by omega
      have hx := HS.out.2.1 k hkl (by omega)
      have hf := HS.out.2.2.2 k hkl
      obtain ⟨d1, d2, _⟩ := good_digit ds[k] (good_at 10 ds HG.out k hkl)
      by_cases h9 : ds[k].toNat = 57
      · have HS2 : Hid _ := HS.out.zero hkl
        have HN2 : Hid (Nines ds.data.toList k) := nines_step _ k (by rw [data_len]; exact hkl) HN.out h9
        rw [h9] at hx
        clear d1 d2
        go_wp2
        exact ⟨⟨k, rfl, by omega, HS2.out, HN2.out⟩, by simp only [intOf]; omega⟩
      · have hb := byte_up ds[k] d2
        have hcv := HS.out.text hkl (UInt8.ofNat (ds[k].toNat + 1)) cap
        have HU : Hid _ := up_found ds.data.toList k (by rw [data_len]; exact hkl) HG.out HN.out h9 (UInt8.ofNat (ds[k].toNat + 1)) hb
        rw [hb] at hcv
        have HD : Hid (UpD ds ⟨(ds.data.toList.take k ++ [UInt8.ofNat (ds[k].toNat + 1)] ++ List.replicate (ds.data.toList.length - (k + 1)) 48).toArray⟩ false) := by
          refine ⟨HU.out.1, HU.out.2, ?_, fun h => by cases h⟩
          rw [← data_len]
          show (ds.data.toList.take k ++ [UInt8.ofNat (ds[k].toNat + 1)] ++ List.replicate (ds.data.toList.length - (k + 1)) 48).length = _
          rw [List.length_append, List.length_append, List.length_take, List.length_replicate, data_len, List.length_singleton, if_neg (by decide)]; omega
        have HT : Hid (Below w.heap.size w wr) := HB.out.trans (HS.out.1.below (Nat.le_refl _))
        generalize (⟨(ds.data.toList.take k ++ [UInt8.ofNat (ds[k].toNat + 1)] ++ List.replicate (ds.data.toList.length - (k + 1)) 48).toArray⟩ : ByteArray) = Z at *
        obtain ⟨c, hc⟩ : ∃ c : Int, c = (ds[k].toNat : Int) := ⟨_, rfl⟩
        rw [show ((ds[k].toNat + 1 : Nat) : Int) = c + 1 by omega] at hcv
        rw [← hc] at hx
        have hc9 : ¬ c = 57 := by omega
        have hc0 : 48 ≤ c := by omega
        have hc1 : c ≤ 57 := by omega
        clear hc d1 d2 h9 hb
        go_wp2
        go_ret2
        exact ⟨Z, false, HD.out, rfl, HT.out.setCell (by simp) _⟩
end Go.Proofs.YtpmccbkhkaoccaaGreatDoor

/- l5cut of the specification. -/
namespace Go.Proofs.YtpmccbkhkaoccaaGreatDoor
open Go.ChangeShapes Go.WideShapes Go.RowKit

/-- The first n digits, zeros behind them where there are fewer. -/
def padB (ds : ByteArray) (n : Nat) : ByteArray := (if n < ds.size then ds.extract 0 n else ds) ++ zerosB (n - ds.size)
theorem padB_size (ds : ByteArray) (n : Nat) : (padB ds n).size = n := by
  unfold padB
  rw [append_size, zerosB_size]
  split
  · have : (ds.extract 0 n).size = n := by simp; omega
    omega
  · omega
theorem padB_good (ds : ByteArray) (n : Nat) (h : good 10 ds.data.toList) : good 10 (padB ds n).data.toList := by
  unfold padB
  rw [append_list]
  refine good_append _ _ ?_ (good_zeros _)
  split
  · intro c hc
    rw [Lib.extract_eq] at hc
    exact h c (List.mem_of_mem_drop (List.mem_of_mem_take hc))
  · exact h
/-- What l5cut answers. -/
def cutV (ds : ByteArray) (pow : Int) (n : Nat) (up : Bool) (t : ByteArray) (p' : Int) : Prop :=
  (up = false ∧ t = padB ds n ∧ p' = pow) ∨ (up = true ∧ ∃ more, UpD (padB ds n) t more ∧ p' = pow + (if more then 1 else 0))

set_option maxHeartbeats 4000000 in
set_option maxRecDepth 100000 in
theorem l5cut_plain (ds : ByteArray) (p : Int) (n : Nat) (hs : ds.size ≤ 1100) (hn : n ≤ 1600) (w : World) :
    Calls Tryz.prog 51 #[.agg #[.string ds, .int .i64 p], .int .i64 (n : Int), .bool false] w fun e w' => e = .returned (.agg #[.string (padB ds n), .int .i64 p]) ∧ Below w.heap.size w w' := by
  unfold padB
  have hs' : (ds.size : Int) ≤ 1100 := by omega
  by_cases h : n < ds.size
  · rw [if_pos h]
    have he : (ds.extract 0 n).size = n := by simp; omega
    have hz : n - ds.size = 0 := by omega
    rw [hz]
    have HZ : Hid (∀ w, Calls Tryz.prog 54 #[.int .i64 0] w fun e w' => e = .returned (.string (zerosB 0)) ∧ w' = w.alloc (.cells (tcells (zerosL 0) 0).toArray 5)) := fun w => zeros_int 0 (by omega) (by omega) w
    have hz0 := zerosB_size 0
    generalize zerosB 0 = Z at *
    generalize (tcells (zerosL 0) 0).toArray = C at *
    go_enter Tryz.func51, Tryz.ntmps51
    go_wp2_with fail
    refine (HZ.out _).mono ?_
    rintro e w' ⟨rfl, rfl⟩
    go_wp2
    refine bodyPost_ret (v := .agg #[.string (ds.extract 0 n ++ Z), .int .i64 p]) (by simp [results, Tryz.results51, go_sem]) rfl ⟨rfl, (by repeat (first | with_reducible exact Below.refl _ _ | with_reducible refine Below.alloc ?_ (by simp <;> omega) _ | with_reducible refine Below.drew ?_ | with_reducible refine below_drewN ?_ _ | with_reducible refine Below.setCell ?_ (by simp <;> omega) _))⟩
  · rw [if_neg h]
    have hn' : (ds.size : Int) ≤ (n : Int) := by omega
    have HZ : Hid (∀ w, Calls Tryz.prog 54 #[.int .i64 ((n : Int) - (ds.size : Int))] w fun e w' => e = .returned (.string (zerosB (n - ds.size))) ∧ w' = w.alloc (.cells (tcells (zerosL (n - ds.size)) (n - ds.size)).toArray 5)) := fun w => by
      have := zeros_int ((n : Int) - (ds.size : Int)) (by omega) (by omega) w
      rw [show ((n : Int) - (ds.size : Int)).toNat = n - ds.size by omega] at this
      exact this
    have hz0 : ((zerosB (n - ds.size)).size : Int) ≤ 1600 := by rw [zerosB_size]; omega
    generalize zerosB (n - ds.size) = Z at *
    generalize (tcells (zerosL (n - ds.size)) (n - ds.size)).toArray = C at *
    clear h
    go_enter Tryz.func51, Tryz.ntmps51
    go_wp2_with fail
    refine (HZ.out _).mono ?_
    rintro e w' ⟨rfl, rfl⟩
    go_wp2
    refine bodyPost_ret (v := .agg #[.string (ds ++ Z), .int .i64 p]) (by simp [results, Tryz.results51, go_sem]) rfl ⟨rfl, (by repeat (first | with_reducible exact Below.refl _ _ | with_reducible refine Below.alloc ?_ (by simp <;> omega) _ | with_reducible refine Below.drew ?_ | with_reducible refine below_drewN ?_ _ | with_reducible refine Below.setCell ?_ (by simp <;> omega) _))⟩
theorem cutV_one (ds : ByteArray) (pow : Int) (n : Nat) (up : Bool) (t t' : ByteArray) (p p' : Int) (h : cutV ds pow n up t p) (h' : cutV ds pow n up t' p') : t = t' ∧ p = p' := by
  rcases h with ⟨rfl, rfl, rfl⟩ | ⟨rfl, m, h, rfl⟩
  · rcases h' with ⟨_, rfl, rfl⟩ | ⟨h, _⟩
    · exact ⟨rfl, rfl⟩
    · cases h
  · rcases h' with ⟨h, _⟩ | ⟨_, m', h', rfl⟩
    · cases h
    · obtain ⟨rfl, rfl⟩ := upD_one _ _ _ _ _ h h'
      exact ⟨rfl, rfl⟩
theorem cut5_size (ds : ByteArray) (pow : Int) (n : Nat) (up : Bool) (t : ByteArray) (p' : Int) (h : cutV ds pow n up t p') : n ≤ t.size ∧ t.size ≤ n + 1 ∧ pow ≤ p' ∧ p' ≤ pow + 1 := by
  have := padB_size ds n
  rcases h with ⟨_, rfl, rfl⟩ | ⟨_, more, ⟨_, _, h, _⟩, rfl⟩
  · omega
  · cases more
    · simp at h ⊢; omega
    · simp at h ⊢; omega
theorem cutV_good (ds : ByteArray) (pow : Int) (n : Nat) (up : Bool) (t : ByteArray) (p : Int) (hg : good 10 ds.data.toList) (h : cutV ds pow n up t p) : good 10 t.data.toList := by
  rcases h with ⟨_, rfl, _⟩ | ⟨_, m, h, _⟩
  · exact padB_good ds n hg
  · exact h.1
end Go.Proofs.YtpmccbkhkaoccaaGreatDoor

/- l5cut of the specification: with 1 more in the last place. -/
namespace Go.Proofs.YtpmccbkhkaoccaaGreatDoor
open Go.ChangeShapes Go.WideShapes Go.RowKit

set_option maxHeartbeats 4000000 in
set_option maxRecDepth 100000 in
theorem l5cut_walk (ds P : ByteArray) (p : Int) (n : Nat) (Z : ByteArray) (C : Array Value) (zi : Int) (w : World) (hs' : (ds.size : Int) ≤ 1100) (hn' : (n : Int) ≤ 1600) (hz0 : (Z.size : Int) ≤ 1600) (hp1 : -100000 ≤ p) (hp2 : p ≤ 100000)
    (hcase : (n < ds.size ∧ (ds.extract 0 n).size = n ∧ zi = 0 ∧ P = ds.extract 0 n ++ Z) ∨ ((ds.size : Int) ≤ (n : Int) ∧ zi = (n : Int) - (ds.size : Int) ∧ P = ds ++ Z))
    (HZ0 : ∀ w, Calls Tryz.prog 54 #[.int .i64 zi] w fun e w' => e = .returned (.string Z) ∧ w' = w.alloc (.cells C 5))
    (HU0 : ∀ w, Calls Tryz.prog 82 #[.string P] w fun e w' => ∃ t more, UpD P t more ∧ e = .returned (.tuple #[.string t, .bool more]) ∧ Below w.heap.size w w') :
    Calls Tryz.prog 51 #[.agg #[.string ds, .int .i64 p], .int .i64 (n : Int), .bool true] w fun e w' => ∃ t more, UpD P t more ∧ e = .returned (.agg #[.string t, .int .i64 (p + (if more then 1 else 0))]) ∧ Below w.heap.size w w' := by
  have HZ : Hid _ := HZ0
  have HU : Hid _ := HU0
  clear HZ0 HU0
  rcases hcase with ⟨h, he, rfl, rfl⟩ | ⟨h, rfl, rfl⟩
  all_goals
    go_enter Tryz.func51, Tryz.ntmps51
    go_wp2_with fail
    refine (HZ.out _).mono ?_
    rintro e w1 ⟨rfl, rfl⟩
    go_wp2_with fail
    refine (HU.out _).mono ?_
    rintro e w2 ⟨t, more, hup, rfl, hb⟩
    have HUP : Hid _ := fun (_ : Unit) => hup
    have r0 := (hb.cell (p := ⟨w.heap.size + 1, 0, none⟩) (by simp)).trans (by simp [go_sem] : _ = some (.string ⟨#[]⟩))
    have r1 := (hb.cell (p := ⟨w.heap.size + 1, 1, none⟩) (by simp)).trans (by simp [go_sem] : _ = some (.int .i64 0))
    have g0 := (hb.frozen (p := ⟨w.heap.size + 1, 0, none⟩) (by simp)).trans (by simp [go_sem] : _ = false)
    have g1 := (hb.frozen (p := ⟨w.heap.size + 1, 1, none⟩) (by simp)).trans (by simp [go_sem] : _ = false)
    have o1 := (hb.cell (p := ⟨w.heap.size + 3, 1, none⟩) (by simp)).trans (by simp [go_sem] : _ = some (.int .i64 p))
    obtain ⟨so, o0⟩ : ∃ so, w2.cell? ⟨w.heap.size + 3, 0, none⟩ = some (.string so) := by
      first
        | (refine ⟨ds.extract 0 n ++ Z, (hb.cell (p := ⟨w.heap.size + 3, 0, none⟩) (by simp)).trans ?_⟩; simp [go_sem]; done)
        | (refine ⟨ds ++ Z, (hb.cell (p := ⟨w.heap.size + 3, 0, none⟩) (by simp)).trans ?_⟩; simp [go_sem]; done)
    have q0 := (hb.frozen (p := ⟨w.heap.size + 3, 0, none⟩) (by simp)).trans (by simp [go_sem] : _ = false)
    have q1 := (hb.frozen (p := ⟨w.heap.size + 3, 1, none⟩) (by simp)).trans (by simp [go_sem] : _ = false)
    have HB : Hid (Below w.heap.size w w2) := ((((((Below.refl _ _).alloc (Nat.le_refl _) _).alloc (by simp) _).alloc (by simp; omega) _).alloc (by simp; omega) _)).trans (hb.mono (by simp; omega))
    clear hb hup HU HZ
    cases more
    · go_wp2
      refine bodyPost_ret (v := .agg #[.string t, .int .i64 p]) (by simp [results, Tryz.results51, go_sem, r0, r1]) rfl ⟨t, false, HUP.out (), by simp, (by repeat (first | exact HB.out | with_reducible refine Below.setCell ?_ (by simp <;> omega) _))⟩
    · go_wp2
      refine bodyPost_ret (v := .agg #[.string t, .int .i64 (p + 1)]) (by simp [results, Tryz.results51, go_sem, r0, r1]) rfl ⟨t, true, HUP.out (), by simp, (by repeat (first | exact HB.out | with_reducible refine Below.setCell ?_ (by simp <;> omega) _))⟩
theorem l5cut_any (ds : ByteArray) (p : Int) (n : Nat) (up : Bool) (hs : ds.size ≤ 1100) (hg : good 10 ds.data.toList) (hn : n ≤ 1600) (hp1 : -100000 ≤ p) (hp2 : p ≤ 100000) (w : World) :
    Calls Tryz.prog 51 #[.agg #[.string ds, .int .i64 p], .int .i64 (n : Int), .bool up] w fun e w' => ∃ t p', cutV ds p n up t p' ∧ e = .returned (.agg #[.string t, .int .i64 p']) ∧ Below w.heap.size w w' := by
  cases up
  · refine (l5cut_plain ds p n hs hn w).mono ?_
    rintro e w' ⟨rfl, hb⟩
    exact ⟨_, _, .inl ⟨rfl, rfl, rfl⟩, rfl, hb⟩
  · have hz : ((zerosB (n - ds.size)).size : Int) ≤ 1600 := by rw [zerosB_size]; omega
    have hsz := padB_size ds n
    refine (l5cut_walk ds (padB ds n) p n (zerosB (n - ds.size)) _ (((n - ds.size : Nat)) : Int) w (by omega) (by omega) hz hp1 hp2 ?_ (fun w => zeros_int ((n - ds.size : Nat) : Int) (by omega) (by omega) w) (fun w => l5up_any (padB ds n) (by omega) (padB_good ds n hg) w)).mono ?_
    · by_cases h : n < ds.size
      · exact .inl ⟨h, by simp; omega, by omega, by unfold padB; rw [if_pos h]⟩
      · exact .inr ⟨by omega, by omega, by unfold padB; rw [if_neg h]⟩
    · rintro e w' ⟨t, more, hu, rfl, hb⟩
      exact ⟨_, _, .inr ⟨rfl, more, hu, rfl⟩, rfl, hb⟩
end Go.Proofs.YtpmccbkhkaoccaaGreatDoor

/- l5rounds of the specification. -/
namespace Go.Proofs.YtpmccbkhkaoccaaGreatDoor
open Go.ChangeShapes Go.WideShapes Go.RowKit

/-- Whether the digits behind the first n round up. -/
def roundsB (ds : ByteArray) (n : Int) : Bool :=
  if h : 0 ≤ n ∧ n < (ds.size : Int) then
    (if ds[n.toNat].toNat ≠ 53 ∨ n.toNat + 1 < ds.size then decide (53 ≤ ds[n.toNat].toNat) else if h2 : 0 < n.toNat then decide ((ds[n.toNat - 1].toNat - 48) % 2 = 1) else false)
  else false
set_option maxHeartbeats 1000000 in
set_option maxRecDepth 100000 in
theorem l5rounds_out (ds : ByteArray) (p n : Int) (hs : ds.size ≤ 3000) (hn : ¬ (0 ≤ n ∧ n < (ds.size : Int))) (w : World) :
    Calls Tryz.prog 53 #[.agg #[.string ds, .int .i64 p], .int .i64 n] w fun e w' => e = .returned (.bool false) ∧ w' = w.alloc (.cells #[.string ds, .int .i64 p] 70) := by
  have hs' : (ds.size : Int) ≤ 3000 := by omega
  by_cases h : n < 0
  · go_enter Tryz.func53, Tryz.ntmps53
    go_wp2
    go_ret
    exact ⟨rfl, rfl⟩
  · have h2 : (ds.size : Int) ≤ n := by omega
    clear hn
    go_enter Tryz.func53, Tryz.ntmps53
    go_wp2
    go_ret
    exact ⟨rfl, rfl⟩
set_option maxHeartbeats 1000000 in
set_option maxRecDepth 100000 in
theorem l5rounds_in (ds : ByteArray) (p : Int) (k : Nat) (hs : ds.size ≤ 3000) (hk : k < ds.size) (hg : good 10 ds.data.toList) (w : World) :
    Calls Tryz.prog 53 #[.agg #[.string ds, .int .i64 p], .int .i64 (k : Int)] w fun e w' => e = .returned (.bool (roundsB ds (k : Int))) ∧ w' = w.alloc (.cells #[.string ds, .int .i64 p] 70) := by
  have hs' : (ds.size : Int) ≤ 3000 := by omega
  have HR : Hid (roundsB ds (k : Int) = if ds[k].toNat ≠ 53 ∨ k + 1 < ds.size then decide (53 ≤ ds[k].toNat) else if h2 : 0 < k then decide ((ds[k - 1].toNat - 48) % 2 = 1) else false) := by
    show _ = _
    unfold roundsB
    rw [dif_pos ⟨by omega, by omega⟩]
    rfl
  by_cases h1 : ds[k].toNat = 53
  · by_cases h2 : k + 1 < ds.size
    · have HV : Hid (roundsB ds (k : Int) = true) := by show _ = _; rw [HR.out, if_pos (.inr h2), decide_eq_true (by omega)]
      have h1' : (ds[k].toNat : Int) = 53 := by omega
      rw [HV.out]
      clear hg HR HV
      go_enter Tryz.func53, Tryz.ntmps53
      go_wp2
      go_ret
      exact ⟨rfl, rfl⟩
    · have h1' : (ds[k].toNat : Int) = 53 := by omega
      have h2' : ¬ ((k : Int) + 1 < (ds.size : Int)) := by omega
      by_cases h3 : 0 < k
      · obtain ⟨j, rfl⟩ : ∃ j, k = j + 1 := ⟨k - 1, by omega⟩
        have hj : j < ds.size := by omega
        obtain ⟨d1, d2, _⟩ := good_digit ds[j] (good_at 10 ds hg j hj)
        have HV : Hid (roundsB ds ((j + 1 : Nat) : Int) = ((((ds[j].toNat : Int) - 48) % 2) == 1)) := by
          show _ = _
          rw [HR.out, if_neg (by intro h; rcases h with h | h <;> omega), dif_pos (by omega)]
          simp only [Nat.add_sub_cancel]
          by_cases h4 : (ds[j].toNat - 48) % 2 = 1
          · rw [decide_eq_true h4]; symm; exact beq_iff_eq.2 (by omega)
          · rw [decide_eq_false h4]; symm; exact beq_eq_false_iff_ne.2 (by omega)
        have d1' : 48 ≤ (ds[j].toNat : Int) := by omega
        have d2' : (ds[j].toNat : Int) ≤ 57 := by omega
        rw [HV.out]
        clear hg HR h2 HV
        go_enter Tryz.func53, Tryz.ntmps53
        go_wp2
        go_ret
        exact ⟨rfl, rfl⟩
      · obtain rfl : k = 0 := by omega
        have HV : Hid (roundsB ds ((0 : Nat) : Int) = false) := by
          show _ = _
          rw [HR.out, if_neg (by intro h; rcases h with h | h <;> omega), dif_neg (by omega)]
        rw [HV.out]
        have hne : decide (ds = ByteArray.empty) = false := decide_eq_false (fun h => by rw [h] at hk; exact absurd hk (by decide))
        have hs1 : (ds.size : Int) = 1 := by omega
        clear hg HR h2 h3 HV h2'
        go_enter Tryz.func53, Tryz.ntmps53
        go_wp2
        go_ret
        exact ⟨rfl, rfl⟩
  · have HV : Hid (roundsB ds (k : Int) = decide (53 ≤ (ds[k].toNat : Int))) := by
      show _ = _
      rw [HR.out, if_pos (.inl h1)]
      by_cases h4 : 53 ≤ ds[k].toNat
      · rw [decide_eq_true h4, decide_eq_true (by omega)]
      · rw [decide_eq_false h4, decide_eq_false (by omega)]
    have h1' : ((ds[k].toNat : Int) == 53) = false := beq_eq_false_iff_ne.2 (by omega)
    have h1x : ¬ (ds[k].toNat : Int) = 53 := by omega
    rw [HV.out]
    clear hg HR h1 HV
    go_enter Tryz.func53, Tryz.ntmps53
    go_wp2
    go_ret
    exact ⟨rfl, rfl⟩
theorem l5rounds_any (ds : ByteArray) (p n : Int) (hs : ds.size ≤ 3000) (hg : good 10 ds.data.toList) (w : World) :
    Calls Tryz.prog 53 #[.agg #[.string ds, .int .i64 p], .int .i64 n] w fun e w' => e = .returned (.bool (roundsB ds n)) ∧ w' = w.alloc (.cells #[.string ds, .int .i64 p] 70) := by
  by_cases h : 0 ≤ n ∧ n < (ds.size : Int)
  · obtain ⟨k, rfl⟩ := Int.eq_ofNat_of_zero_le h.1
    exact l5rounds_in ds p k hs (by omega) hg w
  · have e : roundsB ds n = false := by unfold roundsB; rw [dif_neg h]
    rw [e]
    exact l5rounds_out ds p n hs h w
end Go.Proofs.YtpmccbkhkaoccaaGreatDoor

