import Derived.Test.YtoedefjngipeiaaGreatDoorA19
import Derived.Test.YtoedefjngipeiaaGreatDoorA09
import Derived.Test.YtoedefjngipeiaaGreatDoorA03
import Derived.Deep.RegionWith
/- l5up of the specification, walked. -/
namespace Go.Proofs.YtoedefjngipeiaaGreatDoor
open Go.ChangeShapes Go.WideShapes Go.RowKit

theorem byte_up (c : UInt8) (h : c.toNat ≤ 57) : (UInt8.ofNat (c.toNat + 1)).toNat = c.toNat + 1 := by rw [UInt8.toNat_ofNat']; omega
set_option maxHeartbeats 2000000 in
set_option maxRecDepth 100000 in
theorem l5up_any (ds : ByteArray) (hs : ds.size ≤ 3000) (hg : good 10 ds.data.toList) (w : World) :
    Calls Tryz.prog 104 #[.string ds] w fun e w' => ∃ t more, UpD ds t more ∧ e = .returned (.tuple #[.string t, .bool more]) ∧ Below w.heap.size w w' := by
  obtain ⟨cap, W, hrun, hB, hlt, hcl, hfr⟩ := bytes_new w ds
  have HB : Hid _ := hB
  have HCL : Hid (UpSt ds w.heap.size ds.size W W) := ⟨Only.refl _ _, fun j h _ => hcl j h, fun j h hk => by omega, hfr⟩
  have HG : Hid (good 10 ds.data.toList) := hg
  have hs' : (ds.size : Int) ≤ 3000 := by omega
  clear hB hcl hfr hg
  go_enter Tryz.func104, Tryz.ntmps104
  go_wp2
  go_loopw [5] (fun vi wr => ∃ k : Nat, vi = .int .i64 ((k : Int) - 1) ∧ k ≤ ds.size ∧ Hid (UpSt ds w.heap.size k W wr) ∧ Hid (Nines ds.data.toList k)) (fun vi _ => (intOf vi + 1).toNat)
  case atStart => exact ⟨ds.size, rfl, Nat.le_refl _, HCL.out, by show Nines _ _; have := nines_start ds.data.toList; rw [data_len] at this; exact this⟩
  case round =>
    obtain ⟨k, rfl, hk, HS, HN⟩ := hrel
    cases k with
    | zero =>
      have hcv := HS.out.zeros cap
      have HU : Hid _ := up_none ds.data.toList HN.out
      have hz : (⟨(List.replicate ds.size (48 : UInt8)).toArray⟩ : ByteArray).size ≤ 3000 := by rw [← data_len]; simp; exact hs
      have HT : Hid (Below w.heap.size w wr) := HB.out.trans (HS.out.1.below (Nat.le_refl _))
      have HD : Hid (UpD ds (⟨#[49]⟩ ++ ⟨(List.replicate ds.size (48 : UInt8)).toArray⟩) true) := by
        have e : ((⟨#[49]⟩ : ByteArray) ++ ⟨(List.replicate ds.size (48 : UInt8)).toArray⟩).data.toList = (49 : UInt8) :: List.replicate ds.data.toList.length 48 := by
          rw [append_list, data_len]; rfl
        refine ⟨by rw [e]; exact HU.out.1, by rw [e]; exact HU.out.2, ?_⟩
        refine ⟨?_, fun _ => by have := nines_all _ HN.out; rw [data_len] at this; exact this⟩
        rw [append_size, if_pos rfl, Nat.add_comm]
        congr 1
        rw [← data_len]; simp
      generalize (⟨(List.replicate ds.size (48 : UInt8)).toArray⟩ : ByteArray) = Z at *
      go_wp2
      go_ret2
      exact ⟨_, true, HD.out, rfl, HT.out⟩
    | succ k =>
      have hkl : k < ds.size := by omega
      have hx := HS.out.2.1 k hkl (by omega)
      have hf := HS.out.2.2.2 k hkl
      obtain ⟨d1, d2, _⟩ := good_digit ds[k] (good_at 10 ds HG.out k hkl)
      by_cases h9 : ds[k].toNat = 57
      · have HS2 : Hid _ := HS.out.zero hkl
        have HN2 : Hid (Nines ds.data.toList k) := nines_step _ k (by rw [data_len]; exact hkl) HN.out h9
        rw [h9] at hx
        clear d1 d2
        go_wp2
        exact ⟨⟨k, rfl, by omega, HS2.out, HN2.out⟩, by simp only [intOf]; omega⟩
      · have hb := byte_up ds[k] d2
        have hcv := HS.out.text hkl (UInt8.ofNat (ds[k].toNat + 1)) cap
        have HU : Hid _ := up_found ds.data.toList k (by rw [data_len]; exact hkl) HG.out HN.out h9 (UInt8.ofNat (ds[k].toNat + 1)) hb
        rw [hb] at hcv
        have HD : Hid (UpD ds ⟨(ds.data.toList.take k ++ [UInt8.ofNat (ds[k].toNat + 1)] ++ List.replicate (ds.data.toList.length - (k + 1)) 48).toArray⟩ false) := by
          refine ⟨HU.out.1, HU.out.2, ?_, fun h => by cases h⟩
          rw [← data_len]
          show (ds.data.toList.take k ++ [UInt8.ofNat (ds[k].toNat + 1)] ++ List.replicate (ds.data.toList.length - (k + 1)) 48).length = _
          rw [List.length_append, List.length_append, List.length_take, List.length_replicate, data_len, List.length_singleton, if_neg (by decide)]; omega
        have HT : Hid (Below w.heap.size w wr) := HB.out.trans (HS.out.1.below (Nat.le_refl _))
        generalize (⟨(ds.data.toList.take k ++ [UInt8.ofNat (ds[k].toNat + 1)] ++ List.replicate (ds.data.toList.length - (k + 1)) 48).toArray⟩ : ByteArray) = Z at *
        obtain ⟨c, hc⟩ : ∃ c : Int, c = (ds[k].toNat : Int) := ⟨_, rfl⟩
        rw [show ((ds[k].toNat + 1 : Nat) : Int) = c + 1 by omega] at hcv
        rw [← hc] at hx
        have hc9 : ¬ c = 57 := by omega
        have hc0 : 48 ≤ c := by omega
        have hc1 : c ≤ 57 := by omega
        clear hc d1 d2 h9 hb
        go_wp2
        go_ret2
        exact ⟨Z, false, HD.out, rfl, HT.out.setCell (by simp) _⟩
end Go.Proofs.YtoedefjngipeiaaGreatDoor

/- l5plain of the specification: with a point inside. -/
namespace Go.Proofs.YtoedefjngipeiaaGreatDoor
open Go.ChangeShapes Go.WideShapes Go.RowKit

set_option maxHeartbeats 1000000 in
set_option maxRecDepth 100000 in
theorem l5plain_mid (ds : ByteArray) (k : Nat) (hs : ds.size ≤ 1100) (hk : 0 < k) (hk2 : k < ds.size) (w : World) :
    Calls Tryz.prog 78 #[.agg #[.string ds, .int .i64 (k : Int)]] w fun e w' => e = .returned (.string (ds.extract 0 k ++ dotB ++ ds.extract k ds.size)) ∧ Below w.heap.size w w' := by
  have hs' : (ds.size : Int) ≤ 1100 := by omega
  go_enter Tryz.func78, Tryz.ntmps78
  go_wp2
  go_quiet (fail)
  go_wp2
  go_ret
  exact ⟨rfl, below_drewN ((Below.refl _ _).alloc (Nat.le_refl _) _) _⟩
end Go.Proofs.YtoedefjngipeiaaGreatDoor

/- l5plain of the specification. -/
namespace Go.Proofs.YtoedefjngipeiaaGreatDoor
open Go.ChangeShapes Go.WideShapes Go.RowKit

theorem zeros_int (x : Int) (h0 : 0 ≤ x) (h1 : x ≤ 100000) (w : World) : Calls Tryz.prog 52 #[.int .i64 x] w fun e w' => e = .returned (.string (zerosB x.toNat)) ∧ w' = w.alloc (.cells (tcells (zerosL x.toNat) x.toNat).toArray 5) := by
  have := l5zeros_at x.toNat (by omega) w
  rw [Int.toNat_of_nonneg h0] at this
  exact this

set_option maxHeartbeats 4000000 in
set_option maxRecDepth 100000 in
theorem l5plain_low (ds : ByteArray) (p : Int) (hs : ds.size ≤ 1100) (hp : p ≤ 0) (hp2 : -1100 ≤ p) (w : World) :
    Calls Tryz.prog 78 #[.agg #[.string ds, .int .i64 p]] w fun e w' => e = .returned (.string (⟨#[48, 46]⟩ ++ zerosB (-p).toNat ++ ds)) ∧ Below w.heap.size w w' := by
  have HZ : Hid (∀ w, Calls Tryz.prog 52 #[.int .i64 (IntKind.i64.wrap (-p))] w fun e w' => e = .returned (.string (zerosB (-p).toNat)) ∧ w' = w.alloc (.cells (tcells (zerosL (-p).toNat) (-p).toNat).toArray 5)) := fun w => by
    rw [show IntKind.i64.wrap (-p) = -p by rw [IntKind.wrap_i64]; omega]
    exact zeros_int (-p) (by omega) (by omega) w
  have hzs : ((zerosB (-p).toNat).size : Int) ≤ 1100 := by rw [zerosB_size]; omega
  have hs' : (ds.size : Int) ≤ 1100 := by omega
  generalize zerosB (-p).toNat = Z at *
  generalize (tcells (zerosL (-p).toNat) (-p).toNat).toArray = C at *
  clear hs
  go_enter Tryz.func78, Tryz.ntmps78
  go_wp2
  go_region_with (go_at_call 52; refine (HZ.out _).mono ?_; rintro e w' ⟨rfl, rfl⟩)
  all_goals
    go_wp2
    go_ret
    exact ⟨rfl, (by repeat (first | with_reducible exact Below.refl _ _ | with_reducible refine Below.alloc ?_ (by simp <;> omega) _ | with_reducible refine Below.drew ?_ | with_reducible refine below_drewN ?_ _ | with_reducible refine Below.setCell ?_ (by simp <;> omega) _))⟩
set_option maxHeartbeats 4000000 in
set_option maxRecDepth 100000 in
theorem l5plain_high (ds : ByteArray) (p : Int) (hs : ds.size ≤ 1100) (hp : (ds.size : Int) ≤ p) (hp0 : 0 < p) (hp2 : p ≤ 1100) (w : World) :
    Calls Tryz.prog 78 #[.agg #[.string ds, .int .i64 p]] w fun e w' => e = .returned (.string (ds ++ zerosB (p.toNat - ds.size))) ∧ Below w.heap.size w w' := by
  have HZ : Hid (∀ w, Calls Tryz.prog 52 #[.int .i64 (IntKind.i64.wrap (p - (ds.size : Int)))] w fun e w' => e = .returned (.string (zerosB (p.toNat - ds.size))) ∧ w' = w.alloc (.cells (tcells (zerosL (p.toNat - ds.size)) (p.toNat - ds.size)).toArray 5)) := fun w => by
    rw [show IntKind.i64.wrap (p - (ds.size : Int)) = p - (ds.size : Int) by rw [IntKind.wrap_i64]; omega]
    have := zeros_int (p - (ds.size : Int)) (by omega) (by omega) w
    rw [show (p - (ds.size : Int)).toNat = p.toNat - ds.size by omega] at this
    exact this
  have hzs : ((zerosB (p.toNat - ds.size)).size : Int) ≤ 1100 := by rw [zerosB_size]; omega
  have hs' : (ds.size : Int) ≤ 1100 := by omega
  generalize zerosB (p.toNat - ds.size) = Z at *
  generalize (tcells (zerosL (p.toNat - ds.size)) (p.toNat - ds.size)).toArray = C at *
  clear hs
  go_enter Tryz.func78, Tryz.ntmps78
  go_wp2
  go_region_with (go_at_call 52; refine (HZ.out _).mono ?_; rintro e w' ⟨rfl, rfl⟩)
  all_goals
    go_wp2
    go_ret
    exact ⟨rfl, (by repeat (first | with_reducible exact Below.refl _ _ | with_reducible refine Below.alloc ?_ (by simp <;> omega) _ | with_reducible refine Below.drew ?_ | with_reducible refine below_drewN ?_ _ | with_reducible refine Below.setCell ?_ (by simp <;> omega) _))⟩
theorem l5plain_any (ds : ByteArray) (p : Int) (hs : ds.size ≤ 1100) (hp : -1100 ≤ p) (hp2 : p ≤ 1100) (w : World) :
    Calls Tryz.prog 78 #[.agg #[.string ds, .int .i64 p]] w fun e w' => e = .returned (.string (plainB ds p)) ∧ Below w.heap.size w w' := by
  unfold plainB
  by_cases h1 : p ≤ 0
  · rw [if_pos h1]; exact l5plain_low ds p hs h1 hp w
  · rw [if_neg h1]
    by_cases h2 : (ds.size : Int) ≤ p
    · rw [if_pos h2]; exact l5plain_high ds p hs h2 (by omega) hp2 w
    · rw [if_neg h2]
      have := l5plain_mid ds p.toNat hs (by omega) (by omega) w
      rw [Int.toNat_of_nonneg (by omega)] at this
      exact this
end Go.Proofs.YtoedefjngipeiaaGreatDoor

/- l5cut of the specification. -/
namespace Go.Proofs.YtoedefjngipeiaaGreatDoor
open Go.ChangeShapes Go.WideShapes Go.RowKit

/-- The first n digits, zeros behind them where there are fewer. -/
def padB (ds : ByteArray) (n : Nat) : ByteArray := (if n < ds.size then ds.extract 0 n else ds) ++ zerosB (n - ds.size)
theorem padB_size (ds : ByteArray) (n : Nat) : (padB ds n).size = n := by
  unfold padB
  rw [append_size, zerosB_size]
  split
  · have : (ds.extract 0 n).size = n := by simp; omega
    omega
  · omega
theorem padB_good (ds : ByteArray) (n : Nat) (h : good 10 ds.data.toList) : good 10 (padB ds n).data.toList := by
  unfold padB
  rw [append_list]
  refine good_append _ _ ?_ (good_zeros _)
  split
  · intro c hc
    rw [Lib.extract_eq] at hc
    exact h c (List.mem_of_mem_drop (List.mem_of_mem_take hc))
  · exact h
/-- What l5cut answers. -/
def cutV (ds : ByteArray) (pow : Int) (n : Nat) (up : Bool) (t : ByteArray) (p' : Int) : Prop :=
  (up = false ∧ t = padB ds n ∧ p' = pow) ∨ (up = true ∧ ∃ more, UpD (padB ds n) t more ∧ p' = pow + (if more then 1 else 0))

set_option maxHeartbeats 4000000 in
set_option maxRecDepth 100000 in
theorem l5cut_plain (ds : ByteArray) (p : Int) (n : Nat) (hs : ds.size ≤ 1100) (hn : n ≤ 1600) (w : World) :
    Calls Tryz.prog 94 #[.agg #[.string ds, .int .i64 p], .int .i64 (n : Int), .bool false] w fun e w' => e = .returned (.agg #[.string (padB ds n), .int .i64 p]) ∧ Below w.heap.size w w' := by
  unfold padB
  have hs' : (ds.size : Int) ≤ 1100 := by omega
  by_cases h : n < ds.size
  · rw [if_pos h]
    have he : (ds.extract 0 n).size = n := by simp; omega
    have hz : n - ds.size = 0 := by omega
    rw [hz]
    have HZ : Hid (∀ w, Calls Tryz.prog 52 #[.int .i64 0] w fun e w' => e = .returned (.string (zerosB 0)) ∧ w' = w.alloc (.cells (tcells (zerosL 0) 0).toArray 5)) := fun w => zeros_int 0 (by omega) (by omega) w
    have hz0 := zerosB_size 0
    generalize zerosB 0 = Z at *
    generalize (tcells (zerosL 0) 0).toArray = C at *
    go_enter Tryz.func94, Tryz.ntmps94
    go_wp2_with fail
    refine (HZ.out _).mono ?_
    rintro e w' ⟨rfl, rfl⟩
    go_wp2
    refine bodyPost_ret (v := .agg #[.string (ds.extract 0 n ++ Z), .int .i64 p]) (by simp [results, Tryz.results94, go_sem]) rfl ⟨rfl, (by repeat (first | with_reducible exact Below.refl _ _ | with_reducible refine Below.alloc ?_ (by simp <;> omega) _ | with_reducible refine Below.drew ?_ | with_reducible refine below_drewN ?_ _ | with_reducible refine Below.setCell ?_ (by simp <;> omega) _))⟩
  · rw [if_neg h]
    have hn' : (ds.size : Int) ≤ (n : Int) := by omega
    have HZ : Hid (∀ w, Calls Tryz.prog 52 #[.int .i64 ((n : Int) - (ds.size : Int))] w fun e w' => e = .returned (.string (zerosB (n - ds.size))) ∧ w' = w.alloc (.cells (tcells (zerosL (n - ds.size)) (n - ds.size)).toArray 5)) := fun w => by
      have := zeros_int ((n : Int) - (ds.size : Int)) (by omega) (by omega) w
      rw [show ((n : Int) - (ds.size : Int)).toNat = n - ds.size by omega] at this
      exact this
    have hz0 : ((zerosB (n - ds.size)).size : Int) ≤ 1600 := by rw [zerosB_size]; omega
    generalize zerosB (n - ds.size) = Z at *
    generalize (tcells (zerosL (n - ds.size)) (n - ds.size)).toArray = C at *
    clear h
    go_enter Tryz.func94, Tryz.ntmps94
    go_wp2_with fail
    refine (HZ.out _).mono ?_
    rintro e w' ⟨rfl, rfl⟩
    go_wp2
    refine bodyPost_ret (v := .agg #[.string (ds ++ Z), .int .i64 p]) (by simp [results, Tryz.results94, go_sem]) rfl ⟨rfl, (by repeat (first | with_reducible exact Below.refl _ _ | with_reducible refine Below.alloc ?_ (by simp <;> omega) _ | with_reducible refine Below.drew ?_ | with_reducible refine below_drewN ?_ _ | with_reducible refine Below.setCell ?_ (by simp <;> omega) _))⟩
theorem cutV_one (ds : ByteArray) (pow : Int) (n : Nat) (up : Bool) (t t' : ByteArray) (p p' : Int) (h : cutV ds pow n up t p) (h' : cutV ds pow n up t' p') : t = t' ∧ p = p' := by
  rcases h with ⟨rfl, rfl, rfl⟩ | ⟨rfl, m, h, rfl⟩
  · rcases h' with ⟨_, rfl, rfl⟩ | ⟨h, _⟩
    · exact ⟨rfl, rfl⟩
    · cases h
  · rcases h' with ⟨h, _⟩ | ⟨_, m', h', rfl⟩
    · cases h
    · obtain ⟨rfl, rfl⟩ := upD_one _ _ _ _ _ h h'
      exact ⟨rfl, rfl⟩
theorem cut5_size (ds : ByteArray) (pow : Int) (n : Nat) (up : Bool) (t : ByteArray) (p' : Int) (h : cutV ds pow n up t p') : n ≤ t.size ∧ t.size ≤ n + 1 ∧ pow ≤ p' ∧ p' ≤ pow + 1 := by
  have := padB_size ds n
  rcases h with ⟨_, rfl, rfl⟩ | ⟨_, more, ⟨_, _, h, _⟩, rfl⟩
  · omega
  · cases more
    · simp at h ⊢; omega
    · simp at h ⊢; omega
theorem cutV_good (ds : ByteArray) (pow : Int) (n : Nat) (up : Bool) (t : ByteArray) (p : Int) (hg : good 10 ds.data.toList) (h : cutV ds pow n up t p) : good 10 t.data.toList := by
  rcases h with ⟨_, rfl, _⟩ | ⟨_, m, h, _⟩
  · exact padB_good ds n hg
  · exact h.1
end Go.Proofs.YtoedefjngipeiaaGreatDoor

