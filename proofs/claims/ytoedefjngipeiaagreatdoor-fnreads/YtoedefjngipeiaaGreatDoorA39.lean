import Derived.Test.YtoedefjngipeiaaGreatDoorA38
import Derived.Test.YtoedefjngipeiaaGreatDoorA07
import Derived.Test.YtoedefjngipeiaaGreatDoorA28
import Derived.Test.YtoedefjngipeiaaGreatDoorA10
import Derived.Test.YtoedefjngipeiaaGreatDoorA18
import Derived.Test.YtoedefjngipeiaaGreatDoorA15
import Derived.Test.YtoedefjngipeiaaGreatDoorA14
import Derived.Test.YtoedefjngipeiaaGreatDoorA37
import Derived.Test.YtoedefjngipeiaaGreatDoorA36
import Derived.Deep.Cut
import Derived.Deep.CutRange
import Derived.Deep.CutBlock
/- The reader of the specification: a sign and an exponent. -/
namespace Go.Proofs.YtoedefjngipeiaaGreatDoor
open Go.ChangeShapes Go.WideShapes Go.RowKit

set_option maxHeartbeats 1600000 in
theorem exponent_minus (B : Nat) (w : World) (s : ByteArray) (k : Nat) (h : Rd B w s k) (hs : s.size ≤ 1300) (h0 : k < s.size) (h1 : bAt s k = 45) :
    Calls Tryz.prog 41 #[.pointer (some ⟨B, 0, none⟩)] w fun e w' => ∃ j, Run 10 s (k + 1) j ∧ e = .returned (.tuple #[.int .i64 (expV true (runV 10 s (k + 1) j)), .bool (decide ((k + 1) < j))]) ∧ Rd B w' s j ∧ Only B w w' := by
  have H1 : Hid _ := fun (_ : Unit) => is_yes' B w s k 45 h hs h0 h1
  clear h h1
  go_enter Tryz.func41, Tryz.ntmps41
  go_wp2_with fail
  refine (H1.out ()).mono ?_
  rintro x w2 ⟨rfl, hr2, ho2⟩
  have HO2 : Hid (Only B w w2) := ho2
  clear H1 ho2
  have HD : Hid _ := fun (_ : Unit) => digits_any B w2 s (k + 1) 10 hr2 hs (by omega)
  clear hr2
  go_wp2_with fail
  refine (HD.out ()).mono ?_
  rintro x w3 ⟨j, hrun, rfl, hr3, ho3⟩
  have HO3 : Hid (Only B w w3) := HO2.out.trans ho3
  have HR3 : Hid (Rd B w3 s j) := hr3
  have HRun : Hid (Run 10 s (k + 1) j) := hrun
  have HG : Hid _ := fun (_ : Unit) => run_good 10 s (k + 1) j hrun
  have hz : (s.extract (k + 1) j).size = j - (k + 1) := by rw [ByteArray.size_extract]; have := hrun.2.1; omega
  have hz13 : (s.extract (k + 1) j).size ≤ 1300 := by have := hrun.2.1; omega
  have HZ : Hid _ := fun (_ : Unit) => hz
  clear hr3 ho3 hrun HD hz
  generalize hds : s.extract (k + 1) j = ds at *
  have HEX : Hid (s.extract (k + 1) j = ds) := hds
  clear hds
  go_wp2
  go_loop [6, 7] (fun a i => ∃ (t : Nat), i = .int .i64 (t : Int) ∧ t ≤ ds.size ∧ ∃ V : Nat, Hid (V = valN 10 (ds.data.toList.take t)) ∧ a = .int .i64 (cap V : Int)) (fun _ i => ds.size - (intOf i).toNat)
  case atStart => exact ⟨0, rfl, Nat.zero_le _, 0, by show 0 = _; rw [List.take_zero, valN_nil], rfl⟩
  case round =>
    obtain ⟨t, rfl, ht, V, HV, rfl⟩ := hrel
    have hcap : (cap V : Int) ≤ 100000 := by unfold cap; omega
    by_cases hlt : t < ds.size
    · have hlt' : (t : Int) < (ds.size : Int) := by omega
      obtain ⟨a1, a2, a3⟩ := ten_digit ds[t] (good_at 10 ds (HG.out ()) t hlt)
      obtain ⟨d, hd⟩ : ∃ d : Nat, (d : Int) = (ds[t].toNat : Int) - 48 := ⟨ds[t].toNat - 48, by omega⟩
      have HS : Hid _ := fun (_ : Unit) => valN_step 10 ds t hlt d (by rw [a3]; exact hd)
      have HC : Hid _ := fun (_ : Unit) => cap_step V d
      have hd' : (ds[t].toNat : Int) - 48 = (d : Int) := hd.symm
      have HV' : Hid (V * 10 + d = valN 10 (ds.data.toList.take (t + 1))) := by
        show _ = _
        rw [HS.out (), HV.out]
      obtain ⟨C, hC⟩ : ∃ C : Int, C = (cap V : Int) := ⟨_, rfl⟩
      have HC' : Hid (C = (cap V : Int)) := hC
      have hC0 : 0 ≤ C := by omega
      have d9 : (d : Int) ≤ 9 := by omega
      have d0 : (0 : Int) ≤ (d : Int) := by omega
      rw [← hC] at hcap ⊢
      clear hd a3 HS hC
      by_cases hov : 100000 < C * 10 + (d : Int)
      · have HX : Hid (Value.int .i64 100000 = .int .i64 (cap (V * 10 + d) : Int)) := by
          show _ = _
          have h1 := HC.out ()
          have h2 := HC'.out
          congr 1
          rw [← h1]; omega
        go_wp2
        refine ⟨⟨t + 1, by simp, by omega, V * 10 + d, HV'.out, HX.out⟩, ?_⟩
        simp only [intOf]; omega
      · have hov' : decide (100000 < C * 10 + (d : Int)) = false := decide_eq_false hov
        have HX : Hid (Value.int .i64 (C * 10 + (d : Int)) = .int .i64 (cap (V * 10 + d) : Int)) := by
          show _ = _
          have h1 := HC.out ()
          have h2 := HC'.out
          congr 1
          rw [← h1]; omega
        go_wp2
        refine ⟨⟨t + 1, by simp, by omega, V * 10 + d, HV'.out, HX.out⟩, ?_⟩
        simp only [intOf]; omega
    · obtain rfl : t = ds.size := by omega
      have HV' : Hid (V = valN 10 ds.data.toList) := by
        show V = _
        rw [HV.out, take_all ds ds.size (Nat.le_refl _)]
      have HO4 : Hid (Only B w w3) := HO3.out
      have HVR : Hid (runV 10 s (k + 1) j = V) := by
        show runV 10 s (k + 1) j = V
        unfold runV
        rw [HEX.out, HV'.out]
      by_cases he : ds.size = 0
      · have hb := isEmpty_yes ds he
        have HX : Hid (decide ((k + 1) < j) = false) := by
          show _ = _
          have := HZ.out ()
          exact decide_eq_false (by omega)
        go_wp2
        go_ret2
        exact ⟨j, HRun.out, by rw [HX.out, HVR.out]; rfl, HR3.out, HO4.out⟩
      · have hb := isEmpty_no ds he
        have HX : Hid (decide ((k + 1) < j) = true) := by
          show _ = _
          have := HZ.out ()
          exact decide_eq_true (by omega)
        go_wp2
        go_ret2
        exact ⟨j, HRun.out, by rw [HX.out, HVR.out]; rfl, HR3.out, HO4.out⟩
set_option maxHeartbeats 1600000 in
theorem exponent_plus (B : Nat) (w : World) (s : ByteArray) (k : Nat) (h : Rd B w s k) (hs : s.size ≤ 1300) (h0 : k < s.size) (h1 : bAt s k = 43) :
    Calls Tryz.prog 41 #[.pointer (some ⟨B, 0, none⟩)] w fun e w' => ∃ j, Run 10 s (k + 1) j ∧ e = .returned (.tuple #[.int .i64 (expV false (runV 10 s (k + 1) j)), .bool (decide ((k + 1) < j))]) ∧ Rd B w' s j ∧ Only B w w' := by
  have H1 : Hid _ := fun (_ : Unit) => is_no' B w s k 45 h (by rw [h1]; omega)
  have H2 : Hid _ := fun w1 (hr : Rd B w1 s k) => is_yes' B w1 s k 43 hr hs h0 h1
  clear h h1
  go_enter Tryz.func41, Tryz.ntmps41
  go_wp2_with fail
  refine (H1.out ()).mono ?_
  rintro x w1 ⟨rfl, hr1, ho1⟩
  have HR1 : Hid (Rd B w1 s k) := hr1
  have HO1 : Hid (Only B w w1) := ho1
  clear H1 hr1 ho1
  go_wp2_with fail
  refine (H2.out _ HR1.out).mono ?_
  rintro x w2 ⟨rfl, hr2, ho2⟩
  have HO2 : Hid (Only B w w2) := HO1.out.trans ho2
  clear H2 ho2
  have HD : Hid _ := fun (_ : Unit) => digits_any B w2 s (k + 1) 10 hr2 hs (by omega)
  clear hr2
  go_wp2_with fail
  refine (HD.out ()).mono ?_
  rintro x w3 ⟨j, hrun, rfl, hr3, ho3⟩
  have HO3 : Hid (Only B w w3) := HO2.out.trans ho3
  have HR3 : Hid (Rd B w3 s j) := hr3
  have HRun : Hid (Run 10 s (k + 1) j) := hrun
  have HG : Hid _ := fun (_ : Unit) => run_good 10 s (k + 1) j hrun
  have hz : (s.extract (k + 1) j).size = j - (k + 1) := by rw [ByteArray.size_extract]; have := hrun.2.1; omega
  have hz13 : (s.extract (k + 1) j).size ≤ 1300 := by have := hrun.2.1; omega
  have HZ : Hid _ := fun (_ : Unit) => hz
  clear hr3 ho3 hrun HD hz
  generalize hds : s.extract (k + 1) j = ds at *
  have HEX : Hid (s.extract (k + 1) j = ds) := hds
  clear hds
  go_wp2
  go_loop [6, 7] (fun a i => ∃ (t : Nat), i = .int .i64 (t : Int) ∧ t ≤ ds.size ∧ ∃ V : Nat, Hid (V = valN 10 (ds.data.toList.take t)) ∧ a = .int .i64 (cap V : Int)) (fun _ i => ds.size - (intOf i).toNat)
  case atStart => exact ⟨0, rfl, Nat.zero_le _, 0, by show 0 = _; rw [List.take_zero, valN_nil], rfl⟩
  case round =>
    obtain ⟨t, rfl, ht, V, HV, rfl⟩ := hrel
    have hcap : (cap V : Int) ≤ 100000 := by unfold cap; omega
    by_cases hlt : t < ds.size
    · have hlt' : (t : Int) < (ds.size : Int) := by omega
      obtain ⟨a1, a2, a3⟩ := ten_digit ds[t] (good_at 10 ds (HG.out ()) t hlt)
      obtain ⟨d, hd⟩ : ∃ d : Nat, (d : Int) = (ds[t].toNat : Int) - 48 := ⟨ds[t].toNat - 48, by omega⟩
      have HS : Hid _ := fun (_ : Unit) => valN_step 10 ds t hlt d (by rw [a3]; exact hd)
      have HC : Hid _ := fun (_ : Unit) => cap_step V d
      have hd' : (ds[t].toNat : Int) - 48 = (d : Int) := hd.symm
      have HV' : Hid (V * 10 + d = valN 10 (ds.data.toList.take (t + 1))) := by
        show _ = _
        rw [HS.out (), HV.out]
      obtain ⟨C, hC⟩ : ∃ C : Int, C = (cap V : Int) := ⟨_, rfl⟩
      have HC' : Hid (C = (cap V : Int)) := hC
      have hC0 : 0 ≤ C := by omega
      have d9 : (d : Int) ≤ 9 := by omega
      have d0 : (0 : Int) ≤ (d : Int) := by omega
      rw [← hC] at hcap ⊢
      clear hd a3 HS hC
      by_cases hov : 100000 < C * 10 + (d : Int)
      · have HX : Hid (Value.int .i64 100000 = .int .i64 (cap (V * 10 + d) : Int)) := by
          show _ = _
          have h1 := HC.out ()
          have h2 := HC'.out
          congr 1
          rw [← h1]; omega
        go_wp2
        refine ⟨⟨t + 1, by simp, by omega, V * 10 + d, HV'.out, HX.out⟩, ?_⟩
        simp only [intOf]; omega
      · have hov' : decide (100000 < C * 10 + (d : Int)) = false := decide_eq_false hov
        have HX : Hid (Value.int .i64 (C * 10 + (d : Int)) = .int .i64 (cap (V * 10 + d) : Int)) := by
          show _ = _
          have h1 := HC.out ()
          have h2 := HC'.out
          congr 1
          rw [← h1]; omega
        go_wp2
        refine ⟨⟨t + 1, by simp, by omega, V * 10 + d, HV'.out, HX.out⟩, ?_⟩
        simp only [intOf]; omega
    · obtain rfl : t = ds.size := by omega
      have HV' : Hid (V = valN 10 ds.data.toList) := by
        show V = _
        rw [HV.out, take_all ds ds.size (Nat.le_refl _)]
      have HO4 : Hid (Only B w w3) := HO3.out
      have HVR : Hid (runV 10 s (k + 1) j = V) := by
        show runV 10 s (k + 1) j = V
        unfold runV
        rw [HEX.out, HV'.out]
      by_cases he : ds.size = 0
      · have hb := isEmpty_yes ds he
        have HX : Hid (decide ((k + 1) < j) = false) := by
          show _ = _
          have := HZ.out ()
          exact decide_eq_false (by omega)
        go_wp2
        go_ret2
        exact ⟨j, HRun.out, by rw [HX.out, HVR.out]; rfl, HR3.out, HO4.out⟩
      · have hb := isEmpty_no ds he
        have HX : Hid (decide ((k + 1) < j) = true) := by
          show _ = _
          have := HZ.out ()
          exact decide_eq_true (by omega)
        go_wp2
        go_ret2
        exact ⟨j, HRun.out, by rw [HX.out, HVR.out]; rfl, HR3.out, HO4.out⟩
set_option maxHeartbeats 1600000 in
theorem exponent_none (B : Nat) (w : World) (s : ByteArray) (k : Nat) (h : Rd B w s k) (hs : s.size ≤ 1300) (hk : k ≤ s.size) (h1 : bAt s k ≠ 45) (h2 : bAt s k ≠ 43) :
    Calls Tryz.prog 41 #[.pointer (some ⟨B, 0, none⟩)] w fun e w' => ∃ j, Run 10 s (k) j ∧ e = .returned (.tuple #[.int .i64 (expV false (runV 10 s (k) j)), .bool (decide ((k) < j))]) ∧ Rd B w' s j ∧ Only B w w' := by
  have H1 : Hid _ := fun (_ : Unit) => is_no' B w s k 45 h h1
  have H2 : Hid _ := fun w1 (hr : Rd B w1 s k) => is_no' B w1 s k 43 hr h2
  clear h h1 h2
  go_enter Tryz.func41, Tryz.ntmps41
  go_wp2_with fail
  refine (H1.out ()).mono ?_
  rintro x w1 ⟨rfl, hr1, ho1⟩
  have HR1 : Hid (Rd B w1 s k) := hr1
  have HO1 : Hid (Only B w w1) := ho1
  clear H1 hr1 ho1
  go_wp2_with fail
  refine (H2.out _ HR1.out).mono ?_
  rintro x w2 ⟨rfl, hr2, ho2⟩
  have HO2 : Hid (Only B w w2) := HO1.out.trans ho2
  clear H2 ho2
  have HD : Hid _ := fun (_ : Unit) => digits_any B w2 s (k) 10 hr2 hs (by omega)
  clear hr2
  go_wp2_with fail
  refine (HD.out ()).mono ?_
  rintro x w3 ⟨j, hrun, rfl, hr3, ho3⟩
  have HO3 : Hid (Only B w w3) := HO2.out.trans ho3
  have HR3 : Hid (Rd B w3 s j) := hr3
  have HRun : Hid (Run 10 s (k) j) := hrun
  have HG : Hid _ := fun (_ : Unit) => run_good 10 s (k) j hrun
  have hz : (s.extract (k) j).size = j - (k) := by rw [ByteArray.size_extract]; have := hrun.2.1; omega
  have hz13 : (s.extract (k) j).size ≤ 1300 := by have := hrun.2.1; omega
  have HZ : Hid _ := fun (_ : Unit) => hz
  clear hr3 ho3 hrun HD hz
  generalize hds : s.extract (k) j = ds at *
  have HEX : Hid (s.extract (k) j = ds) := hds
  clear hds
  go_wp2
  go_loop [6, 7] (fun a i => ∃ (t : Nat), i = .int .i64 (t : Int) ∧ t ≤ ds.size ∧ ∃ V : Nat, Hid (V = valN 10 (ds.data.toList.take t)) ∧ a = .int .i64 (cap V : Int)) (fun _ i => ds.size - (intOf i).toNat)
  case atStart => exact ⟨0, rfl, Nat.zero_le _, 0, by show 0 = _; rw [List.take_zero, valN_nil], rfl⟩
  case round =>
    obtain ⟨t, rfl, ht, V, HV, rfl⟩ := hrel
    have hcap : (cap V : Int) ≤ 100000 := by unfold cap; omega
    by_cases hlt : t < ds.size
    · have hlt' : (t : Int) < (ds.size : Int) := by omega
      obtain ⟨a1, a2, a3⟩ := ten_digit ds[t] (good_at 10 ds (HG.out ()) t hlt)
      obtain ⟨d, hd⟩ : ∃ d : Nat, (d : Int) = (ds[t].toNat : Int) - 48 := ⟨ds[t].toNat - 48, by omega⟩
      have HS : Hid _ := fun (_ : Unit) => valN_step 10 ds t hlt d (by rw [a3]; exact hd)
      have HC : Hid _ := fun (_ : Unit) => cap_step V d
      have hd' : (ds[t].toNat : Int) - 48 = (d : Int) := hd.symm
      have HV' : Hid (V * 10 + d = valN 10 (ds.data.toList.take (t + 1))) := by
        show _ = _
        rw [HS.out (), HV.out]
      obtain ⟨C, hC⟩ : ∃ C : Int, C = (cap V : Int) := ⟨_, rfl⟩
      have HC' : Hid (C = (cap V : Int)) := hC
      have hC0 : 0 ≤ C := by omega
      have d9 : (d : Int) ≤ 9 := by omega
      have d0 : (0 : Int) ≤ (d : Int) := by omega
      rw [← hC] at hcap ⊢
      clear hd a3 HS hC
      by_cases hov : 100000 < C * 10 + (d : Int)
      · have HX : Hid (Value.int .i64 100000 = .int .i64 (cap (V * 10 + d) : Int)) := by
          show _ = _
          have h1 := HC.out ()
          have h2 := HC'.out
          congr 1
          rw [← h1]; omega
        go_wp2
        refine ⟨⟨t + 1, by simp, by omega, V * 10 + d, HV'.out, HX.out⟩, ?_⟩
        simp only [intOf]; omega
      · have hov' : decide (100000 < C * 10 + (d : Int)) = false := decide_eq_false hov
        have HX : Hid (Value.int .i64 (C * 10 + (d : Int)) = .int .i64 (cap (V * 10 + d) : Int)) := by
          show _ = _
          have h1 := HC.out ()
          have h2 := HC'.out
          congr 1
          rw [← h1]; omega
        go_wp2
        refine ⟨⟨t + 1, by simp, by omega, V * 10 + d, HV'.out, HX.out⟩, ?_⟩
        simp only [intOf]; omega
    · obtain rfl : t = ds.size := by omega
      have HV' : Hid (V = valN 10 ds.data.toList) := by
        show V = _
        rw [HV.out, take_all ds ds.size (Nat.le_refl _)]
      have HO4 : Hid (Only B w w3) := HO3.out
      have HVR : Hid (runV 10 s (k) j = V) := by
        show runV 10 s (k) j = V
        unfold runV
        rw [HEX.out, HV'.out]
      by_cases he : ds.size = 0
      · have hb := isEmpty_yes ds he
        have HX : Hid (decide ((k) < j) = false) := by
          show _ = _
          have := HZ.out ()
          exact decide_eq_false (by omega)
        go_wp2
        go_ret2
        exact ⟨j, HRun.out, by rw [HX.out, HVR.out]; rfl, HR3.out, HO4.out⟩
      · have hb := isEmpty_no ds he
        have HX : Hid (decide ((k) < j) = true) := by
          show _ = _
          have := HZ.out ()
          exact decide_eq_true (by omega)
        go_wp2
        go_ret2
        exact ⟨j, HRun.out, by rw [HX.out, HVR.out]; rfl, HR3.out, HO4.out⟩
/-- A sign and digits. -/
theorem exponent_any (B : Nat) (w : World) (s : ByteArray) (k : Nat) (h : Rd B w s k) (hs : s.size ≤ 1300) (hk : k ≤ s.size) (neg : Bool) (k1 : Nat) (hg : Sgn s k neg k1) :
    Calls Tryz.prog 41 #[.pointer (some ⟨B, 0, none⟩)] w fun e w' => ∃ j, Run 10 s k1 j ∧ e = .returned (.tuple #[.int .i64 (expV neg (runV 10 s k1 j)), .bool (decide (k1 < j))]) ∧ Rd B w' s j ∧ Only B w w' := by
  rcases hg with ⟨h0, h1, rfl, rfl⟩ | ⟨h0, h1, rfl, rfl⟩ | ⟨h1, h2, rfl, rfl⟩
  · exact exponent_minus B w s k h hs h0 h1
  · exact exponent_plus B w s k h hs h0 h1
  · exact exponent_none B w s k1 h hs hk h1 h2
end Go.Proofs.YtoedefjngipeiaaGreatDoor

/- The state between ReadFlt's statements. -/
namespace Go.Proofs.YtoedefjngipeiaaGreatDoor
open Go.ChangeShapes Go.WideShapes Go.RowKit

/-- Between the statements: the result's block R is as it was laid, the reader stands at k. -/
def St (w wc : World) (s : ByteArray) (k : Nat) : Prop :=
  Below w.heap.size w wc ∧ Rd (w.heap.size + 1) wc s k ∧ w.heap.size + 2 ≤ wc.heap.size
  ∧ wc.cell? ⟨w.heap.size, 0, none⟩ = some (.bool false) ∧ wc.cell? ⟨w.heap.size, 1, none⟩ = some (.int .i64 0) ∧ wc.cell? ⟨w.heap.size, 2, none⟩ = some (.float .f64 0)
  ∧ wc.frozen? ⟨w.heap.size, 0, none⟩ = false ∧ wc.frozen? ⟨w.heap.size, 1, none⟩ = false ∧ wc.frozen? ⟨w.heap.size, 2, none⟩ = false
theorem St.only {w wc w' : World} {s : ByteArray} {k j : Nat} (h : St w wc s k) (ho : Only (w.heap.size + 1) wc w') (hr : Rd (w.heap.size + 1) w' s j) : St w w' s j := by
  obtain ⟨h1, _, h3, c0, c1, c2, f0, f1, f2⟩ := h
  refine ⟨h1.trans (ho.below (by omega)), hr, by rw [ho.2.2.2.1]; exact h3, ?_, ?_, ?_, ?_, ?_, ?_⟩
  · rw [ho.cell (p := ⟨w.heap.size, 0, none⟩) (by show w.heap.size ≠ _; omega)]; exact c0
  · rw [ho.cell (p := ⟨w.heap.size, 1, none⟩) (by show w.heap.size ≠ _; omega)]; exact c1
  · rw [ho.cell (p := ⟨w.heap.size, 2, none⟩) (by show w.heap.size ≠ _; omega)]; exact c2
  · rw [ho.frozen (p := ⟨w.heap.size, 0, none⟩) (by show w.heap.size ≠ _; omega)]; exact f0
  · rw [ho.frozen (p := ⟨w.heap.size, 1, none⟩) (by show w.heap.size ≠ _; omega)]; exact f1
  · rw [ho.frozen (p := ⟨w.heap.size, 2, none⟩) (by show w.heap.size ≠ _; omega)]; exact f2
theorem St.below {w wc w' : World} {s : ByteArray} {k : Nat} (h : St w wc s k) (hb : Below wc.heap.size wc w') : St w w' s k := by
  obtain ⟨h1, h2, h3, c0, c1, c2, f0, f1, f2⟩ := h
  have hl : w.heap.size < wc.heap.size := by omega
  refine ⟨h1.trans (hb.mono h1.size), h2.below hb (by omega), Nat.le_trans h3 hb.size, ?_, ?_, ?_, ?_, ?_, ?_⟩
  · rw [hb.cell (p := ⟨w.heap.size, 0, none⟩) hl]; exact c0
  · rw [hb.cell (p := ⟨w.heap.size, 1, none⟩) hl]; exact c1
  · rw [hb.cell (p := ⟨w.heap.size, 2, none⟩) hl]; exact c2
  · rw [hb.frozen (p := ⟨w.heap.size, 0, none⟩) hl]; exact f0
  · rw [hb.frozen (p := ⟨w.heap.size, 1, none⟩) hl]; exact f1
  · rw [hb.frozen (p := ⟨w.heap.size, 2, none⟩) hl]; exact f2
theorem St.drewN {w wc : World} {s : ByteArray} {k : Nat} (h : St w wc s k) (n : Nat) : St w (wc.drewN n) s k := h.below (below_drewN (Below.refl _ _) n)
theorem St.start (w : World) (s : ByteArray) (T U : Nat) : St w ((w.alloc (.cells #[.bool false, .int .i64 0, .float .f64 0] T)).alloc (.cells #[.string s, .int .i64 0] U)) s 0 :=
  ⟨((Below.refl _ w).alloc (Nat.le_refl _) _).alloc (by simp) _, ⟨by simp [go_sem], by simp [go_sem], by simp [go_sem]⟩, by simp, by simp [go_sem], by simp [go_sem], by simp [go_sem], by simp [go_sem], by simp [go_sem], by simp [go_sem]⟩
end Go.Proofs.YtoedefjngipeiaaGreatDoor

/- l4hexed of the specification: the float nearest to hexadecimal digits times a power of two. -/
namespace Go.Proofs.YtoedefjngipeiaaGreatDoor
open Go.ChangeShapes Go.WideShapes Go.RowKit

theorem log2_shl (V K : Nat) (h : 0 < V) : (V * 2 ^ K).log2 = V.log2 + K := log2_mul V K h
theorem log2_one_shl (K : Nat) : (1 * 2 ^ K).log2 = K := by rw [log2_mul 1 K (by omega), show (1 : Nat).log2 = 0 by decide, Nat.zero_add]
set_option maxHeartbeats 3200000 in
set_option maxRecDepth 100000 in
theorem l4hexed_any (s : ByteArray) (e : Int) (w : World) (hs : s.size ≤ 1300) (he1 : -200000 ≤ e) (he2 : e ≤ 200000) :
    Calls Tryz.prog 42 #[.string s, .int .i64 e] w fun r w' => r = .returned (.float .f64 (fw false (valN 16 s.data.toList) e)) ∧ Below w.heap.size w w' := by
  have HL : Hid _ := fun w => l4big_any s 16 w (by omega) (by omega)
  obtain ⟨N, HN⟩ : ∃ N : Nat, Hid (N ≤ 1300 ∧ 1300 ≤ N) := ⟨1300, ⟨by omega, by omega⟩⟩
  have HVB : Hid (valN 16 s.data.toList < 4294967296 ^ N) := Nat.lt_of_lt_of_le (valN_lt 16 (by have := HN.out; omega) _) (Nat.pow_le_pow_right (by have := HN.out; omega) (by have := HN.out; simp; omega))
  obtain ⟨V, hV⟩ : ∃ V, V = valN 16 s.data.toList := ⟨_, rfl⟩
  rw [← hV] at HL HVB ⊢
  clear hV
  go_enter Tryz.func42, Tryz.ntmps42
  go_wp2_with fail
  refine (HL.out _).mono ?_
  rintro x w1 ⟨v, rfl, hb1, hv1⟩
  have HB1 : Hid (Big w1 v V) := hv1
  have HW1 : Hid (Below w.heap.size w w1) := hb1
  obtain ⟨ao, la, cap, rfl, l1, l2, l3⟩ := hv1.slice
  have l5 : cap ≤ 9223372036854775807 := l2
  by_cases h0 : V = 0
  · subst h0
    obtain rfl : la = 0 := l3.2 rfl
    have HX : Hid (fw false 0 e = 0) := fw_zero false e
    clear hb1 hv1 HL l2 l3
    go_wp2
    go_ret
    exact ⟨by rw [HX.out]; rfl, HW1.out⟩
  · have hVp : 0 < V := by omega
    have l0 : ((la : Int) == 0) = false := beq_eq_false_iff_ne.2 (by have := l3.1; omega)
    obtain ⟨hbt, hbt'⟩ := bits_ex V N HVB.out (by have := HN.out; omega) hVp
    have HBT : Hid _ := fun (_ : Unit) => l0bits_is _ V N (V.log2 + 1) w1 HB1.out HVB.out (by have := HN.out; omega) hVp hbt
    have hb52 : V.log2 + 1 ≤ 41600 := by
      have h := HVB.out
      rw [pow32] at h
      have := (Nat.log2_lt (by omega)).2 h
      have := HN.out
      omega
    obtain ⟨g, hg⟩ : ∃ g : Nat, g = V.log2 := ⟨_, rfl⟩
    rw [← hg] at HBT hb52
    have HG : Hid (V.log2 = g) := hg.symm
    clear hb1 hv1 HL l2 l3 hbt hbt' hg h0
    go_wp2_with fail
    refine (HBT.out ()).mono ?_
    rintro x w' ⟨rfl, hw⟩
    rw [hw]
    clear hw w'
    by_cases c1 : 1100 < (g : Int) + 1 + e
    · have HX : Hid (fw false V e = iw false) := fw_over false V e _ hVp rfl (by rw [HG.out]; omega)
      go_wp2_with (go_at_call 39; refine (l2inf_any _).mono ?_; rintro x w' ⟨rfl, rfl⟩)
      go_ret
      exact ⟨by rw [HX.out]; rfl, HW1.out⟩
    · have d1 : decide (1100 < (g : Int) + 1 + e) = false := decide_eq_false c1
      go_wp2_with fail
      refine (HBT.out ()).mono ?_
      rintro x w' ⟨rfl, hw⟩
      rw [hw]
      clear hw w'
      by_cases c2 : (g : Int) + 1 + e < -1200
      · have HX : Hid (fw false V e = 0) := fw_low false V e (by rw [HG.out]; omega)
        clear d1
        go_wp2
        go_ret
        exact ⟨by rw [HX.out]; rfl, HW1.out⟩
      · have d2 : decide ((g : Int) + 1 + e < -1200) = false := decide_eq_false c2
        by_cases c3 : 0 ≤ e
        · obtain ⟨K, rfl⟩ : ∃ K : Nat, e = (K : Int) := ⟨e.toNat, by omega⟩
          have HX : Hid (fw false V K = ratioW (V * 2 ^ K) 1) := by
            show fw false V K = ratioW (V * 2 ^ K) 1
            have h := ratioW_fw V K 0 hVp
            rw [Nat.pow_zero] at h
            rw [h]; congr 1 <;> omega
          have HSH : Hid _ := fun (_ : Unit) => l0shl_big _ V N K w1 HB1.out HVB.out (by have := HN.out; omega) (by have := HN.out; omega)
          have HT : Hid (V * 2 ^ K < 4294967296 ^ (N + 50)) := shl_more HVB.out (by have := HN.out; omega)
          have HDD : Hid (((V * 2 ^ K).log2 : Int) - ((1 : Nat).log2 : Int) ≤ 1900 ∧ -1900 ≤ ((V * 2 ^ K).log2 : Int) - ((1 : Nat).log2 : Int)) := by
            show _ ∧ _
            rw [log2_shl V K hVp, HG.out, show (1 : Nat).log2 = 0 by decide]
            omega
          clear d1
          go_wp2_with fail
          refine (HSH.out ()).mono ?_
          rintro x w2 ⟨v2, rfl, hb2, hv2⟩
          have HB2 : Hid (Big w2 v2 (V * 2 ^ K)) := hv2
          have HW2 : Hid (Below w.heap.size w w2) := HW1.out.trans (hb2.mono HW1.out.size)
          clear hb2 hv2 HSH HBT
          go_wp2_with fail
          have HRT : Hid _ := fun (_ : Unit) => l4ratio_any v2 (.slice (some ⟨w2.heap.size, 0, none⟩) 1 1) (V * 2 ^ K) 1 (N + 50) (w2.alloc (.cells #[.int .u64 1] 40)) (HB2.out.below ((Below.refl _ w2).alloc (Nat.le_refl _) _) (Nat.le_refl _)) (Big.one w2 40) HT.out (Nat.one_lt_pow (by have := HN.out; omega) (by have := HN.out; omega)) (by have := HN.out; omega) (by have := HN.out; omega) (.inr HDD.out)
          rw [if_neg (Nat.ne_of_gt (Nat.mul_pos hVp (Nat.two_pow_pos K)))] at HRT
          refine (HRT.out ()).mono ?_
          rintro x w4 ⟨rfl, hb4⟩
          have HW4 : Hid (Below w.heap.size w w4) := (HW2.out.alloc HW2.out.size _).trans (hb4.mono (by have := HW2.out.size; simp; omega))
          clear hb4 HRT
          go_wp2
          go_ret
          exact ⟨by rw [HX.out]; rfl, HW4.out⟩
        · obtain ⟨K, hK⟩ : ∃ K : Nat, -e = (K : Int) := ⟨(-e).toNat, by omega⟩
          have HX : Hid (fw false V e = ratioW V (1 * 2 ^ K)) := by
            show fw false V e = ratioW V (1 * 2 ^ K)
            have h := ratioW_fw V 0 K hVp
            rw [Nat.pow_zero, Nat.mul_one] at h
            rw [Nat.one_mul, h]; congr 1 <;> omega
          have HT : Hid (1 * 2 ^ K < 4294967296 ^ (1 + (N + 100))) := shl_more (by have := HN.out; omega) (by have := HN.out; omega)
          have HDD : Hid ((V.log2 : Int) - ((1 * 2 ^ K).log2 : Int) ≤ 1900 ∧ -1900 ≤ (V.log2 : Int) - ((1 * 2 ^ K).log2 : Int)) := by
            show _ ∧ _
            rw [log2_one_shl K, HG.out]
            omega
          have c4 : decide (0 ≤ e) = false := decide_eq_false c3
          have hK2 : K ≤ 44000 := by omega
          clear d1 c3
          go_wp2_with fail
          have HSH : Hid _ := fun (_ : Unit) => l0shl_big _ 1 1 K _ (Big.one w1 40) (by have := HN.out; omega) (by have := HN.out; omega) (by have := HN.out; omega)
          refine (HSH.out ()).mono ?_
          rintro x w2 ⟨v2, rfl, hb2, hv2⟩
          have hbb : Below w1.heap.size w1 w2 := ((Below.refl _ w1).alloc (Nat.le_refl _) _).trans (hb2.mono (by simp))
          have HRT : Hid _ := fun (_ : Unit) => l4ratio_any _ v2 V (1 * 2 ^ K) (1 + (N + 100)) w2 (HB1.out.below hbb (Nat.le_refl _)) hv2 (Nat.lt_of_lt_of_le HVB.out (Nat.pow_le_pow_right (by have := HN.out; omega) (by have := HN.out; omega))) HT.out (by have := HN.out; omega) (Nat.mul_pos (by have := HN.out; omega) (Nat.two_pow_pos K)) (.inr HDD.out)
          rw [if_neg (Nat.ne_of_gt hVp)] at HRT
          have HW2 : Hid (Below w.heap.size w w2) := HW1.out.trans (hbb.mono HW1.out.size)
          clear hb2 hv2 hbb HSH
          go_wp2_with fail
          refine (HRT.out ()).mono ?_
          rintro x w3 ⟨rfl, hb3⟩
          have HW3 : Hid (Below w.heap.size w w3) := HW2.out.trans (hb3.mono HW2.out.size)
          clear hb3 HRT
          go_wp2
          go_ret
          exact ⟨by rw [HX.out, Nat.one_mul]; rfl, HW3.out⟩
end Go.Proofs.YtoedefjngipeiaaGreatDoor

/- What ReadFlt's walk wants; its code from a statement on. -/
namespace Go.Proofs.YtoedefjngipeiaaGreatDoor
open Go.ChangeShapes Go.WideShapes Go.RowKit

theorem is_any (B : Nat) (w : World) (s : ByteArray) (k : Nat) (c : Int) (h : Rd B w s k) (hs : s.size ≤ 1300) (hc : 0 < c) :
    Calls Tryz.prog 35 #[.pointer (some ⟨B, 0, none⟩), .int .u8 c] w fun e w' => ∃ (t : Bool) (j : Nat), ((t = true ∧ k < s.size ∧ bAt s k = c ∧ j = k + 1) ∨ (t = false ∧ bAt s k ≠ c ∧ j = k)) ∧ e = .returned (.bool t) ∧ Rd B w' s j ∧ Only B w w' := by
  by_cases hb : bAt s k = c
  · have hk : k < s.size := by
      by_cases hk : k < s.size
      · exact hk
      · rw [bAt_out s k hk] at hb; omega
    refine (is_yes' B w s k c h hs hk hb).mono ?_
    rintro e w' ⟨rfl, hr, ho⟩
    exact ⟨true, k + 1, .inl ⟨rfl, hk, hb, rfl⟩, rfl, hr, ho⟩
  · refine (is_no' B w s k c h hb).mono ?_
    rintro e w' ⟨rfl, hr, ho⟩
    exact ⟨false, k, .inr ⟨rfl, hb, rfl⟩, rfl, hr, ho⟩

theorem signed_word (neg : Bool) (x : Nat) (hx : x < 9223372036854775808) (w : World) : Calls Tryz.prog 38 #[.bool neg, .float .f64 x] w fun e w' => e = .returned (.float .f64 (signBit neg + x)) ∧ w' = w := by
  cases neg
  · have h := l2signed_plus x w
    rw [show signBit false + x = x by show 0 + x = x; omega]
    exact h
  · refine l2signed_minus x _ ?_ w
    have h := neg_word false x hx
    rw [show signBit false + x = x by show 0 + x = x; omega] at h
    exact h
/-- The code from its n-th statement on. -/
def dropSeq : Nat → Go.Code → Go.Code
  | 0, c => c
  | n + 1, .seq _ b => dropSeq n b
  | _, c => c
end Go.Proofs.YtoedefjngipeiaaGreatDoor

