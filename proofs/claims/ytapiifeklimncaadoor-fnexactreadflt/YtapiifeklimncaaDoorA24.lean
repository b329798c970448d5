import Derived.Test.YtapiifeklimncaaDoorA23
import Derived.Test.YtapiifeklimncaaDoorA04
import Derived.Test.YtapiifeklimncaaDoorA02
import Derived.Test.YtapiifeklimncaaDoorA08
import Derived.WalkKit
/- The reader of the specification: a sign and an exponent. -/
namespace Go.Proofs.YtapiifeklimncaaDoor
open Go.ChangeShapes Go.WideShapes Go.RowKit

set_option maxHeartbeats 1600000 in
theorem exponent_minus (B : Nat) (w : World) (s : ByteArray) (k : Nat) (h : Rd B w s k) (hs : s.size ≤ 1300) (h0 : k < s.size) (h1 : bAt s k = 45) :
    Calls Tryd.prog 13 #[.pointer (some ⟨B, 0, none⟩)] w fun e w' => ∃ j, Run 10 s (k + 1) j ∧ e = .returned (.tuple #[.int .i64 (expV true (runV 10 s (k + 1) j)), .bool (decide ((k + 1) < j))]) ∧ Rd B w' s j ∧ Only B w w' := by
  have H1 : Hid _ := fun (_ : Unit) => is_yes' B w s k 45 h hs h0 h1
  clear h h1
  go_enter Tryd.func13, Tryd.ntmps13
  go_wp2_with fail
  refine (H1.out ()).mono ?_
  rintro x w2 ⟨rfl, hr2, ho2⟩
  have HO2 : Hid (Only B w w2) := ho2
  clear H1 ho2
  have HD : Hid _ := fun (_ : Unit) => digits_any B w2 s (k + 1) 10 hr2 hs (by omega)
  clear hr2
  go_wp2_with fail
  refine (HD.out ()).mono ?_
  rintro x w3 ⟨j, hrun, rfl, hr3, ho3⟩
  have HO3 : Hid (Only B w w3) := HO2.out.trans ho3
  have HR3 : Hid (Rd B w3 s j) := hr3
  have HRun : Hid (Run 10 s (k + 1) j) := hrun
  have HG : Hid _ := fun (_ : Unit) => run_good 10 s (k + 1) j hrun
  have hz : (s.extract (k + 1) j).size = j - (k + 1) := by rw [ByteArray.size_extract]; have := hrun.2.1; omega
  have hz13 : (s.extract (k + 1) j).size ≤ 1300 := by have := hrun.2.1; omega
  have HZ : Hid _ := fun (_ : Unit) => hz
  clear hr3 ho3 hrun HD hz
  generalize hds : s.extract (k + 1) j = ds at *
  have HEX : Hid (s.extract (k + 1) j = ds) := hds
  clear hds
  go_wp2
  go_loop [6, 7] (fun a i => ∃ (t : Nat), i = .int .i64 (t : Int) ∧ t ≤ ds.size ∧ ∃ V : Nat, Hid (V = valN 10 (ds.data.toList.take t)) ∧ a = .int .i64 (cap V : Int)) (fun _ i => ds.size - (intOf i).toNat)
  case atStart => exact ⟨0, rfl, Nat.zero_le _, 0, by show 0 = _; rw [List.take_zero, valN_nil], rfl⟩
  case round =>
    obtain ⟨t, rfl, ht, V, HV, rfl⟩ := hrel
    have hcap : (cap V : Int) ≤ 100000 := by unfold cap; omega
    by_cases hlt : t < ds.size
    · have hlt' : (t : Int) < (ds.size : Int) := by omega
      obtain ⟨a1, a2, a3⟩ := ten_digit ds[t] (good_at 10 ds (HG.out ()) t hlt)
      obtain ⟨d, hd⟩ : ∃ d : Nat, (d : Int) = (ds[t].toNat : Int) - 48 := ⟨ds[t].toNat - 48, by omega⟩
      have HS : Hid _ := fun (_ : Unit) => valN_step 10 ds t hlt d (by rw [a3]; exact hd)
      have HC : Hid _ := fun (_ : Unit) => cap_step V d
      have hd' : (ds[t].toNat : Int) - 48 = (d : Int) := hd.symm
      have HV' : Hid (V * 10 + d = valN 10 (ds.data.toList.take (t + 1))) := by
        show _ = _
        rw [HS.out (), HV.out]
      obtain ⟨C, hC⟩ : ∃ C : Int, C = (cap V : Int) := ⟨_, rfl⟩
      have HC' : Hid (C = (cap V : Int)) := hC
      have hC0 : 0 ≤ C := by omega
      have d9 : (d : Int) ≤ 9 := by omega
      have d0 : (0 : Int) ≤ (d : Int) := by omega
      rw [← hC] at hcap ⊢
      clear hd a3 HS hC
      by_cases hov : 100000 < C * 10 + (d : Int)
      · have HX : Hid (Value.int .i64 100000 = .int .i64 (cap (V * 10 + d) : Int)) := by
          show _ = _
          have h1 := HC.out ()
          have h2 := HC'.out
          congr 1
          rw [← h1]; omega
        go_wp2
        refine ⟨⟨t + 1, by simp, by omega, V * 10 + d, HV'.out, HX.out⟩, ?_⟩
        simp only [intOf]; omega
      · have hov' : decide (100000 < C * 10 + (d : Int)) = false := decide_eq_false hov
        have HX : Hid (Value.int .i64 (C * 10 + (d : Int)) = .int .i64 (cap (V * 10 + d) : Int)) := by
          show _ = _
          have h1 := HC.out ()
          have h2 := HC'.out
          congr 1
          rw [← h1]; omega
        go_wp2
        refine ⟨⟨t + 1, by simp, by omega, V * 10 + d, HV'.out, HX.out⟩, ?_⟩
        simp only [intOf]; omega
    · obtain rfl : t = ds.size := by omega
      have HV' : Hid (V = valN 10 ds.data.toList) := by
        show V = _
        rw [HV.out, take_all ds ds.size (Nat.le_refl _)]
      have HO4 : Hid (Only B w w3) := HO3.out
      have HVR : Hid (runV 10 s (k + 1) j = V) := by
        show runV 10 s (k + 1) j = V
        unfold runV
        rw [HEX.out, HV'.out]
      by_cases he : ds.size = 0
      · have hb := isEmpty_yes ds he
        have HX : Hid (decide ((k + 1) < j) = false) := by
          show _ = _
          have := HZ.out ()
          exact decide_eq_false (by omega)
        go_wp2
        go_ret2
        exact ⟨j, HRun.out, by rw [HX.out, HVR.out]; rfl, HR3.out, HO4.out⟩
      · have hb := isEmpty_no ds he
        have HX : Hid (decide ((k + 1) < j) = true) := by
          show _ = _
          have := HZ.out ()
          exact decide_eq_true (by omega)
        go_wp2
        go_ret2
        exact ⟨j, HRun.out, by rw [HX.out, HVR.out]; rfl, HR3.out, HO4.out⟩
set_option maxHeartbeats 1600000 in
theorem exponent_plus (B : Nat) (w : World) (s : ByteArray) (k : Nat) (h : Rd B w s k) (hs : s.size ≤ 1300) (h0 : k < s.size) (h1 : bAt s k = 43) :
    Calls Tryd.prog 13 #[.pointer (some ⟨B, 0, none⟩)] w fun e w' => ∃ j, Run 10 s (k + 1) j ∧ e = .returned (.tuple #[.int .i64 (expV false (runV 10 s (k + 1) j)), .bool (decide ((k + 1) < j))]) ∧ Rd B w' s j ∧ Only B w w' := by
  have H1 : Hid _ := fun (_ : Unit) => is_no' B w s k 45 h (by rw [h1]; omega)
  have H2 : Hid _ := fun w1 (hr : Rd B w1 s k) => is_yes' B w1 s k 43 hr hs h0 h1
  clear h h1
  go_enter Tryd.func13, Tryd.ntmps13
  go_wp2_with fail
  refine (H1.out ()).mono ?_
  rintro x w1 ⟨rfl, hr1, ho1⟩
  have HR1 : Hid (Rd B w1 s k) := hr1
  have HO1 : Hid (Only B w w1) := ho1
  clear H1 hr1 ho1
  go_wp2_with fail
  refine (H2.out _ HR1.out).mono ?_
  rintro x w2 ⟨rfl, hr2, ho2⟩
  have HO2 : Hid (Only B w w2) := HO1.out.trans ho2
  clear H2 ho2
  have HD : Hid _ := fun (_ : Unit) => digits_any B w2 s (k + 1) 10 hr2 hs (by omega)
  clear hr2
  go_wp2_with fail
  refine (HD.out ()).mono ?_
  rintro x w3 ⟨j, hrun, rfl, hr3, ho3⟩
  have HO3 : Hid (Only B w w3) := HO2.out.trans ho3
  have HR3 : Hid (Rd B w3 s j) := hr3
  have HRun : Hid (Run 10 s (k + 1) j) := hrun
  have HG : Hid _ := fun (_ : Unit) => run_good 10 s (k + 1) j hrun
  have hz : (s.extract (k + 1) j).size = j - (k + 1) := by rw [ByteArray.size_extract]; have := hrun.2.1; omega
  have hz13 : (s.extract (k + 1) j).size ≤ 1300 := by have := hrun.2.1; omega
  have HZ : Hid _ := fun (_ : Unit) => hz
  clear hr3 ho3 hrun HD hz
  generalize hds : s.extract (k + 1) j = ds at *
  have HEX : Hid (s.extract (k + 1) j = ds) := hds
  clear hds
  go_wp2
  go_loop [6, 7] (fun a i => ∃ (t : Nat), i = .int .i64 (t : Int) ∧ t ≤ ds.size ∧ ∃ V : Nat, Hid (V = valN 10 (ds.data.toList.take t)) ∧ a = .int .i64 (cap V : Int)) (fun _ i => ds.size - (intOf i).toNat)
  case atStart => exact ⟨0, rfl, Nat.zero_le _, 0, by show 0 = _; rw [List.take_zero, valN_nil], rfl⟩
  case round =>
    obtain ⟨t, rfl, ht, V, HV, rfl⟩ := hrel
    have hcap : (cap V : Int) ≤ 100000 := by unfold cap; omega
    by_cases hlt : t < ds.size
    · have hlt' : (t : Int) < (ds.size : Int) := by omega
      obtain ⟨a1, a2, a3⟩ := ten_digit ds[t] (good_at 10 ds (HG.out ()) t hlt)
      obtain ⟨d, hd⟩ : ∃ d : Nat, (d : Int) = (ds[t].toNat : Int) - 48 := ⟨ds[t].toNat - 48, by omega⟩
      have HS : Hid _ := fun (_ : Unit) => valN_step 10 ds t hlt d (by rw [a3]; exact hd)
      have HC : Hid _ := fun (_ : Unit) => cap_step V d
      have hd' : (ds[t].toNat : Int) - 48 = (d : Int) := hd.symm
      have HV' : Hid (V * 10 + d = valN 10 (ds.data.toList.take (t + 1))) := by
        show _ = _
        rw [HS.out (), HV.out]
      obtain ⟨C, hC⟩ : ∃ C : Int, C = (cap V : Int) := ⟨_, rfl⟩
      have HC' : Hid (C = (cap V : Int)) := hC
      have hC0 : 0 ≤ C := by omega
      have d9 : (d : Int) ≤ 9 := by omega
      have d0 : (0 : Int) ≤ (d : Int) := by omega
      rw [← hC] at hcap ⊢
      clear hd a3 HS hC
      by_cases hov : 100000 < C * 10 + (d : Int)
      · have HX : Hid (Value.int .i64 100000 = .int .i64 (cap (V * 10 + d) : Int)) := by
          show _ = _
          have h1 := HC.out ()
          have h2 := HC'.out
          congr 1
          rw [← h1]; omega
        go_wp2
        refine ⟨⟨t + 1, by simp, by omega, V * 10 + d, HV'.out, HX.out⟩, ?_⟩
        simp only [intOf]; omega
      · have hov' : decide (100000 < C * 10 + (d : Int)) = false := decide_eq_false hov
        have HX : Hid (Value.int .i64 (C * 10 + (d : Int)) = .int .i64 (cap (V * 10 + d) : Int)) := by
          show _ = _
          have h1 := HC.out ()
          have h2 := HC'.out
          congr 1
          rw [← h1]; omega
        go_wp2
        refine ⟨⟨t + 1, by simp, by omega, V * 10 + d, HV'.out, HX.out⟩, ?_⟩
        simp only [intOf]; omega
    · obtain rfl : t = ds.size := by omega
      have HV' : Hid (V = valN 10 ds.data.toList) := by
        show V = _
        rw [HV.out, take_all ds ds.size (Nat.le_refl _)]
      have HO4 : Hid (Only B w w3) := HO3.out
      have HVR : Hid (runV 10 s (k + 1) j = V) := by
        show runV 10 s (k + 1) j = V
        unfold runV
        rw [HEX.out, HV'.out]
      by_cases he : ds.size = 0
      · have hb := isEmpty_yes ds he
        have HX : Hid (decide ((k + 1) < j) = false) := by
          show _ = _
          have := HZ.out ()
          exact decide_eq_false (by omega)
        go_wp2
        go_ret2
        exact ⟨j, HRun.out, by rw [HX.out, HVR.out]; rfl, HR3.out, HO4.out⟩
      · have hb := isEmpty_no ds he
        have HX : Hid (decide ((k + 1) < j) = true) := by
          show _ = _
          have := HZ.out ()
          exact decide_eq_true (by omega)
        go_wp2
        go_ret2
        exact ⟨j, HRun.out, by rw [HX.out, HVR.out]; rfl, HR3.out, HO4.out⟩
set_option maxHeartbeats 1600000 in
theorem exponent_none (B : Nat) (w : World) (s : ByteArray) (k : Nat) (h : Rd B w s k) (hs : s.size ≤ 1300) (hk : k ≤ s.size) (h1 : bAt s k ≠ 45) (h2 : bAt s k ≠ 43) :
    Calls Tryd.prog 13 #[.pointer (some ⟨B, 0, none⟩)] w fun e w' => ∃ j, Run 10 s (k) j ∧ e = .returned (.tuple #[.int .i64 (expV false (runV 10 s (k) j)), .bool (decide ((k) < j))]) ∧ Rd B w' s j ∧ Only B w w' := by
  have H1 : Hid _ := fun (_ : Unit) => is_no' B w s k 45 h h1
  have H2 : Hid _ := fun w1 (hr : Rd B w1 s k) => is_no' B w1 s k 43 hr h2
  clear h h1 h2
  go_enter Tryd.func13, Tryd.ntmps13
  go_wp2_with fail
  refine (H1.out ()).mono ?_
  rintro x w1 ⟨rfl, hr1, ho1⟩
  have HR1 : Hid (Rd B w1 s k) := hr1
  have HO1 : Hid (Only B w w1) := ho1
  clear H1 hr1 ho1
  go_wp2_with fail
  refine (H2.out _ HR1.out).mono ?_
  rintro x w2 ⟨rfl, hr2, ho2⟩
  have HO2 : Hid (Only B w w2) := HO1.out.trans ho2
  clear H2 ho2
  have HD : Hid _ := fun (_ : Unit) => digits_any B w2 s (k) 10 hr2 hs (by omega)
  clear hr2
  go_wp2_with fail
  refine (HD.out ()).mono ?_
  rintro x w3 ⟨j, hrun, rfl, hr3, ho3⟩
  have HO3 : Hid (Only B w w3) := HO2.out.trans ho3
  have HR3 : Hid (Rd B w3 s j) := hr3
  have HRun : Hid (Run 10 s (k) j) := hrun
  have HG : Hid _ := fun (_ : Unit) => run_good 10 s (k) j hrun
  have hz : (s.extract (k) j).size = j - (k) := by rw [ByteArray.size_extract]; have := hrun.2.1; omega
  have hz13 : (s.extract (k) j).size ≤ 1300 := by have := hrun.2.1; omega
  have HZ : Hid _ := fun (_ : Unit) => hz
  clear hr3 ho3 hrun HD hz
  generalize hds : s.extract (k) j = ds at *
  have HEX : Hid (s.extract (k) j = ds) := hds
  clear hds
  go_wp2
  go_loop [6, 7] (fun a i => ∃ (t : Nat), i = .int .i64 (t : Int) ∧ t ≤ ds.size ∧ ∃ V : Nat, Hid (V = valN 10 (ds.data.toList.take t)) ∧ a = .int .i64 (cap V : Int)) (fun _ i => ds.size - (intOf i).toNat)
  case atStart => exact ⟨0, rfl, Nat.zero_le _, 0, by show 0 = _; rw [List.take_zero, valN_nil], rfl⟩
  case round =>
    obtain ⟨t, rfl, ht, V, HV, rfl⟩ := hrel
    have hcap : (cap V : Int) ≤ 100000 := by unfold cap; omega
    by_cases hlt : t < ds.size
    · have hlt' : (t : Int) < (ds.size : Int) := by omega
      obtain ⟨a1, a2, a3⟩ := ten_digit ds[t] (good_at 10 ds (HG.out ()) t hlt)
      obtain ⟨d, hd⟩ : ∃ d : Nat, (d : Int) = (ds[t].toNat : Int) - 48 := ⟨ds[t].toNat - 48, by omega⟩
      have HS : Hid _ := fun (_ : Unit) => valN_step 10 ds t hlt d (by rw [a3]; exact hd)
      have HC : Hid _ := fun (_ : Unit) => cap_step V d
      have hd' : (ds[t].toNat : Int) - 48 = (d : Int) := hd.symm
      have HV' : Hid (V * 10 + d = valN 10 (ds.data.toList.take (t + 1))) := by
        show _ = _
        rw [HS.out (), HV.out]
      obtain ⟨C, hC⟩ : ∃ C : Int, C = (cap V : Int) := ⟨_, rfl⟩
      have HC' : Hid (C = (cap V : Int)) := hC
      have hC0 : 0 ≤ C := by omega
      have d9 : (d : Int) ≤ 9 := by omega
      have d0 : (0 : Int) ≤ (d : Int) := by omega
      rw [← hC] at hcap ⊢
      clear hd a3 HS hC
      by_cases hov : 100000 < C * 10 + (d : Int)
      · have HX : Hid (Value.int .i64 100000 = .int .i64 (cap (V * 10 + d) : Int)) := by
          show _ = _
          have h1 := HC.out ()
          have h2 := HC'.out
          congr 1
          rw [← h1]; omega
        go_wp2
        refine ⟨⟨t + 1, by simp, by omega, V * 10 + d, HV'.out, HX.out⟩, ?_⟩
        simp only [intOf]; omega
      · have hov' : decide (100000 < C * 10 + (d : Int)) = false := decide_eq_false hov
        have HX : Hid (Value.int .i64 (C * 10 + (d : Int)) = .int .i64 (cap (V * 10 + d) : Int)) := by
          show _ = _
          have h1 := HC.out ()
          have h2 := HC'.out
          congr 1
          rw [← h1]; omega
        go_wp2
        refine ⟨⟨t + 1, by simp, by omega, V * 10 + d, HV'.out, HX.out⟩, ?_⟩
        simp only [intOf]; omega
    · obtain rfl : t = ds.size := by omega
      have HV' : Hid (V = valN 10 ds.data.toList) := by
        show V = _
        rw [HV.out, take_all ds ds.size (Nat.le_refl _)]
      have HO4 : Hid (Only B w w3) := HO3.out
      have HVR : Hid (runV 10 s (k) j = V) := by
        show runV 10 s (k) j = V
        unfold runV
        rw [HEX.out, HV'.out]
      by_cases he : ds.size = 0
      · have hb := isEmpty_yes ds he
        have HX : Hid (decide ((k) < j) = false) := by
          show _ = _
          have := HZ.out ()
          exact decide_eq_false (by omega)
        go_wp2
        go_ret2
        exact ⟨j, HRun.out, by rw [HX.out, HVR.out]; rfl, HR3.out, HO4.out⟩
      · have hb := isEmpty_no ds he
        have HX : Hid (decide ((k) < j) = true) := by
          show _ = _
          have := HZ.out ()
          exact decide_eq_true (by omega)
        go_wp2
        go_ret2
        exact ⟨j, HRun.out, by rw [HX.out, HVR.out]; rfl, HR3.out, HO4.out⟩
/-- A sign and digits. -/
theorem exponent_any (B : Nat) (w : World) (s : ByteArray) (k : Nat) (h : Rd B w s k) (hs : s.size ≤ 1300) (hk : k ≤ s.size) (neg : Bool) (k1 : Nat) (hg : Sgn s k neg k1) :
    Calls Tryd.prog 13 #[.pointer (some ⟨B, 0, none⟩)] w fun e w' => ∃ j, Run 10 s k1 j ∧ e = .returned (.tuple #[.int .i64 (expV neg (runV 10 s k1 j)), .bool (decide (k1 < j))]) ∧ Rd B w' s j ∧ Only B w w' := by
  rcases hg with ⟨h0, h1, rfl, rfl⟩ | ⟨h0, h1, rfl, rfl⟩ | ⟨h1, h2, rfl, rfl⟩
  · exact exponent_minus B w s k h hs h0 h1
  · exact exponent_plus B w s k h hs h0 h1
  · exact exponent_none B w s k1 h hs hk h1 h2
end Go.Proofs.YtapiifeklimncaaDoor

/- The state between ReadFlt's statements. -/
namespace Go.Proofs.YtapiifeklimncaaDoor
open Go.ChangeShapes Go.WideShapes Go.RowKit

/-- Between the statements: the result's block R is as it was laid, the reader stands at k. -/
def St (w wc : World) (s : ByteArray) (k : Nat) : Prop :=
  Below w.heap.size w wc ∧ Rd (w.heap.size + 1) wc s k ∧ w.heap.size + 2 ≤ wc.heap.size
  ∧ wc.cell? ⟨w.heap.size, 0, none⟩ = some (.bool false) ∧ wc.cell? ⟨w.heap.size, 1, none⟩ = some (.int .i64 0) ∧ wc.cell? ⟨w.heap.size, 2, none⟩ = some (.float .f64 0)
  ∧ wc.frozen? ⟨w.heap.size, 0, none⟩ = false ∧ wc.frozen? ⟨w.heap.size, 1, none⟩ = false ∧ wc.frozen? ⟨w.heap.size, 2, none⟩ = false
theorem St.only {w wc w' : World} {s : ByteArray} {k j : Nat} (h : St w wc s k) (ho : Only (w.heap.size + 1) wc w') (hr : Rd (w.heap.size + 1) w' s j) : St w w' s j := by
  obtain ⟨h1, _, h3, c0, c1, c2, f0, f1, f2⟩ := h
  refine ⟨h1.trans (ho.below (by omega)), hr, by rw [ho.2.2.2.1]; exact h3, ?_, ?_, ?_, ?_, ?_, ?_⟩
  · rw [ho.cell (p := ⟨w.heap.size, 0, none⟩) (by show w.heap.size ≠ _; omega)]; exact c0
  · rw [ho.cell (p := ⟨w.heap.size, 1, none⟩) (by show w.heap.size ≠ _; omega)]; exact c1
  · rw [ho.cell (p := ⟨w.heap.size, 2, none⟩) (by show w.heap.size ≠ _; omega)]; exact c2
  · rw [ho.frozen (p := ⟨w.heap.size, 0, none⟩) (by show w.heap.size ≠ _; omega)]; exact f0
  · rw [ho.frozen (p := ⟨w.heap.size, 1, none⟩) (by show w.heap.size ≠ _; omega)]; exact f1
  · rw [ho.frozen (p := ⟨w.heap.size, 2, none⟩) (by show w.heap.size ≠ _; omega)]; exact f2
theorem St.below {w wc w' : World} {s : ByteArray} {k : Nat} (h : St w wc s k) (hb : Below wc.heap.size wc w') : St w w' s k := by
  obtain ⟨h1, h2, h3, c0, c1, c2, f0, f1, f2⟩ := h
  have hl : w.heap.size < wc.heap.size := by omega
  refine ⟨h1.trans (hb.mono h1.size), h2.below hb (by omega), Nat.le_trans h3 hb.size, ?_, ?_, ?_, ?_, ?_, ?_⟩
  · rw [hb.cell (p := ⟨w.heap.size, 0, none⟩) hl]; exact c0
  · rw [hb.cell (p := ⟨w.heap.size, 1, none⟩) hl]; exact c1
  · rw [hb.cell (p := ⟨w.heap.size, 2, none⟩) hl]; exact c2
  · rw [hb.frozen (p := ⟨w.heap.size, 0, none⟩) hl]; exact f0
  · rw [hb.frozen (p := ⟨w.heap.size, 1, none⟩) hl]; exact f1
  · rw [hb.frozen (p := ⟨w.heap.size, 2, none⟩) hl]; exact f2
theorem St.drewN {w wc : World} {s : ByteArray} {k : Nat} (h : St w wc s k) (n : Nat) : St w (wc.drewN n) s k := h.below (below_drewN (Below.refl _ _) n)
theorem St.start (w : World) (s : ByteArray) (T U : Nat) : St w ((w.alloc (.cells #[.bool false, .int .i64 0, .float .f64 0] T)).alloc (.cells #[.string s, .int .i64 0] U)) s 0 :=
  ⟨((Below.refl _ w).alloc (Nat.le_refl _) _).alloc (by simp) _, ⟨by simp [go_sem], by simp [go_sem], by simp [go_sem]⟩, by simp, by simp [go_sem], by simp [go_sem], by simp [go_sem], by simp [go_sem], by simp [go_sem], by simp [go_sem]⟩
end Go.Proofs.YtapiifeklimncaaDoor

/- Big numbers as lists of parts of 32 bits: plain facts; no program is spoken of here. -/
namespace Go.Proofs.YtapiifeklimncaaDoor
open Go.RowKit

/-- The value of parts, the lowest first. -/
def bval : List Nat → Nat
  | [] => 0
  | x :: r => x + 4294967296 * bval r
def Lim (ls : List Nat) : Prop := ∀ x ∈ ls, x < 4294967296
/-- The parts without zeros at their end. -/
def btrim : List Nat → List Nat
  | [] => []
  | x :: r => if btrim r = [] ∧ x = 0 then [] else x :: btrim r
theorem bval_append (a b : List Nat) : bval (a ++ b) = bval a + 4294967296 ^ a.length * bval b := by
  induction a with
  | nil => simp [bval]
  | cons x r ih =>
    simp only [List.cons_append, bval, ih, List.length_cons, Nat.pow_succ, Nat.mul_add]
    rw [← Nat.mul_assoc, Nat.mul_comm 4294967296 (4294967296 ^ r.length)]
    omega
theorem bval_trim (a : List Nat) : bval (btrim a) = bval a := by
  induction a with
  | nil => rfl
  | cons x r ih =>
    unfold btrim
    split
    · rename_i h
      rw [h.1] at ih
      simp only [bval] at ih ⊢
      omega
    · simp only [bval, ih]
theorem btrim_length (a : List Nat) : (btrim a).length ≤ a.length := by
  induction a with
  | nil => exact Nat.le_refl _
  | cons x r ih =>
    unfold btrim
    split <;> simp <;> omega
theorem btrim_prefix (a : List Nat) : btrim a = a.take (btrim a).length := by
  induction a with
  | nil => rfl
  | cons x r ih =>
    unfold btrim
    split
    · simp
    · simp only [List.length_cons, List.take_succ_cons]; rw [← ih]
theorem btrim_lim {a : List Nat} (h : Lim a) : Lim (btrim a) := by
  intro x hx
  rw [btrim_prefix] at hx
  exact h x (List.mem_of_mem_take hx)
theorem btrim_snoc_zero (a : List Nat) : btrim (a ++ [0]) = btrim a := by
  induction a with
  | nil => simp [btrim]
  | cons x r ih => simp only [List.cons_append, btrim, ih]
theorem btrim_snoc (a : List Nat) (x : Nat) (hx : x ≠ 0) : btrim (a ++ [x]) = a ++ [x] := by
  induction a with
  | nil => simp [btrim, hx]
  | cons y r ih => simp [btrim, ih]
/-- No zero at the end. -/
def Trim (ls : List Nat) : Prop := btrim ls = ls
theorem btrim_trim (a : List Nat) : Trim (btrim a) := by
  unfold Trim
  induction a with
  | nil => rfl
  | cons x r ih =>
    by_cases h : btrim r = [] ∧ x = 0
    · simp [btrim, h]
    · have e : btrim (x :: r) = x :: btrim r := by simp only [btrim]; rw [if_neg h]
      rw [e]
      simp only [btrim, ih]
      rw [if_neg h]
theorem part_snoc (a : List Nat) (k : Nat) (h : k < a.length) : a.take (k + 1) = a.take k ++ [a.getD k 0] := by
  rw [List.take_add_one, List.getElem?_eq_getElem h]
  simp [List.getElem?_eq_getElem h]
theorem trim_take_zero (a : List Nat) (k : Nat) (h : k < a.length) (hz : a.getD k 0 = 0) : btrim (a.take (k + 1)) = btrim (a.take k) := by
  rw [part_snoc a k h, hz, btrim_snoc_zero]
theorem trim_take_some (a : List Nat) (k : Nat) (h : k < a.length) (hz : a.getD k 0 ≠ 0) : btrim (a.take (k + 1)) = a.take (k + 1) := by
  rw [part_snoc a k h, btrim_snoc _ _ hz]
theorem bval_lt {a : List Nat} (h : Lim a) : bval a < 4294967296 ^ a.length := by
  induction a with
  | nil => simp [bval]
  | cons x r ih =>
    have hx := h x (by simp)
    have hr := ih fun y hy => h y (by simp [hy])
    simp only [bval, List.length_cons, Nat.pow_succ]
    generalize 4294967296 ^ r.length = q at *
    omega
theorem trim_last {a : List Nat} (ht : Trim a) (hn : a ≠ []) : 4294967296 ^ (a.length - 1) ≤ bval a ∧ a.getD (a.length - 1) 0 ≠ 0 := by
  induction a with
  | nil => exact absurd rfl hn
  | cons x r ih =>
    by_cases hr : r = []
    · subst hr
      unfold Trim at ht
      by_cases hx : x = 0
      · subst hx; simp [btrim] at ht
      · simp [bval, hx]; omega
    · have htr : Trim r := by
        unfold Trim at ht ⊢
        by_cases h : btrim r = [] ∧ x = 0
        · simp only [btrim] at ht; rw [if_pos h] at ht; cases ht
        · simp only [btrim] at ht; rw [if_neg h] at ht; exact (List.cons.inj ht).2
      obtain ⟨i1, i2⟩ := ih htr hr
      have hl : 0 < r.length := List.length_pos_iff.2 hr
      obtain ⟨n, hn'⟩ : ∃ n, r.length = n + 1 := ⟨r.length - 1, by omega⟩
      constructor
      · simp only [bval, List.length_cons, Nat.add_sub_cancel]
        rw [hn'] at i1 ⊢
        rw [Nat.add_sub_cancel] at i1
        rw [Nat.pow_succ]
        omega
      · rw [List.length_cons, Nat.add_sub_cancel, hn'] 
        rw [hn', Nat.add_sub_cancel] at i2
        simpa using i2
theorem trim_nil_iff {a : List Nat} (ht : Trim a) : a = [] ↔ bval a = 0 := by
  constructor
  · rintro rfl; rfl
  · intro h
    apply Classical.byContradiction
    intro hn
    have := (trim_last ht hn).1
    have := Nat.pow_pos (n := a.length - 1) (show 0 < 4294967296 by omega)
    omega
theorem take_val (a : List Nat) (k : Nat) (h : k < a.length) : bval (a.take (k + 1)) = bval (a.take k) + 4294967296 ^ k * a.getD k 0 := by
  rw [part_snoc a k h, bval_append, List.length_take, Nat.min_eq_left (by omega)]
  simp [bval]
end Go.Proofs.YtapiifeklimncaaDoor

