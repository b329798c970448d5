import Derived.Test.YtpmccbkhkaoccaaGreatDoorB35
import Derived.Test.YtpmccbkhkaoccaaGreatDoorB44
import Derived.Test.YtpmccbkhkaoccaaGreatDoorB03
import Derived.Test.YtpmccbkhkaoccaaGreatDoorB25
import Derived.Test.YtpmccbkhkaoccaaGreatDoorB41
/- largeOf of the program's numbers. -/
namespace Go.Proofs.YtpmccbkhkaoccaaGreatDoor
open Go.ChangeShapes Go.WideShapes Go.RowKit

set_option maxHeartbeats 1000000 in
set_option maxRecDepth 100000 in
theorem largeOf_any (m : Nat) (hm53 : m ≤ 9007199254740992) (w : World) : Calls Tryz.prog 67 #[.int .u64 (m : Int)] w fun e w' => ∃ c, c ≤ 2 ∧ cntOk c m ∧ e = .returned (lgV c m) ∧ Below w.heap.size w w' := by
  have hm0 : 0 * 1 + m = m := by omega
  have hz := lg_zero
  rw [dg_nil] at hz
  obtain ⟨C, hC⟩ : ∃ C, blk 0 (dg 0) [] = C := ⟨_, rfl⟩
  have HC : Hid (blk 0 (dg 0) [] = C) := hC
  rw [hC] at hz
  clear hC
  obtain ⟨W, hW⟩ : ∃ W, (w.alloc (.cells C 112)).alloc (.cells C 112) = W := ⟨_, rfl⟩
  have HW : Hid ((w.alloc (.cells C 112)).alloc (.cells C 112) = W) := hW
  go_enter Tryz.func67, Tryz.ntmps67
  go_wp2_with fail
  have HA : Hid (LB W w.heap.size 0 (dg 0) [] 112) := by
    have h := ((LB.new w 0 (dg 0) [] 112).alloc (.cells C 112))
    rw [HC.out] at h; rw [← HW.out]; exact h
  have HB : Hid (Lg W (w.heap.size + 1) 0 [] 112) := by
    refine ⟨0, by omega, cnt_zero, ?_⟩
    have h := LB.new (w.alloc (.cells C 112)) 0 (dg 0) [] 112
    rw [HC.out] at h
    rw [← HW.out, show w.heap.size + 1 = (w.alloc (.cells C 112)).heap.size by simp]
    exact h
  have HM : Hid (Below w.heap.size w W) := by rw [← HW.out]; exact ((Below.refl _ w).alloc (Nat.le_refl _) _).alloc (by simp) _
  clear hW hz
  refine (mul_any (w.heap.size + 1) 0 1 m [] 112 W HB.out (by omega) (by omega) hm53 (Nat.lt_of_lt_of_le (by rw [be_eq]; omega : 0 * 1 + m < be ^ 2) (bpow_le (by omega)))).mono ?_
  rintro e w1 ⟨rfl, hm, hg⟩
  have HA1 : Hid (LB w1 w.heap.size 0 (dg 0) [] 112) := HA.out.other hm (by omega)
  obtain ⟨c, hc, hk, hl⟩ := hg
  rw [hm0] at hl hk
  have hc2 : c ≤ 2 := cnt_le hk (by rw [be_eq]; omega)
  have HCK : Hid (cntOk c m) := hk
  have HM1 : Hid (Below w.heap.size w (w1.setRow w.heap.size (lgL c (dg m)).toArray)) := by
    have h1 := (Mod.refl w.heap.size w1).setRow (lgL c (dg m)).toArray
    exact (HM.out.trans (hm.below (by omega) HM.out.size)).trans (h1.below (Nat.le_refl _) (Nat.le_trans HM.out.size hm.size))
  have HS : Hid (LB (w1.setRow w.heap.size (lgL c (dg m)).toArray) w.heap.size c (dg m) [] 112) := HA1.out.stored
  have HL : Hid (LB w1 (w.heap.size + 1) c (dg m) [] 112) := hl
  have hst := HA1.out.cells c (dg m)
  have hln := lgL_length c (dg m)
  clear hm hl hk hc
  go_wp2
  refine HL.out.wpLoad _ rfl rfl ?_
  go_at_K
  go_wp2
  obtain ⟨d, hd, hr⟩ := lg_desc
  have hs := HS.out
  unfold LB at hs
  rw [← blk_nil] at hs
  refine bodyPost_ret (v := lgV c m) (results_cell_row (P := Tryz.prog) rfl _ _ w.heap.size _ (lgL c (dg m)).toArray (0, 0) d rfl hs hd (by cases d <;> simp_all [TypeDesc.isRow]) (by rw [List.size_toArray, lgL_length]; exact lg_size)) rfl ?_
  exact ⟨c, hc2, HCK.out, rfl, HM1.out⟩
end Go.Proofs.YtpmccbkhkaoccaaGreatDoor

/- strings.TrimRight at one byte. -/
namespace Go.Proofs.YtpmccbkhkaoccaaGreatDoor
open Go.ChangeShapes Go.WideShapes Go.RowKit

/-- While bytes at the end are left out. -/
def TrimW (c : UInt8) (s t : ByteArray) : Prop := ∃ j, s.data.toList = t.data.toList ++ List.replicate j c
theorem trimW_step {c : UInt8} {s t : ByteArray} (h : TrimW c s t) (h0 : 0 < t.size) (hc : t[t.size - 1].toNat = c.toNat) : TrimW c s (t.extract 0 (t.size - 1)) := by
  obtain ⟨j, hj⟩ := h
  refine ⟨j + 1, ?_⟩
  rw [hj, last_cut t h0, UInt8.toNat_inj.1 hc, List.append_assoc, List.replicate_succ]
  rfl
def strLen (v : Value) : Nat := match v with | .string t => t.size | _ => 0
set_option maxHeartbeats 1000000 in
set_option maxRecDepth 100000 in
theorem trimByte_any (s : ByteArray) (c : UInt8) (hs : s.size ≤ 100000) (w : World) :
    Calls Tryz.prog 119 #[.string s, .int .u8 (c.toNat : Int)] w fun e w' => ∃ t, TrimR c s t ∧ t.size ≤ s.size ∧ e = .returned (.string t) ∧ w' = w := by
  go_enter Tryz.func119, Tryz.ntmps119
  go_wp2
  go_loopw [0] (fun v wl => ∃ t : ByteArray, v = .string t ∧ t.size ≤ s.size ∧ Hid (TrimW c s t) ∧ wl = w) (fun v _ => strLen v)
  case atStart => exact ⟨s, rfl, Nat.le_refl _, ⟨0, by simp⟩, rfl⟩
  case round =>
    obtain ⟨t, rfl, hts, HT, rfl⟩ := hrel
    have hts' : (t.size : Int) ≤ 100000 := by omega
    by_cases h1 : 0 < t.size
    · obtain ⟨k, hk⟩ : ∃ k, t.size = k + 1 := ⟨t.size - 1, by omega⟩
      have hk1 : t.size - 1 = k := by omega
      have hkl : k < t.size := by omega
      have hki : (t.size : Int) - 1 = (k : Int) := by omega
      have h1' : (0 : Int) < (t.size : Int) := by omega
      by_cases hz : t[k].toNat = c.toNat
      · have HN : Hid (TrimW c s (t.extract 0 k)) := by
          have := trimW_step HT.out h1 (by simp only [hk1]; exact hz)
          rw [hk1] at this
          exact this
        have hz2 : (t[k].toNat : Int) = (c.toNat : Int) := by omega
        have hes : (t.extract 0 k).size = k := by simp; omega
        clear hk hk1
        go_wp2
        exact ⟨⟨_, rfl, by omega, HN.out, trivial⟩, by show (t.extract 0 k).size < t.size; omega⟩
      · have HX : Hid (TrimR c s t) := ⟨HT.out, fun _ => by simp only [hk1]; exact hz⟩
        have hz2 : ((t[k].toNat : Int) == (c.toNat : Int)) = false := beq_eq_false_iff_ne.2 (by omega)
        have hz3 : ¬ (t[k].toNat : Int) = (c.toNat : Int) := by omega
        clear hk hk1
        go_wp2
        go_ret
        exact ⟨t, HX.out, hts, rfl, rfl⟩
    · have HX : Hid (TrimR c s t) := ⟨HT.out, fun h => by omega⟩
      have h1' : decide ((0 : Int) < (t.size : Int)) = false := decide_eq_false (by omega)
      go_wp2
      go_ret
      exact ⟨t, HX.out, hts, rfl, rfl⟩
theorem trimR_empty (c : UInt8) : TrimR c ⟨#[]⟩ ⟨#[]⟩ := ⟨⟨0, rfl⟩, fun h => by exact absurd h (by decide)⟩
theorem list_empty (s : ByteArray) (h : s.size = 0) : s.toList.isEmpty = true := by
  rw [ByteArray.toList_eq, List.isEmpty_iff]
  exact List.length_eq_zero_iff.1 (by rw [data_len]; exact h)
theorem list_some (s : ByteArray) (h : s.size ≠ 0) : s.toList.isEmpty = false := by
  apply Bool.eq_false_iff.2
  intro hc
  have h1 : s.toList = [] := List.isEmpty_iff.1 hc
  apply h
  rw [← data_len, ← ByteArray.toList_eq, h1]
  rfl
set_option maxHeartbeats 1000000 in
set_option maxRecDepth 100000 in
theorem trimRight_zero (s : ByteArray) (hs : s.size ≤ 100000) (w : World) :
    Calls Tryz.prog 101 #[.string s, .string ⟨#[48]⟩] w fun e w' => ∃ t, TrimR 48 s t ∧ t.size ≤ s.size ∧ e = .returned (.string t) ∧ w' = w := by
  have HT : Hid _ := fun (w : World) => trimByte_any s 48 hs w
  by_cases h0 : s.size = 0
  · have he := list_empty s h0
    have HX : Hid (TrimR 48 s s) := ⟨⟨0, by simp⟩, fun h => by omega⟩
    clear HT
    go_enter Tryz.func101, Tryz.ntmps101
    go_wp2
    go_ret
    exact ⟨_, HX.out, Nat.le_refl _, rfl, rfl⟩
  · have he := list_some s h0
    go_enter Tryz.func101, Tryz.ntmps101
    go_wp2_with fail
    refine (HT.out _).mono ?_
    rintro e w' ⟨t, htr, hsz, rfl, rfl⟩
    have HX : Hid (TrimR 48 s t) := htr
    clear htr
    go_wp2
    go_ret
    exact ⟨t, HX.out, hsz, rfl, rfl⟩
set_option maxHeartbeats 1000000 in
set_option maxRecDepth 100000 in
theorem trimRight_nine (s : ByteArray) (hs : s.size ≤ 100000) (w : World) :
    Calls Tryz.prog 101 #[.string s, .string ⟨#[57]⟩] w fun e w' => ∃ t, TrimR 57 s t ∧ t.size ≤ s.size ∧ e = .returned (.string t) ∧ w' = w := by
  have HT : Hid _ := fun (w : World) => trimByte_any s 57 hs w
  by_cases h0 : s.size = 0
  · have he := list_empty s h0
    have HX : Hid (TrimR 57 s s) := ⟨⟨0, by simp⟩, fun h => by omega⟩
    clear HT
    go_enter Tryz.func101, Tryz.ntmps101
    go_wp2
    go_ret
    exact ⟨_, HX.out, Nat.le_refl _, rfl, rfl⟩
  · have he := list_some s h0
    go_enter Tryz.func101, Tryz.ntmps101
    go_wp2_with fail
    refine (HT.out _).mono ?_
    rintro e w' ⟨t, htr, hsz, rfl, rfl⟩
    have HX : Hid (TrimR 57 s t) := htr
    clear htr
    go_wp2
    go_ret
    exact ⟨t, HX.out, hsz, rfl, rfl⟩
end Go.Proofs.YtpmccbkhkaoccaaGreatDoor

/- trimmed and countUp of the program. -/
namespace Go.Proofs.YtpmccbkhkaoccaaGreatDoor
open Go.ChangeShapes Go.WideShapes Go.RowKit

set_option maxHeartbeats 2000000 in
set_option maxRecDepth 100000 in
theorem trimmed_any (s : ByteArray) (x : Int) (hs : s.size ≤ 100000) (w : World) :
    Calls Tryz.prog 72 #[.string s, .int .i64 x] w fun e w' => ∃ t y, (∃ u, TrimR 48 s u ∧ ((u.size = 0 ∧ t = ⟨#[]⟩ ∧ y = 0) ∨ (0 < u.size ∧ t = u ∧ y = x))) ∧ t.size ≤ s.size ∧ e = .returned (.agg #[.string t, .int .i64 y]) ∧ Below w.heap.size w w' := by
  have HT : Hid _ := fun (w : World) => trimRight_zero s hs w
  go_enter Tryz.func72, Tryz.ntmps72
  go_wp2_with fail
  refine (HT.out _).mono ?_
  rintro e w' ⟨t, htr, hsz, rfl, rfl⟩
  have HX : Hid (TrimR 48 s t) := htr
  clear htr
  by_cases h0 : t.size = 0
  · have he := list_empty t h0
    go_wp2
    refine bodyPost_ret (v := .agg #[.string ⟨#[]⟩, .int .i64 0]) (by simp [results, Tryz.results72, go_sem]) rfl ⟨⟨#[]⟩, 0, ⟨t, HX.out, .inl ⟨h0, rfl, rfl⟩⟩, Nat.zero_le _, rfl, (by repeat (first | with_reducible exact Below.refl _ _ | with_reducible refine Below.alloc ?_ (by simp <;> omega) _ | with_reducible refine Below.setCell ?_ (by simp <;> omega) _))⟩
  · have he := list_some t h0
    go_wp2
    refine bodyPost_ret (v := .agg #[.string t, .int .i64 x]) (by simp [results, Tryz.results72, go_sem]) rfl ⟨t, x, ⟨t, HX.out, .inr ⟨by omega, rfl, rfl⟩⟩, hsz, rfl, (by repeat (first | with_reducible exact Below.refl _ _ | with_reducible refine Below.alloc ?_ (by simp <;> omega) _ | with_reducible refine Below.setCell ?_ (by simp <;> omega) _))⟩
set_option maxHeartbeats 2000000 in
set_option maxRecDepth 100000 in
theorem countUp_any (ds : ByteArray) (x : Int) (n : Nat) (hs : ds.size ≤ 2000) (hx : -10000 ≤ x) (hx' : x ≤ 10000) (hn : n ≤ ds.size) (hg : good 10 ds.data.toList) (w : World) :
    Calls Tryz.prog 102 #[.agg #[.string ds, .int .i64 x], .int .i64 (n : Int)] w fun e w' => ∃ t y, HighD ds x n t y ∧ e = .returned (.agg #[.string t, .int .i64 y]) ∧ Below w.heap.size w w' := by
  have hsz := take_size ds n hn
  have HT : Hid _ := fun (w : World) => trimRight_nine (ds.extract 0 n) (by omega) w
  have hn' : (n : Int) ≤ (ds.size : Int) := by omega
  have hs' : (ds.size : Int) ≤ 2000 := by omega
  go_enter Tryz.func102, Tryz.ntmps102
  go_wp2_with fail
  refine (HT.out _).mono ?_
  rintro e w' ⟨u, htr, huz, rfl, rfl⟩
  have HX : Hid (TrimR 57 (ds.extract 0 n) u) := htr
  clear htr HT
  obtain ⟨Wb, hWb⟩ : ∃ Wb, (w.alloc (.cells #[.string ds, .int .i64 x] 51)).alloc (.cells #[.string ⟨#[]⟩, .int .i64 0] 51) = Wb := ⟨_, rfl⟩
  have hWz : Wb.heap.size = w.heap.size + 2 := by rw [← hWb]; simp
  have b1 : Wb.cell? ⟨w.heap.size, 1, none⟩ = some (.int .i64 x) := by rw [← hWb]; simp [go_sem]
  have r0 : Wb.cell? ⟨w.heap.size + 1, 0, none⟩ = some (.string ⟨#[]⟩) := by rw [← hWb]; simp [go_sem]
  have r1 : Wb.cell? ⟨w.heap.size + 1, 1, none⟩ = some (.int .i64 0) := by rw [← hWb]; simp [go_sem]
  have g0 : Wb.frozen? ⟨w.heap.size + 1, 0, none⟩ = false := by rw [← hWb]; simp [go_sem]
  have g1 : Wb.frozen? ⟨w.heap.size + 1, 1, none⟩ = false := by rw [← hWb]; simp [go_sem]
  have HBb : Hid (Below w.heap.size w Wb) := by rw [← hWb]; exact ((Below.refl _ _).alloc (Nat.le_refl _) _).alloc (by simp) _
  rw [hWb]
  clear hWb
  obtain ⟨cap, W, hrun, hB, hlt, hcl, hfr⟩ := bytes_new Wb u
  have hb1 : W.cell? ⟨w.heap.size, 1, none⟩ = some (.int .i64 x) := (hB.cell (p := ⟨w.heap.size, 1, none⟩) (by show w.heap.size < _; omega)).trans b1
  have hr0 : W.cell? ⟨w.heap.size + 1, 0, none⟩ = some (.string ⟨#[]⟩) := (hB.cell (p := ⟨w.heap.size + 1, 0, none⟩) (by show w.heap.size + 1 < _; omega)).trans r0
  have hr1 : W.cell? ⟨w.heap.size + 1, 1, none⟩ = some (.int .i64 0) := (hB.cell (p := ⟨w.heap.size + 1, 1, none⟩) (by show w.heap.size + 1 < _; omega)).trans r1
  have hg0 : W.frozen? ⟨w.heap.size + 1, 0, none⟩ = false := (hB.frozen (p := ⟨w.heap.size + 1, 0, none⟩) (by show w.heap.size + 1 < _; omega)).trans g0
  have hg1 : W.frozen? ⟨w.heap.size + 1, 1, none⟩ = false := (hB.frozen (p := ⟨w.heap.size + 1, 1, none⟩) (by show w.heap.size + 1 < _; omega)).trans g1
  have HBW : Hid (Below w.heap.size w W) := HBb.out.trans (hB.mono (by omega))
  have HU : Hid (UpSt u Wb.heap.size u.size W W) := ⟨Only.refl _ _, fun j h _ => hcl j h, fun j h hk => by omega, hfr⟩
  have hus : (u.size : Int) ≤ 2000 := by omega
  rw [hWz] at hrun HU
  clear b1 r0 r1 g0 g1 hcl hfr hB hlt hWz
  by_cases h0 : u.size = 0
  · have h0' : (u.size : Int) = 0 := by omega
    go_wp2
    refine bodyPost_ret (v := .agg #[.string ⟨#[49]⟩, .int .i64 (x + 1)]) (by simp [results, Tryz.results102, go_sem, hr0, hr1]) rfl ⟨⟨#[49]⟩, x + 1, ⟨u, HX.out, .inl ⟨h0, rfl, rfl⟩⟩, rfl, ?_⟩
    exact (HBW.out.setCell (p := ⟨w.heap.size + 1, 0, none⟩) (by simp) _).setCell (p := ⟨w.heap.size + 1, 1, none⟩) (by simp) _
  · obtain ⟨k, hk⟩ : ∃ k, u.size = k + 1 := ⟨u.size - 1, by omega⟩
    have hkl : k < u.size := by omega
    have hki : (u.size : Int) - 1 = (k : Int) := by omega
    have h0' : ¬ (u.size : Int) = 0 := by omega
    rw [hk] at HU
    have hx0 := HU.out.2.1 k hkl (by omega)
    have hf0 := HU.out.2.2.2 k hkl
    have hgu : good 10 u.data.toList := by
      obtain ⟨⟨j, hj⟩, _⟩ := HX.out
      exact fun c hc => good_take ds 0 n hg c (by rw [hj]; exact List.mem_append_left _ hc)
    obtain ⟨d1, d2, _⟩ := good_digit u[k] (good_at 10 u hgu k hkl)
    have d3 : u[k].toNat ≠ 57 := by
      have := HX.out.2 (by omega)
      simp only [show u.size - 1 = k by omega] at this
      exact this
    have hb := byte_up u[k] d2
    have hcv := HU.out.text hkl (UInt8.ofNat (u[k].toNat + 1)) cap
    rw [hb] at hcv
    have HD : Hid (HighD ds x n ⟨(u.data.toList.take k ++ [UInt8.ofNat (u[k].toNat + 1)] ++ List.replicate (u.data.toList.length - (k + 1)) 48).toArray⟩ x) := by
      refine ⟨u, HX.out, .inr ⟨by omega, ⟨UInt8.ofNat (u[k].toNat + 1), fun _ => ?_, ?_⟩, rfl⟩⟩
      · simp only [show u.size - 1 = k by omega]
        exact hb
      · rw [show u.size - 1 = k by omega, ext_list, List.drop_zero, Nat.sub_zero, data_len, show u.size - (k + 1) = 0 by omega]
        simp
    generalize (⟨(u.data.toList.take k ++ [UInt8.ofNat (u[k].toNat + 1)] ++ List.replicate (u.data.toList.length - (k + 1)) 48).toArray⟩ : ByteArray) = Z at *
    obtain ⟨c, hc⟩ : ∃ c : Int, c = (u[k].toNat : Int) := ⟨_, rfl⟩
    rw [show ((u[k].toNat + 1 : Nat) : Int) = c + 1 by omega] at hcv
    rw [← hc] at hx0
    have hc0 : 48 ≤ c := by omega
    have hc1 : c ≤ 56 := by omega
    clear hc d1 d2 d3 hb hk hgu
    go_wp2
    refine bodyPost_ret (v := .agg #[.string Z, .int .i64 x]) (by simp [results, Tryz.results102, go_sem, hr0, hr1]) rfl ⟨Z, x, HD.out, rfl, ?_⟩
    exact ((HBW.out.setCell (p := ⟨w.heap.size + 2, k, none⟩) (by simp) _).setCell (p := ⟨w.heap.size + 1, 0, none⟩) (by simp) _).setCell (p := ⟨w.heap.size + 1, 1, none⟩) (by simp) _
end Go.Proofs.YtpmccbkhkaoccaaGreatDoor

/- A statement outside of rounds, walked without a fence. -/
namespace Go.Proofs.YtpmccbkhkaoccaaGreatDoor
open Go.RowKit Go.Shelf

/-- Outside of rounds, and where nothing is fenced. -/
theorem wpIn_of_wp {P : Program} {n : Nat} {c : Go.Code} {Q : Exit → Act → World → Prop} {a : Act} {w : World} (h : c.wp P (normalOnly Q) a w) : c.wpIn Fence.wide n P Q a w := by
  intro b k cs hro _ _
  obtain ⟨e, a', w', hq, harr⟩ := h b k cs
  have hr : b.roundOf = none := hro
  have hat : ∀ a k, b.atR a k = b.at a k := fun a k => by
    unfold Frame.atR Frame.at
    rw [hr]
  refine ⟨e, a', w', ?_, ?_⟩
  · cases e
    · exact hq
    all_goals exact hq.elim
  · cases e
    · show StepsIn _ _ _ _
      rw [hat, hat]
      exact stepsIn_wide.2 harr
    all_goals exact hq.elim
end Go.Proofs.YtpmccbkhkaoccaaGreatDoor

