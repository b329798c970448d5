import Derived.Test.YtpmccbkhkaoccaaDoorA16
import Derived.Test.YtpmccbkhkaoccaaDoorA24
import Derived.Test.YtpmccbkhkaoccaaDoorA25
import Derived.Test.YtpmccbkhkaoccaaDoorA22
/- l5up of the specification. -/
namespace Go.Proofs.YtpmccbkhkaoccaaDoor
open Go.ChangeShapes Go.WideShapes Go.RowKit

/-- The bytes of a text, laid anew. -/
theorem bytes_new (w : World) (s : ByteArray) : ∃ cap W, (convert 9 78 (.string s)).run Tryd.prog w = .ok (.slice (some ⟨w.heap.size, 0, none⟩) s.size cap) W ∧ Below w.heap.size w W ∧ w.heap.size < W.heap.size
    ∧ (∀ j (h : j < s.size), W.cell? ⟨w.heap.size, j, none⟩ = some (.int .u8 (s[j].toNat : Int))) ∧ (∀ j, j < s.size → W.frozen? ⟨w.heap.size, j, none⟩ = false) := by
  refine ⟨_, _, run_bytes_of_string (P := Tryd.prog) w 9 78 5 s Tryd.underlying9 Tryd.underlying78 Tryd.underlying5, ((Below.refl _ _).drew).alloc (Nat.le_refl _) _, by simp, ?_, ?_⟩
  · intro j h
    have hb : (w.drew.alloc (.cells (bytesRow s (grownCap w s.size 0 5)) 5 ((bytesRow s (grownCap w s.size 0 5)).size, (bytesRow s (grownCap w s.size 0 5)).size + 1))).heap[w.heap.size]? = some (.cells (bytesRow s (grownCap w s.size 0 5)) 5 ((bytesRow s (grownCap w s.size 0 5)).size, (bytesRow s (grownCap w s.size 0 5)).size + 1)) := by
      show (w.heap.push _)[w.heap.size]? = _
      simp
    have hc : (bytesRow s (grownCap w s.size 0 5))[j]? = some (.int .u8 (s[j].toNat : Int)) := by
      unfold bytesRow
      have hl : j < (s.data.map fun b => Value.int .u8 (b.toNat : Int)).size := by simpa using h
      rw [Array.getElem?_append_left hl, Array.getElem?_eq_getElem hl]
      simp [ByteArray.getElem_eq_getElem_data]
    simp only [World.cell?, hb]
    simpa using hc
  · intro j h
    have hb : (w.drew.alloc (.cells (bytesRow s (grownCap w s.size 0 5)) 5 ((bytesRow s (grownCap w s.size 0 5)).size, (bytesRow s (grownCap w s.size 0 5)).size + 1))).heap[w.heap.size]? = some (.cells (bytesRow s (grownCap w s.size 0 5)) 5 ((bytesRow s (grownCap w s.size 0 5)).size, (bytesRow s (grownCap w s.size 0 5)).size + 1)) := by
      show (w.heap.push _)[w.heap.size]? = _
      simp
    have hsz : j < (bytesRow s (grownCap w s.size 0 5)).size := by
      unfold bytesRow
      simp
      have : s.data.size = s.size := rfl
      omega
    simp only [World.frozen?, hb]
    simp
    omega
/-- The bytes while nines are turned to zeros: those ahead of k as they were, those behind it zeros. -/
def UpSt (s : ByteArray) (B k : Nat) (W wr : World) : Prop := Only B W wr ∧ (∀ j (h : j < s.size), j < k → wr.cell? ⟨B, j, none⟩ = some (.int .u8 (s[j].toNat : Int))) ∧ (∀ j, j < s.size → k ≤ j → wr.cell? ⟨B, j, none⟩ = some (.int .u8 48)) ∧ (∀ j, j < s.size → wr.frozen? ⟨B, j, none⟩ = false)
theorem set_cell_at {w : World} {B k : Nat} {v u : Value} (h : w.cell? ⟨B, k, none⟩ = some u) (j : Nat) : (w.setCell ⟨B, k, none⟩ v).cell? ⟨B, j, none⟩ = if j = k then some v else w.cell? ⟨B, j, none⟩ := by
  by_cases hj : j = k
  · subst hj; rw [if_pos rfl]; simp [go_sem, h]
  · rw [if_neg hj]; simp [go_sem]
theorem set_frozen_at {w : World} {B k : Nat} {v : Value} (j : Nat) : (w.setCell ⟨B, k, none⟩ v).frozen? ⟨B, j, none⟩ = w.frozen? ⟨B, j, none⟩ := by simp [go_sem]
theorem UpSt.zero {s : ByteArray} {B k : Nat} {W wr : World} (h : UpSt s B (k + 1) W wr) (hk : k < s.size) : UpSt s B k W (wr.setCell ⟨B, k, none⟩ (.int .u8 48)) := by
  obtain ⟨h1, h2, h3, h4⟩ := h
  have hc := h2 k hk (by omega)
  refine ⟨h1.setCell _ _, fun j hj hjk => ?_, fun j hj hjk => ?_, fun j hj => ?_⟩
  · rw [set_cell_at hc, if_neg (by omega)]; exact h2 j hj (by omega)
  · rw [set_cell_at hc]
    split
    · rfl
    · exact h3 j hj (by omega)
  · rw [set_frozen_at]; exact h4 j hj
theorem UpSt.text {s : ByteArray} {B k : Nat} {W wr : World} (h : UpSt s B (k + 1) W wr) (hk : k < s.size) (c : UInt8) (cap : Nat) :
    (convert 78 9 (.slice (some ⟨B, 0, none⟩) s.size cap)).run Tryd.prog (wr.setCell ⟨B, k, none⟩ (.int .u8 (c.toNat : Int))) = .ok (.string ⟨(s.data.toList.take k ++ [c] ++ List.replicate (s.data.toList.length - (k + 1)) 48).toArray⟩) (wr.setCell ⟨B, k, none⟩ (.int .u8 (c.toNat : Int))) := by
  obtain ⟨h1, h2, h3, h4⟩ := h
  have hl : (s.data.toList.take k ++ [c] ++ List.replicate (s.data.toList.length - (k + 1)) 48).length = s.size := by
    rw [List.length_append, List.length_append, List.length_take, List.length_replicate, data_len, List.length_singleton]; omega
  have := run_convert_bytes_back (P := Tryd.prog) (wr.setCell ⟨B, k, none⟩ (.int .u8 (c.toNat : Int))) 78 9 5 ⟨B, 0, none⟩ cap (s.data.toList.take k ++ [c] ++ List.replicate (s.data.toList.length - (k + 1)) 48) Tryd.underlying78 Tryd.underlying5 Tryd.underlying9 (fun j hj => by
    rw [show (⟨B, 0, none⟩ : Addr).add j = ⟨B, j, none⟩ by (simp [Addr.add]; try omega), set_cell_at (h2 k hk (by omega))]
    have hjs : j < s.size := by omega
    by_cases e1 : j = k
    · rw [if_pos e1]
      subst e1
      have : (s.data.toList.take j ++ [c] ++ List.replicate (s.data.toList.length - (j + 1)) 48)[j] = c := by
        rw [List.getElem_append_left (by rw [List.length_append, List.length_take, data_len, List.length_singleton]; omega), List.getElem_append_right (by rw [List.length_take, data_len]; omega)]
        simp
      rw [this]
    · rw [if_neg e1]
      by_cases e2 : j < k
      · rw [h2 j hjs (by omega)]
        have : (s.data.toList.take k ++ [c] ++ List.replicate (s.data.toList.length - (k + 1)) 48)[j] = s[j] := by
          rw [List.getElem_append_left (by rw [List.length_append, List.length_take, data_len]; omega), List.getElem_append_left (by rw [List.length_take, data_len]; omega), List.getElem_take]
          rfl
        rw [this]
      · rw [h3 j hjs (by omega)]
        have : (s.data.toList.take k ++ [c] ++ List.replicate (s.data.toList.length - (k + 1)) 48)[j] = 48 := by
          rw [List.getElem_append_right (by rw [List.length_append, List.length_take, data_len, List.length_singleton]; omega), List.getElem_replicate]
        rw [this]; rfl)
  rw [hl] at this
  exact this
theorem UpSt.zeros {s : ByteArray} {B : Nat} {W wr : World} (h : UpSt s B 0 W wr) (cap : Nat) :
    (convert 78 9 (.slice (some ⟨B, 0, none⟩) s.size cap)).run Tryd.prog wr = .ok (.string ⟨(List.replicate s.size 48).toArray⟩) wr := by
  obtain ⟨h1, h2, h3, h4⟩ := h
  have := run_convert_bytes_back (P := Tryd.prog) wr 78 9 5 ⟨B, 0, none⟩ cap (List.replicate s.size 48) Tryd.underlying78 Tryd.underlying5 Tryd.underlying9 (fun j hj => by
    rw [show (⟨B, 0, none⟩ : Addr).add j = ⟨B, j, none⟩ by (simp [Addr.add]; try omega), h3 j (by simpa using hj) (by omega), List.getElem_replicate]
    rfl)
  rw [List.length_replicate] at this
  exact this
end Go.Proofs.YtpmccbkhkaoccaaDoor

/- l5up of the specification, walked. -/
namespace Go.Proofs.YtpmccbkhkaoccaaDoor
open Go.ChangeShapes Go.WideShapes Go.RowKit

theorem byte_up (c : UInt8) (h : c.toNat ≤ 57) : (UInt8.ofNat (c.toNat + 1)).toNat = c.toNat + 1 := by rw [UInt8.toNat_ofNat']; omega
set_option maxHeartbeats 2000000 in
set_option maxRecDepth 100000 in
theorem l5up_any (ds : ByteArray) (hs : ds.size ≤ 3000) (hg : good 10 ds.data.toList) (w : World) :
    Calls Tryd.prog 45 #[.string ds] w fun e w' => ∃ t more, UpD ds t more ∧ e = .returned (.tuple #[.string t, .bool more]) ∧ Below w.heap.size w w' := by
  obtain ⟨cap, W, hrun, hB, hlt, hcl, hfr⟩ := bytes_new w ds
  have HB : Hid _ := hB
  have HCL : Hid (UpSt ds w.heap.size ds.size W W) := ⟨Only.refl _ _, fun j h _ => hcl j h, fun j h hk => by omega, hfr⟩
  have HG : Hid (good 10 ds.data.toList) := hg
  have hs' : (ds.size : Int) ≤ 3000 := by omega
  clear hB hcl hfr hg
  go_enter Tryd.func45, Tryd.ntmps45
  go_wp2
  go_loopw [5] (fun vi wr => ∃ k : Nat, vi = .int .i64 ((k : Int) - 1) ∧ k ≤ ds.size ∧ Hid (UpSt ds w.heap.size k W wr) ∧ Hid (Nines ds.data.toList k)) (fun vi _ => (intOf vi + 1).toNat)
  case atStart => exact ⟨ds.size, rfl, Nat.le_refl _, HCL.out, by show Nines _ _; have := nines_start ds.data.toList; rw [data_len] at this; exact this⟩
  case round =>
    obtain ⟨k, rfl, hk, HS, HN⟩ := hrel
    cases k with
    | zero =>
      have hcv := HS.out.zeros cap
      have HU : Hid _ := up_none ds.data.toList HN.out
      have hz : (⟨(List.replicate ds.size (48 : UInt8)).toArray⟩ : ByteArray).size ≤ 3000 := by rw [← data_len]; simp; exact hs
      have HT : Hid (Below w.heap.size w wr) := HB.out.trans (HS.out.1.below (Nat.le_refl _))
      have HD : Hid (UpD ds (⟨#[49]⟩ ++ ⟨(List.replicate ds.size (48 : UInt8)).toArray⟩) true) := by
        have e : ((⟨#[49]⟩ : ByteArray) ++ ⟨(List.replicate ds.size (48 : UInt8)).toArray⟩).data.toList = (49 : UInt8) :: List.replicate ds.data.toList.length 48 := by
          rw [append_list, data_len]; rfl
        refine ⟨by rw [e]; exact HU.out.1, by rw [e]; exact HU.out.2, ?_⟩
        refine ⟨?_, fun _ => by have := nines_all _ HN.out; rw [data_len] at this; exact this⟩
        rw [append_size, if_pos rfl, Nat.add_comm]
        congr 1
        rw [← data_len]; simp
      generalize (⟨(List.replicate ds.size (48 : UInt8)).toArray⟩ : ByteArray) = Z at *
      go_wp2
      go_ret2
      exact ⟨_, true, HD.out, rfl, HT.out⟩
    | succ k =>
      have hkl : k < ds.size := by omega
      have hx := HS.out.2.1 k hkl (by omega)
      have hf := HS.out.2.2.2 k hkl
      obtain ⟨d1, d2, _⟩ := good_digit ds[k] (good_at 10 ds HG.out k hkl)
      by_cases h9 : ds[k].toNat = 57
      · have HS2 : Hid _ := HS.out.zero hkl
        have HN2 : Hid (Nines ds.data.toList k) := nines_step _ k (by rw [data_len]; exact hkl) HN.out h9
        rw [h9] at hx
        clear d1 d2
        go_wp2
        exact ⟨⟨k, rfl, by omega, HS2.out, HN2.out⟩, by simp only [intOf]; omega⟩
      · have hb := byte_up ds[k] d2
        have hcv := HS.out.text hkl (UInt8.ofNat (ds[k].toNat + 1)) cap
        have HU : Hid _ := up_found ds.data.toList k (by rw [data_len]; exact hkl) HG.out HN.out h9 (UInt8.ofNat (ds[k].toNat + 1)) hb
        rw [hb] at hcv
        have HD : Hid (UpD ds ⟨(ds.data.toList.take k ++ [UInt8.ofNat (ds[k].toNat + 1)] ++ List.replicate (ds.data.toList.length - (k + 1)) 48).toArray⟩ false) := by
          refine ⟨HU.out.1, HU.out.2, ?_, fun h => by cases h⟩
          rw [← data_len]
          show (ds.data.toList.take k ++ [UInt8.ofNat (ds[k].toNat + 1)] ++ List.replicate (ds.data.toList.length - (k + 1)) 48).length = _
          rw [List.length_append, List.length_append, List.length_take, List.length_replicate, data_len, List.length_singleton, if_neg (by decide)]; omega
        have HT : Hid (Below w.heap.size w wr) := HB.out.trans (HS.out.1.below (Nat.le_refl _))
        generalize (⟨(ds.data.toList.take k ++ [UInt8.ofNat (ds[k].toNat + 1)] ++ List.replicate (ds.data.toList.length - (k + 1)) 48).toArray⟩ : ByteArray) = Z at *
        obtain ⟨c, hc⟩ : ∃ c : Int, c = (ds[k].toNat : Int) := ⟨_, rfl⟩
        rw [show ((ds[k].toNat + 1 : Nat) : Int) = c + 1 by omega] at hcv
        rw [← hc] at hx
        have hc9 : ¬ c = 57 := by omega
        have hc0 : 48 ≤ c := by omega
        have hc1 : c ≤ 57 := by omega
        clear hc d1 d2 h9 hb
        go_wp2
        go_ret2
        exact ⟨Z, false, HD.out, rfl, HT.out.setCell (by simp) _⟩
end Go.Proofs.YtpmccbkhkaoccaaDoor

/- l5cut of the specification. -/
namespace Go.Proofs.YtpmccbkhkaoccaaDoor
open Go.ChangeShapes Go.WideShapes Go.RowKit

/-- The first n digits, zeros behind them where there are fewer. -/
def padB (ds : ByteArray) (n : Nat) : ByteArray := (if n < ds.size then ds.extract 0 n else ds) ++ zerosB (n - ds.size)
theorem padB_size (ds : ByteArray) (n : Nat) : (padB ds n).size = n := by
  unfold padB
  rw [append_size, zerosB_size]
  split
  · have : (ds.extract 0 n).size = n := by simp; omega
    omega
  · omega
theorem padB_good (ds : ByteArray) (n : Nat) (h : good 10 ds.data.toList) : good 10 (padB ds n).data.toList := by
  unfold padB
  rw [append_list]
  refine good_append _ _ ?_ (good_zeros _)
  split
  · intro c hc
    rw [Lib.extract_eq] at hc
    exact h c (List.mem_of_mem_drop (List.mem_of_mem_take hc))
  · exact h
/-- What l5cut answers. -/
def cutV (ds : ByteArray) (pow : Int) (n : Nat) (up : Bool) (t : ByteArray) (p' : Int) : Prop :=
  (up = false ∧ t = padB ds n ∧ p' = pow) ∨ (up = true ∧ ∃ more, UpD (padB ds n) t more ∧ p' = pow + (if more then 1 else 0))

set_option maxHeartbeats 4000000 in
set_option maxRecDepth 100000 in
theorem l5cut_plain (ds : ByteArray) (p : Int) (n : Nat) (hs : ds.size ≤ 1100) (hn : n ≤ 1600) (w : World) :
    Calls Tryd.prog 25 #[.agg #[.string ds, .int .i64 p], .int .i64 (n : Int), .bool false] w fun e w' => e = .returned (.agg #[.string (padB ds n), .int .i64 p]) ∧ Below w.heap.size w w' := by
  unfold padB
  have hs' : (ds.size : Int) ≤ 1100 := by omega
  by_cases h : n < ds.size
  · rw [if_pos h]
    have he : (ds.extract 0 n).size = n := by simp; omega
    have hz : n - ds.size = 0 := by omega
    rw [hz]
    have HZ : Hid (∀ w, Calls Tryd.prog 24 #[.int .i64 0] w fun e w' => e = .returned (.string (zerosB 0)) ∧ w' = w.alloc (.cells (tcells (zerosL 0) 0).toArray 5)) := fun w => zeros_int 0 (by omega) (by omega) w
    have hz0 := zerosB_size 0
    generalize zerosB 0 = Z at *
    generalize (tcells (zerosL 0) 0).toArray = C at *
    go_enter Tryd.func25, Tryd.ntmps25
    go_wp2_with fail
    refine (HZ.out _).mono ?_
    rintro e w' ⟨rfl, rfl⟩
    go_wp2
    refine bodyPost_ret (v := .agg #[.string (ds.extract 0 n ++ Z), .int .i64 p]) (by simp [results, Tryd.results25, go_sem]) rfl ⟨rfl, (by repeat (first | with_reducible exact Below.refl _ _ | with_reducible refine Below.alloc ?_ (by simp <;> omega) _ | with_reducible refine Below.drew ?_ | with_reducible refine below_drewN ?_ _ | with_reducible refine Below.setCell ?_ (by simp <;> omega) _))⟩
  · rw [if_neg h]
    have hn' : (ds.size : Int) ≤ (n : Int) := by omega
    have HZ : Hid (∀ w, Calls Tryd.prog 24 #[.int .i64 ((n : Int) - (ds.size : Int))] w fun e w' => e = .returned (.string (zerosB (n - ds.size))) ∧ w' = w.alloc (.cells (tcells (zerosL (n - ds.size)) (n - ds.size)).toArray 5)) := fun w => by
      have := zeros_int ((n : Int) - (ds.size : Int)) (by omega) (by omega) w
      rw [show ((n : Int) - (ds.size : Int)).toNat = n - ds.size by omega] at this
      exact this
    have hz0 : ((zerosB (n - ds.size)).size : Int) ≤ 1600 := by rw [zerosB_size]; omega
    generalize zerosB (n - ds.size) = Z at *
    generalize (tcells (zerosL (n - ds.size)) (n - ds.size)).toArray = C at *
    clear h
    go_enter Tryd.func25, Tryd.ntmps25
    go_wp2_with fail
    refine (HZ.out _).mono ?_
    rintro e w' ⟨rfl, rfl⟩
    go_wp2
    refine bodyPost_ret (v := .agg #[.string (ds ++ Z), .int .i64 p]) (by simp [results, Tryd.results25, go_sem]) rfl ⟨rfl, (by repeat (first | with_reducible exact Below.refl _ _ | with_reducible refine Below.alloc ?_ (by simp <;> omega) _ | with_reducible refine Below.drew ?_ | with_reducible refine below_drewN ?_ _ | with_reducible refine Below.setCell ?_ (by simp <;> omega) _))⟩
theorem cutV_one (ds : ByteArray) (pow : Int) (n : Nat) (up : Bool) (t t' : ByteArray) (p p' : Int) (h : cutV ds pow n up t p) (h' : cutV ds pow n up t' p') : t = t' ∧ p = p' := by
  rcases h with ⟨rfl, rfl, rfl⟩ | ⟨rfl, m, h, rfl⟩
  · rcases h' with ⟨_, rfl, rfl⟩ | ⟨h, _⟩
    · exact ⟨rfl, rfl⟩
    · cases h
  · rcases h' with ⟨h, _⟩ | ⟨_, m', h', rfl⟩
    · cases h
    · obtain ⟨rfl, rfl⟩ := upD_one _ _ _ _ _ h h'
      exact ⟨rfl, rfl⟩
theorem cut5_size (ds : ByteArray) (pow : Int) (n : Nat) (up : Bool) (t : ByteArray) (p' : Int) (h : cutV ds pow n up t p') : n ≤ t.size ∧ t.size ≤ n + 1 ∧ pow ≤ p' ∧ p' ≤ pow + 1 := by
  have := padB_size ds n
  rcases h with ⟨_, rfl, rfl⟩ | ⟨_, more, ⟨_, _, h, _⟩, rfl⟩
  · omega
  · cases more
    · simp at h ⊢; omega
    · simp at h ⊢; omega
theorem cutV_good (ds : ByteArray) (pow : Int) (n : Nat) (up : Bool) (t : ByteArray) (p : Int) (hg : good 10 ds.data.toList) (h : cutV ds pow n up t p) : good 10 t.data.toList := by
  rcases h with ⟨_, rfl, _⟩ | ⟨_, m, h, _⟩
  · exact padB_good ds n hg
  · exact h.1
end Go.Proofs.YtpmccbkhkaoccaaDoor

