import Derived.Test.YtpmccbkhkaoccaaDoorA33
import Derived.Test.YtpmccbkhkaoccaaDoorA15
import Derived.Test.YtpmccbkhkaoccaaDoorA22
import Derived.Test.YtpmccbkhkaoccaaDoorA03
import Derived.Test.YtpmccbkhkaoccaaDoorA25
import Derived.Test.YtpmccbkhkaoccaaDoorA26
import Derived.Test.YtpmccbkhkaoccaaDoorA32
/- All decimal digits of a size: plain. -/
namespace Go.Proofs.YtpmccbkhkaoccaaDoor
open Go.RowKit

/-- The digits of a number, the lowest first. -/
def digsN (N n : Nat) : List Nat := (List.range n).map fun i => N / 10 ^ i % 10
theorem digsN_len (N n : Nat) : (digsN N n).length = n := by simp [digsN]
theorem digsN_ten (N n : Nat) : Ten (digsN N n) := fun d hd => by
  obtain ⟨i, _, rfl⟩ := List.mem_map.1 hd
  exact Nat.mod_lt _ (by omega)
theorem digsN_val (N n : Nat) : dval (digsN N n) = N % 10 ^ n := by
  induction n with
  | zero => simp [digsN, dval, Nat.mod_one]
  | succ n ih =>
    have e : digsN N (n + 1) = digsN N n ++ [N / 10 ^ n % 10] := by unfold digsN; rw [List.range_succ, List.map_append]; rfl
    rw [e, dval_snoc, ih, digsN_len, Nat.pow_succ, Nat.mod_mul]
/-- Their bytes as they come, and the text. -/
def upL (N n : Nat) : List UInt8 := (digsN N n).map dchr
def txtB (N n : Nat) : ByteArray := ⟨(dtxt (digsN N n)).toArray⟩
theorem upL_len (N n : Nat) : (upL N n).length = n := by rw [upL, List.length_map, digsN_len]
theorem txt_rev (N n : Nat) : (txtB N n).data.toList = (upL N n).reverse := by
  show dtxt _ = _
  unfold dtxt upL
  rw [List.map_reverse]
theorem txt_size (N n : Nat) : (txtB N n).size = n := by rw [← data_len, txt_rev, List.length_reverse, upL_len]
/-- A text without its zeros at the end is all digits of a number. -/
theorem dec_exd (q N n s : Nat) (e : Int) (u : ByteArray) (hq : 0 < q) (hs : s = (-e).toNat) (hN : N = q * 5 ^ s * 2 ^ e.toNat) (hn : DigN n N) (hu : TrimR 48 (txtB N n) u) : 0 < u.size ∧ ExD u ((n : Int) - (s : Int)) q e := by
  have hNp : 0 < N := by rw [hN]; exact Nat.mul_pos (Nat.mul_pos hq (Nat.pow_pos (by omega))) (Nat.two_pow_pos _)
  have hn0 : 0 < n := by
    apply Nat.pos_of_ne_zero
    intro h
    have := hn.1
    rw [h, Nat.pow_zero] at this
    omega
  have hval : valN 10 (txtB N n).data.toList = N := by
    show valN 10 (dtxt _) = _
    rw [valN_dtxt _ (digsN_ten N n), digsN_val, Nat.mod_eq_of_lt hn.1]
  have hg : good 10 (txtB N n).data.toList := good_dtxt _ (digsN_ten N n)
  have hsz := txt_size N n
  have hf : ∀ h : 0 < (txtB N n).size, (txtB N n)[0].toNat ≠ 48 := fun h => by
    have h1 := get_data (txtB N n) 0 h
    rw [txt_rev, List.getElem?_reverse (by rw [upL_len]; omega), upL_len, Nat.sub_zero] at h1
    unfold upL digsN at h1
    rw [List.map_map, List.getElem?_map, List.getElem?_range (by omega)] at h1
    have h2 := Option.some.inj h1
    rw [← h2]
    have hd : 0 < N / 10 ^ (n - 1) := (dig_pos hn (n - 1)).2 (by omega)
    have hd2 : N / 10 ^ (n - 1) < 10 := by
      rw [Nat.div_lt_iff_lt_mul (Nat.pow_pos (by omega)), ← Nat.pow_succ', show (n - 1).succ = n by omega]
      exact hn.1
    show (dchr (N / 10 ^ (n - 1) % 10)).toNat ≠ 48
    rw [dchr_nat _ (Nat.mod_lt _ (by omega)), Nat.mod_eq_of_lt hd2]
    omega
  have hu0 : 0 < u.size := trim_some hu (by omega) hf
  obtain ⟨⟨j, hj⟩, hl⟩ := hu
  have hsz2 := trim_size hj
  refine ⟨hu0, ?_⟩
  have hst : Stp (txtB N n) u j := by
    refine ⟨hu0, fun c hc => hg c (by rw [hj]; exact List.mem_append_left _ hc), fun h => ?_, ?_, by omega⟩
    · have h1 := get_data (txtB N n) 0 (by omega)
      rw [hj, List.getElem?_append_left (by rw [data_len]; exact h), get_data u 0 h] at h1
      rw [Option.some.inj h1]
      exact hf (by omega)
    · rw [hj, valN_append, valN_zeros, List.length_replicate, Nat.add_zero]
  have := stp_end (txtB N n) u j q s e hst hl (by rw [hval, hN, Nat.mul_right_comm]) hs
  rw [hsz] at this
  exact this
theorem digN_ex (N : Nat) : ∃ n, DigN n N := by
  induction N using Nat.strongRecOn with
  | ind N ih =>
    by_cases h0 : N = 0
    · exact ⟨0, by rw [h0]; exact Nat.pow_pos (by omega), fun h => by omega⟩
    · obtain ⟨m, h1, h2⟩ := ih (N / 10) (by omega)
      refine ⟨m + 1, ?_, fun _ => ?_⟩
      · rw [Nat.pow_succ]
        omega
      · show 10 ^ m ≤ N
        by_cases hm : m = 0
        · rw [hm, Nat.pow_zero]
          omega
        · have := h2 (by omega)
          obtain ⟨k, rfl⟩ : ∃ k, m = k + 1 := ⟨m - 1, by omega⟩
          rw [Nat.add_sub_cancel] at this
          rw [Nat.pow_succ]
          omega
/-- How great the numbers are. -/
theorem dof_bounds (t q s g : Nat) (ht : t = 1100) (hq : q ≤ 9007199254740992) (hs : s ≤ 1100) (hg : g ≤ 1100) (h0 : s = 0 ∨ g = 0) : q * 5 ^ s < 10 ^ 17 * 10 ^ t ∧ q * 5 ^ s * 2 ^ g < 10 ^ 17 * 10 ^ t := by
  have hq2 : q < 10 ^ 17 := by
    have : (10 : Nat) ^ 17 = 100000000000000000 := rfl
    omega
  have h5 : 5 ^ s ≤ 10 ^ t := Nat.le_trans (Nat.pow_le_pow_left (by omega) s) (Nat.pow_le_pow_right (by omega) (by omega))
  have h2 : 2 ^ g ≤ 10 ^ t := Nat.le_trans (Nat.pow_le_pow_left (by omega) g) (Nat.pow_le_pow_right (by omega) (by omega))
  have hp : 0 < 10 ^ t := Nat.pow_pos (by omega)
  have key : ∀ x, x ≤ 10 ^ t → q * x < 10 ^ 17 * 10 ^ t := fun x hx => Nat.lt_of_le_of_lt (Nat.mul_le_mul_left q hx) (Nat.mul_lt_mul_of_pos_right hq2 hp)
  refine ⟨key _ h5, ?_⟩
  rcases h0 with rfl | rfl
  · rw [Nat.pow_zero, Nat.mul_one]
    exact key _ h2
  · rw [Nat.pow_zero, Nat.mul_one]
    exact key _ h5
theorem ten_words (t r X : Nat) (ht : t = 1100) (hr : r = 140) (h : X < 10 ^ 17 * 10 ^ t) : X < be ^ r := by
  rw [be_two]
  rw [← Nat.pow_add] at h
  have h1 : 10 ^ (17 + t) ≤ (2 ^ 4) ^ (17 + t) := Nat.pow_le_pow_left (by omega) _
  rw [← Nat.pow_mul] at h1
  have h2 : 2 ^ (4 * (17 + t)) ≤ 2 ^ (32 * r) := Nat.pow_le_pow_right (by omega) (by omega)
  omega
theorem digN_le {n N : Nat} (t : Nat) (ht : t = 1100) (h : DigN n N) (hN : N < 10 ^ 17 * 10 ^ t) : n ≤ 1117 := by
  apply Nat.le_of_not_lt
  intro hlt
  rw [← Nat.pow_add] at hN
  have h1 := h.2 (by omega)
  have h2 : 10 ^ (17 + t) ≤ 10 ^ (n - 1) := Nat.pow_le_pow_right (by omega) (by omega)
  omega
theorem upL_succ (N n : Nat) : upL N (n + 1) = upL N n ++ [dchr (N / 10 ^ n % 10)] := by
  unfold upL digsN
  rw [List.range_succ, List.map_append, List.map_append]
  rfl
end Go.Proofs.YtpmccbkhkaoccaaDoor

/- slices.Reverse of bytes. -/
namespace Go.Proofs.YtpmccbkhkaoccaaDoor
open Go.ChangeShapes Go.WideShapes Go.RowKit

/-- The bytes of a row while it is turned: the first i and the last i have changed places. -/
def RevSt (B : Nat) (l : List UInt8) (i : Nat) (w wr : World) : Prop := Only B w wr ∧ (∀ j (h : j < l.length), wr.cell? ⟨B, j, none⟩ = some (.int .u8 ((if j < i ∨ l.length - i ≤ j then l[l.length - 1 - j]'(by omega) else l[j]).toNat : Int))) ∧ (∀ j, j < l.length → wr.frozen? ⟨B, j, none⟩ = false)
theorem RevSt.step {B : Nat} {l : List UInt8} {i : Nat} {w wr : World} (h : RevSt B l i w wr) (hi : i + i + 1 < l.length) :
    RevSt B l (i + 1) w ((wr.setCell ⟨B, i, none⟩ (.int .u8 (l[l.length - 1 - i]'(by omega)).toNat)).setCell ⟨B, l.length - 1 - i, none⟩ (.int .u8 (l[i]'(by omega)).toNat)) := by
  obtain ⟨h1, h2, h3⟩ := h
  have c1 := h2 i (by omega)
  have hlt : l.length - 1 - i < l.length := by omega
  have c2 := (set_cell_at (v := .int .u8 ((l[l.length - 1 - i]'(by omega)).toNat : Int)) c1 (l.length - 1 - i)).trans ((if_neg (by omega)).trans (h2 (l.length - 1 - i) hlt))
  refine ⟨(h1.setCell _ _).setCell _ _, fun j hj => ?_, fun j hj => ?_⟩
  · rw [set_cell_at c2]
    by_cases e1 : j = l.length - 1 - i
    · rw [if_pos e1]
      subst e1
      simp only [if_pos (show l.length - 1 - i < i + 1 ∨ l.length - (i + 1) ≤ l.length - 1 - i from .inr (by omega)), show l.length - 1 - (l.length - 1 - i) = i by omega]
    · rw [if_neg e1, set_cell_at c1]
      by_cases e2 : j = i
      · rw [if_pos e2]
        subst e2
        simp only [if_pos (show j < j + 1 ∨ l.length - (j + 1) ≤ j from .inl (by omega))]
      · rw [if_neg e2, h2 j hj]
        by_cases e3 : j < i ∨ l.length - i ≤ j
        · simp only [if_pos e3, if_pos (show j < i + 1 ∨ l.length - (i + 1) ≤ j by omega)]
        · simp only [if_neg e3, if_neg (show ¬ (j < i + 1 ∨ l.length - (i + 1) ≤ j) by omega)]
  · rw [set_frozen_at, set_frozen_at]
    exact h3 j hj
theorem RevSt.drew {B : Nat} {l : List UInt8} {i : Nat} {w wr : World} (h : RevSt B l i w wr) : RevSt B l i w wr.drew := ⟨⟨h.1.1, h.1.2.1, h.1.2.2.1, h.1.2.2.2.1, h.1.2.2.2.2⟩, h.2.1, h.2.2⟩
set_option maxHeartbeats 2000000 in
set_option maxRecDepth 100000 in
theorem reverse_any (B cap m : Nat) (l : List UInt8) (hm : l.length = m) (w : World) (hl : l.length ≤ 100000) (hc : ∀ j (h : j < l.length), w.cell? ⟨B, j, none⟩ = some (.int .u8 (l[j].toNat : Int))) (hf : ∀ j, j < l.length → w.frozen? ⟨B, j, none⟩ = false) :
    Calls Tryd.prog 43 #[.slice (some ⟨B, 0, none⟩) m cap] w fun e w' => e = .returned (.tuple #[]) ∧ Only B w w' ∧ (∀ j (h : j < l.length), w'.cell? ⟨B, j, none⟩ = some (.int .u8 ((l[l.length - 1 - j]'(by omega)).toNat : Int))) := by
  have HS : Hid (RevSt B l 0 w w) := ⟨Only.refl _ _, fun j h => by rw [hc j h]; simp only [if_neg (show ¬ (j < 0 ∨ l.length - 0 ≤ j) by omega)], hf⟩
  have hm' : (m : Int) ≤ 100000 := by omega
  clear hc hf
  go_enter Tryd.func43, Tryd.ntmps43
  go_wp2
  go_loopw [2, 3] (fun iv jv wl => ∃ i : Nat, iv = .int .i64 (i : Int) ∧ jv = .int .i64 ((m : Int) - 1 - (i : Int)) ∧ i + i ≤ m + 1 ∧ Hid (RevSt B l i w wl)) (fun iv _ _ => m - (intOf iv).toNat)
  case atStart => exact ⟨0, rfl, by simp, by omega, HS.out⟩
  case round =>
    clear HS
    obtain ⟨i, rfl, rfl, hi, HS⟩ := hrel
    by_cases hlt : i + i + 1 < m
    · obtain ⟨j, hj⟩ : ∃ j : Nat, j = m - 1 - i := ⟨_, rfl⟩
      have hji : (m : Int) - 1 - (i : Int) = (j : Int) := by omega
      have hij : (i : Int) < (j : Int) := by omega
      have hjm : (j : Int) < (m : Int) := by omega
      have him : (i : Int) < (m : Int) := by omega
      have HN : Hid (RevSt B l (i + 1) w ((wr.setCell ⟨B, i, none⟩ (.int .u8 ((l[l.length - 1 - i]'(by omega)).toNat : Int))).setCell ⟨B, l.length - 1 - i, none⟩ (.int .u8 ((l[i]'(by omega)).toNat : Int)))) := HS.out.step (by omega)
      have ci := HS.out.2.1 i (by omega)
      have cj := HS.out.2.1 (l.length - 1 - i) (by omega)
      simp only [if_neg (show ¬ (i < i ∨ l.length - i ≤ i) by omega)] at ci
      simp only [if_neg (show ¬ (l.length - 1 - i < i ∨ l.length - i ≤ l.length - 1 - i) by omega)] at cj
      have fi := HS.out.2.2 i (by omega)
      have fj := HS.out.2.2 (l.length - 1 - i) (by omega)
      generalize (l[l.length - 1 - i]'(by omega)) = x at *
      generalize (l[i]'(by omega)) = y at *
      rw [show l.length - 1 - i = j by omega] at HN cj fj
      rw [hji]
      have hne : ¬ i = j := by omega
      clear hj
      go_wp2
      go_region
      all_goals
        go_wp2
        exact ⟨⟨i + 1, rfl, by congr 1; omega, by omega, HN.out.drew⟩, by show m - ((i : Int) + 1).toNat < m - (i : Int).toNat; omega⟩
    · have hnl : ¬ (i : Int) < (m : Int) - 1 - (i : Int) := by omega
      have HF : Hid (∀ j (h : j < l.length), wr.cell? ⟨B, j, none⟩ = some (.int .u8 ((l[l.length - 1 - j]'(by omega)).toNat : Int))) := fun j h => by
        rw [HS.out.2.1 j h]
        split
        · rfl
        · have : l.length - 1 - j = j := by omega
          simp only [this]
      go_wp2
      go_end0
      subst hm
      exact ⟨rfl, HS.out.1, HF.out⟩
end Go.Proofs.YtpmccbkhkaoccaaDoor

/- largeOf of the program's numbers. -/
namespace Go.Proofs.YtpmccbkhkaoccaaDoor
open Go.ChangeShapes Go.WideShapes Go.RowKit

set_option maxHeartbeats 1000000 in
set_option maxRecDepth 100000 in
theorem largeOf_any (m : Nat) (hm53 : m ≤ 9007199254740992) (w : World) : Calls Tryd.prog 39 #[.int .u64 (m : Int)] w fun e w' => ∃ c, c ≤ 2 ∧ cntOk c m ∧ e = .returned (lgV c m) ∧ Below w.heap.size w w' := by
  have hm0 : 0 * 1 + m = m := by omega
  have hz := lg_zero
  rw [dg_nil] at hz
  obtain ⟨C, hC⟩ : ∃ C, blk 0 (dg 0) [] = C := ⟨_, rfl⟩
  have HC : Hid (blk 0 (dg 0) [] = C) := hC
  rw [hC] at hz
  clear hC
  obtain ⟨W, hW⟩ : ∃ W, (w.alloc (.cells C 74)).alloc (.cells C 74) = W := ⟨_, rfl⟩
  have HW : Hid ((w.alloc (.cells C 74)).alloc (.cells C 74) = W) := hW
  go_enter Tryd.func39, Tryd.ntmps39
  go_wp2_with fail
  have HA : Hid (LB W w.heap.size 0 (dg 0) [] 74) := by
    have h := ((LB.new w 0 (dg 0) [] 74).alloc (.cells C 74))
    rw [HC.out] at h; rw [← HW.out]; exact h
  have HB : Hid (Lg W (w.heap.size + 1) 0 [] 74) := by
    refine ⟨0, by omega, cnt_zero, ?_⟩
    have h := LB.new (w.alloc (.cells C 74)) 0 (dg 0) [] 74
    rw [HC.out] at h
    rw [← HW.out, show w.heap.size + 1 = (w.alloc (.cells C 74)).heap.size by simp]
    exact h
  have HM : Hid (Below w.heap.size w W) := by rw [← HW.out]; exact ((Below.refl _ w).alloc (Nat.le_refl _) _).alloc (by simp) _
  clear hW hz
  refine (mul_any (w.heap.size + 1) 0 1 m [] 74 W HB.out (by omega) (by omega) hm53 (Nat.lt_of_lt_of_le (by rw [be_eq]; omega : 0 * 1 + m < be ^ 2) (bpow_le (by omega)))).mono ?_
  rintro e w1 ⟨rfl, hm, hg⟩
  have HA1 : Hid (LB w1 w.heap.size 0 (dg 0) [] 74) := HA.out.other hm (by omega)
  obtain ⟨c, hc, hk, hl⟩ := hg
  rw [hm0] at hl hk
  have hc2 : c ≤ 2 := cnt_le hk (by rw [be_eq]; omega)
  have HCK : Hid (cntOk c m) := hk
  have HM1 : Hid (Below w.heap.size w (w1.setRow w.heap.size (lgL c (dg m)).toArray)) := by
    have h1 := (Mod.refl w.heap.size w1).setRow (lgL c (dg m)).toArray
    exact (HM.out.trans (hm.below (by omega) HM.out.size)).trans (h1.below (Nat.le_refl _) (Nat.le_trans HM.out.size hm.size))
  have HS : Hid (LB (w1.setRow w.heap.size (lgL c (dg m)).toArray) w.heap.size c (dg m) [] 74) := HA1.out.stored
  have HL : Hid (LB w1 (w.heap.size + 1) c (dg m) [] 74) := hl
  have hst := HA1.out.cells c (dg m)
  have hln := lgL_length c (dg m)
  clear hm hl hk hc
  go_wp2
  refine HL.out.wpLoad _ rfl rfl ?_
  go_at_K
  go_wp2
  obtain ⟨d, hd, hr⟩ := lg_desc
  have hs := HS.out
  unfold LB at hs
  rw [← blk_nil] at hs
  refine bodyPost_ret (v := lgV c m) (results_cell_row (P := Tryd.prog) rfl _ _ w.heap.size _ (lgL c (dg m)).toArray (0, 0) d rfl hs hd (by cases d <;> simp_all [TypeDesc.isRow]) (by rw [List.size_toArray, lgL_length]; exact lg_size)) rfl ?_
  exact ⟨c, hc2, HCK.out, rfl, HM1.out⟩
end Go.Proofs.YtpmccbkhkaoccaaDoor

