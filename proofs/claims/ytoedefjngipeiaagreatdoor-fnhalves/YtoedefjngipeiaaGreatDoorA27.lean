import Derived.Test.YtoedefjngipeiaaGreatDoorA26
import Derived.Test.YtoedefjngipeiaaGreatDoorA14
/- Less of the specification. -/
namespace Go.Proofs.YtoedefjngipeiaaGreatDoor
open Go.ChangeShapes Go.WideShapes Go.RowKit

/-- The bytes while nines are laid: those up to k. -/
def cAt (L : List UInt8) (i k j : Nat) : UInt8 := if j = i then L.getD i 0 - 1 else if i < j ∧ j < k then nine (L.getD j 0) else L.getD j 0
theorem getD_at (L : List UInt8) (j : Nat) (h : j < L.length) : L.getD j 0 = L[j] := by simp [List.getElem?_eq_getElem h]
theorem les_get (L : List UInt8) (i : Nat) (hi : i < L.length) (h1 : nz L[i] = true) (h2 : (L.drop (i + 1)).any nz = false) (j : Nat) (hj : j < (les L).length) : (les L)[j] = cAt L i L.length j := by
  have hl := les_length L
  have e := les_at L i hi h1 h2
  have hjl : j < L.length := by omega
  have e2 : (les L)[j]? = (L.take i ++ [L[i] - 1] ++ (L.drop (i + 1)).map nine)[j]? := by rw [e]
  rw [List.getElem?_eq_getElem hj] at e2
  apply Option.some.inj
  rw [e2]
  unfold cAt
  by_cases c1 : j = i
  · subst c1
    rw [if_pos rfl, getD_at L j hjl, List.getElem?_append_left (by simp; omega), List.getElem?_append_right (by simp; omega)]
    simp [show min j L.length = j by omega]
  · rw [if_neg c1]
    by_cases c2 : i < j
    · rw [if_pos ⟨c2, hjl⟩, getD_at L j hjl, List.getElem?_append_right (by simp; omega)]
      have hm : (L.take i ++ [L[i] - 1]).length = i + 1 := by simp; omega
      rw [hm]
      simp only [List.getElem?_map, List.getElem?_drop]
      rw [show i + 1 + (j - (i + 1)) = j by omega, List.getElem?_eq_getElem hjl]
      rfl
    · rw [if_neg (by omega), getD_at L j hjl, List.getElem?_append_left (by simp; omega), List.getElem?_append_left (by simp; omega), List.getElem?_take_of_lt (by omega), List.getElem?_eq_getElem hjl]
def LesSt (t : ByteArray) (B i k : Nat) (W wr : World) : Prop := Only B W wr ∧ (∀ j, j < t.size → wr.cell? ⟨B, j, none⟩ = some (.int .u8 ((cAt t.data.toList i k j).toNat : Int))) ∧ (∀ j, j < t.size → wr.frozen? ⟨B, j, none⟩ = false)
theorem byte_getD (t : ByteArray) (j : Nat) (h : j < t.size) : t.data.toList.getD j 0 = t[j] := by
  rw [getD_at _ _ (by rw [data_len]; exact h)]; rfl
theorem LesSt.start {t : ByteArray} {B i : Nat} {W : World} (hc : ∀ j (h : j < t.size), W.cell? ⟨B, j, none⟩ = some (.int .u8 (t[j].toNat : Int))) (hf : ∀ j, j < t.size → W.frozen? ⟨B, j, none⟩ = false) (hi : i < t.size) : LesSt t B i (i + 1) W (W.setCell ⟨B, i, none⟩ (.int .u8 ((t[i] - 1).toNat : Int))) := by
  refine ⟨(Only.refl _ _).setCell _ _, fun j hj => ?_, fun j hj => ?_⟩
  · rw [set_cell_at (hc i hi)]
    unfold cAt
    by_cases e : j = i
    · subst e; rw [if_pos rfl, if_pos rfl, byte_getD t j hj]
    · rw [if_neg e, if_neg e, if_neg (by omega), byte_getD t j hj]; exact hc j hj
  · rw [set_frozen_at]; exact hf j hj
theorem cAt_far (L : List UInt8) (i k j : Nat) (h : k ≤ j) (hij : i < j) : cAt L i k j = L.getD j 0 := by unfold cAt; rw [if_neg (by omega), if_neg (by omega)]
theorem LesSt.lay {t : ByteArray} {B i k : Nat} {W wr : World} (h : LesSt t B i k W wr) (hk : k < t.size) (hik : i < k) (hz : t[k].toNat = 48) : LesSt t B i (k + 1) W (wr.setCell ⟨B, k, none⟩ (.int .u8 57)) := by
  obtain ⟨h1, h2, h3⟩ := h
  refine ⟨h1.setCell _ _, fun j hj => ?_, fun j hj => by rw [set_frozen_at]; exact h3 j hj⟩
  rw [set_cell_at (h2 k hk)]
  by_cases e : j = k
  · subst e
    rw [if_pos rfl]
    unfold cAt
    rw [if_neg (by omega), if_pos ⟨hik, by omega⟩, byte_getD t j hk]
    have : t[j] = 48 := UInt8.toNat_inj.1 hz
    rw [this]; rfl
  · rw [if_neg e, h2 j hj]
    unfold cAt
    by_cases e1 : j = i
    · rw [if_pos e1, if_pos e1]
    · rw [if_neg e1, if_neg e1]
      by_cases e2 : i < j ∧ j < k
      · rw [if_pos e2, if_pos ⟨e2.1, by omega⟩]
      · rw [if_neg e2, if_neg (by omega)]
theorem LesSt.skip {t : ByteArray} {B i k : Nat} {W wr : World} (h : LesSt t B i k W wr) (hk : k < t.size) (hik : i < k) (hz : t[k].toNat ≠ 48) : LesSt t B i (k + 1) W wr := by
  obtain ⟨h1, h2, h3⟩ := h
  refine ⟨h1, fun j hj => ?_, h3⟩
  rw [h2 j hj]
  unfold cAt
  by_cases e1 : j = i
  · rw [if_pos e1, if_pos e1]
  · rw [if_neg e1, if_neg e1]
    by_cases e2 : i < j ∧ j < k
    · rw [if_pos e2, if_pos ⟨e2.1, by omega⟩]
    · rw [if_neg e2]
      by_cases e3 : j = k
      · subst e3
        rw [if_pos ⟨hik, by omega⟩, byte_getD t j hk]
        have : t[j] ≠ 48 := fun he => hz (by rw [he]; rfl)
        unfold nine
        rw [if_neg this]
      · rw [if_neg (by omega)]
theorem LesSt.text {t : ByteArray} {B i : Nat} {W wr : World} (h : LesSt t B i t.size W wr) (hi : i < t.size) (h1 : nz t[i] = true) (h2 : (t.data.toList.drop (i + 1)).any nz = false) (cap : Nat) :
    (convert 22 9 (.slice (some ⟨B, 0, none⟩) t.size cap)).run Tryz.prog wr = .ok (.string ⟨(les t.data.toList).toArray⟩) wr := by
  obtain ⟨_, a2, _⟩ := h
  have hl : (les t.data.toList).length = t.size := by rw [les_length, data_len]
  have := run_convert_bytes_back (P := Tryz.prog) wr 22 9 5 ⟨B, 0, none⟩ cap (les t.data.toList) Tryz.underlying22 Tryz.underlying5 Tryz.underlying9 (fun j hj => by
    rw [show (⟨B, 0, none⟩ : Addr).add j = ⟨B, j, none⟩ by (simp [Addr.add]; try omega), a2 j (by omega), les_get t.data.toList i (by rw [data_len]; exact hi) h1 h2 j hj, data_len])
  rw [hl] at this
  exact this
end Go.Proofs.YtoedefjngipeiaaGreatDoor

/- Less of the specification, walked. -/
namespace Go.Proofs.YtoedefjngipeiaaGreatDoor
open Go.ChangeShapes Go.WideShapes Go.RowKit

theorem nz_no (c : UInt8) (h : c.toNat = 48 ∨ c.toNat = 46) : nz c = false := by
  rcases h with h | h
  · rw [show c = 48 from UInt8.toNat_inj.1 h]; decide
  · rw [show c = 46 from UInt8.toNat_inj.1 h]; decide
theorem nz_yes (c : UInt8) (h1 : c.toNat ≠ 48) (h2 : c.toNat ≠ 46) : nz c = true := by
  have a : c ≠ 48 := fun h => h1 (by rw [h]; rfl)
  have b : c ≠ 46 := fun h => h2 (by rw [h]; rfl)
  unfold nz; simp [a, b]
theorem drop_step (L : List UInt8) (i : Nat) (hi : i < L.length) (h1 : nz L[i] = false) (h2 : (L.drop (i + 1)).any nz = false) : (L.drop i).any nz = false := by
  rw [List.drop_eq_getElem_cons hi, List.any_cons, h1, h2]; rfl
theorem byte_less (c : UInt8) (h : 1 ≤ c.toNat) : (c - 1).toNat = c.toNat - 1 := by
  rw [UInt8.toNat_sub_of_le _ _ (by rw [UInt8.le_iff_toNat_le]; exact h)]; rfl

set_option maxHeartbeats 2000000 in
set_option maxRecDepth 100000 in
theorem less_any (t : ByteArray) (hs : t.size ≤ 3000) (hnz : t.data.toList.any nz = true) (hlo : ∀ j (h : j < t.size), 1 ≤ t[j].toNat) (w : World) :
    Calls Tryz.prog 13 #[.string t] w fun e w' => e = .returned (.string (⟨(les t.data.toList).toArray⟩ ++ ⟨#[57, 57, 57, 57, 57, 57, 57, 57, 57, 57]⟩)) ∧ Below w.heap.size w w' := by
  obtain ⟨cap, W, hrun, hB, hlt, hcl, hfr⟩ := bytes_new w t
  have HB : Hid _ := hB
  have HCL : Hid _ := fun (_ : Unit) => And.intro hcl hfr
  have HNZ : Hid (t.data.toList.any nz = true) := hnz
  have HLO : Hid _ := fun (_ : Unit) => hlo
  have hs' : (t.size : Int) ≤ 3000 := by omega
  have ht0 : 0 < t.size := by
    apply Nat.pos_of_ne_zero
    intro h
    rw [show t.data.toList = [] from List.length_eq_zero_iff.1 (by rw [data_len]; exact h)] at hnz
    cases hnz
  have hls : (⟨(les t.data.toList).toArray⟩ : ByteArray).size ≤ 3000 := by
    rw [← data_len]
    show (les t.data.toList).length ≤ 3000
    rw [les_length, data_len]; exact hs
  clear hB hcl hfr hnz hlo
  obtain ⟨R, hR⟩ : ∃ R : ByteArray, R = ⟨(les t.data.toList).toArray⟩ := ⟨_, rfl⟩
  have HRE : Hid (R = ⟨(les t.data.toList).toArray⟩) := hR
  rw [← hR] at hls ⊢
  clear hR
  go_enter Tryz.func13, Tryz.ntmps13
  go_wp2
  go_loop [4] (fun vi => ∃ i : Nat, vi = .int .i64 (i : Int) ∧ i < t.size ∧ Hid ((t.data.toList.drop (i + 1)).any nz = false)) (fun vi => (intOf vi).toNat)
  case atStart => exact ⟨t.size - 1, by congr 1; omega, by omega, by show _ = _; rw [show t.size - 1 + 1 = t.size by omega, ← data_len, List.drop_length]; rfl⟩
  case round =>
    obtain ⟨i, rfl, hi, HD⟩ := hrel
    have hx := (HCL.out ()).1 i hi
    by_cases hc : t[i].toNat = 48 ∨ t[i].toNat = 46
    · have HD2 : Hid ((t.data.toList.drop i).any nz = false) := drop_step _ i (by rw [data_len]; exact hi) (nz_no _ hc) HD.out
      have hi0 : 0 < i := by
        apply Nat.pos_of_ne_zero
        intro h
        have h1 := HD2.out
        rw [h, List.drop_zero, HNZ.out] at h1
        cases h1
      obtain ⟨k, rfl⟩ : ∃ k, i = k + 1 := ⟨i - 1, by omega⟩
      rcases hc with hc | hc
      all_goals
        rw [hc] at hx
        go_wp2
        exact ⟨⟨k, rfl, by omega, HD2.out⟩, by simp only [intOf]; omega⟩
    · have hn1 : t[i].toNat ≠ 48 := fun h => hc (.inl h)
      have hn2 : t[i].toNat ≠ 46 := fun h => hc (.inr h)
      have HNI : Hid (nz t[i] = true) := nz_yes _ hn1 hn2
      have hl1 := (HLO.out ()) i hi
      have hf := (HCL.out ()).2 i hi
      have HST : Hid _ := LesSt.start (HCL.out ()).1 (HCL.out ()).2 hi
      have hbl := byte_less t[i] hl1
      obtain ⟨c, hcc⟩ : ∃ c : Int, c = (t[i].toNat : Int) := ⟨_, rfl⟩
      have hmv : ((t[i] - 1).toNat : Int) = c - 1 := by rw [hbl]; omega
      rw [hmv] at HST
      rw [← hcc] at hx
      have hc1 : ¬ c = 48 := by omega
      have hc2 : ¬ c = 46 := by omega
      have hc3 : 1 ≤ c := by omega
      have hc4 : c ≤ 255 := by have := t[i].toNat_lt; omega
      have hc5 : (c == 48) = false := beq_eq_false_iff_ne.2 hc1
      have hc6 : (c == 46) = false := beq_eq_false_iff_ne.2 hc2
      clear hn1 hn2 hc hl1 hbl hcc hmv
      go_wp2
      · go_loopw [5] (fun vk wr => ∃ k : Nat, vk = .int .i64 (k : Int) ∧ i + 1 ≤ k ∧ k ≤ t.size ∧ Hid (LesSt t w.heap.size i k W wr)) (fun vk _ => t.size - (intOf vk).toNat)
        case atStart => exact ⟨i + 1, rfl, Nat.le_refl _, by omega, HST.out⟩
        case round =>
          obtain ⟨k, rfl, hk1, hk2, HS⟩ := hrel
          by_cases hlt2 : k < t.size
          · have hx2 := HS.out.2.1 k hlt2
            rw [cAt_far _ _ _ _ (Nat.le_refl _) (by omega), byte_getD t k hlt2] at hx2
            have hf2 := HS.out.2.2 k hlt2
            by_cases h48 : t[k].toNat = 48
            · have HS2 : Hid _ := HS.out.lay hlt2 (by omega) h48
              rw [h48] at hx2
              go_wp2
              exact ⟨⟨k + 1, rfl, by omega, by omega, HS2.out⟩, by simp only [intOf]; omega⟩
            · have HS2 : Hid _ := HS.out.skip hlt2 (by omega) h48
              have h48' : ((t[k].toNat : Int) == 48) = false := beq_eq_false_iff_ne.2 (by omega)
              have h48'' : ¬ (t[k].toNat : Int) = 48 := by omega
              go_wp2
              exact ⟨⟨k + 1, rfl, by omega, by omega, HS2.out⟩, by simp only [intOf]; omega⟩
          · obtain rfl : k = t.size := by omega
            have hcv := HS.out.text hi HNI.out HD.out cap
            rw [← HRE.out] at hcv
            have HT : Hid (Below w.heap.size w wr) := HB.out.trans (HS.out.1.below (Nat.le_refl _))
            go_wp2
            go_ret
            exact ⟨rfl, HT.out⟩
      all_goals omega
end Go.Proofs.YtoedefjngipeiaaGreatDoor

/- Beside the midst between two floats, and in it: plain. -/
namespace Go.Proofs.YtoedefjngipeiaaGreatDoor
open Ieee (double)

/-- A number between a float and the next one: its word, by what is left behind the float's own digits. -/
theorem fw_beside (m M d : Nat) (e p : Int) (hc : Canon m p) (hp : p = e + d) (hd : 1 ≤ d) (h0 : 0 < M) (h1 : m * 2 ^ d ≤ M) (h2 : M < (m + 1) * 2 ^ d) : fw false M e = rung m p + (keptOf M d - m) ∧ m ≤ keptOf M d ∧ keptOf M d ≤ m + 1 := by
  have hpd : 0 < 2 ^ d := Nat.two_pow_pos d
  have hdiv : M / 2 ^ d = m := by
    have a : m ≤ M / 2 ^ d := (Nat.le_div_iff_mul_le hpd).2 h1
    have b : M / 2 ^ d < m + 1 := (Nat.div_lt_iff_lt_mul hpd).2 h2
    omega
  have hk : m ≤ keptOf M d ∧ keptOf M d ≤ m + 1 := by
    unfold keptOf
    rw [hdiv]
    split <;> omega
  have hm2 : m < 9007199254740992 := by rcases hc with h | h <;> omega
  have hpl : -1074 ≤ p := by rcases hc with h | h <;> omega
  have hM2 : M < 2 ^ (53 + d) := by
    rw [Nat.pow_add]
    have : (m + 1) * 2 ^ d ≤ 2 ^ 53 * 2 ^ d := Nat.mul_le_mul_right _ (by omega)
    omega
  have hl : max (e + (M.log2 : Int) - 52) (-1074) = p := by
    rcases hc with ⟨a, b, c, _⟩ | ⟨a, b⟩
    · have hlo : 2 ^ (52 + d) ≤ M := by
        rw [Nat.pow_add]
        have : 2 ^ 52 * 2 ^ d ≤ m * 2 ^ d := Nat.mul_le_mul_right _ (by omega)
        omega
      have l1 := log2_ge M (52 + d) h0 hlo
      have l2 := log2_le M (52 + d) h0 (by rw [show 52 + d + 1 = 53 + d by omega]; exact hM2)
      omega
    · have hhi : M < 2 ^ (52 + d) := by
        rw [Nat.pow_add]
        have : (m + 1) * 2 ^ d ≤ 2 ^ 52 * 2 ^ d := Nat.mul_le_mul_right _ (by omega)
        omega
      have l2 := log2_le M (51 + d) h0 (by rw [show 51 + d + 1 = 52 + d by omega]; exact hhi)
      omega
  have hrl := rung_lt m p hc
  refine ⟨?_, hk⟩
  rw [fw_place false M e h0, hl]
  have hr : roundN M (p - e) = keptOf M d := by
    unfold roundN
    rw [if_neg (by omega), show (p - e).toNat = d by omega]
  rw [hr]
  unfold rung at hrl ⊢
  show 0 + min ((p + 1074).toNat * 4503599627370496 + keptOf M d) 9218868437227405312 = _
  rw [Nat.zero_add, Nat.min_eq_left (by omega)]
  omega
theorem kept_below (m M d : Nat) (hd : 1 ≤ d) (h1 : m * 2 ^ d ≤ M) (h2 : M < m * 2 ^ d + 2 ^ (d - 1)) : keptOf M d = m := by
  have hpd : 2 ^ d = 2 * 2 ^ (d - 1) := by rw [← Nat.pow_succ', show (d - 1).succ = d by omega]
  obtain ⟨r, rfl⟩ : ∃ r, M = m * 2 ^ d + r := ⟨M - m * 2 ^ d, by omega⟩
  have hr : r < 2 ^ d := by omega
  have e1 : (m * 2 ^ d + r) / 2 ^ d = m := by rw [Nat.mul_comm, Nat.mul_add_div (Nat.two_pow_pos d), Nat.div_eq_of_lt hr, Nat.add_zero]
  have e2 : (m * 2 ^ d + r) % 2 ^ d = r := by rw [Nat.mul_comm, Nat.mul_add_mod, Nat.mod_eq_of_lt hr]
  unfold keptOf
  rw [e1, e2, if_neg (by omega)]
theorem kept_mid (m d : Nat) (hd : 1 ≤ d) : keptOf (m * 2 ^ d + 2 ^ (d - 1)) d = m + m % 2 := by
  have hpd : 2 ^ d = 2 * 2 ^ (d - 1) := by rw [← Nat.pow_succ', show (d - 1).succ = d by omega]
  have hp1 : 0 < 2 ^ (d - 1) := Nat.two_pow_pos _
  have hr : 2 ^ (d - 1) < 2 ^ d := by omega
  have e1 : (m * 2 ^ d + 2 ^ (d - 1)) / 2 ^ d = m := by rw [Nat.mul_comm, Nat.mul_add_div (Nat.two_pow_pos d), Nat.div_eq_of_lt hr, Nat.add_zero]
  have e2 : (m * 2 ^ d + 2 ^ (d - 1)) % 2 ^ d = 2 ^ (d - 1) := by rw [Nat.mul_comm, Nat.mul_add_mod, Nat.mod_eq_of_lt hr]
  unfold keptOf
  rw [e1, e2]
  by_cases h : m % 2 = 1
  · rw [if_pos (.inr ⟨rfl, h⟩)]; omega
  · rw [if_neg (by omega)]; omega
theorem kept_above (m M d : Nat) (h1 : m * 2 ^ d + 2 ^ (d - 1) < M) (h2 : M < (m + 1) * 2 ^ d) : keptOf M d = m + 1 := by
  have hp1 : 0 < 2 ^ (d - 1) := Nat.two_pow_pos _
  obtain ⟨r, rfl⟩ : ∃ r, M = m * 2 ^ d + r := ⟨M - m * 2 ^ d, by omega⟩
  rw [Nat.add_mul, Nat.one_mul] at h2
  have hr : r < 2 ^ d := by omega
  have e1 : (m * 2 ^ d + r) / 2 ^ d = m := by rw [Nat.mul_comm, Nat.mul_add_div (Nat.two_pow_pos d), Nat.div_eq_of_lt hr, Nat.add_zero]
  have e2 : (m * 2 ^ d + r) % 2 ^ d = r := by rw [Nat.mul_comm, Nat.mul_add_mod, Nat.mod_eq_of_lt hr]
  unfold keptOf
  rw [e1, e2, if_pos (.inl (by omega))]
/-- The midst itself: to the even one. -/
theorem fw_midst (m : Nat) (p : Int) (hc : Canon m p) : fw false (2 * m + 1) (p - 1) = rung m p + m % 2 := by
  have hk := kept_mid m 1 (by omega)
  rw [show m * 2 ^ 1 + 2 ^ (1 - 1) = 2 * m + 1 by rw [Nat.pow_one]; show m * 2 + 1 = _; omega] at hk
  obtain ⟨h, _⟩ := fw_beside m (2 * m + 1) 1 (p - 1) p hc (by omega) (by omega) (by omega) (by rw [Nat.pow_one]; omega) (by rw [Nat.pow_one]; omega)
  rw [h, hk]
  omega
/-- A quotient, made long enough: its whole part Q at the place -K, and whether something is left. -/
theorem ratio_long_at (A C K : Nat) (hA : 0 < A) (hC : 0 < C) (h : 9007199254740992 ≤ A * 2 ^ K / C) : ratioW A C = if A * 2 ^ K % C = 0 then fw false (A * 2 ^ K / C) (-(K : Int)) else fw false (2 * (A * 2 ^ K / C) + 1) (-(K : Int) - 1) := by
  have := ratioW_at A C K 0 hA hC (by rw [Nat.pow_zero, Nat.mul_one]; exact h)
  rw [← this]
  unfold ratioAt
  rw [Nat.pow_zero, Nat.mul_one, show ((0 : Nat) : Int) - (K : Int) = -(K : Int) by omega]
/-- A quotient a little above the midst: the next float. m at the place p = g - v, the quotient A / C: (2m + 1) 2^g C < A 2^(v+1), and not beyond the next float. -/
theorem ratio_above (A C m g v : Nat) (p : Int) (hc : Canon m p) (hp : p = (g : Int) - v) (hA : 0 < A) (hC : 0 < C) (h1 : (2 * m + 1) * 2 ^ g * C < A * 2 ^ (v + 1)) (h2 : A * 2 ^ v < (m + 1) * 2 ^ g * C) : ratioW A C = rung m p + 1 := by
  -- the place: far enough down
  obtain ⟨K, hK1, hK2, hK3⟩ : ∃ K, v + 1 ≤ K ∧ 9007199254740992 ≤ A * 2 ^ K / C ∧ v + 1 + g ≤ K + g := by
    refine ⟨v + 1 + (53 + C), by omega, ?_, by omega⟩
    have a1 : C ≤ 2 ^ C := Nat.le_of_lt Nat.lt_two_pow_self
    have a2 : C * 2 ^ 53 ≤ A * 2 ^ (v + 1 + (53 + C)) := by
      have b1 : C * 2 ^ 53 ≤ 2 ^ C * 2 ^ 53 := Nat.mul_le_mul_right _ a1
      have b2 : 2 ^ C * 2 ^ 53 ≤ 2 ^ (v + 1 + (53 + C)) := by rw [← Nat.pow_add]; exact Nat.pow_le_pow_right (by omega) (by omega)
      have b3 : 1 * 2 ^ (v + 1 + (53 + C)) ≤ A * 2 ^ (v + 1 + (53 + C)) := Nat.mul_le_mul_right _ hA
      rw [Nat.one_mul] at b3
      exact Nat.le_trans (Nat.le_trans b1 b2) b3
    rw [show (9007199254740992 : Nat) = 2 ^ 53 from rfl, Nat.le_div_iff_mul_le hC, Nat.mul_comm]
    exact a2
  obtain ⟨d', hd'⟩ : ∃ d', K = v + 1 + d' := ⟨K - (v + 1), by omega⟩
  -- the digits behind the float's own: d = K - v + g
  have hQlo : (m * 2 ^ (g + d' + 1) + 2 ^ (g + d')) ≤ A * 2 ^ K / C := by
    rw [Nat.le_div_iff_mul_le hC]
    have e : (m * 2 ^ (g + d' + 1) + 2 ^ (g + d')) * C = ((2 * m + 1) * 2 ^ g * C) * 2 ^ d' := by
      rw [Nat.pow_succ, Nat.pow_add]
      have : m * (2 ^ g * 2 ^ d' * 2) + 2 ^ g * 2 ^ d' = (2 * m + 1) * (2 ^ g * 2 ^ d') := by
        rw [Nat.add_mul, Nat.one_mul, Nat.mul_comm (2 ^ g * 2 ^ d') 2, ← Nat.mul_assoc, Nat.mul_comm m 2]
      rw [this, ← Nat.mul_assoc, Nat.mul_right_comm]
    have e2 : A * 2 ^ K = A * 2 ^ (v + 1) * 2 ^ d' := by rw [hd', Nat.pow_add, Nat.mul_assoc]
    rw [e, e2]
    exact Nat.mul_le_mul_right _ (Nat.le_of_lt h1)
  have hQhi : A * 2 ^ K / C < (m + 1) * 2 ^ (g + d' + 1) := by
    rw [Nat.div_lt_iff_lt_mul hC]
    have e : (m + 1) * 2 ^ (g + d' + 1) * C = ((m + 1) * 2 ^ g * C) * 2 ^ (d' + 1) := by
      rw [show g + d' + 1 = g + (d' + 1) by omega, Nat.pow_add, ← Nat.mul_assoc, Nat.mul_right_comm]
    have e2 : A * 2 ^ K = A * 2 ^ v * 2 ^ (d' + 1) := by rw [hd', show v + 1 + d' = v + (d' + 1) by omega, Nat.pow_add, Nat.mul_assoc]
    rw [e, e2]
    exact Nat.mul_lt_mul_of_pos_right h2 (Nat.two_pow_pos _)
  have hp53 : 0 < 2 ^ (g + d') := Nat.two_pow_pos _
  rw [ratio_long_at A C K hA hC hK2]
  split
  · rename_i hrest
    have hne : A * 2 ^ K / C ≠ m * 2 ^ (g + d' + 1) + 2 ^ (g + d') := by
      intro he
      have hmul : A * 2 ^ K = (m * 2 ^ (g + d' + 1) + 2 ^ (g + d')) * C := by
        rw [← he]
        exact (Nat.div_mul_cancel (Nat.dvd_of_mod_eq_zero hrest)).symm
      have e : (m * 2 ^ (g + d' + 1) + 2 ^ (g + d')) * C = ((2 * m + 1) * 2 ^ g * C) * 2 ^ d' := by
        rw [Nat.pow_succ, Nat.pow_add]
        have : m * (2 ^ g * 2 ^ d' * 2) + 2 ^ g * 2 ^ d' = (2 * m + 1) * (2 ^ g * 2 ^ d') := by
          rw [Nat.add_mul, Nat.one_mul, Nat.mul_comm (2 ^ g * 2 ^ d') 2, ← Nat.mul_assoc, Nat.mul_comm m 2]
        rw [this, ← Nat.mul_assoc, Nat.mul_right_comm]
      have e2 : A * 2 ^ K = A * 2 ^ (v + 1) * 2 ^ d' := by rw [hd', Nat.pow_add, Nat.mul_assoc]
      rw [e, e2] at hmul
      have := Nat.eq_of_mul_eq_mul_right (Nat.two_pow_pos d') hmul
      omega
    obtain ⟨hb, _, _⟩ := fw_beside m (A * 2 ^ K / C) (g + d' + 1) (-(K : Int)) p hc (by omega) (by omega) (by omega) (by omega) hQhi
    rw [hb, kept_above m _ (g + d' + 1) (by rw [Nat.add_sub_cancel]; omega) hQhi]
    omega
  · obtain ⟨Q, hQ⟩ : ∃ Q, Q = A * 2 ^ K / C := ⟨_, rfl⟩
    rw [← hQ] at hQlo hQhi hK2 ⊢
    have hpp : 2 ^ (g + d' + 2) = 2 * 2 ^ (g + d' + 1) := by rw [← Nat.pow_succ']
    have hpq : 2 ^ (g + d' + 1) = 2 * 2 ^ (g + d') := by rw [← Nat.pow_succ']
    have e1 : m * 2 ^ (g + d' + 2) = 2 * (m * 2 ^ (g + d' + 1)) := by rw [hpp, Nat.mul_left_comm]
    have e2 : (m + 1) * 2 ^ (g + d' + 2) = 2 * ((m + 1) * 2 ^ (g + d' + 1)) := by rw [hpp, Nat.mul_left_comm]
    have u1 : 2 * Q + 1 < (m + 1) * 2 ^ (g + d' + 2) := by omega
    obtain ⟨hb, _, _⟩ := fw_beside m (2 * Q + 1) (g + d' + 2) (-(K : Int) - 1) p hc (by omega) (by omega) (by omega) (by omega) u1
    rw [hb, kept_above m _ (g + d' + 2) (by rw [show g + d' + 2 - 1 = g + d' + 1 by omega]; omega) u1]
    omega
/-- A quotient a little below the midst, and not below the float: the float itself. -/
theorem ratio_below (A C m g v : Nat) (p : Int) (hc : Canon m p) (hp : p = (g : Int) - v) (hA : 0 < A) (hC : 0 < C) (h1 : m * 2 ^ g * C ≤ A * 2 ^ v) (h2 : A * 2 ^ (v + 1) < (2 * m + 1) * 2 ^ g * C) : ratioW A C = rung m p := by
  obtain ⟨K, hK1, hK2⟩ : ∃ K, v + 1 ≤ K ∧ 9007199254740992 ≤ A * 2 ^ K / C := by
    refine ⟨v + 1 + (53 + C), by omega, ?_⟩
    have a1 : C ≤ 2 ^ C := Nat.le_of_lt Nat.lt_two_pow_self
    have a2 : C * 2 ^ 53 ≤ A * 2 ^ (v + 1 + (53 + C)) := by
      have b1 : C * 2 ^ 53 ≤ 2 ^ C * 2 ^ 53 := Nat.mul_le_mul_right _ a1
      have b2 : 2 ^ C * 2 ^ 53 ≤ 2 ^ (v + 1 + (53 + C)) := by rw [← Nat.pow_add]; exact Nat.pow_le_pow_right (by omega) (by omega)
      have b3 : 1 * 2 ^ (v + 1 + (53 + C)) ≤ A * 2 ^ (v + 1 + (53 + C)) := Nat.mul_le_mul_right _ hA
      rw [Nat.one_mul] at b3
      exact Nat.le_trans (Nat.le_trans b1 b2) b3
    rw [show (9007199254740992 : Nat) = 2 ^ 53 from rfl, Nat.le_div_iff_mul_le hC, Nat.mul_comm]
    exact a2
  obtain ⟨d', hd'⟩ : ∃ d', K = v + 1 + d' := ⟨K - (v + 1), by omega⟩
  have hQlo : m * 2 ^ (g + d' + 1) ≤ A * 2 ^ K / C := by
    rw [Nat.le_div_iff_mul_le hC]
    have e : m * 2 ^ (g + d' + 1) * C = (m * 2 ^ g * C) * 2 ^ (d' + 1) := by
      rw [show g + d' + 1 = g + (d' + 1) by omega, Nat.pow_add, ← Nat.mul_assoc, Nat.mul_right_comm]
    have e2 : A * 2 ^ K = A * 2 ^ v * 2 ^ (d' + 1) := by rw [hd', show v + 1 + d' = v + (d' + 1) by omega, Nat.pow_add, Nat.mul_assoc]
    rw [e, e2]
    exact Nat.mul_le_mul_right _ h1
  have hQhi : A * 2 ^ K / C < m * 2 ^ (g + d' + 1) + 2 ^ (g + d') := by
    rw [Nat.div_lt_iff_lt_mul hC]
    have e : (m * 2 ^ (g + d' + 1) + 2 ^ (g + d')) * C = ((2 * m + 1) * 2 ^ g * C) * 2 ^ d' := by
      rw [Nat.pow_succ, Nat.pow_add]
      have : m * (2 ^ g * 2 ^ d' * 2) + 2 ^ g * 2 ^ d' = (2 * m + 1) * (2 ^ g * 2 ^ d') := by
        rw [Nat.add_mul, Nat.one_mul, Nat.mul_comm (2 ^ g * 2 ^ d') 2, ← Nat.mul_assoc, Nat.mul_comm m 2]
      rw [this, ← Nat.mul_assoc, Nat.mul_right_comm]
    have e2 : A * 2 ^ K = A * 2 ^ (v + 1) * 2 ^ d' := by rw [hd', Nat.pow_add, Nat.mul_assoc]
    rw [e, e2]
    exact Nat.mul_lt_mul_of_pos_right h2 (Nat.two_pow_pos _)
  have hpq : 2 ^ (g + d' + 1) = 2 * 2 ^ (g + d') := by rw [← Nat.pow_succ']
  have hp53 : 0 < 2 ^ (g + d') := Nat.two_pow_pos _
  have hup : ∀ x, x < m * 2 ^ (g + d' + 1) + 2 ^ (g + d') → x < (m + 1) * 2 ^ (g + d' + 1) := fun x hx => by rw [Nat.add_mul, Nat.one_mul]; omega
  rw [ratio_long_at A C K hA hC hK2]
  split
  · obtain ⟨hb, _, _⟩ := fw_beside m (A * 2 ^ K / C) (g + d' + 1) (-(K : Int)) p hc (by omega) (by omega) (by omega) hQlo (hup _ hQhi)
    rw [hb, kept_below m _ (g + d' + 1) (by omega) hQlo (by rw [Nat.add_sub_cancel]; exact hQhi)]
    omega
  · obtain ⟨Q, hQ⟩ : ∃ Q, Q = A * 2 ^ K / C := ⟨_, rfl⟩
    rw [← hQ] at hQlo hQhi hK2 ⊢
    have hpp : 2 ^ (g + d' + 2) = 2 * 2 ^ (g + d' + 1) := by rw [← Nat.pow_succ']
    have e1 : m * 2 ^ (g + d' + 2) = 2 * (m * 2 ^ (g + d' + 1)) := by rw [hpp, Nat.mul_left_comm]
    have e2 : (m + 1) * 2 ^ (g + d' + 2) = 2 * ((m + 1) * 2 ^ (g + d' + 1)) := by rw [hpp, Nat.mul_left_comm]
    have u0 := hup Q hQhi
    have u1 : 2 * Q + 1 < (m + 1) * 2 ^ (g + d' + 2) := by omega
    obtain ⟨hb, _, _⟩ := fw_beside m (2 * Q + 1) (g + d' + 2) (-(K : Int) - 1) p hc (by omega) (by omega) (by omega) (by omega) u1
    rw [hb, kept_below m _ (g + d' + 2) (by omega) (by omega) (by rw [show g + d' + 2 - 1 = g + d' + 1 by omega]; omega)]
    omega
end Go.Proofs.YtoedefjngipeiaaGreatDoor

