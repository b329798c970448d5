import Derived.Test.YtmcjehjpblkfoaaGreatDoorH13
import Derived.Test.YtmcjehjpblkfoaaGreatDoorH07
import Derived.Test.YtmcjehjpblkfoaaGreatDoorH02
/- Less of the specification, walked. -/
namespace Go.Proofs.YtmcjehjpblkfoaaGreatDoor
open Go.ChangeShapes Go.WideShapes Go.RowKit

theorem nz_no (c : UInt8) (h : c.toNat = 48 ∨ c.toNat = 46) : nz c = false := by
  rcases h with h | h
  · rw [show c = 48 from UInt8.toNat_inj.1 h]; decide
  · rw [show c = 46 from UInt8.toNat_inj.1 h]; decide
theorem nz_yes (c : UInt8) (h1 : c.toNat ≠ 48) (h2 : c.toNat ≠ 46) : nz c = true := by
  have a : c ≠ 48 := fun h => h1 (by rw [h]; rfl)
  have b : c ≠ 46 := fun h => h2 (by rw [h]; rfl)
  unfold nz; simp [a, b]
theorem drop_step (L : List UInt8) (i : Nat) (hi : i < L.length) (h1 : nz L[i] = false) (h2 : (L.drop (i + 1)).any nz = false) : (L.drop i).any nz = false := by
  rw [List.drop_eq_getElem_cons hi, List.any_cons, h1, h2]; rfl
theorem byte_less (c : UInt8) (h : 1 ≤ c.toNat) : (c - 1).toNat = c.toNat - 1 := by
  rw [UInt8.toNat_sub_of_le _ _ (by rw [UInt8.le_iff_toNat_le]; exact h)]; rfl

set_option maxHeartbeats 2000000 in
set_option maxRecDepth 100000 in
theorem less_any (t : ByteArray) (hs : t.size ≤ 3000) (hnz : t.data.toList.any nz = true) (hlo : ∀ j (h : j < t.size), 1 ≤ t[j].toNat) (w : World) :
    Calls Tryz.prog 13 #[.string t] w fun e w' => e = .returned (.string (⟨(les t.data.toList).toArray⟩ ++ ⟨#[57, 57, 57, 57, 57, 57, 57, 57, 57, 57]⟩)) ∧ Below w.heap.size w w' := by
  obtain ⟨cap, W, hrun, hB, hlt, hcl, hfr⟩ := bytes_new w t
  have HB : Hid _ := hB
  have HCL : Hid _ := fun (_ : Unit) => And.intro hcl hfr
  have HNZ : Hid (t.data.toList.any nz = true) := hnz
  have HLO : Hid _ := fun (_ : Unit) => hlo
  have hs' : (t.size : Int) ≤ 3000 := by omega
  have ht0 : 0 < t.size := by
    apply Nat.pos_of_ne_zero
    intro h
    rw [show t.data.toList = [] from List.length_eq_zero_iff.1 (by rw [data_len]; exact h)] at hnz
    cases hnz
  have hls : (⟨(les t.data.toList).toArray⟩ : ByteArray).size ≤ 3000 := by
    rw [← data_len]
    show (les t.data.toList).length ≤ 3000
    rw [les_length, data_len]; exact hs
  clear hB hcl hfr hnz hlo
  obtain ⟨R, hR⟩ : ∃ R : ByteArray, R = ⟨(les t.data.toList).toArray⟩ := ⟨_, rfl⟩
  have HRE : Hid (R = ⟨(les t.data.toList).toArray⟩) := hR
  rw [← hR] at hls ⊢
  clear hR
  go_enter Tryz.func13, Tryz.ntmps13
  go_wp2
  go_loop [4] (fun vi => ∃ i : Nat, vi = .int .i64 (i : Int) ∧ i < t.size ∧ Hid ((t.data.toList.drop (i + 1)).any nz = false)) (fun vi => (intOf vi).toNat)
  case atStart => exact ⟨t.size - 1, by congr 1; omega, by omega, by show _ = _; rw [show t.size - 1 + 1 = t.size by omega, ← data_len, List.drop_length]; rfl⟩
  case round =>
    obtain ⟨i, rfl, hi, HD⟩ := hrel
    have hx := (HCL.out ()).1 i hi
    by_cases hc : t[i].toNat = 48 ∨ t[i].toNat = 46
    · have HD2 : Hid ((t.data.toList.drop i).any nz = false) := drop_step _ i (by rw [data_len]; exact hi) (nz_no _ hc) HD.out
      have hi0 : 0 < i := by
        apply Nat.pos_of_ne_zero
        intro h
        have h1 := HD2.out
        rw [h, List.drop_zero, HNZ.out] at h1
        cases h1
      obtain ⟨k, rfl⟩ : ∃ k, i = k + 1 := ⟨i - 1, by omega⟩
      rcases hc with hc | hc
      all_goals
        rw [hc] at hx
        go_wp2
        exact ⟨⟨k, rfl, by omega, HD2.out⟩, by simp only [intOf]; omega⟩
    · have hn1 : t[i].toNat ≠ 48 := fun h => hc (.inl h)
      have hn2 : t[i].toNat ≠ 46 := fun h => hc (.inr h)
      have HNI : Hid (nz t[i] = true) := nz_yes _ hn1 hn2
      have hl1 := (HLO.out ()) i hi
      have hf := (HCL.out ()).2 i hi
      have HST : Hid _ := LesSt.start (HCL.out ()).1 (HCL.out ()).2 hi
      have hbl := byte_less t[i] hl1
      obtain ⟨c, hcc⟩ : ∃ c : Int, c = (t[i].toNat : Int) := ⟨_, rfl⟩
      have hmv : ((t[i] - 1).toNat : Int) = c - 1 := by rw [hbl]; omega
      rw [hmv] at HST
      rw [← hcc] at hx
      have hc1 : ¬ c = 48 := by omega
      have hc2 : ¬ c = 46 := by omega
      have hc3 : 1 ≤ c := by omega
      have hc4 : c ≤ 255 := by have := t[i].toNat_lt; omega
      have hc5 : (c == 48) = false := beq_eq_false_iff_ne.2 hc1
      have hc6 : (c == 46) = false := beq_eq_false_iff_ne.2 hc2
      clear hn1 hn2 hc hl1 hbl hcc hmv
      go_wp2
      · go_loopw [5] (fun vk wr => ∃ k : Nat, vk = .int .i64 (k : Int) ∧ i + 1 ≤ k ∧ k ≤ t.size ∧ Hid (LesSt t w.heap.size i k W wr)) (fun vk _ => t.size - (intOf vk).toNat)
        case atStart => exact ⟨i + 1, rfl, Nat.le_refl _, by omega, HST.out⟩
        case round =>
          obtain ⟨k, rfl, hk1, hk2, HS⟩ := hrel
          by_cases hlt2 : k < t.size
          · have hx2 := HS.out.2.1 k hlt2
            rw [cAt_far _ _ _ _ (Nat.le_refl _) (by omega), byte_getD t k hlt2] at hx2
            have hf2 := HS.out.2.2 k hlt2
            by_cases h48 : t[k].toNat = 48
            · have HS2 : Hid _ := HS.out.lay hlt2 (by omega) h48
              rw [h48] at hx2
              go_wp2
              exact ⟨⟨k + 1, rfl, by omega, by omega, HS2.out⟩, by simp only [intOf]; omega⟩
            · have HS2 : Hid _ := HS.out.skip hlt2 (by omega) h48
              have h48' : ((t[k].toNat : Int) == 48) = false := beq_eq_false_iff_ne.2 (by omega)
              have h48'' : ¬ (t[k].toNat : Int) = 48 := by omega
              go_wp2
              exact ⟨⟨k + 1, rfl, by omega, by omega, HS2.out⟩, by simp only [intOf]; omega⟩
          · obtain rfl : k = t.size := by omega
            have hcv := HS.out.text hi HNI.out HD.out cap
            rw [← HRE.out] at hcv
            have HT : Hid (Below w.heap.size w wr) := HB.out.trans (HS.out.1.below (Nat.le_refl _))
            go_wp2
            go_ret
            exact ⟨rfl, HT.out⟩
      all_goals omega
end Go.Proofs.YtmcjehjpblkfoaaGreatDoor

/- Beside the midst between two floats, and in it: plain. -/
namespace Go.Proofs.YtmcjehjpblkfoaaGreatDoor
open Ieee (double)

/-- A number between a float and the next one: its word, by what is left behind the float's own digits. -/
theorem fw_beside (m M d : Nat) (e p : Int) (hc : Canon m p) (hp : p = e + d) (hd : 1 ≤ d) (h0 : 0 < M) (h1 : m * 2 ^ d ≤ M) (h2 : M < (m + 1) * 2 ^ d) : fw false M e = rung m p + (keptOf M d - m) ∧ m ≤ keptOf M d ∧ keptOf M d ≤ m + 1 := by
  have hpd : 0 < 2 ^ d := Nat.two_pow_pos d
  have hdiv : M / 2 ^ d = m := by
    have a : m ≤ M / 2 ^ d := (Nat.le_div_iff_mul_le hpd).2 h1
    have b : M / 2 ^ d < m + 1 := (Nat.div_lt_iff_lt_mul hpd).2 h2
    omega
  have hk : m ≤ keptOf M d ∧ keptOf M d ≤ m + 1 := by
    unfold keptOf
    rw [hdiv]
    split <;> omega
  have hm2 : m < 9007199254740992 := by rcases hc with h | h <;> omega
  have hpl : -1074 ≤ p := by rcases hc with h | h <;> omega
  have hM2 : M < 2 ^ (53 + d) := by
    rw [Nat.pow_add]
    have : (m + 1) * 2 ^ d ≤ 2 ^ 53 * 2 ^ d := Nat.mul_le_mul_right _ (by omega)
    omega
  have hl : max (e + (M.log2 : Int) - 52) (-1074) = p := by
    rcases hc with ⟨a, b, c, _⟩ | ⟨a, b⟩
    · have hlo : 2 ^ (52 + d) ≤ M := by
        rw [Nat.pow_add]
        have : 2 ^ 52 * 2 ^ d ≤ m * 2 ^ d := Nat.mul_le_mul_right _ (by omega)
        omega
      have l1 := log2_ge M (52 + d) h0 hlo
      have l2 := log2_le M (52 + d) h0 (by rw [show 52 + d + 1 = 53 + d by omega]; exact hM2)
      omega
    · have hhi : M < 2 ^ (52 + d) := by
        rw [Nat.pow_add]
        have : (m + 1) * 2 ^ d ≤ 2 ^ 52 * 2 ^ d := Nat.mul_le_mul_right _ (by omega)
        omega
      have l2 := log2_le M (51 + d) h0 (by rw [show 51 + d + 1 = 52 + d by omega]; exact hhi)
      omega
  have hrl := rung_lt m p hc
  refine ⟨?_, hk⟩
  rw [fw_place false M e h0, hl]
  have hr : roundN M (p - e) = keptOf M d := by
    unfold roundN
    rw [if_neg (by omega), show (p - e).toNat = d by omega]
  rw [hr]
  unfold rung at hrl ⊢
  show 0 + min ((p + 1074).toNat * 4503599627370496 + keptOf M d) 9218868437227405312 = _
  rw [Nat.zero_add, Nat.min_eq_left (by omega)]
  omega
theorem kept_below (m M d : Nat) (hd : 1 ≤ d) (h1 : m * 2 ^ d ≤ M) (h2 : M < m * 2 ^ d + 2 ^ (d - 1)) : keptOf M d = m := by
  have hpd : 2 ^ d = 2 * 2 ^ (d - 1) := by rw [← Nat.pow_succ', show (d - 1).succ = d by omega]
  obtain ⟨r, rfl⟩ : ∃ r, M = m * 2 ^ d + r := ⟨M - m * 2 ^ d, by omega⟩
  have hr : r < 2 ^ d := by omega
  have e1 : (m * 2 ^ d + r) / 2 ^ d = m := by rw [Nat.mul_comm, Nat.mul_add_div (Nat.two_pow_pos d), Nat.div_eq_of_lt hr, Nat.add_zero]
  have e2 : (m * 2 ^ d + r) % 2 ^ d = r := by rw [Nat.mul_comm, Nat.mul_add_mod, Nat.mod_eq_of_lt hr]
  unfold keptOf
  rw [e1, e2, if_neg (by omega)]
theorem kept_mid (m d : Nat) (hd : 1 ≤ d) : keptOf (m * 2 ^ d + 2 ^ (d - 1)) d = m + m % 2 := by
  have hpd : 2 ^ d = 2 * 2 ^ (d - 1) := by rw [← Nat.pow_succ', show (d - 1).succ = d by omega]
  have hp1 : 0 < 2 ^ (d - 1) := Nat.two_pow_pos _
  have hr : 2 ^ (d - 1) < 2 ^ d := by omega
  have e1 : (m * 2 ^ d + 2 ^ (d - 1)) / 2 ^ d = m := by rw [Nat.mul_comm, Nat.mul_add_div (Nat.two_pow_pos d), Nat.div_eq_of_lt hr, Nat.add_zero]
  have e2 : (m * 2 ^ d + 2 ^ (d - 1)) % 2 ^ d = 2 ^ (d - 1) := by rw [Nat.mul_comm, Nat.mul_add_mod, Nat.mod_eq_of_lt hr]
  unfold keptOf
  rw [e1, e2]
  by_cases h : m % 2 = 1
  · rw [if_pos (.inr ⟨rfl, h⟩)]; omega
  · rw [if_neg (by omega)]; omega
theorem kept_above (m M d : Nat) (h1 : m * 2 ^ d + 2 ^ (d - 1) < M) (h2 : M < (m + 1) * 2 ^ d) : keptOf M d = m + 1 := by
  have hp1 : 0 < 2 ^ (d - 1) := Nat.two_pow_pos _
  obtain ⟨r, rfl⟩ : ∃ r, M = m * 2 ^ d + r := ⟨M - m * 2 ^ d, by omega⟩
  rw [Nat.add_mul, Nat.one_mul] at h2
  have hr : r < 2 ^ d := by omega
  have e1 : (m * 2 ^ d + r) / 2 ^ d = m := by rw [Nat.mul_comm, Nat.mul_add_div (Nat.two_pow_pos d), Nat.div_eq_of_lt hr, Nat.add_zero]
  have e2 : (m * 2 ^ d + r) % 2 ^ d = r := by rw [Nat.mul_comm, Nat.mul_add_mod, Nat.mod_eq_of_lt hr]
  unfold keptOf
  rw [e1, e2, if_pos (.inl (by omega))]
/-- The midst itself: to the even one. -/
theorem fw_midst (m : Nat) (p : Int) (hc : Canon m p) : fw false (2 * m + 1) (p - 1) = rung m p + m % 2 := by
  have hk := kept_mid m 1 (by omega)
  rw [show m * 2 ^ 1 + 2 ^ (1 - 1) = 2 * m + 1 by rw [Nat.pow_one]; show m * 2 + 1 = _; omega] at hk
  obtain ⟨h, _⟩ := fw_beside m (2 * m + 1) 1 (p - 1) p hc (by omega) (by omega) (by omega) (by rw [Nat.pow_one]; omega) (by rw [Nat.pow_one]; omega)
  rw [h, hk]
  omega
/-- A quotient, made long enough: its whole part Q at the place -K, and whether something is left. -/
theorem ratio_long_at (A C K : Nat) (hA : 0 < A) (hC : 0 < C) (h : 9007199254740992 ≤ A * 2 ^ K / C) : ratioW A C = if A * 2 ^ K % C = 0 then fw false (A * 2 ^ K / C) (-(K : Int)) else fw false (2 * (A * 2 ^ K / C) + 1) (-(K : Int) - 1) := by
  have := ratioW_at A C K 0 hA hC (by rw [Nat.pow_zero, Nat.mul_one]; exact h)
  rw [← this]
  unfold ratioAt
  rw [Nat.pow_zero, Nat.mul_one, show ((0 : Nat) : Int) - (K : Int) = -(K : Int) by omega]
/-- A quotient a little above the midst: the next float. m at the place p = g - v, the quotient A / C: (2m + 1) 2^g C < A 2^(v+1), and not beyond the next float. -/
theorem ratio_above (A C m g v : Nat) (p : Int) (hc : Canon m p) (hp : p = (g : Int) - v) (hA : 0 < A) (hC : 0 < C) (h1 : (2 * m + 1) * 2 ^ g * C < A * 2 ^ (v + 1)) (h2 : A * 2 ^ v < (m + 1) * 2 ^ g * C) : ratioW A C = rung m p + 1 := by
  -- the place: far enough down
  obtain ⟨K, hK1, hK2, hK3⟩ : ∃ K, v + 1 ≤ K ∧ 9007199254740992 ≤ A * 2 ^ K / C ∧ v + 1 + g ≤ K + g := by
    refine ⟨v + 1 + (53 + C), by omega, ?_, by omega⟩
    have a1 : C ≤ 2 ^ C := Nat.le_of_lt Nat.lt_two_pow_self
    have a2 : C * 2 ^ 53 ≤ A * 2 ^ (v + 1 + (53 + C)) := by
      have b1 : C * 2 ^ 53 ≤ 2 ^ C * 2 ^ 53 := Nat.mul_le_mul_right _ a1
      have b2 : 2 ^ C * 2 ^ 53 ≤ 2 ^ (v + 1 + (53 + C)) := by rw [← Nat.pow_add]; exact Nat.pow_le_pow_right (by omega) (by omega)
      have b3 : 1 * 2 ^ (v + 1 + (53 + C)) ≤ A * 2 ^ (v + 1 + (53 + C)) := Nat.mul_le_mul_right _ hA
      rw [Nat.one_mul] at b3
      exact Nat.le_trans (Nat.le_trans b1 b2) b3
    rw [show (9007199254740992 : Nat) = 2 ^ 53 from rfl, Nat.le_div_iff_mul_le hC, Nat.mul_comm]
    exact a2
  obtain ⟨d', hd'⟩ : ∃ d', K = v + 1 + d' := ⟨K - (v + 1), by omega⟩
  -- the digits behind the float's own: d = K - v + g
  have hQlo : (m * 2 ^ (g + d' + 1) + 2 ^ (g + d')) ≤ A * 2 ^ K / C := by
    rw [Nat.le_div_iff_mul_le hC]
    have e : (m * 2 ^ (g + d' + 1) + 2 ^ (g + d')) * C = ((2 * m + 1) * 2 ^ g * C) * 2 ^ d' := by
      rw [Nat.pow_succ, Nat.pow_add]
      have : m * (2 ^ g * 2 ^ d' * 2) + 2 ^ g * 2 ^ d' = (2 * m + 1) * (2 ^ g * 2 ^ d') := by
        rw [Nat.add_mul, Nat.one_mul, Nat.mul_comm (2 ^ g * 2 ^ d') 2, ← Nat.mul_assoc, Nat.mul_comm m 2]
      rw [this, ← Nat.mul_assoc, Nat.mul_right_comm]
    have e2 : A * 2 ^ K = A * 2 ^ (v + 1) * 2 ^ d' := by rw [hd', Nat.pow_add, Nat.mul_assoc]
    rw [e, e2]
    exact Nat.mul_le_mul_right _ (Nat.le_of_lt h1)
  have hQhi : A * 2 ^ K / C < (m + 1) * 2 ^ (g + d' + 1) := by
    rw [Nat.div_lt_iff_lt_mul hC]
    have e : (m + 1) * 2 ^ (g + d' + 1) * C = ((m + 1) * 2 ^ g * C) * 2 ^ (d' + 1) := by
      rw [show g + d' + 1 = g + (d' + 1) by omega, Nat.pow_add, ← Nat.mul_assoc, Nat.mul_right_comm]
    have e2 : A * 2 ^ K = A * 2 ^ v * 2 ^ (d' + 1) := by rw [hd', show v + 1 + d' = v + (d' + 1) by omega, Nat.pow_add, Nat.mul_assoc]
    rw [e, e2]
    exact Nat.mul_lt_mul_of_pos_right h2 (Nat.two_pow_pos _)
  have hp53 : 0 < 2 ^ (g + d') := Nat.two_pow_pos _
  rw [ratio_long_at A C K hA hC hK2]
  split
  · rename_i hrest
    have hne : A * 2 ^ K / C ≠ m * 2 ^ (g + d' + 1) + 2 ^ (g + d') := by
      intro he
      have hmul : A * 2 ^ K = (m * 2 ^ (g + d' + 1) + 2 ^ (g + d')) * C := by
        rw [← he]
        exact (Nat.div_mul_cancel (Nat.dvd_of_mod_eq_zero hrest)).symm
      have e : (m * 2 ^ (g + d' + 1) + 2 ^ (g + d')) * C = ((2 * m + 1) * 2 ^ g * C) * 2 ^ d' := by
        rw [Nat.pow_succ, Nat.pow_add]
        have : m * (2 ^ g * 2 ^ d' * 2) + 2 ^ g * 2 ^ d' = (2 * m + 1) * (2 ^ g * 2 ^ d') := by
          rw [Nat.add_mul, Nat.one_mul, Nat.mul_comm (2 ^ g * 2 ^ d') 2, ← Nat.mul_assoc, Nat.mul_comm m 2]
        rw [this, ← Nat.mul_assoc, Nat.mul_right_comm]
      have e2 : A * 2 ^ K = A * 2 ^ (v + 1) * 2 ^ d' := by rw [hd', Nat.pow_add, Nat.mul_assoc]
      rw [e, e2] at hmul
      have := Nat.eq_of_mul_eq_mul_right (Nat.two_pow_pos d') hmul
      omega
    obtain ⟨hb, _, _⟩ := fw_beside m (A * 2 ^ K / C) (g + d' + 1) (-(K : Int)) p hc (by omega) (by omega) (by omega) (by omega) hQhi
    rw [hb, kept_above m _ (g + d' + 1) (by rw [Nat.add_sub_cancel]; omega) hQhi]
    omega
  · obtain ⟨Q, hQ⟩ : ∃ Q, Q = A * 2 ^ K / C := ⟨_, rfl⟩
    rw [← hQ] at hQlo hQhi hK2 ⊢
    have hpp : 2 ^ (g + d' + 2) = 2 * 2 ^ (g + d' + 1) := by rw [← Nat.pow_succ']
    have hpq : 2 ^ (g + d' + 1) = 2 * 2 ^ (g + d') := by rw [← Nat.pow_succ']
    have e1 : m * 2 ^ (g + d' + 2) = 2 * (m * 2 ^ (g + d' + 1)) := by rw [hpp, Nat.mul_left_comm]
    have e2 : (m + 1) * 2 ^ (g + d' + 2) = 2 * ((m + 1) * 2 ^ (g + d' + 1)) := by rw [hpp, Nat.mul_left_comm]
    have u1 : 2 * Q + 1 < (m + 1) * 2 ^ (g + d' + 2) := by omega
    obtain ⟨hb, _, _⟩ := fw_beside m (2 * Q + 1) (g + d' + 2) (-(K : Int) - 1) p hc (by omega) (by omega) (by omega) (by omega) u1
    rw [hb, kept_above m _ (g + d' + 2) (by rw [show g + d' + 2 - 1 = g + d' + 1 by omega]; omega) u1]
    omega
/-- A quotient a little below the midst, and not below the float: the float itself. -/
theorem ratio_below (A C m g v : Nat) (p : Int) (hc : Canon m p) (hp : p = (g : Int) - v) (hA : 0 < A) (hC : 0 < C) (h1 : m * 2 ^ g * C ≤ A * 2 ^ v) (h2 : A * 2 ^ (v + 1) < (2 * m + 1) * 2 ^ g * C) : ratioW A C = rung m p := by
  obtain ⟨K, hK1, hK2⟩ : ∃ K, v + 1 ≤ K ∧ 9007199254740992 ≤ A * 2 ^ K / C := by
    refine ⟨v + 1 + (53 + C), by omega, ?_⟩
    have a1 : C ≤ 2 ^ C := Nat.le_of_lt Nat.lt_two_pow_self
    have a2 : C * 2 ^ 53 ≤ A * 2 ^ (v + 1 + (53 + C)) := by
      have b1 : C * 2 ^ 53 ≤ 2 ^ C * 2 ^ 53 := Nat.mul_le_mul_right _ a1
      have b2 : 2 ^ C * 2 ^ 53 ≤ 2 ^ (v + 1 + (53 + C)) := by rw [← Nat.pow_add]; exact Nat.pow_le_pow_right (by omega) (by omega)
      have b3 : 1 * 2 ^ (v + 1 + (53 + C)) ≤ A * 2 ^ (v + 1 + (53 + C)) := Nat.mul_le_mul_right _ hA
      rw [Nat.one_mul] at b3
      exact Nat.le_trans (Nat.le_trans b1 b2) b3
    rw [show (9007199254740992 : Nat) = 2 ^ 53 from rfl, Nat.le_div_iff_mul_le hC, Nat.mul_comm]
    exact a2
  obtain ⟨d', hd'⟩ : ∃ d', K = v + 1 + d' := ⟨K - (v + 1), by omega⟩
  have hQlo : m * 2 ^ (g + d' + 1) ≤ A * 2 ^ K / C := by
    rw [Nat.le_div_iff_mul_le hC]
    have e : m * 2 ^ (g + d' + 1) * C = (m * 2 ^ g * C) * 2 ^ (d' + 1) := by
      rw [show g + d' + 1 = g + (d' + 1) by omega, Nat.pow_add, ← Nat.mul_assoc, Nat.mul_right_comm]
    have e2 : A * 2 ^ K = A * 2 ^ v * 2 ^ (d' + 1) := by rw [hd', show v + 1 + d' = v + (d' + 1) by omega, Nat.pow_add, Nat.mul_assoc]
    rw [e, e2]
    exact Nat.mul_le_mul_right _ h1
  have hQhi : A * 2 ^ K / C < m * 2 ^ (g + d' + 1) + 2 ^ (g + d') := by
    rw [Nat.div_lt_iff_lt_mul hC]
    have e : (m * 2 ^ (g + d' + 1) + 2 ^ (g + d')) * C = ((2 * m + 1) * 2 ^ g * C) * 2 ^ d' := by
      rw [Nat.pow_succ, Nat.pow_add]
      have : m * (2 ^ g * 2 ^ d' * 2) + 2 ^ g * 2 ^ d' = (2 * m + 1) * (2 ^ g * 2 ^ d') := by
        rw [Nat.add_mul, Nat.one_mul, Nat.mul_comm (2 ^ g * 2 ^ d') 2, ← Nat.mul_assoc, Nat.mul_comm m 2]
      rw [this, ← Nat.mul_assoc, Nat.mul_right_comm]
    have e2 : A * 2 ^ K = A * 2 ^ (v + 1) * 2 ^ d' := by rw [hd', Nat.pow_add, Nat.mul_assoc]
    rw [e, e2]
    exact Nat.mul_lt_mul_of_pos_right h2 (Nat.two_pow_pos _)
  have hpq : 2 ^ (g + d' + 1) = 2 * 2 ^ (g + d') := by rw [← Nat.pow_succ']
  have hp53 : 0 < 2 ^ (g + d') := Nat.two_pow_pos _
  have hup : ∀ x, x < m * 2 ^ (g + d' + 1) + 2 ^ (g + d') → x < (m + 1) * 2 ^ (g + d' + 1) := fun x hx => by rw [Nat.add_mul, Nat.one_mul]; omega
  rw [ratio_long_at A C K hA hC hK2]
  split
  · obtain ⟨hb, _, _⟩ := fw_beside m (A * 2 ^ K / C) (g + d' + 1) (-(K : Int)) p hc (by omega) (by omega) (by omega) hQlo (hup _ hQhi)
    rw [hb, kept_below m _ (g + d' + 1) (by omega) hQlo (by rw [Nat.add_sub_cancel]; exact hQhi)]
    omega
  · obtain ⟨Q, hQ⟩ : ∃ Q, Q = A * 2 ^ K / C := ⟨_, rfl⟩
    rw [← hQ] at hQlo hQhi hK2 ⊢
    have hpp : 2 ^ (g + d' + 2) = 2 * 2 ^ (g + d' + 1) := by rw [← Nat.pow_succ']
    have e1 : m * 2 ^ (g + d' + 2) = 2 * (m * 2 ^ (g + d' + 1)) := by rw [hpp, Nat.mul_left_comm]
    have e2 : (m + 1) * 2 ^ (g + d' + 2) = 2 * ((m + 1) * 2 ^ (g + d' + 1)) := by rw [hpp, Nat.mul_left_comm]
    have u0 := hup Q hQhi
    have u1 : 2 * Q + 1 < (m + 1) * 2 ^ (g + d' + 2) := by omega
    obtain ⟨hb, _, _⟩ := fw_beside m (2 * Q + 1) (g + d' + 2) (-(K : Int) - 1) p hc (by omega) (by omega) (by omega) (by omega) u1
    rw [hb, kept_below m _ (g + d' + 2) (by omega) (by omega) (by rw [show g + d' + 2 - 1 = g + d' + 1 by omega]; omega)]
    omega
end Go.Proofs.YtmcjehjpblkfoaaGreatDoor

/- The midst between two floats written out, a digit more behind it, one less: what they are read as: plain. -/
namespace Go.Proofs.YtmcjehjpblkfoaaGreatDoor
open Ieee (double)

/-- What the text of the midst says of its digits. -/
theorem midst_key (m V bs : Nat) (p : Int) (hb : bs = if 0 ≤ p - 1 ∨ 2 * m + 1 = 0 then 1 else (-(p - 1)).toNat) (hv : V * 2 ^ (-(p - 1)).toNat = (2 * m + 1) * 2 ^ (p - 1).toNat * 10 ^ bs) :
    (2 * m + 1) * 2 ^ p.toNat * 10 ^ bs = V * 2 ^ ((-p).toNat + 1) ∧ (-p).toNat + 1 ≤ bs ∧ p = (p.toNat : Int) - ((-p).toNat : Int) ∧ 0 < V := by
  have hpos : 0 < V := by
    apply Nat.pos_of_ne_zero
    intro h
    rw [h, Nat.zero_mul] at hv
    have : 0 < (2 * m + 1) * 2 ^ (p - 1).toNat * 10 ^ bs := Nat.mul_pos (Nat.mul_pos (by omega) (Nat.two_pow_pos _)) (Nat.pow_pos (by omega))
    omega
  by_cases h : 1 ≤ p
  · rw [if_pos (.inl (by omega))] at hb
    rw [show (-(p - 1)).toNat = 0 by omega, Nat.pow_zero, Nat.mul_one] at hv
    refine ⟨?_, by omega, by omega, hpos⟩
    rw [hv, show p.toNat = (p - 1).toNat + 1 by omega, show (-p).toNat + 1 = 1 by omega, Nat.pow_succ, Nat.pow_one, ← Nat.mul_assoc, Nat.mul_right_comm]
  · rw [if_neg (by omega)] at hb
    rw [show (p - 1).toNat = 0 by omega, Nat.pow_zero, Nat.mul_one, show (-(p - 1)).toNat = (-p).toNat + 1 by omega] at hv
    refine ⟨?_, by omega, by omega, hpos⟩
    rw [show p.toNat = 0 by omega, Nat.pow_zero, Nat.mul_one]
    exact hv.symm
theorem two_ten (a b : Nat) (h : a ≤ b) : 2 ^ a ≤ 10 ^ b := Nat.le_trans (Nat.pow_le_pow_right (by omega) h) (Nat.pow_le_pow_left (by omega) b)
/-- A digit more behind it. -/
theorem midst_more (m V bs : Nat) (p : Int) (hc : Canon m p) (hb : bs = if 0 ≤ p - 1 ∨ 2 * m + 1 = 0 then 1 else (-(p - 1)).toNat) (hv : V * 2 ^ (-(p - 1)).toNat = (2 * m + 1) * 2 ^ (p - 1).toNat * 10 ^ bs) (z : Nat) :
    decW 10 (V * 10 ^ (z + 1) + 1) (-((bs + (z + 1) : Nat) : Int)) = rung m p + 1 := by
  obtain ⟨k1, k2, k3, k4⟩ := midst_key m V bs p hb hv
  unfold decW
  rw [if_neg (by omega), show (-((bs + (z + 1) : Nat) : Int)).toNat = 0 by omega, show (-(-((bs + (z + 1) : Nat) : Int))).toNat = bs + (z + 1) by omega, Nat.pow_zero, Nat.mul_one]
  have hZ : 0 < 10 ^ (z + 1) := Nat.pow_pos (by omega)
  have hW : 0 < 2 ^ ((-p).toNat + 1) := Nat.two_pow_pos _
  have e1 : (2 * m + 1) * 2 ^ p.toNat * 10 ^ (bs + (z + 1)) = V * 2 ^ ((-p).toNat + 1) * 10 ^ (z + 1) := by rw [Nat.pow_add, ← Nat.mul_assoc, k1]
  have e2 : (V * 10 ^ (z + 1) + 1) * 2 ^ ((-p).toNat + 1) = V * 2 ^ ((-p).toNat + 1) * 10 ^ (z + 1) + 2 ^ ((-p).toNat + 1) := by rw [Nat.add_mul, Nat.one_mul, Nat.mul_right_comm]
  refine ratio_above _ _ m p.toNat (-p).toNat p hc k3 (by omega) (Nat.pow_pos (by omega)) (by rw [e1, e2]; omega) ?_
  have hlt : 2 ^ ((-p).toNat + 1) < 2 ^ p.toNat * 10 ^ (bs + (z + 1)) := by
    have h1 : 2 ^ ((-p).toNat + 1) < 2 ^ (bs + (z + 1)) := Nat.pow_lt_pow_right (by omega) (by omega)
    have h2 := two_ten (bs + (z + 1)) (bs + (z + 1)) (Nat.le_refl _)
    have h3 : 1 * 10 ^ (bs + (z + 1)) ≤ 2 ^ p.toNat * 10 ^ (bs + (z + 1)) := Nat.mul_le_mul_right _ (Nat.two_pow_pos _)
    omega
  have e3 : 2 * ((m + 1) * 2 ^ p.toNat * 10 ^ (bs + (z + 1))) = (2 * m + 1) * 2 ^ p.toNat * 10 ^ (bs + (z + 1)) + 2 ^ p.toNat * 10 ^ (bs + (z + 1)) := by
    rw [← Nat.mul_assoc, ← Nat.mul_assoc, show 2 * (m + 1) = 2 * m + 1 + 1 by omega, Nat.add_mul _ 1, Nat.one_mul, Nat.add_mul]
  have e4 : 2 * ((V * 10 ^ (z + 1) + 1) * 2 ^ (-p).toNat) = (V * 10 ^ (z + 1) + 1) * 2 ^ ((-p).toNat + 1) := by rw [show 2 ^ ((-p).toNat + 1) = 2 ^ (-p).toNat * 2 from Nat.pow_succ .., Nat.mul_comm 2, Nat.mul_assoc]
  omega
/-- One less in its last place, and nines. -/
theorem midst_less (m V bs : Nat) (p : Int) (hc : Canon m p) (hb : bs = if 0 ≤ p - 1 ∨ 2 * m + 1 = 0 then 1 else (-(p - 1)).toNat) (hv : V * 2 ^ (-(p - 1)).toNat = (2 * m + 1) * 2 ^ (p - 1).toNat * 10 ^ bs) (z : Nat) :
    decW 10 (V * 10 ^ (z + 1) - 1) (-((bs + (z + 1) : Nat) : Int)) = rung m p := by
  obtain ⟨k1, k2, k3, k4⟩ := midst_key m V bs p hb hv
  have hZ : 10 ≤ 10 ^ (z + 1) := by rw [Nat.pow_succ]; have : 0 < 10 ^ z := Nat.pow_pos (by omega); omega
  have hVZ : 1 * 10 ^ (z + 1) ≤ V * 10 ^ (z + 1) := Nat.mul_le_mul_right _ k4
  unfold decW
  rw [if_neg (by omega), show (-((bs + (z + 1) : Nat) : Int)).toNat = 0 by omega, show (-(-((bs + (z + 1) : Nat) : Int))).toNat = bs + (z + 1) by omega, Nat.pow_zero, Nat.mul_one]
  obtain ⟨D, hD⟩ : ∃ D, V * 10 ^ (z + 1) = D + 1 := ⟨V * 10 ^ (z + 1) - 1, by omega⟩
  rw [hD, Nat.add_sub_cancel]
  have hW : 0 < 2 ^ ((-p).toNat + 1) := Nat.two_pow_pos _
  have e1 : (2 * m + 1) * 2 ^ p.toNat * 10 ^ (bs + (z + 1)) = D * 2 ^ ((-p).toNat + 1) + 2 ^ ((-p).toNat + 1) := by
    rw [Nat.pow_add, ← Nat.mul_assoc, k1, Nat.mul_right_comm, hD, Nat.add_mul, Nat.one_mul]
  have hle : 2 ^ ((-p).toNat + 1) ≤ 2 ^ p.toNat * 10 ^ (bs + (z + 1)) := by
    have h2 := two_ten ((-p).toNat + 1) (bs + (z + 1)) (by omega)
    have h3 : 1 * 10 ^ (bs + (z + 1)) ≤ 2 ^ p.toNat * 10 ^ (bs + (z + 1)) := Nat.mul_le_mul_right _ (Nat.two_pow_pos _)
    omega
  have e3 : (2 * m + 1) * 2 ^ p.toNat * 10 ^ (bs + (z + 1)) = 2 * (m * 2 ^ p.toNat * 10 ^ (bs + (z + 1))) + 2 ^ p.toNat * 10 ^ (bs + (z + 1)) := by
    rw [Nat.add_mul, Nat.one_mul, Nat.add_mul, Nat.mul_assoc 2, Nat.mul_assoc 2]
  have e4 : 2 * (D * 2 ^ (-p).toNat) = D * 2 ^ ((-p).toNat + 1) := by rw [Nat.pow_succ, Nat.mul_comm 2, Nat.mul_assoc]
  refine ratio_below _ _ m p.toNat (-p).toNat p hc k3 ?_ (Nat.pow_pos (by omega)) (by omega) (by omega)
  apply Nat.pos_of_ne_zero
  intro h
  omega
end Go.Proofs.YtmcjehjpblkfoaaGreatDoor

/- What the texts around the midst between two floats are read as: plain. -/
namespace Go.Proofs.YtmcjehjpblkfoaaGreatDoor
open Go.RowKit
open Ieee (double)

def oneB : ByteArray := ⟨#[48, 48, 48, 48, 48, 48, 48, 48, 48, 48, 49]⟩
def ninesB : ByteArray := ⟨#[57, 57, 57, 57, 57, 57, 57, 57, 57, 57]⟩
theorem one_facts : valN 10 oneB.data.toList = 1 ∧ good 10 oneB.data.toList ∧ oneB.size = 11 := ⟨by decide, by unfold good; decide, rfl⟩
theorem nines_facts : valN 10 ninesB.data.toList = 9999999999 ∧ good 10 ninesB.data.toList ∧ ninesB.size = 10 := ⟨by decide, by unfold good; decide, rfl⟩
theorem read_midst (t : ByteArray) (m : Nat) (p : Int) (hc : Canon m p) (h : Pointed t (2 * m + 1) (p - 1)) (hs : t.size ≤ 1200) (ok : Bool) (pl : Int) (fl : Nat → Prop) (hr : ReadA t ok pl fl) :
    ok = true ∧ pl = 0 ∧ fl = (· = rung m p + m % 2) := by
  obtain ⟨h1, h2, h3⟩ := read_pointed false t (2 * m + 1) (p - 1) h hs ok pl fl hr
  exact ⟨h1, h2, by rw [h3, fw_midst m p hc]⟩
theorem read_more (t : ByteArray) (m : Nat) (p : Int) (hc : Canon m p) (h : Pointed t (2 * m + 1) (p - 1)) (hs : t.size + 11 ≤ 1200) (ok : Bool) (pl : Int) (fl : Nat → Prop) (hr : ReadA (t ++ oneB) ok pl fl) :
    ok = true ∧ pl = 0 ∧ fl = (· = rung m p + 1) := by
  obtain ⟨a, b, ht, ha0, hb, hg, hv, _⟩ := h
  obtain ⟨z1, z2, z3⟩ := one_facts
  have hts : (t ++ oneB).size ≤ 1200 := by rw [append_size, z3]; exact hs
  have hlist : (a ++ (b ++ oneB)).data.toList = (a ++ b).data.toList ++ oneB.data.toList := by rw [append_list, append_list, append_list, List.append_assoc]
  obtain ⟨h1, h2, h3⟩ := read_dotted false (t ++ oneB) a (b ++ oneB) (by rw [ht]; simp only [ByteArray.append_assoc]) ha0 (by rw [append_size, z3]; omega) (by rw [hlist]; exact good_append _ _ hg z2) hts ok pl fl hr
  refine ⟨h1, h2, ?_⟩
  rw [h3, hlist, valN_append, z1, data_len, append_size, z3, midst_more m _ b.size p hc hb hv 10]
  show (fun x => x = 0 + (rung m p + 1)) = _
  rw [Nat.zero_add]
theorem read_less (t : ByteArray) (m : Nat) (p : Int) (hc : Canon m p) (h : Pointed t (2 * m + 1) (p - 1)) (hs : t.size + 10 ≤ 1200) (ok : Bool) (pl : Int) (fl : Nat → Prop) (hr : ReadA (⟨(les t.data.toList).toArray⟩ ++ ninesB) ok pl fl) :
    ok = true ∧ pl = 0 ∧ fl = (· = rung m p) := by
  obtain ⟨a, b, ht, ha0, hb, hg, hv, _⟩ := h
  obtain ⟨z1, z2, z3⟩ := nines_facts
  obtain ⟨_, _, _, hV⟩ := midst_key m _ b.size p hb hv
  have hany : (a.data.toList ++ b.data.toList).any nz = true := by
    apply Classical.byContradiction
    intro hn
    have hn' : (a.data.toList ++ b.data.toList).any nz = false := by simpa using hn
    have := zeros_of _ (by rw [← append_list]; exact hg) hn'
    rw [append_list, this, valN_zeros] at hV
    omega
  obtain ⟨a', b', e1, e2, e3, e4⟩ := les_dot a.data.toList b.data.toList hany
  obtain ⟨g1, g2⟩ := les_value (a.data.toList ++ b.data.toList) (by rw [← append_list]; exact hg) hany
  have hlt : t.data.toList = a.data.toList ++ [46] ++ b.data.toList := by rw [ht, append_list, append_list]; rfl
  have hb0 : 0 < b.size := by rw [hb]; split <;> omega
  have sa : (⟨a'.toArray⟩ : ByteArray).size = a.size := by rw [← data_len, ← data_len a]; exact e3
  have sb : (⟨b'.toArray⟩ : ByteArray).size = b.size := by rw [← data_len, ← data_len b]; exact e4
  have htxt : (⟨(les t.data.toList).toArray⟩ ++ ninesB : ByteArray) = ⟨a'.toArray⟩ ++ dotB ++ (⟨b'.toArray⟩ ++ ninesB) := by
    apply bytes_ext
    rw [hlt, e1]
    simp only [append_list]
    show a' ++ [46] ++ b' ++ _ = a' ++ [46] ++ (b' ++ _)
    rw [List.append_assoc]
  have hlist : ((⟨a'.toArray⟩ : ByteArray) ++ (⟨b'.toArray⟩ ++ ninesB)).data.toList = (a' ++ b') ++ ninesB.data.toList := by
    rw [append_list, append_list]
    show a' ++ (b' ++ _) = _
    rw [List.append_assoc]
  have hsz : (⟨(les t.data.toList).toArray⟩ ++ ninesB : ByteArray).size ≤ 1200 := by
    rw [append_size, z3]
    have : (⟨(les t.data.toList).toArray⟩ : ByteArray).size = t.size := by
      rw [← data_len]
      show (les t.data.toList).length = _
      rw [les_length, data_len]
    omega
  obtain ⟨h1, h2, h3⟩ := read_dotted false _ ⟨a'.toArray⟩ (⟨b'.toArray⟩ ++ ninesB) htxt (by omega) (by rw [append_size, z3]; omega) (by rw [hlist, ← e2]; exact good_append _ _ g1 z2) hsz ok pl fl hr
  refine ⟨h1, h2, ?_⟩
  have hval : valN 10 (a' ++ b') * 10 ^ 10 + 9999999999 = valN 10 (a ++ b).data.toList * 10 ^ (9 + 1) - 1 := by
    rw [append_list, ← g2, ← e2]
    show _ * 10000000000 + _ = (_ + 1) * 10000000000 - 1
    omega
  rw [h3, hlist, valN_append, z1, data_len, append_size, z3, sb]
  have h10 : (10 : Nat) ^ ninesB.size = 10 ^ 10 := by rw [z3]
  rw [show b.size + 10 = b.size + (9 + 1) from rfl]
  first
    | rw [h10, hval, midst_less m _ b.size p hc hb hv 9]
    | rw [hval, midst_less m _ b.size p hc hb hv 9]
  show (fun x => x = 0 + rung m p) = _
  rw [Nat.zero_add]
end Go.Proofs.YtmcjehjpblkfoaaGreatDoor

/- A float's bits as the program lays them: plain facts. -/
namespace Go.Proofs.YtmcjehjpblkfoaaGreatDoor
open Go.ChangeShapes Go.WideShapes Go.RowKit
open Ieee (double)

theorem and_top (U : Nat) (s : Bool) (r : Nat) (hr : r < 9223372036854775808) (hU : U = signBit s + r) : bits .and .u64 (U : Int) 9223372036854775808 = (signBit s : Int) := by
  have hlt : U < 18446744073709551616 := by cases s <;> simp only [signBit] at hU <;> simp at hU <;> omega
  have e := bits_and_u64_nat U 9223372036854775808 hlt (by omega)
  rw [show ((9223372036854775808 : Nat) : Int) = 9223372036854775808 from rfl] at e
  rw [e]
  congr 1
  have hb : r.testBit 63 = false := Nat.testBit_lt_two_pow hr
  apply Nat.eq_of_testBit_eq
  intro i
  rw [Nat.testBit_and, show (9223372036854775808 : Nat) = 2 ^ 63 from rfl, Nat.testBit_two_pow]
  cases s
  · rw [hU]
    show ((0 + r).testBit i && _) = (0 : Nat).testBit i
    rw [Nat.zero_add, Nat.zero_testBit]
    by_cases hi : 63 = i
    · subst hi; rw [hb]; rfl
    · rw [decide_eq_false hi, Bool.and_false]
  · rw [hU]
    show ((2 ^ 63 + r).testBit i && _) = (2 ^ 63 : Nat).testBit i
    rw [Nat.testBit_two_pow]
    by_cases hi : 63 = i
    · subst hi
      rw [Nat.testBit_two_pow_add_eq, hb]; rfl
    · rw [decide_eq_false hi, Bool.and_false]
/-- What a walk is told of a word. -/
def Lays (U : Nat) (s : Bool) (E M : Nat) : Prop :=
  (bits .and .u64 (U : Int) 9223372036854775808 != 0) = s ∧ bits .and .u64 ((U : Int) / 4503599627370496) 2047 = (E : Int) ∧ bits .and .u64 (U : Int) 4503599627370495 = (M : Int)
theorem lays_any (U : Nat) (s : Bool) (E M : Nat) (hE : E < 2048) (hM : M < 4503599627370496) (hU : U = signBit s + (E * 4503599627370496 + M)) : Lays U s E M := by
  have hlt : U < 18446744073709551616 := by cases s <;> simp only [signBit] at hU <;> simp at hU <;> omega
  have ha := mask11 ((U : Int) / 4503599627370496) (by omega) (by omega)
  have hb := mask52 (U : Int) (by omega) (by omega)
  have eE : (U : Int) / 4503599627370496 % 2048 = (E : Int) := by cases s <;> simp only [signBit] at hU <;> simp at hU <;> omega
  have eM : (U : Int) % 4503599627370496 = (M : Int) := by cases s <;> simp only [signBit] at hU <;> simp at hU <;> omega
  rw [eE] at ha
  rw [eM] at hb
  refine ⟨?_, ha, hb⟩
  rw [and_top U s _ (by omega) hU]
  cases s <;> rfl
end Go.Proofs.YtmcjehjpblkfoaaGreatDoor

/- A float's bits as the program lays them: infinity. -/
namespace Go.Proofs.YtmcjehjpblkfoaaGreatDoor
open Go.ChangeShapes Go.WideShapes Go.RowKit
open Ieee (double)

set_option maxHeartbeats 400000 in
theorem infinity_any (s : Bool) (w : World) :
    Calls Tryz.prog 19 #[.bool s] w fun e w' => e = .returned (.agg #[.bool s, .int .u64 2047, .int .u64 0]) ∧ w' = w.alloc (.cells #[.bool s, .int .u64 2047, .int .u64 0] 45) := by
  go_enter Tryz.func19, Tryz.ntmps19
  go_wp2
  exact bodyPost_ret (v := .agg #[.bool s, .int .u64 2047, .int .u64 0]) (by simp [results, Tryz.results19, go_sem]) rfl ⟨rfl, rfl⟩
end Go.Proofs.YtmcjehjpblkfoaaGreatDoor

