import Derived.Test.YtpmccbkhkaoccaaGreatDoorB13
import Derived.Test.YtpmccbkhkaoccaaGreatDoorB11
/- All digits of a number: plain. -/
namespace Go.Proofs.YtpmccbkhkaoccaaGreatDoor
open Go.RowKit

/-- 0.DIGITS times 10 to the pow is M times 2 to the E; the first and the last digit are not 0. -/
def ExD (ds : ByteArray) (pow : Int) (M : Nat) (E : Int) : Prop := 0 < ds.size ∧ good 10 ds.data.toList ∧ (∀ h : 0 < ds.size, ds[0].toNat ≠ 48) ∧ (∀ h : ds.size - 1 < ds.size, ds[ds.size - 1].toNat ≠ 48)
  ∧ valN 10 ds.data.toList * 10 ^ (pow - (ds.size : Int)).toNat * 2 ^ (-E).toNat = M * 2 ^ E.toNat * 10 ^ ((ds.size : Int) - pow).toNat
/-- While zeros at the end are left out. -/
def Stp (d0 t : ByteArray) (j : Nat) : Prop := 0 < t.size ∧ good 10 t.data.toList ∧ (∀ h : 0 < t.size, t[0].toNat ≠ 48) ∧ valN 10 d0.data.toList = valN 10 t.data.toList * 10 ^ j ∧ t.size + j = d0.size
theorem stp_start (d0 : ByteArray) (A : Nat) (h : IsDec d0 A) (hA : 0 < A) : Stp d0 d0 0 := ⟨dec_pos d0 A h hA, h.1, h.2.2, by rw [Nat.pow_zero, Nat.mul_one], rfl⟩
theorem last_cut (t : ByteArray) (h : 0 < t.size) : t.data.toList = (t.extract 0 (t.size - 1)).data.toList ++ [t[t.size - 1]] := by
  have e : (t.extract 0 (t.size - 1)).data.toList = t.data.toList.take (t.size - 1) := by rw [Lib.extract_eq]; simp
  rw [e]
  have := List.take_append_getLast t.data.toList
  have h1 : t.data.toList.take (t.size - 1 + 1) = t.data.toList.take (t.size - 1) ++ [t.data.toList[t.size - 1]'(by rw [data_len]; omega)] := List.take_succ_eq_append_getElem (by rw [data_len]; omega)
  rw [show t.size - 1 + 1 = t.size by omega, List.take_of_length_le (by rw [data_len]; omega)] at h1
  exact h1
theorem valN_last (t : ByteArray) (h : 0 < t.size) (hz : t[t.size - 1].toNat = 48) : valN 10 t.data.toList = valN 10 (t.extract 0 (t.size - 1)).data.toList * 10 := by
  have e := last_cut t h
  have h1 : valN 10 [t[t.size - 1]] = 0 := by rw [valN_zero 10 _ _ hz, valN_nil]
  rw [e, valN_append, h1]
  rfl
theorem stp_next (d0 t : ByteArray) (j : Nat) (hp : 0 < valN 10 d0.data.toList) (h : Stp d0 t j) (hz : ∀ h : t.size - 1 < t.size, t[t.size - 1].toNat = 48) : Stp d0 (t.extract 0 (t.size - 1)) (j + 1) := by
  obtain ⟨h1, h2, h3, h4, h5⟩ := h
  have hv := valN_last t h1 (hz (by omega))
  have hs : (t.extract 0 (t.size - 1)).size = t.size - 1 := by simp
  have h0 : 0 < t.size - 1 := by
    apply Nat.pos_of_ne_zero
    intro h0
    have e : (t.extract 0 (t.size - 1)).data.toList = [] := List.length_eq_zero_iff.1 (by rw [data_len, hs]; exact h0)
    rw [hv, e, valN_nil] at h4
    omega
  refine ⟨by omega, ?_, ?_, ?_, by omega⟩
  · intro c hc
    exact h2 c (by rw [last_cut t h1]; exact List.mem_append_left _ hc)
  · intro h
    have := h3 h1
    rw [ByteArray.getElem_extract]
    simpa using this
  · rw [h4, hv, Nat.pow_succ, Nat.mul_assoc, Nat.mul_comm 10]
theorem stp_end (d0 t : ByteArray) (j M s : Nat) (E : Int) (h : Stp d0 t j) (hz : ∀ h : t.size - 1 < t.size, t[t.size - 1].toNat ≠ 48) (hA : valN 10 d0.data.toList = M * 2 ^ E.toNat * 5 ^ s) (hs : s = (-E).toNat) : ExD t ((d0.size : Int) - (s : Int)) M E := by
  obtain ⟨h1, h2, h3, h4, h5⟩ := h
  refine ⟨h1, h2, h3, hz, ?_⟩
  rw [show ((d0.size : Int) - (s : Int) - (t.size : Int)).toNat = j - s by omega, show ((t.size : Int) - ((d0.size : Int) - (s : Int))).toNat = s - j by omega, ← hs]
  apply Nat.eq_of_mul_eq_mul_right (Nat.pow_pos (show 0 < 10 by omega) (n := min j s))
  have e1 : 10 ^ (j - s) * 10 ^ min j s = 10 ^ j := by rw [← Nat.pow_add]; congr 1; omega
  have e2 : 10 ^ (s - j) * 10 ^ min j s = 10 ^ s := by rw [← Nat.pow_add]; congr 1; omega
  have e3 : (10 : Nat) ^ s = 5 ^ s * 2 ^ s := by rw [← Nat.mul_pow]
  rw [Nat.mul_assoc (M * 2 ^ E.toNat), e2, e3, ← Nat.mul_assoc, ← hA, h4]
  rw [Nat.mul_right_comm, Nat.mul_assoc (valN 10 t.data.toList), e1]
end Go.Proofs.YtpmccbkhkaoccaaGreatDoor

/- A number rounded to seventeen digits or more is read as the float that it was: plain. -/
namespace Go.Proofs.YtpmccbkhkaoccaaGreatDoor
open Go.RowKit
open Ieee (double)

theorem rung_step (p : Int) (hp : -1074 < p) : rung 9007199254740991 (p - 1) + 1 = rung 4503599627370496 p := by
  unfold rung
  omega
/-- A number that is very near to a float is read as it. -/
theorem near_float (A C X Y n g v : Nat) (p : Int) (hc : Canon n p) (hn : 0 < n) (hg : p = (g : Int) - v) (hA : 0 < A) (hC : 0 < C) (hY : 0 < Y) (hx : X * 2 ^ v = n * 2 ^ g * Y)
    (h : (X * C ≤ A * Y ∧ 20000000000000000 * (A * Y - X * C) ≤ X * C) ∨ (A * Y < X * C ∧ 20000000000000000 * (X * C - A * Y) ≤ X * C)) : ratioW A C = fw false n p := by
  have hn2 : n < 9007199254740992 := by rcases hc with h | h <;> omega
  have hfw : fw false n p = rung n p := by rw [fw_canon _ _ _ hc]; exact Nat.zero_add _
  have hG : 0 < 2 ^ g * C := Nat.mul_pos (Nat.two_pow_pos _) hC
  have p2 : 0 < 2 ^ v := Nat.two_pow_pos _
  have hK : X * C * 2 ^ v = n * (2 ^ g * C) * Y := by
    have e : X * C * 2 ^ v = (X * 2 ^ v) * C := by ac_rfl
    rw [e, hx]; ac_rfl
  have hP : A * Y * 2 ^ v = A * 2 ^ v * Y := by ac_rfl
  have e1 : ∀ k, k * 2 ^ g * C = k * (2 ^ g * C) := fun k => Nat.mul_assoc _ _ _
  have ev1 : A * 2 ^ (v + 1) = 2 * (A * 2 ^ v) := by rw [Nat.pow_succ]; ac_rfl
  have ev2 : A * 2 ^ (v + 1 + 1) = 4 * (A * 2 ^ v) := by rw [Nat.pow_succ, Nat.pow_succ, show (4 : Nat) = 2 * 2 from rfl]; ac_rfl
  have hlt : n * (2 ^ g * C) < 9007199254740992 * (2 ^ g * C) := Nat.mul_lt_mul_of_pos_right hn2 hG
  rw [hfw]
  rcases h with ⟨h1, h2⟩ | ⟨h1, h2⟩
  · have k1 : n * (2 ^ g * C) ≤ A * 2 ^ v := by
      refine Nat.le_of_mul_le_mul_right ?_ hY
      rw [← hK, ← hP]
      exact Nat.mul_le_mul_right _ h1
    have k2 : 20000000000000000 * (A * 2 ^ v - n * (2 ^ g * C)) ≤ n * (2 ^ g * C) := by
      refine Nat.le_of_mul_le_mul_right ?_ hY
      rw [Nat.mul_assoc, Nat.sub_mul, ← hP, ← hK, ← Nat.sub_mul, ← Nat.mul_assoc]
      exact Nat.mul_le_mul_right _ h2
    refine ratio_below A C n g v p hc hg hA hC (by rw [e1]; exact k1) ?_
    rw [e1, ev1, Nat.add_mul, Nat.one_mul, Nat.mul_assoc]
    generalize n * (2 ^ g * C) = b at *
    generalize 2 ^ g * C = G at *
    generalize A * 2 ^ v = a at *
    omega
  · have k1 : A * 2 ^ v < n * (2 ^ g * C) := by
      refine Nat.lt_of_mul_lt_mul_right (a := Y) ?_
      rw [← hK, ← hP]
      exact Nat.mul_lt_mul_of_pos_right h1 p2
    have k2 : 20000000000000000 * (n * (2 ^ g * C) - A * 2 ^ v) ≤ n * (2 ^ g * C) := by
      refine Nat.le_of_mul_le_mul_right ?_ hY
      rw [Nat.mul_assoc, Nat.sub_mul, ← hP, ← hK, ← Nat.sub_mul, ← Nat.mul_assoc]
      exact Nat.mul_le_mul_right _ h2
    by_cases hs : n = 4503599627370496 ∧ -1074 < p
    · obtain ⟨rfl, hp⟩ := hs
      have hc' : Canon 9007199254740991 (p - 1) := .inl ⟨by omega, by omega, by omega, by rcases hc with h | h <;> omega⟩
      rw [ratio_above A C 9007199254740991 g (v + 1) (p - 1) hc' (by omega) hA hC (by rw [e1, ev2]; generalize 2 ^ g * C = G at *; generalize A * 2 ^ v = a at *; omega) (by rw [e1, ev1]; generalize 2 ^ g * C = G at *; generalize A * 2 ^ v = a at *; omega)]
      exact rung_step p hp
    · have hc' : Canon (n - 1) p := by
        rcases hc with h | h
        · by_cases h4 : n = 4503599627370496
          · exact .inr ⟨by omega, by omega⟩
          · exact .inl ⟨by omega, by omega, by omega, by omega⟩
        · exact .inr ⟨by omega, h.2⟩
      obtain ⟨m, rfl⟩ : ∃ m, n = m + 1 := ⟨n - 1, by omega⟩
      rw [Nat.add_sub_cancel] at hc'
      have em : (m + 1) * (2 ^ g * C) = m * (2 ^ g * C) + 2 ^ g * C := by rw [Nat.add_mul, Nat.one_mul]
      rw [ratio_above A C m g v p hc' hg hA hC (by
        rw [e1, ev1, Nat.add_mul, Nat.one_mul, Nat.mul_assoc]
        rw [em] at k2 hlt
        have k3 := k1
        rw [em] at k3
        clear k1 em hK hP hx ev1 ev2 e1
        generalize m * (2 ^ g * C) = b at *
        generalize 2 ^ g * C = G at *
        generalize A * 2 ^ v = a at *
        omega) (by rw [e1]; exact k1)]
      unfold rung
      omega
/-- Digits near to all digits of a float are read as it. -/
theorem digits_near (n : Nat) (p : Int) (q k : Nat) (ds : ByteArray) (pow : Int) (hc : Canon n p) (hn : 0 < n) (hq : n = q * 2 ^ k) (hd : ExD ds pow q (p + k)) (N W : Nat) (hN : 17 ≤ N) (hNs : N ≤ ds.size) (hW : 0 < W)
    (h : (W * 10 ^ (ds.size - N) ≤ valN 10 ds.data.toList ∧ 2 * (valN 10 ds.data.toList - W * 10 ^ (ds.size - N)) ≤ 10 ^ (ds.size - N)) ∨ (valN 10 ds.data.toList ≤ W * 10 ^ (ds.size - N) ∧ 2 * (W * 10 ^ (ds.size - N) - valN 10 ds.data.toList) ≤ 10 ^ (ds.size - N))) :
    decW 10 W (pow - (N : Int)) = fw false n p := by
  obtain ⟨h0, hg, hf, hl, he⟩ := hd
  have hge : 10 ^ (ds.size - 1) ≤ valN 10 ds.data.toList := by
    rw [text_cons ds h0]
    have h1 := valN_good_ge 10 ds[0] (ds.extract 1 ds.size).data.toList (fun h => hf h0 ((digN_zero _).1 h))
    have h2 := extract_one ds h0
    rw [data_len] at h1
    rwa [show ds.size - 1 = (ds.extract 1 ds.size).size by omega]
  generalize valN 10 ds.data.toList = V at *
  have p10 : ∀ n, 0 < 10 ^ n := fun n => Nat.pow_pos (by omega)
  have hbig : 10000000000000000 * 10 ^ (ds.size - N) ≤ V := by
    refine Nat.le_trans ?_ hge
    have e : 10 ^ (ds.size - 1) = 10 ^ (N - 1) * 10 ^ (ds.size - N) := by rw [← Nat.pow_add]; congr 1; omega
    rw [e]
    refine Nat.mul_le_mul_right _ ?_
    have e2 : (10000000000000000 : Nat) = 10 ^ 16 := by decide
    rw [e2]
    exact Nat.pow_le_pow_right (by omega) (by omega)
  unfold decW
  rw [if_neg (by omega)]
  generalize hM : 10 ^ (ds.size - N) = M at *
  obtain ⟨T, hT⟩ : ∃ T, T = 10 ^ ((pow - (ds.size : Int)).toNat + (-(pow - (N : Int))).toNat) := ⟨_, rfl⟩
  have hT0 : 0 < T := by rw [hT]; exact p10 _
  have hAY : W * 10 ^ (pow - (N : Int)).toNat * 10 ^ ((ds.size : Int) - pow).toNat = W * M * T := by
    rw [hT, ← hM, Nat.mul_assoc, Nat.mul_assoc, ← Nat.pow_add, ← Nat.pow_add]
    congr 2
    omega
  have hXC : V * 10 ^ (pow - (ds.size : Int)).toNat * 10 ^ (-(pow - (N : Int))).toNat = V * T := by
    rw [hT, Nat.mul_assoc, ← Nat.pow_add]
  refine near_float _ _ (V * 10 ^ (pow - (ds.size : Int)).toNat) (10 ^ ((ds.size : Int) - pow).toNat) n p.toNat (-p).toNat p hc hn (by omega) (Nat.mul_pos hW (p10 _)) (p10 _) (p10 _) ?_ ?_
  · have h2 : 0 < 2 ^ (-(p + (k : Int))).toNat := Nat.two_pow_pos _
    refine Nat.eq_of_mul_eq_mul_right h2 ?_
    have e1 : V * 10 ^ (pow - (ds.size : Int)).toNat * 2 ^ (-p).toNat * 2 ^ (-(p + (k : Int))).toNat = (V * 10 ^ (pow - (ds.size : Int)).toNat * 2 ^ (-(p + (k : Int))).toNat) * 2 ^ (-p).toNat := by ac_rfl
    have e2 : q * 2 ^ (p + (k : Int)).toNat * 10 ^ ((ds.size : Int) - pow).toNat * 2 ^ (-p).toNat = q * (2 ^ (p + (k : Int)).toNat * 2 ^ (-p).toNat) * 10 ^ ((ds.size : Int) - pow).toNat := by ac_rfl
    have e3 : n * 2 ^ p.toNat * 10 ^ ((ds.size : Int) - pow).toNat * 2 ^ (-(p + (k : Int))).toNat = q * (2 ^ k * 2 ^ p.toNat * 2 ^ (-(p + (k : Int))).toNat) * 10 ^ ((ds.size : Int) - pow).toNat := by rw [hq]; ac_rfl
    rw [e1, he, e2, e3, ← Nat.pow_add, ← Nat.pow_add, ← Nat.pow_add]
    congr 3
    omega
  · rw [hAY, hXC]
    rcases h with ⟨h1, h2⟩ | ⟨h1, h2⟩
    · by_cases he : V = W * M
      · left
        rw [he]
        exact ⟨Nat.le_refl _, by rw [Nat.sub_self, Nat.mul_zero]; exact Nat.zero_le _⟩
      · right
        refine ⟨Nat.mul_lt_mul_of_pos_right (by omega) hT0, ?_⟩
        rw [← Nat.sub_mul, ← Nat.mul_assoc]
        refine Nat.mul_le_mul_right _ ?_
        generalize W * M = B at *
        omega
    · left
      refine ⟨Nat.mul_le_mul_right _ h1, ?_⟩
      rw [← Nat.sub_mul, ← Nat.mul_assoc]
      refine Nat.mul_le_mul_right _ ?_
      generalize W * M = B at *
      omega
end Go.Proofs.YtpmccbkhkaoccaaGreatDoor

/- A number written out with a point is read as the float that is nearest to it: plain. -/
namespace Go.Proofs.YtpmccbkhkaoccaaGreatDoor
open Go.RowKit
open Ieee (double)

/-- A sign ahead of a text. -/
def sgnT (neg : Bool) (t : ByteArray) : ByteArray := if neg then ⟨#[45]⟩ ++ t else t
/-- Digits, a point, digits, behind a sign: what stands where. -/
theorem bAt_append_left (a b : ByteArray) (k : Nat) (h : k < a.size) : bAt (a ++ b) k = bAt a k := by
  rw [bAt_in _ k (by rw [append_size]; omega), bAt_in _ k h, ByteArray.getElem_append_left h]
theorem bAt_append_right (a b : ByteArray) (k : Nat) : bAt (a ++ b) (a.size + k) = bAt b k := by
  by_cases h : k < b.size
  · rw [bAt_in _ _ (by rw [append_size]; omega), bAt_in _ k h, ByteArray.getElem_append_right (by omega)]
    simp
  · rw [bAt_out _ _ (by rw [append_size]; omega), bAt_out _ _ h]
theorem good_bAt (a : ByteArray) (h : good 10 a.data.toList) (k : Nat) (hk : k < a.size) : digN 99 (bAt a k) < 10 ∧ 48 ≤ bAt a k ∧ bAt a k ≤ 57 := by
  have h1 := good_at 10 a h k hk
  rw [bAt_in _ k hk]
  exact ⟨h1, (ten_digit _ h1).1, (ten_digit _ h1).2.1⟩
theorem extract_mid (p a b : ByteArray) : (p ++ a ++ b).extract p.size (p.size + a.size) = a := by
  apply ByteArray.ext
  apply Array.toList_inj.1
  rw [Lib.extract_eq, append_list, append_list]
  simp
theorem fw_sign (s : Bool) (m : Nat) (e : Int) : fw s m e = signBit s + fw false m e := by
  by_cases h : m = 0
  · subst h; rw [fw_zero, fw_zero]; rfl
  · rw [fw_place s m e (by omega), fw_place false m e (by omega)]
    show _ = _ + (0 + _)
    rw [Nat.zero_add]
theorem dec_pointed (V A n : Nat) (e : Int) (h : V * 2 ^ (-e).toNat = A * 2 ^ e.toNat * 10 ^ n) : decW 10 V (-(n : Int)) = fw false A e := by
  unfold decW
  rw [show (-(n : Int)).toNat = 0 by omega, show (-(-(n : Int))).toNat = n by omega, Nat.pow_zero, Nat.mul_one]
  have p2 : ∀ k, 0 < 2 ^ k := fun k => Nat.two_pow_pos k
  have p10 : 0 < 10 ^ n := Nat.pow_pos (by omega)
  by_cases hV : V = 0
  · rw [if_pos hV]
    have hA : A = 0 := by
      rw [hV, Nat.zero_mul] at h
      have h1 := Nat.mul_eq_zero.1 h.symm
      rcases h1 with h1 | h1
      · rcases Nat.mul_eq_zero.1 h1 with h2 | h2
        · exact h2
        · have := p2 e.toNat; omega
      · omega
    rw [hA, fw_zero]; rfl
  · rw [if_neg hV]
    have hA : 0 < A := by
      apply Nat.pos_of_ne_zero
      intro hA
      rw [hA, Nat.zero_mul, Nat.zero_mul] at h
      rcases Nat.mul_eq_zero.1 h with h2 | h2
      · exact hV h2
      · have := p2 (-e).toNat; omega
    rw [ratioW_eq V (10 ^ n) (A * 2 ^ e.toNat) (2 ^ (-e).toNat) (by omega) p10 (Nat.mul_pos hA (p2 _)) (p2 _) h, ratioW_fw A _ _ hA]
    rw [show ((e.toNat : Int) - ((-e).toNat : Int)) = e by omega]
/-- What digits, a point and digits are read as. -/
theorem read_dotted (neg : Bool) (t a b : ByteArray) (ht : t = a ++ dotB ++ b) (ha0 : 0 < a.size) (hb0 : 0 < b.size) (hg : good 10 (a ++ b).data.toList) (hs : (sgnT neg t).size ≤ 1200) (ok : Bool) (pl : Int) (fl : Nat → Prop) (hr : ReadA (sgnT neg t) ok pl fl) :
    ok = true ∧ pl = 0 ∧ fl = (· = signBit neg + decW 10 (valN 10 (a ++ b).data.toList) (-(b.size : Int))) := by
  obtain ⟨p, hp, hsg⟩ : ∃ p : ByteArray, sgnT neg t = p ++ a ++ (dotB ++ b) ∧ ((neg = true ∧ p = ⟨#[45]⟩) ∨ (neg = false ∧ p = ByteArray.empty)) := by
    cases neg
    · refine ⟨ByteArray.empty, ?_, .inr ⟨rfl, rfl⟩⟩
      show t = _
      rw [ht]; simp [ByteArray.append_assoc]
    · refine ⟨⟨#[45]⟩, ?_, .inl ⟨rfl, rfl⟩⟩
      show (⟨#[45]⟩ : ByteArray) ++ t = _
      rw [ht]; simp only [ByteArray.append_assoc]
  rw [hp] at hs hr
  have hga : good 10 a.data.toList := fun c hc => hg c (by rw [append_list]; exact List.mem_append_left _ hc)
  have hgb : good 10 b.data.toList := fun c hc => hg c (by rw [append_list]; exact List.mem_append_right _ hc)
  have hsz : (p ++ a ++ (dotB ++ b)).size = p.size + a.size + (1 + b.size) := by simp only [append_size]; rfl
  have f2 : ∀ i, i < a.size → bAt (p ++ a ++ (dotB ++ b)) (p.size + i) = bAt a i := fun i hi => by
    rw [bAt_append_left _ _ _ (by rw [append_size]; omega), bAt_append_right]
  have f3 : bAt (p ++ a ++ (dotB ++ b)) (p.size + a.size) = 46 := by
    have := bAt_append_right (p ++ a) (dotB ++ b) 0
    rw [append_size, Nat.add_zero] at this
    rw [this, bAt_append_left _ _ _ (by decide)]; rfl
  have f4 : ∀ i, bAt (p ++ a ++ (dotB ++ b)) (p.size + a.size + 1 + i) = bAt b i := fun i => by
    have h1 := bAt_append_right (p ++ a) (dotB ++ b) (1 + i)
    rw [append_size] at h1
    have h2 := bAt_append_right dotB b i
    rw [show dotB.size = 1 from rfl] at h2
    rw [Nat.add_assoc, h1, h2]
  have e1 : (p ++ a ++ (dotB ++ b)).extract p.size (p.size + a.size) = a := extract_mid p a (dotB ++ b)
  have e2 : (p ++ a ++ (dotB ++ b)).extract (p.size + a.size + 1) (p.size + a.size + 1 + b.size) = b := by
    have := extract_mid (p ++ a ++ dotB) b ByteArray.empty
    simp only [append_size, ByteArray.append_empty, show dotB.size = 1 from rfl] at this
    rw [← ByteArray.append_assoc]
    exact this
  have f1 : neg = true → bAt (p ++ a ++ (dotB ++ b)) 0 = 45 := by
    intro hn
    rcases hsg with ⟨_, rfl⟩ | ⟨h', _⟩
    · rw [bAt_append_left _ _ _ (by rw [append_size]; have : (⟨#[45]⟩ : ByteArray).size = 1 := rfl; omega), bAt_append_left _ _ _ (by decide)]; rfl
    · rw [hn] at h'; cases h'
  have hps : p.size = if neg then 1 else 0 := by
    rcases hsg with ⟨rfl, rfl⟩ | ⟨rfl, rfl⟩ <;> rfl
  generalize p ++ a ++ (dotB ++ b) = s at *
  generalize p.size = c at *
  have g2 : ∀ i, i < a.size → 48 ≤ bAt s (c + i) ∧ bAt s (c + i) ≤ 57 ∧ Dig 10 s (c + i) := fun i hi => by
    obtain ⟨d1, d2, d3⟩ := good_bAt a hga i hi
    rw [f2 i hi]
    exact ⟨d2, d3, by omega, by rw [f2 i hi]; exact d1⟩
  have r1 : Run 10 s c (c + a.size) := ⟨by omega, by omega, fun i h1 h2 => by
    obtain ⟨j, rfl⟩ : ∃ j, i = c + j := ⟨i - c, by omega⟩
    exact (g2 j (by omega)).2.2, fun hd => by have := hd.2; rw [f3] at this; revert this; decide⟩
  have r2 : Run 10 s (c + a.size + 1) (c + a.size + 1 + b.size) := ⟨by omega, by omega, fun i h1 h2 => by
    obtain ⟨j, rfl⟩ : ∃ j, i = c + a.size + 1 + j := ⟨i - (c + a.size + 1), by omega⟩
    obtain ⟨d1, _, _⟩ := good_bAt b hgb j (by omega)
    exact ⟨by omega, by rw [f4]; exact d1⟩, fun hd => by have := hd.1; omega⟩
  have fend : bAt s (c + a.size + 1 + b.size) = 0 := bAt_out _ _ (by omega)
  obtain ⟨q1, q2, _⟩ := g2 0 ha0
  rw [Nat.add_zero] at q1 q2
  rcases hr with ⟨h, _⟩ | ⟨_, neg', k, hsgn, hr⟩
  · omega
  · have hk : neg' = neg ∧ k = c := by
      cases neg
      · rw [if_neg (by decide)] at hps
        subst hps
        rcases hsgn with ⟨_, h, _⟩ | ⟨_, h, _⟩ | ⟨_, _, h1, h2⟩
        · omega
        · omega
        · exact ⟨h1, h2⟩
      · rw [if_pos rfl] at hps
        have := f1 rfl
        rcases hsgn with ⟨_, _, h1, h2⟩ | ⟨_, h, _⟩ | ⟨h, _⟩
        · exact ⟨h1, by omega⟩
        · omega
        · exact absurd this h
    obtain ⟨rfl, rfl⟩ := hk
    rcases hr with ⟨nan, h, _⟩ | ⟨_, _, b', k1, j, hbas, hrun, hr⟩
    · exfalso
      cases nan <;> simp [wordC] at h <;> omega
    · have hb' : b' = 10 ∧ k1 = k := by
        rcases hbas with ⟨_, _, h, _⟩ | ⟨_, h1, h2⟩
        · exfalso
          by_cases h1 : 1 < a.size
          · have := g2 1 h1; omega
          · rw [show k + 1 = k + a.size by omega, f3] at h
            omega
        · exact ⟨h1, h2⟩
      obtain ⟨rfl, rfl⟩ := hb'
      have hj := run_one 10 s k1 j _ hrun r1
      subst hj
      rcases hr with ⟨h, _⟩ | ⟨_, r, hf, hr⟩
      · omega
      · have hr' : r = some (a ++ b, -(b.size : Int), k1 + a.size + 1 + b.size) := by
          rcases hf with ⟨h, _⟩ | ⟨_, i, hi, h⟩
          · exact absurd f3 h
          · have := run_one 10 s _ i _ hi r2
            subst this
            rcases h with ⟨h, _⟩ | ⟨_, h⟩
            · omega
            · rw [h, e1, e2, show k1 + a.size + 1 + b.size - (k1 + a.size + 1) = b.size by omega]
        subst hr'
        rcases hr with ⟨h, _⟩ | ⟨ds, e', i, x, hsome, hx, hr⟩
        · cases h
        · cases hsome
          have hx' : x = .inl (0, k1 + a.size + 1 + b.size) := by
            rcases hx with ⟨_, h⟩ | ⟨h, _⟩
            · exact h
            · rw [fend] at h; exact absurd h (by decide)
          subst hx'
          rcases hr with ⟨_, h, _⟩ | ⟨n, a', hin, hr⟩
          · cases h
          · cases hin
            rcases hr with ⟨h, _⟩ | ⟨_, h1, h2, h3⟩
            · omega
            · refine ⟨h1, h2, ?_⟩
              rw [h3]
              have : flW neg' 10 (a ++ b) (expOf 10 (-(b.size : Int)) + 0) = signBit neg' + decW 10 (valN 10 (a ++ b).data.toList) (-(b.size : Int)) := by
                unfold flW expOf
                rw [if_neg (by decide), if_neg (by decide), Int.add_zero]
              rw [this]
/-- What a number that is written out is read as. -/
theorem read_pointed (neg : Bool) (t : ByteArray) (A : Nat) (e : Int) (h : Pointed t A e) (hs : (sgnT neg t).size ≤ 1200) (ok : Bool) (pl : Int) (fl : Nat → Prop) (hr : ReadA (sgnT neg t) ok pl fl) :
    ok = true ∧ pl = 0 ∧ fl = (· = fw neg A e) := by
  obtain ⟨a, b, ht, ha0, hb, hg, hv, _⟩ := h
  have hb0 : 0 < b.size := by rw [hb]; split <;> omega
  obtain ⟨h1, h2, h3⟩ := read_dotted neg t a b ht ha0 hb0 hg hs ok pl fl hr
  refine ⟨h1, h2, ?_⟩
  rw [h3, dec_pointed _ A b.size e hv, ← fw_sign]
end Go.Proofs.YtpmccbkhkaoccaaGreatDoor

/- A word that is read is one of 64 bits: plain. -/
namespace Go.Proofs.YtpmccbkhkaoccaaGreatDoor
open Go.RowKit
open Ieee (double)

theorem fw_half (m : Nat) (e : Int) : fw false m e < 9223372036854775808 := by
  by_cases h0 : m = 0
  · subst h0; rw [fw_zero]; decide
  · rw [fw_place false m e (by omega)]
    have : min ((max (e + (m.log2 : Int) - 52) (-1074) + 1074).toNat * 4503599627370496 + roundN m (max (e + (m.log2 : Int) - 52) (-1074) - e)) 9218868437227405312 ≤ 9218868437227405312 := Nat.min_le_right _ _
    show 0 + _ < _
    omega
theorem decW_half (b V : Nat) (e : Int) : decW b V e < 9223372036854775808 := by
  unfold decW
  split
  · omega
  · unfold ratioW ratioAt
    split <;> exact fw_half _ _
theorem flW_lt (neg : Bool) (b : Nat) (ds : ByteArray) (e : Int) : flW neg b ds e < 18446744073709551616 := by
  unfold flW
  have h1 := fw_half (valN 16 ds.data.toList) e
  have h2 := decW_half 10 (valN 10 ds.data.toList) e
  split <;> cases neg <;> simp only [signBit] <;> simp <;> omega
end Go.Proofs.YtpmccbkhkaoccaaGreatDoor

