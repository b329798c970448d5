import Derived.Test.YtaoccjaaopmfdaaGreatDoorB25
import Derived.Test.YtaoccjaaopmfdaaGreatDoorB26
import Derived.Test.YtaoccjaaopmfdaaGreatDoorB02
import Derived.Test.YtaoccjaaopmfdaaGreatDoorB13
/- What is rounded is read: plain. -/
namespace Go.Proofs.YtaoccjaaopmfdaaGreatDoor
open Go.RowKit
open Ieee (double)

def ds_dig (c : UInt8) : Nat := (digN 99 (c.toNat : Int)).toNat
theorem extract_two (d : ByteArray) (N : Nat) (h : d.size = N + 1) : d.data.toList = (d.extract 0 N).data.toList ++ [d[N]'(by omega)] := by
  rw [Lib.extract_eq]
  simp only [Nat.sub_zero, List.drop_zero]
  have hl : d.data.toList.length = N + 1 := by rw [data_len]; exact h
  have h1 : d.data.toList.drop N = [d[N]'(by omega)] := by
    rw [List.drop_eq_getElem_cons (by omega), List.drop_eq_nil_of_le (by omega)]
    rfl
  rw [← h1, List.take_append_drop]
theorem list_get (s : ByteArray) (j : Nat) (h : j < s.size) : s.data.toList[j]'(by rw [data_len]; exact h) = s[j] := rfl
/-- A text that is read as some number. -/
def ReadsSome (t : ByteArray) : Prop := ∃ v, ReadA t true 0 (· = v)
theorem good_extract (d : ByteArray) (i j : Nat) (hg : good 10 d.data.toList) : good 10 (d.extract i j).data.toList := fun c hc => by
  rw [Lib.extract_eq] at hc
  exact hg c (List.mem_of_mem_drop (List.mem_of_mem_take hc))
theorem cut_good (ds : ByteArray) (pow : Int) (n : Nat) (up : Bool) (t : ByteArray) (p' : Int) (hg : good 10 ds.data.toList) (h : cutV ds pow n up t p') : good 10 t.data.toList ∧ n ≤ t.size ∧ t.size ≤ n + 1 ∧ pow ≤ p' ∧ p' ≤ pow + 1 := by
  rcases h with ⟨_, rfl, rfl⟩ | ⟨_, more, ⟨h1, _, h2, _⟩, rfl⟩
  · refine ⟨?_, by rw [padB_size]; exact Nat.le_refl _, by rw [padB_size]; omega, by omega, by omega⟩
    unfold padB
    rw [append_list, zerosB_list]
    refine good_app ?_ (zeros_good _)
    split
    · exact good_extract ds _ _ hg
    · exact hg
  · rw [padB_size] at h2
    refine ⟨h1, ?_, ?_, ?_, ?_⟩ <;> cases more <;> simp at h2 ⊢ <;> omega
theorem fix_good (d : ByteArray) (p : Int) (k : Nat) (hg : good 10 d.data.toList) : good 10 (fxE (fxD d p) (fxP p) k).data.toList := by
  have h1 : good 10 (fxD d p).data.toList := by
    unfold fxD
    split
    · rw [append_list]; exact good_app (zeros_good _) hg
    · exact hg
  unfold fxE
  split
  · rw [append_list]; exact good_app h1 (zeros_good _)
  · exact h1
/-- The digits of Fixed are read. -/
theorem fix_read (s : Bool) (d : ByteArray) (p : Int) (k : Nat) (hg : good 10 d.data.toList) (hp : p ≤ 400) (hk : k ≤ 400) :
    ∃ v, ReadA (sgnB s ++ fixB d p k) true 0 (· = v) ∧ (d.size = 0 → p = 1 → v = signBit s) := by
  have hgE := fix_good d p k hg
  have hM1 : 1 ≤ fxP p := by unfold fxP; split <;> omega
  have hM2 : fxP p ≤ 400 := by unfold fxP; split <;> omega
  obtain ⟨hz1, _⟩ := fxE_size (fxD d p) (fxP p) k
  obtain ⟨M, hM⟩ : ∃ M : Nat, fxP p = (M : Int) := ⟨(fxP p).toNat, by omega⟩
  have hzero : d.size = 0 → p = 1 → valN 10 (fxE (fxD d p) (fxP p) k).data.toList = 0 := fun h0 h1 => by
    subst h1
    have hd : d.data.toList = [] := List.length_eq_zero_iff.1 (by rw [data_len]; exact h0)
    have e : fxD d 1 = d := by unfold fxD; rw [if_neg (by omega)]
    rw [e]
    unfold fxE
    split
    · rw [append_list, zerosB_list, hd, List.nil_append]
      have := zeros_ahead (fxP 1 + (k : Int) - (d.size : Int)).toNat []
      rw [List.append_nil, valN_nil] at this
      exact this
    · rw [hd, valN_nil]
  unfold fixB
  generalize fxE (fxD d p) (fxP p) k = T at *
  rw [hM, Int.toNat_natCast]
  have hMT : M + k ≤ T.size := by omega
  have ha : (T.extract 0 M).size = M := by rw [ByteArray.size_extract]; omega
  have hgA := good_extract T 0 M hgE
  have hgB := good_extract T M (M + k) hgE
  have hsz := sgnB_size s
  have hv0 : ∀ (t : ByteArray) (e : Int), valN 10 t.data.toList = 0 → flW s 10 t e = signBit s := fun t e h => by
    unfold flW decW
    rw [if_neg (by omega), h, if_pos rfl]
    rfl
  have hsub : ∀ (l m : List UInt8), valN 10 (l ++ m) = 0 → valN 10 l = 0 := fun l m h => by
    rw [valN_append] at h
    have hp : 0 < 10 ^ m.length := Nat.pow_pos (by omega)
    have h1 : valN 10 l * 10 ^ m.length = 0 := by omega
    rcases Nat.mul_eq_zero.1 h1 with h2 | h2
    · exact h2
    · omega
  have hpre : ∀ j, j ≤ T.size → (T.extract 0 j).data.toList ++ T.data.toList.drop j = T.data.toList := fun j _ => by
    rw [Lib.extract_eq]
    simp only [Nat.sub_zero, List.drop_zero]
    exact List.take_append_drop j _
  by_cases hk0 : k = 0
  · rw [if_pos hk0, sgn_text]
    have e : T.extract 0 M = T.extract 0 M ++ ByteArray.empty ++ ByteArray.empty := by rw [ByteArray.append_empty, ByteArray.append_empty]
    rw [e]
    have hs : (sgnT s (T.extract 0 M ++ ByteArray.empty ++ ByteArray.empty)).size ≤ 1200 := by rw [← e, ← sgn_text, append_size]; omega
    refine ⟨_, read_made s (T.extract 0 M) ByteArray.empty ByteArray.empty ByteArray.empty 0 (by omega) hgA (.inl ⟨rfl, rfl⟩) (fun c hc => by cases hc) (.inl ⟨rfl, rfl⟩) hs, fun h0 h1 => ?_⟩
    rw [ByteArray.append_empty]
    refine hv0 _ _ (hsub _ (T.data.toList.drop M) ?_)
    rw [hpre M (by omega)]
    exact hzero h0 h1
  · rw [if_neg hk0, sgn_text]
    have hb : (T.extract M (M + k)).size = k := by rw [ByteArray.size_extract]; omega
    have e : T.extract 0 M ++ ⟨#[46]⟩ ++ T.extract M (M + k) = T.extract 0 M ++ (dotB ++ T.extract M (M + k)) ++ ByteArray.empty := by
      rw [ByteArray.append_empty, ByteArray.append_assoc]; rfl
    rw [e]
    have hs : (sgnT s (T.extract 0 M ++ (dotB ++ T.extract M (M + k)) ++ ByteArray.empty)).size ≤ 1200 := by
      rw [← e, ← sgn_text, append_size, append_size, append_size]
      have e1 : (⟨#[46]⟩ : ByteArray).size = 1 := rfl
      omega
    refine ⟨_, read_made s (T.extract 0 M) (dotB ++ T.extract M (M + k)) ByteArray.empty (T.extract M (M + k)) 0 (by omega) hgA (.inr ⟨rfl, by omega⟩) hgB (.inl ⟨rfl, rfl⟩) hs, fun h0 h1 => ?_⟩
    have hj : (T.extract 0 M ++ T.extract M (M + k)).data.toList = (T.extract 0 (M + k)).data.toList := by
      rw [append_list, Lib.extract_eq, Lib.extract_eq, Lib.extract_eq]
      simp only [Nat.sub_zero, List.drop_zero, Nat.add_sub_cancel_left]
      rw [List.take_add]
    refine hv0 _ _ ?_
    rw [hj]
    refine hsub _ (T.data.toList.drop (M + k)) ?_
    rw [hpre (M + k) hMT]
    exact hzero h0 h1
/-- The next digit tells whether more or less than a half is behind. -/
theorem rounds_half (ds : ByteArray) (N : Nat) (hN : N < ds.size) (hg : good 10 ds.data.toList) (R : Nat) (hv : valN 10 ds.data.toList = valN 10 (padB ds N).data.toList * 10 ^ (ds.size - N) + R) :
    (roundsB ds (N : Int) = true → 10 ^ (ds.size - N) ≤ 2 * R) ∧ (roundsB ds (N : Int) = false → 2 * R ≤ 10 ^ (ds.size - N)) := by
  have hl : ds.data.toList.length = ds.size := data_len ds
  -- what is behind, by its first digit
  have hdrop : ds.data.toList.drop N = ds[N] :: ds.data.toList.drop (N + 1) := by
    rw [List.drop_eq_getElem_cons (by rw [hl]; exact hN)]
    rfl
  obtain ⟨_, R', hR', hv'⟩ := pad_val ds N hN hg
  have hRR : R = valN 10 (ds.data.toList.drop N) := by
    have e : (padB ds N).data.toList = ds.data.toList.take N := by
      unfold padB
      rw [if_pos hN, append_list, show N - ds.size = 0 by omega, Lib.extract_eq]
      show _ ++ List.replicate 0 48 = _
      simp
    have h1 := valN_append (ds.data.toList.take N) (ds.data.toList.drop N)
    rw [List.take_append_drop, List.length_drop, hl, ← e] at h1
    omega
  have hc := ten_digit ds[N] (hg ds[N] (by rw [← list_get ds N hN]; exact List.getElem_mem _))
  have hg2 : good 10 (ds.data.toList.drop (N + 1)) := fun c hc => hg c (List.mem_of_mem_drop hc)
  have hlt2 := valN_good_lt 10 _ hg2
  rw [List.length_drop, hl] at hlt2
  rw [hdrop, valN_cons, List.length_drop, hl] at hRR
  have hpow : 10 ^ (ds.size - N) = 10 * 10 ^ (ds.size - (N + 1)) := by rw [show ds.size - N = (ds.size - (N + 1)) + 1 by omega, Nat.pow_succ, Nat.mul_comm]
  obtain ⟨g, hgd⟩ : ∃ g : Nat, digN 99 (ds[N].toNat : Int) = (g : Int) ∧ ds[N].toNat = 48 + g ∧ g < 10 := ⟨ds[N].toNat - 48, by omega, by omega, by omega⟩
  rw [hgd.1, Int.toNat_natCast] at hRR
  unfold roundsB
  rw [dif_pos ⟨by omega, by omega⟩]
  simp only [Int.toNat_natCast]
  generalize hP : 10 ^ (ds.size - (N + 1)) = P at *
  generalize valN 10 (ds.data.toList.drop (N + 1)) = Z at *
  have hP0 : 0 < P := by rw [← hP]; exact Nat.pow_pos (by omega)
  by_cases h5 : ds[N].toNat ≠ 53 ∨ N + 1 < ds.size
  · rw [if_pos h5]
    refine ⟨fun h => ?_, fun h => ?_⟩
    · have h53 := of_decide_eq_true h
      have : 5 * P ≤ g * P := Nat.mul_le_mul_right _ (by omega)
      omega
    · have h53 := of_decide_eq_false h
      have : g * P ≤ 4 * P := Nat.mul_le_mul_right _ (by omega)
      omega
  · rw [if_neg h5]
    have hg5 : g = 5 := by omega
    have hs1 : ds.size - (N + 1) = 0 := by omega
    rw [hs1, Nat.pow_zero] at hP
    subst hP
    subst hg5
    exact ⟨fun _ => by omega, fun _ => by omega⟩
/-- The digits that Digits writes are those of the cut. -/
theorem cut_first (ds : ByteArray) (pow : Int) (N : Nat) (up : Bool) (d : ByteArray) (p' : Int) (hN : 1 ≤ N) (h : cutV ds pow N up d p') :
    ∃ W : Nat, (W = valN 10 (padB ds N).data.toList + if up then 1 else 0) ∧ decW 10 (valN 10 (d.extract 0 N).data.toList) (p' - (N : Int)) = decW 10 W (pow - (N : Int)) := by
  rcases h with ⟨rfl, rfl, rfl⟩ | ⟨rfl, more, ⟨hg, hv, hs, hm⟩, rfl⟩
  · refine ⟨_, rfl, ?_⟩
    have e : (padB ds N).extract 0 N = padB ds N := by
      apply ByteArray.ext; apply Array.toList_inj.1
      rw [Lib.extract_eq]
      simp only [Nat.sub_zero, List.drop_zero]
      exact List.take_of_length_le (by rw [data_len, padB_size]; exact Nat.le_refl _)
    rw [e]
    simp
  · rw [padB_size] at hs hm
    refine ⟨_, rfl, ?_⟩
    cases more
    · simp at hs
      have e : d.extract 0 N = d := by
        apply ByteArray.ext; apply Array.toList_inj.1
        rw [Lib.extract_eq]
        simp only [Nat.sub_zero, List.drop_zero]
        exact List.take_of_length_le (by rw [data_len, hs]; exact Nat.le_refl _)
      rw [e, hv]
      simp
    · simp at hs
      have hpow := hm rfl
      have hsplit : d.data.toList = (d.extract 0 N).data.toList ++ [d[N]] := by
        have h1 := extract_two d N (by omega)
        exact h1
      have hlast := ten_digit d[N] (hg d[N] (by rw [← list_get d N (by omega)]; exact List.getElem_mem _))
      have hval : valN 10 d.data.toList = valN 10 (d.extract 0 N).data.toList * 10 + (ds_dig d[N]) := by
        rw [hsplit, valN_append]
        show _ * 10 ^ 1 + _ = _
        rw [valN_cons, valN_nil]
        simp [ds_dig]
      have hdig : ds_dig d[N] < 10 := by unfold ds_dig; omega
      rw [hv, hpow] at hval
      have hNp : 10 ^ N = 10 ^ (N - 1) * 10 := by rw [← Nat.pow_succ]; congr 1; omega
      have hx : valN 10 (d.extract 0 N).data.toList = 10 ^ (N - 1) := by omega
      rw [hx]
      simp only [if_true]
      rw [hpow, hNp]
      have := dec_zeros (10 ^ (N - 1)) 1 (pow - (N : Int))
      rw [Nat.pow_one] at this
      rw [this]
      congr 1
      omega
theorem digits_back (n : Nat) (p : Int) (q k : Nat) (ds : ByteArray) (pow : Int) (hc : Canon n p) (hn : 0 < n) (hq : n = q * 2 ^ k) (hd : ExD ds pow q (p + k)) (N : Nat) (hN : 17 ≤ N) (d : ByteArray) (p' : Int) (h : cutV ds pow N (roundsB ds (N : Int)) d p') :
    decW 10 (valN 10 (d.extract 0 N).data.toList) (p' - (N : Int)) = fw false n p := by
  obtain ⟨W, hW, he⟩ := cut_first ds pow N _ d p' (by omega) h
  rw [he]
  by_cases hs : N < ds.size
  · obtain ⟨_, R, hR, hv⟩ := pad_val ds N hs hd.2.1
    obtain ⟨r1, r2⟩ := rounds_half ds N hs hd.2.1 R hv
    have hpos := pad_pos ds N hs (by omega) hd.2.1 hd.2.2.1
    refine digits_near n p q k ds pow hc hn hq hd N W hN (by omega) (by omega) ?_
    cases hr : roundsB ds (N : Int)
    · have := r2 hr
      rw [hr] at hW
      simp at hW
      left
      rw [hW]
      exact ⟨by omega, by omega⟩
    · have := r1 hr
      rw [hr] at hW
      simp at hW
      right
      rw [hW, Nat.add_mul, Nat.one_mul]
      exact ⟨by omega, by omega⟩
  · have hr : roundsB ds (N : Int) = false := by
      unfold roundsB
      rw [dif_neg (by omega)]
    rw [hr] at hW
    simp at hW
    have hq0 : 0 < q := by
      apply Nat.pos_of_ne_zero
      intro h
      rw [h, Nat.zero_mul] at hq
      omega
    have hv : valN 10 (padB ds N).data.toList = valN 10 ds.data.toList * 10 ^ (N - ds.size) := by
      unfold padB
      rw [if_neg hs, append_list, zerosB_list, zeros_behind]
    rw [hW, hv, dec_zeros, show pow - (N : Int) + ((N - ds.size : Nat) : Int) = pow - (ds.size : Int) by omega, exD_reads ds pow q (p + k) hq0 hd]
    have := fw_scale false q k (p + k)
    rw [show p + (k : Int) - (k : Int) = p by omega, ← hq] at this
    exact this.symm
end Go.Proofs.YtaoccjaaopmfdaaGreatDoor

/- A word is one thing alone: plain. -/
namespace Go.Proofs.YtaoccjaaopmfdaaGreatDoor
open Ieee (double)

theorem fw_one (s t : Bool) (m n : Nat) (p q : Int) (h : Canon m p) (k : Canon n q) (e : fw s m p = fw t n q) : s = t ∧ m = n ∧ p = q := by
  have h1 := read_canon s m p h
  have h2 := read_canon t n q k
  rw [e, h2] at h1
  cases h1
  exact ⟨rfl, rfl, rfl⟩
theorem iw_fw (s t : Bool) (m : Nat) (p : Int) (h : Canon m p) (e : iw s = fw t m p) : False := by
  have h1 := read_canon t m p h
  rw [← e, read_iw] at h1
  cases h1
theorem nan_not_fw (s : Bool) (m : Nat) (p : Int) (h : Canon m p) (hn : IsNan (fw s m p)) : False := by
  have h2 := fw_eq_self s m p h
  rw [nan_neq _ hn] at h2
  cases h2
theorem nan_not_iw (s : Bool) (hn : IsNan (iw s)) : False := by
  have h2 := iw_eq_self s
  rw [nan_neq _ hn] at h2
  cases h2
theorem iw_one (s t : Bool) (h : iw s = iw t) : s = t := by
  have h1 := read_iw s
  rw [h, read_iw] at h1
  cases h1; rfl
theorem sign_one (s t : Bool) (h : signBit s = signBit t) : s = t := by cases s <;> cases t <;> first | rfl | (exact absurd h (by decide))
theorem sign_fw (s t : Bool) (m : Nat) (p : Int) (hc : Canon m p) (h0 : 0 < m) (h : signBit s = fw t m p) : False := by
  have h1 := fw_one s t 0 m (-1074) p canon_zero hc (by rw [fw_zero]; exact h)
  omega
theorem sign_iw (s t : Bool) (h : signBit s = iw t) : False := by cases s <;> cases t <;> exact absurd h (by decide)
theorem sign_nan (s : Bool) (h : IsNan (signBit s)) : False := nan_not_fw s 0 (-1074) canon_zero (by rw [fw_zero]; exact h)
end Go.Proofs.YtaoccjaaopmfdaaGreatDoor

/- What the law on rounding asks: plain. -/
namespace Go.Proofs.YtaoccjaaopmfdaaGreatDoor
open Go.RowKit
open Ieee (double)

theorem zeros_val0 (n : Nat) : valN 10 (zerosB n).data.toList = 0 := by
  rw [zerosB_list]
  have := zeros_ahead n []
  rw [List.append_nil, valN_nil] at this
  exact this
theorem rnd_fixed (x : Nat) (k : Nat) (hk : k ≤ 400) (t : ByteArray) (h : fixedV x (k : Int) t) : (ReadsSome t ∨ IsNan x ∧ ReadA t true 0 IsNan) ∧ ((∀ s n p, Canon n p → 0 < n → x ≠ fw s n p) → Reads t x) := by
  rcases h with ⟨h, _⟩ | ⟨_, ⟨hn, rfl⟩ | ⟨s, rfl, rfl⟩ | ⟨s, rfl, rfl⟩ | ⟨s, m, p, q, j, ds, pow, d, p', hc, hm, rfl, hq, _, hd, hfx, rfl⟩⟩
  · omega
  · exact ⟨.inr ⟨hn, read_nan⟩, fun _ => ⟨_, read_nan, hn, .inl rfl⟩⟩
  · exact ⟨.inl ⟨_, read_inf s⟩, fun _ => ⟨_, read_inf s, rfl, .inr rfl⟩⟩
  · obtain ⟨v, hv, h0⟩ := fix_read s ⟨#[]⟩ 1 k (fun c hc => by cases hc) (by omega) hk
    rw [Int.toNat_natCast]
    have e := h0 rfl rfl
    subst e
    exact ⟨.inl ⟨_, hv⟩, fun _ => ⟨_, hv, rfl, .inr rfl⟩⟩
  · rw [Int.toNat_natCast] at hfx ⊢
    obtain ⟨a1, a2, a3, a4⟩ := exact_sizes m p q j ds pow hc hm hq hd
    have hdg : good 10 d.data.toList ∧ p' ≤ 400 := by
      rcases hfx with ⟨_, rfl, rfl⟩ | ⟨_, hcut⟩
      · exact ⟨(fun c hc => by cases hc), by omega⟩
      · obtain ⟨g, _, _, _, h5⟩ := cut_good _ _ _ _ _ _ hd.2.1 hcut
        exact ⟨g, by omega⟩
    obtain ⟨v, hv, _⟩ := fix_read s d p' k hdg.1 hdg.2 hk
    exact ⟨.inl ⟨v, hv⟩, fun h => absurd rfl (h s m p hc hm)⟩
theorem rnd_digits (x : Nat) (N : Nat) (h1 : 1 ≤ N) (h2 : N ≤ 400) (t : ByteArray) (h : digitsV x (N : Int) t) : (ReadsSome t ∨ IsNan x ∧ ReadA t true 0 IsNan) ∧ ((∀ s n p, Canon n p → 0 < n → x ≠ fw s n p) → Reads t x) ∧ (17 ≤ N → Reads t x) := by
  rcases h with ⟨h, _⟩ | ⟨_, ⟨hn, rfl⟩ | ⟨s, rfl, rfl⟩ | ⟨s, rfl, rfl⟩ | ⟨s, m, p, q, j, ds, pow, d, p', hc, hm, rfl, hq, _, hd, hcut, rfl⟩⟩
  · omega
  · exact ⟨.inr ⟨hn, read_nan⟩, fun _ => ⟨_, read_nan, hn, .inl rfl⟩, fun _ => ⟨_, read_nan, hn, .inl rfl⟩⟩
  · exact ⟨.inl ⟨_, read_inf s⟩, fun _ => ⟨_, read_inf s, rfl, .inr rfl⟩, fun _ => ⟨_, read_inf s, rfl, .inr rfl⟩⟩
  · rw [Int.toNat_natCast]
    have hz := zerosB_size N
    have hsc := sciB_size (zerosB N) 1
    have hsg := sgnB_size s
    have hr := read_sci s (zerosB N) 1 (by omega) (zeros_good N) (by omega) (by omega) (by rw [append_size]; omega)
    have hv : signBit s + decW 10 (valN 10 (zerosB N).data.toList) (1 - ((zerosB N).size : Int)) = signBit s := by
      rw [zeros_val0]
      unfold decW
      rw [if_pos rfl]
      rfl
    rw [hv] at hr
    exact ⟨.inl ⟨_, hr⟩, fun _ => ⟨_, hr, rfl, .inr rfl⟩, fun _ => ⟨_, hr, rfl, .inr rfl⟩⟩
  · rw [Int.toNat_natCast] at hcut ⊢
    obtain ⟨a1, a2, a3, a4⟩ := exact_sizes m p q j ds pow hc hm hq hd
    obtain ⟨g, g1, g2, g3, g4⟩ := cut_good _ _ _ _ _ _ hd.2.1 hcut
    have hsz : (d.extract 0 N).size = N := by rw [ByteArray.size_extract]; omega
    have hsc := sciB_size (d.extract 0 N) p'
    have hsg := sgnB_size s
    have hr := read_sci s (d.extract 0 N) p' (by omega) (good_extract d 0 N g) (by omega) (by omega) (by rw [append_size]; omega)
    refine ⟨.inl ⟨_, hr⟩, fun h => absurd rfl (h s m p hc hm), fun hN => ?_⟩
    rw [hsz, digits_back m p q j ds pow hc hm hq hd N hN d p' hcut, ← fw_sign] at hr
    exact ⟨_, hr, rfl, .inr rfl⟩
end Go.Proofs.YtaoccjaaopmfdaaGreatDoor

/- Fixed's answer is fixed. -/
namespace Go.Proofs.YtaoccjaaopmfdaaGreatDoor
open Ieee (double)

theorem fixedV_one (x : Nat) (n : Int) (t t' : ByteArray) (h : fixedV x n t) (h' : fixedV x n t') : t = t' := by
  rcases h with ⟨ho, rfl⟩ | ⟨ho, h⟩
  · rcases h' with ⟨_, rfl⟩ | ⟨ho', _⟩
    · rfl
    · exfalso; omega
  · rcases h' with ⟨ho', _⟩ | ⟨_, h'⟩
    · exfalso; omega
    · rcases h with ⟨a, rfl⟩ | ⟨s, rfl, rfl⟩ | ⟨s, rfl, rfl⟩ | ⟨s, m, p, q, k, ds, pow, d, r, hc, h0, rfl, hq, hq1, hd, hl, rfl⟩
      · rcases h' with ⟨_, rfl⟩ | ⟨s, rfl, rfl⟩ | ⟨s, rfl, rfl⟩ | ⟨s, m, p, q, k, ds, pow, d, r, hc, h0, rfl, hq, hq1, hd, hl, rfl⟩
        · rfl
        · exact (nan_not_iw s a).elim
        · exact (sign_nan s a).elim
        · exact (nan_not_fw s m p hc a).elim
      · rcases h' with ⟨a, _⟩ | ⟨t, e, rfl⟩ | ⟨t, e, rfl⟩ | ⟨t, m, p, q, k, ds, pow, d, r, hc, h0, e, hq, hq1, hd, hl, rfl⟩
        · exact (nan_not_iw s a).elim
        · rw [iw_one s t e]
        · exact (sign_iw t s e.symm).elim
        · exact (iw_fw s t m p hc e).elim
      · rcases h' with ⟨a, _⟩ | ⟨t, e, rfl⟩ | ⟨t, e, rfl⟩ | ⟨t, m, p, q, k, ds, pow, d, r, hc, h0, e, hq, hq1, hd, hl, rfl⟩
        · exact (sign_nan s a).elim
        · exact (sign_iw s t e).elim
        · rw [sign_one s t e]
        · exact (sign_fw s t m p hc h0 e).elim
      · rcases h' with ⟨a, _⟩ | ⟨t, e, rfl⟩ | ⟨t, e, rfl⟩ | ⟨t, m', p', q', k', ds', pow', d', r', hc', h0', e, hq', hq1', hd', hl', rfl⟩
        · exact (nan_not_fw s m p hc a).elim
        · exact (iw_fw t s m p hc e.symm).elim
        · exact (sign_fw t s m p hc h0 e.symm).elim
        · obtain ⟨rfl, rfl, rfl⟩ := fw_one s t m m' p p' hc hc' e
          obtain ⟨rfl, rfl⟩ := odd_one q k q' k' (hq.symm.trans hq') hq1 hq1'
          obtain ⟨rfl, rfl⟩ := exD_one ds ds' pow pow' q _ hd hd'
          obtain ⟨rfl, rfl⟩ := fixD_one hl hl'
          rfl
end Go.Proofs.YtaoccjaaopmfdaaGreatDoor

