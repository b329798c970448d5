import Derived.Test.YtpmccbkhkaoccaaGreatDoorB31
import Derived.Test.YtpmccbkhkaoccaaGreatDoorB33
import Derived.Test.YtpmccbkhkaoccaaGreatDoorB08
import Derived.Test.YtpmccbkhkaoccaaGreatDoorB05
import Derived.Test.YtpmccbkhkaoccaaGreatDoorB25
import Derived.Test.YtpmccbkhkaoccaaGreatDoorB16
import Derived.Test.YtpmccbkhkaoccaaGreatDoorB23
import Derived.Test.YtpmccbkhkaoccaaGreatDoorB17
import Derived.Deep.RegionWith
import Derived.Deep.Cut
import Derived.Deep.CutRange
/- How many digits a text has, from its first that is not 0 to its last that is not 0: plain. -/
namespace Go.Proofs.YtpmccbkhkaoccaaGreatDoor
open Go.RowKit

/-- One byte more. -/
def cstep (st : Nat × Nat) (c : UInt8) : Nat × Nat := if c.toNat < 48 ∨ 57 < c.toNat ∨ (c.toNat = 48 ∧ st.1 = 0) then st else (st.1 + 1, if c.toNat = 48 then st.2 else st.1 + 1)
def cfold (st : Nat × Nat) (l : List UInt8) : Nat × Nat := l.foldl cstep st
theorem cfold_append (st : Nat × Nat) (a b : List UInt8) : cfold st (a ++ b) = cfold (cfold st a) b := List.foldl_append ..
theorem cfold_snoc (st : Nat × Nat) (a : List UInt8) (c : UInt8) : cfold st (a ++ [c]) = cstep (cfold st a) c := by rw [cfold_append]; rfl
theorem cfold_skip (st : Nat × Nat) (c : UInt8) (h : c.toNat < 48 ∨ 57 < c.toNat) : cfold st [c] = st := by
  show cstep st c = st
  unfold cstep
  rw [if_pos (by omega)]
theorem cfold_zeros0 (k y : Nat) : cfold (0, y) (List.replicate k 48) = (0, y) := by
  induction k with
  | zero => rfl
  | succ k ih =>
    rw [List.replicate_succ]
    have : cstep (0, y) 48 = (0, y) := by unfold cstep; rw [if_pos (.inr (.inr ⟨rfl, rfl⟩))]
    have e : cfold (0, y) (48 :: List.replicate k 48) = cfold (cstep (0, y) 48) (List.replicate k 48) := rfl
    rw [e, this, ih]
theorem cfold_zeros (k n y : Nat) (h : 0 < n) : cfold (n, y) (List.replicate k 48) = (n + k, y) := by
  induction k generalizing n with
  | zero => rfl
  | succ k ih =>
    rw [List.replicate_succ]
    have e : cfold (n, y) (48 :: List.replicate k 48) = cfold (cstep (n, y) 48) (List.replicate k 48) := rfl
    have h48 : (48 : UInt8).toNat = 48 := rfl
    have : cstep (n, y) 48 = (n + 1, y) := by
      unfold cstep
      rw [if_neg (by rw [h48]; simp; omega), if_pos h48]
    rw [e, this, ih (n + 1) (by omega)]
    congr 1
    omega
/-- Digits behind a first one count, each. -/
theorem cfold_digits (l : List UInt8) (n y : Nat) (hn : 0 < n) (hg : good 10 l) : (cfold (n, y) l).1 = n + l.length ∧ (∀ c, l.getLast? = some c → c.toNat ≠ 48 → (cfold (n, y) l).2 = n + l.length) := by
  induction l generalizing n y with
  | nil => exact ⟨rfl, fun c h => by cases h⟩
  | cons c l ih =>
    have hc := ten_digit c (hg c (List.mem_cons_self ..))
    have hs : ∃ y', cstep (n, y) c = (n + 1, y') ∧ (c.toNat ≠ 48 → y' = n + 1) := by
      unfold cstep
      rw [if_neg (by simp; omega)]
      by_cases h : c.toNat = 48
      · exact ⟨y, by rw [if_pos h], fun h' => absurd h h'⟩
      · exact ⟨n + 1, by rw [if_neg h], fun _ => rfl⟩
    obtain ⟨y', hs, hy⟩ := hs
    have hcf : cfold (n, y) (c :: l) = cfold (n + 1, y') l := by show cfold (cstep (n, y) c) l = _; rw [hs]
    obtain ⟨i1, i2⟩ := ih (n + 1) y' (by omega) (fun d hd => hg d (List.mem_cons_of_mem _ hd))
    rw [hcf]
    refine ⟨by rw [i1, List.length_cons]; omega, fun d hd hd' => ?_⟩
    cases l with
    | nil =>
      have : c = d := by simpa using hd
      subst this
      show y' = _
      rw [hy hd']
      rfl
    | cons e l =>
      rw [i2 d (by rw [← hd]; simp) hd']
      simp only [List.length_cons]
      omega
/-- The digits of a number, whatever stood ahead. -/
theorem cfold_number (u : ByteArray) (h0 : 0 < u.size) (hg : good 10 u.data.toList) (hf : u[0].toNat ≠ 48) (hl : ∀ h : u.size - 1 < u.size, u[u.size - 1].toNat ≠ 48) : cfold (0, 0) u.data.toList = (u.size, u.size) := by
  have hlen : u.data.toList.length = u.size := data_len u
  have hcons := text_cons u h0
  have hx : (u.extract 1 u.size).data.toList.length = u.size - 1 := by have := extract_one u h0; rw [data_len]; omega
  rw [hcons] at hg ⊢
  have hc := ten_digit u[0] (hg u[0] (List.mem_cons_self ..))
  have hs : cstep (0, 0) u[0] = (1, 1) := by
    unfold cstep
    rw [if_neg (by simp; omega), if_neg hf]
  show cfold (cstep (0, 0) u[0]) _ = _
  rw [hs]
  obtain ⟨i1, i2⟩ := cfold_digits (u.extract 1 u.size).data.toList 1 1 (by omega) (fun d hd => hg d (List.mem_cons_of_mem _ hd))
  have e1 : (cfold (1, 1) (u.extract 1 u.size).data.toList).1 = u.size := by rw [i1, hx]; omega
  have e2 : (cfold (1, 1) (u.extract 1 u.size).data.toList).2 = u.size := by
    by_cases h1 : u.size = 1
    · have : (u.extract 1 u.size).data.toList = [] := List.length_eq_zero_iff.1 (by omega)
      rw [this]
      show 1 = _
      omega
    · have hlast : (u.extract 1 u.size).data.toList.getLast? = some u[u.size - 1] := by
        have h2 : u.data.toList.getLast? = some u[u.size - 1] := by
          rw [List.getLast?_eq_getElem?, hlen, List.getElem?_eq_getElem (by omega)]
          rfl
        rw [hcons, List.getLast?_cons] at h2
        cases hq : (u.extract 1 u.size).data.toList.getLast? with
        | none =>
          have := List.getLast?_eq_none_iff.1 hq
          rw [this] at hx
          simp at hx
          omega
        | some z =>
          rw [hq] at h2
          simpa using h2
      rw [i2 _ hlast (hl (by omega)), hx]
      omega
  exact Prod.ext e1 e2
end Go.Proofs.YtpmccbkhkaoccaaGreatDoor

/- How many digits the shortest text has: plain. -/
namespace Go.Proofs.YtpmccbkhkaoccaaGreatDoor
open Go.RowKit

/-- What Count looks at: all that stands ahead of an e. -/
def Ahead (s : ByteArray) (i : Nat) : Prop := i ≤ s.size ∧ (∀ j (h : j < s.size), j < i → s[j].toNat ≠ 101) ∧ (i = s.size ∨ ∃ h : i < s.size, s[i].toNat = 101)
theorem list_at (s : ByteArray) (j : Nat) (h : j < s.size) : s.data.toList[j]'(by rw [data_len]; exact h) = s[j] := rfl
theorem ahead_all (s : ByteArray) (i : Nat) (h : Ahead s i) (hno : ∀ c ∈ s.data.toList, c.toNat ≠ 101) : s.data.toList.take i = s.data.toList := by
  obtain ⟨h1, _, h2 | ⟨h3, h4⟩⟩ := h
  · rw [h2, ← data_len, List.take_length]
  · exfalso
    rw [← list_at s i h3] at h4
    exact hno _ (List.getElem_mem _) h4
theorem ahead_e (s : ByteArray) (i : Nat) (Q R : List UInt8) (h : Ahead s i) (hs : s.data.toList = Q ++ 101 :: R) (hno : ∀ c ∈ Q, c.toNat ≠ 101) : s.data.toList.take i = Q := by
  have hlen : s.size = Q.length + 1 + R.length := by rw [← data_len, hs]; simp; omega
  have hQ : s.data.toList[Q.length]'(by rw [data_len]; omega) = 101 := by simp [hs]
  obtain ⟨h1, h2, h3⟩ := h
  have hi : i = Q.length := by
    rcases Nat.lt_trichotomy i Q.length with hlt | e | hgt
    · exfalso
      rcases h3 with h3 | ⟨h3, h4⟩
      · omega
      · rw [← list_at s i h3] at h4
        have e : s.data.toList[i]'(by rw [data_len]; exact h3) = Q[i] := by simp only [hs]; rw [List.getElem_append_left hlt]
        rw [e] at h4
        exact hno _ (List.getElem_mem _) h4
    · exact e
    · exfalso
      have := h2 Q.length (by omega) hgt
      rw [← list_at s Q.length (by omega), hQ] at this
      exact this rfl
  rw [hi, hs, List.take_left]
theorem good_no_e (l : List UInt8) (h : good 10 l) : ∀ c ∈ l, c.toNat ≠ 101 := fun c hc => by
  have := ten_digit c (h c hc)
  omega
theorem cfold_sgn (s : Bool) (l : List UInt8) : cfold (0, 0) ((sgnB s).data.toList ++ l) = cfold (0, 0) l := by
  cases s
  · rfl
  · rw [cfold_append]
    have : cfold (0, 0) (sgnB true).data.toList = (0, 0) := by decide
    rw [this]
theorem sgn_no_e (s : Bool) : ∀ c ∈ (sgnB s).data.toList, c.toNat ≠ 101 := by cases s <;> decide
theorem dot_list : dotB.data.toList = [46] := rfl
theorem cfold_dot (st : Nat × Nat) (a b : List UInt8) : cfold st (a ++ [46] ++ b) = cfold st (a ++ b) := by
  rw [cfold_append, cfold_append, cfold_skip _ 46 (by decide), ← cfold_append]
theorem no_e_app {a b : List UInt8} (ha : ∀ c ∈ a, c.toNat ≠ 101) (hb : ∀ c ∈ b, c.toNat ≠ 101) : ∀ c ∈ a ++ b, c.toNat ≠ 101 := fun c hc => by
  rcases List.mem_append.1 hc with h | h
  · exact ha c h
  · exact hb c h
theorem count_plain (s : Bool) (u : ByteArray) (p : Int) (h0 : 0 < u.size) (hg : good 10 u.data.toList) (hf : u[0].toNat ≠ 48) (hl : ∀ h : u.size - 1 < u.size, u[u.size - 1].toNat ≠ 48) (i : Nat) (h : Ahead (sgnB s ++ plainB u p) i) :
    (cfold (0, 0) ((sgnB s ++ plainB u p).data.toList.take i)).2 = u.size := by
  have hnum := cfold_number u h0 hg hf hl
  have key : (∀ c ∈ (plainB u p).data.toList, c.toNat ≠ 101) ∧ (cfold (0, 0) (plainB u p).data.toList).2 = u.size := by
    unfold plainB
    by_cases h1 : p ≤ 0
    · rw [if_pos h1, append_list, append_list, zerosB_list]
      refine ⟨no_e_app (no_e_app (by decide) (good_no_e _ (zeros_good _))) (good_no_e _ hg), ?_⟩
      rw [cfold_append, cfold_append]
      have e : cfold (0, 0) (⟨#[48, 46]⟩ : ByteArray).data.toList = (0, 0) := by decide
      rw [e, cfold_zeros0, hnum]
    · rw [if_neg h1]
      by_cases h2 : (u.size : Int) ≤ p
      · rw [if_pos h2, append_list, zerosB_list]
        refine ⟨no_e_app (good_no_e _ hg) (good_no_e _ (zeros_good _)), ?_⟩
        rw [cfold_append, hnum, cfold_zeros _ _ _ h0]
      · rw [if_neg h2, append_list, append_list, dot_list]
        have hj : (u.extract 0 p.toNat).data.toList ++ (u.extract p.toNat u.size).data.toList = u.data.toList := by
          rw [Lib.extract_eq, Lib.extract_eq]
          simp only [Nat.sub_zero, List.drop_zero]
          rw [List.take_of_length_le (l := List.drop p.toNat u.data.toList) (by rw [List.length_drop, data_len]; exact Nat.le_refl _), List.take_append_drop]
        have hgj : good 10 ((u.extract 0 p.toNat).data.toList ++ (u.extract p.toNat u.size).data.toList) := by rw [hj]; exact hg
        refine ⟨no_e_app (no_e_app (good_no_e _ fun c hc => hgj c (List.mem_append_left _ hc)) (by decide)) (good_no_e _ fun c hc => hgj c (List.mem_append_right _ hc)), ?_⟩
        rw [cfold_dot, hj, hnum]
  rw [ahead_all _ i h (by rw [append_list]; exact no_e_app (sgn_no_e s) key.1), append_list, cfold_sgn]
  exact key.2
theorem count_sci (s : Bool) (u : ByteArray) (p : Int) (h0 : 0 < u.size) (hg : good 10 u.data.toList) (hf : u[0].toNat ≠ 48) (hl : ∀ h : u.size - 1 < u.size, u[u.size - 1].toNat ≠ 48) (i : Nat) (h : Ahead (sgnB s ++ sciB u p) i) :
    (cfold (0, 0) ((sgnB s ++ sciB u p).data.toList.take i)).2 = u.size := by
  have hnum := cfold_number u h0 hg hf hl
  obtain ⟨hj, hz1, hz2⟩ := sci_parts u h0
  have hjl : (u.extract 0 1).data.toList ++ (u.extract 1 u.size).data.toList = u.data.toList := by rw [← append_list, hj]
  have hgj : good 10 ((u.extract 0 1).data.toList ++ (u.extract 1 u.size).data.toList) := by rw [hjl]; exact hg
  have ga : good 10 (u.extract 0 1).data.toList := fun c hc => hgj c (List.mem_append_left _ hc)
  have gb : good 10 (u.extract 1 u.size).data.toList := fun c hc => hgj c (List.mem_append_right _ hc)
  obtain ⟨Q, hQ, hno, hcf⟩ : ∃ Q : List UInt8, (sgnB s ++ sciB u p).data.toList = Q ++ 101 :: (intText (p - 1) 10).data.toList ∧ (∀ c ∈ Q, c.toNat ≠ 101) ∧ (cfold (0, 0) Q).2 = u.size := by
    unfold sciB
    by_cases h1 : 1 < u.size
    · rw [if_pos h1]
      refine ⟨(sgnB s).data.toList ++ ((u.extract 0 1).data.toList ++ [46] ++ (u.extract 1 u.size).data.toList), ?_, no_e_app (sgn_no_e s) (no_e_app (no_e_app (good_no_e _ ga) (by decide)) (good_no_e _ gb)), ?_⟩
      · simp only [append_list]
        simp
      · rw [cfold_sgn, cfold_dot, hjl, hnum]
    · rw [if_neg h1]
      have he : (u.extract 1 u.size).data.toList = [] := List.length_eq_zero_iff.1 (by rw [data_len]; omega)
      rw [he, List.append_nil] at hjl
      refine ⟨(sgnB s).data.toList ++ (u.extract 0 1).data.toList, ?_, no_e_app (sgn_no_e s) (good_no_e _ ga), ?_⟩
      · simp only [append_list]
        simp
      · rw [cfold_sgn, hjl, hnum]
  rw [ahead_e _ i Q _ h hQ hno]
  exact hcf
end Go.Proofs.YtpmccbkhkaoccaaGreatDoor

/- What the law on the fewest digits asks, at a number: plain. -/
namespace Go.Proofs.YtpmccbkhkaoccaaGreatDoor
open Go.RowKit
open Ieee (double)

theorem order_two (s : Bool) (r q : Nat) (hr : r ≤ 9218868437227405312) (hq : q ≤ 9218868437227405312) : (double.order (signBit s + r) (signBit s + q) == some .eq) = decide (r = q) := by
  rw [order_rank s s r q hr hq]
  by_cases e : r = q
  · subst e
    simp [compare, compareOfLessAndEq]
  · rw [decide_eq_false e]
    unfold rankI
    cases s
    · simp only [compare, compareOfLessAndEq]
      simp
      split
      · simp
      · split
        · omega
        · simp
    · simp only [compare, compareOfLessAndEq]
      simp
      split
      · simp
      · split
        · omega
        · simp
theorem order_refl (s : Bool) (r : Nat) (hr : r ≤ 9218868437227405312) : double.order (signBit s + r) (signBit s + r) = some .eq := by
  rw [order_rank s s r r hr hr]
  simp [compare, compareOfLessAndEq]
theorem first_of_ge (u : ByteArray) (h0 : 0 < u.size) (hg : good 10 u.data.toList) (h : 10 ^ (u.size - 1) ≤ valN 10 u.data.toList) : u[0].toNat ≠ 48 := by
  intro hz
  rw [text_cons u h0, valN_zero _ _ _ hz] at h
  have h1 := valN_good_lt 10 (u.extract 1 u.size).data.toList (fun c hc => hg c (by rw [text_cons u h0]; exact List.mem_cons_of_mem _ hc))
  have h2 := extract_one u h0
  rw [data_len] at h1
  rw [show (u.extract 1 u.size).size = u.size - 1 by omega] at h1
  omega
theorem pad_ge (ds : ByteArray) (N : Nat) (hN : 1 ≤ N) (hNs : N ≤ ds.size) (hg : good 10 ds.data.toList) (hf : ∀ h : 0 < ds.size, ds[0].toNat ≠ 48) : 10 ^ (N - 1) ≤ valN 10 (padB ds N).data.toList := by
  have hge := first_ge ds (by omega) hf
  by_cases h : N < ds.size
  · obtain ⟨_, R, hR, hv⟩ := pad_val ds N h hg
    have h10 : 0 < 10 ^ (ds.size - N) := Nat.pow_pos (by omega)
    apply Nat.le_of_not_lt
    intro hlt
    have h1 : (valN 10 (padB ds N).data.toList + 1) * 10 ^ (ds.size - N) ≤ 10 ^ (N - 1) * 10 ^ (ds.size - N) := Nat.mul_le_mul_right _ hlt
    rw [← Nat.pow_add, show N - 1 + (ds.size - N) = ds.size - 1 by omega, Nat.add_mul, Nat.one_mul] at h1
    omega
  · have e : padB ds N = ds := by
      unfold padB
      rw [if_neg (by omega), show N - ds.size = 0 by omega]
      exact ByteArray.append_empty
    rw [e, show N = ds.size by omega]
    exact hge
theorem least_ge (ds : ByteArray) (pow : Int) (x : Nat) (d : ByteArray) (p' : Int) (hg : good 10 ds.data.toList) (hf : ∀ h : 0 < ds.size, ds[0].toNat ≠ 48) (h : LeastD ds pow x d p') : 10 ^ (d.size - 1) ≤ valN 10 d.data.toList := by
  obtain ⟨N, t2, p2, hN1, hN2, hcut, _, hbest⟩ := h
  have hp := pad_ge ds N hN1 hN2 hg hf
  have hcase : (d = padB ds N) ∨ ∃ more, UpD (padB ds N) d more := by
    rcases hbest with ⟨_, _, rfl, _⟩ | ⟨_, _, rfl, _⟩
    · exact .inl rfl
    · rcases hcut with ⟨_, rfl, _⟩ | ⟨_, more, hu, _⟩
      · exact .inl rfl
      · exact .inr ⟨more, hu⟩
  rcases hcase with rfl | ⟨more, _, hv, hs, hm⟩
  · rw [padB_size]; exact hp
  · rw [padB_size] at hs hm
    cases more
    · simp at hs
      rw [hs, hv]; omega
    · simp at hs
      rw [hs, hv, hm rfl]
      exact Nat.le_refl _
/-- A text of digits that is read as another number. -/
def Misses (t : ByteArray) (x : Nat) : Prop := ∃ v, ReadA t true 0 (· = v) ∧ double.order v v = some .eq ∧ (double.order v x == some .eq) = false
theorem misses_sci (s : Bool) (n : Nat) (p : Int) (u : ByteArray) (r : Int) (h0 : 0 < u.size) (hz : u.size ≤ 1000) (hg : good 10 u.data.toList) (hr : -90000 ≤ r) (hr' : r ≤ 90000) (h : Rds (fw false n p) u r = false) : Misses (sgnB s ++ sciB u r) (fw s n p) := by
  have hsz := sgnB_size s
  have hsc := sciB_size u r
  refine ⟨_, read_sci s u r h0 hg hr hr' (by rw [append_size]; omega), order_refl s _ (decW_le _ _ _), ?_⟩
  rw [fw_sign s n p, order_two s _ _ (decW_le _ _ _) (fw_le _ _)]
  rw [rds_is _ (fw_le _ _)] at h
  exact h
/-- At a number: how many digits are counted, and that with fewer nothing is read back. -/
theorem few_number (s : Bool) (n : Nat) (p : Int) (t : ByteArray) (hc : Canon n p) (hn : 0 < n) (h : shortV (fw s n p) t) :
    ∃ c : Nat, 1 ≤ c ∧ c ≤ 17 ∧ (∀ i, Ahead t i → (cfold (0, 0) (t.data.toList.take i)).2 = c) ∧
      ∀ j, 1 ≤ j → j < c → ∀ (q k : Nat) (ds : ByteArray) (pow : Int), n = q * 2 ^ k → q % 2 = 1 → ExD ds pow q (p + k) → Misses (sgnB s ++ sciB (padB ds j) pow) (fw s n p) ∧ ∀ t2 r, cutV ds pow j true t2 r → Misses (sgnB s ++ sciB t2 r) (fw s n p) := by
  rcases h with ⟨h, _⟩ | ⟨_, h, _⟩ | ⟨_, h, _⟩ | ⟨s', n', p', q, k, ds, pow, d, pp, u, hc', hn', he, hq, hq1, hd, hle, htu, rfl⟩
  · exact (nan_not_fw _ _ _ hc h).elim
  · exact (iw_fw _ _ _ _ hc h.symm).elim
  · exact (sign_fw _ _ _ _ hc hn h.symm).elim
  obtain ⟨rfl, rfl, rfl⟩ := fw_one _ _ _ _ _ _ hc hc' he
  obtain ⟨h17, hfew⟩ := few_facts n p q k ds pow d pp u hc hn hq hd hle htu
  obtain ⟨a1, a2, a3, a4⟩ := exact_sizes n p q k ds pow hc hn hq hd
  have hge := least_ge ds pow _ d pp hd.2.1 hd.2.2.1 hle
  obtain ⟨u0, ug, i, ue, ui, uv, ul⟩ := htu
  have huge : 10 ^ (u.size - 1) ≤ valN 10 u.data.toList := by
    rw [uv] at hge
    have h10 : 0 < 10 ^ i := Nat.pow_pos (by omega)
    refine Nat.le_of_mul_le_mul_right ?_ h10
    rw [← Nat.pow_add, show u.size - 1 + i = d.size - 1 by omega]
    exact hge
  have hf := first_of_ge u u0 ug huge
  have hl : ∀ h : u.size - 1 < u.size, u[u.size - 1].toNat ≠ 48 := by
    rcases ul with h1 | h1
    · intro h
      have e : ∀ j (hj : j < u.size), j = 0 → u[j].toNat ≠ 48 := fun j hj h => by subst h; exact hf
      exact e (u.size - 1) h (by omega)
    · exact h1
  refine ⟨u.size, u0, h17, fun i' hi => ?_, fun j h1 h2 q' k' ds' pow' hq' hq1' hd' => ?_⟩
  · unfold shortB at hi ⊢
    by_cases hp : -5 ≤ pp ∧ pp ≤ 21
    · rw [if_pos hp] at hi ⊢
      exact count_plain s u pp u0 ug hf hl i' hi
    · rw [if_neg hp] at hi ⊢
      exact count_sci s u pp u0 ug hf hl i' hi
  · obtain ⟨rfl, rfl⟩ := odd_one q k q' k' (by rw [← hq, ← hq']) hq1 hq1'
    obtain ⟨rfl, rfl⟩ := exD_one ds ds' pow pow' q (p + k) hd hd'
    obtain ⟨hj, m1, m2⟩ := hfew j h1 h2
    have hz := padB_size ds j
    have gp := (pad_val ds j hj hd.2.1).1
    refine ⟨misses_sci s n p (padB ds j) pow (by omega) (by omega) gp (by omega) (by omega) m1, fun t2 r hcut => ?_⟩
    have hm := m2 t2 r hcut
    rcases hcut with ⟨h, _⟩ | ⟨_, more, ⟨g2, _, s2, _⟩, rfl⟩
    · cases h
    · rw [hz] at s2
      exact misses_sci s n p t2 _ (by omega) (by cases more <;> simp at s2 <;> omega) g2 (by cases more <;> simp <;> omega) (by cases more <;> simp <;> omega) hm
end Go.Proofs.YtpmccbkhkaoccaaGreatDoor

/- A float's parts are one thing alone: plain. -/
namespace Go.Proofs.YtpmccbkhkaoccaaGreatDoor
open Go.RowKit

theorem partsV_some (x : Nat) (hx : x < 18446744073709551616) : ∃ k s m e, partsV x k s m e := by
  rcases float_cases x hx with h | ⟨s, rfl⟩ | ⟨s, n, p, hc, rfl⟩
  · exact ⟨3, false, 0, 0, .inl ⟨h, rfl, rfl, rfl, rfl⟩⟩
  · exact ⟨2, s, 0, 0, .inr (.inl ⟨rfl, rfl, rfl, rfl⟩)⟩
  · by_cases h0 : n = 0
    · subst h0
      exact ⟨0, s, 0, 0, .inr (.inr (.inl ⟨fw_zero s p, rfl, rfl, rfl⟩))⟩
    · obtain ⟨q, t, hq, hq1⟩ := odd_some n (by omega)
      exact ⟨1, s, q, p + t, .inr (.inr (.inr ⟨n, p, q, t, hc, by omega, rfl, hq, hq1, rfl, rfl, rfl⟩))⟩
theorem partsV_one (x : Nat) (k k' : Int) (s s' : Bool) (m m' e e' : Int) (h : partsV x k s m e) (h' : partsV x k' s' m' e') : k = k' ∧ s = s' ∧ m = m' ∧ e = e' := by
  rcases h with ⟨a, rfl, rfl, rfl, rfl⟩ | ⟨a, rfl, rfl, rfl⟩ | ⟨a, rfl, rfl, rfl⟩ | ⟨n, p, q, t, hc, hn, a, hq, hq1, rfl, rfl, rfl⟩ <;>
  rcases h' with ⟨b, rfl, rfl, rfl, rfl⟩ | ⟨b, rfl, rfl, rfl⟩ | ⟨b, rfl, rfl, rfl⟩ | ⟨n', p', q', t', hc', hn', b, hq', hq1', rfl, rfl, rfl⟩
  · exact ⟨rfl, rfl, rfl, rfl⟩
  · rw [b] at a; exact (nan_not_iw _ a).elim
  · rw [b] at a; exact (sign_nan _ a).elim
  · rw [b] at a; exact (nan_not_fw _ _ _ hc' a).elim
  · rw [a] at b; exact (nan_not_iw _ b).elim
  · rw [a] at b; exact ⟨rfl, iw_one _ _ b, rfl, rfl⟩
  · rw [a] at b; exact (sign_iw _ _ b.symm).elim
  · rw [a] at b; exact (iw_fw _ _ _ _ hc' b).elim
  · rw [a] at b; exact (sign_nan _ b).elim
  · rw [a] at b; exact (sign_iw _ _ b).elim
  · rw [a] at b; exact ⟨rfl, sign_one _ _ b, rfl, rfl⟩
  · rw [a] at b; exact (sign_fw _ _ _ _ hc' hn' b).elim
  · rw [a] at b; exact (nan_not_fw _ _ _ hc b).elim
  · rw [a] at b; exact (iw_fw _ _ _ _ hc b.symm).elim
  · rw [a] at b; exact (sign_fw _ _ _ _ hc hn b.symm).elim
  · rw [a] at b
    obtain ⟨rfl, rfl, rfl⟩ := fw_one _ _ _ _ _ _ hc hc' b
    obtain ⟨rfl, rfl⟩ := odd_one q t q' t' (by rw [← hq, ← hq']) hq1 hq1'
    exact ⟨rfl, rfl, rfl, rfl⟩
end Go.Proofs.YtpmccbkhkaoccaaGreatDoor

/- Around of the specification: at a number. -/
namespace Go.Proofs.YtpmccbkhkaoccaaGreatDoor
open Go.ChangeShapes Go.WideShapes Go.RowKit
open Ieee (double)

set_option maxHeartbeats 8000000 in
set_option maxRecDepth 100000 in
theorem around_at (s : Bool) (r : Nat) (q : Nat) (E : Int) (n : Nat) (hn1 : 1 ≤ n) (hn2 : n ≤ 400) (hr : r < 9218868437227405312) (hX : ∀ w, Calls Tryz.prog 42 #[.float .f64 r] w fun e w' =>
    ∃ ds pow, ExD ds pow q E ∧ ds.size ≤ 1100 ∧ -1100 ≤ pow ∧ pow ≤ 1100 ∧ e = .returned (.agg #[.string ds, .int .i64 pow]) ∧ Below w.heap.size w w') (w : World) :
    Calls Tryz.prog 21 #[.float .f64 (signBit s + r), .int .i64 (n : Int)] w fun e w' => ∃ ds pow t p' B, ExD ds pow q E ∧ cutV ds pow n true t p' ∧ e = .returned (.slice (some ⟨B, 0, none⟩) 2 2)
      ∧ w'.cell? ⟨B, 0, none⟩ = some (.string (sgnB s ++ sciB (padB ds n) pow)) ∧ w'.cell? ⟨B, 1, none⟩ = some (.string (sgnB s ++ sciB t p')) ∧ Below w.heap.size w w' := by
  have H1 : Hid _ := fun w => l5size_any s r (by omega) w
  have H3 : Hid _ := hX
  have z3 := sgnB_size s
  generalize sgnB s = S at *
  generalize signBit s + r = X at *
  clear hX hr
  go_enter Tryz.func21, Tryz.ntmps21
  go_wp2_with fail
  refine (H1.out _).mono ?_
  rintro e w1 ⟨rfl, rfl⟩
  go_wp2_with fail
  refine (H3.out _).mono ?_
  rintro e w2 ⟨ds, pow, hd, hs, hp1, hp2, rfl, hb2⟩
  have HD : Hid (ExD ds pow q E) := hd
  have HB2 : Hid (Below w1.heap.size w1 w2) := hb2
  have HC1 : Hid _ := fun w => l5cut_plain ds pow n hs (by omega) w
  have HC2 : Hid _ := fun w => l5cut_any ds pow n true hs hd.2.1 (by omega) (by omega) (by omega) w
  have hz1 := hb2.size
  have hpz := padB_size ds n
  have HS1 : Hid _ := fun w => l5science_any (padB ds n) pow (by omega) (by omega) (by omega) (by omega) w
  have hq1 := sciB_size (padB ds n) pow
  obtain ⟨L, hL⟩ : ∃ L, L = padB ds n := ⟨_, rfl⟩
  obtain ⟨Q, hQ⟩ : ∃ Q, Q = sciB (padB ds n) pow := ⟨_, rfl⟩
  rw [← hQ] at hq1 HS1
  rw [← hL] at hpz hq1 HC1 HS1
  have hQz : Q.size ≤ 500 := by omega
  have HQ : Hid (Q = sciB (padB ds n) pow) := hQ
  clear hd hb2 H1 H3 hL hQ hq1 hpz
  go_wp2_with fail
  refine (HC1.out _).mono ?_
  rintro e w3 ⟨rfl, hb3⟩
  have k0 : w3.cell? ⟨w2.heap.size, 0, none⟩ = some (.string ds) := by rw [hb3.cell (by simp)]; simp
  have k1 : w3.cell? ⟨w2.heap.size, 1, none⟩ = some (.int .i64 pow) := by rw [hb3.cell (by simp)]; simp
  have hz3 : w2.heap.size < w3.heap.size := by have := hb3.size; simp at this; omega
  have HB3 : Hid (Below w1.heap.size w1 w3) := (HB2.out.alloc hz1 _).trans (hb3.mono (by simp; omega))
  clear hb3 HC1 HB2
  go_wp2_with fail
  refine (HC2.out _).mono ?_
  rintro e w4 ⟨t, p', hc, rfl, hb4⟩
  have hts := cut5_size ds pow n true t p' hc
  have HCV : Hid (cutV ds pow n true t p') := hc
  have l0 : w4.cell? ⟨w3.heap.size, 0, none⟩ = some (.string L) := by rw [hb4.cell (by simp)]; simp
  have l1 : w4.cell? ⟨w3.heap.size, 1, none⟩ = some (.int .i64 pow) := by rw [hb4.cell (by simp)]; simp
  have hz4 : w3.heap.size < w4.heap.size := by have := hb4.size; simp at this; omega
  have HB4 : Hid (Below w1.heap.size w1 w4) := (HB3.out.alloc (by omega) _).trans (hb4.mono (by simp; omega))
  have HS2 : Hid _ := fun w => l5science_any t p' (by omega) (by omega) (by omega) (by omega) w
  have hq2 := sciB_size t p'
  obtain ⟨R, hR⟩ : ∃ R, R = sciB t p' := ⟨_, rfl⟩
  rw [← hR] at hq2 HS2
  have hRz : R.size ≤ 500 := by omega
  have HR : Hid (R = sciB t p') := hR
  clear hc hb4 HC2 HB3 hR hq2 hts k0 k1
  have HB4' : Hid (Below w1.heap.size w1 (w4.alloc (.cells #[.string t, .int .i64 p'] 70))) := HB4.out.alloc (by omega) _
  go_upto_region 5 with fail
  go_region_with (first | (go_at_call_of 41 (Value.agg #[.string L, .int .i64 pow]); refine (HS1.out _).mono ?_; rintro e w5 ⟨rfl, hb5⟩; have m0 := (hb5.cell (p := ⟨w4.heap.size, 0, none⟩) (by simp)).trans (by simp [go_sem] : _ = some (.string t)); have m1 := (hb5.cell (p := ⟨w4.heap.size, 1, none⟩) (by simp)).trans (by simp [go_sem] : _ = some (.int .i64 p')); have HB5 : Hid (Below w1.heap.size w1 w5) := (by refine Below.trans ?_ (hb5.mono (by simp <;> omega)); repeat (first | with_reducible exact HB4'.out | with_reducible refine Below.drew ?_ | with_reducible refine below_drewN ?_ _)); have hz5 : w4.heap.size < w5.heap.size := (by have h := hb5.size; simp at h; omega); clear hb5) | (go_at_call_of 41 (Value.agg #[.string t, .int .i64 p']); refine (HS2.out _).mono ?_; rintro e w6 ⟨rfl, hb6⟩; have HB6 : Hid (Below w1.heap.size w1 w6) := (by refine Below.trans ?_ (hb6.mono (by first | omega | (simp <;> omega))); repeat (first | with_reducible exact HB5.out | with_reducible refine Below.drew ?_ | with_reducible refine below_drewN ?_ _)); clear hb6))
  all_goals
    go_wp2
    go_ret
    refine ⟨ds, pow, t, p', _, HD.out, HCV.out, rfl, ?_, ?_, ?_⟩
    · rw [← HQ.out]; simp [go_sem]
    · rw [← HR.out]; simp [go_sem]
    · repeat (first | with_reducible exact HB6.out | with_reducible refine Below.alloc ?_ HB6.out.size _ | with_reducible refine Below.drew ?_ | with_reducible refine below_drewN ?_ _)
end Go.Proofs.YtpmccbkhkaoccaaGreatDoor

/- Count of the specification. -/
namespace Go.Proofs.YtpmccbkhkaoccaaGreatDoor
open Go.ChangeShapes Go.WideShapes Go.RowKit

theorem take_next (s : ByteArray) (i : Nat) (h : i < s.size) : s.data.toList.take (i + 1) = s.data.toList.take i ++ [s[i]] := by
  rw [List.take_add_one, List.getElem?_eq_getElem (by rw [data_len]; exact h)]
  rfl
/-- How far Count has come. -/
def CntR (s : ByteArray) (i N L : Nat) : Prop := i ≤ s.size ∧ N ≤ i ∧ (∀ j (h : j < s.size), j < i → s[j].toNat ≠ 101) ∧ cfold (0, 0) (s.data.toList.take i) = (N, L)
theorem CntR.next {s : ByteArray} {i N L : Nat} (h : CntR s i N L) (hi : i < s.size) (he : s[i].toNat ≠ 101) (N' L' : Nat) (hN : N' ≤ N + 1) (hc : cstep (N, L) s[i] = (N', L')) : CntR s (i + 1) N' L' := by
  obtain ⟨h1, h2, h3, h4⟩ := h
  refine ⟨by omega, by omega, fun j hj hji => ?_, by rw [take_next s i hi, cfold_snoc, h4, hc]⟩
  by_cases e : j = i
  · subst e; exact he
  · exact h3 j hj (by omega)
set_option maxHeartbeats 2000000 in
set_option maxRecDepth 100000 in
theorem count_any (s : ByteArray) (hs : s.size ≤ 5000) (w : World) :
    Calls Tryz.prog 20 #[.string s] w fun e w' => ∃ i, Ahead s i ∧ e = .returned (.int .i64 ((cfold (0, 0) (s.data.toList.take i)).2 : Int)) ∧ w' = w := by
  have hs' : (s.size : Int) ≤ 5000 := by omega
  go_enter Tryz.func20, Tryz.ntmps20
  go_wp2
  go_loop [3, 4, 5] (fun v3 v4 v5 => ∃ i N L : Nat, v3 = .int .i64 (N : Int) ∧ v4 = .int .i64 (L : Int) ∧ v5 = .int .i64 (i : Int) ∧ i ≤ s.size ∧ N ≤ i ∧ Hid (CntR s i N L)) (fun _ _ v5 => s.size - (intOf v5).toNat)
  case atStart => exact ⟨0, 0, 0, rfl, rfl, rfl, by omega, by omega, ⟨by omega, by omega, fun j _ h => by omega, rfl⟩⟩
  case round =>
    obtain ⟨i, N, L, rfl, rfl, rfl, hi, hN, HR⟩ := hrel
    by_cases hlt : i < s.size
    · obtain ⟨c, hc⟩ : ∃ c : UInt8, s[i] = c := ⟨_, rfl⟩
      have HR2 : Hid (∀ N' L', c.toNat ≠ 101 → N' ≤ N + 1 → cstep (N, L) c = (N', L') → CntR s (i + 1) N' L') := fun N' L' h1 h2 h3 => HR.out.next hlt (by rw [hc]; exact h1) N' L' h2 (by rw [hc]; exact h3)
      have HE : Hid (c.toNat = 101 → Ahead s i ∧ (cfold (0, 0) (s.data.toList.take i)).2 = L) := fun h => ⟨⟨hi, HR.out.2.2.1, .inr ⟨hlt, by rw [hc]; exact h⟩⟩, by rw [HR.out.2.2.2]⟩
      obtain ⟨C, hC⟩ : ∃ C : Int, (c.toNat : Int) = C := ⟨_, rfl⟩
      by_cases he : C = 101
      · have he' : (C != 101) = false := by rw [he]; rfl
        have hx := HE.out (by omega)
        have HX : Hid (Ahead s i) := hx.1
        have HX2 : Hid ((cfold (0, 0) (s.data.toList.take i)).2 = L) := hx.2
        clear hx HR HR2 HE
        go_wp2
        go_ret
        exact ⟨i, HX.out, by rw [HX2.out]; rfl, rfl⟩
      · have he' : (C != 101) = true := bne_iff_ne.2 he
        have HS : Hid (∀ N' L', N' ≤ N + 1 → cstep (N, L) c = (N', L') → CntR s (i + 1) N' L') := fun N' L' h2 h3 => HR2.out N' L' (by omega) h2 h3
        clear HR HR2 HE
        by_cases h1 : C < 48
        · have h1' : decide (C < 48) = true := decide_eq_true h1
          have HF : Hid (CntR s (i + 1) N L) := HS.out N L (by omega) (by unfold cstep; rw [if_pos (by omega)])
          clear HS
          go_wp2
          go_round
          case rel => exact ⟨i + 1, N, L, rfl, rfl, by simp, by omega, by omega, HF⟩
          case measure => simp only [intOf]; omega
        have h1' : decide (C < 48) = false := decide_eq_false h1
        by_cases h2 : 57 < C
        · have h2' : decide (57 < C) = true := decide_eq_true h2
          have HF : Hid (CntR s (i + 1) N L) := HS.out N L (by omega) (by unfold cstep; rw [if_pos (by omega)])
          clear HS
          go_wp2
          go_round
          case rel => exact ⟨i + 1, N, L, rfl, rfl, by simp, by omega, by omega, HF⟩
          case measure => simp only [intOf]; omega
        have h2' : decide (57 < C) = false := decide_eq_false h2
        by_cases h3 : C = 48
        · have h3' : (C == 48) = true := by rw [h3]; rfl
          have h3n : (C != 48) = false := by rw [h3]; rfl
          by_cases h4 : N = 0
          · subst h4
            have HF : Hid (CntR s (i + 1) 0 L) := HS.out 0 L (by omega) (by unfold cstep; rw [if_pos (by right; right; exact ⟨by omega, rfl⟩)])
            clear HS
            go_wp2
            go_round
            case rel => exact ⟨i + 1, 0, L, rfl, rfl, by simp, by omega, by omega, HF⟩
            case measure => simp only [intOf]; omega
          · have h4' : ((N : Int) == 0) = false := beq_eq_false_iff_ne.2 (by omega)
            have HF : Hid (CntR s (i + 1) (N + 1) L) := HS.out (N + 1) L (by omega) (by unfold cstep; rw [if_neg (by simp; omega), if_pos (by omega)])
            clear HS
            go_wp2
            go_round
            case rel => exact ⟨i + 1, N + 1, L, by simp, rfl, by simp, by omega, by omega, HF⟩
            case measure => simp only [intOf]; omega
        · have h3' : (C == 48) = false := beq_eq_false_iff_ne.2 h3
          have h3n : (C != 48) = true := bne_iff_ne.2 h3
          have HF : Hid (CntR s (i + 1) (N + 1) (N + 1)) := HS.out (N + 1) (N + 1) (by omega) (by unfold cstep; rw [if_neg (by simp; omega), if_neg (by omega)])
          clear HS
          go_wp2
          go_round
          case rel => exact ⟨i + 1, N + 1, N + 1, by simp, by simp, by simp, by omega, by omega, HF⟩
          case measure => simp only [intOf]; omega
    · have hlt' : decide (i < s.size) = false := decide_eq_false hlt
      have HX : Hid (Ahead s i) := ⟨hi, HR.out.2.2.1, .inl (by omega)⟩
      have HX2 : Hid ((cfold (0, 0) (s.data.toList.take i)).2 = L) := by show _ = _; rw [HR.out.2.2.2]
      clear HR
      go_wp2
      go_ret
      exact ⟨i, HX.out, by rw [HX2.out]; rfl, rfl⟩
end Go.Proofs.YtpmccbkhkaoccaaGreatDoor

