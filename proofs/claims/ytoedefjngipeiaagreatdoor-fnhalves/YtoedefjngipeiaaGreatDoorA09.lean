import Derived.Test.YtoedefjngipeiaaGreatDoorA08
import Derived.Laws.MakeOwn
/- The number that digits tell: plain. -/
namespace Go.Proofs.YtoedefjngipeiaaGreatDoor
open Go.RowKit

/-- The number that digits tell. -/
def valN (b : Nat) (l : List UInt8) : Nat := (val (b : Int) l).toNat
theorem valN_cast (b : Nat) (l : List UInt8) : (valN b l : Int) = val (b : Int) l := Int.toNat_of_nonneg (val_nonneg _ (by omega) l)
theorem valN_step (b : Nat) (s : ByteArray) (k : Nat) (h : k < s.size) (d : Nat) (hd : (d : Int) = digN 99 (s[k].toNat : Int)) : valN b (s.data.toList.take (k + 1)) = valN b (s.data.toList.take k) * b + d := by
  have h1 := valN_cast b (s.data.toList.take (k + 1))
  rw [val_step (b : Int) s k h, ← valN_cast b (s.data.toList.take k), ← hd] at h1
  rw [← Int.natCast_mul, ← Int.natCast_add] at h1
  exact Int.ofNat_inj.1 h1
theorem valN_lt (b : Nat) (hb : b ≤ 4000000000) (l : List UInt8) : valN b l < 4294967296 ^ l.length := by
  have key : ∀ (l : List UInt8) (n : Int) (k : Nat), 0 ≤ n → n.toNat < 4294967296 ^ k → (l.foldl (fun n c => n * (b : Int) + digN 99 c.toNat) n).toNat < 4294967296 ^ (k + l.length) := by
    intro l
    induction l with
    | nil => intro n k _ h; simpa using h
    | cons c l ih =>
      intro n k h0 h
      have hd := digN_lo 99 c.toNat (by omega)
      have hd' := digN_hi 99 c.toNat (by omega)
      have hm : 0 ≤ n * (b : Int) := Int.mul_nonneg h0 (by omega)
      obtain ⟨m, rfl⟩ := Int.eq_ofNat_of_zero_le h0
      rw [Int.toNat_natCast] at h
      have hs : ((m : Int) * (b : Int) + digN 99 c.toNat).toNat < 4294967296 ^ (k + 1) := by
        have e : (m : Int) * (b : Int) = ((m * b : Nat) : Int) := (Int.natCast_mul m b).symm
        rw [e, Nat.pow_succ]
        have h2 : m * b ≤ (4294967296 ^ k - 1) * 4000000000 := Nat.mul_le_mul (by omega) hb
        have h3 : 0 < 4294967296 ^ k := Nat.pow_pos (by omega)
        omega
      have := ih _ (k + 1) (by omega) hs
      rw [List.length_cons, show k + (l.length + 1) = k + 1 + l.length by omega]
      exact this
  have := key l 0 0 (by omega) (by simp)
  rw [Nat.zero_add] at this
  exact this
theorem valN_take_lt (b : Nat) (hb : b ≤ 4000000000) (s : ByteArray) (k : Nat) : valN b (s.data.toList.take k) < 4294967296 ^ s.size := by
  refine Nat.lt_of_lt_of_le (valN_lt b hb _) (Nat.pow_le_pow_right (by omega) ?_)
  rw [List.length_take]
  have : s.data.toList.length = s.size := by simp
  omega
end Go.Proofs.YtoedefjngipeiaaGreatDoor

/- Digits and the number that they tell: plain. -/
namespace Go.Proofs.YtoedefjngipeiaaGreatDoor
open Go.RowKit

theorem fold_split (b : Int) (l : List UInt8) : ∀ n : Int, l.foldl (fun n c => n * b + digN 99 c.toNat) n = n * b ^ l.length + val b l := by
  induction l with
  | nil => intro n; simp [val]
  | cons c l ih =>
    intro n
    have e1 : val b (c :: l) = l.foldl (fun n c => n * b + digN 99 c.toNat) (0 * b + digN 99 c.toNat) := rfl
    rw [e1, ih, List.foldl_cons, ih, List.length_cons, Int.pow_succ, Int.zero_mul, Int.zero_add, Int.add_mul, Int.mul_assoc, Int.mul_comm b, Int.add_assoc]
theorem val_cons (b : Int) (c : UInt8) (l : List UInt8) : val b (c :: l) = digN 99 c.toNat * b ^ l.length + val b l := by
  have e1 : val b (c :: l) = l.foldl (fun n c => n * b + digN 99 c.toNat) (0 * b + digN 99 c.toNat) := rfl
  rw [e1, fold_split, Int.zero_mul, Int.zero_add]
theorem good_tail {b : Int} {c : UInt8} {l : List UInt8} (h : good b (c :: l)) : good b l := fun x hx => h x (List.mem_cons_of_mem _ hx)
theorem valN_cons (b : Nat) (c : UInt8) (l : List UInt8) : valN b (c :: l) = (digN 99 (c.toNat : Int)).toNat * b ^ l.length + valN b l := by
  have h := valN_cast b (c :: l)
  have hd := digN_lo 99 c.toNat (by omega)
  rw [val_cons, ← valN_cast b l, ← Int.toNat_of_nonneg hd, ← Int.natCast_pow, ← Int.natCast_mul, ← Int.natCast_add] at h
  exact Int.ofNat_inj.1 h
theorem valN_good_lt (b : Nat) (l : List UInt8) (hg : good (b : Int) l) : valN b l < b ^ l.length := by
  induction l with
  | nil => simp [valN, val]
  | cons c l ih =>
    have h1 := ih (good_tail hg)
    have h2 := hg c List.mem_cons_self
    have hd := digN_lo 99 c.toNat (by omega)
    rw [valN_cons, List.length_cons, Nat.pow_succ, Nat.mul_comm (b ^ l.length) b]
    have h3 : ((digN 99 (c.toNat : Int)).toNat + 1) * b ^ l.length ≤ b * b ^ l.length := Nat.mul_le_mul_right _ (by omega)
    rw [Nat.add_mul, Nat.one_mul] at h3
    omega
theorem valN_good_ge (b : Nat) (c : UInt8) (l : List UInt8) (h : digN 99 (c.toNat : Int) ≠ 0) : b ^ l.length ≤ valN b (c :: l) := by
  have hd := digN_lo 99 c.toNat (by omega)
  rw [valN_cons]
  have : 1 * b ^ l.length ≤ (digN 99 (c.toNat : Int)).toNat * b ^ l.length := Nat.mul_le_mul_right _ (by omega)
  omega
theorem digN_zero (c : UInt8) : digN 99 (c.toNat : Int) = 0 ↔ c.toNat = 48 := by
  unfold digN; split <;> (try split) <;> omega
theorem valN_zero (b : Nat) (c : UInt8) (l : List UInt8) (h : c.toNat = 48) : valN b (c :: l) = valN b l := by
  rw [valN_cons, (digN_zero c).2 h]; simp
theorem valN_nil (b : Nat) : valN b [] = 0 := by simp [valN, val]
/-- A text's first byte and the rest. -/
theorem text_cons (s : ByteArray) (h : 0 < s.size) : s.data.toList = s[0] :: (s.extract 1 s.size).data.toList := by
  have h1 : (s.extract 1 s.size).data.toList = s.data.toList.drop 1 := by
    rw [ByteArray.data_extract, Array.toList_extract, List.extract_eq_take_drop]
    apply List.take_of_length_le
    simp
  rw [h1]
  have h2 : 0 < s.data.toList.length := by simpa using h
  have h3 := List.drop_eq_getElem_cons (l := s.data.toList) (i := 0) h2
  rw [List.drop_zero] at h3
  exact h3
theorem extract_one (s : ByteArray) (h : 0 < s.size) : (s.extract 1 s.size).size + 1 = s.size := by
  have := congrArg List.length (text_cons s h)
  simp at this
  simp
  omega
end Go.Proofs.YtoedefjngipeiaaGreatDoor

/- A number's decimal digits, the lowest first, and its text: plain. -/
namespace Go.Proofs.YtoedefjngipeiaaGreatDoor
open Go.RowKit

/-- The value of digits, the lowest first. -/
def dval : List Nat → Nat
  | [] => 0
  | x :: r => x + 10 * dval r
def Ten (ds : List Nat) : Prop := ∀ d ∈ ds, d < 10
theorem dval_append (a b : List Nat) : dval (a ++ b) = dval a + 10 ^ a.length * dval b := by
  induction a with
  | nil => simp [dval]
  | cons x r ih =>
    simp only [List.cons_append, dval, ih, List.length_cons, Nat.pow_succ, Nat.mul_add]
    rw [← Nat.mul_assoc, Nat.mul_comm 10 (10 ^ r.length)]
    omega
theorem dval_snoc (a : List Nat) (x : Nat) : dval (a ++ [x]) = dval a + 10 ^ a.length * x := by
  rw [dval_append]; simp [dval]
theorem ten_snoc {a : List Nat} (h : Ten a) {x : Nat} (hx : x < 10) : Ten (a ++ [x]) := by
  intro y hy
  rcases List.mem_append.1 hy with h1 | h1
  · exact h y h1
  · rw [List.mem_singleton.1 h1]; exact hx
theorem dval_zeros (a : List Nat) (k : Nat) (h : ∀ i, k ≤ i → a.getD i 0 = 0) : dval a = dval (a.take k) := by
  induction a generalizing k with
  | nil => simp
  | cons x r ih =>
    cases k with
    | zero =>
      have hx : x = 0 := by simpa using h 0 (Nat.le_refl _)
      have hr := ih 0 fun i _ => by simpa using h (i + 1) (Nat.zero_le _)
      simp only [List.take_zero, dval] at hr ⊢
      omega
    | succ k =>
      have hr := ih k fun i hi => by simpa using h (i + 1) (by omega)
      simp only [List.take_succ_cons, dval]
      omega
/-- The byte of a digit. -/
def dchr (d : Nat) : UInt8 := UInt8.ofNat (48 + d)
theorem dchr_nat (d : Nat) (h : d < 10) : (dchr d).toNat = 48 + d := by
  unfold dchr
  rw [UInt8.toNat_ofNat']
  omega
theorem digN_dchr (d : Nat) (h : d < 10) : digN 99 ((dchr d).toNat : Int) = (d : Int) := by
  rw [dchr_nat d h]; unfold digN; rw [if_pos (by omega)]; omega
/-- The text of digits, the highest first. -/
def dtxt (ds : List Nat) : List UInt8 := ds.reverse.map dchr
theorem dtxt_length (ds : List Nat) : (dtxt ds).length = ds.length := by simp [dtxt]
theorem dtxt_cons (x : Nat) (r : List Nat) : dtxt (x :: r) = dtxt r ++ [dchr x] := by simp [dtxt]
theorem val_dtxt (ds : List Nat) (h : Ten ds) : val 10 (dtxt ds) = (dval ds : Int) := by
  induction ds with
  | nil => rfl
  | cons x r ih =>
    have hr := ih fun d hd => h d (by simp [hd])
    rw [dtxt_cons, val_snoc, hr, digN_dchr x (h x (by simp))]
    simp only [dval]; omega
theorem good_dtxt (ds : List Nat) (h : Ten ds) : good 10 (dtxt ds) := by
  intro c hc
  obtain ⟨d, hd, rfl⟩ := List.mem_map.1 hc
  have := h d (by simpa using hd)
  rw [digN_dchr d this]; omega
theorem valN_dtxt (ds : List Nat) (h : Ten ds) : valN 10 (dtxt ds) = dval ds := by
  unfold valN
  rw [show ((10 : Nat) : Int) = 10 from rfl, val_dtxt ds h]; omega

theorem data_len (s : ByteArray) : s.data.toList.length = s.size := by simp
/-- The text of a number in decimal, "" for 0: digits alone, the first one not 0. -/
def IsDec (s : ByteArray) (A : Nat) : Prop := good 10 s.data.toList ∧ valN 10 s.data.toList = A ∧ (∀ h : 0 < s.size, s[0].toNat ≠ 48)
theorem good_digit (c : UInt8) (h : digN 99 (c.toNat : Int) < 10) : 48 ≤ c.toNat ∧ c.toNat ≤ 57 ∧ digN 99 (c.toNat : Int) = (c.toNat : Int) - 48 := by
  unfold digN at h ⊢
  split at h
  · rename_i h1; rw [if_pos h1]; omega
  · split at h <;> omega
/-- Digits tell their number, and their number tells them where there are as many. -/
theorem digits_one (l m : List UInt8) (hl : good 10 l) (hm : good 10 m) (hlen : l.length = m.length) (hv : valN 10 l = valN 10 m) : l = m := by
  induction l generalizing m with
  | nil => cases m with
    | nil => rfl
    | cons c m => simp at hlen
  | cons c l ih =>
    cases m with
    | nil => simp at hlen
    | cons d m =>
      have e : l.length = m.length := by simpa using hlen
      have gl := good_tail (b := 10) hl
      have gm := good_tail (b := 10) hm
      have l1 := valN_good_lt 10 l gl
      have l2 := valN_good_lt 10 m gm
      rw [valN_cons, valN_cons, e] at hv
      rw [e] at l1
      obtain ⟨c1, c2, c3⟩ := good_digit c (hl c (by simp))
      obtain ⟨d1, d2, d3⟩ := good_digit d (hm d (by simp))
      rw [c3, d3] at hv
      have ec : ((c.toNat : Int) - 48).toNat = c.toNat - 48 := by omega
      have ed : ((d.toNat : Int) - 48).toNat = d.toNat - 48 := by omega
      rw [ec, ed] at hv
      have hq : c.toNat - 48 = d.toNat - 48 := by
        have h1 : (((c.toNat - 48) * 10 ^ m.length + valN 10 l) / 10 ^ m.length) = c.toNat - 48 := by
          rw [Nat.add_comm, Nat.mul_comm, Nat.add_mul_div_left _ _ (Nat.pow_pos (by omega)), Nat.div_eq_of_lt l1]; omega
        have h2 : (((d.toNat - 48) * 10 ^ m.length + valN 10 m) / 10 ^ m.length) = d.toNat - 48 := by
          rw [Nat.add_comm, Nat.mul_comm, Nat.add_mul_div_left _ _ (Nat.pow_pos (by omega)), Nat.div_eq_of_lt l2]; omega
        rw [← h1, hv, h2]
      have hcd : c = d := UInt8.toNat_inj.1 (by omega)
      subst hcd
      rw [ih m gl gm e (by omega)]
theorem dec_bounds (s : ByteArray) (A : Nat) (h : IsDec s A) (h0 : 0 < s.size) : 10 ^ (s.size - 1) ≤ A ∧ A < 10 ^ s.size := by
  obtain ⟨h1, rfl, h2⟩ := h
  constructor
  · rw [text_cons s h0]
    have e := extract_one s h0
    have := valN_good_ge 10 s[0] (s.extract 1 s.size).data.toList (by
      intro hz
      exact h2 h0 ((digN_zero _).1 hz))
    rw [data_len, show (s.extract 1 s.size).size = s.size - 1 by omega] at this
    exact this
  · have := valN_good_lt 10 s.data.toList h1
    rw [data_len] at this
    exact this
theorem dec_zero (s : ByteArray) (h : IsDec s 0) : s.size = 0 := by
  apply Classical.byContradiction
  intro hn
  have := (dec_bounds s 0 h (by omega)).1
  have h2 : 0 < 10 ^ (s.size - 1) := Nat.pow_pos (by omega)
  omega
theorem dec_size (s t : ByteArray) (A : Nat) (hs : IsDec s A) (ht : IsDec t A) : s.size ≤ t.size := by
  apply Classical.byContradiction
  intro hn
  have h1 := dec_bounds s A hs (by omega)
  by_cases h0 : t.size = 0
  · have : A = 0 := by
      obtain ⟨_, h2, _⟩ := ht
      have e : t.data.toList = [] := by apply List.length_eq_zero_iff.1; rw [data_len]; exact h0
      rw [e, valN_nil] at h2; exact h2.symm
    subst this
    have := dec_zero s hs
    omega
  · have h2 := dec_bounds t A ht (by omega)
    have : 10 ^ t.size ≤ 10 ^ (s.size - 1) := Nat.pow_le_pow_right (by omega) (by omega)
    omega
theorem dec_one (s t : ByteArray) (A : Nat) (hs : IsDec s A) (ht : IsDec t A) : s = t := by
  have e : s.size = t.size := Nat.le_antisymm (dec_size s t A hs ht) (dec_size t s A ht hs)
  have h : s.data.toList = t.data.toList := digits_one _ _ hs.1 ht.1 (by rw [data_len, data_len]; exact e) (hs.2.1.trans ht.2.1.symm)
  have h' : s.data = t.data := by rw [← Array.toArray_toList (xs := s.data), h, Array.toArray_toList]
  cases s; cases t; cases h'; rfl
/-- What is made is zeros. -/
theorem made_zeros (z : Value) (n : Nat) : madeCells #[z] n = (List.replicate n z).toArray := by
  unfold madeCells
  apply Array.ext
  · simp
  · intro i h1 h2
    simp [Nat.mod_one]
end Go.Proofs.YtoedefjngipeiaaGreatDoor

