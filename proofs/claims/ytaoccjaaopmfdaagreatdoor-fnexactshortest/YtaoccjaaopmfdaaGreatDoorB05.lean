import Derived.Test.YtaoccjaaopmfdaaGreatDoorB04
import Derived.Laws.MakeOwn
import Derived.WalkKit
import Derived.Lib.Strings
/- Digits and the number that they tell: plain. -/
namespace Go.Proofs.YtaoccjaaopmfdaaGreatDoor
open Go.RowKit

theorem fold_split (b : Int) (l : List UInt8) : ∀ n : Int, l.foldl (fun n c => n * b + digN 99 c.toNat) n = n * b ^ l.length + val b l := by
  induction l with
  | nil => intro n; simp [val]
  | cons c l ih =>
    intro n
    have e1 : val b (c :: l) = l.foldl (fun n c => n * b + digN 99 c.toNat) (0 * b + digN 99 c.toNat) := rfl
    rw [e1, ih, List.foldl_cons, ih, List.length_cons, Int.pow_succ, Int.zero_mul, Int.zero_add, Int.add_mul, Int.mul_assoc, Int.mul_comm b, Int.add_assoc]
theorem val_cons (b : Int) (c : UInt8) (l : List UInt8) : val b (c :: l) = digN 99 c.toNat * b ^ l.length + val b l := by
  have e1 : val b (c :: l) = l.foldl (fun n c => n * b + digN 99 c.toNat) (0 * b + digN 99 c.toNat) := rfl
  rw [e1, fold_split, Int.zero_mul, Int.zero_add]
theorem good_tail {b : Int} {c : UInt8} {l : List UInt8} (h : good b (c :: l)) : good b l := fun x hx => h x (List.mem_cons_of_mem _ hx)
theorem valN_cons (b : Nat) (c : UInt8) (l : List UInt8) : valN b (c :: l) = (digN 99 (c.toNat : Int)).toNat * b ^ l.length + valN b l := by
  have h := valN_cast b (c :: l)
  have hd := digN_lo 99 c.toNat (by omega)
  rw [val_cons, ← valN_cast b l, ← Int.toNat_of_nonneg hd, ← Int.natCast_pow, ← Int.natCast_mul, ← Int.natCast_add] at h
  exact Int.ofNat_inj.1 h
theorem valN_good_lt (b : Nat) (l : List UInt8) (hg : good (b : Int) l) : valN b l < b ^ l.length := by
  induction l with
  | nil => simp [valN, val]
  | cons c l ih =>
    have h1 := ih (good_tail hg)
    have h2 := hg c List.mem_cons_self
    have hd := digN_lo 99 c.toNat (by omega)
    rw [valN_cons, List.length_cons, Nat.pow_succ, Nat.mul_comm (b ^ l.length) b]
    have h3 : ((digN 99 (c.toNat : Int)).toNat + 1) * b ^ l.length ≤ b * b ^ l.length := Nat.mul_le_mul_right _ (by omega)
    rw [Nat.add_mul, Nat.one_mul] at h3
    omega
theorem valN_good_ge (b : Nat) (c : UInt8) (l : List UInt8) (h : digN 99 (c.toNat : Int) ≠ 0) : b ^ l.length ≤ valN b (c :: l) := by
  have hd := digN_lo 99 c.toNat (by omega)
  rw [valN_cons]
  have : 1 * b ^ l.length ≤ (digN 99 (c.toNat : Int)).toNat * b ^ l.length := Nat.mul_le_mul_right _ (by omega)
  omega
theorem digN_zero (c : UInt8) : digN 99 (c.toNat : Int) = 0 ↔ c.toNat = 48 := by
  unfold digN; split <;> (try split) <;> omega
theorem valN_zero (b : Nat) (c : UInt8) (l : List UInt8) (h : c.toNat = 48) : valN b (c :: l) = valN b l := by
  rw [valN_cons, (digN_zero c).2 h]; simp
theorem valN_nil (b : Nat) : valN b [] = 0 := by simp [valN, val]
/-- A text's first byte and the rest. -/
theorem text_cons (s : ByteArray) (h : 0 < s.size) : s.data.toList = s[0] :: (s.extract 1 s.size).data.toList := by
  have h1 : (s.extract 1 s.size).data.toList = s.data.toList.drop 1 := by
    rw [ByteArray.data_extract, Array.toList_extract, List.extract_eq_take_drop]
    apply List.take_of_length_le
    simp
  rw [h1]
  have h2 : 0 < s.data.toList.length := by simpa using h
  have h3 := List.drop_eq_getElem_cons (l := s.data.toList) (i := 0) h2
  rw [List.drop_zero] at h3
  exact h3
theorem extract_one (s : ByteArray) (h : 0 < s.size) : (s.extract 1 s.size).size + 1 = s.size := by
  have := congrArg List.length (text_cons s h)
  simp at this
  simp
  omega
end Go.Proofs.YtaoccjaaopmfdaaGreatDoor

/- A number's decimal digits, the lowest first, and its text: plain. -/
namespace Go.Proofs.YtaoccjaaopmfdaaGreatDoor
open Go.RowKit

/-- The value of digits, the lowest first. -/
def dval : List Nat → Nat
  | [] => 0
  | x :: r => x + 10 * dval r
def Ten (ds : List Nat) : Prop := ∀ d ∈ ds, d < 10
theorem dval_append (a b : List Nat) : dval (a ++ b) = dval a + 10 ^ a.length * dval b := by
  induction a with
  | nil => simp [dval]
  | cons x r ih =>
    simp only [List.cons_append, dval, ih, List.length_cons, Nat.pow_succ, Nat.mul_add]
    rw [← Nat.mul_assoc, Nat.mul_comm 10 (10 ^ r.length)]
    omega
theorem dval_snoc (a : List Nat) (x : Nat) : dval (a ++ [x]) = dval a + 10 ^ a.length * x := by
  rw [dval_append]; simp [dval]
theorem ten_snoc {a : List Nat} (h : Ten a) {x : Nat} (hx : x < 10) : Ten (a ++ [x]) := by
  intro y hy
  rcases List.mem_append.1 hy with h1 | h1
  · exact h y h1
  · rw [List.mem_singleton.1 h1]; exact hx
theorem dval_zeros (a : List Nat) (k : Nat) (h : ∀ i, k ≤ i → a.getD i 0 = 0) : dval a = dval (a.take k) := by
  induction a generalizing k with
  | nil => simp
  | cons x r ih =>
    cases k with
    | zero =>
      have hx : x = 0 := by simpa using h 0 (Nat.le_refl _)
      have hr := ih 0 fun i _ => by simpa using h (i + 1) (Nat.zero_le _)
      simp only [List.take_zero, dval] at hr ⊢
      omega
    | succ k =>
      have hr := ih k fun i hi => by simpa using h (i + 1) (by omega)
      simp only [List.take_succ_cons, dval]
      omega
/-- The byte of a digit. -/
def dchr (d : Nat) : UInt8 := UInt8.ofNat (48 + d)
theorem dchr_nat (d : Nat) (h : d < 10) : (dchr d).toNat = 48 + d := by
  unfold dchr
  rw [UInt8.toNat_ofNat']
  omega
theorem digN_dchr (d : Nat) (h : d < 10) : digN 99 ((dchr d).toNat : Int) = (d : Int) := by
  rw [dchr_nat d h]; unfold digN; rw [if_pos (by omega)]; omega
/-- The text of digits, the highest first. -/
def dtxt (ds : List Nat) : List UInt8 := ds.reverse.map dchr
theorem dtxt_length (ds : List Nat) : (dtxt ds).length = ds.length := by simp [dtxt]
theorem dtxt_cons (x : Nat) (r : List Nat) : dtxt (x :: r) = dtxt r ++ [dchr x] := by simp [dtxt]
theorem val_dtxt (ds : List Nat) (h : Ten ds) : val 10 (dtxt ds) = (dval ds : Int) := by
  induction ds with
  | nil => rfl
  | cons x r ih =>
    have hr := ih fun d hd => h d (by simp [hd])
    rw [dtxt_cons, val_snoc, hr, digN_dchr x (h x (by simp))]
    simp only [dval]; omega
theorem good_dtxt (ds : List Nat) (h : Ten ds) : good 10 (dtxt ds) := by
  intro c hc
  obtain ⟨d, hd, rfl⟩ := List.mem_map.1 hc
  have := h d (by simpa using hd)
  rw [digN_dchr d this]; omega
theorem valN_dtxt (ds : List Nat) (h : Ten ds) : valN 10 (dtxt ds) = dval ds := by
  unfold valN
  rw [show ((10 : Nat) : Int) = 10 from rfl, val_dtxt ds h]; omega

theorem data_len (s : ByteArray) : s.data.toList.length = s.size := by simp
/-- The text of a number in decimal, "" for 0: digits alone, the first one not 0. -/
def IsDec (s : ByteArray) (A : Nat) : Prop := good 10 s.data.toList ∧ valN 10 s.data.toList = A ∧ (∀ h : 0 < s.size, s[0].toNat ≠ 48)
theorem good_digit (c : UInt8) (h : digN 99 (c.toNat : Int) < 10) : 48 ≤ c.toNat ∧ c.toNat ≤ 57 ∧ digN 99 (c.toNat : Int) = (c.toNat : Int) - 48 := by
  unfold digN at h ⊢
  split at h
  · rename_i h1; rw [if_pos h1]; omega
  · split at h <;> omega
/-- Digits tell their number, and their number tells them where there are as many. -/
theorem digits_one (l m : List UInt8) (hl : good 10 l) (hm : good 10 m) (hlen : l.length = m.length) (hv : valN 10 l = valN 10 m) : l = m := by
  induction l generalizing m with
  | nil => cases m with
    | nil => rfl
    | cons c m => simp at hlen
  | cons c l ih =>
    cases m with
    | nil => simp at hlen
    | cons d m =>
      have e : l.length = m.length := by simpa using hlen
      have gl := good_tail (b := 10) hl
      have gm := good_tail (b := 10) hm
      have l1 := valN_good_lt 10 l gl
      have l2 := valN_good_lt 10 m gm
      rw [valN_cons, valN_cons, e] at hv
      rw [e] at l1
      obtain ⟨c1, c2, c3⟩ := good_digit c (hl c (by simp))
      obtain ⟨d1, d2, d3⟩ := good_digit d (hm d (by simp))
      rw [c3, d3] at hv
      have ec : ((c.toNat : Int) - 48).toNat = c.toNat - 48 := by omega
      have ed : ((d.toNat : Int) - 48).toNat = d.toNat - 48 := by omega
      rw [ec, ed] at hv
      have hq : c.toNat - 48 = d.toNat - 48 := by
        have h1 : (((c.toNat - 48) * 10 ^ m.length + valN 10 l) / 10 ^ m.length) = c.toNat - 48 := by
          rw [Nat.add_comm, Nat.mul_comm, Nat.add_mul_div_left _ _ (Nat.pow_pos (by omega)), Nat.div_eq_of_lt l1]; omega
        have h2 : (((d.toNat - 48) * 10 ^ m.length + valN 10 m) / 10 ^ m.length) = d.toNat - 48 := by
          rw [Nat.add_comm, Nat.mul_comm, Nat.add_mul_div_left _ _ (Nat.pow_pos (by omega)), Nat.div_eq_of_lt l2]; omega
        rw [← h1, hv, h2]
      have hcd : c = d := UInt8.toNat_inj.1 (by omega)
      subst hcd
      rw [ih m gl gm e (by omega)]
theorem dec_bounds (s : ByteArray) (A : Nat) (h : IsDec s A) (h0 : 0 < s.size) : 10 ^ (s.size - 1) ≤ A ∧ A < 10 ^ s.size := by
  obtain ⟨h1, rfl, h2⟩ := h
  constructor
  · rw [text_cons s h0]
    have e := extract_one s h0
    have := valN_good_ge 10 s[0] (s.extract 1 s.size).data.toList (by
      intro hz
      exact h2 h0 ((digN_zero _).1 hz))
    rw [data_len, show (s.extract 1 s.size).size = s.size - 1 by omega] at this
    exact this
  · have := valN_good_lt 10 s.data.toList h1
    rw [data_len] at this
    exact this
theorem dec_zero (s : ByteArray) (h : IsDec s 0) : s.size = 0 := by
  apply Classical.byContradiction
  intro hn
  have := (dec_bounds s 0 h (by omega)).1
  have h2 : 0 < 10 ^ (s.size - 1) := Nat.pow_pos (by omega)
  omega
theorem dec_size (s t : ByteArray) (A : Nat) (hs : IsDec s A) (ht : IsDec t A) : s.size ≤ t.size := by
  apply Classical.byContradiction
  intro hn
  have h1 := dec_bounds s A hs (by omega)
  by_cases h0 : t.size = 0
  · have : A = 0 := by
      obtain ⟨_, h2, _⟩ := ht
      have e : t.data.toList = [] := by apply List.length_eq_zero_iff.1; rw [data_len]; exact h0
      rw [e, valN_nil] at h2; exact h2.symm
    subst this
    have := dec_zero s hs
    omega
  · have h2 := dec_bounds t A ht (by omega)
    have : 10 ^ t.size ≤ 10 ^ (s.size - 1) := Nat.pow_le_pow_right (by omega) (by omega)
    omega
theorem dec_one (s t : ByteArray) (A : Nat) (hs : IsDec s A) (ht : IsDec t A) : s = t := by
  have e : s.size = t.size := Nat.le_antisymm (dec_size s t A hs ht) (dec_size t s A ht hs)
  have h : s.data.toList = t.data.toList := digits_one _ _ hs.1 ht.1 (by rw [data_len, data_len]; exact e) (hs.2.1.trans ht.2.1.symm)
  have h' : s.data = t.data := by rw [← Array.toArray_toList (xs := s.data), h, Array.toArray_toList]
  cases s; cases t; cases h'; rfl
/-- What is made is zeros. -/
theorem made_zeros (z : Value) (n : Nat) : madeCells #[z] n = (List.replicate n z).toArray := by
  unfold madeCells
  apply Array.ext
  · simp
  · intro i h1 h2
    simp [Nat.mod_one]
end Go.Proofs.YtaoccjaaopmfdaaGreatDoor

/- Big numbers as lists of parts of 32 bits: plain facts; no program is spoken of here. -/
namespace Go.Proofs.YtaoccjaaopmfdaaGreatDoor
open Go.RowKit

/-- The value of parts, the lowest first. -/
def bval : List Nat → Nat
  | [] => 0
  | x :: r => x + 4294967296 * bval r
def Lim (ls : List Nat) : Prop := ∀ x ∈ ls, x < 4294967296
/-- The parts without zeros at their end. -/
def btrim : List Nat → List Nat
  | [] => []
  | x :: r => if btrim r = [] ∧ x = 0 then [] else x :: btrim r
theorem bval_append (a b : List Nat) : bval (a ++ b) = bval a + 4294967296 ^ a.length * bval b := by
  induction a with
  | nil => simp [bval]
  | cons x r ih =>
    simp only [List.cons_append, bval, ih, List.length_cons, Nat.pow_succ, Nat.mul_add]
    rw [← Nat.mul_assoc, Nat.mul_comm 4294967296 (4294967296 ^ r.length)]
    omega
theorem bval_trim (a : List Nat) : bval (btrim a) = bval a := by
  induction a with
  | nil => rfl
  | cons x r ih =>
    unfold btrim
    split
    · rename_i h
      rw [h.1] at ih
      simp only [bval] at ih ⊢
      omega
    · simp only [bval, ih]
theorem btrim_length (a : List Nat) : (btrim a).length ≤ a.length := by
  induction a with
  | nil => exact Nat.le_refl _
  | cons x r ih =>
    unfold btrim
    split <;> simp <;> omega
theorem btrim_prefix (a : List Nat) : btrim a = a.take (btrim a).length := by
  induction a with
  | nil => rfl
  | cons x r ih =>
    unfold btrim
    split
    · simp
    · simp only [List.length_cons, List.take_succ_cons]; rw [← ih]
theorem btrim_lim {a : List Nat} (h : Lim a) : Lim (btrim a) := by
  intro x hx
  rw [btrim_prefix] at hx
  exact h x (List.mem_of_mem_take hx)
theorem btrim_snoc_zero (a : List Nat) : btrim (a ++ [0]) = btrim a := by
  induction a with
  | nil => simp [btrim]
  | cons x r ih => simp only [List.cons_append, btrim, ih]
theorem btrim_snoc (a : List Nat) (x : Nat) (hx : x ≠ 0) : btrim (a ++ [x]) = a ++ [x] := by
  induction a with
  | nil => simp [btrim, hx]
  | cons y r ih => simp [btrim, ih]
/-- No zero at the end. -/
def Trim (ls : List Nat) : Prop := btrim ls = ls
theorem btrim_trim (a : List Nat) : Trim (btrim a) := by
  unfold Trim
  induction a with
  | nil => rfl
  | cons x r ih =>
    by_cases h : btrim r = [] ∧ x = 0
    · simp [btrim, h]
    · have e : btrim (x :: r) = x :: btrim r := by simp only [btrim]; rw [if_neg h]
      rw [e]
      simp only [btrim, ih]
      rw [if_neg h]
theorem part_snoc (a : List Nat) (k : Nat) (h : k < a.length) : a.take (k + 1) = a.take k ++ [a.getD k 0] := by
  rw [List.take_add_one, List.getElem?_eq_getElem h]
  simp [List.getElem?_eq_getElem h]
theorem trim_take_zero (a : List Nat) (k : Nat) (h : k < a.length) (hz : a.getD k 0 = 0) : btrim (a.take (k + 1)) = btrim (a.take k) := by
  rw [part_snoc a k h, hz, btrim_snoc_zero]
theorem trim_take_some (a : List Nat) (k : Nat) (h : k < a.length) (hz : a.getD k 0 ≠ 0) : btrim (a.take (k + 1)) = a.take (k + 1) := by
  rw [part_snoc a k h, btrim_snoc _ _ hz]
theorem bval_lt {a : List Nat} (h : Lim a) : bval a < 4294967296 ^ a.length := by
  induction a with
  | nil => simp [bval]
  | cons x r ih =>
    have hx := h x (by simp)
    have hr := ih fun y hy => h y (by simp [hy])
    simp only [bval, List.length_cons, Nat.pow_succ]
    generalize 4294967296 ^ r.length = q at *
    omega
theorem trim_last {a : List Nat} (ht : Trim a) (hn : a ≠ []) : 4294967296 ^ (a.length - 1) ≤ bval a ∧ a.getD (a.length - 1) 0 ≠ 0 := by
  induction a with
  | nil => exact absurd rfl hn
  | cons x r ih =>
    by_cases hr : r = []
    · subst hr
      unfold Trim at ht
      by_cases hx : x = 0
      · subst hx; simp [btrim] at ht
      · simp [bval, hx]; omega
    · have htr : Trim r := by
        unfold Trim at ht ⊢
        by_cases h : btrim r = [] ∧ x = 0
        · simp only [btrim] at ht; rw [if_pos h] at ht; cases ht
        · simp only [btrim] at ht; rw [if_neg h] at ht; exact (List.cons.inj ht).2
      obtain ⟨i1, i2⟩ := ih htr hr
      have hl : 0 < r.length := List.length_pos_iff.2 hr
      obtain ⟨n, hn'⟩ : ∃ n, r.length = n + 1 := ⟨r.length - 1, by omega⟩
      constructor
      · simp only [bval, List.length_cons, Nat.add_sub_cancel]
        rw [hn'] at i1 ⊢
        rw [Nat.add_sub_cancel] at i1
        rw [Nat.pow_succ]
        omega
      · rw [List.length_cons, Nat.add_sub_cancel, hn'] 
        rw [hn', Nat.add_sub_cancel] at i2
        simpa using i2
theorem trim_nil_iff {a : List Nat} (ht : Trim a) : a = [] ↔ bval a = 0 := by
  constructor
  · rintro rfl; rfl
  · intro h
    apply Classical.byContradiction
    intro hn
    have := (trim_last ht hn).1
    have := Nat.pow_pos (n := a.length - 1) (show 0 < 4294967296 by omega)
    omega
theorem take_val (a : List Nat) (k : Nat) (h : k < a.length) : bval (a.take (k + 1)) = bval (a.take k) + 4294967296 ^ k * a.getD k 0 := by
  rw [part_snoc a k h, bval_append, List.length_take, Nat.min_eq_left (by omega)]
  simp [bval]
end Go.Proofs.YtaoccjaaopmfdaaGreatDoor

/- A number times a power of two, written out with a point: plain. -/
namespace Go.Proofs.YtaoccjaaopmfdaaGreatDoor
open Go.RowKit

def dotB : ByteArray := ⟨#[46]⟩
/-- Digits, a point, digits: the number A times 2 to the e, exactly. -/
def Pointed (t : ByteArray) (A : Nat) (e : Int) : Prop := ∃ a b : ByteArray, t = a ++ dotB ++ b ∧ 0 < a.size ∧ b.size = (if 0 ≤ e ∨ A = 0 then 1 else (-e).toNat) ∧ good 10 (a ++ b).data.toList
  ∧ valN 10 (a ++ b).data.toList * 2 ^ (-e).toNat = A * 2 ^ e.toNat * 10 ^ b.size ∧ (a.size = 1 ∨ 10 ^ (a.size - 1) * 10 ^ b.size ≤ valN 10 (a ++ b).data.toList)
theorem valN_append (l m : List UInt8) : valN 10 (l ++ m) = valN 10 l * 10 ^ m.length + valN 10 m := by
  have h := fold_split 10 m (val 10 l)
  have e : val 10 (l ++ m) = val 10 l * 10 ^ m.length + val 10 m := by
    unfold val at h ⊢
    rw [List.foldl_append]
    exact h
  have h1 := valN_cast 10 (l ++ m)
  have h2 := valN_cast 10 l
  have h3 := valN_cast 10 m
  rw [show ((10 : Nat) : Int) = 10 from rfl] at h1 h2 h3
  rw [e, ← h2, ← h3] at h1
  have h4 : ((valN 10 l * 10 ^ m.length + valN 10 m : Nat) : Int) = (valN 10 l : Int) * 10 ^ m.length + (valN 10 m : Int) := by
    rw [Int.natCast_add, Int.natCast_mul, Int.natCast_pow]; rfl
  omega
theorem append_list (a b : ByteArray) : (a ++ b).data.toList = a.data.toList ++ b.data.toList := by simp [ByteArray.data_append]
theorem append_size (a b : ByteArray) : (a ++ b).size = a.size + b.size := by simp
theorem extract_join (s : ByteArray) (k : Nat) : (s.extract 0 k ++ s.extract k s.size).data.toList = s.data.toList := by
  rw [append_list, Lib.extract_eq, Lib.extract_eq]
  simp
  have h1 : (s.data.toList.drop k).take (s.size - k) = s.data.toList.drop k := List.take_of_length_le (by rw [List.length_drop, data_len]; omega)
  rw [h1, List.take_append_drop]
theorem good_append (l m : List UInt8) (h : good 10 l) (h' : good 10 m) : good 10 (l ++ m) := fun c hc => by
  rcases List.mem_append.1 hc with h1 | h1
  · exact h c h1
  · exact h' c h1
theorem good_zeros (n : Nat) : good 10 (List.replicate n (48 : UInt8)) := fun c hc => by rw [List.eq_of_mem_replicate hc]; decide
theorem valN_zeros (n : Nat) : valN 10 (List.replicate n (48 : UInt8)) = 0 := by
  induction n with
  | zero => exact valN_nil 10
  | succ n ih => rw [List.replicate_succ, valN_zero 10 48 _ rfl]; exact ih
theorem dec_pos (ds : ByteArray) (A : Nat) (h : IsDec ds A) (hp : 0 < A) : 0 < ds.size := by
  apply Nat.pos_of_ne_zero
  intro h0
  have e : ds.data.toList = [] := List.length_eq_zero_iff.1 (by rw [data_len]; exact h0)
  have := h.2.1
  rw [e, valN_nil] at this
  omega
/-- Above: nothing is behind the point but a zero. -/
theorem pointed_up (ds : ByteArray) (A E : Nat) (hA : 0 < A) (h : IsDec ds (A * 2 ^ E)) : Pointed (ds ++ dotB ++ ⟨#[48]⟩) A (E : Int) := by
  have hp : 0 < A * 2 ^ E := Nat.mul_pos hA (Nat.two_pow_pos E)
  have h0 : 0 < ds.size := dec_pos ds _ h hp
  have hv : valN 10 (ds ++ (⟨#[48]⟩ : ByteArray)).data.toList = A * 2 ^ E * 10 := by
    rw [append_list, valN_append, h.2.1]; rfl
  refine ⟨ds, ⟨#[48]⟩, rfl, h0, ?_, ?_, ?_, ?_⟩
  · rw [if_pos (.inl (by omega))]; rfl
  · rw [append_list]; exact good_append _ _ h.1 (good_zeros 1)
  · rw [hv, show (-(E : Int)).toNat = 0 by omega, show ((E : Int)).toNat = E by omega]
    show A * 2 ^ E * 10 * 2 ^ 0 = A * 2 ^ E * 10 ^ 1
    omega
  · right
    rw [hv]
    have := (dec_bounds ds _ h h0).1
    show 10 ^ (ds.size - 1) * 10 ^ 1 ≤ A * 2 ^ E * 10
    omega
/-- Below: as many digits behind the point as the power asks. -/
theorem pointed_down (ds : ByteArray) (A s k : Nat) (z : Nat) (hA : 0 < A) (hs : 0 < s) (l : List UInt8) (hl : ds.data.toList = List.replicate z 48 ++ l) (hg : good 10 l) (hv : valN 10 l = A * 5 ^ s) (hk : ds.size = k + s) (hk0 : 0 < k)
    (hz : k = 1 ∨ 10 ^ (ds.size - 1) ≤ A * 5 ^ s) : Pointed (ds.extract 0 k ++ dotB ++ ds.extract k ds.size) A (-(s : Int)) := by
  have hj := extract_join ds k
  have hvd : valN 10 ds.data.toList = A * 5 ^ s := by rw [hl, valN_append, valN_zeros, Nat.zero_mul, Nat.zero_add, hv]
  have sa : (ds.extract 0 k).size = k := by simp; omega
  have sb : (ds.extract k ds.size).size = s := by simp; omega
  refine ⟨_, _, rfl, by omega, ?_, ?_, ?_, ?_⟩
  · rw [sb, if_neg (by omega)]; omega
  · rw [hj, hl]; exact good_append _ _ (good_zeros z) hg
  · rw [hj, hvd, sb, show (-(-(s : Int))).toNat = s by omega, show (-(s : Int)).toNat = 0 by omega, Nat.pow_zero, Nat.mul_one, show (10 : Nat) = 5 * 2 from rfl, Nat.mul_pow, Nat.mul_assoc]
  · rw [hj, hvd, sa, sb]
    rcases hz with h | h
    · exact .inl h
    · right
      rw [← Nat.pow_add, show k - 1 + s = ds.size - 1 by omega]
      exact h
theorem pointed_zero (e : Int) : Pointed ⟨#[48, 46, 48]⟩ 0 e := by
  refine ⟨⟨#[48]⟩, ⟨#[48]⟩, rfl, by decide, by rw [if_pos (.inr rfl)]; rfl, good_zeros 2, ?_, .inl rfl⟩
  rw [show valN 10 ((⟨#[48]⟩ : ByteArray) ++ ⟨#[48]⟩).data.toList = 0 from valN_zeros 2]
  omega
theorem dec_few (s : ByteArray) (A n : Nat) (h : IsDec s A) (hA : A < 4294967296 ^ n) : s.size ≤ 32 * n + 1 := by
  by_cases h0 : s.size = 0
  · omega
  · have h1 := (dec_bounds s A h (by omega)).1
    have h2 : 2 ^ (s.size - 1) ≤ 10 ^ (s.size - 1) := Nat.pow_le_pow_left (by omega) _
    have e : 4294967296 ^ n = 2 ^ (32 * n) := by rw [Nat.pow_mul]
    rw [e] at hA
    have := (Nat.pow_lt_pow_iff_right (a := 2) (by omega)).1 (Nat.lt_of_le_of_lt h2 (Nat.lt_of_le_of_lt h1 hA))
    omega
/-- How long such a text is. -/
theorem pointed_size (t : ByteArray) (A : Nat) (e : Int) (h : Pointed t A e) (hA : A < 18446744073709551616) : t.size ≤ 2 + (64 + e.toNat - (-e).toNat) / 3 + (if 0 ≤ e ∨ A = 0 then 1 else (-e).toNat) := by
  obtain ⟨a, b, rfl, h0, hb, _, hv, hz⟩ := h
  rw [← hb, append_size, append_size, show dotB.size = 1 from rfl]
  have key : a.size - 1 ≤ (64 + e.toNat - (-e).toNat) / 3 := by
    rcases hz with hz | hz
    · omega
    · have h1 : 10 ^ (a.size - 1) * 10 ^ b.size * 2 ^ (-e).toNat ≤ A * 2 ^ e.toNat * 10 ^ b.size := by
        rw [← hv]; exact Nat.mul_le_mul_right _ hz
      have h2 : 10 ^ (a.size - 1) * 2 ^ (-e).toNat ≤ A * 2 ^ e.toNat := by
        apply Nat.le_of_mul_le_mul_right _ (Nat.pow_pos (show 0 < 10 by omega) (n := b.size))
        rw [Nat.mul_right_comm]; exact h1
      have h3 : 2 ^ (3 * (a.size - 1)) ≤ 10 ^ (a.size - 1) := by rw [Nat.pow_mul]; exact Nat.pow_le_pow_left (by omega) _
      have h4 : 2 ^ (3 * (a.size - 1) + (-e).toNat) ≤ A * 2 ^ e.toNat := by
        rw [Nat.pow_add]; exact Nat.le_trans (Nat.mul_le_mul_right _ h3) h2
      have h5 : A * 2 ^ e.toNat < 2 ^ (64 + e.toNat) := by
        rw [Nat.pow_add]
        exact Nat.mul_lt_mul_of_pos_right (show A < 2 ^ 64 from hA) (Nat.two_pow_pos _)
      have h6 := (Nat.pow_lt_pow_iff_right (a := 2) (by omega)).1 (Nat.lt_of_le_of_lt h4 h5)
      omega
  omega
end Go.Proofs.YtaoccjaaopmfdaaGreatDoor

