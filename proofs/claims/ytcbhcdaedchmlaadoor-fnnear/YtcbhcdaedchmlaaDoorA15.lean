import Derived.WalkKit
/- Numbers in a base, as plain functions: no program is spoken of here. -/
namespace Go.Proofs.YtcbhcdaedchmlaaDoor
open Go.RowKit

/-- A byte's digit; 'none' for a byte that is none. -/
def digN (none c : Int) : Int := if 48 ≤ c ∧ c ≤ 57 then c - 48 else if 97 ≤ c ∧ c ≤ 122 then c - 97 + 10 else none
theorem digN_lo (none c : Int) (h : 0 ≤ none) : 0 ≤ digN none c := by unfold digN; split <;> (try split) <;> omega
theorem digN_hi (none c : Int) (h : 36 ≤ none) : digN none c ≤ none := by unfold digN; split <;> (try split) <;> omega
theorem digN_same (a b c base : Int) (ha : base ≤ a) (hb : base ≤ b) : (digN a c < base ↔ digN b c < base) ∧ (digN a c < base → digN a c = digN b c) := by
  unfold digN; split <;> (try split) <;> omega

/-- The number that digits tell. -/
def val (b : Int) (l : List UInt8) : Int := l.foldl (fun n c => n * b + digN 99 c.toNat) 0
/-- Every byte is a digit of the base. -/
def good (b : Int) (l : List UInt8) : Prop := ∀ c ∈ l, digN 99 (c.toNat : Int) < b
theorem val_snoc (b : Int) (l : List UInt8) (c : UInt8) : val b (l ++ [c]) = val b l * b + digN 99 c.toNat := by simp [val, List.foldl_append]
theorem le_mul (n b : Int) (hn : 0 ≤ n) (hb : 1 ≤ b) : n ≤ n * b := by
  have h := Int.mul_nonneg hn (show (0 : Int) ≤ b - 1 by omega)
  rw [Int.mul_sub, Int.mul_one] at h
  omega
theorem fold_nonneg (b : Int) (hb : 0 ≤ b) (l : List UInt8) : ∀ n : Int, 0 ≤ n → 0 ≤ l.foldl (fun n c => n * b + digN 99 c.toNat) n := by
  induction l with
  | nil => intro n h; exact h
  | cons c l ih =>
    intro n h
    have hd := digN_lo 99 c.toNat (by omega)
    have hm : 0 ≤ n * b := Int.mul_nonneg h hb
    exact ih _ (show 0 ≤ n * b + digN 99 c.toNat by omega)
theorem val_nonneg (b : Int) (hb : 0 ≤ b) (l : List UInt8) : 0 ≤ val b l := fold_nonneg b hb l 0 (by omega)
theorem val_more (b : Int) (hb : 1 ≤ b) (m : List UInt8) : ∀ l, val b l ≤ val b (l ++ m) := by
  induction m with
  | nil => intro l; simp
  | cons c m ih =>
    intro l
    have h := ih (l ++ [c])
    rw [List.append_assoc] at h
    have hs := val_snoc b l c
    have hd := digN_lo 99 c.toNat (by omega)
    have hm := le_mul (val b l) b (val_nonneg b (by omega) l) hb
    show val b l ≤ val b (l ++ ([c] ++ m))
    omega
theorem val_take (b : Int) (hb : 1 ≤ b) (l : List UInt8) (k : Nat) : val b (l.take k) ≤ val b l := by
  have h := val_more b hb (l.drop k) (l.take k)
  rw [List.take_append_drop] at h
  exact h
theorem take_snoc (s : ByteArray) (k : Nat) (h : k < s.size) : s.data.toList.take (k + 1) = s.data.toList.take k ++ [s[k]] := by
  rw [List.take_succ_eq_append_getElem (by simpa using h)]; rfl
theorem val_step (b : Int) (s : ByteArray) (k : Nat) (h : k < s.size) : val b (s.data.toList.take (k + 1)) = val b (s.data.toList.take k) * b + digN 99 (s[k].toNat : Int) := by
  rw [take_snoc s k h, val_snoc]
theorem good_at (b : Int) (s : ByteArray) (hg : good b s.data.toList) (k : Nat) (h : k < s.size) : digN 99 (s[k].toNat : Int) < b :=
  hg _ (List.getElem_mem (l := s.data.toList) (n := k) (by simpa using h))
theorem bad_at (b : Int) (s : ByteArray) (k : Nat) (h : k < s.size) (hb : b ≤ digN 99 (s[k].toNat : Int)) : ¬ good b s.data.toList :=
  fun hg => by have := good_at b s hg k h; omega
theorem good_of (b : Int) (s : ByteArray) (h : ∀ k (hk : k < s.size), digN 99 (s[k].toNat : Int) < b) : good b s.data.toList := by
  intro c hc
  obtain ⟨i, hi, rfl⟩ := List.getElem_of_mem hc
  exact h i (by simpa using hi)

/-- What the test ahead of a product says: 'n > (limit - d) / b' just where the next number passes the limit. -/
theorem passes (n b d limit : Int) (hb : 0 < b) : (limit - d) / b < n ↔ limit < n * b + d := by
  have h := Int.ediv_lt_iff_lt_mul (a := limit - d) (b := n) hb
  omega
theorem passes0 (n b limit : Int) (hb : 0 < b) : limit / b < n ↔ limit < n * b := by
  have h := passes n b 0 limit hb
  simp only [Int.sub_zero, Int.add_zero] at h
  exact h
end Go.Proofs.YtcbhcdaedchmlaaDoor

/- The number that digits tell: plain. -/
namespace Go.Proofs.YtcbhcdaedchmlaaDoor
open Go.RowKit

/-- The number that digits tell. -/
def valN (b : Nat) (l : List UInt8) : Nat := (val (b : Int) l).toNat
theorem valN_cast (b : Nat) (l : List UInt8) : (valN b l : Int) = val (b : Int) l := Int.toNat_of_nonneg (val_nonneg _ (by omega) l)
theorem valN_step (b : Nat) (s : ByteArray) (k : Nat) (h : k < s.size) (d : Nat) (hd : (d : Int) = digN 99 (s[k].toNat : Int)) : valN b (s.data.toList.take (k + 1)) = valN b (s.data.toList.take k) * b + d := by
  have h1 := valN_cast b (s.data.toList.take (k + 1))
  rw [val_step (b : Int) s k h, ← valN_cast b (s.data.toList.take k), ← hd] at h1
  rw [← Int.natCast_mul, ← Int.natCast_add] at h1
  exact Int.ofNat_inj.1 h1
theorem valN_lt (b : Nat) (hb : b ≤ 4000000000) (l : List UInt8) : valN b l < 4294967296 ^ l.length := by
  have key : ∀ (l : List UInt8) (n : Int) (k : Nat), 0 ≤ n → n.toNat < 4294967296 ^ k → (l.foldl (fun n c => n * (b : Int) + digN 99 c.toNat) n).toNat < 4294967296 ^ (k + l.length) := by
    intro l
    induction l with
    | nil => intro n k _ h; simpa using h
    | cons c l ih =>
      intro n k h0 h
      have hd := digN_lo 99 c.toNat (by omega)
      have hd' := digN_hi 99 c.toNat (by omega)
      have hm : 0 ≤ n * (b : Int) := Int.mul_nonneg h0 (by omega)
      obtain ⟨m, rfl⟩ := Int.eq_ofNat_of_zero_le h0
      rw [Int.toNat_natCast] at h
      have hs : ((m : Int) * (b : Int) + digN 99 c.toNat).toNat < 4294967296 ^ (k + 1) := by
        have e : (m : Int) * (b : Int) = ((m * b : Nat) : Int) := (Int.natCast_mul m b).symm
        rw [e, Nat.pow_succ]
        have h2 : m * b ≤ (4294967296 ^ k - 1) * 4000000000 := Nat.mul_le_mul (by omega) hb
        have h3 : 0 < 4294967296 ^ k := Nat.pow_pos (by omega)
        omega
      have := ih _ (k + 1) (by omega) hs
      rw [List.length_cons, show k + (l.length + 1) = k + 1 + l.length by omega]
      exact this
  have := key l 0 0 (by omega) (by simp)
  rw [Nat.zero_add] at this
  exact this
theorem valN_take_lt (b : Nat) (hb : b ≤ 4000000000) (s : ByteArray) (k : Nat) : valN b (s.data.toList.take k) < 4294967296 ^ s.size := by
  refine Nat.lt_of_lt_of_le (valN_lt b hb _) (Nat.pow_le_pow_right (by omega) ?_)
  rw [List.length_take]
  have : s.data.toList.length = s.size := by simp
  omega
end Go.Proofs.YtcbhcdaedchmlaaDoor

/- Digits and the number that they tell: plain. -/
namespace Go.Proofs.YtcbhcdaedchmlaaDoor
open Go.RowKit

theorem fold_split (b : Int) (l : List UInt8) : ∀ n : Int, l.foldl (fun n c => n * b + digN 99 c.toNat) n = n * b ^ l.length + val b l := by
  induction l with
  | nil => intro n; simp [val]
  | cons c l ih =>
    intro n
    have e1 : val b (c :: l) = l.foldl (fun n c => n * b + digN 99 c.toNat) (0 * b + digN 99 c.toNat) := rfl
    rw [e1, ih, List.foldl_cons, ih, List.length_cons, Int.pow_succ, Int.zero_mul, Int.zero_add, Int.add_mul, Int.mul_assoc, Int.mul_comm b, Int.add_assoc]
theorem val_cons (b : Int) (c : UInt8) (l : List UInt8) : val b (c :: l) = digN 99 c.toNat * b ^ l.length + val b l := by
  have e1 : val b (c :: l) = l.foldl (fun n c => n * b + digN 99 c.toNat) (0 * b + digN 99 c.toNat) := rfl
  rw [e1, fold_split, Int.zero_mul, Int.zero_add]
theorem good_tail {b : Int} {c : UInt8} {l : List UInt8} (h : good b (c :: l)) : good b l := fun x hx => h x (List.mem_cons_of_mem _ hx)
theorem valN_cons (b : Nat) (c : UInt8) (l : List UInt8) : valN b (c :: l) = (digN 99 (c.toNat : Int)).toNat * b ^ l.length + valN b l := by
  have h := valN_cast b (c :: l)
  have hd := digN_lo 99 c.toNat (by omega)
  rw [val_cons, ← valN_cast b l, ← Int.toNat_of_nonneg hd, ← Int.natCast_pow, ← Int.natCast_mul, ← Int.natCast_add] at h
  exact Int.ofNat_inj.1 h
theorem valN_good_lt (b : Nat) (l : List UInt8) (hg : good (b : Int) l) : valN b l < b ^ l.length := by
  induction l with
  | nil => simp [valN, val]
  | cons c l ih =>
    have h1 := ih (good_tail hg)
    have h2 := hg c List.mem_cons_self
    have hd := digN_lo 99 c.toNat (by omega)
    rw [valN_cons, List.length_cons, Nat.pow_succ, Nat.mul_comm (b ^ l.length) b]
    have h3 : ((digN 99 (c.toNat : Int)).toNat + 1) * b ^ l.length ≤ b * b ^ l.length := Nat.mul_le_mul_right _ (by omega)
    rw [Nat.add_mul, Nat.one_mul] at h3
    omega
theorem valN_good_ge (b : Nat) (c : UInt8) (l : List UInt8) (h : digN 99 (c.toNat : Int) ≠ 0) : b ^ l.length ≤ valN b (c :: l) := by
  have hd := digN_lo 99 c.toNat (by omega)
  rw [valN_cons]
  have : 1 * b ^ l.length ≤ (digN 99 (c.toNat : Int)).toNat * b ^ l.length := Nat.mul_le_mul_right _ (by omega)
  omega
theorem digN_zero (c : UInt8) : digN 99 (c.toNat : Int) = 0 ↔ c.toNat = 48 := by
  unfold digN; split <;> (try split) <;> omega
theorem valN_zero (b : Nat) (c : UInt8) (l : List UInt8) (h : c.toNat = 48) : valN b (c :: l) = valN b l := by
  rw [valN_cons, (digN_zero c).2 h]; simp
theorem valN_nil (b : Nat) : valN b [] = 0 := by simp [valN, val]
/-- A text's first byte and the rest. -/
theorem text_cons (s : ByteArray) (h : 0 < s.size) : s.data.toList = s[0] :: (s.extract 1 s.size).data.toList := by
  have h1 : (s.extract 1 s.size).data.toList = s.data.toList.drop 1 := by
    rw [ByteArray.data_extract, Array.toList_extract, List.extract_eq_take_drop]
    apply List.take_of_length_le
    simp
  rw [h1]
  have h2 : 0 < s.data.toList.length := by simpa using h
  have h3 := List.drop_eq_getElem_cons (l := s.data.toList) (i := 0) h2
  rw [List.drop_zero] at h3
  exact h3
theorem extract_one (s : ByteArray) (h : 0 < s.size) : (s.extract 1 s.size).size + 1 = s.size := by
  have := congrArg List.length (text_cons s h)
  simp at this
  simp
  omega
end Go.Proofs.YtcbhcdaedchmlaaDoor

