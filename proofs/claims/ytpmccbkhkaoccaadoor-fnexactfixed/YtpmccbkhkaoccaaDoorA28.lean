import Derived.Test.YtpmccbkhkaoccaaDoorA27
import Derived.Test.YtpmccbkhkaoccaaDoorA21
/- WriteInt of the specification. -/
namespace Go.Proofs.YtpmccbkhkaoccaaDoor
open Go.ChangeShapes Go.WideShapes Go.RowKit

set_option maxHeartbeats 400000 in
theorem specInt_any (n b : Int) (w : World) :
    Calls Tryd.prog 29 #[.int .i64 n, .int .i64 b] w fun e w' => e = .returned (.string (intText n b)) ∧ w' = w := by
  by_cases h : 2 ≤ b ∧ b ≤ 36
  · by_cases hn : n < 0
    · have HV : Hid (intText n b = ⟨#[45]⟩ ++ ⟨(textOf b.toNat (unsig (-n))).toArray⟩) := intText_neg n b h hn
      have HC : Hid _ := fun w => specDigits_at _ b (unsig (-n)) (neg_unsig n) w (unsig_lt (-n)) h.1 h.2
      obtain ⟨h2, h36⟩ := h
      have hl := textOf_length b.toNat (unsig (-n))
      generalize textOf b.toNat (unsig (-n)) = t at *
      go_enter Tryd.func29, Tryd.ntmps29
      go_wp2_with (go_at_call 48; refine (HC.out _).mono ?_; rintro e w' ⟨rfl, rfl⟩)
      go_ret
      exact ⟨by rw [HV.out]; rfl, rfl⟩
    · have HV : Hid (intText n b = ⟨(textOf b.toNat (unsig n)).toArray⟩) := intText_pos n b h hn
      have HC : Hid _ := fun w => specDigits_at _ b (unsig n) (unsig_cast n) w (unsig_lt n) h.1 h.2
      obtain ⟨h2, h36⟩ := h
      go_enter Tryd.func29, Tryd.ntmps29
      go_wp2_with (go_at_call 48; refine (HC.out _).mono ?_; rintro e w' ⟨rfl, rfl⟩)
      go_ret
      exact ⟨by rw [HV.out]; rfl, rfl⟩
  · have HV : Hid (intText n b = ⟨#[]⟩) := by unfold intText; exact if_neg h
    go_enter Tryd.func29, Tryd.ntmps29
    by_cases h2 : b < 2
    · clear h
      go_wp2
      go_ret
      exact ⟨by rw [HV.out]; rfl, rfl⟩
    · have h36 : 36 < b := by omega
      clear h
      go_wp2
      go_ret
      exact ⟨by rw [HV.out]; rfl, rfl⟩
end Go.Proofs.YtpmccbkhkaoccaaDoor

/- l5science of the specification. -/
namespace Go.Proofs.YtpmccbkhkaoccaaDoor
open Go.ChangeShapes Go.WideShapes Go.RowKit

/-- Digits with an exponent. -/
def sciB (ds : ByteArray) (pow : Int) : ByteArray := (if 1 < ds.size then ds.extract 0 1 ++ (⟨#[46]⟩ ++ ds.extract 1 ds.size) else ds.extract 0 1) ++ ⟨#[101]⟩ ++ intText (pow - 1) 10
theorem int_size (n : Int) : (intText n 10).size ≤ 70 := by
  unfold intText
  rw [if_pos (by omega)]
  have h1 : ∀ k, (⟨(textOf 10 k).toArray⟩ : ByteArray).size ≤ 64 := fun k => by
    rw [← data_len]
    exact textOf_length 10 k
  split
  · rw [append_size]
    have := h1 (unsig (-n))
    have e : (⟨#[45]⟩ : ByteArray).size = 1 := rfl
    rw [show (10 : Int).toNat = 10 from rfl]
    omega
  · have := h1 (unsig n)
    rw [show (10 : Int).toNat = 10 from rfl]
    omega
theorem sciB_size (ds : ByteArray) (pow : Int) : (sciB ds pow).size ≤ ds.size + 80 := by
  unfold sciB
  have h := int_size (pow - 1)
  have e1 : (⟨#[101]⟩ : ByteArray).size = 1 := rfl
  have e2 : (⟨#[46]⟩ : ByteArray).size = 1 := rfl
  have e3 : (ds.extract 0 1).size ≤ 1 := by simp; omega
  rw [append_size, append_size]
  split
  · have e4 : (ds.extract 1 ds.size).size = ds.size - 1 := by simp
    rw [append_size, append_size]; omega
  · omega

set_option maxHeartbeats 1000000 in
set_option maxRecDepth 100000 in
theorem l5science_any (ds : ByteArray) (p : Int) (hs : ds.size ≤ 3000) (h0 : 0 < ds.size) (hp : -100000 ≤ p) (hp2 : p ≤ 100000) (w : World) :
    Calls Tryd.prog 23 #[.agg #[.string ds, .int .i64 p]] w fun e w' => e = .returned (.string (sciB ds p)) ∧ Below w.heap.size w w' := by
  have HI : Hid _ := fun w => specInt_any (p - 1) 10 w
  have hi := int_size (p - 1)
  have hs' : (ds.size : Int) ≤ 3000 := by omega
  unfold sciB
  generalize intText (p - 1) 10 = I at *
  by_cases h1 : 1 < ds.size
  · rw [if_pos h1]
    have e4 : (ds.extract 1 ds.size).size = ds.size - 1 := by simp
    go_enter Tryd.func23, Tryd.ntmps23
    go_wp2_with (go_at_call 29; refine (HI.out _).mono ?_; rintro e w' ⟨rfl, rfl⟩)
    go_ret
    exact ⟨rfl, (Below.refl _ _).alloc (Nat.le_refl _) _⟩
  · rw [if_neg h1]
    go_enter Tryd.func23, Tryd.ntmps23
    go_wp2_with (go_at_call 29; refine (HI.out _).mono ?_; rintro e w' ⟨rfl, rfl⟩)
    go_ret
    exact ⟨rfl, (Below.refl _ _).alloc (Nat.le_refl _) _⟩
end Go.Proofs.YtpmccbkhkaoccaaDoor

/- The texts that the program writes: plain. -/
namespace Go.Proofs.YtpmccbkhkaoccaaDoor
open Go.RowKit

/-- The digit of a size at a power of ten: digits from the power x on downwards. -/
def dAt (ds : ByteArray) (x p : Int) : UInt8 := if h : 0 ≤ x - p ∧ x - p < (ds.size : Int) then ds[(x - p).toNat]'(by omega) else 48
/-- Digits from a power on downwards, a point ahead of that of one power. -/
def putL (f : Int → UInt8) (top mark : Int) (n : Nat) : List UInt8 := (List.range n).flatMap fun (i : Nat) => if top - (i : Int) = mark then [46, f (top - i)] else [f (top - i)]
theorem putL_succ (f : Int → UInt8) (top mark : Int) (n : Nat) : putL f top mark (n + 1) = putL f top mark n ++ (if top - (n : Int) = mark then [46, f (top - n)] else [f (top - n)]) := by
  unfold putL
  rw [List.range_succ, List.flatMap_append]
  simp
theorem putL_split (f : Int → UInt8) (top : Int) (m n : Nat) : putL f top (top - m) n = (List.range (min n m)).map (fun i => f (top - (i : Nat)))
    ++ (if m < n then 46 :: (List.range (n - m)).map (fun i => f (top - m - (i : Nat))) else []) := by
  induction n with
  | zero => simp [putL]
  | succ n ih =>
    rw [putL_succ, ih]
    by_cases h1 : n < m
    · rw [if_neg (show ¬ m < n by omega), if_neg (show ¬ m < n + 1 by omega), if_neg (show ¬ top - (n : Int) = top - (m : Int) by omega), Nat.min_eq_left (by omega), Nat.min_eq_left (by omega), List.range_succ, List.map_append]
      simp
    · by_cases h2 : n = m
      · subst h2
        rw [if_neg (Nat.lt_irrefl _), if_pos (Nat.lt_succ_self n), if_pos rfl, Nat.min_self, Nat.min_eq_right (show n ≤ n + 1 by omega)]
        simp
      · rw [if_pos (show m < n by omega), if_pos (show m < n + 1 by omega), if_neg (show ¬ top - (n : Int) = top - (m : Int) by omega), Nat.min_eq_right (show m ≤ n by omega), Nat.min_eq_right (show m ≤ n + 1 by omega), show n + 1 - m = (n - m) + 1 by omega, List.range_succ, List.map_append]
        simp
        congr 1
        omega
theorem get_data (s : ByteArray) (i : Nat) (h : i < s.size) : s.data.toList[i]? = some s[i] := by
  rw [List.getElem?_eq_getElem (by rw [data_len]; exact h)]
  rfl
theorem data_get (s : ByteArray) (i : Nat) : s.data.toList[i]? = if h : i < s.size then some s[i] else none := by
  split
  · exact get_data s i (by assumption)
  · rw [List.getElem?_eq_none (by rw [data_len]; omega)]
theorem zeros_get (n i : Nat) : (zerosB n).data.toList[i]? = if i < n then some 48 else none := by
  show (List.replicate n (48 : UInt8))[i]? = _
  rw [List.getElem?_replicate]
theorem ext_list (s : ByteArray) (i j : Nat) : (s.extract i j).data.toList = (s.data.toList.drop i).take (j - i) := by
  rw [Lib.extract_eq]
/-- What stands in the row of digits that Fixed cuts. -/
theorem fix_get (ds : ByteArray) (x : Int) (k i : Nat) (hi : (i : Int) < fxP (x + 1) + k) : (fxE (fxD ds (x + 1)) (fxP (x + 1)) k).data.toList[i]? = some (dAt ds x (fxP (x + 1) - 1 - i)) := by
  have key : ∀ j : Nat, (fxD ds (x + 1)).data.toList[j]? = if (j : Int) < (fxP (x + 1) - (x + 1)) + ds.size then some (dAt ds x (fxP (x + 1) - 1 - j)) else none := fun j => by
    unfold fxD fxP dAt
    by_cases hp : x + 1 < 1
    · rw [if_pos hp, if_pos hp, append_list, List.getElem?_append, data_len, zerosB_size]
      split
      · rw [zeros_get, if_pos (by assumption), if_pos (by omega), dif_neg (by omega)]
      · rw [data_get]
        split
        · rw [if_pos (by omega), dif_pos (by omega)]
          congr 1
          congr 1
          omega
        · rw [if_neg (by omega)]
    · rw [if_neg hp, if_neg hp, data_get]
      split
      · rw [if_pos (by omega), dif_pos (by omega)]
        congr 1
        congr 1
        omega
      · rw [if_neg (by omega)]
  have hsz : ((fxD ds (x + 1)).size : Int) = fxP (x + 1) - (x + 1) + ds.size := by
    rw [fxD_size]
    unfold fxP
    split <;> omega
  unfold fxE
  by_cases hl : ((fxD ds (x + 1)).size : Int) < fxP (x + 1) + k
  · rw [if_pos hl, append_list, List.getElem?_append, data_len]
    split
    · rw [key, if_pos (by omega)]
    · rw [zeros_get, if_pos (by omega)]
      unfold dAt
      rw [dif_neg (by omega)]
  · rw [if_neg hl, key, if_pos (by omega)]
/-- A form without an exponent. -/
theorem plain_text (ds : ByteArray) (x : Int) (k : Nat) : putL (dAt ds x) (fxP (x + 1) - 1) (-1) ((fxP (x + 1)).toNat + k) = (fixB ds (x + 1) k).data.toList := by
  have hP : 1 ≤ fxP (x + 1) := by unfold fxP; split <;> omega
  have hm : (-1 : Int) = fxP (x + 1) - 1 - ((fxP (x + 1)).toNat : Int) := by omega
  have hsz := fxE_size (fxD ds (x + 1)) (fxP (x + 1)) k
  rw [hm, putL_split, Nat.min_eq_right (by omega)]
  have h1 : (List.range (fxP (x + 1)).toNat).map (fun i => dAt ds x (fxP (x + 1) - 1 - (i : Nat))) = ((fxE (fxD ds (x + 1)) (fxP (x + 1)) k).extract 0 (fxP (x + 1)).toNat).data.toList := by
    rw [ext_list]
    apply List.ext_getElem?
    intro i
    simp only [List.drop_zero, Nat.sub_zero, List.getElem?_take, List.getElem?_map]
    by_cases hi : i < (fxP (x + 1)).toNat
    · rw [if_pos hi, fix_get ds x k i (by omega), List.getElem?_range hi]
      rfl
    · rw [if_neg hi, List.getElem?_eq_none (by simp; omega)]
      rfl
  unfold fixB
  by_cases hk : k = 0
  · subst hk
    rw [if_neg (by omega), if_pos rfl, List.append_nil]
    exact h1
  · rw [if_pos (by omega), if_neg hk, append_list, append_list, ← h1, List.append_assoc]
    congr 1
    show _ = [46] ++ _
    rw [List.singleton_append]
    congr 1
    rw [ext_list]
    apply List.ext_getElem?
    intro i
    rw [List.getElem?_take, List.getElem?_drop]
    by_cases hi : i < k
    · rw [if_pos (by omega), fix_get ds x k _ (by omega), List.getElem?_map, List.getElem?_range (by omega)]
      simp only [Option.map_some]
      congr 1
      congr 1
      omega
    · rw [if_neg (by omega), List.getElem?_eq_none (by simp; omega)]
theorem pad_get (ds : ByteArray) (x : Int) (n i : Nat) (hi : i < n) : (padB ds n).data.toList[i]? = some (dAt ds x (x - i)) := by
  unfold padB dAt
  rw [append_list, List.getElem?_append, data_len]
  by_cases hn : n < ds.size
  · have hs : (ds.extract 0 n).size = n := by simp; omega
    rw [if_pos hn, hs, if_pos hi, ext_list, List.drop_zero, List.getElem?_take, if_pos (by omega), get_data ds i (by omega), dif_pos (by omega)]
    congr 1
    congr 1
    omega
  · rw [if_neg hn]
    split
    · rw [get_data ds i (by assumption), dif_pos (by omega)]
      congr 1
      congr 1
      omega
    · rw [zeros_get, if_pos (by omega), dif_neg (by omega)]
/-- A form with an exponent. -/
theorem power_text (ds : ByteArray) (x : Int) (n : Nat) (hn : 1 ≤ n) : (⟨(putL (dAt ds x) x (x - 1) n).toArray⟩ : ByteArray) ++ ⟨#[101]⟩ ++ intText x 10 = sciB (padB ds n) (x + 1) := by
  have hsz := padB_size ds n
  unfold sciB
  rw [show x + 1 - 1 = x by omega, hsz]
  congr 2
  apply bytes_ext
  have h1 : (List.range 1).map (fun i => dAt ds x (x - (i : Nat))) = ((padB ds n).extract 0 1).data.toList := by
    rw [ext_list]
    apply List.ext_getElem?
    intro i
    rw [List.drop_zero, List.getElem?_take]
    by_cases hi : i < 1
    · rw [if_pos (by omega), pad_get ds x n i (by omega), List.getElem?_map, List.getElem?_range hi]
      rfl
    · rw [if_neg (by omega), List.getElem?_eq_none (by simp; omega)]
  show putL (dAt ds x) x (x - ((1 : Nat) : Int)) n = _
  rw [putL_split, Nat.min_eq_right hn, h1]
  by_cases h2 : 1 < n
  · rw [if_pos h2, if_pos h2, append_list, append_list]
    congr 1
    show _ = [46] ++ _
    rw [List.singleton_append]
    congr 1
    rw [ext_list]
    apply List.ext_getElem?
    intro i
    rw [List.getElem?_take, List.getElem?_drop]
    by_cases hi : i < n - 1
    · rw [if_pos (by omega), pad_get ds x n _ (by omega), List.getElem?_map, List.getElem?_range (by omega)]
      simp only [Option.map_some]
      congr 1
      congr 1
      omega
    · rw [if_neg (by omega), List.getElem?_eq_none (by simp; omega)]
  · rw [if_neg h2, if_neg h2, List.append_nil]
/-- All digits of a number without an exponent: so many places as there are digits behind the point. -/
theorem plainB_fix (ds : ByteArray) (pow : Int) (h0 : 0 < ds.size) : plainB ds pow = fixB ds pow ((ds.size : Int) - pow).toNat := by
  apply bytes_ext
  unfold plainB fixB
  have hz : ∀ n, (zerosB n).data.toList = List.replicate n 48 := fun _ => rfl
  by_cases hp : pow ≤ 0
  · have e1 : fxD ds pow = zerosB (1 - pow).toNat ++ ds := by unfold fxD; rw [if_pos (by omega)]
    have e2 : fxP pow = 1 := by unfold fxP; rw [if_pos (by omega)]
    have e3 : fxE (zerosB (1 - pow).toNat ++ ds) 1 ((ds.size : Int) - pow).toNat = zerosB (1 - pow).toNat ++ ds := by unfold fxE; rw [if_neg (by rw [append_size, zerosB_size]; omega)]
    rw [if_pos hp, if_neg (by omega), e1, e2, e3]
    have e4 : (1 - pow).toNat = (-pow).toNat + 1 := by omega
    rw [append_list, append_list, append_list, append_list, ext_list, ext_list, append_list, hz, hz, e4, List.replicate_succ]
    simp
    rw [List.take_of_length_le]
    simp
    omega
  · rw [if_neg hp]
    have e1 : fxD ds pow = ds := by unfold fxD; rw [if_neg (by omega)]
    have e2 : fxP pow = pow := by unfold fxP; rw [if_neg (by omega)]
    rw [e1, e2]
    by_cases h2 : (ds.size : Int) ≤ pow
    · rw [if_pos h2, if_pos (by omega), ext_list]
      unfold fxE
      by_cases h3 : (ds.size : Int) < pow
      · rw [if_pos (by omega), append_list, append_list, hz, hz]
        rw [List.drop_zero, List.take_of_length_le (by simp; omega)]
        congr 2
        omega
      · rw [if_neg (by omega), append_list, hz, show pow.toNat - ds.size = 0 by omega]
        simp
        rw [List.take_of_length_le (by simp; omega)]
    · rw [if_neg h2, if_neg (by omega)]
      have e3 : fxE ds pow ((ds.size : Int) - pow).toNat = ds := by unfold fxE; rw [if_neg (by omega)]
      rw [e3, show pow.toNat + ((ds.size : Int) - pow).toNat = ds.size by omega]
      rfl
end Go.Proofs.YtpmccbkhkaoccaaDoor

