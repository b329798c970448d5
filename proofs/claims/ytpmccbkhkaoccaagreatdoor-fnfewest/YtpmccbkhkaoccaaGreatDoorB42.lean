import Derived.Test.YtpmccbkhkaoccaaGreatDoorB41
import Derived.Test.YtpmccbkhkaoccaaGreatDoorB31
import Derived.Test.YtpmccbkhkaoccaaGreatDoorB16
import Derived.Test.YtpmccbkhkaoccaaGreatDoorB03
/- A builder and the iterators. -/
namespace Go.Proofs.YtpmccbkhkaoccaaGreatDoor
open Go.RowKit Go.Shelf

theorem below_chg {T : TypeId} {B N H : Nat} {w W W' : World} (h : Below H w W) (hc : Chg T B N W W') (hH : H ≤ B) (hw : H ≤ w.heap.size) : Below H w W' :=
  ⟨hc.1.trans h.os, hc.2.1.trans h.tape, hc.2.2.1.trans h.output, Nat.le_trans h.size hc.2.2.2.1, fun k hk => by
    have h1 := h.block k hk
    obtain ⟨o, ho⟩ : ∃ o, w.heap[k]? = some o := ⟨_, Array.getElem?_eq_getElem (Nat.lt_of_lt_of_le hk hw)⟩
    rw [ho] at h1 ⊢
    exact hc.2.2.2.2 k o h1 (.inl (by omega))⟩
theorem isBuilder_chg {T : TypeId} {B N P b : Nat} {bs : List Value} {W W' : World} (h : Lib.IsBuilderF 235 5 P b bs W) (hc : Chg T B N W W') (h1 : T ≠ 235) (h2 : T ≠ 5) : Lib.IsBuilderF 235 5 P b bs W' := by
  have key : ∀ p, Lib.BuilderAtF 235 5 P b p bs W → Lib.BuilderAtF 235 5 P b p bs W' := fun p h => by
    obtain ⟨hB, v, hb, hown, hne⟩ := h
    refine ⟨hB, v, hc.2.2.2.2 b _ hb (.inr ⟨_, _, _, rfl, .inl fun e => h1 e.symm⟩), ⟨hown.1, ?_⟩, hne⟩
    rcases hown.2 with hn | ⟨g, cap, cur, fz, hv, hbg, hg, rest⟩
    · exact .inl hn
    · exact .inr ⟨g, cap, cur, fz, hv, hbg, hc.2.2.2.2 g _ hg (.inr ⟨_, _, _, rfl, .inl fun e => h2 e.symm⟩), rest⟩
  exact h.elim (fun x => .inl (key _ x)) (fun x => .inr (key _ x))
theorem rnd_of_kept {b : Nat} {W W' : World} (h : Lib.OthersKept 5 (some b) W W') (hB : Below b W W') : Rnd b W W' :=
  ⟨hB.size, fun k c t fz hk hb ht => h k _ hk (fun e => hb (Option.some.inj e)) (fun c' fz' e => by cases e; exact ht rfl), hB.block⟩
theorem keeps_of_kept {b B : Nat} {W W' : World} (h : Lib.OthersKept 5 (some b) W W') (hs : W.heap.size ≤ W'.heap.size) (hb : ∃ c t fz, W.heap[b]? = some (.cells c t fz)) : KeepsFrom B W W' :=
  ⟨hs, fun k o _ hk ho => h k o hk (fun e => by
    cases e
    obtain ⟨c, t, fz, hb⟩ := hb
    rw [hb] at hk
    cases hk
    cases ho) (fun c fz e => by subst e; cases ho)⟩
theorem builder_cells {P b : Nat} {bs : List Value} {W : World} (h : Lib.IsBuilderF 235 5 P b bs W) : ∃ c t fz, W.heap[b]? = some (.cells c t fz) := by
  rcases h with ⟨_, v, hb, _⟩ | ⟨_, v, hb, _⟩
  · exact ⟨_, _, _, hb⟩
  · exact ⟨_, _, _, hb⟩
theorem below_put {H l : Nat} {w W : World} (h : Below H w W) (o : Obj) (hl : H ≤ l) : Below H w (W.putObj l o) :=
  h.trans ⟨rfl, rfl, rfl, by simp, fun k hk => World.putObj_heap_other (by omega)⟩
end Go.Proofs.YtpmccbkhkaoccaaGreatDoor

/- The texts that the program writes: plain. -/
namespace Go.Proofs.YtpmccbkhkaoccaaGreatDoor
open Go.RowKit

/-- The digit of a size at a power of ten: digits from the power x on downwards. -/
def dAt (ds : ByteArray) (x p : Int) : UInt8 := if h : 0 ≤ x - p ∧ x - p < (ds.size : Int) then ds[(x - p).toNat]'(by omega) else 48
/-- Digits from a power on downwards, a point ahead of that of one power. -/
def putL (f : Int → UInt8) (top mark : Int) (n : Nat) : List UInt8 := (List.range n).flatMap fun (i : Nat) => if top - (i : Int) = mark then [46, f (top - i)] else [f (top - i)]
theorem putL_succ (f : Int → UInt8) (top mark : Int) (n : Nat) : putL f top mark (n + 1) = putL f top mark n ++ (if top - (n : Int) = mark then [46, f (top - n)] else [f (top - n)]) := by
  unfold putL
  rw [List.range_succ, List.flatMap_append]
  simp
theorem putL_split (f : Int → UInt8) (top : Int) (m n : Nat) : putL f top (top - m) n = (List.range (min n m)).map (fun i => f (top - (i : Nat)))
    ++ (if m < n then 46 :: (List.range (n - m)).map (fun i => f (top - m - (i : Nat))) else []) := by
  induction n with
  | zero => simp [putL]
  | succ n ih =>
    rw [putL_succ, ih]
    by_cases h1 : n < m
    · rw [if_neg (show ¬ m < n by omega), if_neg (show ¬ m < n + 1 by omega), if_neg (show ¬ top - (n : Int) = top - (m : Int) by omega), Nat.min_eq_left (by omega), Nat.min_eq_left (by omega), List.range_succ, List.map_append]
      simp
    · by_cases h2 : n = m
      · subst h2
        rw [if_neg (Nat.lt_irrefl _), if_pos (Nat.lt_succ_self n), if_pos rfl, Nat.min_self, Nat.min_eq_right (show n ≤ n + 1 by omega)]
        simp
      · rw [if_pos (show m < n by omega), if_pos (show m < n + 1 by omega), if_neg (show ¬ top - (n : Int) = top - (m : Int) by omega), Nat.min_eq_right (show m ≤ n by omega), Nat.min_eq_right (show m ≤ n + 1 by omega), show n + 1 - m = (n - m) + 1 by omega, List.range_succ, List.map_append]
        simp
        congr 1
        omega
theorem get_data (s : ByteArray) (i : Nat) (h : i < s.size) : s.data.toList[i]? = some s[i] := by
  rw [List.getElem?_eq_getElem (by rw [data_len]; exact h)]
  rfl
theorem data_get (s : ByteArray) (i : Nat) : s.data.toList[i]? = if h : i < s.size then some s[i] else none := by
  split
  · exact get_data s i (by assumption)
  · rw [List.getElem?_eq_none (by rw [data_len]; omega)]
theorem zeros_get (n i : Nat) : (zerosB n).data.toList[i]? = if i < n then some 48 else none := by
  show (List.replicate n (48 : UInt8))[i]? = _
  rw [List.getElem?_replicate]
theorem ext_list (s : ByteArray) (i j : Nat) : (s.extract i j).data.toList = (s.data.toList.drop i).take (j - i) := by
  rw [Lib.extract_eq]
/-- What stands in the row of digits that Fixed cuts. -/
theorem fix_get (ds : ByteArray) (x : Int) (k i : Nat) (hi : (i : Int) < fxP (x + 1) + k) : (fxE (fxD ds (x + 1)) (fxP (x + 1)) k).data.toList[i]? = some (dAt ds x (fxP (x + 1) - 1 - i)) := by
  have key : ∀ j : Nat, (fxD ds (x + 1)).data.toList[j]? = if (j : Int) < (fxP (x + 1) - (x + 1)) + ds.size then some (dAt ds x (fxP (x + 1) - 1 - j)) else none := fun j => by
    unfold fxD fxP dAt
    by_cases hp : x + 1 < 1
    · rw [if_pos hp, if_pos hp, append_list, List.getElem?_append, data_len, zerosB_size]
      split
      · rw [zeros_get, if_pos (by assumption), if_pos (by omega), dif_neg (by omega)]
      · rw [data_get]
        split
        · rw [if_pos (by omega), dif_pos (by omega)]
          congr 1
          congr 1
          omega
        · rw [if_neg (by omega)]
    · rw [if_neg hp, if_neg hp, data_get]
      split
      · rw [if_pos (by omega), dif_pos (by omega)]
        congr 1
        congr 1
        omega
      · rw [if_neg (by omega)]
  have hsz : ((fxD ds (x + 1)).size : Int) = fxP (x + 1) - (x + 1) + ds.size := by
    rw [fxD_size]
    unfold fxP
    split <;> omega
  unfold fxE
  by_cases hl : ((fxD ds (x + 1)).size : Int) < fxP (x + 1) + k
  · rw [if_pos hl, append_list, List.getElem?_append, data_len]
    split
    · rw [key, if_pos (by omega)]
    · rw [zeros_get, if_pos (by omega)]
      unfold dAt
      rw [dif_neg (by omega)]
  · rw [if_neg hl, key, if_pos (by omega)]
/-- A form without an exponent. -/
theorem plain_text (ds : ByteArray) (x : Int) (k : Nat) : putL (dAt ds x) (fxP (x + 1) - 1) (-1) ((fxP (x + 1)).toNat + k) = (fixB ds (x + 1) k).data.toList := by
  have hP : 1 ≤ fxP (x + 1) := by unfold fxP; split <;> omega
  have hm : (-1 : Int) = fxP (x + 1) - 1 - ((fxP (x + 1)).toNat : Int) := by omega
  have hsz := fxE_size (fxD ds (x + 1)) (fxP (x + 1)) k
  rw [hm, putL_split, Nat.min_eq_right (by omega)]
  have h1 : (List.range (fxP (x + 1)).toNat).map (fun i => dAt ds x (fxP (x + 1) - 1 - (i : Nat))) = ((fxE (fxD ds (x + 1)) (fxP (x + 1)) k).extract 0 (fxP (x + 1)).toNat).data.toList := by
    rw [ext_list]
    apply List.ext_getElem?
    intro i
    simp only [List.drop_zero, Nat.sub_zero, List.getElem?_take, List.getElem?_map]
    by_cases hi : i < (fxP (x + 1)).toNat
    · rw [if_pos hi, fix_get ds x k i (by omega), List.getElem?_range hi]
      rfl
    · rw [if_neg hi, List.getElem?_eq_none (by simp; omega)]
      rfl
  unfold fixB
  by_cases hk : k = 0
  · subst hk
    rw [if_neg (by omega), if_pos rfl, List.append_nil]
    exact h1
  · rw [if_pos (by omega), if_neg hk, append_list, append_list, ← h1, List.append_assoc]
    congr 1
    show _ = [46] ++ _
    rw [List.singleton_append]
    congr 1
    rw [ext_list]
    apply List.ext_getElem?
    intro i
    rw [List.getElem?_take, List.getElem?_drop]
    by_cases hi : i < k
    · rw [if_pos (by omega), fix_get ds x k _ (by omega), List.getElem?_map, List.getElem?_range (by omega)]
      simp only [Option.map_some]
      congr 1
      congr 1
      omega
    · rw [if_neg (by omega), List.getElem?_eq_none (by simp; omega)]
theorem pad_get (ds : ByteArray) (x : Int) (n i : Nat) (hi : i < n) : (padB ds n).data.toList[i]? = some (dAt ds x (x - i)) := by
  unfold padB dAt
  rw [append_list, List.getElem?_append, data_len]
  by_cases hn : n < ds.size
  · have hs : (ds.extract 0 n).size = n := by simp; omega
    rw [if_pos hn, hs, if_pos hi, ext_list, List.drop_zero, List.getElem?_take, if_pos (by omega), get_data ds i (by omega), dif_pos (by omega)]
    congr 1
    congr 1
    omega
  · rw [if_neg hn]
    split
    · rw [get_data ds i (by assumption), dif_pos (by omega)]
      congr 1
      congr 1
      omega
    · rw [zeros_get, if_pos (by omega), dif_neg (by omega)]
/-- A form with an exponent. -/
theorem power_text (ds : ByteArray) (x : Int) (n : Nat) (hn : 1 ≤ n) : (⟨(putL (dAt ds x) x (x - 1) n).toArray⟩ : ByteArray) ++ ⟨#[101]⟩ ++ intText x 10 = sciB (padB ds n) (x + 1) := by
  have hsz := padB_size ds n
  unfold sciB
  rw [show x + 1 - 1 = x by omega, hsz]
  congr 2
  apply bytes_ext
  have h1 : (List.range 1).map (fun i => dAt ds x (x - (i : Nat))) = ((padB ds n).extract 0 1).data.toList := by
    rw [ext_list]
    apply List.ext_getElem?
    intro i
    rw [List.drop_zero, List.getElem?_take]
    by_cases hi : i < 1
    · rw [if_pos (by omega), pad_get ds x n i (by omega), List.getElem?_map, List.getElem?_range hi]
      rfl
    · rw [if_neg (by omega), List.getElem?_eq_none (by simp; omega)]
  show putL (dAt ds x) x (x - ((1 : Nat) : Int)) n = _
  rw [putL_split, Nat.min_eq_right hn, h1]
  by_cases h2 : 1 < n
  · rw [if_pos h2, if_pos h2, append_list, append_list]
    congr 1
    show _ = [46] ++ _
    rw [List.singleton_append]
    congr 1
    rw [ext_list]
    apply List.ext_getElem?
    intro i
    rw [List.getElem?_take, List.getElem?_drop]
    by_cases hi : i < n - 1
    · rw [if_pos (by omega), pad_get ds x n _ (by omega), List.getElem?_map, List.getElem?_range (by omega)]
      simp only [Option.map_some]
      congr 1
      congr 1
      omega
    · rw [if_neg (by omega), List.getElem?_eq_none (by simp; omega)]
  · rw [if_neg h2, if_neg h2, List.append_nil]
/-- All digits of a number without an exponent: so many places as there are digits behind the point. -/
theorem plainB_fix (ds : ByteArray) (pow : Int) (h0 : 0 < ds.size) : plainB ds pow = fixB ds pow ((ds.size : Int) - pow).toNat := by
  apply bytes_ext
  unfold plainB fixB
  have hz : ∀ n, (zerosB n).data.toList = List.replicate n 48 := fun _ => rfl
  by_cases hp : pow ≤ 0
  · have e1 : fxD ds pow = zerosB (1 - pow).toNat ++ ds := by unfold fxD; rw [if_pos (by omega)]
    have e2 : fxP pow = 1 := by unfold fxP; rw [if_pos (by omega)]
    have e3 : fxE (zerosB (1 - pow).toNat ++ ds) 1 ((ds.size : Int) - pow).toNat = zerosB (1 - pow).toNat ++ ds := by unfold fxE; rw [if_neg (by rw [append_size, zerosB_size]; omega)]
    rw [if_pos hp, if_neg (by omega), e1, e2, e3]
    have e4 : (1 - pow).toNat = (-pow).toNat + 1 := by omega
    rw [append_list, append_list, append_list, append_list, ext_list, ext_list, append_list, hz, hz, e4, List.replicate_succ]
    simp
    rw [List.take_of_length_le]
    simp
    omega
  · rw [if_neg hp]
    have e1 : fxD ds pow = ds := by unfold fxD; rw [if_neg (by omega)]
    have e2 : fxP pow = pow := by unfold fxP; rw [if_neg (by omega)]
    rw [e1, e2]
    by_cases h2 : (ds.size : Int) ≤ pow
    · rw [if_pos h2, if_pos (by omega), ext_list]
      unfold fxE
      by_cases h3 : (ds.size : Int) < pow
      · rw [if_pos (by omega), append_list, append_list, hz, hz]
        rw [List.drop_zero, List.take_of_length_le (by simp; omega)]
        congr 2
        omega
      · rw [if_neg (by omega), append_list, hz, show pow.toNat - ds.size = 0 by omega]
        simp
        rw [List.take_of_length_le (by simp; omega)]
    · rw [if_neg h2, if_neg (by omega)]
      have e3 : fxE ds pow ((ds.size : Int) - pow).toNat = ds := by unfold fxE; rw [if_neg (by omega)]
      rw [e3, show pow.toNat + ((ds.size : Int) - pow).toNat = ds.size by omega]
      rfl
end Go.Proofs.YtpmccbkhkaoccaaGreatDoor

/- digitAt of the program. -/
namespace Go.Proofs.YtpmccbkhkaoccaaGreatDoor
open Go.ChangeShapes Go.WideShapes Go.RowKit

set_option maxHeartbeats 1000000 in
set_option maxRecDepth 100000 in
theorem digitAt_any (ds : ByteArray) (x p : Int) (hs : ds.size ≤ 100000) (hx : -100000 ≤ x) (hx' : x ≤ 100000) (hp : -100000 ≤ p) (hp' : p ≤ 100000) (w : World) :
    Calls Tryz.prog 166 #[.agg #[.string ds, .int .i64 x], .int .i64 p] w fun e w' => e = .returned (.int .u8 ((dAt ds x p).toNat : Int)) ∧ w' = w.alloc (.cells #[.string ds, .int .i64 x] 51) := by
  have hs' : (ds.size : Int) ≤ 100000 := by omega
  by_cases h1 : x - p < 0
  · have e : dAt ds x p = 48 := by unfold dAt; rw [dif_neg (by omega)]
    rw [e]
    have h1' : decide (x - p < 0) = true := decide_eq_true h1
    go_enter Tryz.func166, Tryz.ntmps166
    go_wp2
    go_ret
    exact ⟨rfl, rfl⟩
  · have h1' : decide (x - p < 0) = false := decide_eq_false h1
    obtain ⟨k, hk⟩ := Int.eq_ofNat_of_zero_le (show 0 ≤ x - p by omega)
    by_cases h2 : k < ds.size
    · have e : dAt ds x p = ds[k] := by
        unfold dAt
        rw [dif_pos (by omega)]
        congr 1
        omega
      rw [e]
      have h2' : decide ((ds.size : Int) ≤ (k : Int)) = false := decide_eq_false (by omega)
      go_enter Tryz.func166, Tryz.ntmps166
      go_wp2
      go_ret
      exact ⟨rfl, rfl⟩
    · have e : dAt ds x p = 48 := by unfold dAt; rw [dif_neg (by omega)]
      rw [e]
      have h2' : decide ((ds.size : Int) ≤ (k : Int)) = true := decide_eq_true (by omega)
      go_enter Tryz.func166, Tryz.ntmps166
      go_wp2
      go_ret
      exact ⟨rfl, rfl⟩
end Go.Proofs.YtpmccbkhkaoccaaGreatDoor

/- The iterator over a size's digits. -/
namespace Go.Proofs.YtpmccbkhkaoccaaGreatDoor
open Go.ChangeShapes Go.WideShapes Go.RowKit Go.Shelf

attribute [local go_sem] Oper.semAt_some

set_option maxHeartbeats 1000000 in
set_option maxRecDepth 100000 in
theorem span_any (ds : ByteArray) (x fr lo : Int) (w : World) :
    Calls Tryz.prog 168 #[.agg #[.string ds, .int .i64 x], .int .i64 fr, .int .i64 lo] w fun e w' =>
      e = .returned (.func (.func 171) #[] #[.pointer (some ⟨w.heap.size + 1, 0, none⟩), .pointer (some ⟨w.heap.size + 2, 0, none⟩), .pointer (some ⟨w.heap.size, 0, none⟩)])
      ∧ w' = ((w.alloc (.cells #[.string ds, .int .i64 x] 51)).alloc (.cells #[.int .i64 fr] 3)).alloc (.cells #[.int .i64 lo] 3) := by
  go_enter Tryz.func168, Tryz.ntmps168
  go_wp2
  go_ret
  exact ⟨rfl, rfl⟩
/-- What a round of the span is handed. -/
def spnE (ds : ByteArray) (x fr : Int) (i : Nat) : Array Value := #[.int .i64 (fr - (i : Int)), .int .u8 ((dAt ds x (fr - (i : Int))).toNat : Int)]
/-- The boxes that the iterator has captured. -/
def SpnB (ds : ByteArray) (x fr lo : Int) (D : Nat) (W : World) : Prop := W.heap[D]? = some (.cells #[.string ds, .int .i64 x] 51 (0, 0)) ∧ W.heap[D + 1]? = some (.cells #[.int .i64 fr] 3 (0, 0)) ∧ W.heap[D + 2]? = some (.cells #[.int .i64 lo] 3 (0, 0))
theorem SpnB.rnd {ds : ByteArray} {x fr lo : Int} {D b : Nat} {W W' : World} (h : SpnB ds x fr lo D W) (hr : Rnd b W W') (hb : b < D) : SpnB ds x fr lo D W' :=
  ⟨hr.2.1 _ _ _ _ h.1 (by omega) (by decide), hr.2.1 _ _ _ _ h.2.1 (by omega) (by decide), hr.2.1 _ _ _ _ h.2.2 (by omega) (by decide)⟩
theorem SpnB.below {ds : ByteArray} {x fr lo : Int} {D : Nat} {W W' : World} (h : SpnB ds x fr lo D W) (hr : Below W.heap.size W W') : SpnB ds x fr lo D W' := by
  have k : ∀ i o, W.heap[i]? = some o → W'.heap[i]? = some o := fun i o hi => by rw [hr.block i (Array.getElem?_eq_some_iff.1 hi).1]; exact hi
  exact ⟨k _ _ h.1, k _ _ h.2.1, k _ _ h.2.2⟩
def spnLeft (fr : Int) (n : Nat) (v : Value) : Nat := (n : Int).toNat - (fr - intOf v).toNat
set_option maxHeartbeats 2000000 in
set_option maxRecDepth 100000 in
theorem spn_gives (T : TypeId) (b D : Nat) (ds : ByteArray) (x fr lo : Int) (n : Nat) (hn : (n : Int) = max (fr - lo + 1) 0) (hs : ds.size ≤ 100000) (hx : -90000 ≤ x) (hx' : x ≤ 90000) (hf : -90000 ≤ fr) (hf' : fr ≤ 90000) (ht : -90000 ≤ lo) (ht' : lo ≤ 90000) (w : World) (hB : SpnB ds x fr lo D w) (hbD : b < D) :
    Gives T b 171 #[.pointer (some ⟨D + 1, 0, none⟩), .pointer (some ⟨D + 2, 0, none⟩), .pointer (some ⟨D, 0, none⟩)] (spnE ds x fr) n w := by
  intro l J W hW hJ hY h0
  have HJ : Hid _ := hJ
  have HY : Hid _ := hY
  have HS : Hid (SpnB ds x fr lo D W) := by
    have k : ∀ i o, w.heap[i]? = some o → W.heap[i]? = some o := fun i o hi => by rw [hW.block i (Array.getElem?_eq_some_iff.1 hi).1]; exact hi
    exact ⟨k _ _ hB.1, k _ _ hB.2.1, k _ _ hB.2.2⟩
  have HD : Hid _ := fun p (h1 : -100000 ≤ p) (h2 : p ≤ 100000) (w : World) => digitAt_any ds x p hs (by omega) (by omega) h1 h2 w
  clear hJ hY hB hW
  have hc1 : W.cell? ⟨D + 1, 0, none⟩ = some (.int .i64 fr) := by simp [World.cell?, HS.out.2.1]
  refine callsIn_of_wp Tryz.func171 rfl trivial ?_ rfl
  simp only [Tryz.ntmps171, List.size_toArray, List.length_cons, List.length_nil, Nat.reduceAdd, Nat.reduceSub, Array.replicate_succ, Array.replicate_zero, List.push_toArray, List.append_toArray, List.nil_append, List.cons_append]
  gi_wp2
  gi_loopw [5] (fun p wr => ∃ i : Nat, p = .int .i64 (fr - (i : Int)) ∧ i ≤ n ∧ Hid (J i wr) ∧ Hid (SpnB ds x fr lo D wr)) (fun p _ => spnLeft fr n p)
  case atStart => exact ⟨0, by simp, by omega, h0, HS.out⟩
  case round =>
    clear hc1 HS
    obtain ⟨i, rfl, hi, HJi, HS⟩ := hrel
    have hc2 : wr.cell? ⟨D + 2, 0, none⟩ = some (.int .i64 lo) := by simp [World.cell?, HS.out.2.2]
    have hd0 : wr.cell? ⟨D, 0, none⟩ = some (.string ds) := by simp [World.cell?, HS.out.1]
    have hd1 : wr.cell? ⟨D, 1, none⟩ = some (.int .i64 x) := by simp [World.cell?, HS.out.1]
    by_cases hlt : i < n
    · have hle : lo ≤ fr - (i : Int) := by omega
      gi_wp2
      refine ⟨trivial, rfl, (callsIn_wide.2 (HD.out (fr - (i : Int)) (by omega) (by omega) wr)).mono ?_⟩
      rintro e w2 ⟨rfl, rfl⟩
      obtain ⟨w2, hw2⟩ : ∃ w2, wr.alloc (.cells #[.string ds, .int .i64 x] 51) = w2 := ⟨_, rfl⟩
      have hb2 : Below wr.heap.size wr w2 := by rw [← hw2]; exact (Below.refl _ _).alloc (Nat.le_refl _) _
      have HJ2 : Hid (J i w2) := HJ.out i wr w2 HJi.out (Own1.below hb2)
      have HS2 : Hid (SpnB ds x fr lo D w2) := HS.out.below hb2
      rw [hw2]
      clear hw2 hb2 hc2 hd0 hd1
      obtain ⟨fn, tmps, assign, body, hy, hR⟩ := HY.out i hlt w2 HJ2.out
      unfold spnE at hy
      gi_wp2
      refine ⟨rfl, hR.mono ?_⟩
      rintro e W3 ⟨rfl, hJ3, hr3⟩
      have HJ3 : Hid (J (i + 1) W3) := hJ3
      have HS3 : Hid (SpnB ds x fr lo D W3) := HS2.out.rnd hr3 hbD
      clear hJ3 hr3 hy hR
      gi_wp2
      go_roundw
      case rel => exact ⟨i + 1, by congr 1; omega, by omega, HJ3.out, HS3.out⟩
      case measure =>
        show (n : Int).toNat - (fr - (fr - (i : Int) - 1)).toNat < (n : Int).toNat - (fr - (fr - (i : Int))).toNat
        omega
    · have hle : decide (lo ≤ fr - (i : Int)) = false := decide_eq_false (by omega)
      gi_wp2
      go_end0
      obtain rfl : i = n := by omega
      exact ⟨⟨_, rfl⟩, HJi.out⟩
end Go.Proofs.YtpmccbkhkaoccaaGreatDoor

