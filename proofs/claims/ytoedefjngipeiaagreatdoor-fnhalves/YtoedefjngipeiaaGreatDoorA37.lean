import Derived.Test.YtoedefjngipeiaaGreatDoorA08
import Derived.WalkKit
import Derived.Test.YtoedefjngipeiaaGreatDoorA16
import Derived.Test.YtoedefjngipeiaaGreatDoorRows
import Derived.Laws.MathBits
/- Reading, as plain relations: no program is spoken of here. -/
namespace Go.Proofs.YtoedefjngipeiaaGreatDoor
open Go.ChangeShapes Go.WideShapes Go.RowKit

theorem take_all (s : ByteArray) (k : Nat) (h : s.size ≤ k) : s.data.toList.take k = s.data.toList := List.take_of_length_le (by simpa using h)
theorem empty_iff (s : ByteArray) : s.data.toList = [] ↔ s.size = 0 := by
  rw [← List.length_eq_zero_iff]; simp
theorem isEmpty_yes (s : ByteArray) (h : s.size = 0) : s.toList.isEmpty = true := by
  rw [ByteArray.toList_eq, List.isEmpty_iff]; exact (empty_iff s).2 h
theorem isEmpty_no (s : ByteArray) (h : ¬ s.size = 0) : s.toList.isEmpty = false := by
  rw [ByteArray.toList_eq]
  cases hc : s.data.toList.isEmpty
  · rfl
  · exact absurd ((empty_iff s).1 (List.isEmpty_iff.1 hc)) h

/-- A text's sign and what stands behind it. -/
def Cut (s : ByteArray) (neg : Bool) (r : ByteArray) : Prop :=
  (s.size = 0 ∧ neg = false ∧ r = s) ∨ (∃ _ : 0 < s.size, s[0].toNat = 45 ∧ neg = true ∧ r = s.extract 1 s.size)
  ∨ (∃ _ : 0 < s.size, s[0].toNat = 43 ∧ neg = false ∧ r = s.extract 1 s.size) ∨ (∃ _ : 0 < s.size, s[0].toNat ≠ 45 ∧ s[0].toNat ≠ 43 ∧ neg = false ∧ r = s)
def lim (neg : Bool) : Int := if neg then 9223372036854775808 else 9223372036854775807
/-- What reading answers. -/
def ReadV (b : Int) (neg : Bool) (l : List UInt8) (c n : Int) : Prop :=
  ((l = [] ∨ ¬ good b l) ∧ c = 2 ∧ n = 0) ∨ (l ≠ [] ∧ good b l ∧ lim neg < val b l ∧ c = 3 ∧ n = 0)
  ∨ (l ≠ [] ∧ good b l ∧ val b l ≤ lim neg ∧ c = 0 ∧ n = if neg then - val b l else val b l)
theorem readV_one (b : Int) (neg : Bool) (l : List UInt8) (c n c' n' : Int) (h : ReadV b neg l c n) (h' : ReadV b neg l c' n') : c = c' ∧ n = n' := by
  rcases h with ⟨a, rfl, rfl⟩ | ⟨a, a', a'', rfl, rfl⟩ | ⟨a, a', a'', rfl, rfl⟩ <;> rcases h' with ⟨d, rfl, rfl⟩ | ⟨d, d', d'', rfl, rfl⟩ | ⟨d, d', d'', rfl, rfl⟩
  · exact ⟨rfl, rfl⟩
  · exact (a.elim d (fun h => h d')).elim
  · exact (a.elim d (fun h => h d')).elim
  · exact (d.elim a (fun h => h a')).elim
  · exact ⟨rfl, rfl⟩
  · exact absurd a'' (by omega)
  · exact (d.elim a (fun h => h a')).elim
  · exact absurd d'' (by omega)
  · exact ⟨rfl, rfl⟩

theorem lim_true : lim true = 9223372036854775808 := rfl
theorem lim_false : lim false = 9223372036854775807 := rfl
theorem readV_bad (b : Int) (neg : Bool) (l : List UInt8) (h : l = [] ∨ ¬ good b l) : ReadV b neg l 2 0 := .inl ⟨h, rfl, rfl⟩
theorem readV_over (b : Int) (neg : Bool) (l : List UInt8) (h : l ≠ []) (hg : good b l) (hv : lim neg < val b l) : ReadV b neg l 3 0 := .inr (.inl ⟨h, hg, hv, rfl, rfl⟩)
theorem readV_plus (b : Int) (l : List UInt8) (h : l ≠ []) (hg : good b l) (hv : val b l ≤ 9223372036854775807) : ReadV b false l 0 (val b l) := .inr (.inr ⟨h, hg, hv, rfl, rfl⟩)
theorem readV_minus (b n : Int) (l : List UInt8) (h : l ≠ []) (hg : good b l) (hv : val b l ≤ 9223372036854775808) (hn : n = - val b l) : ReadV b true l 0 n := .inr (.inr ⟨h, hg, hv, rfl, hn⟩)
theorem wrap_least (V : Int) (h : 9223372036854775808 ≤ V) (h' : V ≤ 9223372036854775808) : wrap64 (-(wrap64 V)) = -V := by
  unfold wrap64; omega
theorem extract_size (s : ByteArray) (h : s.size ≤ 1200) : (s.extract 1 s.size).size ≤ 1200 := by
  rw [ByteArray.size_extract]; omega

theorem cut_exists (s : ByteArray) : ∃ neg r, Cut s neg r := by
  by_cases hz : s.size = 0
  · exact ⟨false, s, .inl ⟨hz, rfl, rfl⟩⟩
  · have hp : 0 < s.size := by omega
    by_cases h45 : s[0].toNat = 45
    · exact ⟨true, _, .inr (.inl ⟨hp, h45, rfl, rfl⟩)⟩
    · by_cases h43 : s[0].toNat = 43
      · exact ⟨false, _, .inr (.inr (.inl ⟨hp, h43, rfl, rfl⟩))⟩
      · exact ⟨false, s, .inr (.inr (.inr ⟨hp, h45, h43, rfl, rfl⟩))⟩
theorem cut_size (s : ByteArray) (neg : Bool) (r : ByteArray) (hs : s.size ≤ 1200) (hc : Cut s neg r) : r.size ≤ 1200 := by
  rcases hc with ⟨_, _, rfl⟩ | ⟨_, _, _, rfl⟩ | ⟨_, _, _, rfl⟩ | ⟨_, _, _, _, rfl⟩
  · exact hs
  · exact extract_size s hs
  · exact extract_size s hs
  · exact hs

end Go.Proofs.YtoedefjngipeiaaGreatDoor

/- cutSign of the program. -/
namespace Go.Proofs.YtoedefjngipeiaaGreatDoor
open Go.ChangeShapes Go.WideShapes Go.RowKit

set_option maxHeartbeats 400000 in
theorem cutSign_any (s : ByteArray) (w : World) (hs : s.size ≤ 10000) (neg : Bool) (r : ByteArray) (hc : Cut s neg r) :
    Calls Tryz.prog 97 #[.string s] w fun e w' => e = .returned (.tuple #[.bool neg, .string r]) ∧ ∃ n, w' = w.drewN n := by
  rcases hc with ⟨hz, rfl, rfl⟩ | ⟨hz, h45, rfl, rfl⟩ | ⟨hz, h43, rfl, rfl⟩ | ⟨hz, h45, h43, rfl, rfl⟩
  · have he := isEmpty_yes r hz
    clear hz
    go_enter Tryz.func97, Tryz.ntmps97
    go_wp2
    go_ret2
    exact ⟨rfl, 0, rfl⟩
  · have he := isEmpty_no s (by omega)
    have e1 : ((s[0].toNat : Int) != 45) = false := by simp [h45]
    have e3 : ((s[0].toNat : Int) == 45) = true := by simp [h45]
    clear h45
    go_enter Tryz.func97, Tryz.ntmps97
    go_wp2
    go_quiet (fail)
    go_wp2
    go_ret2
    exact ⟨rfl, _, rfl⟩
  · have he := isEmpty_no s (by omega)
    have e1 : ((s[0].toNat : Int) != 45) = true := by simp [h43]
    have e2 : ((s[0].toNat : Int) != 43) = false := by simp [h43]
    have e3 : ((s[0].toNat : Int) == 45) = false := by simp [h43]
    clear h43
    go_enter Tryz.func97, Tryz.ntmps97
    go_wp2
    go_quiet (fail)
    go_wp2
    go_ret2
    exact ⟨rfl, _, rfl⟩
  · have he := isEmpty_no r (by omega)
    have e1 : ((r[0].toNat : Int) != 45) = true := bne_iff_ne.2 (by omega)
    have e2 : ((r[0].toNat : Int) != 43) = true := bne_iff_ne.2 (by omega)
    clear h45 h43
    go_enter Tryz.func97, Tryz.ntmps97
    go_wp2
    go_ret2
    exact ⟨rfl, 0, rfl⟩
end Go.Proofs.YtoedefjngipeiaaGreatDoor

/- Numbers in words of 32 bits: plain. -/
namespace Go.Proofs.YtoedefjngipeiaaGreatDoor

/-- The base, kept shut. -/
def be : Nat := 4294967296
theorem be_eq : be = 4294967296 := rfl
theorem be_pos : 0 < be := by unfold be; omega
/-- The i-th word of a number. -/
def dg (N i : Nat) : Nat := N / be ^ i % be
theorem dg_lt (N i : Nat) : dg N i < 4294967296 := Nat.mod_lt _ be_pos
theorem dg_big (N i : Nat) (h : N < be ^ i) : dg N i = 0 := by unfold dg; rw [Nat.div_eq_of_lt h, Nat.zero_mod]
theorem bpow_pos (i : Nat) : 0 < be ^ i := Nat.pow_pos be_pos
theorem bpow_le {i j : Nat} (h : i ≤ j) : be ^ i ≤ be ^ j := Nat.pow_le_pow_right be_pos h
theorem dg_above (N i c : Nat) (h : N < be ^ c) (hi : c ≤ i) : dg N i = 0 := dg_big N i (Nat.lt_of_lt_of_le h (bpow_le hi))
theorem be_two (i : Nat) : be ^ i = 2 ^ (32 * i) := by rw [Nat.pow_mul]; rfl
/-- How many words. -/
def cntOk (c N : Nat) : Prop := N < be ^ c ∧ (0 < c → be ^ (c - 1) ≤ N)
theorem cnt_zero : cntOk 0 0 := ⟨by simp, fun h => by omega⟩
theorem cnt_le {c N n : Nat} (h : cntOk c N) (hN : N < be ^ n) : c ≤ n := by
  rcases Nat.lt_or_ge n c with hlt | hge
  · have a := h.2 (by omega)
    have b := bpow_le (show n ≤ c - 1 by omega)
    omega
  · exact hge
theorem cnt_pos {c N : Nat} (h : cntOk c N) : 0 < c ↔ 0 < N := by
  constructor
  · intro hc; exact Nat.lt_of_lt_of_le (bpow_pos _) (h.2 hc)
  · intro hN
    rcases Nat.eq_zero_or_pos c with rfl | hc
    · have := h.1; rw [Nat.pow_zero] at this; omega
    · exact hc
theorem cnt_top {c N : Nat} (h : cntOk c N) (hc : 0 < c) : 0 < dg N (c - 1) := by
  obtain ⟨h1, h2⟩ := h
  have h3 := h2 hc
  unfold dg
  have h4 : N / be ^ (c - 1) < be := by
    rw [Nat.div_lt_iff_lt_mul (bpow_pos _), Nat.mul_comm, ← Nat.pow_succ, show (c - 1).succ = c by omega]; exact h1
  rw [Nat.mod_eq_of_lt h4]
  exact Nat.div_pos h3 (bpow_pos _)
/-- The words of a number below be^n make it out. -/
theorem dg_split (N i : Nat) : N % be ^ (i + 1) = N % be ^ i + be ^ i * dg N i := by
  unfold dg; rw [Nat.pow_succ, Nat.mod_mul]
theorem dg_ext (N M n : Nat) (hN : N < be ^ n) (hM : M < be ^ n) (h : ∀ i, i < n → dg N i = dg M i) : N = M := by
  have : ∀ k, k ≤ n → N % be ^ k = M % be ^ k := by
    intro k
    induction k with
    | zero => intro _; simp [Nat.mod_one]
    | succ k ih => intro hk; rw [dg_split, dg_split, ih (by omega), h k (by omega)]
  have h1 := this n (Nat.le_refl _)
  rwa [Nat.mod_eq_of_lt hN, Nat.mod_eq_of_lt hM] at h1
/-- Multiplication by a small factor, word by word. -/
def car (N F a i : Nat) : Nat := (N % be ^ i * F + a) / be ^ i
theorem car_zero (N F a : Nat) : car N F a 0 = a := by simp [car, Nat.mod_one]
theorem car_sum (N F a i : Nat) : car N F a i + dg N i * F = (N % be ^ (i + 1) * F + a) / be ^ i := by
  unfold car
  rw [dg_split, Nat.add_mul, show be ^ i * dg N i * F = be ^ i * (dg N i * F) by rw [Nat.mul_assoc], show N % be ^ i * F + be ^ i * (dg N i * F) + a = be ^ i * (dg N i * F) + (N % be ^ i * F + a) by omega, Nat.mul_add_div (bpow_pos i), Nat.add_comm]
theorem car_word (N F a i : Nat) : (car N F a i + dg N i * F) % be = dg (N * F + a) i := by
  rw [car_sum]
  unfold dg
  have e : N * F + a = be ^ i * (be * (N / be ^ (i + 1) * F)) + (N % be ^ (i + 1) * F + a) := by
    have h := Nat.div_add_mod N (be ^ (i + 1))
    rw [← Nat.mul_assoc, ← Nat.pow_succ, ← Nat.mul_assoc, show be ^ i.succ = be ^ (i + 1) from rfl]
    generalize N / be ^ (i + 1) = q at *
    generalize N % be ^ (i + 1) = r at *
    rw [← h, Nat.add_mul]; omega
  rw [e, Nat.mul_add_div (bpow_pos i), Nat.mul_add_mod]
theorem car_next (N F a i : Nat) : (car N F a i + dg N i * F) / be = car N F a (i + 1) := by
  rw [car_sum, Nat.div_div_eq_div_mul, ← Nat.pow_succ]; rfl
theorem car_le (N F a i : Nat) : car N F a i ≤ F + a := by
  unfold car
  have h := Nat.mod_lt N (bpow_pos i)
  have h1 : N % be ^ i * F ≤ be ^ i * F := Nat.mul_le_mul_right _ (Nat.le_of_lt h)
  have h2 : a ≤ be ^ i * a := Nat.le_mul_of_pos_left a (bpow_pos i)
  have h3 : N % be ^ i * F + a ≤ be ^ i * (F + a) := by rw [Nat.mul_add]; omega
  rw [Nat.div_le_iff_le_mul_add_pred (bpow_pos i)]
  omega
theorem car_end (N F a c : Nat) (h : N < be ^ c) : car N F a c = (N * F + a) / be ^ c := by unfold car; rw [Nat.mod_eq_of_lt h]
/-- A shift by whole words. -/
theorem dg_words (N s i : Nat) : dg (N * be ^ s) i = if i < s then 0 else dg N (i - s) := by
  unfold dg
  by_cases h : i < s
  · rw [if_pos h]
    obtain ⟨k, rfl⟩ : ∃ k, s = i + 1 + k := ⟨s - i - 1, by omega⟩
    rw [Nat.pow_add, Nat.pow_succ, show N * (be ^ i * be * be ^ k) = N * be ^ k * be * be ^ i by rw [Nat.mul_assoc (be ^ i), Nat.mul_comm (be ^ i), Nat.mul_comm be, ← Nat.mul_assoc, ← Nat.mul_assoc], Nat.mul_div_cancel _ (bpow_pos i), Nat.mul_mod_left]
  · rw [if_neg h]
    obtain ⟨k, rfl⟩ : ∃ k, i = s + k := ⟨i - s, by omega⟩
    rw [Nat.pow_add, ← Nat.div_div_eq_div_mul, Nat.mul_div_cancel _ (bpow_pos s), Nat.add_sub_cancel_left]
/-- A shift by bits within a word. -/
theorem dg_bits (N m : Nat) (hm : m < 32) (i : Nat) : dg (N * 2 ^ m) i = dg N i * 2 ^ m % be + (if i = 0 then 0 else dg N (i - 1) / 2 ^ (32 - m)) := by
  have hb : be = 2 ^ (32 - m) * 2 ^ m := by rw [← Nat.pow_add, show 32 - m + m = 32 by omega]; rfl
  have hp := Nat.two_pow_pos m
  have hp' := Nat.two_pow_pos (32 - m)
  -- the number below word i, at word i, above
  have key : ∀ X L : Nat, L < be ^ i → dg ((be ^ i * X + L) * 2 ^ m) i = (X * 2 ^ m + L * 2 ^ m / be ^ i) % be := by
    intro X L hL
    unfold dg
    rw [Nat.add_mul, Nat.mul_assoc, Nat.mul_add_div (bpow_pos i)]
  have hN := Nat.div_add_mod N (be ^ i)
  have hL := Nat.mod_lt N (bpow_pos i)
  have h1 := key (N / be ^ i) (N % be ^ i) hL
  rw [hN] at h1
  rw [h1]
  -- what comes up from below
  have hup : N % be ^ i * 2 ^ m / be ^ i = (if i = 0 then 0 else dg N (i - 1) / 2 ^ (32 - m)) := by
    by_cases h0 : i = 0
    · subst h0; simp [Nat.mod_one]
    · rw [if_neg h0]
      obtain ⟨k, rfl⟩ : ∃ k, i = k + 1 := ⟨i - 1, by omega⟩
      rw [Nat.add_sub_cancel, dg_split, Nat.pow_succ]
      have hr := Nat.mod_lt N (bpow_pos k)
      generalize N % be ^ k = r at *
      generalize dg N k = d at *
      rw [← Nat.div_div_eq_div_mul]
      have e2 : (r + be ^ k * d) * 2 ^ m / be ^ k = d * 2 ^ m + r * 2 ^ m / be ^ k := by
        rw [Nat.add_mul, Nat.mul_assoc, Nat.add_comm, Nat.mul_add_div (bpow_pos k)]
      rw [e2]
      have hr2 : r * 2 ^ m / be ^ k < 2 ^ m := by rw [Nat.div_lt_iff_lt_mul (bpow_pos k), Nat.mul_comm]; exact Nat.mul_lt_mul_of_pos_left hr hp
      generalize r * 2 ^ m / be ^ k = y at *
      rw [hb, Nat.mul_comm (2 ^ (32 - m)), ← Nat.div_div_eq_div_mul, Nat.mul_comm d, Nat.mul_add_div hp, Nat.div_eq_of_lt hr2, Nat.add_zero]
  rw [hup]
  have hlow : (if i = 0 then 0 else dg N (i - 1) / 2 ^ (32 - m)) < 2 ^ m := by
    split
    · exact hp
    · rw [Nat.div_lt_iff_lt_mul hp', Nat.mul_comm, ← hb]; exact dg_lt _ _
  generalize (if i = 0 then 0 else dg N (i - 1) / 2 ^ (32 - m)) = y at *
  unfold dg
  generalize N / be ^ i = X at *
  -- the sum does not carry
  have e3 : X % be * 2 ^ m % be = X % 2 ^ (32 - m) * 2 ^ m := by
    conv => lhs; rw [hb]
    rw [Nat.mul_mod_mul_right, Nat.mod_mul_right_mod]
  have e4 : (X * 2 ^ m + y) % be = X % 2 ^ (32 - m) * 2 ^ m + y := by
    have hx := Nat.div_add_mod X (2 ^ (32 - m))
    have hq := Nat.mod_lt X hp'
    generalize X / 2 ^ (32 - m) = q at *
    generalize X % 2 ^ (32 - m) = r at *
    rw [← hx, Nat.add_mul, show 2 ^ (32 - m) * q * 2 ^ m = be * q by rw [hb, Nat.mul_assoc, Nat.mul_comm q, ← Nat.mul_assoc], Nat.add_assoc, Nat.mul_add_mod, Nat.mod_eq_of_lt]
    have : r * 2 ^ m + 2 ^ m ≤ 2 ^ (32 - m) * 2 ^ m := by rw [← Nat.succ_mul]; exact Nat.mul_le_mul_right _ hq
    rw [hb]; omega
  rw [e3, e4]
/-- Both. -/
theorem dg_shift (N by' i : Nat) : dg (N * 2 ^ by') i = (if i < by' / 32 then 0 else dg N (i - by' / 32)) * 2 ^ (by' % 32) % be + (if i < by' / 32 + 1 then 0 else dg N (i - by' / 32 - 1)) / 2 ^ (32 - by' % 32) := by
  have e : N * 2 ^ by' = N * be ^ (by' / 32) * 2 ^ (by' % 32) := by
    rw [be_two, Nat.mul_assoc, ← Nat.pow_add, Nat.div_add_mod]
  rw [e, dg_bits _ _ (Nat.mod_lt _ (by omega)), dg_words, dg_words]
  congr 1
  by_cases h : i < by' / 32 + 1
  · rw [if_pos h, Nat.zero_div]
    by_cases h0 : i = 0
    · rw [if_pos h0]
    · rw [if_neg h0, if_pos (by omega), Nat.zero_div]
  · rw [if_neg h, if_neg (by omega), if_neg (by omega)]
    congr 2
    omega
/-- Order, from above. -/
theorem dg_cmp (N M i : Nat) (h : N / be ^ (i + 1) = M / be ^ (i + 1)) : N / be ^ i = be * (N / be ^ (i + 1)) + dg N i ∧ M / be ^ i = be * (N / be ^ (i + 1)) + dg M i := by
  have a : ∀ X : Nat, X / be ^ i = be * (X / be ^ (i + 1)) + dg X i := by
    intro X
    unfold dg
    rw [Nat.pow_succ, ← Nat.div_div_eq_div_mul, Nat.div_add_mod]
  exact ⟨a N, by rw [h]; exact a M⟩
theorem div_lt_of (N M k : Nat) (h : N / be ^ k < M / be ^ k) : N < M := by
  rcases Nat.lt_or_ge N M with h' | h'
  · exact h'
  · have := Nat.div_le_div_right (c := be ^ k) h'; omega
/-- Subtraction, word by word: in whatever base. -/
theorem sub_low (p d e r s : Nat) (hr : r < p) (hs : s < p) : r + p * d < s + p * e ↔ d < e + (if r < s then 1 else 0) := by
  have hde : d < e ∨ d = e ∨ e < d := by omega
  rcases hde with hlt | heq | hgt
  · have : p * (d + 1) ≤ p * e := Nat.mul_le_mul_left _ hlt
    rw [Nat.mul_succ] at this
    split <;> constructor <;> intro _ <;> omega
  · subst heq; split <;> constructor <;> intro _ <;> omega
  · have : p * (e + 1) ≤ p * d := Nat.mul_le_mul_left _ hgt
    rw [Nat.mul_succ] at this
    split <;> constructor <;> intro _ <;> omega
theorem sub_gen (p u v r s r' : Nat) (hr : r < p) (hs : s < p) (hr' : r' < p) (h4 : p * u + (r' + s) = p * v + r) : u + (if r < s then 1 else 0) = v := by
  by_cases c : r < s
  · rw [if_pos c]
    rcases Nat.lt_trichotomy (u + 1) v with hlt | heq | hgt
    · have : p * (u + 1 + 1) ≤ p * v := Nat.mul_le_mul_left _ hlt
      rw [Nat.mul_succ, Nat.mul_succ] at this; omega
    · exact heq
    · have : p * v ≤ p * u := Nat.mul_le_mul_left _ (by omega)
      omega
  · rw [if_neg c]
    rcases Nat.lt_trichotomy u v with hlt | heq | hgt
    · have : p * (u + 1) ≤ p * v := Nat.mul_le_mul_left _ hlt
      rw [Nat.mul_succ] at this; omega
    · omega
    · have : p * (v + 1) ≤ p * u := Nat.mul_le_mul_left _ hgt
      rw [Nat.mul_succ] at this; omega
theorem sub_word (b X Y d e c D : Nat) (hd : d < b) (he : e < b) (hc : c ≤ 1) (hle : Y ≤ X) (h : D + (b * Y + e) + c = b * X + d) :
    D % b = if d < e + c then d + b - e - c else d - e - c := by
  obtain ⟨Z, rfl⟩ : ∃ Z, X = Y + Z := ⟨X - Y, by omega⟩
  rw [Nat.mul_add] at h
  by_cases hlt : d < e + c
  · rw [if_pos hlt]
    rcases Nat.eq_zero_or_pos Z with rfl | hZ
    · rw [Nat.mul_zero] at h; omega
    · have e5 : D = b * (Z - 1) + (d + b - e - c) := by
        have : b * Z = b * (Z - 1) + b := by rw [← Nat.mul_succ]; congr 1; omega
        omega
      rw [e5, Nat.mul_add_mod, Nat.mod_eq_of_lt (by omega)]
  · rw [if_neg hlt]
    have e5 : D = b * Z + (d - e - c) := by omega
    rw [e5, Nat.mul_add_mod, Nat.mod_eq_of_lt (by omega)]
def bor (N M i : Nat) : Nat := if N % be ^ i < M % be ^ i then 1 else 0
theorem bor_zero (N M : Nat) : bor N M 0 = 0 := by unfold bor; simp [Nat.mod_one]
theorem bor_le (N M i : Nat) : bor N M i ≤ 1 := by unfold bor; split <;> omega
theorem bor_step (N M i : Nat) : bor N M (i + 1) = (if dg N i < dg M i + bor N M i then 1 else 0) := by
  have h := sub_low (be ^ i) (dg N i) (dg M i) (N % be ^ i) (M % be ^ i) (Nat.mod_lt N (bpow_pos i)) (Nat.mod_lt M (bpow_pos i))
  rw [← dg_split, ← dg_split] at h
  change _ ↔ dg N i < dg M i + bor N M i at h
  show (if N % be ^ (i + 1) < M % be ^ (i + 1) then 1 else 0) = _
  by_cases c : dg N i < dg M i + bor N M i
  · rw [if_pos c, if_pos (h.2 c)]
  · rw [if_neg c, if_neg (fun x => c (h.1 x))]
theorem dg_parts (X i : Nat) : X = be ^ i * (be * (X / be ^ (i + 1)) + dg X i) + X % be ^ i := by
  have a : X / be ^ i = be * (X / be ^ (i + 1)) + dg X i := by
    unfold dg
    rw [Nat.pow_succ, ← Nat.div_div_eq_div_mul, Nat.div_add_mod]
  rw [← a, Nat.div_add_mod]
theorem bor_word (N M i : Nat) (h : M ≤ N) : dg (N - M) i = (if dg N i < dg M i + bor N M i then dg N i + be - dg M i - bor N M i else dg N i - dg M i - bor N M i) := by
  refine sub_word be (N / be ^ (i + 1)) (M / be ^ (i + 1)) (dg N i) (dg M i) (bor N M i) ((N - M) / be ^ i) (Nat.mod_lt _ be_pos) (Nat.mod_lt _ be_pos) (bor_le N M i) (Nat.div_le_div_right h) ?_
  refine sub_gen (be ^ i) _ _ (N % be ^ i) (M % be ^ i) ((N - M) % be ^ i) (Nat.mod_lt _ (bpow_pos i)) (Nat.mod_lt _ (bpow_pos i)) (Nat.mod_lt _ (bpow_pos i)) ?_
  have eN := dg_parts N i
  have eM := dg_parts M i
  have eD := Nat.div_add_mod (N - M) (be ^ i)
  rw [Nat.mul_add]
  generalize be ^ i * ((N - M) / be ^ i) = a at *
  generalize (N - M) % be ^ i = b at *
  generalize be ^ i * (be * (N / be ^ (i + 1)) + dg N i) = c at *
  generalize be ^ i * (be * (M / be ^ (i + 1)) + dg M i) = d at *
  generalize N % be ^ i = r at *
  generalize M % be ^ i = s at *
  omega
/-- The length in bits. -/
theorem len_words {c N : Nat} (h : cntOk c N) (hc : 0 < c) : (c - 1) * 32 + bitLen (dg N (c - 1)) = bitLen N := by
  have hp := (cnt_pos h).1 hc
  have ht := cnt_top h hc
  have h1 : N / 2 ^ (32 * (c - 1)) = dg N (c - 1) := by
    unfold dg
    rw [← be_two, Nat.mod_eq_of_lt]
    rw [Nat.div_lt_iff_lt_mul (bpow_pos _), Nat.mul_comm, ← Nat.pow_succ, show (c - 1).succ = c by omega]; exact h.1
  have := bitLen_shift N (32 * (c - 1)) (by rw [h1]; omega)
  rw [h1] at this
  omega
end Go.Proofs.YtoedefjngipeiaaGreatDoor

