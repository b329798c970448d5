import Derived.Test.YtcbhcdaedchmlaaDoorRows
import Derived.Laws.MathBits
import Derived.Test.YtcbhcdaedchmlaaDoorA10
import Derived.Laws.Tables
import Derived.Deep.MidRow
import Derived.Deep.WholeRow
import Derived.Test.YtcbhcdaedchmlaaDoorA23
import Derived.Test.YtcbhcdaedchmlaaDoorA19
/- Numbers in words of 32 bits: plain. -/
namespace Go.Proofs.YtcbhcdaedchmlaaDoor

/-- The base, kept shut. -/
def be : Nat := 4294967296
theorem be_eq : be = 4294967296 := rfl
theorem be_pos : 0 < be := by unfold be; omega
/-- The i-th word of a number. -/
def dg (N i : Nat) : Nat := N / be ^ i % be
theorem dg_lt (N i : Nat) : dg N i < 4294967296 := Nat.mod_lt _ be_pos
theorem dg_big (N i : Nat) (h : N < be ^ i) : dg N i = 0 := by unfold dg; rw [Nat.div_eq_of_lt h, Nat.zero_mod]
theorem bpow_pos (i : Nat) : 0 < be ^ i := Nat.pow_pos be_pos
theorem bpow_le {i j : Nat} (h : i ≤ j) : be ^ i ≤ be ^ j := Nat.pow_le_pow_right be_pos h
theorem dg_above (N i c : Nat) (h : N < be ^ c) (hi : c ≤ i) : dg N i = 0 := dg_big N i (Nat.lt_of_lt_of_le h (bpow_le hi))
theorem be_two (i : Nat) : be ^ i = 2 ^ (32 * i) := by rw [Nat.pow_mul]; rfl
/-- How many words. -/
def cntOk (c N : Nat) : Prop := N < be ^ c ∧ (0 < c → be ^ (c - 1) ≤ N)
theorem cnt_zero : cntOk 0 0 := ⟨by simp, fun h => by omega⟩
theorem cnt_le {c N n : Nat} (h : cntOk c N) (hN : N < be ^ n) : c ≤ n := by
  rcases Nat.lt_or_ge n c with hlt | hge
  · have a := h.2 (by omega)
    have b := bpow_le (show n ≤ c - 1 by omega)
    omega
  · exact hge
theorem cnt_pos {c N : Nat} (h : cntOk c N) : 0 < c ↔ 0 < N := by
  constructor
  · intro hc; exact Nat.lt_of_lt_of_le (bpow_pos _) (h.2 hc)
  · intro hN
    rcases Nat.eq_zero_or_pos c with rfl | hc
    · have := h.1; rw [Nat.pow_zero] at this; omega
    · exact hc
theorem cnt_top {c N : Nat} (h : cntOk c N) (hc : 0 < c) : 0 < dg N (c - 1) := by
  obtain ⟨h1, h2⟩ := h
  have h3 := h2 hc
  unfold dg
  have h4 : N / be ^ (c - 1) < be := by
    rw [Nat.div_lt_iff_lt_mul (bpow_pos _), Nat.mul_comm, ← Nat.pow_succ, show (c - 1).succ = c by omega]; exact h1
  rw [Nat.mod_eq_of_lt h4]
  exact Nat.div_pos h3 (bpow_pos _)
/-- The words of a number below be^n make it out. -/
theorem dg_split (N i : Nat) : N % be ^ (i + 1) = N % be ^ i + be ^ i * dg N i := by
  unfold dg; rw [Nat.pow_succ, Nat.mod_mul]
theorem dg_ext (N M n : Nat) (hN : N < be ^ n) (hM : M < be ^ n) (h : ∀ i, i < n → dg N i = dg M i) : N = M := by
  have : ∀ k, k ≤ n → N % be ^ k = M % be ^ k := by
    intro k
    induction k with
    | zero => intro _; simp [Nat.mod_one]
    | succ k ih => intro hk; rw [dg_split, dg_split, ih (by omega), h k (by omega)]
  have h1 := this n (Nat.le_refl _)
  rwa [Nat.mod_eq_of_lt hN, Nat.mod_eq_of_lt hM] at h1
/-- Multiplication by a small factor, word by word. -/
def car (N F a i : Nat) : Nat := (N % be ^ i * F + a) / be ^ i
theorem car_zero (N F a : Nat) : car N F a 0 = a := by simp [car, Nat.mod_one]
theorem car_sum (N F a i : Nat) : car N F a i + dg N i * F = (N % be ^ (i + 1) * F + a) / be ^ i := by
  unfold car
  rw [dg_split, Nat.add_mul, show be ^ i * dg N i * F = be ^ i * (dg N i * F) by rw [Nat.mul_assoc], show N % be ^ i * F + be ^ i * (dg N i * F) + a = be ^ i * (dg N i * F) + (N % be ^ i * F + a) by omega, Nat.mul_add_div (bpow_pos i), Nat.add_comm]
theorem car_word (N F a i : Nat) : (car N F a i + dg N i * F) % be = dg (N * F + a) i := by
  rw [car_sum]
  unfold dg
  have e : N * F + a = be ^ i * (be * (N / be ^ (i + 1) * F)) + (N % be ^ (i + 1) * F + a) := by
    have h := Nat.div_add_mod N (be ^ (i + 1))
    rw [← Nat.mul_assoc, ← Nat.pow_succ, ← Nat.mul_assoc, show be ^ i.succ = be ^ (i + 1) from rfl]
    generalize N / be ^ (i + 1) = q at *
    generalize N % be ^ (i + 1) = r at *
    rw [← h, Nat.add_mul]; omega
  rw [e, Nat.mul_add_div (bpow_pos i), Nat.mul_add_mod]
theorem car_next (N F a i : Nat) : (car N F a i + dg N i * F) / be = car N F a (i + 1) := by
  rw [car_sum, Nat.div_div_eq_div_mul, ← Nat.pow_succ]; rfl
theorem car_le (N F a i : Nat) : car N F a i ≤ F + a := by
  unfold car
  have h := Nat.mod_lt N (bpow_pos i)
  have h1 : N % be ^ i * F ≤ be ^ i * F := Nat.mul_le_mul_right _ (Nat.le_of_lt h)
  have h2 : a ≤ be ^ i * a := Nat.le_mul_of_pos_left a (bpow_pos i)
  have h3 : N % be ^ i * F + a ≤ be ^ i * (F + a) := by rw [Nat.mul_add]; omega
  rw [Nat.div_le_iff_le_mul_add_pred (bpow_pos i)]
  omega
theorem car_end (N F a c : Nat) (h : N < be ^ c) : car N F a c = (N * F + a) / be ^ c := by unfold car; rw [Nat.mod_eq_of_lt h]
/-- A shift by whole words. -/
theorem dg_words (N s i : Nat) : dg (N * be ^ s) i = if i < s then 0 else dg N (i - s) := by
  unfold dg
  by_cases h : i < s
  · rw [if_pos h]
    obtain ⟨k, rfl⟩ : ∃ k, s = i + 1 + k := ⟨s - i - 1, by omega⟩
    rw [Nat.pow_add, Nat.pow_succ, show N * (be ^ i * be * be ^ k) = N * be ^ k * be * be ^ i by rw [Nat.mul_assoc (be ^ i), Nat.mul_comm (be ^ i), Nat.mul_comm be, ← Nat.mul_assoc, ← Nat.mul_assoc], Nat.mul_div_cancel _ (bpow_pos i), Nat.mul_mod_left]
  · rw [if_neg h]
    obtain ⟨k, rfl⟩ : ∃ k, i = s + k := ⟨i - s, by omega⟩
    rw [Nat.pow_add, ← Nat.div_div_eq_div_mul, Nat.mul_div_cancel _ (bpow_pos s), Nat.add_sub_cancel_left]
/-- A shift by bits within a word. -/
theorem dg_bits (N m : Nat) (hm : m < 32) (i : Nat) : dg (N * 2 ^ m) i = dg N i * 2 ^ m % be + (if i = 0 then 0 else dg N (i - 1) / 2 ^ (32 - m)) := by
  have hb : be = 2 ^ (32 - m) * 2 ^ m := by rw [← Nat.pow_add, show 32 - m + m = 32 by omega]; rfl
  have hp := Nat.two_pow_pos m
  have hp' := Nat.two_pow_pos (32 - m)
  -- the number below word i, at word i, above
  have key : ∀ X L : Nat, L < be ^ i → dg ((be ^ i * X + L) * 2 ^ m) i = (X * 2 ^ m + L * 2 ^ m / be ^ i) % be := by
    intro X L hL
    unfold dg
    rw [Nat.add_mul, Nat.mul_assoc, Nat.mul_add_div (bpow_pos i)]
  have hN := Nat.div_add_mod N (be ^ i)
  have hL := Nat.mod_lt N (bpow_pos i)
  have h1 := key (N / be ^ i) (N % be ^ i) hL
  rw [hN] at h1
  rw [h1]
  -- what comes up from below
  have hup : N % be ^ i * 2 ^ m / be ^ i = (if i = 0 then 0 else dg N (i - 1) / 2 ^ (32 - m)) := by
    by_cases h0 : i = 0
    · subst h0; simp [Nat.mod_one]
    · rw [if_neg h0]
      obtain ⟨k, rfl⟩ : ∃ k, i = k + 1 := ⟨i - 1, by omega⟩
      rw [Nat.add_sub_cancel, dg_split, Nat.pow_succ]
      have hr := Nat.mod_lt N (bpow_pos k)
      generalize N % be ^ k = r at *
      generalize dg N k = d at *
      rw [← Nat.div_div_eq_div_mul]
      have e2 : (r + be ^ k * d) * 2 ^ m / be ^ k = d * 2 ^ m + r * 2 ^ m / be ^ k := by
        rw [Nat.add_mul, Nat.mul_assoc, Nat.add_comm, Nat.mul_add_div (bpow_pos k)]
      rw [e2]
      have hr2 : r * 2 ^ m / be ^ k < 2 ^ m := by rw [Nat.div_lt_iff_lt_mul (bpow_pos k), Nat.mul_comm]; exact Nat.mul_lt_mul_of_pos_left hr hp
      generalize r * 2 ^ m / be ^ k = y at *
      rw [hb, Nat.mul_comm (2 ^ (32 - m)), ← Nat.div_div_eq_div_mul, Nat.mul_comm d, Nat.mul_add_div hp, Nat.div_eq_of_lt hr2, Nat.add_zero]
  rw [hup]
  have hlow : (if i = 0 then 0 else dg N (i - 1) / 2 ^ (32 - m)) < 2 ^ m := by
    split
    · exact hp
    · rw [Nat.div_lt_iff_lt_mul hp', Nat.mul_comm, ← hb]; exact dg_lt _ _
  generalize (if i = 0 then 0 else dg N (i - 1) / 2 ^ (32 - m)) = y at *
  unfold dg
  generalize N / be ^ i = X at *
  -- the sum does not carry
  have e3 : X % be * 2 ^ m % be = X % 2 ^ (32 - m) * 2 ^ m := by
    conv => lhs; rw [hb]
    rw [Nat.mul_mod_mul_right, Nat.mod_mul_right_mod]
  have e4 : (X * 2 ^ m + y) % be = X % 2 ^ (32 - m) * 2 ^ m + y := by
    have hx := Nat.div_add_mod X (2 ^ (32 - m))
    have hq := Nat.mod_lt X hp'
    generalize X / 2 ^ (32 - m) = q at *
    generalize X % 2 ^ (32 - m) = r at *
    rw [← hx, Nat.add_mul, show 2 ^ (32 - m) * q * 2 ^ m = be * q by rw [hb, Nat.mul_assoc, Nat.mul_comm q, ← Nat.mul_assoc], Nat.add_assoc, Nat.mul_add_mod, Nat.mod_eq_of_lt]
    have : r * 2 ^ m + 2 ^ m ≤ 2 ^ (32 - m) * 2 ^ m := by rw [← Nat.succ_mul]; exact Nat.mul_le_mul_right _ hq
    rw [hb]; omega
  rw [e3, e4]
/-- Both. -/
theorem dg_shift (N by' i : Nat) : dg (N * 2 ^ by') i = (if i < by' / 32 then 0 else dg N (i - by' / 32)) * 2 ^ (by' % 32) % be + (if i < by' / 32 + 1 then 0 else dg N (i - by' / 32 - 1)) / 2 ^ (32 - by' % 32) := by
  have e : N * 2 ^ by' = N * be ^ (by' / 32) * 2 ^ (by' % 32) := by
    rw [be_two, Nat.mul_assoc, ← Nat.pow_add, Nat.div_add_mod]
  rw [e, dg_bits _ _ (Nat.mod_lt _ (by omega)), dg_words, dg_words]
  congr 1
  by_cases h : i < by' / 32 + 1
  · rw [if_pos h, Nat.zero_div]
    by_cases h0 : i = 0
    · rw [if_pos h0]
    · rw [if_neg h0, if_pos (by omega), Nat.zero_div]
  · rw [if_neg h, if_neg (by omega), if_neg (by omega)]
    congr 2
    omega
/-- Order, from above. -/
theorem dg_cmp (N M i : Nat) (h : N / be ^ (i + 1) = M / be ^ (i + 1)) : N / be ^ i = be * (N / be ^ (i + 1)) + dg N i ∧ M / be ^ i = be * (N / be ^ (i + 1)) + dg M i := by
  have a : ∀ X : Nat, X / be ^ i = be * (X / be ^ (i + 1)) + dg X i := by
    intro X
    unfold dg
    rw [Nat.pow_succ, ← Nat.div_div_eq_div_mul, Nat.div_add_mod]
  exact ⟨a N, by rw [h]; exact a M⟩
theorem div_lt_of (N M k : Nat) (h : N / be ^ k < M / be ^ k) : N < M := by
  rcases Nat.lt_or_ge N M with h' | h'
  · exact h'
  · have := Nat.div_le_div_right (c := be ^ k) h'; omega
/-- Subtraction, word by word: in whatever base. -/
theorem sub_low (p d e r s : Nat) (hr : r < p) (hs : s < p) : r + p * d < s + p * e ↔ d < e + (if r < s then 1 else 0) := by
  have hde : d < e ∨ d = e ∨ e < d := by omega
  rcases hde with hlt | heq | hgt
  · have : p * (d + 1) ≤ p * e := Nat.mul_le_mul_left _ hlt
    rw [Nat.mul_succ] at this
    split <;> constructor <;> intro _ <;> omega
  · subst heq; split <;> constructor <;> intro _ <;> omega
  · have : p * (e + 1) ≤ p * d := Nat.mul_le_mul_left _ hgt
    rw [Nat.mul_succ] at this
    split <;> constructor <;> intro _ <;> omega
theorem sub_gen (p u v r s r' : Nat) (hr : r < p) (hs : s < p) (hr' : r' < p) (h4 : p * u + (r' + s) = p * v + r) : u + (if r < s then 1 else 0) = v := by
  by_cases c : r < s
  · rw [if_pos c]
    rcases Nat.lt_trichotomy (u + 1) v with hlt | heq | hgt
    · have : p * (u + 1 + 1) ≤ p * v := Nat.mul_le_mul_left _ hlt
      rw [Nat.mul_succ, Nat.mul_succ] at this; omega
    · exact heq
    · have : p * v ≤ p * u := Nat.mul_le_mul_left _ (by omega)
      omega
  · rw [if_neg c]
    rcases Nat.lt_trichotomy u v with hlt | heq | hgt
    · have : p * (u + 1) ≤ p * v := Nat.mul_le_mul_left _ hlt
      rw [Nat.mul_succ] at this; omega
    · omega
    · have : p * (v + 1) ≤ p * u := Nat.mul_le_mul_left _ hgt
      rw [Nat.mul_succ] at this; omega
theorem sub_word (b X Y d e c D : Nat) (hd : d < b) (he : e < b) (hc : c ≤ 1) (hle : Y ≤ X) (h : D + (b * Y + e) + c = b * X + d) :
    D % b = if d < e + c then d + b - e - c else d - e - c := by
  obtain ⟨Z, rfl⟩ : ∃ Z, X = Y + Z := ⟨X - Y, by omega⟩
  rw [Nat.mul_add] at h
  by_cases hlt : d < e + c
  · rw [if_pos hlt]
    rcases Nat.eq_zero_or_pos Z with rfl | hZ
    · rw [Nat.mul_zero] at h; omega
    · have e5 : D = b * (Z - 1) + (d + b - e - c) := by
        have : b * Z = b * (Z - 1) + b := by rw [← Nat.mul_succ]; congr 1; omega
        omega
      rw [e5, Nat.mul_add_mod, Nat.mod_eq_of_lt (by omega)]
  · rw [if_neg hlt]
    have e5 : D = b * Z + (d - e - c) := by omega
    rw [e5, Nat.mul_add_mod, Nat.mod_eq_of_lt (by omega)]
def bor (N M i : Nat) : Nat := if N % be ^ i < M % be ^ i then 1 else 0
theorem bor_zero (N M : Nat) : bor N M 0 = 0 := by unfold bor; simp [Nat.mod_one]
theorem bor_le (N M i : Nat) : bor N M i ≤ 1 := by unfold bor; split <;> omega
theorem bor_step (N M i : Nat) : bor N M (i + 1) = (if dg N i < dg M i + bor N M i then 1 else 0) := by
  have h := sub_low (be ^ i) (dg N i) (dg M i) (N % be ^ i) (M % be ^ i) (Nat.mod_lt N (bpow_pos i)) (Nat.mod_lt M (bpow_pos i))
  rw [← dg_split, ← dg_split] at h
  change _ ↔ dg N i < dg M i + bor N M i at h
  show (if N % be ^ (i + 1) < M % be ^ (i + 1) then 1 else 0) = _
  by_cases c : dg N i < dg M i + bor N M i
  · rw [if_pos c, if_pos (h.2 c)]
  · rw [if_neg c, if_neg (fun x => c (h.1 x))]
theorem dg_parts (X i : Nat) : X = be ^ i * (be * (X / be ^ (i + 1)) + dg X i) + X % be ^ i := by
  have a : X / be ^ i = be * (X / be ^ (i + 1)) + dg X i := by
    unfold dg
    rw [Nat.pow_succ, ← Nat.div_div_eq_div_mul, Nat.div_add_mod]
  rw [← a, Nat.div_add_mod]
theorem bor_word (N M i : Nat) (h : M ≤ N) : dg (N - M) i = (if dg N i < dg M i + bor N M i then dg N i + be - dg M i - bor N M i else dg N i - dg M i - bor N M i) := by
  refine sub_word be (N / be ^ (i + 1)) (M / be ^ (i + 1)) (dg N i) (dg M i) (bor N M i) ((N - M) / be ^ i) (Nat.mod_lt _ be_pos) (Nat.mod_lt _ be_pos) (bor_le N M i) (Nat.div_le_div_right h) ?_
  refine sub_gen (be ^ i) _ _ (N % be ^ i) (M % be ^ i) ((N - M) % be ^ i) (Nat.mod_lt _ (bpow_pos i)) (Nat.mod_lt _ (bpow_pos i)) (Nat.mod_lt _ (bpow_pos i)) ?_
  have eN := dg_parts N i
  have eM := dg_parts M i
  have eD := Nat.div_add_mod (N - M) (be ^ i)
  rw [Nat.mul_add]
  generalize be ^ i * ((N - M) / be ^ i) = a at *
  generalize (N - M) % be ^ i = b at *
  generalize be ^ i * (be * (N / be ^ (i + 1)) + dg N i) = c at *
  generalize be ^ i * (be * (M / be ^ (i + 1)) + dg M i) = d at *
  generalize N % be ^ i = r at *
  generalize M % be ^ i = s at *
  omega
/-- The length in bits. -/
theorem len_words {c N : Nat} (h : cntOk c N) (hc : 0 < c) : (c - 1) * 32 + bitLen (dg N (c - 1)) = bitLen N := by
  have hp := (cnt_pos h).1 hc
  have ht := cnt_top h hc
  have h1 : N / 2 ^ (32 * (c - 1)) = dg N (c - 1) := by
    unfold dg
    rw [← be_two, Nat.mod_eq_of_lt]
    rw [Nat.div_lt_iff_lt_mul (bpow_pos _), Nat.mul_comm, ← Nat.pow_succ, show (c - 1).succ = c by omega]; exact h.1
  have := bitLen_shift N (32 * (c - 1)) (by rw [h1]; omega)
  rw [h1] at this
  omega
end Go.Proofs.YtcbhcdaedchmlaaDoor

/- A number in words, in memory. -/
namespace Go.Proofs.YtcbhcdaedchmlaaDoor
open Go.ChangeShapes Go.WideShapes Go.RowKit

/-- Of what was there nothing has turned but block B; there may be more. -/
def Mod (B : Nat) (w w' : World) : Prop := w'.os = w.os ∧ w'.tape = w.tape ∧ w'.output = w.output ∧ w.heap.size ≤ w'.heap.size ∧ ∀ k, k < w.heap.size → k ≠ B → w'.heap[k]? = w.heap[k]?
theorem Mod.refl (B : Nat) (w : World) : Mod B w w := ⟨rfl, rfl, rfl, Nat.le_refl _, fun _ _ _ => rfl⟩
theorem Mod.trans {B : Nat} {a b c : World} (h : Mod B a b) (k : Mod B b c) : Mod B a c :=
  ⟨k.1.trans h.1, k.2.1.trans h.2.1, k.2.2.1.trans h.2.2.1, Nat.le_trans h.2.2.2.1 k.2.2.2.1, fun i hi hb => (k.2.2.2.2 i (Nat.lt_of_lt_of_le hi h.2.2.2.1) hb).trans (h.2.2.2.2 i hi hb)⟩
theorem Mod.drewN {B : Nat} {a w : World} (h : Mod B a w) (n : Nat) : Mod B a (w.drewN n) := h.trans ⟨rfl, rfl, rfl, Nat.le_refl _, fun _ _ _ => rfl⟩
theorem Mod.setCell {B : Nat} {a w : World} (h : Mod B a w) (o : Nat) (u : Value) : Mod B a (w.setCell ⟨B, o, none⟩ u) :=
  h.trans ⟨rfl, rfl, rfl, by simp [World.setCell], fun k _ hk => Below.heap_setCell _ _ _ _ hk⟩
theorem Mod.alloc {B : Nat} {a w : World} (h : Mod B a w) (b : Obj) : Mod B a (w.alloc b) :=
  h.trans ⟨rfl, rfl, rfl, by simp, fun k hk _ => Below.heap_alloc _ _ _ hk⟩
theorem Mod.cell {B : Nat} {w w' : World} (h : Mod B w w') {p : Addr} (hp : p.block ≠ B) (hl : p.block < w.heap.size) : w'.cell? p = w.cell? p := World.cell?_of_block (w := w) (h.2.2.2.2 p.block hl hp)
theorem Mod.frozen {B : Nat} {w w' : World} (h : Mod B w w') {p : Addr} (hp : p.block ≠ B) (hl : p.block < w.heap.size) : w'.frozen? p = w.frozen? p := World.frozen?_of_block (w := w) (h.2.2.2.2 p.block hl hp)
theorem Mod.below {B C : Nat} {w w' : World} (h : Mod B w w') (hC : C ≤ B) (hl : C ≤ w.heap.size) : Below C w w' :=
  ⟨h.1, h.2.1, h.2.2.1, h.2.2.2.1, fun k hk => h.2.2.2.2 k (by omega) (by omega)⟩
theorem Mod.size {B : Nat} {w w' : World} (h : Mod B w w') : w.heap.size ≤ w'.heap.size := h.2.2.2.1
theorem Mod.of_below {B : Nat} {w w' : World} (h : Below w.heap.size w w') : Mod B w w' := ⟨h.os, h.tape, h.output, h.size, fun k hk _ => h.block k hk⟩
theorem Mod.of_only {B : Nat} {w w' : World} (h : Only B w w') : Mod B w w' := ⟨h.1, h.2.1, h.2.2.1, by rw [h.2.2.2.1]; exact Nat.le_refl _, fun k _ hb => h.2.2.2.2 k hb⟩

/-- The cells of a number: the count, 151 words. -/
def lgL (c : Nat) (f : Nat → Nat) : List Value := .int .i64 (c : Int) :: (List.range 151).map fun i => .int .u32 (f i : Int)
theorem lgL_length (c : Nat) (f : Nat → Nat) : (lgL c f).length = 152 := by simp [lgL]
def blk (c : Nat) (f : Nat → Nat) (R : List Value) : Array Value := (lgL c f ++ R).toArray
def upd (f : Nat → Nat) (i v : Nat) : Nat → Nat := fun j => if j = i then v else f j
theorem blk_get0 (c : Nat) (f : Nat → Nat) (R : List Value) : (blk c f R)[0]? = some (.int .i64 (c : Int)) := by simp [blk, lgL]
theorem lgL_get (c : Nat) (f : Nat → Nat) (i : Nat) (h : i < 151) : (lgL c f)[i + 1]? = some (.int .u32 (f i : Int)) := by
  unfold lgL
  rw [List.getElem?_cons_succ, List.getElem?_map, List.getElem?_range h]; rfl
theorem blk_get (c : Nat) (f : Nat → Nat) (R : List Value) (i : Nat) (h : i < 151) : (blk c f R)[i + 1]? = some (.int .u32 (f i : Int)) := by
  unfold blk
  rw [List.getElem?_toArray, List.getElem?_append_left (by rw [lgL_length]; omega), lgL_get c f i h]
theorem blk_tail (c : Nat) (f : Nat → Nat) (R : List Value) (j : Nat) : (blk c f R)[152 + j]? = R[j]? := by
  unfold blk
  rw [List.getElem?_toArray, List.getElem?_append_right (by rw [lgL_length]; omega), lgL_length, Nat.add_sub_cancel_left]
theorem blk_set0 (c c' : Nat) (f : Nat → Nat) (R : List Value) : (blk c f R).setIfInBounds 0 (.int .i64 (c' : Int)) = blk c' f R := by
  unfold blk
  rw [List.setIfInBounds_toArray]; rfl
theorem lgL_set (c : Nat) (f : Nat → Nat) (i v : Nat) : (lgL c f).set (i + 1) (.int .u32 (v : Int)) = lgL c (upd f i v) := by
  unfold lgL
  rw [List.set_cons_succ]
  congr 1
  apply List.ext_getElem
  · simp
  · intro j h1 h2
    rw [List.getElem_set]
    by_cases hj : i = j
    · subst hj; simp [upd]
    · rw [if_neg hj]; simp [upd, show ¬ j = i by omega]
theorem blk_set (c : Nat) (f : Nat → Nat) (R : List Value) (i v : Nat) (h : i < 151) : (blk c f R).setIfInBounds (i + 1) (.int .u32 (v : Int)) = blk c (upd f i v) R := by
  unfold blk
  rw [List.setIfInBounds_toArray, List.set_append_left _ _ (by rw [lgL_length]; omega), lgL_set c f i v]
theorem blk_setT (c : Nat) (f : Nat → Nat) (x y : Value) : (blk c f [x]).setIfInBounds 152 y = blk c f [y] := by
  unfold blk
  rw [List.setIfInBounds_toArray, List.set_append_right _ _ (by rw [lgL_length]; omega), lgL_length]; rfl
theorem lgL_congr (c : Nat) (f g : Nat → Nat) (h : ∀ i, i < 151 → f i = g i) : lgL c f = lgL c g := by
  unfold lgL
  congr 1
  apply List.map_congr_left
  intro i hi
  rw [h i (List.mem_range.1 hi)]
theorem blk_congr (c : Nat) (f g : Nat → Nat) (R : List Value) (h : ∀ i, i < 151 → f i = g i) : blk c f R = blk c g R := by unfold blk; rw [lgL_congr c f g h]
theorem blk_size (c : Nat) (f : Nat → Nat) (R : List Value) : (blk c f R).size = 152 + R.length := by simp [blk, lgL_length]

/-- A number's words lie in block B. -/
def LB (w : World) (B c : Nat) (f : Nat → Nat) (R : List Value) (t : TypeId) : Prop := w.heap[B]? = some (.cells (blk c f R) t (0, 0))
theorem cell_of_heap {w : World} {B : Nat} {cs : Array Value} {t : TypeId} (h : w.heap[B]? = some (.cells cs t (0, 0))) (o : Nat) : w.cell? ⟨B, o, none⟩ = cs[o]? := by simp [World.cell?, h]
theorem frozen_of_heap {w : World} {B : Nat} {cs : Array Value} {t : TypeId} (h : w.heap[B]? = some (.cells cs t (0, 0))) (o : Nat) : w.frozen? ⟨B, o, none⟩ = false := by simp [World.frozen?, h]
theorem LB.cnt {w : World} {B c : Nat} {f : Nat → Nat} {R : List Value} {t : TypeId} (h : LB w B c f R t) : w.cell? ⟨B, 0, none⟩ = some (.int .i64 (c : Int)) := by rw [cell_of_heap h, blk_get0]
theorem LB.wrd {w : World} {B c : Nat} {f : Nat → Nat} {R : List Value} {t : TypeId} (h : LB w B c f R t) (i : Nat) (hi : i < 151) : w.cell? ⟨B, i + 1, none⟩ = some (.int .u32 (f i : Int)) := by rw [cell_of_heap h, blk_get c f R i hi]
theorem LB.wrd' {w : World} {B c : Nat} {f : Nat → Nat} {R : List Value} {t : TypeId} (h : LB w B c f R t) (i : Nat) (hi : i < 151) : w.cell? ⟨B, 1 + i, none⟩ = some (.int .u32 (f i : Int)) := by rw [Nat.add_comm]; exact h.wrd i hi
theorem LB.froz {w : World} {B c : Nat} {f : Nat → Nat} {R : List Value} {t : TypeId} (h : LB w B c f R t) (o : Nat) : w.frozen? ⟨B, o, none⟩ = false := frozen_of_heap h o
theorem LB.lt {w : World} {B c : Nat} {f : Nat → Nat} {R : List Value} {t : TypeId} (h : LB w B c f R t) : B < w.heap.size := (Array.getElem?_eq_some_iff.1 h).1
theorem LB.setw {w : World} {B c : Nat} {f : Nat → Nat} {R : List Value} {t : TypeId} (h : LB w B c f R t) (i v : Nat) (hi : i < 151) : LB (w.setCell ⟨B, i + 1, none⟩ (.int .u32 (v : Int))) B c (upd f i v) R t := by
  unfold LB
  rw [setCell_eq_setRow w B (i + 1) _ t (0, 0) _ h, blk_set c f R i v hi]
  exact setRow_heap w B _ _ t (0, 0) h
theorem LB.setw' {w : World} {B c : Nat} {f : Nat → Nat} {R : List Value} {t : TypeId} (h : LB w B c f R t) (i v : Nat) (hi : i < 151) : LB (w.setCell ⟨B, 1 + i, none⟩ (.int .u32 (v : Int))) B c (upd f i v) R t := by rw [Nat.add_comm]; exact h.setw i v hi
theorem LB.setc {w : World} {B c : Nat} {f : Nat → Nat} {R : List Value} {t : TypeId} (h : LB w B c f R t) (c' : Nat) : LB (w.setCell ⟨B, 0, none⟩ (.int .i64 (c' : Int))) B c' f R t := by
  unfold LB
  rw [setCell_eq_setRow w B 0 _ t (0, 0) _ h, blk_set0]
  exact setRow_heap w B _ _ t (0, 0) h
theorem LB.congr {w : World} {B c : Nat} {f : Nat → Nat} {R : List Value} {t : TypeId} (h : LB w B c f R t) (g : Nat → Nat) (hg : ∀ i, i < 151 → f i = g i) : LB w B c g R t := by
  unfold LB; rw [← blk_congr c f g R hg]; exact h
theorem LB.other {w w' : World} {B B' c : Nat} {f : Nat → Nat} {R : List Value} {t : TypeId} (h : LB w B c f R t) (hm : Mod B' w w') (hB : B ≠ B') : LB w' B c f R t := (hm.2.2.2.2 B h.lt hB).trans h
theorem LB.drewN {w : World} {B c : Nat} {f : Nat → Nat} {R : List Value} {t : TypeId} (h : LB w B c f R t) (n : Nat) : LB (w.drewN n) B c f R t := h
theorem LB.alloc {w : World} {B c : Nat} {f : Nat → Nat} {R : List Value} {t : TypeId} (h : LB w B c f R t) (b : Obj) : LB (w.alloc b) B c f R t := by
  have hl := h.lt
  unfold LB at *
  rw [Below.heap_alloc _ _ _ hl]; exact h
theorem LB.new (w : World) (c : Nat) (f : Nat → Nat) (R : List Value) (t : TypeId) : LB (w.alloc (.cells (blk c f R) t)) w.heap.size c f R t :=
  heap_alloc_last w _
/-- A number N: its own words and their count. -/
def Lg (w : World) (B N : Nat) (R : List Value) (t : TypeId) : Prop := ∃ c, c ≤ 151 ∧ cntOk c N ∧ LB w B c (dg N) R t
theorem Lg.lt {w : World} {B N : Nat} {R : List Value} {t : TypeId} (h : Lg w B N R t) : B < w.heap.size := by obtain ⟨_, _, _, h⟩ := h; exact h.lt
theorem Lg.other {w w' : World} {B B' N : Nat} {R : List Value} {t : TypeId} (h : Lg w B N R t) (hm : Mod B' w w') (hB : B ≠ B') : Lg w' B N R t := by
  obtain ⟨c, h1, h2, h3⟩ := h; exact ⟨c, h1, h2, h3.other hm hB⟩
/-- The value of a number. -/
def lgV (c N : Nat) : Value := .agg (lgL c (dg N)).toArray
end Go.Proofs.YtcbhcdaedchmlaaDoor

/- The program's reader: where it stands, what it sees, its sign. -/
namespace Go.Proofs.YtcbhcdaedchmlaaDoor
open Go.ChangeShapes Go.WideShapes Go.RowKit

/-- The reader lies in block G and stands at k. -/
def Rr (w : World) (G : Nat) (s : ByteArray) (k : Nat) : Prop := w.heap[G]? = some (.cells #[.string s, .int .i64 (k : Int)] 74 (0, 0))
theorem Rr.txt {w : World} {G k : Nat} {s : ByteArray} (h : Rr w G s k) : w.cell? ⟨G, 0, none⟩ = some (.string s) := by rw [cell_of_heap h]; rfl
theorem Rr.at_ {w : World} {G k : Nat} {s : ByteArray} (h : Rr w G s k) : w.cell? ⟨G, 1, none⟩ = some (.int .i64 (k : Int)) := by rw [cell_of_heap h]; rfl
theorem Rr.froz {w : World} {G k : Nat} {s : ByteArray} (h : Rr w G s k) (o : Nat) : w.frozen? ⟨G, o, none⟩ = false := frozen_of_heap h o
theorem Rr.lt {w : World} {G k : Nat} {s : ByteArray} (h : Rr w G s k) : G < w.heap.size := (Array.getElem?_eq_some_iff.1 h).1
theorem Rr.set {w : World} {G k : Nat} {s : ByteArray} (h : Rr w G s k) (k' : Nat) : Rr (w.setCell ⟨G, 1, none⟩ (.int .i64 (k' : Int))) G s k' := by
  unfold Rr
  rw [setCell_eq_setRow w G 1 _ _ (0, 0) _ h]
  exact setRow_heap w G _ _ _ (0, 0) h
theorem Rr.other {w w' : World} {G B k : Nat} {s : ByteArray} (h : Rr w G s k) (hm : Mod B w w') (hB : G ≠ B) : Rr w' G s k := (hm.2.2.2.2 G h.lt hB).trans h
theorem Rr.below {w w' : World} {G k : Nat} {s : ByteArray} (h : Rr w G s k) (hm : Below w.heap.size w w') : Rr w' G s k := (hm.block G h.lt).trans h
theorem Rr.drewN {w : World} {G k : Nat} {s : ByteArray} (h : Rr w G s k) (n : Nat) : Rr (w.drewN n) G s k := h
theorem Rr.alloc {w : World} {G k : Nat} {s : ByteArray} (h : Rr w G s k) (b : Obj) : Rr (w.alloc b) G s k := (Below.heap_alloc _ _ _ h.lt).trans h

/-- Does a text begin so? -/
def pre (s p : ByteArray) : Bool := decide (p.size ≤ s.size) && ((s.extract 0 p.size).toList == p.toList)
set_option maxHeartbeats 400000 in
theorem hasPre_any (s p : ByteArray) (w : World) :
    Calls Tryd.prog 58 #[.string s, .string p] w fun e w' => e = .returned (.bool (pre s p)) ∧ w' = w := by
  unfold pre
  by_cases h : p.size ≤ s.size
  · have h1 : (p.size : Int) ≤ (s.size : Int) := by omega
    have hd : decide ((p.size : Int) ≤ (s.size : Int)) = true := decide_eq_true h1
    rw [decide_eq_true h, Bool.true_and]
    go_enter Tryd.func58, Tryd.ntmps58
    go_wp2
    go_ret
    exact ⟨rfl, rfl⟩
  · have hd : decide ((p.size : Int) ≤ (s.size : Int)) = false := decide_eq_false (by omega)
    rw [decide_eq_false h, Bool.false_and]
    go_enter Tryd.func58, Tryd.ntmps58
    go_wp2
    go_ret
    exact ⟨rfl, rfl⟩
theorem hasPrefix_any (s p : ByteArray) (w : World) :
    Calls Tryd.prog 52 #[.string s, .string p] w fun e w' => e = .returned (.bool (pre s p)) ∧ w' = w := by
  have HC : Hid _ := fun w => hasPre_any s p w
  go_enter Tryd.func52, Tryd.ntmps52
  go_wp2_with (go_at_call 58; refine (HC.out _).mono ?_; rintro e w' ⟨rfl, rfl⟩)
  go_ret
  exact ⟨rfl, rfl⟩
theorem pre_eq (s p : ByteArray) : pre s p = true ↔ s.data.toList.take p.size = p.data.toList := by
  unfold pre
  rw [Bool.and_eq_true, decide_eq_true_iff, beq_iff_eq, ByteArray.toList_eq, ByteArray.toList_eq]
  have e : (s.extract 0 p.size).data.toList = s.data.toList.take p.size := by simp
  rw [e]
  constructor
  · exact fun h => h.2
  · intro h
    refine ⟨?_, h⟩
    have := congrArg List.length h
    simp at this
    omega
theorem drop_list (s : ByteArray) (j : Nat) : (s.extract j s.size).data.toList = s.data.toList.drop j := by
  have : (s.extract j s.size).data.toList = (s.data.toList.drop j).take (s.size - j) := by simp
  rw [this]
  exact List.take_of_length_le (by simp)
theorem drop_cons (s : ByteArray) (k : Nat) (h : k < s.size) : (s.extract k s.size).data.toList = s[k] :: (s.extract (k + 1) s.size).data.toList := by
  have e := drop_list s
  rw [e, e, List.drop_eq_getElem_cons (by simpa using h)]
  rfl
theorem drop_out (s : ByteArray) (k : Nat) (h : ¬ k < s.size) : (s.extract k s.size).data.toList = [] := by
  rw [drop_list, List.drop_eq_nil_iff]
  simp; omega
theorem pre_one (s : ByteArray) (k : Nat) (c : UInt8) (hc : c.toNat ≠ 0) : pre (s.extract k s.size) ⟨#[c]⟩ = decide (bAt s k = (c.toNat : Int)) := by
  rw [Bool.eq_iff_iff, pre_eq, decide_eq_true_iff]
  by_cases h : k < s.size
  · rw [drop_cons s k h, bAt_in s k h]
    show [s[k]] = [c] ↔ _
    constructor
    · intro e; rw [(List.cons.inj e).1]
    · intro e; rw [UInt8.toNat_inj.1 (show s[k].toNat = c.toNat by omega)]
  · rw [drop_out s k h, bAt_out s k h]
    constructor
    · intro e; exact absurd e (by show ¬ [] = [c]; simp)
    · intro e; omega
theorem pre_two (s : ByteArray) (k : Nat) (c d : UInt8) : pre (s.extract k s.size) ⟨#[c, d]⟩ = decide (bAt s k = (c.toNat : Int) ∧ k + 1 < s.size ∧ bAt s (k + 1) = (d.toNat : Int)) := by
  rw [Bool.eq_iff_iff, pre_eq, decide_eq_true_iff]
  by_cases h : k < s.size
  · rw [drop_cons s k h, bAt_in s k h]
    by_cases h' : k + 1 < s.size
    · rw [drop_cons s (k + 1) h', bAt_in s (k + 1) h']
      show [s[k], s[k + 1]] = [c, d] ↔ _
      constructor
      · intro e
        have e1 := List.cons.inj e
        rw [e1.1, (List.cons.inj e1.2).1]; exact ⟨rfl, h', rfl⟩
      · rintro ⟨e, _, e'⟩; rw [UInt8.toNat_inj.1 (show s[k].toNat = c.toNat by omega), UInt8.toNat_inj.1 (show s[k + 1].toNat = d.toNat by omega)]
    · rw [drop_out s (k + 1) h']
      constructor
      · intro e; exact absurd e (by show ¬ [s[k]] = [c, d]; simp)
      · rintro ⟨_, e, _⟩; omega
  · rw [drop_out s k h, bAt_out s k h]
    constructor
    · intro e; exact absurd e (by show ¬ [] = [c, d]; simp)
    · rintro ⟨_, e, _⟩; omega
set_option maxHeartbeats 400000 in
theorem sees_any (G k : Nat) (s p : ByteArray) (w : World) (h : Rr w G s k) (hk : k ≤ s.size) :
    Calls Tryd.prog 44 #[.pointer (some ⟨G, 0, none⟩), .string p] w fun e w' => e = .returned (.bool (pre (s.extract k s.size) p)) ∧ ∃ n, w' = w.drewN n := by
  have h1 := h.txt
  have h2 := h.at_
  have hk' : (k : Int) ≤ (s.size : Int) := by omega
  have HC : Hid (∀ w, Calls Tryd.prog 52 #[.string (s.extract k s.size), .string p] w fun e w' => e = .returned (.bool (pre (s.extract k s.size) p)) ∧ w' = w) := fun w => hasPrefix_any _ p w
  clear h
  go_enter Tryd.func44, Tryd.ntmps44
  go_wp2
  go_quiet (first | (go_at_call 52; exact Calls.quiet_of_same (HC.out _)))
  go_wp2
  go_ret
  exact ⟨rfl, _, rfl⟩
set_option maxHeartbeats 400000 in
theorem rsign_any (G k : Nat) (s : ByteArray) (w : World) (h : Rr w G s k) (hk : k ≤ s.size) (hs : s.size ≤ 1200) (neg : Bool) (j : Nat) (hg : Sgn s k neg j) :
    Calls Tryd.prog 43 #[.pointer (some ⟨G, 0, none⟩)] w fun e w' => e = .returned (.bool neg) ∧ Rr w' G s j ∧ Mod G w w' := by
  have h1 := h.txt
  have h2 := h.at_
  have hf := h.froz 1
  have hk' : (k : Int) ≤ (s.size : Int) := by omega
  have hsz : (s.extract k s.size).size = s.size - k := by rw [ByteArray.size_extract]; omega
  have hj := sgn_le s k neg j hg hk
  have hjk : k ≤ j := by rcases hg with ⟨_, _, _, e⟩ | ⟨_, _, _, e⟩ | ⟨_, _, _, e⟩ <;> omega
  have hcut : ∃ r : ByteArray, Cut (s.extract k s.size) neg r ∧ r.size = s.size - j := by
    have hin : ∀ h : k < s.size, ∃ h0 : 0 < (s.extract k s.size).size, (s.extract k s.size)[0].toNat = s[k].toNat := fun h => by
      refine ⟨by omega, ?_⟩
      rw [ByteArray.getElem_extract]; rfl
    rcases hg with ⟨a, e, rfl, hjj⟩ | ⟨a, e, rfl, hjj⟩ | ⟨e, e', rfl, hjj⟩
    · obtain ⟨h0, hh⟩ := hin a
      rw [bAt_in s k a] at e
      exact ⟨_, .inr (.inl ⟨h0, by omega, rfl, rfl⟩), by rw [ByteArray.size_extract]; omega⟩
    · obtain ⟨h0, hh⟩ := hin a
      rw [bAt_in s k a] at e
      exact ⟨_, .inr (.inr (.inl ⟨h0, by omega, rfl, rfl⟩)), by rw [ByteArray.size_extract]; omega⟩
    · by_cases a : k < s.size
      · obtain ⟨h0, hh⟩ := hin a
        rw [bAt_in s k a] at e e'
        exact ⟨_, .inr (.inr (.inr ⟨h0, by omega, by omega, rfl, rfl⟩)), by rw [ByteArray.size_extract]; omega⟩
      · exact ⟨_, .inl ⟨by omega, rfl, rfl⟩, by rw [ByteArray.size_extract]; omega⟩
  obtain ⟨r, hc, hr⟩ := hcut
  have HC : Hid (∀ w, Calls Tryd.prog 51 #[.string (s.extract k s.size)] w fun e w' => e = .returned (.tuple #[.bool neg, .string r]) ∧ ∃ n, w' = w.drewN n) := fun w => cutSign_any _ w (by omega) neg r hc
  have HR : Hid (Rr w G s k) := h
  have hr' : (r.size : Int) = (s.size : Int) - (j : Int) := by omega
  clear h hc hg hr hsz
  go_enter Tryd.func43, Tryd.ntmps43
  go_wp2
  go_quiet (first | (go_at_call 51; exact Calls.quiet_of (HC.out _)))
  go_wp2
  go_ret
  have e : (s.size : Int) - ((s.size : Int) - (j : Int)) = (j : Int) := by omega
  rw [e]
  exact ⟨rfl, (HR.out.drewN nq).set j, ((Mod.refl G w).drewN nq).setCell _ _⟩
end Go.Proofs.YtcbhcdaedchmlaaDoor

