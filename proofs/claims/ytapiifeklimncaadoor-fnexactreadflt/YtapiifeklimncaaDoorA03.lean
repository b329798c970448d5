import Derived.Test.YtapiifeklimncaaDoorRows
import Derived.Laws.MathBits
import Derived.Test.YtapiifeklimncaaDoorA02
import Derived.Laws.Tables
import Derived.Deep.MidRow
import Derived.Deep.WholeRow
import Derived.Test.YtapiifeklimncaaDoorA01
/- Numbers in words of 32 bits: plain. -/
namespace Go.Proofs.YtapiifeklimncaaDoor

/-- The base, kept shut. -/
def be : Nat := 4294967296
theorem be_eq : be = 4294967296 := rfl
theorem be_pos : 0 < be := by unfold be; omega
/-- The i-th word of a number. -/
def dg (N i : Nat) : Nat := N / be ^ i % be
theorem dg_lt (N i : Nat) : dg N i < 4294967296 := Nat.mod_lt _ be_pos
theorem dg_big (N i : Nat) (h : N < be ^ i) : dg N i = 0 := by unfold dg; rw [Nat.div_eq_of_lt h, Nat.zero_mod]
theorem bpow_pos (i : Nat) : 0 < be ^ i := Nat.pow_pos be_pos
theorem bpow_le {i j : Nat} (h : i ≤ j) : be ^ i ≤ be ^ j := Nat.pow_le_pow_right be_pos h
theorem dg_above (N i c : Nat) (h : N < be ^ c) (hi : c ≤ i) : dg N i = 0 := dg_big N i (Nat.lt_of_lt_of_le h (bpow_le hi))
theorem be_two (i : Nat) : be ^ i = 2 ^ (32 * i) := by rw [Nat.pow_mul]; rfl
/-- How many words. -/
def cntOk (c N : Nat) : Prop := N < be ^ c ∧ (0 < c → be ^ (c - 1) ≤ N)
theorem cnt_zero : cntOk 0 0 := ⟨by simp, fun h => by omega⟩
theorem cnt_le {c N n : Nat} (h : cntOk c N) (hN : N < be ^ n) : c ≤ n := by
  rcases Nat.lt_or_ge n c with hlt | hge
  · have a := h.2 (by omega)
    have b := bpow_le (show n ≤ c - 1 by omega)
    omega
  · exact hge
theorem cnt_pos {c N : Nat} (h : cntOk c N) : 0 < c ↔ 0 < N := by
  constructor
  · intro hc; exact Nat.lt_of_lt_of_le (bpow_pos _) (h.2 hc)
  · intro hN
    rcases Nat.eq_zero_or_pos c with rfl | hc
    · have := h.1; rw [Nat.pow_zero] at this; omega
    · exact hc
theorem cnt_top {c N : Nat} (h : cntOk c N) (hc : 0 < c) : 0 < dg N (c - 1) := by
  obtain ⟨h1, h2⟩ := h
  have h3 := h2 hc
  unfold dg
  have h4 : N / be ^ (c - 1) < be := by
    rw [Nat.div_lt_iff_lt_mul (bpow_pos _), Nat.mul_comm, ← Nat.pow_succ, show (c - 1).succ = c by omega]; exact h1
  rw [Nat.mod_eq_of_lt h4]
  exact Nat.div_pos h3 (bpow_pos _)
/-- The words of a number below be^n make it out. -/
theorem dg_split (N i : Nat) : N % be ^ (i + 1) = N % be ^ i + be ^ i * dg N i := by
  unfold dg; rw [Nat.pow_succ, Nat.mod_mul]
theorem dg_ext (N M n : Nat) (hN : N < be ^ n) (hM : M < be ^ n) (h : ∀ i, i < n → dg N i = dg M i) : N = M := by
  have : ∀ k, k ≤ n → N % be ^ k = M % be ^ k := by
    intro k
    induction k with
    | zero => intro _; simp [Nat.mod_one]
    | succ k ih => intro hk; rw [dg_split, dg_split, ih (by omega), h k (by omega)]
  have h1 := this n (Nat.le_refl _)
  rwa [Nat.mod_eq_of_lt hN, Nat.mod_eq_of_lt hM] at h1
/-- Multiplication by a small factor, word by word. -/
def car (N F a i : Nat) : Nat := (N % be ^ i * F + a) / be ^ i
theorem car_zero (N F a : Nat) : car N F a 0 = a := by simp [car, Nat.mod_one]
theorem car_sum (N F a i : Nat) : car N F a i + dg N i * F = (N % be ^ (i + 1) * F + a) / be ^ i := by
  unfold car
  rw [dg_split, Nat.add_mul, show be ^ i * dg N i * F = be ^ i * (dg N i * F) by rw [Nat.mul_assoc], show N % be ^ i * F + be ^ i * (dg N i * F) + a = be ^ i * (dg N i * F) + (N % be ^ i * F + a) by omega, Nat.mul_add_div (bpow_pos i), Nat.add_comm]
theorem car_word (N F a i : Nat) : (car N F a i + dg N i * F) % be = dg (N * F + a) i := by
  rw [car_sum]
  unfold dg
  have e : N * F + a = be ^ i * (be * (N / be ^ (i + 1) * F)) + (N % be ^ (i + 1) * F + a) := by
    have h := Nat.div_add_mod N (be ^ (i + 1))
    rw [← Nat.mul_assoc, ← Nat.pow_succ, ← Nat.mul_assoc, show be ^ i.succ = be ^ (i + 1) from rfl]
    generalize N / be ^ (i + 1) = q at *
    generalize N % be ^ (i + 1) = r at *
    rw [← h, Nat.add_mul]; omega
  rw [e, Nat.mul_add_div (bpow_pos i), Nat.mul_add_mod]
theorem car_next (N F a i : Nat) : (car N F a i + dg N i * F) / be = car N F a (i + 1) := by
  rw [car_sum, Nat.div_div_eq_div_mul, ← Nat.pow_succ]; rfl
theorem car_le (N F a i : Nat) : car N F a i ≤ F + a := by
  unfold car
  have h := Nat.mod_lt N (bpow_pos i)
  have h1 : N % be ^ i * F ≤ be ^ i * F := Nat.mul_le_mul_right _ (Nat.le_of_lt h)
  have h2 : a ≤ be ^ i * a := Nat.le_mul_of_pos_left a (bpow_pos i)
  have h3 : N % be ^ i * F + a ≤ be ^ i * (F + a) := by rw [Nat.mul_add]; omega
  rw [Nat.div_le_iff_le_mul_add_pred (bpow_pos i)]
  omega
theorem car_end (N F a c : Nat) (h : N < be ^ c) : car N F a c = (N * F + a) / be ^ c := by unfold car; rw [Nat.mod_eq_of_lt h]
/-- A shift by whole words. -/
theorem dg_words (N s i : Nat) : dg (N * be ^ s) i = if i < s then 0 else dg N (i - s) := by
  unfold dg
  by_cases h : i < s
  · rw [if_pos h]
    obtain ⟨k, rfl⟩ : ∃ k, s = i + 1 + k := ⟨s - i - 1, by omega⟩
    rw [Nat.pow_add, Nat.pow_succ, show N * (be ^ i * be * be ^ k) = N * be ^ k * be * be ^ i by rw [Nat.mul_assoc (be ^ i), Nat.mul_comm (be ^ i), Nat.mul_comm be, ← Nat.mul_assoc, ← Nat.mul_assoc], Nat.mul_div_cancel _ (bpow_pos i), Nat.mul_mod_left]
  · rw [if_neg h]
    obtain ⟨k, rfl⟩ : ∃ k, i = s + k := ⟨i - s, by omega⟩
    rw [Nat.pow_add, ← Nat.div_div_eq_div_mul, Nat.mul_div_cancel _ (bpow_pos s), Nat.add_sub_cancel_left]
/-- A shift by bits within a word. -/
theorem dg_bits (N m : Nat) (hm : m < 32) (i : Nat) : dg (N * 2 ^ m) i = dg N i * 2 ^ m % be + (if i = 0 then 0 else dg N (i - 1) / 2 ^ (32 - m)) := by
  have hb : be = 2 ^ (32 - m) * 2 ^ m := by rw [← Nat.pow_add, show 32 - m + m = 32 by omega]; rfl
  have hp := Nat.two_pow_pos m
  have hp' := Nat.two_pow_pos (32 - m)
  -- the number below word i, at word i, above
  have key : ∀ X L : Nat, L < be ^ i → dg ((be ^ i * X + L) * 2 ^ m) i = (X * 2 ^ m + L * 2 ^ m / be ^ i) % be := by
    intro X L hL
    unfold dg
    rw [Nat.add_mul, Nat.mul_assoc, Nat.mul_add_div (bpow_pos i)]
  have hN := Nat.div_add_mod N (be ^ i)
  have hL := Nat.mod_lt N (bpow_pos i)
  have h1 := key (N / be ^ i) (N % be ^ i) hL
  rw [hN] at h1
  rw [h1]
  -- what comes up from below
  have hup : N % be ^ i * 2 ^ m / be ^ i = (if i = 0 then 0 else dg N (i - 1) / 2 ^ (32 - m)) := by
    by_cases h0 : i = 0
    · subst h0; simp [Nat.mod_one]
    · rw [if_neg h0]
      obtain ⟨k, rfl⟩ : ∃ k, i = k + 1 := ⟨i - 1, by omega⟩
      rw [Nat.add_sub_cancel, dg_split, Nat.pow_succ]
      have hr := Nat.mod_lt N (bpow_pos k)
      generalize N % be ^ k = r at *
      generalize dg N k = d at *
      rw [← Nat.div_div_eq_div_mul]
      have e2 : (r + be ^ k * d) * 2 ^ m / be ^ k = d * 2 ^ m + r * 2 ^ m / be ^ k := by
        rw [Nat.add_mul, Nat.mul_assoc, Nat.add_comm, Nat.mul_add_div (bpow_pos k)]
      rw [e2]
      have hr2 : r * 2 ^ m / be ^ k < 2 ^ m := by rw [Nat.div_lt_iff_lt_mul (bpow_pos k), Nat.mul_comm]; exact Nat.mul_lt_mul_of_pos_left hr hp
      generalize r * 2 ^ m / be ^ k = y at *
      rw [hb, Nat.mul_comm (2 ^ (32 - m)), ← Nat.div_div_eq_div_mul, Nat.mul_comm d, Nat.mul_add_div hp, Nat.div_eq_of_lt hr2, Nat.add_zero]
  rw [hup]
  have hlow : (if i = 0 then 0 else dg N (i - 1) / 2 ^ (32 - m)) < 2 ^ m := by
    split
    · exact hp
    · rw [Nat.div_lt_iff_lt_mul hp', Nat.mul_comm, ← hb]; exact dg_lt _ _
  generalize (if i = 0 then 0 else dg N (i - 1) / 2 ^ (32 - m)) = y at *
  unfold dg
  generalize N / be ^ i = X at *
  -- the sum does not carry
  have e3 : X % be * 2 ^ m % be = X % 2 ^ (32 - m) * 2 ^ m := by
    conv => lhs; rw [hb]
    rw [Nat.mul_mod_mul_right, Nat.mod_mul_right_mod]
  have e4 : (X * 2 ^ m + y) % be = X % 2 ^ (32 - m) * 2 ^ m + y := by
    have hx := Nat.div_add_mod X (2 ^ (32 - m))
    have hq := Nat.mod_lt X hp'
    generalize X / 2 ^ (32 - m) = q at *
    generalize X % 2 ^ (32 - m) = r at *
    rw [← hx, Nat.add_mul, show 2 ^ (32 - m) * q * 2 ^ m = be * q by rw [hb, Nat.mul_assoc, Nat.mul_comm q, ← Nat.mul_assoc], Nat.add_assoc, Nat.mul_add_mod, Nat.mod_eq_of_lt]
    have : r * 2 ^ m + 2 ^ m ≤ 2 ^ (32 - m) * 2 ^ m := by rw [← Nat.succ_mul]; exact Nat.mul_le_mul_right _ hq
    rw [hb]; omega
  rw [e3, e4]
/-- Both. -/
theorem dg_shift (N by' i : Nat) : dg (N * 2 ^ by') i = (if i < by' / 32 then 0 else dg N (i - by' / 32)) * 2 ^ (by' % 32) % be + (if i < by' / 32 + 1 then 0 else dg N (i - by' / 32 - 1)) / 2 ^ (32 - by' % 32) := by
  have e : N * 2 ^ by' = N * be ^ (by' / 32) * 2 ^ (by' % 32) := by
    rw [be_two, Nat.mul_assoc, ← Nat.pow_add, Nat.div_add_mod]
  rw [e, dg_bits _ _ (Nat.mod_lt _ (by omega)), dg_words, dg_words]
  congr 1
  by_cases h : i < by' / 32 + 1
  · rw [if_pos h, Nat.zero_div]
    by_cases h0 : i = 0
    · rw [if_pos h0]
    · rw [if_neg h0, if_pos (by omega), Nat.zero_div]
  · rw [if_neg h, if_neg (by omega), if_neg (by omega)]
    congr 2
    omega
/-- Order, from above. -/
theorem dg_cmp (N M i : Nat) (h : N / be ^ (i + 1) = M / be ^ (i + 1)) : N / be ^ i = be * (N / be ^ (i + 1)) + dg N i ∧ M / be ^ i = be * (N / be ^ (i + 1)) + dg M i := by
  have a : ∀ X : Nat, X / be ^ i = be * (X / be ^ (i + 1)) + dg X i := by
    intro X
    unfold dg
    rw [Nat.pow_succ, ← Nat.div_div_eq_div_mul, Nat.div_add_mod]
  exact ⟨a N, by rw [h]; exact a M⟩
theorem div_lt_of (N M k : Nat) (h : N / be ^ k < M / be ^ k) : N < M := by
  rcases Nat.lt_or_ge N M with h' | h'
  · exact h'
  · have := Nat.div_le_div_right (c := be ^ k) h'; omega
/-- Subtraction, word by word: in whatever base. -/
theorem sub_low (p d e r s : Nat) (hr : r < p) (hs : s < p) : r + p * d < s + p * e ↔ d < e + (if r < s then 1 else 0) := by
  have hde : d < e ∨ d = e ∨ e < d := by omega
  rcases hde with hlt | heq | hgt
  · have : p * (d + 1) ≤ p * e := Nat.mul_le_mul_left _ hlt
    rw [Nat.mul_succ] at this
    split <;> constructor <;> intro _ <;> omega
  · subst heq; split <;> constructor <;> intro _ <;> omega
  · have : p * (e + 1) ≤ p * d := Nat.mul_le_mul_left _ hgt
    rw [Nat.mul_succ] at this
    split <;> constructor <;> intro _ <;> omega
theorem sub_gen (p u v r s r' : Nat) (hr : r < p) (hs : s < p) (hr' : r' < p) (h4 : p * u + (r' + s) = p * v + r) : u + (if r < s then 1 else 0) = v := by
  by_cases c : r < s
  · rw [if_pos c]
    rcases Nat.lt_trichotomy (u + 1) v with hlt | heq | hgt
    · have : p * (u + 1 + 1) ≤ p * v := Nat.mul_le_mul_left _ hlt
      rw [Nat.mul_succ, Nat.mul_succ] at this; omega
    · exact heq
    · have : p * v ≤ p * u := Nat.mul_le_mul_left _ (by omega)
      omega
  · rw [if_neg c]
    rcases Nat.lt_trichotomy u v with hlt | heq | hgt
    · have : p * (u + 1) ≤ p * v := Nat.mul_le_mul_left _ hlt
      rw [Nat.mul_succ] at this; omega
    · omega
    · have : p * (v + 1) ≤ p * u := Nat.mul_le_mul_left _ hgt
      rw [Nat.mul_succ] at this; omega
theorem sub_word (b X Y d e c D : Nat) (hd : d < b) (he : e < b) (hc : c ≤ 1) (hle : Y ≤ X) (h : D + (b * Y + e) + c = b * X + d) :
    D % b = if d < e + c then d + b - e - c else d - e - c := by
  obtain ⟨Z, rfl⟩ : ∃ Z, X = Y + Z := ⟨X - Y, by omega⟩
  rw [Nat.mul_add] at h
  by_cases hlt : d < e + c
  · rw [if_pos hlt]
    rcases Nat.eq_zero_or_pos Z with rfl | hZ
    · rw [Nat.mul_zero] at h; omega
    · have e5 : D = b * (Z - 1) + (d + b - e - c) := by
        have : b * Z = b * (Z - 1) + b := by rw [← Nat.mul_succ]; congr 1; omega
        omega
      rw [e5, Nat.mul_add_mod, Nat.mod_eq_of_lt (by omega)]
  · rw [if_neg hlt]
    have e5 : D = b * Z + (d - e - c) := by omega
    rw [e5, Nat.mul_add_mod, Nat.mod_eq_of_lt (by omega)]
def bor (N M i : Nat) : Nat := if N % be ^ i < M % be ^ i then 1 else 0
theorem bor_zero (N M : Nat) : bor N M 0 = 0 := by unfold bor; simp [Nat.mod_one]
theorem bor_le (N M i : Nat) : bor N M i ≤ 1 := by unfold bor; split <;> omega
theorem bor_step (N M i : Nat) : bor N M (i + 1) = (if dg N i < dg M i + bor N M i then 1 else 0) := by
  have h := sub_low (be ^ i) (dg N i) (dg M i) (N % be ^ i) (M % be ^ i) (Nat.mod_lt N (bpow_pos i)) (Nat.mod_lt M (bpow_pos i))
  rw [← dg_split, ← dg_split] at h
  change _ ↔ dg N i < dg M i + bor N M i at h
  show (if N % be ^ (i + 1) < M % be ^ (i + 1) then 1 else 0) = _
  by_cases c : dg N i < dg M i + bor N M i
  · rw [if_pos c, if_pos (h.2 c)]
  · rw [if_neg c, if_neg (fun x => c (h.1 x))]
theorem dg_parts (X i : Nat) : X = be ^ i * (be * (X / be ^ (i + 1)) + dg X i) + X % be ^ i := by
  have a : X / be ^ i = be * (X / be ^ (i + 1)) + dg X i := by
    unfold dg
    rw [Nat.pow_succ, ← Nat.div_div_eq_div_mul, Nat.div_add_mod]
  rw [← a, Nat.div_add_mod]
theorem bor_word (N M i : Nat) (h : M ≤ N) : dg (N - M) i = (if dg N i < dg M i + bor N M i then dg N i + be - dg M i - bor N M i else dg N i - dg M i - bor N M i) := by
  refine sub_word be (N / be ^ (i + 1)) (M / be ^ (i + 1)) (dg N i) (dg M i) (bor N M i) ((N - M) / be ^ i) (Nat.mod_lt _ be_pos) (Nat.mod_lt _ be_pos) (bor_le N M i) (Nat.div_le_div_right h) ?_
  refine sub_gen (be ^ i) _ _ (N % be ^ i) (M % be ^ i) ((N - M) % be ^ i) (Nat.mod_lt _ (bpow_pos i)) (Nat.mod_lt _ (bpow_pos i)) (Nat.mod_lt _ (bpow_pos i)) ?_
  have eN := dg_parts N i
  have eM := dg_parts M i
  have eD := Nat.div_add_mod (N - M) (be ^ i)
  rw [Nat.mul_add]
  generalize be ^ i * ((N - M) / be ^ i) = a at *
  generalize (N - M) % be ^ i = b at *
  generalize be ^ i * (be * (N / be ^ (i + 1)) + dg N i) = c at *
  generalize be ^ i * (be * (M / be ^ (i + 1)) + dg M i) = d at *
  generalize N % be ^ i = r at *
  generalize M % be ^ i = s at *
  omega
/-- The length in bits. -/
theorem len_words {c N : Nat} (h : cntOk c N) (hc : 0 < c) : (c - 1) * 32 + bitLen (dg N (c - 1)) = bitLen N := by
  have hp := (cnt_pos h).1 hc
  have ht := cnt_top h hc
  have h1 : N / 2 ^ (32 * (c - 1)) = dg N (c - 1) := by
    unfold dg
    rw [← be_two, Nat.mod_eq_of_lt]
    rw [Nat.div_lt_iff_lt_mul (bpow_pos _), Nat.mul_comm, ← Nat.pow_succ, show (c - 1).succ = c by omega]; exact h.1
  have := bitLen_shift N (32 * (c - 1)) (by rw [h1]; omega)
  rw [h1] at this
  omega
end Go.Proofs.YtapiifeklimncaaDoor

/- A number in words, in memory. -/
namespace Go.Proofs.YtapiifeklimncaaDoor
open Go.ChangeShapes Go.WideShapes Go.RowKit

/-- Of what was there nothing has turned but block B; there may be more. -/
def Mod (B : Nat) (w w' : World) : Prop := w'.os = w.os ∧ w'.tape = w.tape ∧ w'.output = w.output ∧ w.heap.size ≤ w'.heap.size ∧ ∀ k, k < w.heap.size → k ≠ B → w'.heap[k]? = w.heap[k]?
theorem Mod.refl (B : Nat) (w : World) : Mod B w w := ⟨rfl, rfl, rfl, Nat.le_refl _, fun _ _ _ => rfl⟩
theorem Mod.trans {B : Nat} {a b c : World} (h : Mod B a b) (k : Mod B b c) : Mod B a c :=
  ⟨k.1.trans h.1, k.2.1.trans h.2.1, k.2.2.1.trans h.2.2.1, Nat.le_trans h.2.2.2.1 k.2.2.2.1, fun i hi hb => (k.2.2.2.2 i (Nat.lt_of_lt_of_le hi h.2.2.2.1) hb).trans (h.2.2.2.2 i hi hb)⟩
theorem Mod.drewN {B : Nat} {a w : World} (h : Mod B a w) (n : Nat) : Mod B a (w.drewN n) := h.trans ⟨rfl, rfl, rfl, Nat.le_refl _, fun _ _ _ => rfl⟩
theorem Mod.setCell {B : Nat} {a w : World} (h : Mod B a w) (o : Nat) (u : Value) : Mod B a (w.setCell ⟨B, o, none⟩ u) :=
  h.trans ⟨rfl, rfl, rfl, by simp [World.setCell], fun k _ hk => Below.heap_setCell _ _ _ _ hk⟩
theorem Mod.alloc {B : Nat} {a w : World} (h : Mod B a w) (b : Obj) : Mod B a (w.alloc b) :=
  h.trans ⟨rfl, rfl, rfl, by simp, fun k hk _ => Below.heap_alloc _ _ _ hk⟩
theorem Mod.cell {B : Nat} {w w' : World} (h : Mod B w w') {p : Addr} (hp : p.block ≠ B) (hl : p.block < w.heap.size) : w'.cell? p = w.cell? p := World.cell?_of_block (w := w) (h.2.2.2.2 p.block hl hp)
theorem Mod.frozen {B : Nat} {w w' : World} (h : Mod B w w') {p : Addr} (hp : p.block ≠ B) (hl : p.block < w.heap.size) : w'.frozen? p = w.frozen? p := World.frozen?_of_block (w := w) (h.2.2.2.2 p.block hl hp)
theorem Mod.below {B C : Nat} {w w' : World} (h : Mod B w w') (hC : C ≤ B) (hl : C ≤ w.heap.size) : Below C w w' :=
  ⟨h.1, h.2.1, h.2.2.1, h.2.2.2.1, fun k hk => h.2.2.2.2 k (by omega) (by omega)⟩
theorem Mod.size {B : Nat} {w w' : World} (h : Mod B w w') : w.heap.size ≤ w'.heap.size := h.2.2.2.1
theorem Mod.of_below {B : Nat} {w w' : World} (h : Below w.heap.size w w') : Mod B w w' := ⟨h.os, h.tape, h.output, h.size, fun k hk _ => h.block k hk⟩
theorem Mod.of_only {B : Nat} {w w' : World} (h : Only B w w') : Mod B w w' := ⟨h.1, h.2.1, h.2.2.1, by rw [h.2.2.2.1]; exact Nat.le_refl _, fun k _ hb => h.2.2.2.2 k hb⟩

/-- The cells of a number: the count, 151 words. -/
def lgL (c : Nat) (f : Nat → Nat) : List Value := .int .i64 (c : Int) :: (List.range 151).map fun i => .int .u32 (f i : Int)
theorem lgL_length (c : Nat) (f : Nat → Nat) : (lgL c f).length = 152 := by simp [lgL]
def blk (c : Nat) (f : Nat → Nat) (R : List Value) : Array Value := (lgL c f ++ R).toArray
def upd (f : Nat → Nat) (i v : Nat) : Nat → Nat := fun j => if j = i then v else f j
theorem blk_get0 (c : Nat) (f : Nat → Nat) (R : List Value) : (blk c f R)[0]? = some (.int .i64 (c : Int)) := by simp [blk, lgL]
theorem lgL_get (c : Nat) (f : Nat → Nat) (i : Nat) (h : i < 151) : (lgL c f)[i + 1]? = some (.int .u32 (f i : Int)) := by
  unfold lgL
  rw [List.getElem?_cons_succ, List.getElem?_map, List.getElem?_range h]; rfl
theorem blk_get (c : Nat) (f : Nat → Nat) (R : List Value) (i : Nat) (h : i < 151) : (blk c f R)[i + 1]? = some (.int .u32 (f i : Int)) := by
  unfold blk
  rw [List.getElem?_toArray, List.getElem?_append_left (by rw [lgL_length]; omega), lgL_get c f i h]
theorem blk_tail (c : Nat) (f : Nat → Nat) (R : List Value) (j : Nat) : (blk c f R)[152 + j]? = R[j]? := by
  unfold blk
  rw [List.getElem?_toArray, List.getElem?_append_right (by rw [lgL_length]; omega), lgL_length, Nat.add_sub_cancel_left]
theorem blk_set0 (c c' : Nat) (f : Nat → Nat) (R : List Value) : (blk c f R).setIfInBounds 0 (.int .i64 (c' : Int)) = blk c' f R := by
  unfold blk
  rw [List.setIfInBounds_toArray]; rfl
theorem lgL_set (c : Nat) (f : Nat → Nat) (i v : Nat) : (lgL c f).set (i + 1) (.int .u32 (v : Int)) = lgL c (upd f i v) := by
  unfold lgL
  rw [List.set_cons_succ]
  congr 1
  apply List.ext_getElem
  · simp
  · intro j h1 h2
    rw [List.getElem_set]
    by_cases hj : i = j
    · subst hj; simp [upd]
    · rw [if_neg hj]; simp [upd, show ¬ j = i by omega]
theorem blk_set (c : Nat) (f : Nat → Nat) (R : List Value) (i v : Nat) (h : i < 151) : (blk c f R).setIfInBounds (i + 1) (.int .u32 (v : Int)) = blk c (upd f i v) R := by
  unfold blk
  rw [List.setIfInBounds_toArray, List.set_append_left _ _ (by rw [lgL_length]; omega), lgL_set c f i v]
theorem blk_setT (c : Nat) (f : Nat → Nat) (x y : Value) : (blk c f [x]).setIfInBounds 152 y = blk c f [y] := by
  unfold blk
  rw [List.setIfInBounds_toArray, List.set_append_right _ _ (by rw [lgL_length]; omega), lgL_length]; rfl
theorem lgL_congr (c : Nat) (f g : Nat → Nat) (h : ∀ i, i < 151 → f i = g i) : lgL c f = lgL c g := by
  unfold lgL
  congr 1
  apply List.map_congr_left
  intro i hi
  rw [h i (List.mem_range.1 hi)]
theorem blk_congr (c : Nat) (f g : Nat → Nat) (R : List Value) (h : ∀ i, i < 151 → f i = g i) : blk c f R = blk c g R := by unfold blk; rw [lgL_congr c f g h]
theorem blk_size (c : Nat) (f : Nat → Nat) (R : List Value) : (blk c f R).size = 152 + R.length := by simp [blk, lgL_length]

/-- A number's words lie in block B. -/
def LB (w : World) (B c : Nat) (f : Nat → Nat) (R : List Value) (t : TypeId) : Prop := w.heap[B]? = some (.cells (blk c f R) t (0, 0))
theorem cell_of_heap {w : World} {B : Nat} {cs : Array Value} {t : TypeId} (h : w.heap[B]? = some (.cells cs t (0, 0))) (o : Nat) : w.cell? ⟨B, o, none⟩ = cs[o]? := by simp [World.cell?, h]
theorem frozen_of_heap {w : World} {B : Nat} {cs : Array Value} {t : TypeId} (h : w.heap[B]? = some (.cells cs t (0, 0))) (o : Nat) : w.frozen? ⟨B, o, none⟩ = false := by simp [World.frozen?, h]
theorem LB.cnt {w : World} {B c : Nat} {f : Nat → Nat} {R : List Value} {t : TypeId} (h : LB w B c f R t) : w.cell? ⟨B, 0, none⟩ = some (.int .i64 (c : Int)) := by rw [cell_of_heap h, blk_get0]
theorem LB.wrd {w : World} {B c : Nat} {f : Nat → Nat} {R : List Value} {t : TypeId} (h : LB w B c f R t) (i : Nat) (hi : i < 151) : w.cell? ⟨B, i + 1, none⟩ = some (.int .u32 (f i : Int)) := by rw [cell_of_heap h, blk_get c f R i hi]
theorem LB.wrd' {w : World} {B c : Nat} {f : Nat → Nat} {R : List Value} {t : TypeId} (h : LB w B c f R t) (i : Nat) (hi : i < 151) : w.cell? ⟨B, 1 + i, none⟩ = some (.int .u32 (f i : Int)) := by rw [Nat.add_comm]; exact h.wrd i hi
theorem LB.froz {w : World} {B c : Nat} {f : Nat → Nat} {R : List Value} {t : TypeId} (h : LB w B c f R t) (o : Nat) : w.frozen? ⟨B, o, none⟩ = false := frozen_of_heap h o
theorem LB.lt {w : World} {B c : Nat} {f : Nat → Nat} {R : List Value} {t : TypeId} (h : LB w B c f R t) : B < w.heap.size := (Array.getElem?_eq_some_iff.1 h).1
theorem LB.setw {w : World} {B c : Nat} {f : Nat → Nat} {R : List Value} {t : TypeId} (h : LB w B c f R t) (i v : Nat) (hi : i < 151) : LB (w.setCell ⟨B, i + 1, none⟩ (.int .u32 (v : Int))) B c (upd f i v) R t := by
  unfold LB
  rw [setCell_eq_setRow w B (i + 1) _ t (0, 0) _ h, blk_set c f R i v hi]
  exact setRow_heap w B _ _ t (0, 0) h
theorem LB.setw' {w : World} {B c : Nat} {f : Nat → Nat} {R : List Value} {t : TypeId} (h : LB w B c f R t) (i v : Nat) (hi : i < 151) : LB (w.setCell ⟨B, 1 + i, none⟩ (.int .u32 (v : Int))) B c (upd f i v) R t := by rw [Nat.add_comm]; exact h.setw i v hi
theorem LB.setc {w : World} {B c : Nat} {f : Nat → Nat} {R : List Value} {t : TypeId} (h : LB w B c f R t) (c' : Nat) : LB (w.setCell ⟨B, 0, none⟩ (.int .i64 (c' : Int))) B c' f R t := by
  unfold LB
  rw [setCell_eq_setRow w B 0 _ t (0, 0) _ h, blk_set0]
  exact setRow_heap w B _ _ t (0, 0) h
theorem LB.congr {w : World} {B c : Nat} {f : Nat → Nat} {R : List Value} {t : TypeId} (h : LB w B c f R t) (g : Nat → Nat) (hg : ∀ i, i < 151 → f i = g i) : LB w B c g R t := by
  unfold LB; rw [← blk_congr c f g R hg]; exact h
theorem LB.other {w w' : World} {B B' c : Nat} {f : Nat → Nat} {R : List Value} {t : TypeId} (h : LB w B c f R t) (hm : Mod B' w w') (hB : B ≠ B') : LB w' B c f R t := (hm.2.2.2.2 B h.lt hB).trans h
theorem LB.drewN {w : World} {B c : Nat} {f : Nat → Nat} {R : List Value} {t : TypeId} (h : LB w B c f R t) (n : Nat) : LB (w.drewN n) B c f R t := h
theorem LB.alloc {w : World} {B c : Nat} {f : Nat → Nat} {R : List Value} {t : TypeId} (h : LB w B c f R t) (b : Obj) : LB (w.alloc b) B c f R t := by
  have hl := h.lt
  unfold LB at *
  rw [Below.heap_alloc _ _ _ hl]; exact h
theorem LB.new (w : World) (c : Nat) (f : Nat → Nat) (R : List Value) (t : TypeId) : LB (w.alloc (.cells (blk c f R) t)) w.heap.size c f R t :=
  heap_alloc_last w _
/-- A number N: its own words and their count. -/
def Lg (w : World) (B N : Nat) (R : List Value) (t : TypeId) : Prop := ∃ c, c ≤ 151 ∧ cntOk c N ∧ LB w B c (dg N) R t
theorem Lg.lt {w : World} {B N : Nat} {R : List Value} {t : TypeId} (h : Lg w B N R t) : B < w.heap.size := by obtain ⟨_, _, _, h⟩ := h; exact h.lt
theorem Lg.other {w w' : World} {B B' N : Nat} {R : List Value} {t : TypeId} (h : Lg w B N R t) (hm : Mod B' w w') (hB : B ≠ B') : Lg w' B N R t := by
  obtain ⟨c, h1, h2, h3⟩ := h; exact ⟨c, h1, h2, h3.other hm hB⟩
/-- The value of a number. -/
def lgV (c N : Nat) : Value := .agg (lgL c (dg N)).toArray
end Go.Proofs.YtapiifeklimncaaDoor

/- The number that digits tell: plain. -/
namespace Go.Proofs.YtapiifeklimncaaDoor
open Go.RowKit

/-- The number that digits tell. -/
def valN (b : Nat) (l : List UInt8) : Nat := (val (b : Int) l).toNat
theorem valN_cast (b : Nat) (l : List UInt8) : (valN b l : Int) = val (b : Int) l := Int.toNat_of_nonneg (val_nonneg _ (by omega) l)
theorem valN_step (b : Nat) (s : ByteArray) (k : Nat) (h : k < s.size) (d : Nat) (hd : (d : Int) = digN 99 (s[k].toNat : Int)) : valN b (s.data.toList.take (k + 1)) = valN b (s.data.toList.take k) * b + d := by
  have h1 := valN_cast b (s.data.toList.take (k + 1))
  rw [val_step (b : Int) s k h, ← valN_cast b (s.data.toList.take k), ← hd] at h1
  rw [← Int.natCast_mul, ← Int.natCast_add] at h1
  exact Int.ofNat_inj.1 h1
theorem valN_lt (b : Nat) (hb : b ≤ 4000000000) (l : List UInt8) : valN b l < 4294967296 ^ l.length := by
  have key : ∀ (l : List UInt8) (n : Int) (k : Nat), 0 ≤ n → n.toNat < 4294967296 ^ k → (l.foldl (fun n c => n * (b : Int) + digN 99 c.toNat) n).toNat < 4294967296 ^ (k + l.length) := by
    intro l
    induction l with
    | nil => intro n k _ h; simpa using h
    | cons c l ih =>
      intro n k h0 h
      have hd := digN_lo 99 c.toNat (by omega)
      have hd' := digN_hi 99 c.toNat (by omega)
      have hm : 0 ≤ n * (b : Int) := Int.mul_nonneg h0 (by omega)
      obtain ⟨m, rfl⟩ := Int.eq_ofNat_of_zero_le h0
      rw [Int.toNat_natCast] at h
      have hs : ((m : Int) * (b : Int) + digN 99 c.toNat).toNat < 4294967296 ^ (k + 1) := by
        have e : (m : Int) * (b : Int) = ((m * b : Nat) : Int) := (Int.natCast_mul m b).symm
        rw [e, Nat.pow_succ]
        have h2 : m * b ≤ (4294967296 ^ k - 1) * 4000000000 := Nat.mul_le_mul (by omega) hb
        have h3 : 0 < 4294967296 ^ k := Nat.pow_pos (by omega)
        omega
      have := ih _ (k + 1) (by omega) hs
      rw [List.length_cons, show k + (l.length + 1) = k + 1 + l.length by omega]
      exact this
  have := key l 0 0 (by omega) (by simp)
  rw [Nat.zero_add] at this
  exact this
theorem valN_take_lt (b : Nat) (hb : b ≤ 4000000000) (s : ByteArray) (k : Nat) : valN b (s.data.toList.take k) < 4294967296 ^ s.size := by
  refine Nat.lt_of_lt_of_le (valN_lt b hb _) (Nat.pow_le_pow_right (by omega) ?_)
  rw [List.length_take]
  have : s.data.toList.length = s.size := by simp
  omega
end Go.Proofs.YtapiifeklimncaaDoor

