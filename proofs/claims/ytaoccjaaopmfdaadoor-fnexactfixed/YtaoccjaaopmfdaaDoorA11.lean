import Derived.Test.YtaoccjaaopmfdaaDoorA09
import Derived.Test.YtaoccjaaopmfdaaDoorA06
import Derived.Lib.Strings
import Derived.Test.YtaoccjaaopmfdaaDoorA08
/- A number times a power of two, written out with a point: plain. -/
namespace Go.Proofs.YtaoccjaaopmfdaaDoor
open Go.RowKit

def dotB : ByteArray := ⟨#[46]⟩
/-- Digits, a point, digits: the number A times 2 to the e, exactly. -/
def Pointed (t : ByteArray) (A : Nat) (e : Int) : Prop := ∃ a b : ByteArray, t = a ++ dotB ++ b ∧ 0 < a.size ∧ b.size = (if 0 ≤ e ∨ A = 0 then 1 else (-e).toNat) ∧ good 10 (a ++ b).data.toList
  ∧ valN 10 (a ++ b).data.toList * 2 ^ (-e).toNat = A * 2 ^ e.toNat * 10 ^ b.size ∧ (a.size = 1 ∨ 10 ^ (a.size - 1) * 10 ^ b.size ≤ valN 10 (a ++ b).data.toList)
theorem valN_append (l m : List UInt8) : valN 10 (l ++ m) = valN 10 l * 10 ^ m.length + valN 10 m := by
  have h := fold_split 10 m (val 10 l)
  have e : val 10 (l ++ m) = val 10 l * 10 ^ m.length + val 10 m := by
    unfold val at h ⊢
    rw [List.foldl_append]
    exact h
  have h1 := valN_cast 10 (l ++ m)
  have h2 := valN_cast 10 l
  have h3 := valN_cast 10 m
  rw [show ((10 : Nat) : Int) = 10 from rfl] at h1 h2 h3
  rw [e, ← h2, ← h3] at h1
  have h4 : ((valN 10 l * 10 ^ m.length + valN 10 m : Nat) : Int) = (valN 10 l : Int) * 10 ^ m.length + (valN 10 m : Int) := by
    rw [Int.natCast_add, Int.natCast_mul, Int.natCast_pow]; rfl
  omega
theorem append_list (a b : ByteArray) : (a ++ b).data.toList = a.data.toList ++ b.data.toList := by simp [ByteArray.data_append]
theorem append_size (a b : ByteArray) : (a ++ b).size = a.size + b.size := by simp
theorem extract_join (s : ByteArray) (k : Nat) : (s.extract 0 k ++ s.extract k s.size).data.toList = s.data.toList := by
  rw [append_list, Lib.extract_eq, Lib.extract_eq]
  simp
  have h1 : (s.data.toList.drop k).take (s.size - k) = s.data.toList.drop k := List.take_of_length_le (by rw [List.length_drop, data_len]; omega)
  rw [h1, List.take_append_drop]
theorem good_append (l m : List UInt8) (h : good 10 l) (h' : good 10 m) : good 10 (l ++ m) := fun c hc => by
  rcases List.mem_append.1 hc with h1 | h1
  · exact h c h1
  · exact h' c h1
theorem good_zeros (n : Nat) : good 10 (List.replicate n (48 : UInt8)) := fun c hc => by rw [List.eq_of_mem_replicate hc]; decide
theorem valN_zeros (n : Nat) : valN 10 (List.replicate n (48 : UInt8)) = 0 := by
  induction n with
  | zero => exact valN_nil 10
  | succ n ih => rw [List.replicate_succ, valN_zero 10 48 _ rfl]; exact ih
theorem dec_pos (ds : ByteArray) (A : Nat) (h : IsDec ds A) (hp : 0 < A) : 0 < ds.size := by
  apply Nat.pos_of_ne_zero
  intro h0
  have e : ds.data.toList = [] := List.length_eq_zero_iff.1 (by rw [data_len]; exact h0)
  have := h.2.1
  rw [e, valN_nil] at this
  omega
/-- Above: nothing is behind the point but a zero. -/
theorem pointed_up (ds : ByteArray) (A E : Nat) (hA : 0 < A) (h : IsDec ds (A * 2 ^ E)) : Pointed (ds ++ dotB ++ ⟨#[48]⟩) A (E : Int) := by
  have hp : 0 < A * 2 ^ E := Nat.mul_pos hA (Nat.two_pow_pos E)
  have h0 : 0 < ds.size := dec_pos ds _ h hp
  have hv : valN 10 (ds ++ (⟨#[48]⟩ : ByteArray)).data.toList = A * 2 ^ E * 10 := by
    rw [append_list, valN_append, h.2.1]; rfl
  refine ⟨ds, ⟨#[48]⟩, rfl, h0, ?_, ?_, ?_, ?_⟩
  · rw [if_pos (.inl (by omega))]; rfl
  · rw [append_list]; exact good_append _ _ h.1 (good_zeros 1)
  · rw [hv, show (-(E : Int)).toNat = 0 by omega, show ((E : Int)).toNat = E by omega]
    show A * 2 ^ E * 10 * 2 ^ 0 = A * 2 ^ E * 10 ^ 1
    omega
  · right
    rw [hv]
    have := (dec_bounds ds _ h h0).1
    show 10 ^ (ds.size - 1) * 10 ^ 1 ≤ A * 2 ^ E * 10
    omega
/-- Below: as many digits behind the point as the power asks. -/
theorem pointed_down (ds : ByteArray) (A s k : Nat) (z : Nat) (hA : 0 < A) (hs : 0 < s) (l : List UInt8) (hl : ds.data.toList = List.replicate z 48 ++ l) (hg : good 10 l) (hv : valN 10 l = A * 5 ^ s) (hk : ds.size = k + s) (hk0 : 0 < k)
    (hz : k = 1 ∨ 10 ^ (ds.size - 1) ≤ A * 5 ^ s) : Pointed (ds.extract 0 k ++ dotB ++ ds.extract k ds.size) A (-(s : Int)) := by
  have hj := extract_join ds k
  have hvd : valN 10 ds.data.toList = A * 5 ^ s := by rw [hl, valN_append, valN_zeros, Nat.zero_mul, Nat.zero_add, hv]
  have sa : (ds.extract 0 k).size = k := by simp; omega
  have sb : (ds.extract k ds.size).size = s := by simp; omega
  refine ⟨_, _, rfl, by omega, ?_, ?_, ?_, ?_⟩
  · rw [sb, if_neg (by omega)]; omega
  · rw [hj, hl]; exact good_append _ _ (good_zeros z) hg
  · rw [hj, hvd, sb, show (-(-(s : Int))).toNat = s by omega, show (-(s : Int)).toNat = 0 by omega, Nat.pow_zero, Nat.mul_one, show (10 : Nat) = 5 * 2 from rfl, Nat.mul_pow, Nat.mul_assoc]
  · rw [hj, hvd, sa, sb]
    rcases hz with h | h
    · exact .inl h
    · right
      rw [← Nat.pow_add, show k - 1 + s = ds.size - 1 by omega]
      exact h
theorem pointed_zero (e : Int) : Pointed ⟨#[48, 46, 48]⟩ 0 e := by
  refine ⟨⟨#[48]⟩, ⟨#[48]⟩, rfl, by decide, by rw [if_pos (.inr rfl)]; rfl, good_zeros 2, ?_, .inl rfl⟩
  rw [show valN 10 ((⟨#[48]⟩ : ByteArray) ++ ⟨#[48]⟩).data.toList = 0 from valN_zeros 2]
  omega
theorem dec_few (s : ByteArray) (A n : Nat) (h : IsDec s A) (hA : A < 4294967296 ^ n) : s.size ≤ 32 * n + 1 := by
  by_cases h0 : s.size = 0
  · omega
  · have h1 := (dec_bounds s A h (by omega)).1
    have h2 : 2 ^ (s.size - 1) ≤ 10 ^ (s.size - 1) := Nat.pow_le_pow_left (by omega) _
    have e : 4294967296 ^ n = 2 ^ (32 * n) := by rw [Nat.pow_mul]
    rw [e] at hA
    have := (Nat.pow_lt_pow_iff_right (a := 2) (by omega)).1 (Nat.lt_of_le_of_lt h2 (Nat.lt_of_le_of_lt h1 hA))
    omega
/-- How long such a text is. -/
theorem pointed_size (t : ByteArray) (A : Nat) (e : Int) (h : Pointed t A e) (hA : A < 18446744073709551616) : t.size ≤ 2 + (64 + e.toNat - (-e).toNat) / 3 + (if 0 ≤ e ∨ A = 0 then 1 else (-e).toNat) := by
  obtain ⟨a, b, rfl, h0, hb, _, hv, hz⟩ := h
  rw [← hb, append_size, append_size, show dotB.size = 1 from rfl]
  have key : a.size - 1 ≤ (64 + e.toNat - (-e).toNat) / 3 := by
    rcases hz with hz | hz
    · omega
    · have h1 : 10 ^ (a.size - 1) * 10 ^ b.size * 2 ^ (-e).toNat ≤ A * 2 ^ e.toNat * 10 ^ b.size := by
        rw [← hv]; exact Nat.mul_le_mul_right _ hz
      have h2 : 10 ^ (a.size - 1) * 2 ^ (-e).toNat ≤ A * 2 ^ e.toNat := by
        apply Nat.le_of_mul_le_mul_right _ (Nat.pow_pos (show 0 < 10 by omega) (n := b.size))
        rw [Nat.mul_right_comm]; exact h1
      have h3 : 2 ^ (3 * (a.size - 1)) ≤ 10 ^ (a.size - 1) := by rw [Nat.pow_mul]; exact Nat.pow_le_pow_left (by omega) _
      have h4 : 2 ^ (3 * (a.size - 1) + (-e).toNat) ≤ A * 2 ^ e.toNat := by
        rw [Nat.pow_add]; exact Nat.le_trans (Nat.mul_le_mul_right _ h3) h2
      have h5 : A * 2 ^ e.toNat < 2 ^ (64 + e.toNat) := by
        rw [Nat.pow_add]
        exact Nat.mul_lt_mul_of_pos_right (show A < 2 ^ 64 from hA) (Nat.two_pow_pos _)
      have h6 := (Nat.pow_lt_pow_iff_right (a := 2) (by omega)).1 (Nat.lt_of_le_of_lt h4 h5)
      omega
  omega
end Go.Proofs.YtaoccjaaopmfdaaDoor

/- All digits of a number: plain. -/
namespace Go.Proofs.YtaoccjaaopmfdaaDoor
open Go.RowKit

/-- 0.DIGITS times 10 to the pow is M times 2 to the E; the first and the last digit are not 0. -/
def ExD (ds : ByteArray) (pow : Int) (M : Nat) (E : Int) : Prop := 0 < ds.size ∧ good 10 ds.data.toList ∧ (∀ h : 0 < ds.size, ds[0].toNat ≠ 48) ∧ (∀ h : ds.size - 1 < ds.size, ds[ds.size - 1].toNat ≠ 48)
  ∧ valN 10 ds.data.toList * 10 ^ (pow - (ds.size : Int)).toNat * 2 ^ (-E).toNat = M * 2 ^ E.toNat * 10 ^ ((ds.size : Int) - pow).toNat
/-- While zeros at the end are left out. -/
def Stp (d0 t : ByteArray) (j : Nat) : Prop := 0 < t.size ∧ good 10 t.data.toList ∧ (∀ h : 0 < t.size, t[0].toNat ≠ 48) ∧ valN 10 d0.data.toList = valN 10 t.data.toList * 10 ^ j ∧ t.size + j = d0.size
theorem stp_start (d0 : ByteArray) (A : Nat) (h : IsDec d0 A) (hA : 0 < A) : Stp d0 d0 0 := ⟨dec_pos d0 A h hA, h.1, h.2.2, by rw [Nat.pow_zero, Nat.mul_one], rfl⟩
theorem last_cut (t : ByteArray) (h : 0 < t.size) : t.data.toList = (t.extract 0 (t.size - 1)).data.toList ++ [t[t.size - 1]] := by
  have e : (t.extract 0 (t.size - 1)).data.toList = t.data.toList.take (t.size - 1) := by rw [Lib.extract_eq]; simp
  rw [e]
  have := List.take_append_getLast t.data.toList
  have h1 : t.data.toList.take (t.size - 1 + 1) = t.data.toList.take (t.size - 1) ++ [t.data.toList[t.size - 1]'(by rw [data_len]; omega)] := List.take_succ_eq_append_getElem (by rw [data_len]; omega)
  rw [show t.size - 1 + 1 = t.size by omega, List.take_of_length_le (by rw [data_len]; omega)] at h1
  exact h1
theorem valN_last (t : ByteArray) (h : 0 < t.size) (hz : t[t.size - 1].toNat = 48) : valN 10 t.data.toList = valN 10 (t.extract 0 (t.size - 1)).data.toList * 10 := by
  have e := last_cut t h
  have h1 : valN 10 [t[t.size - 1]] = 0 := by rw [valN_zero 10 _ _ hz, valN_nil]
  rw [e, valN_append, h1]
  rfl
theorem stp_next (d0 t : ByteArray) (j : Nat) (hp : 0 < valN 10 d0.data.toList) (h : Stp d0 t j) (hz : ∀ h : t.size - 1 < t.size, t[t.size - 1].toNat = 48) : Stp d0 (t.extract 0 (t.size - 1)) (j + 1) := by
  obtain ⟨h1, h2, h3, h4, h5⟩ := h
  have hv := valN_last t h1 (hz (by omega))
  have hs : (t.extract 0 (t.size - 1)).size = t.size - 1 := by simp
  have h0 : 0 < t.size - 1 := by
    apply Nat.pos_of_ne_zero
    intro h0
    have e : (t.extract 0 (t.size - 1)).data.toList = [] := List.length_eq_zero_iff.1 (by rw [data_len, hs]; exact h0)
    rw [hv, e, valN_nil] at h4
    omega
  refine ⟨by omega, ?_, ?_, ?_, by omega⟩
  · intro c hc
    exact h2 c (by rw [last_cut t h1]; exact List.mem_append_left _ hc)
  · intro h
    have := h3 h1
    rw [ByteArray.getElem_extract]
    simpa using this
  · rw [h4, hv, Nat.pow_succ, Nat.mul_assoc, Nat.mul_comm 10]
theorem stp_end (d0 t : ByteArray) (j M s : Nat) (E : Int) (h : Stp d0 t j) (hz : ∀ h : t.size - 1 < t.size, t[t.size - 1].toNat ≠ 48) (hA : valN 10 d0.data.toList = M * 2 ^ E.toNat * 5 ^ s) (hs : s = (-E).toNat) : ExD t ((d0.size : Int) - (s : Int)) M E := by
  obtain ⟨h1, h2, h3, h4, h5⟩ := h
  refine ⟨h1, h2, h3, hz, ?_⟩
  rw [show ((d0.size : Int) - (s : Int) - (t.size : Int)).toNat = j - s by omega, show ((t.size : Int) - ((d0.size : Int) - (s : Int))).toNat = s - j by omega, ← hs]
  apply Nat.eq_of_mul_eq_mul_right (Nat.pow_pos (show 0 < 10 by omega) (n := min j s))
  have e1 : 10 ^ (j - s) * 10 ^ min j s = 10 ^ j := by rw [← Nat.pow_add]; congr 1; omega
  have e2 : 10 ^ (s - j) * 10 ^ min j s = 10 ^ s := by rw [← Nat.pow_add]; congr 1; omega
  have e3 : (10 : Nat) ^ s = 5 ^ s * 2 ^ s := by rw [← Nat.mul_pow]
  rw [Nat.mul_assoc (M * 2 ^ E.toNat), e2, e3, ← Nat.mul_assoc, ← hA, h4]
  rw [Nat.mul_right_comm, Nat.mul_assoc (valN 10 t.data.toList), e1]
end Go.Proofs.YtaoccjaaopmfdaaDoor

/- l0times of the specification. -/
namespace Go.Proofs.YtaoccjaaopmfdaaDoor
open Go.ChangeShapes Go.WideShapes Go.RowKit

theorem bval_drop (a : List Nat) (k : Nat) (h : k < a.length) : bval (a.drop k) = a.getD k 0 + 4294967296 * bval (a.drop (k + 1)) := by
  rw [List.drop_eq_getElem_cons h]
  simp [bval, List.getElem?_eq_getElem h]
theorem drop_lt {a : List Nat} (hl : Lim a) (k n : Nat) (h : a.length ≤ n) : bval (a.drop k) < 4294967296 ^ n := by
  have h1 := bval_lt (a := a.drop k) fun x hx => hl x (List.mem_of_mem_drop hx)
  have h2 : 4294967296 ^ (a.drop k).length ≤ 4294967296 ^ n := Nat.pow_le_pow_right (by omega) (by rw [List.length_drop]; omega)
  omega
theorem mul_bound {a b n m : Nat} (ha : a < 4294967296 ^ n) (hb : b < 4294967296 ^ m) : a * b < 4294967296 ^ (n + m) := by
  rw [Nat.pow_add]
  exact Nat.mul_lt_mul_of_lt_of_le ha (Nat.le_of_lt hb) (Nat.pow_pos (by omega))
theorem times_round (A y d : Nat) : A * d * 2 ^ 32 + (A * y + 0) = A * (y + 4294967296 * d) := by
  have e : (2 : Nat) ^ 32 = 4294967296 := rfl
  rw [e, Nat.mul_add, Nat.add_zero, Nat.mul_comm 4294967296 d, ← Nat.mul_assoc]
  omega
theorem shl_bound {x n : Nat} (h : x < 4294967296 ^ n) : x * 2 ^ 32 < 4294967296 ^ (n + 1) := by
  have e : (2 : Nat) ^ 32 = 4294967296 := rfl
  rw [e, Nat.pow_succ]
  exact Nat.mul_lt_mul_of_pos_right h (by omega)
theorem part_bound {A y n : Nat} (h : A < 4294967296 ^ n) (hy : y < 4294967296) : A * y + 0 < 4294967296 ^ (n + n + 1) := by
  have h1 := mul_bound h (m := 1) (b := y) (by omega)
  have h2 : 4294967296 ^ (n + 1) ≤ 4294967296 ^ (n + n + 1) := Nat.pow_le_pow_right (by omega) (by omega)
  omega

set_option maxHeartbeats 3200000 in
set_option maxRecDepth 100000 in
theorem l0times_any (v u : Value) (A C n : Nat) (w : World) (h : Big w v A) (h' : Big w u C) (hA : A < 4294967296 ^ n) (hC : C < 4294967296 ^ n) (hn : n < 200000) :
    Calls Tryd.prog 32 #[v, u] w fun e w' => ∃ v', e = .returned v' ∧ Below w.heap.size w w' ∧ Big w' v' (A * C) := by
  obtain ⟨ms, b1, b2, b3, rfl⟩ := h'
  have hlen := trim_len b3 hC
  obtain ⟨bo, bcap, rfl, bc, bm, bh⟩ := b1
  have bm' : bcap ≤ 9223372036854775807 := bm
  have HA : Hid (Big w v A) := h
  have HB : Hid _ := bh
  have LB : Hid _ := b2
  have HP : Hid _ := fun k => mul_bound hA (drop_lt b2 k n hlen)
  have HQ : Hid (A < 4294967296 ^ n) := hA
  clear h bh bm b2 b3 hC hA
  go_enter Tryd.func32, Tryd.ntmps32
  go_wp2
  go_loopw [5, 6] (fun v i wr => ∃ k : Nat, i = .int .i64 ((k : Int) - 1) ∧ k ≤ ms.length ∧ Hid (Big wr v (A * bval (ms.drop k))) ∧ Below w.heap.size w wr) (fun _ i _ => (intOf i + 1).toNat)
  case atStart => exact ⟨ms.length, rfl, Nat.le_refl _, by show Big _ _ _; rw [List.drop_length]; exact ⟨[], Row.nil w, fun _ h => absurd h (by simp), rfl, by simp [bval]⟩, Below.refl _ _⟩
  case round =>
    obtain ⟨k, rfl, hk, HD, hbe⟩ := hrel
    have hsz := hbe.size
    cases k with
    | zero =>
      go_wp2
      go_ret
      exact ⟨_, rfl, hbe, HD.out⟩
    | succ k =>
      obtain ⟨g, rfl, hg, hcl⟩ := Row.block bc HB.out (t := k) (by omega)
      have hyl := lim_get LB.out k
      have HS : Hid _ := bval_drop ms k (by omega)
      have hcy := hcl k (by omega)
      clear hcl
      generalize ms.getD k 0 = y at *
      have HN1 : Hid _ := shl_bound (HP.out (k + 1))
      have HN2 : Hid _ := part_bound HQ.out hyl
      go_wp2_with (first
        | (go_at_call 31; refine (l0shl_big _ _ (n + n) 32 _ HD.out (HP.out (k + 1)) (by omega) (by omega)).mono ?_; rintro e w2 ⟨v2, rfl, hb2, hv2⟩; have hbe2 := hbe.trans (hb2.mono hsz); have hy2 : w2.cell? ⟨g, k, none⟩ = some (.int .u64 (y : Nat)) := (hbe2.cell hg).trans hcy)
        | (go_at_call 50; refine (l0mul_big _ A y 0 n _ (HA.out.below hbe2 (Nat.le_refl _)) HQ.out (by omega) hyl (by omega)).mono ?_; rintro e w3 ⟨v3, rfl, hb3, hv3⟩)
        | (go_at_call 51; refine (l0add_any _ _ _ _ (n + n + 1) _ (hv2.below hb3 (Nat.le_refl _)) hv3 HN1.out HN2.out (by omega)).mono ?_; rintro e w4 ⟨v4, rfl, hb4, hv4⟩))
      go_roundw
      case rel => exact ⟨k, rfl, by omega, by show Big _ _ _; rw [HS.out, ← times_round]; exact hv4, hbe2.trans ((hb3.mono hbe2.size).trans (hb4.mono (Nat.le_trans hbe2.size hb3.size)))⟩
      case measure => simp only [intOf]; omega
end Go.Proofs.YtaoccjaaopmfdaaDoor

