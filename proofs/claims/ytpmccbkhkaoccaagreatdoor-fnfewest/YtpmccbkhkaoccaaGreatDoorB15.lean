import Derived.Test.YtpmccbkhkaoccaaGreatDoorB14
import Derived.Test.YtpmccbkhkaoccaaGreatDoorB10
import Derived.Test.YtpmccbkhkaoccaaGreatDoorB06
/- What is read behind zeros, or behind a minus: plain. -/
namespace Go.Proofs.YtpmccbkhkaoccaaGreatDoor
open Go.RowKit

theorem dig_shift (b : Int) (p s : ByteArray) (i : Nat) : Dig b (p ++ s) (p.size + i) ↔ Dig b s i := by
  unfold Dig
  rw [bAt_append_right, append_size]
  constructor <;> rintro ⟨h1, h2⟩ <;> exact ⟨by omega, h2⟩
theorem run_shift {b : Int} (p : ByteArray) {s : ByteArray} {k j : Nat} (h : Run b s k j) : Run b (p ++ s) (p.size + k) (p.size + j) := by
  obtain ⟨h1, h2, h3, h4⟩ := h
  refine ⟨by omega, by rw [append_size]; omega, fun i a c => ?_, fun h => h4 ((dig_shift b p s j).1 h)⟩
  have := (dig_shift b p s (i - p.size)).2 (h3 (i - p.size) (by omega) (by omega))
  rwa [show p.size + (i - p.size) = i by omega] at this
theorem sgn_shift (p : ByteArray) {s : ByteArray} {k j : Nat} {n : Bool} (h : Sgn s k n j) : Sgn (p ++ s) (p.size + k) n (p.size + j) := by
  unfold Sgn
  rw [bAt_append_right, append_size]
  rcases h with ⟨a, c, d, rfl⟩ | ⟨a, c, d, rfl⟩ | ⟨a, c, d, rfl⟩
  · exact .inl ⟨by omega, c, d, by omega⟩
  · exact .inr (.inl ⟨by omega, c, d, by omega⟩)
  · exact .inr (.inr ⟨a, c, d, rfl⟩)
theorem extract_shift (p s : ByteArray) (k j : Nat) : (p ++ s).extract (p.size + k) (p.size + j) = s.extract k j := by
  apply ByteArray.ext
  apply Array.toList_inj.1
  rw [Lib.extract_eq, Lib.extract_eq, append_list]
  have e1 : p.size + j - (p.size + k) = j - k := by omega
  have e2 : p.data.toList.length = p.size := data_len p
  simp only [e1, List.drop_append, e2]
  rw [List.drop_eq_nil_of_le (by omega), show p.size + k - p.size = k by omega, List.nil_append]
theorem extract_from (p s : ByteArray) (j : Nat) : (p ++ s).extract 0 (p.size + j) = p ++ s.extract 0 j := by
  apply ByteArray.ext
  apply Array.toList_inj.1
  rw [Lib.extract_eq, append_list, append_list, Lib.extract_eq]
  have e2 : p.data.toList.length = p.size := data_len p
  simp only [Nat.sub_zero, List.drop_zero]
  rw [List.take_append, List.take_of_length_le (by omega), e2, show p.size + j - p.size = j by omega]
theorem runV_shift (b : Nat) (p s : ByteArray) (k j : Nat) : runV b (p ++ s) (p.size + k) (p.size + j) = runV b s k j := by
  unfold runV; rw [extract_shift]
theorem expo_shift {m : Int} (p : ByteArray) {s : ByteArray} {j : Nat} {n : Int} {a : Nat} (h : Expo m s j (.inl (n, a))) : Expo m (p ++ s) (p.size + j) (.inl (n, p.size + a)) := by
  unfold Expo
  rw [bAt_append_right]
  rcases h with ⟨h1, h2⟩ | ⟨h1, neg, k, i, hs, hr, ⟨_, h2⟩ | ⟨hk, h2⟩⟩
  · obtain ⟨rfl, rfl⟩ : n = 0 ∧ a = j := by simpa using h2
    exact .inl ⟨h1, rfl⟩
  · cases h2
  · obtain ⟨rfl, rfl⟩ : n = expV neg (runV 10 s k i) ∧ a = i := by simpa using h2
    have hs' := sgn_shift p hs
    rw [show p.size + (j + 1) = p.size + j + 1 by omega] at hs'
    exact .inr ⟨h1, neg, p.size + k, p.size + a, hs', run_shift p hr, .inr ⟨by omega, by rw [runV_shift]⟩⟩
/-- The digits' part, behind a text: as it was. -/
theorem frac_shift {b : Nat} (p : ByteArray) {s : ByteArray} {k j i : Nat} {ds : ByteArray} {e : Int} (h : Frac b s k j (some (ds, e, i))) : Frac b (p ++ s) (p.size + k) (p.size + j) (some (ds, e, p.size + i)) := by
  unfold Frac
  rw [bAt_append_right]
  rcases h with ⟨h1, h2⟩ | ⟨h1, i', hr, ⟨_, h2⟩ | ⟨hk, h2⟩⟩
  · obtain ⟨rfl, rfl, rfl⟩ : ds = s.extract k j ∧ e = 0 ∧ i = j := by simpa using h2
    exact .inl ⟨h1, by rw [extract_shift]⟩
  · cases h2
  · obtain ⟨rfl, rfl, rfl⟩ : ds = s.extract k j ++ s.extract (j + 1) i' ∧ e = -((i' - (j + 1) : Nat) : Int) ∧ i = i' := by simpa using h2
    have hr' := run_shift p hr
    rw [show p.size + (j + 1) = p.size + j + 1 by omega] at hr'
    refine .inr ⟨h1, p.size + i, hr', .inr ⟨by omega, ?_⟩⟩
    have e1 := extract_shift p s (j + 1) i
    rw [show p.size + (j + 1) = p.size + j + 1 by omega] at e1
    rw [extract_shift, e1, show p.size + i - (p.size + j + 1) = i - (j + 1) by omega]
/-- The digits' part, zeros ahead of it. -/
theorem frac_zeros {b : Nat} (p : ByteArray) {s : ByteArray} {j i : Nat} {ds : ByteArray} {e : Int} (h : Frac b s 0 j (some (ds, e, i))) : Frac b (p ++ s) 0 (p.size + j) (some (p ++ ds, e, p.size + i)) := by
  unfold Frac
  rw [bAt_append_right]
  rcases h with ⟨h1, h2⟩ | ⟨h1, i', hr, ⟨_, h2⟩ | ⟨hk, h2⟩⟩
  · obtain ⟨rfl, rfl, rfl⟩ : ds = s.extract 0 j ∧ e = 0 ∧ i = j := by simpa using h2
    exact .inl ⟨h1, by rw [extract_from]⟩
  · cases h2
  · obtain ⟨rfl, rfl, rfl⟩ : ds = s.extract 0 j ++ s.extract (j + 1) i' ∧ e = -((i' - (j + 1) : Nat) : Int) ∧ i = i' := by simpa using h2
    have hr' := run_shift p hr
    rw [show p.size + (j + 1) = p.size + j + 1 by omega] at hr'
    refine .inr ⟨h1, p.size + i, hr', .inr ⟨by omega, ?_⟩⟩
    have e1 := extract_shift p s (j + 1) i
    rw [show p.size + (j + 1) = p.size + j + 1 by omega] at e1
    rw [extract_from, e1, show p.size + i - (p.size + j + 1) = i - (j + 1) by omega, ByteArray.append_assoc]
def zzzB : ByteArray := ⟨#[48, 48, 48]⟩
def minB : ByteArray := ⟨#[45]⟩
theorem zzz_at (i : Nat) (h : i < 3) (s : ByteArray) : bAt (zzzB ++ s) i = 48 := by
  rw [bAt_append_left _ _ _ (show i < zzzB.size from h)]
  have : i = 0 ∨ i = 1 ∨ i = 2 := by omega
  rcases this with rfl | rfl | rfl <;> decide
theorem zzz_val (ds : ByteArray) : valN 10 (zzzB ++ ds).data.toList = valN 10 ds.data.toList := by
  rw [append_list, show zzzB.data.toList = [48, 48, 48] from rfl]
  show valN 10 (48 :: 48 :: 48 :: ds.data.toList) = _
  rw [valN_zero _ _ _ rfl, valN_zero _ _ _ rfl, valN_zero _ _ _ rfl]
/-- A text that begins with a digit, and is no hex: read behind zeros, and behind a minus. -/
theorem read_ahead {s : ByteArray} {pl : Int} {fl : Nat → Prop} (h : ReadA s true pl fl) (h0 : 48 ≤ bAt s 0) (h9 : bAt s 0 ≤ 57) (hx : ¬ (1 < s.size ∧ bAt s 1 = 120)) (hs : s.size ≤ 1000) :
    ∃ X, X < 9223372036854775808 ∧ fl = (· = signBit false + X) ∧ pl = 0 ∧ ReadA (zzzB ++ s) true 0 (· = signBit false + X) ∧ ReadA (minB ++ s) true 0 (· = signBit true + X) := by
  have z3 : zzzB.size = 3 := rfl
  have z1 : minB.size = 1 := rfl
  rcases h with ⟨_, h, _⟩ | ⟨_, neg, k, hg, h⟩
  · cases h
  rcases hg with ⟨_, a, _⟩ | ⟨_, a, _⟩ | ⟨a1, a2, rfl, rfl⟩
  · omega
  · omega
  rcases h with ⟨nan, hw, _⟩ | ⟨n1, n2, b, k1, j, hb, hr, h⟩
  · exfalso; cases nan <;> simp [wordC] at hw <;> omega
  rcases hb with ⟨c1, c2, c3, _⟩ | ⟨_, rfl, rfl⟩
  · exact absurd ⟨by omega, by simpa using c3⟩ hx
  rcases h with ⟨_, h, _⟩ | ⟨hj, r, hf, h⟩
  · cases h
  rcases h with ⟨_, h, _⟩ | ⟨ds, e, i, x, rfl, hex, h⟩
  · cases h
  rcases h with ⟨_, _, h, _⟩ | ⟨n, a, rfl, ⟨_, h, _⟩ | ⟨ha, _, rfl, rfl⟩⟩
  · cases h
  · cases h
  refine ⟨decW 10 (valN 10 ds.data.toList) (e + n), decW_half _ _ _, ?_, rfl, .inr ⟨by rw [append_size]; omega, false, 0, ?_, .inr ⟨?_, ?_, 10, 0, 3 + j, ?_, ?_, .inr ⟨by omega, _, frac_zeros zzzB hf, .inr ⟨_, _, _, _, rfl, expo_shift zzzB hex, .inr ⟨n, _, rfl, .inr ⟨by rw [append_size]; omega, rfl, rfl, ?_⟩⟩⟩⟩⟩⟩,
    .inr ⟨by rw [append_size]; omega, true, 1, ?_, .inr ⟨?_, ?_, 10, 1, 1 + j, ?_, ?_, .inr ⟨by omega, _, frac_shift minB hf, .inr ⟨_, _, _, _, rfl, expo_shift minB hex, .inr ⟨n, _, rfl, .inr ⟨by rw [append_size]; omega, rfl, rfl, ?_⟩⟩⟩⟩⟩⟩⟩
  · unfold flW expOf; rw [if_neg (by omega), if_neg (by omega)]
  · have := zzz_at 0 (by omega) s
    exact .inr (.inr ⟨by omega, by omega, rfl, rfl⟩)
  · have := zzz_at 0 (by omega) s; omega
  · have := zzz_at 0 (by omega) s; omega
  · have := zzz_at 1 (by omega) s
    exact .inr ⟨fun h => by have h2 := h.2.2; rw [Nat.zero_add] at h2; omega, rfl, rfl⟩
  · have hr' := run_shift zzzB hr
    obtain ⟨r1, r2, r3, r4⟩ := hr'
    refine ⟨by omega, r2, fun i' _ hi => ?_, r4⟩
    by_cases h3 : i' < 3
    · refine ⟨by rw [append_size]; omega, ?_⟩
      rw [zzz_at i' h3]; decide
    · exact r3 i' (by omega) hi
  · unfold flW expOf; rw [if_neg (by omega), if_neg (by omega), zzz_val]
  · exact .inl ⟨by rw [append_size]; omega, by rw [bAt_append_left _ _ _ (by omega)]; decide, rfl, rfl⟩
  · have := bAt_append_right minB s 0; rw [z1, Nat.add_zero] at this; omega
  · have := bAt_append_right minB s 0; rw [z1, Nat.add_zero] at this; omega
  · refine .inr ⟨fun h => ?_, rfl, rfl⟩
    have e1 := bAt_append_right minB s 1
    rw [z1] at e1
    rw [append_size, z1] at h
    exact hx ⟨by omega, by omega⟩
  · have hr' := run_shift minB hr
    exact hr'
  · unfold flW expOf; rw [if_neg (by omega), if_neg (by omega)]
end Go.Proofs.YtpmccbkhkaoccaaGreatDoor

/- Texts of digits: plain. -/
namespace Go.Proofs.YtpmccbkhkaoccaaGreatDoor
open Go.RowKit

def zerosL (n : Nat) : List UInt8 := List.replicate n 48
theorem zerosL_length (n : Nat) : (zerosL n).length = n := by simp [zerosL]
def zerosB (n : Nat) : ByteArray := ⟨(zerosL n).toArray⟩
theorem zerosB_size (n : Nat) : (zerosB n).size = n := by rw [← data_len]; exact zerosL_length n
/-- Digits with a point and no exponent. -/
def plainB (ds : ByteArray) (pow : Int) : ByteArray :=
  if pow ≤ 0 then ⟨#[48, 46]⟩ ++ zerosB (-pow).toNat ++ ds
  else if (ds.size : Int) ≤ pow then ds ++ zerosB (pow.toNat - ds.size)
  else ds.extract 0 pow.toNat ++ dotB ++ ds.extract pow.toNat ds.size
theorem plainB_size (ds : ByteArray) (pow : Int) (h : ds.size ≤ 1100) (h1 : -1100 ≤ pow) (h2 : pow ≤ 1100) : (plainB ds pow).size ≤ 3000 := by
  unfold plainB
  have e2 : (⟨#[48, 46]⟩ : ByteArray).size = 2 := rfl
  have e3 : dotB.size = 1 := rfl
  split
  · rw [append_size, append_size, zerosB_size]; omega
  · split
    · rw [append_size, zerosB_size]; omega
    · rw [append_size, append_size]
      have a1 : (ds.extract 0 pow.toNat).size ≤ ds.size := by simp; omega
      have a2 : (ds.extract pow.toNat ds.size).size ≤ ds.size := by simp
      omega
end Go.Proofs.YtpmccbkhkaoccaaGreatDoor

/- Texts that are made of digits, a point and a power are read: plain. -/
namespace Go.Proofs.YtpmccbkhkaoccaaGreatDoor
open Go.RowKit

theorem run_mid (b : Nat) (u a v : ByteArray) (hg : good (b : Int) a.data.toList) (hv : ¬ Dig b v 0) : Run b (u ++ a ++ v) u.size (u.size + a.size) := by
  refine ⟨by omega, by rw [append_size, append_size]; omega, fun i h1 h2 => ?_, fun h => hv ?_⟩
  · refine ⟨by rw [append_size, append_size]; omega, ?_⟩
    rw [bAt_append_left _ _ _ (by rw [append_size]; omega), show i = u.size + (i - u.size) by omega, bAt_append_right, bAt_in _ _ (show i - u.size < a.size by omega)]
    exact good_at _ a hg (i - u.size) (by omega)
  · have := (dig_shift b (u ++ a) v 0).1 (by rw [append_size, Nat.add_zero]; exact h)
    exact this
theorem no_dig_at (b : Nat) (hb : b ≤ 16) (v : ByteArray) (h : bAt v 0 = 0 ∨ bAt v 0 = 46 ∨ bAt v 0 = 112 ∨ (bAt v 0 = 101 ∧ b = 10)) : ¬ Dig b v 0 := by
  rintro ⟨_, h2⟩
  unfold digN at h2
  rcases h with h | h | h | ⟨h, h'⟩ <;> rw [h] at h2 <;> simp at h2 <;> omega
/-- The text of a power: nothing, or a mark, a sign, digits. -/
def Pwr (m : UInt8) (x : ByteArray) (n : Int) : Prop :=
  (x = ByteArray.empty ∧ n = 0) ∨ ∃ (neg : Bool) (c : ByteArray), x = ⟨#[m]⟩ ++ (if neg then ⟨#[45]⟩ else ByteArray.empty) ++ c ∧ 0 < c.size ∧ good 10 c.data.toList ∧ n = expV neg (valN 10 c.data.toList)
theorem pwr_at (m : UInt8) (x : ByteArray) (n : Int) (h : Pwr m x n) : (x.size = 0 ∧ bAt x 0 = 0) ∨ (0 < x.size ∧ bAt x 0 = (m.toNat : Int)) := by
  rcases h with ⟨rfl, _⟩ | ⟨neg, c, rfl, _⟩
  · exact .inl ⟨rfl, rfl⟩
  · right
    have e1 : (⟨#[m]⟩ : ByteArray).size = 1 := rfl
    refine ⟨by rw [append_size, append_size, e1]; omega, ?_⟩
    rw [bAt_append_left _ _ _ (by rw [append_size]; omega), bAt_append_left _ _ _ (by omega)]
    rfl
theorem expo_made (m : UInt8) (hm : m.toNat ≠ 0) (u x : ByteArray) (n : Int) (h : Pwr m x n) : Expo (m.toNat : Int) (u ++ x) u.size (.inl (n, (u ++ x).size)) := by
  have h0 := bAt_append_right u x 0
  rw [Nat.add_zero] at h0
  have hp := pwr_at m x n h
  rcases h with ⟨rfl, rfl⟩ | ⟨neg, c, rfl, hc0, hg, rfl⟩
  · refine .inl ⟨?_, ?_⟩
    · rw [h0]
      show (0 : Int) ≠ _
      omega
    · rw [append_size]; rfl
  · have e1 : (⟨#[m]⟩ : ByteArray).size = 1 := rfl
    obtain ⟨q, hq⟩ : ∃ q : ByteArray, q = (if neg then ⟨#[45]⟩ else ByteArray.empty) := ⟨_, rfl⟩
    rw [← hq] at h0 hp ⊢
    have hT : u ++ (⟨#[m]⟩ ++ q ++ c) = (u ++ ⟨#[m]⟩ ++ q) ++ c ++ ByteArray.empty := by
      apply ByteArray.ext
      apply Array.toList_inj.1
      simp only [append_list]
      simp
    have hsz : (u ++ (⟨#[m]⟩ ++ q ++ c)).size = u.size + 1 + q.size + c.size := by simp only [append_size, e1]; omega
    have hr := run_mid 10 (u ++ ⟨#[m]⟩ ++ q) c ByteArray.empty hg (fun h => by have := h.1; simp at this)
    rw [← hT] at hr
    have hus : (u ++ (⟨#[m]⟩ : ByteArray) ++ q).size = u.size + 1 + q.size := by simp only [append_size, e1]
    rw [hus] at hr
    have hx : (u ++ (⟨#[m]⟩ ++ q ++ c)).extract (u.size + 1 + q.size) (u.size + 1 + q.size + c.size) = c := by
      have := extract_mid (u ++ ⟨#[m]⟩ ++ q) c ByteArray.empty
      rw [← hT, hus] at this
      exact this
    have hc1 : bAt c 0 ≠ 45 ∧ bAt c 0 ≠ 43 := by
      have := good_bAt c hg 0 hc0
      omega
    have hs : Sgn (u ++ (⟨#[m]⟩ ++ q ++ c)) (u.size + 1) neg (u.size + 1 + q.size) := by
      have hb : bAt (u ++ (⟨#[m]⟩ ++ q ++ c)) (u.size + 1) = bAt (q ++ c) 0 := by
        rw [bAt_append_right, ByteArray.append_assoc]
        have := bAt_append_right (⟨#[m]⟩ : ByteArray) (q ++ c) 0
        rw [e1] at this
        exact this
      cases neg
      · have hq' : q = ByteArray.empty := by rw [hq]; rfl
        subst hq'
        refine .inr (.inr ⟨?_, ?_, rfl, rfl⟩)
        · rw [hb, ByteArray.empty_append]; exact hc1.1
        · rw [hb, ByteArray.empty_append]; exact hc1.2
      · have hq' : q = ⟨#[45]⟩ := by rw [hq]; rfl
        subst hq'
        refine .inl ⟨by rw [hsz]; omega, ?_, rfl, rfl⟩
        rw [hb, bAt_append_left _ _ _ (by decide)]
        rfl
    have hpa : bAt (u ++ (⟨#[m]⟩ ++ q ++ c)) u.size = (m.toNat : Int) := by
      rw [h0]
      rcases hp with ⟨h, _⟩ | ⟨_, h⟩
      · rw [append_size, append_size, e1] at h; omega
      · exact h
    refine .inr ⟨hpa, neg, _, _, hs, hr, .inr ⟨by omega, ?_⟩⟩
    unfold runV
    rw [hx, hsz]
/-- Digits, perhaps a point and digits, perhaps a power, behind a sign, are read so. -/
theorem read_made (neg : Bool) (a f x : ByteArray) (b : ByteArray) (n : Int) (ha0 : 0 < a.size) (hga : good 10 a.data.toList) (hf : (f = ByteArray.empty ∧ b = ByteArray.empty) ∨ (f = dotB ++ b ∧ 0 < b.size)) (hgb : good 10 b.data.toList) (hx : Pwr 101 x n)
    (hs : (sgnT neg (a ++ f ++ x)).size ≤ 1200) : ReadA (sgnT neg (a ++ f ++ x)) true 0 (· = flW neg 10 (a ++ b) (-(b.size : Int) + n)) := by
  obtain ⟨p, hp, hsg⟩ : ∃ p : ByteArray, sgnT neg (a ++ f ++ x) = p ++ (a ++ f ++ x) ∧ ((neg = true ∧ p = ⟨#[45]⟩) ∨ (neg = false ∧ p = ByteArray.empty)) := by
    cases neg
    · exact ⟨ByteArray.empty, by rw [ByteArray.empty_append]; rfl, .inr ⟨rfl, rfl⟩⟩
    · exact ⟨⟨#[45]⟩, rfl, .inl ⟨rfl, rfl⟩⟩
  rw [hp] at hs ⊢
  have hd0 := good_bAt a hga 0 ha0
  have hA0 : ∀ k, k < a.size → bAt (p ++ (a ++ f ++ x)) (p.size + k) = bAt a k := fun k hk => by
    rw [bAt_append_right, bAt_append_left _ _ _ (by rw [append_size]; omega), bAt_append_left _ _ _ hk]
  have hpx := pwr_at 101 x n hx
  have e101 : ((101 : UInt8).toNat : Int) = 101 := rfl
  rw [e101] at hpx
  have hfx : bAt (f ++ x) 0 = 46 ∨ bAt (f ++ x) 0 = 101 ∨ ((f ++ x).size = 0 ∧ bAt (f ++ x) 0 = 0) := by
    rcases hf with ⟨rfl, _⟩ | ⟨rfl, _⟩
    · rw [ByteArray.empty_append]
      rcases hpx with h | h
      · exact .inr (.inr h)
      · exact .inr (.inl h.2)
    · left
      rw [ByteArray.append_assoc, bAt_append_left _ _ _ (by decide)]
      rfl
  have hsgn : Sgn (p ++ (a ++ f ++ x)) 0 neg p.size := by
    rcases hsg with ⟨rfl, rfl⟩ | ⟨rfl, rfl⟩
    · exact .inl ⟨by rw [append_size]; have : (⟨#[45]⟩ : ByteArray).size = 1 := rfl; omega, by rw [bAt_append_left _ _ _ (by decide)]; rfl, rfl, rfl⟩
    · have h1 := hA0 0 ha0
      have h2 : (ByteArray.empty : ByteArray).size + 0 = 0 := rfl
      rw [h2] at h1
      exact .inr (.inr ⟨by omega, by omega, rfl, rfl⟩)
  have h0 := hA0 0 ha0
  rw [Nat.add_zero] at h0
  have hbas : Bas (p ++ (a ++ f ++ x)) p.size 10 p.size := by
    refine .inr ⟨fun ⟨_, h2, h3⟩ => ?_, rfl, rfl⟩
    by_cases h1 : 1 < a.size
    · have h4 := hA0 1 h1
      have h5 := good_bAt a hga 1 h1
      omega
    · have h4 : bAt (p ++ (a ++ f ++ x)) (p.size + 1) = bAt (f ++ x) 0 := by
        rw [bAt_append_right, ByteArray.append_assoc]
        have := bAt_append_right a (f ++ x) 0
        rw [show a.size = 1 by omega] at this
        exact this
      omega
  have hrun : Run 10 (p ++ (a ++ f ++ x)) p.size (p.size + a.size) := by
    have h1 := run_mid 10 p a (f ++ x) hga (no_dig_at 10 (by omega) _ (by rcases hfx with h | h | ⟨_, h⟩; exact .inr (.inl h); exact .inr (.inr (.inr ⟨h, rfl⟩)); exact .inl h))
    have e : p ++ a ++ (f ++ x) = p ++ (a ++ f ++ x) := by simp only [ByteArray.append_assoc]
    rw [e] at h1
    exact h1
  have hea : (p ++ (a ++ f ++ x)).extract p.size (p.size + a.size) = a := by
    have h1 := extract_mid p a (f ++ x)
    have e : p ++ a ++ (f ++ x) = p ++ (a ++ f ++ x) := by simp only [ByteArray.append_assoc]
    rw [e] at h1
    exact h1
  have hat : bAt (p ++ (a ++ f ++ x)) (p.size + a.size) = bAt (f ++ x) 0 := by
    rw [bAt_append_right, ByteArray.append_assoc]
    have := bAt_append_right a (f ++ x) 0
    exact this
  have hexpo : Expo 101 (p ++ (a ++ f ++ x)) (p ++ (a ++ f)).size (.inl (n, (p ++ (a ++ f ++ x)).size)) := by
    have h1 := expo_made 101 (by decide) (p ++ (a ++ f)) x n hx
    have e : p ++ (a ++ f) ++ x = p ++ (a ++ f ++ x) := by simp only [ByteArray.append_assoc]
    rw [e] at h1
    exact h1
  refine .inr ⟨hs, neg, p.size, hsgn, .inr ⟨by omega, by omega, 10, p.size, p.size + a.size, hbas, hrun, .inr ⟨by omega, ?_⟩⟩⟩
  rcases hf with ⟨rfl, rfl⟩ | ⟨rfl, hb0⟩
  · refine ⟨_, .inl ⟨?_, rfl⟩, .inr ⟨_, _, _, _, rfl, ?_, .inr ⟨n, _, rfl, .inr ⟨Nat.lt_irrefl _, rfl, rfl, ?_⟩⟩⟩⟩
    · rw [hat, ByteArray.empty_append]
      rcases hpx with ⟨_, h⟩ | ⟨_, h⟩ <;> rw [h] <;> decide
    · have e : (p ++ (a ++ ByteArray.empty)).size = p.size + a.size := by simp only [append_size]; rfl
      rw [e] at hexpo
      exact hexpo
    · rw [hea, ByteArray.append_empty]
      rfl
  · have e1 : dotB.size = 1 := rfl
    have hrb : Run 10 (p ++ (a ++ (dotB ++ b) ++ x)) (p.size + a.size + 1) (p.size + a.size + 1 + b.size) := by
      have h1 := run_mid 10 (p ++ a ++ dotB) b x hgb (no_dig_at 10 (by omega) _ (by rcases hpx with ⟨_, h⟩ | ⟨_, h⟩; exact .inl h; exact .inr (.inr (.inr ⟨h, rfl⟩))))
      have e : p ++ a ++ dotB ++ b ++ x = p ++ (a ++ (dotB ++ b) ++ x) := by simp only [ByteArray.append_assoc]
      rw [e, append_size, append_size, e1] at h1
      exact h1
    have heb : (p ++ (a ++ (dotB ++ b) ++ x)).extract (p.size + a.size + 1) (p.size + a.size + 1 + b.size) = b := by
      have h1 := extract_mid (p ++ a ++ dotB) b x
      have e : p ++ a ++ dotB ++ b ++ x = p ++ (a ++ (dotB ++ b) ++ x) := by simp only [ByteArray.append_assoc]
      rw [e, append_size, append_size, e1] at h1
      exact h1
    refine ⟨_, .inr ⟨?_, _, hrb, .inr ⟨by omega, rfl⟩⟩, .inr ⟨_, _, _, _, rfl, ?_, .inr ⟨n, _, rfl, .inr ⟨Nat.lt_irrefl _, rfl, rfl, ?_⟩⟩⟩⟩
    · rw [hat, ByteArray.append_assoc, bAt_append_left _ _ _ (by decide)]
      rfl
    · have e : (p ++ (a ++ (dotB ++ b))).size = p.size + a.size + 1 + b.size := by simp only [append_size, e1]; omega
      rw [e] at hexpo
      exact hexpo
    · rw [hea, heb]
      unfold expOf
      rw [if_neg (by omega), show p.size + a.size + 1 + b.size - (p.size + a.size + 1) = b.size by omega]
end Go.Proofs.YtpmccbkhkaoccaaGreatDoor

/- The digits that are written of a number tell that number: plain. -/
namespace Go.Proofs.YtpmccbkhkaoccaaGreatDoor
open Go.RowKit

theorem dch_all : ∀ d : Fin 36, digN 99 ((dch d.val).toNat : Int) = (d.val : Int) := by decide
theorem dch_dig (d : Nat) (h : d < 36) : digN 99 ((dch d).toNat : Int) = (d : Int) := dch_all ⟨d, h⟩
theorem good_cons (b : Int) (c : UInt8) (l : List UInt8) (h : digN 99 (c.toNat : Int) < b) (hl : good b l) : good b (c :: l) := by
  intro d hd
  rcases List.mem_cons.1 hd with rfl | hd
  · exact h
  · exact hl d hd
theorem wr_val (b : Nat) (h2 : 2 ≤ b) (h36 : b ≤ 36) : ∀ (f n : Nat) (acc : List UInt8), n < 2 ^ f → val b (wr f b n acc) = (n : Int) * (b : Int) ^ acc.length + val b acc := by
  intro f
  induction f with
  | zero => intro n acc h; simp at h; subst h; simp [wr]
  | succ f ih =>
    intro n acc h
    by_cases hn : n = 0
    · subst hn; rw [wr_zero]; simp
    · have e : wr (f + 1) b n acc = wr f b (n / b) (dch (n % b) :: acc) := by show (if n = 0 then _ else _) = _; rw [if_neg hn]
      have hm : n % b < b := Nat.mod_lt _ (by omega)
      rw [e, ih (n / b) _ (wr_bound f b n h2 h), val_cons, dch_dig (n % b) (by omega), List.length_cons, Int.pow_succ]
      have hd : ((n / b : Nat) : Int) * (b : Int) + ((n % b : Nat) : Int) = (n : Int) := by
        have := Nat.div_add_mod n b
        rw [Nat.mul_comm] at this
        exact_mod_cast this
      rw [← Int.add_assoc, Int.mul_comm ((b : Int) ^ acc.length), ← Int.mul_assoc, ← Int.add_mul, hd]
theorem wr_good (b : Nat) (h2 : 2 ≤ b) (h36 : b ≤ 36) : ∀ (f n : Nat) (acc : List UInt8), good b acc → good b (wr f b n acc) := by
  intro f
  induction f with
  | zero => intro n acc h; exact h
  | succ f ih =>
    intro n acc h
    by_cases hn : n = 0
    · subst hn; rw [wr_zero]; exact h
    · have e : wr (f + 1) b n acc = wr f b (n / b) (dch (n % b) :: acc) := by show (if n = 0 then _ else _) = _; rw [if_neg hn]
      have hm : n % b < b := Nat.mod_lt _ (by omega)
      rw [e]
      exact ih _ _ (good_cons b _ _ (by rw [dch_dig (n % b) (by omega)]; omega) h)
theorem wr_long (b : Nat) : ∀ (f n : Nat) (acc : List UInt8), acc.length ≤ (wr f b n acc).length := by
  intro f
  induction f with
  | zero => intro n acc; exact Nat.le_refl _
  | succ f ih =>
    intro n acc
    unfold wr
    split
    · exact Nat.le_refl _
    · have := ih (n / b) (dch (n % b) :: acc)
      simp at this
      omega
theorem text_val (b n : Nat) (h2 : 2 ≤ b) (h36 : b ≤ 36) (hn : n < 18446744073709551616) : val b (textOf b n) = n := by
  have hm : n % b < b := Nat.mod_lt _ (by omega)
  unfold textOf
  rw [wr_val b h2 h36 63 _ _ (wr_bound 63 b n h2 (by show n < 2 ^ 64; omega)), val_cons, dch_dig (n % b) (by omega)]
  have hd : ((n / b : Nat) : Int) * (b : Int) + ((n % b : Nat) : Int) = (n : Int) := by
    have := Nat.div_add_mod n b
    rw [Nat.mul_comm] at this
    exact_mod_cast this
  have e1 : (b : Int) ^ [dch (n % b)].length = b := by show (b : Int) ^ (0 + 1) = b; rw [Int.pow_succ, Int.pow_zero, Int.one_mul]
  rw [e1]
  simp [val] at hd ⊢
  exact hd
theorem text_good (b n : Nat) (h2 : 2 ≤ b) (h36 : b ≤ 36) : good b (textOf b n) := by
  have hm : n % b < b := Nat.mod_lt _ (by omega)
  exact wr_good b h2 h36 63 _ _ (good_cons b _ _ (by rw [dch_dig (n % b) (by omega)]; omega) (fun c hc => by cases hc))
theorem text_pos (b n : Nat) : 1 ≤ (textOf b n).length := wr_long b 63 (n / b) [dch (n % b)]
theorem text_ne (b n : Nat) : textOf b n ≠ [] := fun h => by have := text_pos b n; rw [h] at this; simp at this
end Go.Proofs.YtpmccbkhkaoccaaGreatDoor

