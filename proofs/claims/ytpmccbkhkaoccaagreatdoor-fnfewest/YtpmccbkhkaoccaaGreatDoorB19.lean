import Derived.Test.YtpmccbkhkaoccaaGreatDoorB17
import Derived.Test.YtpmccbkhkaoccaaGreatDoorB16
import Derived.Test.YtpmccbkhkaoccaaGreatDoorB18
import Derived.Deep.RegionWith
import Derived.Test.YtpmccbkhkaoccaaGreatDoorB14
import Derived.Test.YtpmccbkhkaoccaaGreatDoorB15
/- HexOf of the specification. -/
namespace Go.Proofs.YtpmccbkhkaoccaaGreatDoor
open Go.ChangeShapes Go.WideShapes Go.RowKit
open Ieee (double)

theorem int_size16 (n : Int) : (intText n 16).size ≤ 70 := by
  unfold intText
  rw [if_pos (by omega)]
  have h1 : ∀ k, (⟨(textOf 16 k).toArray⟩ : ByteArray).size ≤ 64 := fun k => by
    rw [← data_len]
    exact textOf_length 16 k
  split
  · rw [append_size]
    have := h1 (unsig (-n))
    have e : (⟨#[45]⟩ : ByteArray).size = 1 := rfl
    rw [show (16 : Int).toNat = 16 from rfl]
    omega
  · have := h1 (unsig n)
    rw [show (16 : Int).toNat = 16 from rfl]
    omega
/-- A float's parts in hexadecimal. -/
def hexB (s : Bool) (q E : Int) : ByteArray := sgnB s ++ ⟨#[48, 120]⟩ ++ intText q 16 ++ ⟨#[112]⟩ ++ intText E 10

set_option maxHeartbeats 1000000 in
set_option maxRecDepth 100000 in
theorem hexOf_num (s : Bool) (r : Nat) (hr : r < 9218868437227405312) (k q E : Int) (w : World)
    (hP : ∀ w, Calls Tryz.prog 19 #[.float .f64 r] w fun e w' => e = .returned (.agg #[.int .i64 k, .bool false, .int .i64 q, .int .i64 E]) ∧ Below w.heap.size w w') :
    Calls Tryz.prog 13 #[.float .f64 (signBit s + r)] w fun e w' => e = .returned (.string (hexB s q E)) ∧ Below w.heap.size w w' := by
  have HP : Hid _ := hP
  have H1 : Hid _ := fun w => l5size_any s r (by omega) w
  have H2 : Hid _ := fun w => l5odd_num r hr w
  have HI1 : Hid _ := fun w => specInt_any q 16 w
  have HI2 : Hid _ := fun w => specInt_any E 10 w
  have z1 := int_size16 q
  have z2 := int_size E
  have z3 := sgnB_size s
  unfold hexB
  generalize intText q 16 = I1 at *
  generalize intText E 10 = I2 at *
  generalize sgnB s = S at *
  generalize signBit s + r = X at *
  clear hP hr
  go_enter Tryz.func13, Tryz.ntmps13
  go_wp2_with fail
  refine (H1.out _).mono ?_
  rintro e w1 ⟨rfl, rfl⟩
  go_wp2_with fail
  refine (H2.out _).mono ?_
  rintro e w1 ⟨rfl, rfl⟩
  generalize decide (r = 0) = b at *
  have hne : (⟨#[48]⟩ : ByteArray) = ⟨#[48]⟩ := rfl
  clear H1 H2
  cases b
  all_goals
    go_wp2_with fail
    refine (HP.out _).mono ?_
    rintro e w2 ⟨rfl, hb⟩
    have HB : Hid _ := hb
    clear hb
    go_wp2_with fail
    go_quiet (first | (go_at_call_of 43 (Value.int .i64 q); exact Calls.quiet_of_same (HI1.out _)) | (go_at_call_of 43 (Value.int .i64 E); exact Calls.quiet_of_same (HI2.out _)))
    go_wp2
    go_ret
    exact ⟨rfl, below_drewN (HB.out.alloc HB.out.size _) _⟩
set_option maxHeartbeats 400000 in
theorem hexOf_nan (x : Nat) (hx : IsNan x) (w : World) :
    Calls Tryz.prog 13 #[.float .f64 x] w fun e w' => e = .returned (.string ⟨#[110, 97, 110]⟩) ∧ Below w.heap.size w w' := by
  have H1 : Hid _ := fun w => l5size_nan x hx w
  have H2 : Hid _ := fun w => l5odd_nan x hx w
  clear hx
  go_enter Tryz.func13, Tryz.ntmps13
  go_wp2_with fail
  refine (H1.out _).mono ?_
  rintro e w1 ⟨rfl, rfl⟩
  go_wp2_with fail
  refine (H2.out _).mono ?_
  rintro e w1 ⟨rfl, rfl⟩
  go_wp2
  go_ret
  exact ⟨rfl, Below.refl _ _⟩
set_option maxHeartbeats 400000 in
theorem hexOf_inf (s : Bool) (w : World) :
    Calls Tryz.prog 13 #[.float .f64 (iw s)] w fun e w' => e = .returned (.string (sgnB s ++ ⟨#[105, 110, 102]⟩)) ∧ Below w.heap.size w w' := by
  have H1 : Hid (∀ w, Calls Tryz.prog 36 #[.float .f64 (iw s)] w fun e w' => e = .returned (.tuple #[.float .f64 9218868437227405312, .string (sgnB s)]) ∧ w' = w) := fun w => l5size_any s 9218868437227405312 (by omega) w
  have H2 : Hid _ := fun w => l5odd_inf w
  have z3 := sgnB_size s
  generalize sgnB s = S at *
  generalize iw s = X at *
  go_enter Tryz.func13, Tryz.ntmps13
  go_wp2_with fail
  refine (H1.out _).mono ?_
  rintro e w1 ⟨rfl, rfl⟩
  go_wp2_with fail
  refine (H2.out _).mono ?_
  rintro e w1 ⟨rfl, rfl⟩
  go_wp2
  go_ret
  exact ⟨rfl, Below.refl _ _⟩
/-- What HexOf answers. -/
def hexV (x : Nat) (t : ByteArray) : Prop := (IsNan x ∧ t = ⟨#[110, 97, 110]⟩) ∨ (∃ s, x = iw s ∧ t = sgnB s ++ ⟨#[105, 110, 102]⟩) ∨ (∃ s, x = signBit s ∧ t = hexB s 0 0)
  ∨ (∃ (s : Bool) (n : Nat) (p : Int) (q k : Nat), Canon n p ∧ 0 < n ∧ x = fw s n p ∧ n = q * 2 ^ k ∧ q % 2 = 1 ∧ t = hexB s q (p + k))
theorem hexB_size (s : Bool) (q E : Int) : (hexB s q E).size ≤ 200 := by
  unfold hexB
  rw [append_size, append_size, append_size, append_size]
  have h1 := sgnB_size s
  have h2 := int_size16 q
  have h3 := int_size E
  have e1 : (⟨#[48, 120]⟩ : ByteArray).size = 2 := rfl
  have e2 : (⟨#[112]⟩ : ByteArray).size = 1 := rfl
  omega
theorem hexV_size (x : Nat) (t : ByteArray) (h : hexV x t) : t.size ≤ 200 := by
  rcases h with ⟨_, rfl⟩ | ⟨s, _, rfl⟩ | ⟨s, _, rfl⟩ | ⟨s, n, p, q, k, _, _, _, _, _, rfl⟩
  · decide
  · cases s <;> decide
  · exact hexB_size _ _ _
  · exact hexB_size _ _ _
theorem specHex_any (x : Nat) (hx : x < 18446744073709551616) (w : World) :
    Calls Tryz.prog 13 #[.float .f64 x] w fun e w' => ∃ t, hexV x t ∧ e = .returned (.string t) ∧ Below w.heap.size w w' := by
  rcases float_cases x hx with h | ⟨s, rfl⟩ | ⟨s, n, p, hc, rfl⟩
  · refine (hexOf_nan x h w).mono ?_
    rintro e w' ⟨rfl, hb⟩
    exact ⟨_, .inl ⟨h, rfl⟩, rfl, hb⟩
  · refine (hexOf_inf s w).mono ?_
    rintro e w' ⟨rfl, hb⟩
    exact ⟨_, .inr (.inl ⟨s, rfl, rfl⟩), rfl, hb⟩
  · by_cases h0 : n = 0
    · subst h0
      rw [fw_zero]
      have := hexOf_num s 0 (by omega) 0 0 0 w (fun w => parts_none w)
      rw [Nat.add_zero] at this
      refine this.mono ?_
      rintro e w' ⟨rfl, hb⟩
      exact ⟨_, .inr (.inr (.inl ⟨s, rfl, rfl⟩)), rfl, hb⟩
    · obtain ⟨q, k, hq, hq1⟩ := odd_some n (by omega)
      have hfw : fw false n p = rung n p := by rw [fw_canon _ _ _ hc]; exact Nat.zero_add _
      have hfs : fw s n p = signBit s + rung n p := fw_canon _ _ _ hc
      have := hexOf_num s (rung n p) (rung_lt n p hc) 1 q (p + k) w (fun w => by rw [← hfw]; exact parts_fixed false n p q k hc (by omega) hq hq1 w)
      rw [← hfs] at this
      refine this.mono ?_
      rintro e w' ⟨rfl, hb⟩
      exact ⟨_, .inr (.inr (.inr ⟨s, n, p, q, k, hc, by omega, rfl, hq, hq1, rfl⟩)), rfl, hb⟩
end Go.Proofs.YtpmccbkhkaoccaaGreatDoor

/- All digits of a number are fixed by it: plain. -/
namespace Go.Proofs.YtpmccbkhkaoccaaGreatDoor
open Go.RowKit

theorem last_mod (t : ByteArray) (h : 0 < t.size) (hg : good 10 t.data.toList) : valN 10 t.data.toList % 10 = t[t.size - 1].toNat - 48 := by
  have e := last_cut t h
  obtain ⟨d1, d2, d3⟩ := good_digit t[t.size - 1] (good_at 10 t hg (t.size - 1) (by omega))
  have h1 : valN 10 [t[t.size - 1]] = t[t.size - 1].toNat - 48 := by
    rw [valN_cons, valN_nil, d3]
    simp
    omega
  rw [e, valN_append, h1]
  show (_ * 10 ^ 1 + _) % 10 = _
  rw [Nat.pow_one]
  omega
theorem last_some (t : ByteArray) (h : 0 < t.size) (hg : good 10 t.data.toList) (hz : ∀ h : t.size - 1 < t.size, t[t.size - 1].toNat ≠ 48) : valN 10 t.data.toList % 10 ≠ 0 := by
  rw [last_mod t h hg]
  obtain ⟨d1, d2, d3⟩ := good_digit t[t.size - 1] (good_at 10 t hg (t.size - 1) (by omega))
  have := hz (by omega)
  omega
theorem pow_same (V W a b : Nat) (h : V * 10 ^ a = W * 10 ^ b) (hV : V % 10 ≠ 0) (hW : W % 10 ≠ 0) : V = W ∧ a = b := by
  have key : ∀ (V W a b : Nat), V * 10 ^ a = W * 10 ^ b → V % 10 ≠ 0 → a < b → False := by
    intro V W a b h hV hlt
    obtain ⟨d, hd⟩ : ∃ d, b = a + (d + 1) := ⟨b - a - 1, by omega⟩
    rw [hd, Nat.pow_add, Nat.mul_comm (10 ^ a), ← Nat.mul_assoc] at h
    have h3 := Nat.eq_of_mul_eq_mul_right (Nat.pow_pos (show 0 < 10 by omega)) h
    rw [Nat.pow_succ, ← Nat.mul_assoc] at h3
    omega
  rcases Nat.lt_trichotomy a b with hlt | rfl | hlt
  · exact (key V W a b h hV hlt).elim
  · exact ⟨Nat.eq_of_mul_eq_mul_right (Nat.pow_pos (by omega)) h, rfl⟩
  · exact (key W V b a h.symm hW hlt).elim
/-- A number's digits, and where their point is, are fixed by it. -/
theorem exD_one (ds ds' : ByteArray) (pow pow' : Int) (M : Nat) (E : Int) (h : ExD ds pow M E) (h' : ExD ds' pow' M E) : ds = ds' ∧ pow = pow' := by
  obtain ⟨a0, ag, af, al, av⟩ := h
  obtain ⟨b0, bg, bf, bl, bv⟩ := h'
  have hV := last_some ds a0 ag al
  have hW := last_some ds' b0 bg bl
  have hx : valN 10 ds.data.toList * 10 ^ ((pow - (ds.size : Int)).toNat + ((ds'.size : Int) - pow').toNat) = valN 10 ds'.data.toList * 10 ^ ((pow' - (ds'.size : Int)).toNat + ((ds.size : Int) - pow).toNat) := by
    apply Nat.eq_of_mul_eq_mul_right (Nat.two_pow_pos (-E).toNat)
    rw [Nat.pow_add, Nat.pow_add, ← Nat.mul_assoc, ← Nat.mul_assoc]
    rw [Nat.mul_right_comm (valN 10 ds.data.toList * 10 ^ (pow - (ds.size : Int)).toNat), av]
    rw [Nat.mul_right_comm (valN 10 ds'.data.toList * 10 ^ (pow' - (ds'.size : Int)).toNat), bv]
    rw [Nat.mul_right_comm]
  obtain ⟨e1, e2⟩ := pow_same _ _ _ _ hx hV hW
  have hd : ds = ds' := dec_one ds ds' _ ⟨ag, rfl, af⟩ ⟨bg, e1.symm, bf⟩
  subst hd
  exact ⟨rfl, by omega⟩
end Go.Proofs.YtpmccbkhkaoccaaGreatDoor

/- What is written of a float is read as that float: plain. -/
namespace Go.Proofs.YtpmccbkhkaoccaaGreatDoor
open Go.RowKit
open Ieee (double)

theorem sgn_text (s : Bool) (t : ByteArray) : sgnB s ++ t = sgnT s t := by
  cases s
  · show (⟨#[]⟩ : ByteArray) ++ t = t
    exact ByteArray.empty_append
  · rfl
theorem textN_val (b n : Nat) (h2 : 2 ≤ b) (h36 : b ≤ 36) (hn : n < 18446744073709551616) : valN b (textOf b n) = n := by
  have h := text_val b n h2 h36 hn
  have h1 := valN_cast b (textOf b n)
  rw [h] at h1
  exact_mod_cast h1
theorem expV_small (neg : Bool) (V : Nat) (h : V ≤ 100000) : expV neg V = if neg then -(V : Int) else (V : Int) := by
  unfold expV cap
  rw [Nat.min_eq_left h]
/-- The text of a power behind its mark. -/
theorem pwr_int (m : UInt8) (n : Int) (h : -100000 ≤ n) (h' : n ≤ 100000) : Pwr m (⟨#[m]⟩ ++ intText n 10) n := by
  by_cases hn : n < 0
  · rw [intText_neg n 10 (by omega) hn, ← ByteArray.append_assoc]
    have hu : unsig (-n) = (-n).toNat := by unfold unsig; rw [IntKind.wrap_u64]; omega
    refine .inr ⟨true, ⟨(textOf 10 (unsig (-n))).toArray⟩, rfl, ?_, ?_, ?_⟩
    · rw [← data_len]; exact text_pos 10 _
    · exact text_good 10 _ (by omega) (by omega)
    · show n = expV true (valN 10 (textOf 10 (unsig (-n))))
      rw [textN_val 10 _ (by omega) (by omega) (unsig_lt _), hu, expV_small _ _ (by omega)]
      simp; omega
  · rw [intText_pos n 10 (by omega) hn]
    have hu : unsig n = n.toNat := by unfold unsig; rw [IntKind.wrap_u64]; omega
    refine .inr ⟨false, ⟨(textOf 10 (unsig n)).toArray⟩, ?_, ?_, ?_, ?_⟩
    · rw [if_neg (by simp), ByteArray.append_empty]; rfl
    · rw [← data_len]; exact text_pos 10 _
    · exact text_good 10 _ (by omega) (by omega)
    · show n = expV false (valN 10 (textOf 10 (unsig n)))
      rw [textN_val 10 _ (by omega) (by omega) (unsig_lt _), hu, expV_small _ _ (by omega)]
      simp; omega
theorem dec_zeros (V k : Nat) (e : Int) : decW 10 (V * 10 ^ k) e = decW 10 V (e + k) := by
  unfold decW
  by_cases hV : V = 0
  · subst hV; rw [Nat.zero_mul, if_pos rfl, if_pos rfl]
  · have p10 : ∀ n, 0 < 10 ^ n := fun n => Nat.pow_pos (by omega)
    have hVk : V * 10 ^ k ≠ 0 := Nat.ne_of_gt (Nat.mul_pos (by omega) (p10 k))
    rw [if_neg hV, if_neg hVk]
    refine ratioW_eq _ _ _ _ (Nat.mul_pos (by omega) (p10 _)) (p10 _) (Nat.mul_pos (by omega) (p10 _)) (p10 _) ?_
    have e1 : V * 10 ^ k * 10 ^ e.toNat * 10 ^ (-(e + k)).toNat = V * 10 ^ (k + e.toNat + (-(e + k)).toNat) := by rw [Nat.pow_add, Nat.pow_add]; simp only [Nat.mul_assoc]
    have e2 : V * 10 ^ (e + k).toNat * 10 ^ (-e).toNat = V * 10 ^ ((e + k).toNat + (-e).toNat) := by rw [Nat.pow_add]; simp only [Nat.mul_assoc]
    rw [e1, e2]
    congr 2
    omega
theorem zerosB_list (n : Nat) : (zerosB n).data.toList = List.replicate n 48 := rfl
theorem zeros_good (n : Nat) : good 10 (zerosB n).data.toList := by
  rw [zerosB_list]
  intro c hc
  obtain ⟨_, rfl⟩ := List.mem_replicate.1 hc
  decide
theorem good_app {a b : List UInt8} (ha : good 10 a) (hb : good 10 b) : good 10 (a ++ b) := fun c hc => by
  rcases List.mem_append.1 hc with h | h
  · exact ha c h
  · exact hb c h
theorem zeros_ahead (n : Nat) (l : List UInt8) : valN 10 (List.replicate n 48 ++ l) = valN 10 l := by
  induction n with
  | zero => rfl
  | succ n ih => rw [List.replicate_succ, List.cons_append, valN_zero _ _ _ rfl, ih]
theorem zeros_behind (l : List UInt8) (n : Nat) : valN 10 (l ++ List.replicate n 48) = valN 10 l * 10 ^ n := by
  rw [valN_append, List.length_replicate]
  have := zeros_ahead n []
  rw [List.append_nil, valN_nil] at this
  rw [this, Nat.add_zero]
theorem read_plain (s : Bool) (ds : ByteArray) (pow : Int) (h0 : 0 < ds.size) (hg : good 10 ds.data.toList) (hs : (sgnB s ++ plainB ds pow).size ≤ 1200) :
    ReadA (sgnB s ++ plainB ds pow) true 0 (· = signBit s + decW 10 (valN 10 ds.data.toList) (pow - (ds.size : Int))) := by
  have hflw : ∀ (t : ByteArray) (e : Int), flW s 10 t e = signBit s + decW 10 (valN 10 t.data.toList) e := fun t e => by unfold flW; rw [if_neg (by omega)]
  rw [sgn_text] at hs ⊢
  unfold plainB at hs ⊢
  by_cases h1 : pow ≤ 0
  · rw [if_pos h1] at hs ⊢
    have e : (⟨#[48, 46]⟩ : ByteArray) ++ zerosB (-pow).toNat ++ ds = ⟨#[48]⟩ ++ (dotB ++ (zerosB (-pow).toNat ++ ds)) ++ ByteArray.empty := by
      apply ByteArray.ext; apply Array.toList_inj.1
      simp only [append_list]
      simp [dotB]
    rw [e] at hs ⊢
    have h := read_made s ⟨#[48]⟩ (dotB ++ (zerosB (-pow).toNat ++ ds)) ByteArray.empty (zerosB (-pow).toNat ++ ds) 0 (by decide) (zeros_good 1)
      (.inr ⟨rfl, by rw [append_size]; omega⟩) (by rw [append_list]; exact good_app (zeros_good _) hg) (.inl ⟨rfl, rfl⟩) hs
    have hv : flW s 10 (⟨#[48]⟩ ++ (zerosB (-pow).toNat ++ ds)) (-((zerosB (-pow).toNat ++ ds).size : Int) + 0) = signBit s + decW 10 (valN 10 ds.data.toList) (pow - (ds.size : Int)) := by
      rw [hflw, append_list, append_list, zerosB_list]
      have e2 : valN 10 ((⟨#[48]⟩ : ByteArray).data.toList ++ (List.replicate (-pow).toNat 48 ++ ds.data.toList)) = valN 10 ds.data.toList := by
        show valN 10 (48 :: (List.replicate (-pow).toNat 48 ++ ds.data.toList)) = _
        rw [valN_zero _ _ _ rfl, zeros_ahead]
      rw [e2, append_size, zerosB_size]
      congr 2
      omega
    rw [hv] at h
    exact h
  · rw [if_neg h1] at hs ⊢
    by_cases h2 : (ds.size : Int) ≤ pow
    · rw [if_pos h2] at hs ⊢
      have e : ds ++ zerosB (pow.toNat - ds.size) = ds ++ zerosB (pow.toNat - ds.size) ++ ByteArray.empty ++ ByteArray.empty := by
        rw [ByteArray.append_empty, ByteArray.append_empty]
      rw [e] at hs ⊢
      have h := read_made s (ds ++ zerosB (pow.toNat - ds.size)) ByteArray.empty ByteArray.empty ByteArray.empty 0 (by rw [append_size]; omega) (by rw [append_list]; exact good_app hg (zeros_good _))
        (.inl ⟨rfl, rfl⟩) (fun c hc => by cases hc) (.inl ⟨rfl, rfl⟩) hs
      have hv : flW s 10 (ds ++ zerosB (pow.toNat - ds.size) ++ ByteArray.empty) (-((ByteArray.empty : ByteArray).size : Int) + 0) = signBit s + decW 10 (valN 10 ds.data.toList) (pow - (ds.size : Int)) := by
        rw [ByteArray.append_empty, hflw, append_list, zerosB_list, zeros_behind, dec_zeros]
        congr 2
        show -((0 : Nat) : Int) + 0 + _ = _
        omega
      rw [hv] at h
      exact h
    · rw [if_neg h2] at hs ⊢
      have hp : pow.toNat < ds.size := by omega
      have e : ds.extract 0 pow.toNat ++ dotB ++ ds.extract pow.toNat ds.size = ds.extract 0 pow.toNat ++ (dotB ++ ds.extract pow.toNat ds.size) ++ ByteArray.empty := by
        rw [ByteArray.append_empty, ByteArray.append_assoc]
      rw [e] at hs ⊢
      have hz1 : (ds.extract 0 pow.toNat).size = pow.toNat := by rw [ByteArray.size_extract]; omega
      have hz2 : (ds.extract pow.toNat ds.size).size = ds.size - pow.toNat := by rw [ByteArray.size_extract]; omega
      have hj : ds.extract 0 pow.toNat ++ ds.extract pow.toNat ds.size = ds := by
        apply ByteArray.ext; apply Array.toList_inj.1
        rw [append_list, Lib.extract_eq, Lib.extract_eq]
        simp only [Nat.sub_zero, List.drop_zero]
        rw [List.take_of_length_le (l := List.drop pow.toNat ds.data.toList) (by rw [List.length_drop, data_len]; exact Nat.le_refl _), List.take_append_drop]
      have hgj : good 10 ((ds.extract 0 pow.toNat).data.toList ++ (ds.extract pow.toNat ds.size).data.toList) := by rw [← append_list, hj]; exact hg
      have h := read_made s (ds.extract 0 pow.toNat) (dotB ++ ds.extract pow.toNat ds.size) ByteArray.empty (ds.extract pow.toNat ds.size) 0 (by omega) (fun c hc => hgj c (List.mem_append_left _ hc))
        (.inr ⟨rfl, by omega⟩) (fun c hc => hgj c (List.mem_append_right _ hc)) (.inl ⟨rfl, rfl⟩) hs
      have hv : flW s 10 (ds.extract 0 pow.toNat ++ ds.extract pow.toNat ds.size) (-((ds.extract pow.toNat ds.size).size : Int) + 0) = signBit s + decW 10 (valN 10 ds.data.toList) (pow - (ds.size : Int)) := by
        rw [hj, hflw, hz2]
        congr 2
        omega
      rw [hv] at h
      exact h
theorem sci_parts (ds : ByteArray) (h0 : 0 < ds.size) : ds.extract 0 1 ++ ds.extract 1 ds.size = ds ∧ (ds.extract 0 1).size = 1 ∧ (ds.extract 1 ds.size).size = ds.size - 1 := by
  refine ⟨?_, by rw [ByteArray.size_extract]; omega, by rw [ByteArray.size_extract]; omega⟩
  apply ByteArray.ext; apply Array.toList_inj.1
  rw [append_list, Lib.extract_eq, Lib.extract_eq]
  simp only [Nat.sub_zero, List.drop_zero]
  rw [List.take_of_length_le (l := List.drop 1 ds.data.toList) (by rw [List.length_drop, data_len]; exact Nat.le_refl _), List.take_append_drop]
theorem read_sci (s : Bool) (ds : ByteArray) (pow : Int) (h0 : 0 < ds.size) (hg : good 10 ds.data.toList) (hp : -90000 ≤ pow) (hp' : pow ≤ 90000) (hs : (sgnB s ++ sciB ds pow).size ≤ 1200) :
    ReadA (sgnB s ++ sciB ds pow) true 0 (· = signBit s + decW 10 (valN 10 ds.data.toList) (pow - (ds.size : Int))) := by
  have hflw : ∀ (t : ByteArray) (e : Int), flW s 10 t e = signBit s + decW 10 (valN 10 t.data.toList) e := fun t e => by unfold flW; rw [if_neg (by omega)]
  obtain ⟨hj, hz1, hz2⟩ := sci_parts ds h0
  have hgj : good 10 ((ds.extract 0 1).data.toList ++ (ds.extract 1 ds.size).data.toList) := by rw [← append_list, hj]; exact hg
  have hP := pwr_int 101 (pow - 1) (by omega) (by omega)
  rw [sgn_text] at hs ⊢
  unfold sciB at hs ⊢
  by_cases h1 : 1 < ds.size
  · rw [if_pos h1] at hs ⊢
    have e : ds.extract 0 1 ++ (⟨#[46]⟩ ++ ds.extract 1 ds.size) ++ ⟨#[101]⟩ ++ intText (pow - 1) 10 = ds.extract 0 1 ++ (dotB ++ ds.extract 1 ds.size) ++ (⟨#[101]⟩ ++ intText (pow - 1) 10) := by
      rw [ByteArray.append_assoc]; rfl
    rw [e] at hs ⊢
    have h := read_made s (ds.extract 0 1) (dotB ++ ds.extract 1 ds.size) (⟨#[101]⟩ ++ intText (pow - 1) 10) (ds.extract 1 ds.size) (pow - 1) (by omega) (fun c hc => hgj c (List.mem_append_left _ hc))
      (.inr ⟨rfl, by omega⟩) (fun c hc => hgj c (List.mem_append_right _ hc)) hP hs
    have hv : flW s 10 (ds.extract 0 1 ++ ds.extract 1 ds.size) (-((ds.extract 1 ds.size).size : Int) + (pow - 1)) = signBit s + decW 10 (valN 10 ds.data.toList) (pow - (ds.size : Int)) := by
      rw [hj, hflw, hz2]
      congr 2
      omega
    rw [hv] at h
    exact h
  · rw [if_neg h1] at hs ⊢
    have hd1 : ds.size = 1 := by omega
    have he : ds.extract 0 1 = ds := by
      have h2 : ds.extract 1 ds.size = ByteArray.empty := by
        apply ByteArray.ext; apply Array.toList_inj.1
        rw [Lib.extract_eq, hd1]; simp
      rw [h2, ByteArray.append_empty] at hj
      exact hj
    rw [he] at hs ⊢
    have e : ds ++ ⟨#[101]⟩ ++ intText (pow - 1) 10 = ds ++ ByteArray.empty ++ (⟨#[101]⟩ ++ intText (pow - 1) 10) := by
      rw [ByteArray.append_empty, ByteArray.append_assoc]
    rw [e] at hs ⊢
    have h := read_made s ds ByteArray.empty (⟨#[101]⟩ ++ intText (pow - 1) 10) ByteArray.empty (pow - 1) h0 hg (.inl ⟨rfl, rfl⟩) (fun c hc => by cases hc) hP hs
    have hv : flW s 10 (ds ++ ByteArray.empty) (-((ByteArray.empty : ByteArray).size : Int) + (pow - 1)) = signBit s + decW 10 (valN 10 ds.data.toList) (pow - (ds.size : Int)) := by
      rw [ByteArray.append_empty, hflw]
      congr 2
      show -((0 : Nat) : Int) + _ = _
      omega
    rw [hv] at h
    exact h
/-- Hexes and a power, behind a sign, are read so. -/
theorem read_hexes (s : Bool) (a x : ByteArray) (n : Int) (ha0 : 0 < a.size) (hga : good 16 a.data.toList) (hx : Pwr 112 x n) (hs : (sgnT s (⟨#[48, 120]⟩ ++ a ++ x)).size ≤ 1200) :
    ReadA (sgnT s (⟨#[48, 120]⟩ ++ a ++ x)) true 0 (· = flW s 16 a n) := by
  obtain ⟨p, hp, hsg⟩ : ∃ p : ByteArray, sgnT s (⟨#[48, 120]⟩ ++ a ++ x) = p ++ ⟨#[48, 120]⟩ ++ a ++ x ∧ ((s = true ∧ p = ⟨#[45]⟩) ∨ (s = false ∧ p = ByteArray.empty)) := by
    cases s
    · exact ⟨ByteArray.empty, by rw [ByteArray.empty_append]; rfl, .inr ⟨rfl, rfl⟩⟩
    · exact ⟨⟨#[45]⟩, by show (⟨#[45]⟩ : ByteArray) ++ (⟨#[48, 120]⟩ ++ a ++ x) = _; simp only [ByteArray.append_assoc], .inl ⟨rfl, rfl⟩⟩
  rw [hp] at hs ⊢
  have e2 : (⟨#[48, 120]⟩ : ByteArray).size = 2 := rfl
  have hpx := pwr_at 112 x n hx
  have e112 : ((112 : UInt8).toNat : Int) = 112 := rfl
  rw [e112] at hpx
  have hz : (p ++ (⟨#[48, 120]⟩ : ByteArray) ++ a ++ x).size = p.size + 2 + a.size + x.size := by simp only [append_size, e2]
  have hb0 : bAt (p ++ (⟨#[48, 120]⟩ : ByteArray) ++ a ++ x) p.size = 48 := by
    rw [bAt_append_left _ _ _ (by simp only [append_size, e2]; omega), bAt_append_left _ _ _ (by simp only [append_size, e2]; omega)]
    have := bAt_append_right p (⟨#[48, 120]⟩ : ByteArray) 0
    rw [Nat.add_zero] at this
    rw [this]; rfl
  have hb1 : bAt (p ++ (⟨#[48, 120]⟩ : ByteArray) ++ a ++ x) (p.size + 1) = 120 := by
    rw [bAt_append_left _ _ _ (by simp only [append_size, e2]; omega), bAt_append_left _ _ _ (by simp only [append_size, e2]; omega), bAt_append_right p (⟨#[48, 120]⟩ : ByteArray) 1]; rfl
  have hsgn : Sgn (p ++ (⟨#[48, 120]⟩ : ByteArray) ++ a ++ x) 0 s p.size := by
    rcases hsg with ⟨rfl, rfl⟩ | ⟨rfl, rfl⟩
    · exact .inl ⟨by rw [hz]; omega, by rw [bAt_append_left _ _ _ (by simp only [append_size, e2]; have : (⟨#[45]⟩ : ByteArray).size = 1 := rfl; omega), bAt_append_left _ _ _ (by simp only [append_size, e2]; have : (⟨#[45]⟩ : ByteArray).size = 1 := rfl; omega), bAt_append_left _ _ _ (by decide)]; rfl, rfl, rfl⟩
    · have h2 : (ByteArray.empty : ByteArray).size = 0 := rfl
      rw [h2] at hb0
      exact .inr (.inr ⟨by omega, by omega, rfl, rfl⟩)
  have hrun : Run 16 (p ++ (⟨#[48, 120]⟩ : ByteArray) ++ a ++ x) (p.size + 2) (p.size + 2 + a.size) := by
    have h1 := run_mid 16 (p ++ ⟨#[48, 120]⟩) a x hga (no_dig_at 16 (by omega) _ (by rcases hpx with ⟨_, h⟩ | ⟨_, h⟩; exact .inl h; exact .inr (.inr (.inl h))))
    rw [append_size, e2] at h1
    exact h1
  have hea : (p ++ (⟨#[48, 120]⟩ : ByteArray) ++ a ++ x).extract (p.size + 2) (p.size + 2 + a.size) = a := by
    have h1 := extract_mid (p ++ ⟨#[48, 120]⟩) a x
    rw [append_size, e2] at h1
    exact h1
  have hexpo : Expo 112 (p ++ (⟨#[48, 120]⟩ : ByteArray) ++ a ++ x) (p.size + 2 + a.size) (.inl (n, (p ++ (⟨#[48, 120]⟩ : ByteArray) ++ a ++ x).size)) := by
    have h1 := expo_made 112 (by decide) (p ++ ⟨#[48, 120]⟩ ++ a) x n hx
    rw [show (p ++ (⟨#[48, 120]⟩ : ByteArray) ++ a).size = p.size + 2 + a.size by simp only [append_size, e2]] at h1
    exact h1
  refine .inr ⟨hs, s, p.size, hsgn, .inr ⟨by omega, by omega, 16, p.size + 2, p.size + 2 + a.size, .inl ⟨hb0, by omega, hb1, rfl, rfl⟩, hrun, .inr ⟨by omega, _, .inl ⟨?_, rfl⟩, .inr ⟨_, _, _, _, rfl, hexpo, .inr ⟨n, _, rfl, .inr ⟨Nat.lt_irrefl _, rfl, rfl, ?_⟩⟩⟩⟩⟩⟩
  · have h1 := bAt_append_right (p ++ (⟨#[48, 120]⟩ : ByteArray) ++ a) x 0
    rw [show (p ++ (⟨#[48, 120]⟩ : ByteArray) ++ a).size + 0 = p.size + 2 + a.size by simp only [append_size, e2]; omega] at h1
    rw [h1]
    rcases hpx with ⟨_, h⟩ | ⟨_, h⟩ <;> rw [h] <;> decide
  · rw [hea]
    unfold expOf
    rw [if_pos rfl, show 4 * (0 : Int) + n = n by omega]
theorem read_hexB (s : Bool) (q : Nat) (E : Int) (hq : q < 9223372036854775808) (hE : -90000 ≤ E) (hE' : E ≤ 90000) : ReadA (hexB s q E) true 0 (· = signBit s + fw false q E) := by
  have hs := hexB_size s q E
  unfold hexB at hs ⊢
  have hu : unsig (q : Int) = q := by unfold unsig; rw [IntKind.wrap_u64]; omega
  have e : sgnB s ++ ⟨#[48, 120]⟩ ++ intText (q : Int) 16 ++ ⟨#[112]⟩ ++ intText E 10 = sgnT s (⟨#[48, 120]⟩ ++ ⟨(textOf 16 q).toArray⟩ ++ (⟨#[112]⟩ ++ intText E 10)) := by
    have ei : intText (q : Int) 16 = ⟨(textOf 16 q).toArray⟩ := by
      rw [intText_pos (q : Int) 16 (by omega) (by omega), hu]; rfl
    rw [← sgn_text, ei]
    simp only [ByteArray.append_assoc]
  rw [e] at hs ⊢
  have h := read_hexes s ⟨(textOf 16 q).toArray⟩ (⟨#[112]⟩ ++ intText E 10) E (by rw [← data_len]; exact text_pos 16 _) (text_good 16 _ (by omega) (by omega)) (pwr_int 112 E (by omega) (by omega)) (by omega)
  have hv : flW s 16 ⟨(textOf 16 q).toArray⟩ E = signBit s + fw false q E := by
    unfold flW
    rw [if_pos rfl]
    show signBit s + fw false (valN 16 (textOf 16 q)) E = _
    rw [textN_val 16 q (by omega) (by omega) (by omega)]
  rw [hv] at h
  exact h
theorem read_inf (s : Bool) : ReadA (sgnB s ++ ⟨#[105, 110, 102]⟩) true 0 (· = iw s) := by
  cases s
  · refine .inr ⟨by decide, false, 0, .inr (.inr ⟨by decide, by decide, rfl, rfl⟩), .inl ⟨false, by decide, 3, by omega, fun t ht => ?_, .inr (.inr ⟨rfl, by decide, rfl, rfl, rfl⟩)⟩⟩
    have : t = 0 ∨ t = 1 ∨ t = 2 := by omega
    rcases this with rfl | rfl | rfl <;> decide
  · refine .inr ⟨by decide, true, 1, .inl ⟨by decide, by decide, rfl, rfl⟩, .inl ⟨false, by decide, 3, by omega, fun t ht => ?_, .inr (.inr ⟨rfl, by decide, rfl, rfl, rfl⟩)⟩⟩
    have : t = 0 ∨ t = 1 ∨ t = 2 := by omega
    rcases this with rfl | rfl | rfl <;> decide
theorem read_nan : ReadA ⟨#[110, 97, 110]⟩ true 0 IsNan := by
  refine .inr ⟨by decide, false, 0, .inr (.inr ⟨by decide, by decide, rfl, rfl⟩), .inl ⟨true, by decide, 3, by omega, fun t ht => ?_, .inr (.inr ⟨rfl, by decide, rfl, rfl, rfl⟩)⟩⟩
  have : t = 0 ∨ t = 1 ∨ t = 2 := by omega
  rcases this with rfl | rfl | rfl <;> decide
theorem read_naught (s : Bool) : ReadA (sgnB s ++ ⟨#[48]⟩) true 0 (· = signBit s) := by
  have h := read_plain s ⟨#[48]⟩ 1 (by decide) (zeros_good 1) (by cases s <;> decide)
  have e : plainB ⟨#[48]⟩ 1 = ⟨#[48]⟩ := by decide
  rw [e] at h
  exact h
end Go.Proofs.YtpmccbkhkaoccaaGreatDoor

/- How long what is written of a float can be: plain. -/
namespace Go.Proofs.YtpmccbkhkaoccaaGreatDoor
open Go.RowKit

theorem ten_two (s d : Nat) (h : s < d) : 10 ^ d = 2 ^ s * (10 * (2 ^ (d - s - 1) * 5 ^ (d - 1))) := by
  have e : 2 ^ s * (10 * (2 ^ (d - s - 1) * 5 ^ (d - 1))) = (2 ^ s * 2 ^ (d - s - 1) * 2) * (5 ^ (d - 1) * 5) := by
    rw [show (10 : Nat) = 2 * 5 from rfl]
    ac_rfl
  rw [e, ← Nat.pow_add, ← Nat.pow_succ, ← Nat.pow_succ, show (s + (d - s - 1)).succ = d by omega, show (d - 1).succ = d by omega, ← Nat.mul_pow]
/-- Behind the point there are no more digits than halvings. -/
theorem behind_few (V Q s d : Nat) (h : V * 2 ^ s = Q * 10 ^ d) (hV : V % 10 ≠ 0) : d ≤ s := by
  apply Nat.le_of_not_lt
  intro hlt
  rw [ten_two s d hlt] at h
  have h2 : V * 2 ^ s = (Q * (10 * (2 ^ (d - s - 1) * 5 ^ (d - 1)))) * 2 ^ s := by rw [h]; simp only [Nat.mul_comm, Nat.mul_left_comm]
  have h3 := Nat.eq_of_mul_eq_mul_right (Nat.two_pow_pos s) h2
  apply hV
  rw [h3, Nat.mul_left_comm]
  exact Nat.mul_mod_right _ _
theorem ten_33 (k : Nat) : 2 ^ (33 * k) ≤ 10 ^ (10 * k) := by
  rw [Nat.pow_mul, Nat.pow_mul]
  exact Nat.pow_le_pow_left (by decide) k
theorem first_ge (ds : ByteArray) (h0 : 0 < ds.size) (hz : ∀ h : 0 < ds.size, ds[0].toNat ≠ 48) : 10 ^ (ds.size - 1) ≤ valN 10 ds.data.toList := by
  rw [text_cons ds h0]
  have h1 := valN_good_ge 10 ds[0] (ds.extract 1 ds.size).data.toList (fun h => hz h0 ((digN_zero _).1 h))
  have h2 := extract_one ds h0
  rw [data_len] at h1
  rwa [show ds.size - 1 = (ds.extract 1 ds.size).size by omega]
theorem exD_sizes (ds : ByteArray) (pow : Int) (q : Nat) (E : Int) (h : ExD ds pow q E) (hq : q < 9007199254740992) (hE : -1074 ≤ E) (hX : ∀ N, N = 971 → q * 2 ^ E.toNat < 2 ^ 53 * 2 ^ N) :
    (ds.size : Int) - pow ≤ 1074 ∧ pow ≤ 320 ∧ ds.size ≤ 1090 ∧ -1074 ≤ pow := by
  obtain ⟨h0, hg, hf, hl, he⟩ := h
  have hV := last_some ds h0 hg hl
  have hge := first_ge ds h0 hf
  generalize valN 10 ds.data.toList = V at *
  have hd : (ds.size : Int) - pow ≤ ((-E).toNat : Int) := by
    by_cases hp : (ds.size : Int) ≤ pow
    · omega
    · rw [show (pow - (ds.size : Int)).toNat = 0 by omega, Nat.pow_zero, Nat.mul_one] at he
      have := behind_few V (q * 2 ^ E.toNat) (-E).toNat ((ds.size : Int) - pow).toNat he hV
      omega
  have hup : 0 < pow → 10 ^ (pow - 1).toNat * 2 ^ (-E).toNat ≤ q * 2 ^ E.toNat := fun hp => by
    by_cases hs : (ds.size : Int) ≤ pow
    · rw [show ((ds.size : Int) - pow).toNat = 0 by omega, Nat.pow_zero, Nat.mul_one] at he
      rw [← he]
      refine Nat.mul_le_mul_right _ ?_
      have : 10 ^ (pow - 1).toNat = 10 ^ (ds.size - 1) * 10 ^ (pow - (ds.size : Int)).toNat := by rw [← Nat.pow_add]; congr 1; omega
      rw [this]
      exact Nat.mul_le_mul_right _ hge
    · rw [show (pow - (ds.size : Int)).toNat = 0 by omega, Nat.pow_zero, Nat.mul_one] at he
      have h10 : 0 < 10 ^ ((ds.size : Int) - pow).toNat := Nat.pow_pos (by omega)
      refine Nat.le_of_mul_le_mul_right ?_ h10
      rw [← he, Nat.mul_assoc, Nat.mul_comm (2 ^ (-E).toNat), ← Nat.mul_assoc]
      refine Nat.mul_le_mul_right _ ?_
      rw [← Nat.pow_add, show (pow - 1).toNat + ((ds.size : Int) - pow).toNat = ds.size - 1 by omega]
      exact hge
  have hpow : pow ≤ 320 := by
    apply Classical.byContradiction
    intro hn
    have h1 := hup (by omega)
    obtain ⟨N, hN⟩ : ∃ N : Nat, N = 971 := ⟨_, rfl⟩
    have h2 := hX N hN
    obtain ⟨K, hK⟩ : ∃ K : Nat, K = 32 := ⟨_, rfl⟩
    have h3 : 10 ^ (10 * K) ≤ 10 ^ (pow - 1).toNat := Nat.pow_le_pow_right (by omega) (by omega)
    have h4 := ten_33 K
    have h5 : 10 ^ (pow - 1).toNat ≤ 10 ^ (pow - 1).toNat * 2 ^ (-E).toNat := Nat.le_mul_of_pos_right _ (Nat.two_pow_pos _)
    have h6 : 2 ^ 53 * 2 ^ N ≤ 2 ^ (33 * K) := by rw [← Nat.pow_add]; exact Nat.pow_le_pow_right (by omega) (by omega)
    exact Nat.lt_irrefl _ (Nat.lt_of_le_of_lt (Nat.le_trans h6 (Nat.le_trans h4 (Nat.le_trans h3 (Nat.le_trans h5 h1)))) h2)
  have hneg : E < 0 → pow ≤ 16 := fun hE0 => by
    apply Classical.byContradiction
    intro hn
    have h1 := hup (by omega)
    rw [show E.toNat = 0 by omega, Nat.pow_zero, Nat.mul_one] at h1
    have h3 : 10 ^ 16 ≤ 10 ^ (pow - 1).toNat := Nat.pow_le_pow_right (by omega) (by omega)
    have h5 : 10 ^ (pow - 1).toNat ≤ 10 ^ (pow - 1).toNat * 2 ^ (-E).toNat := Nat.le_mul_of_pos_right _ (Nat.two_pow_pos _)
    have h6 : (10 : Nat) ^ 16 = 10000000000000000 := by decide
    omega
  refine ⟨by omega, hpow, ?_, by omega⟩
  by_cases hE0 : E < 0
  · have := hneg hE0; omega
  · omega
theorem plain_len (ds : ByteArray) (pow : Int) (h1 : (ds.size : Int) - pow ≤ 1074) (h2 : pow ≤ 320) (h3 : ds.size ≤ 1090) : (plainB ds pow).size ≤ 1091 := by
  unfold plainB
  have e2 : (⟨#[48, 46]⟩ : ByteArray).size = 2 := rfl
  have e3 : dotB.size = 1 := rfl
  split
  · rw [append_size, append_size, zerosB_size, e2]; omega
  · split
    · rw [append_size, zerosB_size]; omega
    · rw [append_size, append_size, e3, ByteArray.size_extract, ByteArray.size_extract]; omega
end Go.Proofs.YtpmccbkhkaoccaaGreatDoor

