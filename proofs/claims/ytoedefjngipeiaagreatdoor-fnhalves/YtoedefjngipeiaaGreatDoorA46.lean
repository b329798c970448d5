import Derived.Test.YtoedefjngipeiaaGreatDoorA45
import Derived.Test.YtoedefjngipeiaaGreatDoorA30
import Derived.Test.YtoedefjngipeiaaGreatDoorA14
/- What the program's reader answers is what reading answers: plain. -/
namespace Go.Proofs.YtoedefjngipeiaaGreatDoor
open Go.RowKit

theorem fin_none {s : ByteArray} {b k : Nat} {V beh j : Nat} (h : DgR b s k V beh none j) : ∃ p ds e, Run b s k p ∧ k < p ∧ Frac b s k p (some (ds, e, j)) ∧ V = valN b ds.data.toList ∧ e = -(beh : Int) := by
  obtain ⟨p, hr, h⟩ := h
  rcases h with ⟨_, h, _⟩ | ⟨hk, ⟨hb, _, rfl, rfl, rfl⟩ | ⟨hb, i, hi, ⟨_, h, _⟩ | ⟨hl, _, rfl, rfl, rfl⟩⟩⟩
  · cases h
  · exact ⟨_, _, 0, hr, hk, .inl ⟨hb, rfl⟩, rfl, by simp⟩
  · cases h
  · exact ⟨p, _, _, hr, hk, .inr ⟨hb, _, hi, .inr ⟨hl, rfl⟩⟩, rfl, rfl⟩
theorem fin_some {s : ByteArray} {b k : Nat} {V beh j a : Nat} (h : DgR b s k V beh (some a) j) : (Run b s k k ∧ a = k) ∨ ∃ p, Run b s k p ∧ k < p ∧ Frac b s k p none ∧ a = p + 1 := by
  obtain ⟨p, hr, h⟩ := h
  rcases h with ⟨rfl, h, _⟩ | ⟨hk, ⟨_, h, _⟩ | ⟨hb, i, hi, ⟨rfl, h, _⟩ | ⟨_, h, _⟩⟩⟩
  · exact .inl ⟨hr, Option.some.inj h⟩
  · cases h
  · exact .inr ⟨p, hr, hk, .inr ⟨hb, _, hi, .inl ⟨rfl, rfl⟩⟩, Option.some.inj h⟩
  · cases h
/-- The power as the specification has it. -/
theorem pow_none {m : Int} {s : ByteArray} {j i : Nat} {P : Int} (h : Pow m s j P none i) : ∃ n, Expo m s j (.inl (n, i)) ∧ (P = n ∨ (100000 ≤ P ∧ n = 100000) ∨ (P ≤ -100000 ∧ n = -100000)) := by
  rcases h with ⟨hb, rfl, _, rfl⟩ | ⟨hb, neg, k, hs, hr, ⟨_, _, h⟩ | ⟨hk, _, N, hc, rfl⟩⟩
  · exact ⟨0, .inl ⟨hb, rfl⟩, .inl rfl⟩
  · cases h
  · refine ⟨expV neg (runV 10 s k i), .inr ⟨hb, neg, k, i, hs, hr, .inr ⟨hk, rfl⟩⟩, ?_⟩
    unfold expV cap
    rcases hc with ⟨h1, rfl⟩ | ⟨h1, h2, h3⟩
    · by_cases h : runV 10 s k i ≤ 100000
      · left; rw [Nat.min_eq_left h]
      · rw [Nat.min_eq_right (by omega)]
        cases neg
        · right; left; simp; omega
        · right; right; simp; omega
    · rw [Nat.min_eq_right (by omega)]
      cases neg
      · right; left; simp; omega
      · right; right; simp; omega
theorem pow_some {m : Int} {s : ByteArray} {j i a : Nat} {P : Int} (h : Pow m s j P (some a) i) : Expo m s j (.inr a) := by
  rcases h with ⟨hb, _, h, _⟩ | ⟨hb, neg, k, hs, hr, ⟨rfl, _, h⟩ | ⟨_, h, _⟩⟩
  · cases h
  · have := Option.some.inj h
    subst this
    exact .inr ⟨hb, neg, _, _, hs, hr, .inl ⟨rfl, rfl⟩⟩
  · cases h
/-- Far powers come to the same word. -/
theorem dec_far (V n : Nat) (e P k : Int) (hV : V < 10 ^ n) (hn : n ≤ 1200) (he : -1200 ≤ e) (he' : e ≤ 0) (h : P = k ∨ (100000 ≤ P ∧ k = 100000) ∨ (P ≤ -100000 ∧ k = -100000)) : decW 10 V (P + e) = decW 10 V (e + k) := by
  rw [dec_clamp V (P + e) n hV hn, dec_clamp V (e + k) n hV hn]
  congr 1
  omega
theorem fw_far (V L : Nat) (e P k : Int) (hV : V < 2 ^ L) (hL : L ≤ 5000) (he : -5000 ≤ e) (he' : e ≤ 0) (h : P = k ∨ (100000 ≤ P ∧ k = 100000) ∨ (P ≤ -100000 ∧ k = -100000)) : fw false V (P + e) = fw false V (e + k) := by
  rcases h with rfl | ⟨h1, rfl⟩ | ⟨h1, rfl⟩
  · congr 1; omega
  · by_cases h0 : V = 0
    · subst h0; rw [fw_zero, fw_zero]
    · rw [fw_over false V (P + e) _ (by omega) rfl (by omega), fw_over false V (e + 100000) _ (by omega) rfl (by omega)]
  · by_cases h0 : V = 0
    · subst h0; rw [fw_zero, fw_zero]
    · have hl : V.log2 < L := (Nat.log2_lt h0).2 hV
      rw [fw_low false V (P + e) (by omega), fw_low false V (e + -100000) (by omega)]
theorem quo_hex (V : Nat) (Q : Int) : quoW V 1 Q.toNat (-Q).toNat = fw false V Q := by
  unfold quoW
  by_cases h : V = 0
  · subst h; rw [if_pos rfl, fw_zero]; rfl
  · rw [if_neg h, Nat.one_mul, ratioW_fw V Q.toNat (-Q).toNat (by omega)]
    congr 1
    omega
end Go.Proofs.YtoedefjngipeiaaGreatDoor

/- The program's reader: a float. -/
namespace Go.Proofs.YtoedefjngipeiaaGreatDoor
open Go.ChangeShapes Go.WideShapes Go.RowKit
open Ieee (double)

/-- What the reader of a float answers: a word (a NaN's for the word nan), the place of a break, the end. -/
def Flo (s : ByteArray) (fl : Nat → Prop) (r : Option Nat) (j : Nat) : Prop :=
  ∃ neg k, Sgn s 0 neg k ∧ (
    (∃ nan, bAt s k = wordC nan 0 ∧ Wrd nan s k r j ∧ fl = (if nan then IsNan else (· = iw neg))) ∨
    (bAt s k ≠ 105 ∧ bAt s k ≠ 110 ∧ ∃ b k1 x, (b = 10 ∨ b = 16) ∧ Bas s k b k1 ∧ Fin b (markOf b) s k1 neg x r j ∧ fl = (· = x)))
theorem nan_here : IsNan (signBit false + (2047 * 4503599627370496 + 2251799813685248)) := ⟨_, _, rfl⟩
theorem nan_eq {x : Nat} (h : (fun z => z = x) = IsNan) : x < 18446744073709551616 := by
  have h1 : (signBit false + (2047 * 4503599627370496 + 2251799813685248) = x) = IsNan _ := congrFun h _
  have h2 := nan_here
  rw [← h1] at h2
  rw [← h2]
  decide
theorem nan_if {x : Nat} (r : Option Nat) (h : (fun z => z = x) = IsNan) : (if r = none then x else 0) < 18446744073709551616 := by
  have := nan_eq h
  split <;> omega
/-- What is said of a call that reads a float in a text. -/
def FloQ (G : Nat) (s : ByteArray) (w : World) (e : Ending) (w' : World) : Prop :=
  ∃ fl r j x, Flo s fl r j ∧ (r = none → fl x) ∧ (fl = IsNan → x < 18446744073709551616) ∧ j ≤ s.size ∧ e = .returned (.tuple #[.float .f64 x, errV r]) ∧ Rr w' G s j ∧ Mod G w w'
theorem wrd_le {nan : Bool} {s : ByteArray} {k j : Nat} {r : Option Nat} (hk : k ≤ s.size) (h : Wrd nan s k r j) : j ≤ s.size := by
  obtain ⟨i, h1, h2, rfl, _⟩ := h
  rcases Nat.eq_zero_or_pos i with rfl | hp
  · omega
  · have h3 := h2 (i - 1) (by omega)
    rcases Nat.lt_or_ge (k + (i - 1)) s.size with h | h
    · omega
    · rw [bAt_out s _ (by omega)] at h3
      exfalso
      have : i - 1 = 0 ∨ i - 1 = 1 ∨ i - 1 = 2 := by omega
      unfold wordC at h3
      rcases this with e | e | e <;> rw [e] at h3 <;> cases nan <;> simp at h3
set_option maxHeartbeats 2000000 in
set_option maxRecDepth 100000 in
theorem rfloat_any (G : Nat) (s : ByteArray) (w : World) (h : Rr w G s 0) (hs : s.size ≤ 1200) :
    Calls Tryz.prog 62 #[.pointer (some ⟨G, 0, none⟩)] w (FloQ G s w) := by
  obtain ⟨neg, k, hsg⟩ := sgn_any s 0
  have hk := sgn_le s 0 neg k hsg (by omega)
  have HSG : Hid (Sgn s 0 neg k) := hsg
  have HSI : Hid _ := fun (_ : Unit) => rsign_any G 0 s w h (by omega) hs neg k hsg
  have HSE : Hid (∀ (W : World) (c : UInt8), c.toNat ≠ 0 → Rr W G s k → Calls Tryz.prog 84 #[.pointer (some ⟨G, 0, none⟩), .string ⟨#[c]⟩] W fun e w' => e = .returned (.bool (decide (bAt s k = (c.toNat : Int)))) ∧ ∃ n, w' = W.drewN n) := fun W c hc hr => by
    rw [← pre_one s k c hc]; exact sees_any G k s ⟨#[c]⟩ W hr hk
  have HSX : Hid (∀ (W : World), Rr W G s k → Calls Tryz.prog 84 #[.pointer (some ⟨G, 0, none⟩), .string ⟨#[48, 120]⟩] W fun e w' => e = .returned (.bool (decide (bAt s k = 48 ∧ k + 1 < s.size ∧ bAt s (k + 1) = 120))) ∧ ∃ n, w' = W.drewN n) := fun W hr => by
    have h2 := pre_two s k 48 120
    have h3 := sees_any G k s ⟨#[48, 120]⟩ W hr hk
    rw [h2] at h3; exact h3
  clear h hsg
  go_enter Tryz.func62, Tryz.ntmps62
  go_wp2_with fail
  refine (HSI.out ()).mono ?_
  rintro e w1 ⟨rfl, hr1, hm1⟩
  have HR1 : Hid (Rr w1 G s k) := hr1
  have HM1 : Hid (Mod G w w1) := hm1
  clear hr1 hm1 HSI
  by_cases hi : bAt s k = 105
  · have HC : Hid _ := fun (_ : Unit) => HSE.out w1 105 (by decide) HR1.out
    rw [show ((105 : UInt8).toNat : Int) = 105 from rfl, decide_eq_true hi] at HC
    have HW0 : Hid (bAt s k = wordC false 0) := hi
    clear hi HSE HSX
    go_wp2_with fail
    refine (HC.out ()).mono ?_
    rintro e w2 ⟨rfl, n, rfl⟩
    have HE : Hid (∀ W, Rr W G s k → Calls Tryz.prog 85 #[.pointer (some ⟨G, 0, none⟩), .string ⟨#[105, 110, 102]⟩] W fun e w' => ∃ r j, Wrd false s k r j ∧ e = .returned (errV r) ∧ Rr w' G s j ∧ Mod G W w') := fun W hr => expect_any false G k s W hr hk hs
    have HF : Hid (∀ W, Calls Tryz.prog 21 #[.agg #[.bool neg, .int .u64 2047, .int .u64 0]] W fun e w' => e = .returned (.float .f64 (iw neg)) ∧ Below W.heap.size W w') := fun W => float_inf neg W
    go_wp2_with fail
    refine (infinity_any _ _).mono ?_
    rintro e w3 ⟨rfl, rfl⟩
    go_wp2_with fail
    refine (HF.out _).mono ?_
    rintro e w4 ⟨rfl, hb4⟩
    have HR4 : Hid (Rr w4 G s k) := Rr.below (Rr.alloc (w := w1.drewN n) (show Rr _ G s k from HR1.out) _) hb4
    have HM4 : Hid (Mod G w w4) := (Mod.alloc (w := w1.drewN n) (show Mod G w _ from HM1.out) _).trans (Mod.of_below hb4)
    clear hb4
    go_wp2_with fail
    refine (HE.out _ HR4.out).mono ?_
    rintro e w5 ⟨r, j, hw, rfl, hr5, hm5⟩
    have H5 : Hid (FloQ G s w (.returned (.tuple #[.float .f64 (iw neg), errV r])) w5) := ⟨_, r, j, iw neg, ⟨neg, k, HSG.out, .inl ⟨false, HW0.out, hw, rfl⟩⟩, fun _ => rfl, fun _ => by cases neg <;> decide, wrd_le hk hw, rfl, hr5, HM4.out.trans hm5⟩
    clear hw hr5 hm5
    go_wp2
    go_ret2
    exact H5.out
  · have HC : Hid _ := fun (_ : Unit) => HSE.out w1 105 (by decide) HR1.out
    rw [show ((105 : UInt8).toNat : Int) = 105 from rfl, decide_eq_false hi] at HC
    have HNI : Hid (bAt s k ≠ 105) := hi
    clear hi
    go_wp2_with fail
    refine (HC.out ()).mono ?_
    rintro e w2 ⟨rfl, n, rfl⟩
    have HR2 : Hid (Rr (w1.drewN n) G s k) := HR1.out
    have HM2 : Hid (Mod G w (w1.drewN n)) := HM1.out
    generalize w1.drewN n = w2 at *
    clear HR1 HM1 HC
    by_cases hn : bAt s k = 110
    · have HC : Hid _ := fun (_ : Unit) => HSE.out w2 110 (by decide) HR2.out
      rw [show ((110 : UInt8).toNat : Int) = 110 from rfl, decide_eq_true hn] at HC
      have HW0 : Hid (bAt s k = wordC true 0) := hn
      clear hn HSE HSX
      go_wp2_with fail
      refine (HC.out ()).mono ?_
      rintro e w3 ⟨rfl, n3, rfl⟩
      have HE : Hid (∀ W, Rr W G s k → Calls Tryz.prog 85 #[.pointer (some ⟨G, 0, none⟩), .string ⟨#[110, 97, 110]⟩] W fun e w' => ∃ r j, Wrd true s k r j ∧ e = .returned (errV r) ∧ Rr w' G s j ∧ Mod G W w') := fun W hr => expect_any true G k s W hr hk hs
      have HF : Hid (∀ W, Calls Tryz.prog 21 #[.agg #[.bool false, .int .u64 2047, .int .u64 2251799813685248]] W fun e w' => e = .returned (.float .f64 (signBit false + (2047 * 4503599627370496 + 2251799813685248))) ∧ Below W.heap.size W w') := fun W => by
        refine (float_any false 2047 2251799813685248 (by omega) (by omega) W).mono ?_
        rintro e w' ⟨rfl, rfl⟩
        exact ⟨rfl, ((Below.refl _ W).alloc (by simp) _).alloc (by simp) _⟩
      go_wp2_with fail
      refine (HF.out _).mono ?_
      rintro e w4 ⟨rfl, hb4⟩
      have HR4 : Hid (Rr w4 G s k) := Rr.below (w := w2.drewN n3) (show Rr _ G s k from HR2.out) hb4
      have HM4 : Hid (Mod G w w4) := Mod.trans (b := w2.drewN n3) (show Mod G w _ from HM2.out) (Mod.of_below hb4)
      clear hb4
      go_wp2_with fail
      refine (HE.out _ HR4.out).mono ?_
      rintro e w5 ⟨r, j, hw, rfl, hr5, hm5⟩
      have H5 : Hid (FloQ G s w (.returned (.tuple #[.float .f64 (signBit false + (2047 * 4503599627370496 + 2251799813685248)), errV r])) w5) := ⟨_, r, j, _, ⟨neg, k, HSG.out, .inl ⟨true, HW0.out, hw, rfl⟩⟩, fun _ => nan_here, fun _ => by decide, wrd_le hk hw, rfl, hr5, HM4.out.trans hm5⟩
      clear hw hr5 hm5
      go_wp2
      go_ret2
      exact H5.out
    · have HC : Hid _ := fun (_ : Unit) => HSE.out w2 110 (by decide) HR2.out
      rw [show ((110 : UInt8).toNat : Int) = 110 from rfl, decide_eq_false hn] at HC
      have HNN : Hid (bAt s k ≠ 110) := hn
      clear hn HSE
      go_wp2_with fail
      refine (HC.out ()).mono ?_
      rintro e w3 ⟨rfl, n3, rfl⟩
      have HR3 : Hid (Rr (w2.drewN n3) G s k) := HR2.out
      have HM3 : Hid (Mod G w (w2.drewN n3)) := HM2.out
      generalize w2.drewN n3 = w3 at *
      clear HR2 HM2 HC
      have HX : Hid _ := fun (_ : Unit) => HSX.out w3 HR3.out
      by_cases hx : bAt s k = 48 ∧ k + 1 < s.size ∧ bAt s (k + 1) = 120
      · rw [decide_eq_true hx] at HX
        have hk2 : k + 2 ≤ s.size := by omega
        have HBS : Hid (Bas s k 16 (k + 2)) := .inl ⟨hx.1, hx.2.1, hx.2.2, rfl, rfl⟩
        clear hx HSX
        go_wp2_with fail
        refine (HX.out ()).mono ?_
        rintro e w4 ⟨rfl, n4, rfl⟩
        have hat := Rr.at_ (w := w3.drewN n4) HR3.out
        have hfr := Rr.froz (w := w3.drewN n4) HR3.out 1
        have HR4 : Hid (Rr ((w3.drewN n4).setCell ⟨G, 1, none⟩ (.int .i64 ((k : Int) + 2))) G s (k + 2)) := by
          have h := Rr.set (w := w3.drewN n4) HR3.out (k + 2)
          rw [show ((k + 2 : Nat) : Int) = (k : Int) + 2 by omega] at h
          exact h
        have HM4 : Hid (Mod G w ((w3.drewN n4).setCell ⟨G, 1, none⟩ (.int .i64 ((k : Int) + 2)))) := Mod.setCell (w := w3.drewN n4) (show Mod G w _ from HM3.out) _ _
        have hks : (k : Int) ≤ 1200 := by omega
        have HH : Hid _ := fun (_ : Unit) => hex_any neg G (k + 2) s _ HR4.out (by omega) hs (by omega)
        clear HX
        go_wp2_with fail
        refine (HH.out ()).mono ?_
        rintro e w5 ⟨x, r, j, hf, hj, rfl, hr5, hm5⟩
        have H5 : Hid (FloQ G s w (.returned (.tuple #[.float .f64 (if r = none then x else 0), errV r])) w5) := ⟨_, r, j, _, ⟨neg, k, HSG.out, .inr ⟨HNI.out, HNN.out, 16, k + 2, x, .inr rfl, HBS.out, hf, rfl⟩⟩, fun h => by rw [if_pos h], fun h => nan_if r h, hj, rfl, hr5, HM4.out.trans hm5⟩
        clear hf hr5 hm5 hj HH
        generalize (if r = none then x else 0) = y at *
        generalize errV r = ev at *
        go_wp2
        go_ret2
        exact H5.out
      · rw [decide_eq_false hx] at HX
        have HBS : Hid (Bas s k 10 k) := .inr ⟨hx, rfl, rfl⟩
        clear hx HSX
        go_wp2_with fail
        refine (HX.out ()).mono ?_
        rintro e w4 ⟨rfl, n4, rfl⟩
        have HH : Hid _ := fun (_ : Unit) => decimal_any neg G k s (w3.drewN n4) HR3.out hk hs
        clear HX
        go_wp2_with fail
        refine (HH.out ()).mono ?_
        rintro e w5 ⟨x, r, j, hf, hj, rfl, hr5, hm5⟩
        have H5 : Hid (FloQ G s w (.returned (.tuple #[.float .f64 (if r = none then x else 0), errV r])) w5) := ⟨_, r, j, _, ⟨neg, k, HSG.out, .inr ⟨HNI.out, HNN.out, 10, k, x, .inl rfl, HBS.out, hf, rfl⟩⟩, fun h => by rw [if_pos h], fun h => nan_if r h, hj, rfl, hr5, Mod.trans (b := w3.drewN n4) (show Mod G w _ from HM3.out) hm5⟩
        clear hf hr5 hm5 hj HH
        generalize (if r = none then x else 0) = y at *
        generalize errV r = ev at *
        go_wp2
        go_ret2
        exact H5.out
end Go.Proofs.YtoedefjngipeiaaGreatDoor

/- A word that is read is one of 64 bits: plain. -/
namespace Go.Proofs.YtoedefjngipeiaaGreatDoor
open Go.RowKit
open Ieee (double)

theorem fw_half (m : Nat) (e : Int) : fw false m e < 9223372036854775808 := by
  by_cases h0 : m = 0
  · subst h0; rw [fw_zero]; decide
  · rw [fw_place false m e (by omega)]
    have : min ((max (e + (m.log2 : Int) - 52) (-1074) + 1074).toNat * 4503599627370496 + roundN m (max (e + (m.log2 : Int) - 52) (-1074) - e)) 9218868437227405312 ≤ 9218868437227405312 := Nat.min_le_right _ _
    show 0 + _ < _
    omega
theorem decW_half (b V : Nat) (e : Int) : decW b V e < 9223372036854775808 := by
  unfold decW
  split
  · omega
  · unfold ratioW ratioAt
    split <;> exact fw_half _ _
theorem flW_lt (neg : Bool) (b : Nat) (ds : ByteArray) (e : Int) : flW neg b ds e < 18446744073709551616 := by
  unfold flW
  have h1 := fw_half (valN 16 ds.data.toList) e
  have h2 := decW_half 10 (valN 10 ds.data.toList) e
  split <;> cases neg <;> simp only [signBit] <;> simp <;> omega
end Go.Proofs.YtoedefjngipeiaaGreatDoor

