import Derived.Test.YtpmccbkhkaoccaaDoorRows
import Derived.Test.YtpmccbkhkaoccaaDoorA10
import Derived.ProofKit
import Derived.LaidMore
import Derived.OpenShut
import Derived.OpenVars
import Derived.Lib.LaidTab
import Derived.Stop.LaidErr
import Derived.Stop.Joined
import Derived.SevenTiedAt
import Derived.Lay
import Derived.Test.YtpmccbkhkaoccaaDoorA06
import Derived.Laws.FloatBits
/- What the listed tables give. -/
namespace Go.Proofs.YtpmccbkhkaoccaaDoor
open Go.ChangeShapes Go.WideShapes Go.ChangeAt Go.WideMaps Go.WideElems Go.RowKit

theorem own : ownKnob Tryd.prog.godebug = none := by kernel_rfl
theorem laidOut : laidOutB Tryd.prog = true := by kernel_rfl
theorem gTab : Tryd.prog.globalNamed "math/bits.deBruijn64tab" = some 0 := by kernel_rfl
theorem tTab : (Tryd.prog.globals[0]?).map (·.type) = some 95 := by kernel_rfl
theorem gDigits : Tryd.prog.globalNamed "loop.example/grain/impl.digitBytes" = some 1 := by kernel_rfl
theorem tDigits : (Tryd.prog.globals[1]?).map (·.type) = some 101 := by kernel_rfl
def laidList : List (String × DataW Unit) := [("math/bits.deBruijn64tab", Rows.laid_math_bits_deBruijn64tab), ("unicode/utf8.acceptRanges", Rows.laid_unicode_utf8_acceptRanges), ("loop.example/grain/impl.digitBytes", Rows.laid_loop_example_grain_impl_digitBytes), ("unicode/utf8.first", Rows.laid_unicode_utf8_first)]
def tabNums : List Int := Lib.deBruijn64tab.map fun (n : Nat) => (n : Int)
theorem tabNums_at : ∀ i : Fin 64, tabNums.getD i.val 0 = ((Lib.deBruijn64tab.getD i.val 0 : Nat) : Int) := by decide
def digitNums : List Int := [48, 49, 50, 51, 52, 53, 54, 55, 56, 57, 97, 98, 99, 100, 101, 102, 103, 104, 105, 106, 107, 108, 109, 110, 111, 112, 113, 114, 115, 116, 117, 118, 119, 120, 121, 122]
theorem digitNums_at : ∀ i : Fin 36, digitNums.getD i.val 0 = ((dch i.val).toNat : Int) := by decide
theorem wrg_of_met {W : World} (h : laidMet Tryd.prog laidList W) : WrG W := by
  have ht : Lib.TabIs Tryd.prog W "math/bits.deBruijn64tab" .u8 tabNums :=
    Lib.tabIs_of_head gTab tTab Tryd.underlying95 Tryd.underlying5 (by kernel_rfl) (by kernel_rfl) h
  have hd : Lib.TabIs Tryd.prog W "loop.example/grain/impl.digitBytes" .u8 digitNums :=
    Lib.tabIs_of_head gDigits tDigits Tryd.underlying101 Tryd.underlying5 (by kernel_rfl) (by kernel_rfl) h.tail.tail
  have hc : DTab W := fun i hi => by
    have := ht.cell gTab i hi
    rw [this, tabNums_at ⟨i, hi⟩]
  have hc2 : Tab W := fun i hi => by
    have := hd.cell gDigits i hi
    rw [this, digitNums_at ⟨i, hi⟩]
  exact ⟨hc, hc2, (World.block_lt_of_cell? W _ (hc 0 (by decide))), (World.block_lt_of_cell? W _ (hc2 0 (by decide)))⟩
theorem wrg_of_laid {W : World} (h : laidMetH Tryd.prog laidList W) : WrG W := by
  rw [MakeChecks.laidMetH_plain _ _ _ (by kernel_rfl)] at h
  exact wrg_of_met h
theorem all_met (os : Os) (args : Array Value) : laidMetH Tryd.prog laidList ((World.laidAll Tryd.prog os laidList).forCall (fun _ _ => 0) ⟨#[], args, []⟩).memory := by
  rw [MakeChecks.laidMetH_plain _ _ _ (by kernel_rfl)]
  exact laidMet_laidAll _ (by kernel_rfl) (by kernel_rfl)
end Go.Proofs.YtpmccbkhkaoccaaDoor

/- Float operations that the drawing of floats makes: plain. -/
namespace Go.Proofs.YtpmccbkhkaoccaaDoor
open Ieee (double)

theorem width_64 : (2 : Nat) ^ double.width = 18446744073709551616 := by decide
/-- A quotient of two numbers, the second not 0. -/
theorem div_rep (s t : Bool) (a b : Nat) (i j : Int) (ha : Rep a i) (hb : Rep b j) (h0 : 0 < b) : ∃ r, double.div (fw s a i) (fw t b j) = some r ∧ r < 18446744073709551616 := by
  obtain ⟨m, p, hc, hw, _, _⟩ := rep_canon a i ha
  obtain ⟨n, q, kc, kw, _, k0⟩ := rep_canon b j hb
  have hn := k0 h0
  have : ∃ r, double.div (fw s a i) (fw t b j) = some r := by
    rw [hw s, kw t]
    unfold Ieee.Format.div
    rw [read_canon s m p hc, read_canon t n q kc]
    obtain ⟨n', rfl⟩ : ∃ n', n = n' + 1 := ⟨n - 1, by omega⟩
    cases m <;> exact ⟨_, rfl⟩
  obtain ⟨r, hr⟩ := this
  exact ⟨r, hr, by rw [← width_64]; exact double.div_lt hr⟩
theorem bits_100 : (4636737291354636288 : Nat) = fw false 100 0 := by
  have e := fw_scale false 100 46 0
  rw [show (0 : Int) - ((46 : Nat) : Int) = -46 by omega, show 100 * 2 ^ 46 = 7036874417766400 by decide, fw_canon _ _ _ (.inl ⟨by omega, by omega, by omega, by omega⟩)] at e
  rw [← e]; decide
theorem bits_eighth : (4593671619917905920 : Nat) = fw false 4503599627370496 (-3 - 52) := by rw [fw_canon _ _ _ (.inl ⟨by omega, by omega, by omega, by omega⟩)]; decide
theorem minus_one_by_zero : double.div 13830554455654793216 0 = some (iw true) := by decide
theorem fw_word (s : Bool) (m : Nat) (e : Int) : fw s m e < 18446744073709551616 := by rw [← width_64]; exact double.nearest_lt s m e
/-- A minus ahead of a word. -/
theorem neg_lt (x : Nat) (h : x < 18446744073709551616) : Op.negFloat .f64 x < 18446744073709551616 := by
  rcases Nat.lt_or_ge x 9223372036854775808 with h1 | h1
  · have := neg_word false x h1
    rw [show signBit false + x = x from Nat.zero_add x] at this
    rw [this]
    show 9223372036854775808 + x < _
    omega
  · obtain ⟨r, rfl⟩ : ∃ r, x = signBit true + r := ⟨x - 9223372036854775808, by show x = 9223372036854775808 + _; omega⟩
    have hr : r < 9223372036854775808 := by have : signBit true = 9223372036854775808 := rfl; omega
    rw [neg_word true r hr]
    show 0 + r < _
    omega
end Go.Proofs.YtpmccbkhkaoccaaDoor

/- The order of floats as that of their bits. -/
namespace Go.Proofs.YtpmccbkhkaoccaaDoor
open Ieee (double)

/-- What a word without its sign bit counts, with the sign. -/
def rankI (s : Bool) (r : Nat) : Int := if s then -(r : Int) else (r : Int)
theorem rung_lt_sval (m n : Nat) (p q : Int) (h : Canon m p) (k : Canon n q) (hr : rung m p < rung n q) : sval false m p < sval false n q := by
  unfold rung at hr
  by_cases hpq : p = q
  · subst hpq
    exact sval_lt m n p p (by omega) (by omega)
  · have hlt : p < q := by
      rcases h with h | h <;> rcases k with k | k <;> omega
    have hn : 4503599627370496 ≤ n := by rcases k with k | k <;> rcases h with h | h <;> omega
    have hm : m < 9007199254740992 := by rcases h with h | h <;> omega
    have hp : -1074 ≤ p := by rcases h with h | h <;> omega
    have h1 := sval_lt m 9007199254740992 p p hm (by omega)
    have h2 : sval false 9007199254740992 p = sval false 4503599627370496 (p + 1) := by
      have := sval_scale false 4503599627370496 1 (p + 1) (by omega)
      rw [show (4503599627370496 * 2 ^ 1 : Nat) = 9007199254740992 by decide, show (p + 1 - ((1 : Nat) : Int)) = p by omega] at this
      exact this
    have h3 := sval_le n 4503599627370496 q (p + 1) hn (by omega)
    omega
theorem rung_eq_sval (m n : Nat) (p q : Int) (h : Canon m p) (k : Canon n q) (hr : rung m p = rung n q) : sval false m p = sval false n q := by
  have e : fw false m p = fw false n q := by rw [fw_canon _ _ _ h, fw_canon _ _ _ k, hr]
  have h1 := read_canon false m p h
  rw [e, read_canon false n q k] at h1
  cases h1; rfl
theorem sval_nonneg (m : Nat) (p : Int) : 0 ≤ sval false m p := by
  by_cases h : m = 0
  · subst h; rw [sval_zero]; omega
  · have := sval_pos m p (by omega); omega
theorem rung_zero (m : Nat) (p : Int) (hr : rung m p = 0) : m = 0 := by
  unfold rung at hr; omega
theorem cmp_rung (s t : Bool) (m n : Nat) (p q : Int) (h : Canon m p) (k : Canon n q) : compare (sval s m p) (sval t n q) = compare (rankI s (rung m p)) (rankI t (rung n q)) := by
  have a0 := sval_nonneg m p
  have b0 := sval_nonneg n q
  have am : 0 < rung m p → 0 < sval false m p := fun h' => sval_pos m p (by
    rcases Nat.eq_zero_or_pos m with h0 | h0
    · subst h0
      rcases h with h | h
      · omega
      · unfold rung at h'; rw [h.2] at h'; simp at h'
    · exact h0)
  have bm : 0 < rung n q → 0 < sval false n q := fun h' => sval_pos n q (by
    rcases Nat.eq_zero_or_pos n with h0 | h0
    · subst h0
      rcases k with k | k
      · omega
      · unfold rung at h'; rw [k.2] at h'; simp at h'
    · exact h0)
  have az : rung m p = 0 → sval false m p = 0 := fun h' => by rw [rung_zero m p h', sval_zero]
  have bz : rung n q = 0 → sval false n q = 0 := fun h' => by rw [rung_zero n q h', sval_zero]
  have l1 := rung_lt_sval m n p q h k
  have l2 := rung_lt_sval n m q p k h
  have l3 := rung_eq_sval m n p q h k
  have hsv : ∀ (s : Bool) (m : Nat) (p : Int), sval s m p = if s then - sval false m p else sval false m p := by
    intro s m p; cases s
    · rfl
    · rw [sval_neg]; rfl
  rw [hsv s m p, hsv t n q]
  unfold rankI
  generalize sval false m p = A at *
  generalize sval false n q = B at *
  generalize rung m p = a at *
  generalize rung n q = b at *
  have key : ∀ x y X Y : Int, (X < Y ↔ x < y) → (X = Y ↔ x = y) → compare X Y = compare x y := by
    intro x y X Y h1 h2
    simp only [compare, compareOfLessAndEq]
    by_cases c1 : x < y
    · rw [if_pos c1, if_pos (h1.2 c1)]
    · rw [if_neg c1, if_neg (fun c => c1 (h1.1 c))]
      by_cases c2 : x = y
      · rw [if_pos c2, if_pos (h2.2 c2)]
      · rw [if_neg c2, if_neg (fun c => c2 (h2.1 c))]
  apply key
  · rcases Nat.lt_trichotomy a b with c | c | c
    · have := l1 c
      cases s <;> cases t <;> simp <;> omega
    · have := l3 c
      cases s <;> cases t <;> simp <;> omega
    · have := l2 c
      cases s <;> cases t <;> simp <;> omega
  · rcases Nat.lt_trichotomy a b with c | c | c
    · have := l1 c
      cases s <;> cases t <;> simp <;> omega
    · have := l3 c
      cases s <;> cases t <;> simp <;> omega
    · have := l2 c
      cases s <;> cases t <;> simp <;> omega
/-- A number's own form, off its bits. -/
theorem canon_parts (E M : Nat) (hM : M < 4503599627370496) (hE : E ≤ 2046) : ∃ m p, Canon m p ∧ rung m p = E * 4503599627370496 + M ∧ ((E = 0 ∧ m = M ∧ p = -1074) ∨ (1 ≤ E ∧ m = 4503599627370496 + M ∧ p = (E : Int) - 1 + -1074)) := by
  by_cases h : E = 0
  · exact ⟨M, -1074, .inr ⟨hM, rfl⟩, by unfold rung; subst h; simp, .inl ⟨h, rfl, rfl⟩⟩
  · refine ⟨4503599627370496 + M, (E : Int) - 1 + -1074, .inl ⟨by omega, by omega, by omega, by omega⟩, ?_, .inr ⟨by omega, rfl, rfl⟩⟩
    unfold rung
    rw [show ((E : Int) - 1 + -1074 + 1074).toNat = E - 1 by omega]
    omega
theorem order_rank (s t : Bool) (r q : Nat) (hr : r ≤ 9218868437227405312) (hq : q ≤ 9218868437227405312) : double.order (signBit s + r) (signBit t + q) = some (compare (rankI s r) (rankI t q)) := by
  have form : ∀ r : Nat, r < 9218868437227405312 → ∃ m p, Canon m p ∧ rung m p = r := by
    intro r h
    obtain ⟨m, p, h1, h2, _⟩ := canon_parts (r / 4503599627370496) (r % 4503599627370496) (by omega) (by omega)
    exact ⟨m, p, h1, by omega⟩
  by_cases c1 : r = 9218868437227405312
  · by_cases c2 : q = 9218868437227405312
    · subst c1 c2
      cases s <;> cases t <;> decide
    · obtain ⟨n, q', k, hk⟩ := form q (by omega)
      have e : signBit t + q = fw t n q' := by rw [fw_canon _ _ _ k, hk]
      subst c1
      rw [e, show signBit s + 9218868437227405312 = iw s from rfl, order_iw_fw s t n q' k]
      unfold rankI
      cases s <;> cases t <;> simp only [if_true, Bool.false_eq_true, if_false] <;> first | rw [cmp_lt _ _ (by omega)] | rw [cmp_gt _ _ (by omega)]
  · obtain ⟨m, p, h, hh⟩ := form r (by omega)
    have e1 : signBit s + r = fw s m p := by rw [fw_canon _ _ _ h, hh]
    by_cases c2 : q = 9218868437227405312
    · subst c2
      rw [e1, show signBit t + 9218868437227405312 = iw t from rfl, order_fw_iw t s m p h]
      unfold rankI
      cases s <;> cases t <;> simp only [if_true, Bool.false_eq_true, if_false] <;> first | rw [cmp_lt _ _ (by omega)] | rw [cmp_gt _ _ (by omega)]
    · obtain ⟨n, q', k, hk⟩ := form q (by omega)
      have e2 : signBit t + q = fw t n q' := by rw [fw_canon _ _ _ k, hk]
      rw [e1, e2, order_fw s t m n p q' h k, cmp_rung s t m n p q' h k, hh, hk]
end Go.Proofs.YtpmccbkhkaoccaaDoor

