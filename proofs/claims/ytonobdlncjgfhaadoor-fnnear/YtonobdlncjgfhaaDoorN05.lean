import Derived.Test.YtonobdlncjgfhaaDoorN03
import Derived.Test.YtonobdlncjgfhaaDoorN04
import Derived.Test.YtonobdlncjgfhaaDoorN02
import Derived.Test.YtonobdlncjgfhaaDoorRows
import Derived.WalkKit
import Derived.WalkSpells
import Derived.WalkLawsBesides
import Derived.Outline
import Derived.BigQuiet
import Derived.Deep.QuietTactic
import Derived.Laws.BitsAllLaws
/- l2near of the specification, nothing below. -/
namespace Go.Proofs.YtonobdlncjgfhaaDoor
open Go.ChangeShapes Go.WideShapes Go.RowKit
open Ieee (double)

set_option maxRecDepth 100000 in
set_option maxHeartbeats 400000 in
theorem l2near_any (y e : Int) (h0 : 0 ≤ y) (hm : y < 18446744073709551616) (w : World) :
    Calls Tryd.prog 18 #[.int .u64 y, .int .i64 e, .bool false] w fun r w' => r = .returned (.float .f64 (fw false y.toNat e)) ∧ w' = w := by
  by_cases hz : y = 0
  · subst hz
    have HX : Hid (fw false (0 : Int).toNat e = 0) := by show fw false 0 e = 0; rw [fw_zero]; rfl
    go_enter Tryd.func18, Tryd.ntmps18
    go_wp2
    go_ret
    exact ⟨by rw [HX.out]; rfl, rfl⟩
  · by_cases h1 : e < -2000
    · have e0 : (y == 0) = false := beq_eq_false_iff_ne.2 hz
      have HX : Hid (fw false y.toNat e = 0) := by show fw false y.toNat e = 0; rw [fw_tiny false _ e (by omega) (by omega)]; rfl
      clear hz
      go_enter Tryd.func18, Tryd.ntmps18
      go_wp2
      go_ret
      exact ⟨by rw [HX.out]; rfl, rfl⟩
    · by_cases h2 : 2000 < e
      · have e0 : (y == 0) = false := beq_eq_false_iff_ne.2 hz
        have HX : Hid (fw false y.toNat e = iw false) := by
          show fw false y.toNat e = iw false
          obtain ⟨a1, a2, a3⟩ := norm_64 y.toNat (by omega) (by omega)
          rw [← fw_scale false y.toNat (63 - y.toNat.log2) e]
          exact fw_huge false _ _ a1 a2 (by omega)
        clear hz
        go_enter Tryd.func18, Tryd.ntmps18
        go_wp2_with (go_at_call 26; refine (l2inf_any _).mono ?_; rintro e w' ⟨rfl, rfl⟩)
        go_ret
        exact ⟨by rw [HX.out]; rfl, rfl⟩
      · exact l2near_loop y e (by omega) hm (by omega) (by omega) w

/-- Every nearest float is a number of its own form, or an infinity. -/
theorem fw_kind (m : Nat) (e : Int) (hm : m < 18446744073709551616) : (∀ s, fw s m e = iw s) ∨ ∃ n q, Canon n q ∧ ∀ s, fw s m e = fw s n q := by
  by_cases h0 : m = 0
  · subst h0
    exact .inr ⟨0, -1074, canon_zero, fun s => by rw [fw_zero, fw_zero]⟩
  · obtain ⟨a1, a2, a3⟩ := norm_64 m (by omega) hm
    have hs : ∀ s, fw s m e = fw s (m * 2 ^ (63 - m.log2)) (e - ((63 - m.log2 : Nat) : Int)) := fun s => (fw_scale s m _ e).symm
    generalize m * 2 ^ (63 - m.log2) = M at *
    generalize e - ((63 - m.log2 : Nat) : Int) = p at *
    have hw : ∀ s, fw s M p = signBit s + min ((lastOf p + 1074).toNat * 4503599627370496 + Ieee.Toward.even.cut false M (lastOf p - p).toNat) 9218868437227405312 := fun s => by
      rw [fw_64 s M p a1 a2]; rfl
    generalize (lastOf p + 1074).toNat * 4503599627370496 + Ieee.Toward.even.cut false M (lastOf p - p).toNat = r at hw
    by_cases hr : 9218868437227405312 ≤ r
    · left
      intro s
      rw [hs, hw, Nat.min_eq_right hr]; rfl
    · right
      by_cases h1 : r < 4503599627370496
      · refine ⟨r, -1074, .inr ⟨h1, rfl⟩, fun s => ?_⟩
        rw [hs, hw, Nat.min_eq_left (by omega), fw_canon s r (-1074) (.inr ⟨h1, rfl⟩)]
        unfold rung; omega
      · have hc : Canon (4503599627370496 + r % 4503599627370496) (-1074 + ((r / 4503599627370496 - 1 : Nat) : Int)) := .inl ⟨by omega, by omega, by omega, by omega⟩
        refine ⟨_, _, hc, fun s => ?_⟩
        rw [hs, hw, Nat.min_eq_left (by omega), fw_canon s _ _ hc]
        unfold rung; omega
theorem neg_near (m : Nat) (e : Int) (hm : m < 18446744073709551616) : Op.negFloat .f64 (fw false m e) = fw true m e := by
  rcases fw_kind m e hm with h | ⟨n, q, hc, h⟩
  · rw [h, h]; exact neg_iw false
  · rw [h, h]; exact neg_fw false n q hc
end Go.Proofs.YtonobdlncjgfhaaDoor

/- Near of the program. -/
namespace Go.Proofs.YtonobdlncjgfhaaDoor
open Go.ChangeShapes Go.WideShapes Go.RowKit
open Ieee (double)

theorem bitLen_pos (m : Nat) (h : 0 < m) : bitLen m = m.log2 + 1 := by unfold bitLen; rw [if_neg (by omega)]
theorem float_zero (s : Bool) (w : World) :
    Calls Tryd.prog 12 #[.agg #[.bool s, .int .u64 0, .int .u64 0]] w fun e w' => e = .returned (.float .f64 (signBit s)) ∧ Below w.heap.size w w' := by
  refine (float_any s 0 0 (by omega) (by omega) w).mono ?_
  rintro e w' ⟨rfl, rfl⟩
  exact ⟨rfl, ((Below.refl _ w).alloc (by simp) _).alloc (by simp) _⟩
theorem float_inf (s : Bool) (w : World) :
    Calls Tryd.prog 12 #[.agg #[.bool s, .int .u64 2047, .int .u64 0]] w fun e w' => e = .returned (.float .f64 (iw s)) ∧ Below w.heap.size w w' := by
  refine (float_any s 2047 0 (by omega) (by omega) w).mono ?_
  rintro e w' ⟨rfl, rfl⟩
  exact ⟨rfl, ((Below.refl _ w).alloc (by simp) _).alloc (by simp) _⟩

set_option maxHeartbeats 400000 in
theorem near_nil (s : Bool) (n e x : Int) (hu : IntKind.u64.wrap n = x) (h : x = 0 ∨ e < -1138) (w : World) :
    Calls Tryd.prog 5 #[.bool s, .int .i64 n, .int .i64 e] w fun r w' => r = .returned (.float .f64 (signBit s)) ∧ Below w.heap.size w w' := by
  have HF : Hid _ := fun w => float_zero s w
  by_cases h0 : x = 0
  · subst h0
    clear h
    go_enter Tryd.func5, Tryd.ntmps5
    go_wp2_with (go_at_call 12; refine (HF.out _).mono ?_; rintro e w' ⟨rfl, hb⟩)
    go_ret
    exact ⟨rfl, hb⟩
  · have b0 : (x == 0) = false := beq_eq_false_iff_ne.2 h0
    have h1 : e < -1138 := by omega
    clear h h0
    go_enter Tryd.func5, Tryd.ntmps5
    go_wp2_with (go_at_call 12; refine (HF.out _).mono ?_; rintro e w' ⟨rfl, hb⟩)
    go_ret
    exact ⟨rfl, hb⟩
set_option maxHeartbeats 400000 in
theorem near_high (s : Bool) (n e x : Int) (hu : IntKind.u64.wrap n = x) (h0 : x ≠ 0) (h : 1023 < e) (w : World) :
    Calls Tryd.prog 5 #[.bool s, .int .i64 n, .int .i64 e] w fun r w' => r = .returned (.float .f64 (iw s)) ∧ Below w.heap.size w w' := by
  have HF : Hid _ := fun w => float_inf s w
  have b0 : (x == 0) = false := beq_eq_false_iff_ne.2 h0
  clear h0
  go_enter Tryd.func5, Tryd.ntmps5
  go_wp2_with (first | (go_at_call 13; refine (infinity_any _ _).mono ?_; rintro e w' ⟨rfl, rfl⟩) | (go_at_call 12; refine (HF.out _).mono ?_; rintro e w' ⟨rfl, hb⟩))
  go_ret
  exact ⟨rfl, Below.trans ((Below.refl _ w).alloc (by simp) _) (hb.mono (by simp))⟩
set_option maxHeartbeats 400000 in
theorem near_over (s : Bool) (n e x Ln : Int) (hu : IntKind.u64.wrap n = x) (h0 : x ≠ 0) (h : e ≤ 1023) (h' : -1138 ≤ e) (hl : 1 ≤ Ln) (hl' : Ln ≤ 64) (ho : 971 < e + Ln - 53)
    (hL : ∀ w, Calls Tryd.prog 14 #[.int .u64 x] w fun e w' => e = .returned (.int .i64 Ln) ∧ w' = w) (w : World) :
    Calls Tryd.prog 5 #[.bool s, .int .i64 n, .int .i64 e] w fun r w' => r = .returned (.float .f64 (iw s)) ∧ Below w.heap.size w w' := by
  have HL : Hid _ := hL
  have HF : Hid _ := fun w => float_inf s w
  have b0 : (x == 0) = false := beq_eq_false_iff_ne.2 h0
  clear h0 hL
  go_enter Tryd.func5, Tryd.ntmps5
  go_wp2_with (first | (go_at_call 14; refine (HL.out _).mono ?_; rintro e w' ⟨rfl, rfl⟩) | (go_at_call 13; refine (infinity_any _ _).mono ?_; rintro e w' ⟨rfl, rfl⟩) | (go_at_call 12; refine (HF.out _).mono ?_; rintro e w' ⟨rfl, hb⟩))
  go_ret
  exact ⟨rfl, Below.trans ((Below.refl _ _).alloc (by simp) _) (hb.mono (by simp))⟩
set_option maxHeartbeats 400000 in
theorem near_fits (s : Bool) (n e x Ln L : Int) (R : Nat) (hu : IntKind.u64.wrap n = x) (h0 : x ≠ 0) (h : e ≤ 1023) (h' : -1138 ≤ e) (hl : 1 ≤ Ln) (hl' : Ln ≤ 64) (hm : (-1074 ≤ e + Ln - 53 ∧ L = e + Ln - 53) ∨ (e + Ln - 53 < -1074 ∧ L = -1074)) (ho : L ≤ 971)
    (hL : ∀ w, Calls Tryd.prog 14 #[.int .u64 x] w fun e w' => e = .returned (.int .i64 Ln) ∧ w' = w)
    (hR : ∀ w, Calls Tryd.prog 16 #[.int .u64 x, .int .i64 (L - e)] w fun e w' => e = .returned (.int .u64 (R : Int)) ∧ w' = w) (hR' : R ≤ 9007199254740992) (w : World) :
    Calls Tryd.prog 5 #[.bool s, .int .i64 n, .int .i64 e] w fun r w' => r = .returned (.float .f64 (signBit s + ((L + 1074).toNat * 4503599627370496 + R))) ∧ Below w.heap.size w w' := by
  have HL : Hid _ := hL
  have b0 : (x == 0) = false := beq_eq_false_iff_ne.2 h0
  have HP : Hid _ := fun w => place_any s R L hR' (by omega) ho w
  clear h0 hL hR'
  rcases hm with ⟨m1, rfl⟩ | ⟨m1, rfl⟩
  · have HR : Hid _ := hR
    clear hR
    go_enter Tryd.func5, Tryd.ntmps5
    go_wp2_with (first | (go_at_call 14; refine (HL.out _).mono ?_; rintro e w' ⟨rfl, rfl⟩) | (go_at_call 16; refine (HR.out _).mono ?_; rintro e w' ⟨rfl, rfl⟩) | (go_at_call 15; refine (HP.out _).mono ?_; rintro e w' ⟨rfl, rfl⟩))
    go_ret
    exact ⟨rfl, Below.refl _ _⟩
  · have HR : Hid _ := hR
    clear hR
    go_enter Tryd.func5, Tryd.ntmps5
    go_wp2_with (first | (go_at_call 14; refine (HL.out _).mono ?_; rintro e w' ⟨rfl, rfl⟩) | (go_at_call 16; refine (HR.out _).mono ?_; rintro e w' ⟨rfl, rfl⟩) | (go_at_call 15; refine (HP.out _).mono ?_; rintro e w' ⟨rfl, rfl⟩))
    go_ret
    exact ⟨by rw [show ((-1074 : Int) + 1074).toNat = 0 from rfl, Nat.zero_mul, Nat.zero_add]; rfl, Below.refl _ _⟩
/-- At every argument. -/
theorem implNear_any (s : Bool) (n e : Int) (w : World) :
    Calls Tryd.prog 5 #[.bool s, .int .i64 n, .int .i64 e] w fun r w' => r = .returned (.float .f64 (fw s (u64n n) e)) ∧ Below w.heap.size w w' := by
  have hu := u64n_cast n
  have hlt := u64n_lt n
  generalize u64n n = U at *
  by_cases h0 : U = 0
  · subst h0
    rw [fw_zero]
    exact near_nil s n e _ hu (.inl rfl) w
  · by_cases h1 : e < -1138
    · rw [fw_tiny s U e hlt (by omega)]
      exact near_nil s n e _ hu (.inr h1) w
    · have hl63 := log_63 U (by omega) hlt
      by_cases h2 : 1023 < e
      · rw [fw_over s U e _ (by omega) rfl (by omega)]
        exact near_high s n e _ hu (by omega) h2 w
      · have hLen : ∀ w, Calls Tryd.prog 14 #[.int .u64 (U : Int)] w fun e w' => e = .returned (.int .i64 ((U.log2 : Int) + 1)) ∧ w' = w := fun w => by
          refine (len64_any (U : Int) (by omega) (by omega) w).mono ?_
          rintro e w' ⟨rfl, rfl⟩
          rw [Int.toNat_natCast, bitLen_pos U (by omega)]
          exact ⟨rfl, rfl⟩
        by_cases h3 : 971 < max (e + (U.log2 : Int) - 52) (-1074)
        · rw [fw_over s U e _ (by omega) rfl h3]
          exact near_over s n e U ((U.log2 : Int) + 1) hu (by omega) (by omega) (by omega) (by omega) (by omega) (by omega) hLen w
        · rw [fw_fits s U e _ (by omega) rfl (by omega)]
          have hle := roundN_le U e
          have hR : ∀ w, Calls Tryd.prog 16 #[.int .u64 (U : Int), .int .i64 (max (e + (U.log2 : Int) - 52) (-1074) - e)] w fun e' w' => e' = .returned (.int .u64 (roundN U (max (e + (U.log2 : Int) - 52) (-1074) - e) : Int)) ∧ w' = w := fun w => by
            have h := roundBits_any (U : Int) (max (e + (U.log2 : Int) - 52) (-1074) - e) (by omega) (by omega) (by omega) (by omega) (by rw [Int.toNat_natCast]; exact hle) w
            rw [Int.toNat_natCast] at h
            exact h
          generalize roundN U (max (e + (U.log2 : Int) - 52) (-1074) - e) = R at *
          exact near_fits s n e U ((U.log2 : Int) + 1) (max (e + (U.log2 : Int) - 52) (-1074)) R hu (by omega) (by omega) (by omega) (by omega) (by omega) (by omega) (by omega) hLen hR hle w
end Go.Proofs.YtonobdlncjgfhaaDoor

/- l2signed of the specification. -/
namespace Go.Proofs.YtonobdlncjgfhaaDoor
open Go.ChangeShapes Go.WideShapes Go.RowKit
open Ieee (double)

set_option maxHeartbeats 400000 in
theorem l2signed_plus (x : Nat) (w : World) : Calls Tryd.prog 17 #[.bool false, .float .f64 x] w fun e w' => e = .returned (.float .f64 x) ∧ w' = w := by
  go_enter Tryd.func17, Tryd.ntmps17
  go_wp2
  go_ret
  exact ⟨rfl, rfl⟩
set_option maxHeartbeats 400000 in
theorem l2signed_minus (x y : Nat) (hy : Op.negFloat .f64 x = y) (w : World) : Calls Tryd.prog 17 #[.bool true, .float .f64 x] w fun e w' => e = .returned (.float .f64 y) ∧ w' = w := by
  have hng := run_neg x
  rw [hy] at hng
  clear hy
  go_enter Tryd.func17, Tryd.ntmps17
  go_wp2
  go_ret
  exact ⟨rfl, rfl⟩
/-- A sign given to a number. -/
theorem l2signed_fw (s : Bool) (m : Nat) (p : Int) (h : Rep m p) (w : World) : Calls Tryd.prog 17 #[.bool s, .float .f64 (fw false m p)] w fun e w' => e = .returned (.float .f64 (fw s m p)) ∧ w' = w := by
  cases s
  · exact l2signed_plus _ w
  · exact l2signed_minus _ _ (neg_rep false m p h) w
theorem l2signed_iw (s : Bool) (w : World) : Calls Tryd.prog 17 #[.bool s, .float .f64 (iw false)] w fun e w' => e = .returned (.float .f64 (iw s)) ∧ w' = w := by
  cases s
  · exact l2signed_plus _ w
  · exact l2signed_minus _ _ (neg_iw false) w
end Go.Proofs.YtonobdlncjgfhaaDoor

/- Near of the specification: the nearest float. -/
namespace Go.Proofs.YtonobdlncjgfhaaDoor
open Go.ChangeShapes Go.WideShapes Go.RowKit
open Ieee (double)

set_option maxRecDepth 100000 in
set_option maxHeartbeats 400000 in
theorem specNear_any (s : Bool) (n e : Int) (w : World) :
    Calls Tryd.prog 7 #[.bool s, .int .i64 n, .int .i64 e] w fun r w' => r = .returned (.float .f64 (fw s (u64n n) e)) ∧ w' = w := by
  have hu := u64n_cast n
  have hlt := u64n_lt n
  have HL : Hid _ := fun w => l2near_any (u64n n : Int) e (by omega) (by omega) w
  rw [Int.toNat_natCast] at HL
  have HN : Hid _ := neg_near (u64n n) e hlt
  generalize u64n n = U at *
  cases s
  · go_enter Tryd.func7, Tryd.ntmps7
    go_wp2_with (first | (go_at_call 18; refine (HL.out _).mono ?_; rintro e w' ⟨rfl, rfl⟩) | (go_at_call 17; refine (l2signed_plus _ _).mono ?_; rintro e w' ⟨rfl, rfl⟩))
    go_ret
    exact ⟨rfl, rfl⟩
  · go_enter Tryd.func7, Tryd.ntmps7
    go_wp2_with (first | (go_at_call 18; refine (HL.out _).mono ?_; rintro e w' ⟨rfl, rfl⟩) | (go_at_call 17; refine (l2signed_minus _ _ HN.out _).mono ?_; rintro e w' ⟨rfl, rfl⟩))
    go_ret
    exact ⟨rfl, rfl⟩
end Go.Proofs.YtonobdlncjgfhaaDoor

/- A callee that writes into one block alone. -/
namespace Go.Proofs.YtonobdlncjgfhaaDoor
open Go.ChangeShapes Go.WideShapes Go.RowKit

/-- Of what was there nothing has turned but block B. -/
def Only (B : Nat) (w w' : World) : Prop := w'.os = w.os ∧ w'.tape = w.tape ∧ w'.output = w.output ∧ w'.heap.size = w.heap.size ∧ ∀ k, k ≠ B → w'.heap[k]? = w.heap[k]?
theorem Only.refl (B : Nat) (w : World) : Only B w w := ⟨rfl, rfl, rfl, rfl, fun _ _ => rfl⟩
theorem Only.trans {B : Nat} {a b c : World} (h : Only B a b) (k : Only B b c) : Only B a c :=
  ⟨k.1.trans h.1, k.2.1.trans h.2.1, k.2.2.1.trans h.2.2.1, k.2.2.2.1.trans h.2.2.2.1, fun i hi => (k.2.2.2.2 i hi).trans (h.2.2.2.2 i hi)⟩
theorem Only.drewN {B : Nat} {a w : World} (h : Only B a w) (n : Nat) : Only B a (w.drewN n) := h.trans ⟨rfl, rfl, rfl, rfl, fun _ _ => rfl⟩
theorem Only.setCell {B : Nat} {a w : World} (h : Only B a w) (o : Nat) (u : Value) : Only B a (w.setCell ⟨B, o, none⟩ u) :=
  h.trans ⟨rfl, rfl, rfl, by simp [World.setCell], fun k hk => Below.heap_setCell _ _ _ _ hk⟩
theorem Only.cell {B : Nat} {w w' : World} (h : Only B w w') {p : Addr} (hp : p.block ≠ B) : w'.cell? p = w.cell? p := World.cell?_of_block (w := w) (h.2.2.2.2 p.block hp)
theorem Only.frozen {B : Nat} {w w' : World} (h : Only B w w') {p : Addr} (hp : p.block ≠ B) : w'.frozen? p = w.frozen? p := World.frozen?_of_block (w := w) (h.2.2.2.2 p.block hp)
theorem Only.below {B C : Nat} {w w' : World} (h : Only B w w') (hC : C ≤ B) : Below C w w' :=
  ⟨h.1, h.2.1, h.2.2.1, by rw [h.2.2.2.1]; exact Nat.le_refl _, fun k hk => h.2.2.2.2 k (by omega)⟩

theorem cell_lt {w : World} {p : Addr} {v : Value} (h : w.cell? p = some v) : p.block < w.heap.size := by
  by_cases hp : p.block < w.heap.size
  · exact hp
  · have e : w.heap[p.block]? = Option.none := Array.getElem?_eq_none (by omega)
    simp [World.cell?, e] at h
end Go.Proofs.YtonobdlncjgfhaaDoor

/- The cursor that draws choices from bytes: it returns, whatever the bytes; it writes into its own block alone. -/
namespace Go.Proofs.YtonobdlncjgfhaaDoor
open Go.ChangeShapes Go.WideShapes Go.RowKit

/-- The bytes of a slice that came in: its cells hold bytes, and lie in another block than B. -/
def Code (B : Nat) (w : World) (a : Option Addr) (len : Nat) : Prop := len ≤ 1048576 ∧ ∀ i : Nat, i < len → ∃ x : Addr, a = some x ∧ x.block ≠ B ∧ ∃ z : Int, 0 ≤ z ∧ z ≤ 255 ∧ w.cell? (x.add i) = some (.int .u8 z)
/-- The cursor in block B. -/
def Cur (B : Nat) (w : World) (a : Option Addr) (len cap : Nat) (pos : Int) : Prop :=
  ∃ seed : Int, w.cell? ⟨B, 0, none⟩ = some (.slice a len cap) ∧ w.cell? ⟨B, 1, none⟩ = some (.int .i64 pos) ∧ w.cell? ⟨B, 2, none⟩ = some (.int .u64 seed)
    ∧ w.frozen? ⟨B, 1, none⟩ = false ∧ w.frozen? ⟨B, 2, none⟩ = false
theorem Code.only {B : Nat} {w w' : World} {a : Option Addr} {len : Nat} (h : Code B w a len) (ho : Only B w w') : Code B w' a len :=
  ⟨h.1, fun i hi => by
    obtain ⟨x, hx, hb, z, h0, h1, hc⟩ := h.2 i hi
    exact ⟨x, hx, hb, z, h0, h1, by rw [ho.cell (by unfold Addr.add; split <;> exact hb)]; exact hc⟩⟩

theorem Cur.below {B C : Nat} {w w' : World} {a : Option Addr} {len cap : Nat} {pos : Int} (h : Cur B w a len cap pos) (hb : Below C w w') (hB : B < C) : Cur B w' a len cap pos := by
  obtain ⟨seed, c0, c1, c2, f1, f2⟩ := h
  exact ⟨seed, by rw [hb.cell (p := ⟨B, 0, none⟩) hB]; exact c0, by rw [hb.cell (p := ⟨B, 1, none⟩) hB]; exact c1, by rw [hb.cell (p := ⟨B, 2, none⟩) hB]; exact c2, by rw [hb.frozen (p := ⟨B, 1, none⟩) hB]; exact f1, by rw [hb.frozen (p := ⟨B, 2, none⟩) hB]; exact f2⟩
theorem Code.below {B : Nat} {w w' : World} {a : Option Addr} {len : Nat} (h : Code B w a len) (hb : Below w.heap.size w w') : Code B w' a len :=
  ⟨h.1, fun i hi => by
    obtain ⟨x, hx, hne, z, h0, h1, hc⟩ := h.2 i hi
    exact ⟨x, hx, hne, z, h0, h1, by rw [hb.cell (cell_lt hc)]; exact hc⟩⟩
theorem low8 (X : Int) (h0 : 0 ≤ X) (h1 : X < 18446744073709551616) : 0 ≤ wrap64 (bits .and .u64 X 255) ∧ wrap64 (bits .and .u64 X 255) ≤ 255 := by
  rw [u64_and X 255 h0 h1 (by omega) (by omega)]
  have h := Nat.and_le_right (n := X.toNat) (m := (255 : Int).toNat)
  have e : (255 : Int).toNat = 255 := rfl
  rw [e] at h ⊢
  generalize X.toNat &&& 255 = k at *
  unfold wrap64
  omega
theorem u64_in (x : Int) : 0 ≤ IntKind.u64.wrap x ∧ IntKind.u64.wrap x < 18446744073709551616 := by rw [IntKind.wrap_u64]; omega

set_option maxHeartbeats 400000 in
theorem next_any (B : Nat) (w : World) (a : Option Addr) (len cap : Nat) (pos : Int) (hc : Cur B w a len cap pos) (hk : Code B w a len) (h0 : 0 ≤ pos) (h1 : pos ≤ 1000000000) :
    Calls Tryd.prog 22 #[.pointer (some ⟨B, 0, none⟩)] w fun e w' => ∃ v : Int, 0 ≤ v ∧ v ≤ 255 ∧ e = .returned (.int .i64 v) ∧ Cur B w' a len cap (pos + 1) ∧ Only B w w' := by
  obtain ⟨seed, c0, c1, c2, f1, f2⟩ := hc
  by_cases hlt : pos < len
  · obtain ⟨hlen, hk⟩ := hk
    obtain ⟨x, rfl, hb, z, hz0, hz1, hx⟩ := hk pos.toNat (by omega)
    clear hk
    go_enter Tryd.func22, Tryd.ntmps22
    go_wp2
    go_quiet (fail)
    go_wp2
    go_quiet (fail)
    go_wp2
    go_ret
    exact ⟨z, hz0, hz1, rfl, ⟨_, by simp [go_sem, c0], by simp [go_sem, c1], by simp [go_sem, c2]; rfl, by simp [go_sem, f1], by simp [go_sem, f2]⟩, (((Only.refl _ _).drewN _).setCell _ _).setCell _ _⟩
  · go_enter Tryd.func22, Tryd.ntmps22
    clear hk
    go_wp2
    go_quiet (fail)
    go_wp2
    have hl := low8 (IntKind.u64.wrap (IntKind.u64.wrap (seed * 6364136223846793005) + 1442695040888963407) / 1099511627776) (by have := u64_in (IntKind.u64.wrap (seed * 6364136223846793005) + 1442695040888963407); omega) (by have := u64_in (IntKind.u64.wrap (seed * 6364136223846793005) + 1442695040888963407); omega)
    go_ret
    exact ⟨_, hl.1, hl.2, rfl, ⟨_, by simp [go_sem, c0], by simp [go_sem, c1], by simp [go_sem, c2]; rfl, by simp [go_sem, f1], by simp [go_sem, f2]⟩, (((Only.refl _ _).drewN _).setCell _ _).setCell _ _⟩
end Go.Proofs.YtonobdlncjgfhaaDoor

