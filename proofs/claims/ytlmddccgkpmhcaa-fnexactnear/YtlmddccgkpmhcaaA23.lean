import Derived.Test.YtlmddccgkpmhcaaA13
/- l2near of the specification, nothing below. -/
namespace Go.Proofs.Ytlmddccgkpmhcaa
open Go.ChangeShapes Go.WideShapes Go.RowKit
open Ieee (double)

set_option maxRecDepth 100000 in
set_option maxHeartbeats 400000 in
theorem l2near_any (y e : Int) (h0 : 0 ≤ y) (hm : y < 18446744073709551616) (w : World) :
    Calls Try.prog 8 #[.int .u64 y, .int .i64 e, .bool false] w fun r w' => r = .returned (.float .f64 (fw false y.toNat e)) ∧ w' = w := by
  by_cases hz : y = 0
  · subst hz
    have HX : Hid (fw false (0 : Int).toNat e = 0) := by show fw false 0 e = 0; rw [fw_zero]; rfl
    go_enter Try.func8, Try.ntmps8
    go_wp2
    go_ret
    exact ⟨by rw [HX.out]; rfl, rfl⟩
  · by_cases h1 : e < -2000
    · have e0 : (y == 0) = false := beq_eq_false_iff_ne.2 hz
      have HX : Hid (fw false y.toNat e = 0) := by show fw false y.toNat e = 0; rw [fw_tiny false _ e (by omega) (by omega)]; rfl
      clear hz
      go_enter Try.func8, Try.ntmps8
      go_wp2
      go_ret
      exact ⟨by rw [HX.out]; rfl, rfl⟩
    · by_cases h2 : 2000 < e
      · have e0 : (y == 0) = false := beq_eq_false_iff_ne.2 hz
        have HX : Hid (fw false y.toNat e = iw false) := by
          show fw false y.toNat e = iw false
          obtain ⟨a1, a2, a3⟩ := norm_64 y.toNat (by omega) (by omega)
          rw [← fw_scale false y.toNat (63 - y.toNat.log2) e]
          exact fw_huge false _ _ a1 a2 (by omega)
        clear hz
        go_enter Try.func8, Try.ntmps8
        go_wp2_with (go_at_call 14; refine (l2inf_any _).mono ?_; rintro e w' ⟨rfl, rfl⟩)
        go_ret
        exact ⟨by rw [HX.out]; rfl, rfl⟩
      · exact l2near_loop y e (by omega) hm (by omega) (by omega) w

/-- Every nearest float is a number of its own form, or an infinity. -/
theorem fw_kind (m : Nat) (e : Int) (hm : m < 18446744073709551616) : (∀ s, fw s m e = iw s) ∨ ∃ n q, Canon n q ∧ ∀ s, fw s m e = fw s n q := by
  by_cases h0 : m = 0
  · subst h0
    exact .inr ⟨0, -1074, canon_zero, fun s => by rw [fw_zero, fw_zero]⟩
  · obtain ⟨a1, a2, a3⟩ := norm_64 m (by omega) hm
    have hs : ∀ s, fw s m e = fw s (m * 2 ^ (63 - m.log2)) (e - ((63 - m.log2 : Nat) : Int)) := fun s => (fw_scale s m _ e).symm
    generalize m * 2 ^ (63 - m.log2) = M at *
    generalize e - ((63 - m.log2 : Nat) : Int) = p at *
    have hw : ∀ s, fw s M p = signBit s + min ((lastOf p + 1074).toNat * 4503599627370496 + Ieee.Toward.even.cut false M (lastOf p - p).toNat) 9218868437227405312 := fun s => by
      rw [fw_64 s M p a1 a2]; rfl
    generalize (lastOf p + 1074).toNat * 4503599627370496 + Ieee.Toward.even.cut false M (lastOf p - p).toNat = r at hw
    by_cases hr : 9218868437227405312 ≤ r
    · left
      intro s
      rw [hs, hw, Nat.min_eq_right hr]; rfl
    · right
      by_cases h1 : r < 4503599627370496
      · refine ⟨r, -1074, .inr ⟨h1, rfl⟩, fun s => ?_⟩
        rw [hs, hw, Nat.min_eq_left (by omega), fw_canon s r (-1074) (.inr ⟨h1, rfl⟩)]
        unfold rung; omega
      · have hc : Canon (4503599627370496 + r % 4503599627370496) (-1074 + ((r / 4503599627370496 - 1 : Nat) : Int)) := .inl ⟨by omega, by omega, by omega, by omega⟩
        refine ⟨_, _, hc, fun s => ?_⟩
        rw [hs, hw, Nat.min_eq_left (by omega), fw_canon s _ _ hc]
        unfold rung; omega
theorem neg_near (m : Nat) (e : Int) (hm : m < 18446744073709551616) : Op.negFloat .f64 (fw false m e) = fw true m e := by
  rcases fw_kind m e hm with h | ⟨n, q, hc, h⟩
  · rw [h, h]; exact neg_iw false
  · rw [h, h]; exact neg_fw false n q hc
end Go.Proofs.Ytlmddccgkpmhcaa

