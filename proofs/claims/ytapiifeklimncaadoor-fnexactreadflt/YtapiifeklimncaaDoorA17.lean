import Derived.Test.YtapiifeklimncaaDoorA16
import Derived.Test.YtapiifeklimncaaDoorA15
/- A size at its place, as the program lays it. -/
namespace Go.Proofs.YtapiifeklimncaaDoor
open Go.ChangeShapes Go.WideShapes Go.RowKit
open Ieee (double)

set_option maxHeartbeats 400000 in
theorem place_any (s : Bool) (k : Nat) (L : Int) (hk : k ≤ 9007199254740992) (h1 : -1074 ≤ L) (h2 : L ≤ 971) (w : World) :
    Calls Tryd.prog 68 #[.bool s, .int .u64 (k : Int), .int .i64 L] w fun e w' => e = .returned (.float .f64 (signBit s + ((L + 1074).toNat * 4503599627370496 + k))) ∧ w' = w := by
  obtain ⟨a, ha⟩ : ∃ a : Nat, L = (a : Int) - 1074 := ⟨(L + 1074).toNat, by omega⟩
  subst ha
  rw [show ((a : Int) - 1074 + 1074).toNat = a by omega]
  obtain ⟨A, hA⟩ : ∃ A : Int, A = (a : Int) := ⟨_, rfl⟩
  obtain ⟨K, hK⟩ : ∃ K : Int, K = (k : Int) := ⟨_, rfl⟩
  rw [← hA, ← hK]
  have eV : (A * 4503599627370496 + K).toNat = a * 4503599627370496 + k := by omega
  have HO : Hid (bits .or .u64 (A * 4503599627370496 + K) 9223372036854775808 = 9223372036854775808 + (A * 4503599627370496 + K)) := by
    show _ = _
    have h := or_top (a * 4503599627370496 + k) (by omega)
    rw [show ((a * 4503599627370496 + k : Nat) : Int) = A * 4503599627370496 + K by omega] at h
    rw [h]; omega
  have a0 : 0 ≤ A := by omega
  have a1 : A ≤ 2045 := by omega
  have k0 : 0 ≤ K := by omega
  have k1 : K ≤ 9007199254740992 := by omega
  cases s
  · have hc := call_frombits (A * 4503599627370496 + K)
    rw [eV] at hc
    clear hA hK eV HO hk h1 h2
    go_enter Tryd.func68, Tryd.ntmps68
    go_wp2
    go_ret
    exact ⟨by show Ending.returned (.float .f64 (a * 4503599627370496 + k)) = Ending.returned (.float .f64 (0 + (a * 4503599627370496 + k))); rw [Nat.zero_add], rfl⟩
  · have hc := call_frombits (9223372036854775808 + (A * 4503599627370496 + K))
    rw [show (9223372036854775808 + (A * 4503599627370496 + K)).toNat = 9223372036854775808 + (a * 4503599627370496 + k) by omega] at hc
    have ho := HO.out
    clear hA hK eV HO hk h1 h2
    go_enter Tryd.func68, Tryd.ntmps68
    go_wp2
    go_ret
    exact ⟨rfl, rfl⟩
end Go.Proofs.YtapiifeklimncaaDoor

/- A float's bits as the program lays them: infinity. -/
namespace Go.Proofs.YtapiifeklimncaaDoor
open Go.ChangeShapes Go.WideShapes Go.RowKit
open Ieee (double)

set_option maxHeartbeats 400000 in
theorem infinity_any (s : Bool) (w : World) :
    Calls Tryd.prog 38 #[.bool s] w fun e w' => e = .returned (.agg #[.bool s, .int .u64 2047, .int .u64 0]) ∧ w' = w.alloc (.cells #[.bool s, .int .u64 2047, .int .u64 0] 80) := by
  go_enter Tryd.func38, Tryd.ntmps38
  go_wp2
  exact bodyPost_ret (v := .agg #[.bool s, .int .u64 2047, .int .u64 0]) (by simp [results, Tryd.results38, go_sem]) rfl ⟨rfl, rfl⟩
end Go.Proofs.YtapiifeklimncaaDoor

/- l2near of the specification, nothing below. -/
namespace Go.Proofs.YtapiifeklimncaaDoor
open Go.ChangeShapes Go.WideShapes Go.RowKit
open Ieee (double)

set_option maxRecDepth 100000 in
set_option maxHeartbeats 400000 in
theorem l2near_any (y e : Int) (h0 : 0 ≤ y) (hm : y < 18446744073709551616) (w : World) :
    Calls Tryd.prog 34 #[.int .u64 y, .int .i64 e, .bool false] w fun r w' => r = .returned (.float .f64 (fw false y.toNat e)) ∧ w' = w := by
  by_cases hz : y = 0
  · subst hz
    have HX : Hid (fw false (0 : Int).toNat e = 0) := by show fw false 0 e = 0; rw [fw_zero]; rfl
    go_enter Tryd.func34, Tryd.ntmps34
    go_wp2
    go_ret
    exact ⟨by rw [HX.out]; rfl, rfl⟩
  · by_cases h1 : e < -2000
    · have e0 : (y == 0) = false := beq_eq_false_iff_ne.2 hz
      have HX : Hid (fw false y.toNat e = 0) := by show fw false y.toNat e = 0; rw [fw_tiny false _ e (by omega) (by omega)]; rfl
      clear hz
      go_enter Tryd.func34, Tryd.ntmps34
      go_wp2
      go_ret
      exact ⟨by rw [HX.out]; rfl, rfl⟩
    · by_cases h2 : 2000 < e
      · have e0 : (y == 0) = false := beq_eq_false_iff_ne.2 hz
        have HX : Hid (fw false y.toNat e = iw false) := by
          show fw false y.toNat e = iw false
          obtain ⟨a1, a2, a3⟩ := norm_64 y.toNat (by omega) (by omega)
          rw [← fw_scale false y.toNat (63 - y.toNat.log2) e]
          exact fw_huge false _ _ a1 a2 (by omega)
        clear hz
        go_enter Tryd.func34, Tryd.ntmps34
        go_wp2_with (go_at_call 11; refine (l2inf_any _).mono ?_; rintro e w' ⟨rfl, rfl⟩)
        go_ret
        exact ⟨by rw [HX.out]; rfl, rfl⟩
      · exact l2near_loop y e (by omega) hm (by omega) (by omega) w

/-- Every nearest float is a number of its own form, or an infinity. -/
theorem fw_kind (m : Nat) (e : Int) (hm : m < 18446744073709551616) : (∀ s, fw s m e = iw s) ∨ ∃ n q, Canon n q ∧ ∀ s, fw s m e = fw s n q := by
  by_cases h0 : m = 0
  · subst h0
    exact .inr ⟨0, -1074, canon_zero, fun s => by rw [fw_zero, fw_zero]⟩
  · obtain ⟨a1, a2, a3⟩ := norm_64 m (by omega) hm
    have hs : ∀ s, fw s m e = fw s (m * 2 ^ (63 - m.log2)) (e - ((63 - m.log2 : Nat) : Int)) := fun s => (fw_scale s m _ e).symm
    generalize m * 2 ^ (63 - m.log2) = M at *
    generalize e - ((63 - m.log2 : Nat) : Int) = p at *
    have hw : ∀ s, fw s M p = signBit s + min ((lastOf p + 1074).toNat * 4503599627370496 + Ieee.Toward.even.cut false M (lastOf p - p).toNat) 9218868437227405312 := fun s => by
      rw [fw_64 s M p a1 a2]; rfl
    generalize (lastOf p + 1074).toNat * 4503599627370496 + Ieee.Toward.even.cut false M (lastOf p - p).toNat = r at hw
    by_cases hr : 9218868437227405312 ≤ r
    · left
      intro s
      rw [hs, hw, Nat.min_eq_right hr]; rfl
    · right
      by_cases h1 : r < 4503599627370496
      · refine ⟨r, -1074, .inr ⟨h1, rfl⟩, fun s => ?_⟩
        rw [hs, hw, Nat.min_eq_left (by omega), fw_canon s r (-1074) (.inr ⟨h1, rfl⟩)]
        unfold rung; omega
      · have hc : Canon (4503599627370496 + r % 4503599627370496) (-1074 + ((r / 4503599627370496 - 1 : Nat) : Int)) := .inl ⟨by omega, by omega, by omega, by omega⟩
        refine ⟨_, _, hc, fun s => ?_⟩
        rw [hs, hw, Nat.min_eq_left (by omega), fw_canon s _ _ hc]
        unfold rung; omega
theorem neg_near (m : Nat) (e : Int) (hm : m < 18446744073709551616) : Op.negFloat .f64 (fw false m e) = fw true m e := by
  rcases fw_kind m e hm with h | ⟨n, q, hc, h⟩
  · rw [h, h]; exact neg_iw false
  · rw [h, h]; exact neg_fw false n q hc
end Go.Proofs.YtapiifeklimncaaDoor

