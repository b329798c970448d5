import Derived.Test.YtlmddccgkpmhcaaA19
/- A size at its place, as the program lays it. -/
namespace Go.Proofs.Ytlmddccgkpmhcaa
open Go.ChangeShapes Go.WideShapes Go.RowKit
open Ieee (double)

set_option maxHeartbeats 400000 in
theorem place_any (s : Bool) (k : Nat) (L : Int) (hk : k ≤ 9007199254740992) (h1 : -1074 ≤ L) (h2 : L ≤ 971) (w : World) :
    Calls Try.prog 12 #[.bool s, .int .u64 (k : Int), .int .i64 L] w fun e w' => e = .returned (.float .f64 (signBit s + ((L + 1074).toNat * 4503599627370496 + k))) ∧ w' = w := by
  obtain ⟨a, ha⟩ : ∃ a : Nat, L = (a : Int) - 1074 := ⟨(L + 1074).toNat, by omega⟩
  subst ha
  rw [show ((a : Int) - 1074 + 1074).toNat = a by omega]
  obtain ⟨A, hA⟩ : ∃ A : Int, A = (a : Int) := ⟨_, rfl⟩
  obtain ⟨K, hK⟩ : ∃ K : Int, K = (k : Int) := ⟨_, rfl⟩
  rw [← hA, ← hK]
  have eV : (A * 4503599627370496 + K).toNat = a * 4503599627370496 + k := by omega
  have HO : Hid (bits .or .u64 (A * 4503599627370496 + K) 9223372036854775808 = 9223372036854775808 + (A * 4503599627370496 + K)) := by
    show _ = _
    have h := or_top (a * 4503599627370496 + k) (by omega)
    rw [show ((a * 4503599627370496 + k : Nat) : Int) = A * 4503599627370496 + K by omega] at h
    rw [h]; omega
  have a0 : 0 ≤ A := by omega
  have a1 : A ≤ 2045 := by omega
  have k0 : 0 ≤ K := by omega
  have k1 : K ≤ 9007199254740992 := by omega
  cases s
  · have hc := call_frombits (A * 4503599627370496 + K)
    rw [eV] at hc
    clear hA hK eV HO hk h1 h2
    go_enter Try.func12, Try.ntmps12
    go_wp2
    go_ret
    exact ⟨by show Ending.returned (.float .f64 (a * 4503599627370496 + k)) = Ending.returned (.float .f64 (0 + (a * 4503599627370496 + k))); rw [Nat.zero_add], rfl⟩
  · have hc := call_frombits (9223372036854775808 + (A * 4503599627370496 + K))
    rw [show (9223372036854775808 + (A * 4503599627370496 + K)).toNat = 9223372036854775808 + (a * 4503599627370496 + k) by omega] at hc
    have ho := HO.out
    clear hA hK eV HO hk h1 h2
    go_enter Try.func12, Try.ntmps12
    go_wp2
    go_ret
    exact ⟨rfl, rfl⟩
end Go.Proofs.Ytlmddccgkpmhcaa

