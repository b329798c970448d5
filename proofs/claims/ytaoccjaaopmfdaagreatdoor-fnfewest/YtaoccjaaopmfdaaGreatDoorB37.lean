import Derived.Test.YtaoccjaaopmfdaaGreatDoorB36
/- A float's bits as the program lays them: word. -/
namespace Go.Proofs.YtaoccjaaopmfdaaGreatDoor
open Go.ChangeShapes Go.WideShapes Go.RowKit
open Ieee (double)

set_option maxHeartbeats 400000 in
theorem word_any (s : Bool) (E M : Nat) (hE : E < 2048) (hM : M < 4503599627370496) (w : World) :
    Calls Tryz.prog 47 #[.agg #[.bool s, .int .u64 E, .int .u64 M]] w fun e w' => e = .returned (.int .u64 ((signBit s + (E * 4503599627370496 + M) : Nat) : Int)) ∧ w' = w.alloc (.cells #[.bool s, .int .u64 E, .int .u64 M] 77) := by
  have h1 := or_low E M hM (by omega)
  have HT : Hid _ := or_top (E * 4503599627370496 + M) (by omega)
  have e0 : ((E * 4503599627370496 + M : Nat) : Int) = (E : Int) * 4503599627370496 + (M : Int) := by omega
  rw [e0] at h1 HT
  cases s
  · have HE : Hid (Ending.returned (.int .u64 ((E : Int) * 4503599627370496 + (M : Int))) = .returned (.int .u64 ((signBit false + (E * 4503599627370496 + M) : Nat) : Int))) := by
      show Ending.returned _ = Ending.returned (.int .u64 ((0 + (E * 4503599627370496 + M) : Nat) : Int))
      rw [Nat.zero_add, e0]
    clear e0 HT
    go_enter Tryz.func47, Tryz.ntmps47
    go_wp2
    go_ret
    exact ⟨HE.out, rfl⟩
  · have h2 := HT.out
    clear e0 HT
    go_enter Tryz.func47, Tryz.ntmps47
    go_wp2
    go_ret
    exact ⟨congrArg (fun t => Ending.returned (.int .u64 t)) (show 9223372036854775808 + ((E : Int) * 4503599627370496 + (M : Int)) = ((9223372036854775808 + (E * 4503599627370496 + M) : Nat) : Int) by omega), rfl⟩

end Go.Proofs.YtaoccjaaopmfdaaGreatDoor

/- A float's bits as the program lays them: float. -/
namespace Go.Proofs.YtaoccjaaopmfdaaGreatDoor
open Go.ChangeShapes Go.WideShapes Go.RowKit
open Ieee (double)

theorem call_frombits (x : Int) (w : World) : (callFunc 44 #[.int .u64 x]).run Tryz.prog w = .ok (.value (.float .f64 x.toNat)) w := by kernel_rfl
set_option maxHeartbeats 400000 in
theorem float_any (s : Bool) (E M : Nat) (hE : E < 2048) (hM : M < 4503599627370496) (w : World) :
    Calls Tryz.prog 62 #[.agg #[.bool s, .int .u64 E, .int .u64 M]] w fun e w' => e = .returned (.float .f64 (signBit s + (E * 4503599627370496 + M))) ∧ w' = (w.alloc (.cells #[.bool s, .int .u64 E, .int .u64 M] 77)).alloc (.cells #[.bool s, .int .u64 E, .int .u64 M] 77) := by
  have HW : Hid _ := fun w => word_any s E M hE hM w
  have hc := call_frombits ((signBit s + (E * 4503599627370496 + M) : Nat) : Int)
  rw [Int.toNat_natCast] at hc
  generalize signBit s + (E * 4503599627370496 + M) = R at *
  clear hE hM
  go_enter Tryz.func62, Tryz.ntmps62
  go_wp2_with (go_at_call 47; refine (HW.out _).mono ?_; rintro e w' ⟨rfl, rfl⟩)
  go_ret
  exact ⟨rfl, rfl⟩
end Go.Proofs.YtaoccjaaopmfdaaGreatDoor

/- A size at its place, as the program lays it. -/
namespace Go.Proofs.YtaoccjaaopmfdaaGreatDoor
open Go.ChangeShapes Go.WideShapes Go.RowKit
open Ieee (double)

set_option maxHeartbeats 400000 in
theorem place_any (s : Bool) (k : Nat) (L : Int) (hk : k ≤ 9007199254740992) (h1 : -1074 ≤ L) (h2 : L ≤ 971) (w : World) :
    Calls Tryz.prog 65 #[.bool s, .int .u64 (k : Int), .int .i64 L] w fun e w' => e = .returned (.float .f64 (signBit s + ((L + 1074).toNat * 4503599627370496 + k))) ∧ w' = w := by
  obtain ⟨a, ha⟩ : ∃ a : Nat, L = (a : Int) - 1074 := ⟨(L + 1074).toNat, by omega⟩
  subst ha
  rw [show ((a : Int) - 1074 + 1074).toNat = a by omega]
  obtain ⟨A, hA⟩ : ∃ A : Int, A = (a : Int) := ⟨_, rfl⟩
  obtain ⟨K, hK⟩ : ∃ K : Int, K = (k : Int) := ⟨_, rfl⟩
  rw [← hA, ← hK]
  have eV : (A * 4503599627370496 + K).toNat = a * 4503599627370496 + k := by omega
  have HO : Hid (bits .or .u64 (A * 4503599627370496 + K) 9223372036854775808 = 9223372036854775808 + (A * 4503599627370496 + K)) := by
    show _ = _
    have h := or_top (a * 4503599627370496 + k) (by omega)
    rw [show ((a * 4503599627370496 + k : Nat) : Int) = A * 4503599627370496 + K by omega] at h
    rw [h]; omega
  have a0 : 0 ≤ A := by omega
  have a1 : A ≤ 2045 := by omega
  have k0 : 0 ≤ K := by omega
  have k1 : K ≤ 9007199254740992 := by omega
  cases s
  · have hc := call_frombits (A * 4503599627370496 + K)
    rw [eV] at hc
    clear hA hK eV HO hk h1 h2
    go_enter Tryz.func65, Tryz.ntmps65
    go_wp2
    go_ret
    exact ⟨by show Ending.returned (.float .f64 (a * 4503599627370496 + k)) = Ending.returned (.float .f64 (0 + (a * 4503599627370496 + k))); rw [Nat.zero_add], rfl⟩
  · have hc := call_frombits (9223372036854775808 + (A * 4503599627370496 + K))
    rw [show (9223372036854775808 + (A * 4503599627370496 + K)).toNat = 9223372036854775808 + (a * 4503599627370496 + k) by omega] at hc
    have ho := HO.out
    clear hA hK eV HO hk h1 h2
    go_enter Tryz.func65, Tryz.ntmps65
    go_wp2
    go_ret
    exact ⟨rfl, rfl⟩
end Go.Proofs.YtaoccjaaopmfdaaGreatDoor

/- A float's bits as the program lays them: infinity. -/
namespace Go.Proofs.YtaoccjaaopmfdaaGreatDoor
open Go.ChangeShapes Go.WideShapes Go.RowKit
open Ieee (double)

set_option maxHeartbeats 400000 in
theorem infinity_any (s : Bool) (w : World) :
    Calls Tryz.prog 63 #[.bool s] w fun e w' => e = .returned (.agg #[.bool s, .int .u64 2047, .int .u64 0]) ∧ w' = w.alloc (.cells #[.bool s, .int .u64 2047, .int .u64 0] 77) := by
  go_enter Tryz.func63, Tryz.ntmps63
  go_wp2
  exact bodyPost_ret (v := .agg #[.bool s, .int .u64 2047, .int .u64 0]) (by simp [results, Tryz.results63, go_sem]) rfl ⟨rfl, rfl⟩
end Go.Proofs.YtaoccjaaopmfdaaGreatDoor

