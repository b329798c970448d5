/- A float's bits as the program lays them: layoutOf, infinity, word, float. -/
import Derived.Test.YtaibdcpngbfmiabLayP
namespace Go.Proofs.Ytaibdcpngbfmiab
open Go.ChangeShapes Go.WideShapes Go.RowKit
open Ieee (double)

theorem call_bits (x : Nat) (w : World) : (callFunc 38 #[.float .f64 x]).run Try.prog w = .ok (.value (.int .u64 x)) w := by kernel_rfl
theorem call_frombits (x : Int) (w : World) : (callFunc 37 #[.int .u64 x]).run Try.prog w = .ok (.value (.float .f64 x.toNat)) w := by kernel_rfl
/-- A layout's cells. -/
def layC (s : Bool) (E M : Int) : Array Value := #[.bool s, .int .u64 E, .int .u64 M]

set_option maxHeartbeats 400000 in
theorem layoutOf_any (U : Nat) (s : Bool) (E M : Nat) (h : Lays U s E M) (w : World) :
    Calls Try.prog 31 #[.float .f64 U] w fun e w' => e = .returned (.agg #[.bool s, .int .u64 E, .int .u64 M]) ∧ w' = w.alloc (.cells #[.bool s, .int .u64 E, .int .u64 M] 43) := by
  obtain ⟨h1, h2, h3⟩ := h
  have hc := call_bits U
  go_enter Try.func31, Try.ntmps31
  go_wp2
  exact bodyPost_ret (v := .agg #[.bool s, .int .u64 E, .int .u64 M]) (by simp [results, Try.results31, go_sem]) rfl ⟨rfl, rfl⟩

set_option maxHeartbeats 400000 in
theorem infinity_any (s : Bool) (w : World) :
    Calls Try.prog 26 #[.bool s] w fun e w' => e = .returned (.agg #[.bool s, .int .u64 2047, .int .u64 0]) ∧ w' = w.alloc (.cells #[.bool s, .int .u64 2047, .int .u64 0] 43) := by
  go_enter Try.func26, Try.ntmps26
  go_wp2
  exact bodyPost_ret (v := .agg #[.bool s, .int .u64 2047, .int .u64 0]) (by simp [results, Try.results26, go_sem]) rfl ⟨rfl, rfl⟩

set_option maxHeartbeats 400000 in
theorem word_any (s : Bool) (E M : Nat) (hE : E < 2048) (hM : M < 4503599627370496) (w : World) :
    Calls Try.prog 33 #[.agg #[.bool s, .int .u64 E, .int .u64 M]] w fun e w' => e = .returned (.int .u64 ((signBit s + (E * 4503599627370496 + M) : Nat) : Int)) ∧ w' = w.alloc (.cells #[.bool s, .int .u64 E, .int .u64 M] 43) := by
  have h1 := or_low E M hM (by omega)
  have HT : Hid _ := or_top (E * 4503599627370496 + M) (by omega)
  have e0 : ((E * 4503599627370496 + M : Nat) : Int) = (E : Int) * 4503599627370496 + (M : Int) := by omega
  rw [e0] at h1 HT
  cases s
  · have HE : Hid (Ending.returned (.int .u64 ((E : Int) * 4503599627370496 + (M : Int))) = .returned (.int .u64 ((signBit false + (E * 4503599627370496 + M) : Nat) : Int))) := by
      show Ending.returned _ = Ending.returned (.int .u64 ((0 + (E * 4503599627370496 + M) : Nat) : Int))
      rw [Nat.zero_add, e0]
    clear e0 HT
    go_enter Try.func33, Try.ntmps33
    go_wp2
    go_ret
    exact ⟨HE.out, rfl⟩
  · have h2 := HT.out
    clear e0 HT
    go_enter Try.func33, Try.ntmps33
    go_wp2
    go_ret
    exact ⟨congrArg (fun t => Ending.returned (.int .u64 t)) (show 9223372036854775808 + ((E : Int) * 4503599627370496 + (M : Int)) = ((9223372036854775808 + (E * 4503599627370496 + M) : Nat) : Int) by omega), rfl⟩

set_option maxHeartbeats 400000 in
theorem float_any (s : Bool) (E M : Nat) (hE : E < 2048) (hM : M < 4503599627370496) (w : World) :
    Calls Try.prog 25 #[.agg #[.bool s, .int .u64 E, .int .u64 M]] w fun e w' => e = .returned (.float .f64 (signBit s + (E * 4503599627370496 + M))) ∧ w' = (w.alloc (.cells #[.bool s, .int .u64 E, .int .u64 M] 43)).alloc (.cells #[.bool s, .int .u64 E, .int .u64 M] 43) := by
  have HW : Hid _ := fun w => word_any s E M hE hM w
  have hc := call_frombits ((signBit s + (E * 4503599627370496 + M) : Nat) : Int)
  rw [Int.toNat_natCast] at hc
  generalize signBit s + (E * 4503599627370496 + M) = R at *
  clear hE hM
  go_enter Try.func25, Try.ntmps25
  go_wp2_with (go_at_call 33; refine (HW.out _).mono ?_; rintro e w' ⟨rfl, rfl⟩)
  go_ret
  exact ⟨rfl, rfl⟩
end Go.Proofs.Ytaibdcpngbfmiab
