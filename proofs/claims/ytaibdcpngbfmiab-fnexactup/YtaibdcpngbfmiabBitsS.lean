/- BitsOf of the specification. -/
import Derived.Test.YtaibdcpngbfmiabRawC
namespace Go.Proofs.Ytaibdcpngbfmiab
open Go.ChangeShapes Go.WideShapes Go.RowKit
open Ieee (double)

/-- What BitsOf answers. -/
def bitsV (x : Nat) (v : Int) : Prop := (IsNan x ∧ v = 9221120237041090560) ∨ (¬ IsNan x ∧ v = wrap64 x)

theorem bitsV_one (x : Nat) (v v' : Int) (h : bitsV x v) (h' : bitsV x v') : v = v' := by
  rcases h with ⟨a, rfl⟩ | ⟨a, rfl⟩ <;> rcases h' with ⟨b, rfl⟩ | ⟨b, rfl⟩
  · rfl
  · exact absurd a b
  · exact absurd b a
  · rfl
set_option maxHeartbeats 400000 in
theorem specBitsOf_any (x : Nat) (hx : x < 18446744073709551616) (w : World) :
    Calls Try.prog 17 #[.float .f64 x] w fun e w' => ∃ v, bitsV x v ∧ e = .returned (.int .i64 v) ∧ w' = w := by
  by_cases hn : IsNan x
  · have HR : Hid _ := raw_nan x hn
    have HV : Hid (bitsV x 9221120237041090560) := .inl ⟨hn, rfl⟩
    clear hn
    go_enter Try.func17, Try.ntmps17
    go_wp2_with (go_at_call 30; refine (HR.out _).mono ?_; rintro e w' ⟨rfl, rfl⟩)
    go_ret
    exact ⟨_, HV.out, rfl, rfl⟩
  · obtain ⟨s, r, hr, e, hc⟩ := raw_any x hx hn
    have HR : Hid _ := hc
    cases s
    · have HV : Hid (bitsV x r) := .inr ⟨hn, by rw [e]; show (r : Int) = wrap64 ((0 + r : Nat) : Int); unfold wrap64; omega⟩
      clear hn hc e
      go_enter Try.func17, Try.ntmps17
      go_wp2_with (go_at_call 30; refine (HR.out _).mono ?_; rintro e w' ⟨rfl, rfl⟩)
      go_ret
      exact ⟨_, HV.out, rfl, rfl⟩
    · have HV : Hid (bitsV x (wrap64 (bits .or .u64 (r : Int) 9223372036854775808))) := .inr ⟨hn, by rw [e, or_top r (by omega)]; rfl⟩
      clear hn hc e
      go_enter Try.func17, Try.ntmps17
      go_wp2_with (go_at_call 30; refine (HR.out _).mono ?_; rintro e w' ⟨rfl, rfl⟩)
      go_ret
      exact ⟨_, HV.out, rfl, rfl⟩
end Go.Proofs.Ytaibdcpngbfmiab
