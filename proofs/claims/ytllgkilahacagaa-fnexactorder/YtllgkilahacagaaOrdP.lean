/- The order of floats, as it is told: plain. -/
import Derived.Test.YtllgkilahacagaaFltI
import Derived.Test.YtllgkilahacagaaFltP
namespace Go.Proofs.Ytllgkilahacagaa
open Ieee (double)

/-- What Order answers. -/
def ordI : Option Ordering → Int
  | none => 2
  | some .lt => -1
  | some .gt => 1
  | some .eq => 0
theorem self_eq (x : Nat) (hx : x < 18446744073709551616) (h : ¬ IsNan x) : double.order x x = some .eq := by
  rcases float_cases x hx with h' | ⟨s, rfl⟩ | ⟨s, n, p, hc, rfl⟩
  · exact absurd h' h
  · exact order_self_iw s
  · exact order_self_fw s n p hc
theorem order_some (x y : Nat) (hx : ¬ IsNan x) (hy : ¬ IsNan y) : ∃ o, double.order x y = some o := by
  unfold Ieee.Format.order
  cases h1 : double.read x with
  | nan s n => exact absurd ⟨s, n, h1⟩ hx
  | infinity s =>
    cases h2 : double.read y with
    | nan s n => exact absurd ⟨s, n, h2⟩ hy
    | infinity t => exact ⟨_, rfl⟩
    | number t n j => exact ⟨_, rfl⟩
  | number s m i =>
    cases h2 : double.read y with
    | nan s n => exact absurd ⟨s, n, h2⟩ hy
    | infinity t => exact ⟨_, rfl⟩
    | number t n j => exact ⟨_, rfl⟩
end Go.Proofs.Ytllgkilahacagaa
