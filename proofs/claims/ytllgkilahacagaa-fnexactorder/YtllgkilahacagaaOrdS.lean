/- Order of the specification. -/
import Derived.Test.YtllgkilahacagaaOrdP
namespace Go.Proofs.Ytllgkilahacagaa
open Go.ChangeShapes Go.WideShapes Go.RowKit
open Ieee (double)

set_option maxHeartbeats 400000 in
theorem specOrder_any (x y : Nat) (hx : x < 18446744073709551616) (hy : y < 18446744073709551616) (w : World) :
    Calls Try.prog 4 #[.float .f64 x, .float .f64 y] w fun e w' => e = .returned (.int .i64 (ordI (double.order x y))) ∧ w' = w := by
  by_cases h1 : IsNan x
  · obtain ⟨s, n, h⟩ := h1
    have HV : Hid (ordI (double.order x y) = 2) := by show ordI (double.order x y) = 2; rw [(order_nan x y s n h).1]; rfl
    have hn : (FloatKind.f64.format.order x x != some .eq) = true := nan_neq x ⟨s, n, h⟩
    clear h
    go_enter Try.func4, Try.ntmps4
    go_wp2
    go_ret
    exact ⟨by rw [HV.out]; rfl, rfl⟩
  · have hn : FloatKind.f64.format.order x x = some .eq := self_eq x hx h1
    by_cases h2 : IsNan y
    · obtain ⟨s, n, h⟩ := h2
      have HV : Hid (ordI (double.order x y) = 2) := by show ordI (double.order x y) = 2; rw [(order_nan y x s n h).2]; rfl
      have hm : (FloatKind.f64.format.order y y != some .eq) = true := nan_neq y ⟨s, n, h⟩
      clear h h1
      go_enter Try.func4, Try.ntmps4
      go_wp2
      go_ret
      exact ⟨by rw [HV.out]; rfl, rfl⟩
    · have hm : FloatKind.f64.format.order y y = some .eq := self_eq y hy h2
      obtain ⟨o, ho⟩ := order_some x y h1 h2
      have ho' : FloatKind.f64.format.order x y = some o := ho
      have HV : Hid (ordI (double.order x y) = ordI (some o)) := by show ordI (double.order x y) = ordI (some o); rw [ho]
      clear h1 h2 ho
      cases o
      all_goals
        go_enter Try.func4, Try.ntmps4
        go_wp2
        go_ret
        exact ⟨by rw [HV.out]; rfl, rfl⟩
end Go.Proofs.Ytllgkilahacagaa
