/- Order of the program: NaNs, and the whole. -/
import Derived.Test.YtllgkilahacagaaOrdeI
namespace Go.Proofs.Ytllgkilahacagaa
open Go.ChangeShapes Go.WideShapes Go.RowKit
open Ieee (double)

set_option maxHeartbeats 1000000 in
set_option maxRecDepth 100000 in
theorem order_nan_first (x y : Nat) (s t : Bool) (M F N : Nat) (hx : Lays x s 2047 M) (hy : Lays y t F N) (hM : M ≠ 0) (w : World) :
    Calls Try.prog 5 #[.float .f64 x, .float .f64 y] w fun e w' => e = .returned (.int .i64 2) ∧ Below w.heap.size w w' := by
  have H1 : Hid (∀ w, Calls Try.prog 6 #[.float .f64 x] w fun e w' => e = .returned (.agg #[.bool s, .int .u64 2047, .int .u64 M]) ∧ w' = w.alloc (.cells #[.bool s, .int .u64 2047, .int .u64 M] 27)) := fun w => layoutOf_any x s 2047 M hx w
  have H2 : Hid (∀ w, Calls Try.prog 6 #[.float .f64 y] w fun e w' => e = .returned (.agg #[.bool t, .int .u64 F, .int .u64 N]) ∧ w' = w.alloc (.cells #[.bool t, .int .u64 F, .int .u64 N] 27)) := fun w => layoutOf_any y t F N hy w
  have HK1 : Hid _ := fun w => kind_nan s M hM w
  clear hx hy hM
  go_enter Try.func5, Try.ntmps5
  go_wp2_with fail
  refine (H1.out _).mono ?_
  rintro e w1 ⟨rfl, rfl⟩
  go_wp2_with fail
  refine (H2.out _).mono ?_
  rintro e w1 ⟨rfl, rfl⟩
  go_wp2_with fail
  refine (HK1.out _).mono ?_
  rintro e w1 ⟨rfl, rfl⟩
  clear H1 H2 HK1
  go_wp2_with fail
  go_ret
  exact ⟨rfl, (by repeat (first | with_reducible exact Below.refl _ _ | with_reducible refine Below.alloc ?_ (by simp <;> omega) _ | with_reducible refine Below.drew ?_ | with_reducible refine below_drewN ?_ _ | with_reducible refine Below.setCell ?_ (by simp <;> omega) _))⟩
set_option maxHeartbeats 1000000 in
set_option maxRecDepth 100000 in
theorem order_nan_second (x y : Nat) (s t : Bool) (E M N : Nat) (k : Int) (hx : Lays x s E M) (hy : Lays y t 2047 N) (hN : N ≠ 0) (hk : (k == 3) = false) (K1 : KindZ s E M k ∨ KindN s E M k) (w : World) :
    Calls Try.prog 5 #[.float .f64 x, .float .f64 y] w fun e w' => e = .returned (.int .i64 2) ∧ Below w.heap.size w w' := by
  have H1 : Hid (∀ w, Calls Try.prog 6 #[.float .f64 x] w fun e w' => e = .returned (.agg #[.bool s, .int .u64 E, .int .u64 M]) ∧ w' = w.alloc (.cells #[.bool s, .int .u64 E, .int .u64 M] 27)) := fun w => layoutOf_any x s E M hx w
  have H2 : Hid (∀ w, Calls Try.prog 6 #[.float .f64 y] w fun e w' => e = .returned (.agg #[.bool t, .int .u64 2047, .int .u64 N]) ∧ w' = w.alloc (.cells #[.bool t, .int .u64 2047, .int .u64 N] 27)) := fun w => layoutOf_any y t 2047 N hy w
  have HK2 : Hid _ := fun w => kind_nan t N hN w
  clear hx hy hN
  rcases K1 with K1 | K1
  all_goals
    have HK1 : Hid _ := fun (_ : Unit) => K1
    clear K1
    go_enter Try.func5, Try.ntmps5
    go_wp2_with fail
    refine (H1.out _).mono ?_
    rintro e w1 ⟨rfl, rfl⟩
    go_wp2_with fail
    refine (H2.out _).mono ?_
    rintro e w1 ⟨rfl, rfl⟩
    go_wp2_with fail
    refine (HK1.out () _).mono ?_
    rintro e w1 ⟨rfl, rfl⟩
    go_wp2_with fail
    refine (HK2.out _).mono ?_
    rintro e w1 ⟨rfl, rfl⟩
    clear H1 H2 HK1 HK2
    go_wp2_with fail
    go_ret
    exact ⟨rfl, (by repeat (first | with_reducible exact Below.refl _ _ | with_reducible refine Below.alloc ?_ (by simp <;> omega) _ | with_reducible refine Below.drew ?_ | with_reducible refine below_drewN ?_ _ | with_reducible refine Below.setCell ?_ (by simp <;> omega) _))⟩
theorem cmpN_ord (a b : Int) : cmpN a b = ordI (some (compare a b)) := by
  unfold cmpN
  by_cases h1 : a < b
  · rw [if_pos h1, cmp_lt _ _ h1]; rfl
  · rw [if_neg h1]
    by_cases h2 : b < a
    · rw [if_pos h2, cmp_gt _ _ h2]; rfl
    · rw [if_neg h2, cmp_eq _ _ (by omega)]; rfl
theorem implOrder_any (x y : Nat) (hx : x < 18446744073709551616) (hy : y < 18446744073709551616) (w : World) :
    Calls Try.prog 5 #[.float .f64 x, .float .f64 y] w fun e w' => e = .returned (.int .i64 (ordI (double.order x y))) ∧ Below w.heap.size w w' := by
  obtain ⟨s, E, M, hE, hM, hU⟩ := word_parts x hx
  obtain ⟨t, F, N, hF, hN, hV⟩ := word_parts y hy
  have hLx := lays_any x s E M hE hM hU
  have hLy := lays_any y t F N hF hN hV
  by_cases c1 : E = 2047 ∧ M ≠ 0
  · obtain ⟨rfl, c1⟩ := c1
    have hn : IsNan x := by rw [hU]; exact nan_word s _ (by omega) (by omega)
    obtain ⟨a, b, hn⟩ := hn
    rw [(order_nan x y a b hn).1]
    exact order_nan_first x y s t M F N hLx hLy c1 w
  · obtain ⟨k, hk, K1⟩ := kind_not_nan s E M hE c1
    by_cases c2 : F = 2047 ∧ N ≠ 0
    · obtain ⟨rfl, c2⟩ := c2
      have hn : IsNan y := by rw [hV]; exact nan_word t _ (by omega) (by omega)
      obtain ⟨a, b, hn⟩ := hn
      rw [(order_nan y x a b hn).2]
      exact order_nan_second x y s t E M N k hLx hLy c2 hk K1 w
    · obtain ⟨l, hl, K2⟩ := kind_not_nan t F N hF c2
      rw [hU, hV, order_rank s t _ _ (by omega) (by omega), ← cmpN_ord, ← hU, ← hV]
      exact order_num x y s t E M F N k l hLx hLy ⟨hE, hM⟩ ⟨hF, hN⟩ hk hl K1 K2 w
end Go.Proofs.Ytllgkilahacagaa
