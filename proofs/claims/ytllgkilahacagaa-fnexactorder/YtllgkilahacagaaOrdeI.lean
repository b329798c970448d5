/- Order of the program. -/
import Derived.Test.YtllgkilahacagaaKindI
import Derived.Test.YtllgkilahacagaaRankI
import Derived.Test.YtllgkilahacagaaCmpI
import Derived.Test.YtllgkilahacagaaOrdS
namespace Go.Proofs.Ytllgkilahacagaa
open Go.ChangeShapes Go.WideShapes Go.RowKit
open Ieee (double)

def Bd (E M : Nat) : Prop := E < 2048 ∧ M < 4503599627370496
/-- kind of a float that is not a NaN: its answer, and which blocks it leaves. -/
def KindZ (s : Bool) (E M : Nat) (k : Int) : Prop := ∀ w, Calls Try.prog 7 #[.agg #[.bool s, .int .u64 (E : Int), .int .u64 (M : Int)]] w fun e w' => e = .returned (.int .i64 k) ∧ w' = w.alloc (.cells #[.bool s, .int .u64 (E : Int), .int .u64 (M : Int)] 27)
def KindN (s : Bool) (E M : Nat) (k : Int) : Prop := ∀ w, Calls Try.prog 7 #[.agg #[.bool s, .int .u64 (E : Int), .int .u64 (M : Int)]] w fun e w' => e = .returned (.int .i64 k) ∧ w' = ((w.alloc (.cells #[.bool s, .int .u64 (E : Int), .int .u64 (M : Int)] 27)).alloc (.cells #[.bool s, .int .u64 2047, .int .u64 0] 27)).drew
theorem kind_not_nan (s : Bool) (E M : Nat) (hE : E < 2048) (h : ¬ (E = 2047 ∧ M ≠ 0)) : ∃ k, (k == 3) = false ∧ (KindZ s E M k ∨ KindN s E M k) := by
  by_cases c1 : E = 2047
  · obtain rfl : M = 0 := by omega
    subst c1
    exact ⟨2, rfl, .inr fun w => kind_inf s w⟩
  · by_cases c2 : E = 0
    · subst c2
      by_cases c3 : M = 0
      · subst c3
        exact ⟨0, rfl, .inl fun w => kind_zero s w⟩
      · exact ⟨1, rfl, .inr fun w => kind_small s M c3 w⟩
    · exact ⟨1, rfl, .inr fun w => kind_normal s E M (by omega) (by omega) w⟩

set_option maxHeartbeats 8000000 in
set_option maxRecDepth 100000 in
theorem order_num (x y : Nat) (s t : Bool) (E M F N : Nat) (k l : Int) (hx : Lays x s E M) (hy : Lays y t F N) (b1 : Bd E M) (b2 : Bd F N) (hk : (k == 3) = false) (hl : (l == 3) = false)
    (K1 : KindZ s E M k ∨ KindN s E M k) (K2 : KindZ t F N l ∨ KindN t F N l) (w : World) :
    Calls Try.prog 5 #[.float .f64 x, .float .f64 y] w fun e w' => e = .returned (.int .i64 (cmpN (rankI s (E * 4503599627370496 + M)) (rankI t (F * 4503599627370496 + N)))) ∧ Below w.heap.size w w' := by
  have H1 : Hid (∀ w, Calls Try.prog 6 #[.float .f64 x] w fun e w' => e = .returned (.agg #[.bool s, .int .u64 E, .int .u64 M]) ∧ w' = w.alloc (.cells #[.bool s, .int .u64 E, .int .u64 M] 27)) := fun w => layoutOf_any x s E M hx w
  have H2 : Hid (∀ w, Calls Try.prog 6 #[.float .f64 y] w fun e w' => e = .returned (.agg #[.bool t, .int .u64 F, .int .u64 N]) ∧ w' = w.alloc (.cells #[.bool t, .int .u64 F, .int .u64 N] 27)) := fun w => layoutOf_any y t F N hy w
  have HR : Hid _ := fun s E M (h : Bd E M) w => rank_any s E M h.1 h.2 w
  have HC : Hid _ := fun x y w => compare_any x y w
  clear hx hy
  rcases K1 with K1 | K1 <;> rcases K2 with K2 | K2
  all_goals
    have HK1 : Hid _ := fun (_ : Unit) => K1
    have HK2 : Hid _ := fun (_ : Unit) => K2
    clear K1 K2
    go_enter Try.func5, Try.ntmps5
    go_wp2_with fail
    refine (H1.out _).mono ?_
    rintro e w1 ⟨rfl, rfl⟩
    go_wp2_with fail
    refine (H2.out _).mono ?_
    rintro e w1 ⟨rfl, rfl⟩
    go_wp2_with fail
    refine (HK1.out () _).mono ?_
    rintro e w1 ⟨rfl, rfl⟩
    go_wp2_with fail
    refine (HK2.out () _).mono ?_
    rintro e w1 ⟨rfl, rfl⟩
    clear H1 H2 HK1 HK2
    go_wp2_with fail
    go_region_with (first | (go_at_call 9; refine (HR.out _ _ _ (by assumption) _).mono ?_; rintro e w' ⟨rfl, rfl⟩) | (go_at_call 8; refine (HC.out _ _ _).mono ?_; rintro e w' ⟨rfl, rfl⟩))
    all_goals
      go_wp2
      go_ret
      exact ⟨rfl, (by repeat (first | with_reducible exact Below.refl _ _ | with_reducible refine Below.alloc ?_ (by simp <;> omega) _ | with_reducible refine Below.drew ?_ | with_reducible refine below_drewN ?_ _ | with_reducible refine Below.setCell ?_ (by simp <;> omega) _))⟩
end Go.Proofs.Ytllgkilahacagaa
