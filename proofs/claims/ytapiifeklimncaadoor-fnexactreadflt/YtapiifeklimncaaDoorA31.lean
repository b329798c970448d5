import Derived.Test.YtapiifeklimncaaDoorA10
import Derived.Test.YtapiifeklimncaaDoorA22
import Derived.Test.YtapiifeklimncaaDoorA21
import Derived.Test.YtapiifeklimncaaDoorA20
import Derived.Test.YtapiifeklimncaaDoorA24
import Derived.Test.YtapiifeklimncaaDoorA30
import Derived.Deep.Cut
import Derived.Deep.CutRange
import Derived.Deep.CutBlock
/- l2signed of the specification. -/
namespace Go.Proofs.YtapiifeklimncaaDoor
open Go.ChangeShapes Go.WideShapes Go.RowKit
open Ieee (double)

set_option maxHeartbeats 400000 in
theorem l2signed_plus (x : Nat) (w : World) : Calls Tryd.prog 10 #[.bool false, .float .f64 x] w fun e w' => e = .returned (.float .f64 x) ∧ w' = w := by
  go_enter Tryd.func10, Tryd.ntmps10
  go_wp2
  go_ret
  exact ⟨rfl, rfl⟩
set_option maxHeartbeats 400000 in
theorem l2signed_minus (x y : Nat) (hy : Op.negFloat .f64 x = y) (w : World) : Calls Tryd.prog 10 #[.bool true, .float .f64 x] w fun e w' => e = .returned (.float .f64 y) ∧ w' = w := by
  have hng := run_neg x
  rw [hy] at hng
  clear hy
  go_enter Tryd.func10, Tryd.ntmps10
  go_wp2
  go_ret
  exact ⟨rfl, rfl⟩
/-- A sign given to a number. -/
theorem l2signed_fw (s : Bool) (m : Nat) (p : Int) (h : Rep m p) (w : World) : Calls Tryd.prog 10 #[.bool s, .float .f64 (fw false m p)] w fun e w' => e = .returned (.float .f64 (fw s m p)) ∧ w' = w := by
  cases s
  · exact l2signed_plus _ w
  · exact l2signed_minus _ _ (neg_rep false m p h) w
theorem l2signed_iw (s : Bool) (w : World) : Calls Tryd.prog 10 #[.bool s, .float .f64 (iw false)] w fun e w' => e = .returned (.float .f64 (iw s)) ∧ w' = w := by
  cases s
  · exact l2signed_plus _ w
  · exact l2signed_minus _ _ (neg_iw false) w
end Go.Proofs.YtapiifeklimncaaDoor

/- l2nan of the specification. -/
namespace Go.Proofs.YtapiifeklimncaaDoor
open Go.ChangeShapes Go.WideShapes Go.RowKit
open Ieee (double)

set_option maxHeartbeats 400000 in
theorem l2nan_any (w : World) : Calls Tryd.prog 9 #[] w fun e w' => ∃ b, IsNan b ∧ b < 18446744073709551616 ∧ e = .returned (.float .f64 b) ∧ w' = w.drew := by
  obtain ⟨b, hb, hlt, hrun⟩ := run_nan (P := Tryd.prog) 22 w
  go_enter Tryd.func9, Tryd.ntmps9
  go_wp2
  go_ret
  exact ⟨b, hb, hlt, rfl, rfl⟩
end Go.Proofs.YtapiifeklimncaaDoor

/- What ReadFlt's walk wants; its code from a statement on. -/
namespace Go.Proofs.YtapiifeklimncaaDoor
open Go.ChangeShapes Go.WideShapes Go.RowKit

theorem is_any (B : Nat) (w : World) (s : ByteArray) (k : Nat) (c : Int) (h : Rd B w s k) (hs : s.size ≤ 1300) (hc : 0 < c) :
    Calls Tryd.prog 7 #[.pointer (some ⟨B, 0, none⟩), .int .u8 c] w fun e w' => ∃ (t : Bool) (j : Nat), ((t = true ∧ k < s.size ∧ bAt s k = c ∧ j = k + 1) ∨ (t = false ∧ bAt s k ≠ c ∧ j = k)) ∧ e = .returned (.bool t) ∧ Rd B w' s j ∧ Only B w w' := by
  by_cases hb : bAt s k = c
  · have hk : k < s.size := by
      by_cases hk : k < s.size
      · exact hk
      · rw [bAt_out s k hk] at hb; omega
    refine (is_yes' B w s k c h hs hk hb).mono ?_
    rintro e w' ⟨rfl, hr, ho⟩
    exact ⟨true, k + 1, .inl ⟨rfl, hk, hb, rfl⟩, rfl, hr, ho⟩
  · refine (is_no' B w s k c h hb).mono ?_
    rintro e w' ⟨rfl, hr, ho⟩
    exact ⟨false, k, .inr ⟨rfl, hb, rfl⟩, rfl, hr, ho⟩

theorem signed_word (neg : Bool) (x : Nat) (hx : x < 9223372036854775808) (w : World) : Calls Tryd.prog 10 #[.bool neg, .float .f64 x] w fun e w' => e = .returned (.float .f64 (signBit neg + x)) ∧ w' = w := by
  cases neg
  · have h := l2signed_plus x w
    rw [show signBit false + x = x by show 0 + x = x; omega]
    exact h
  · refine l2signed_minus x _ ?_ w
    have h := neg_word false x hx
    rw [show signBit false + x = x by show 0 + x = x; omega] at h
    exact h
/-- The code from its n-th statement on. -/
def dropSeq : Nat → Go.Code → Go.Code
  | 0, c => c
  | n + 1, .seq _ b => dropSeq n b
  | _, c => c
end Go.Proofs.YtapiifeklimncaaDoor

