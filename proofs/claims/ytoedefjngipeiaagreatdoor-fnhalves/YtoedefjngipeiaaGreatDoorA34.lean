import Derived.WalkKit
import Derived.Test.YtoedefjngipeiaaGreatDoorA16
import Derived.OpenShut
import Derived.Test.YtoedefjngipeiaaGreatDoorA03
/- A number as an odd one times a power of two: plain. -/
namespace Go.Proofs.YtoedefjngipeiaaGreatDoor

theorem odd_some (n : Nat) : 0 < n → ∃ q t, n = q * 2 ^ t ∧ q % 2 = 1 := by
  induction n using Nat.strongRecOn with
  | ind n ih =>
    intro h
    by_cases h1 : n % 2 = 1
    · exact ⟨n, 0, by rw [Nat.pow_zero, Nat.mul_one], h1⟩
    · obtain ⟨q, t, hq, hq1⟩ := ih (n / 2) (by omega) (by omega)
      refine ⟨q, t + 1, ?_, hq1⟩
      rw [Nat.pow_succ, ← Nat.mul_assoc, ← hq]; omega
theorem odd_one (q t q' t' : Nat) (h : q * 2 ^ t = q' * 2 ^ t') (h1 : q % 2 = 1) (h2 : q' % 2 = 1) : q = q' ∧ t = t' := by
  have key : ∀ (q t q' t' : Nat), q * 2 ^ t = q' * 2 ^ t' → q % 2 = 1 → t < t' → False := by
    intro q t q' t' h h1 hlt
    obtain ⟨d, hd⟩ : ∃ d, t' = t + (d + 1) := ⟨t' - t - 1, by omega⟩
    rw [hd, Nat.pow_add, Nat.mul_comm (2 ^ t), ← Nat.mul_assoc] at h
    have h3 := Nat.eq_of_mul_eq_mul_right (Nat.two_pow_pos t) h
    rw [Nat.pow_succ, ← Nat.mul_assoc] at h3
    omega
  rcases Nat.lt_trichotomy t t' with hlt | rfl | hlt
  · exact (key q t q' t' h h1 hlt).elim
  · exact ⟨Nat.eq_of_mul_eq_mul_right (Nat.two_pow_pos t) h, rfl⟩
  · exact (key q' t' q t h.symm h2 hlt).elim
end Go.Proofs.YtoedefjngipeiaaGreatDoor

/- The bytes of a slice that came in. -/
namespace Go.Proofs.YtoedefjngipeiaaGreatDoor
open Go.ChangeShapes Go.WideShapes Go.RowKit

/-- The bytes of a slice that came in. -/
def Bts (w : World) (a : Option Addr) (len : Nat) : Prop := len ≤ 1048576 ∧ ∀ i : Nat, i < len → ∃ x : Addr, a = some x ∧ ∃ z : Int, 0 ≤ z ∧ z ≤ 255 ∧ w.cell? (x.add i) = some (.int .u8 z)
theorem Bts.below {w w' : World} {a : Option Addr} {len : Nat} (h : Bts w a len) (hb : Below w.heap.size w w') : Bts w' a len :=
  ⟨h.1, fun i hi => by
    obtain ⟨x, hx, z, h0, h1, hc⟩ := h.2 i hi
    exact ⟨x, hx, z, h0, h1, by rw [hb.cell (cell_lt hc)]; exact hc⟩⟩
theorem Bts.code {w : World} {a : Option Addr} {len : Nat} (h : Bts w a len) : Code w.heap.size w a len :=
  ⟨h.1, fun i hi => by
    obtain ⟨x, hx, z, h0, h1, hc⟩ := h.2 i hi
    have hl := cell_lt hc
    refine ⟨x, hx, fun e => ?_, z, h0, h1, hc⟩
    have : (x.add i).block = x.block := by unfold Addr.add; split <;> rfl
    omega⟩
/-- A slice of bytes that came in: nil, or it leads to a row of cells that hold bytes. -/
def IsRow (w : World) (a : Option Addr) (len cap : Nat) (zs : List Int) : Prop :=
  (a = none ∧ len = 0 ∧ cap = 0 ∧ zs = []) ∨
  ∃ x, a = some x ∧ len ≤ cap ∧ cap ≤ maxLen ∧ zs.length = cap ∧ (∀ i, i < zs.length → w.cell? (x.add i) = some (.int .u8 (zs.getD i 0))) ∧ ∀ n ∈ zs, (Lit.int .u8 n).wf = true
theorem IsRow.bts {w : World} {a : Option Addr} {len cap : Nat} {zs : List Int} (h : IsRow w a len cap zs) (hl : len ≤ 1048576) : Bts w a len := by
  refine ⟨hl, fun i hi => ?_⟩
  rcases h with ⟨_, rfl, _, _⟩ | ⟨x, rfl, hlc, _, hz, hc, hw⟩
  · omega
  · have hi' : i < zs.length := by omega
    have hm : zs.getD i 0 ∈ zs := by
      have e : zs.getD i 0 = zs[i] := by simp [List.getD, List.getElem?_eq_getElem hi']
      rw [e]; exact List.getElem_mem hi'
    have hb := bounds_u8 (hw _ hm)
    exact ⟨x, rfl, zs.getD i 0, hb.1, hb.2, hc i hi'⟩
theorem IsRow.len {w : World} {a : Option Addr} {len cap : Nat} {zs : List Int} (h : IsRow w a len cap zs) : len ≤ maxLen := by
  rcases h with ⟨_, rfl, _, _⟩ | ⟨x, _, hlc, hm, _, _, _⟩
  · exact Nat.zero_le _
  · omega
end Go.Proofs.YtoedefjngipeiaaGreatDoor

/- Floats held against each other, as the laws over drawn inputs do it. -/
namespace Go.Proofs.YtoedefjngipeiaaGreatDoor
open Go.ChangeShapes Go.WideShapes Go.RowKit
open Ieee (double)

set_option maxHeartbeats 400000 in
theorem wflt_nan (x y : Nat) (hx : IsNan x) (hy : IsNan y) (w : World) :
    Calls Tryz.prog 7 #[.float .f64 x, .float .f64 y] w fun e w' => e = .returned (.bool true) ∧ w' = w := by
  have h1 : (FloatKind.f64.format.order x x != some .eq) = true := nan_neq x hx
  have h2 : (FloatKind.f64.format.order y y != some .eq) = true := nan_neq y hy
  go_enter Tryz.func7, Tryz.ntmps7
  go_wp2
  go_ret
  exact ⟨rfl, rfl⟩
set_option maxHeartbeats 400000 in
theorem wflt_some (x : Nat) (h1 : FloatKind.f64.format.order x x = some .eq) (h2 : FloatKind.f64.format.order x 0 = some .lt ∨ FloatKind.f64.format.order x 0 = some .gt) (w : World) :
    Calls Tryz.prog 7 #[.float .f64 x, .float .f64 x] w fun e w' => e = .returned (.bool true) ∧ w' = w := by
  rcases h2 with h2 | h2
  all_goals
    go_enter Tryz.func7, Tryz.ntmps7
    go_wp2
    go_ret
    exact ⟨rfl, rfl⟩
set_option maxHeartbeats 400000 in
theorem wflt_zero (s : Bool) (w : World) :
    Calls Tryz.prog 7 #[.float .f64 (signBit s), .float .f64 (signBit s)] w fun e w' => e = .returned (.bool true) ∧ w' = w := by
  have hn : FloatKind.f64.format.order (signBit s) (signBit s) = some .eq := by
    have := order_self_fw s 0 (-1074) canon_zero
    rw [fw_zero] at this
    exact this
  have hz : FloatKind.f64.format.order (signBit s) 0 = some .eq := ord_zeros s
  have hd := run_valid (P := Tryz.prog) .quo 23 _ _ _ (one_by_zero s)
  have hi : FloatKind.f64.format.order (iw s) (iw s) = some .eq := order_self_iw s
  generalize iw s = I at *
  generalize signBit s = Z at *
  go_enter Tryz.func7, Tryz.ntmps7
  go_wp2
  go_ret
  exact ⟨rfl, rfl⟩
/-- One float is the same as itself. -/
theorem wflt_self (x : Nat) (hx : x < 18446744073709551616) (w : World) :
    Calls Tryz.prog 7 #[.float .f64 x, .float .f64 x] w fun e w' => e = .returned (.bool true) ∧ w' = w := by
  rcases float_cases x hx with h | ⟨s, rfl⟩ | ⟨s, n, p, hc, rfl⟩
  · exact wflt_nan x x h h w
  · refine wflt_some (iw s) (order_self_iw s) ?_ w
    have := ord_inf_zero s
    cases s
    · exact .inr this
    · exact .inl this
  · by_cases h0 : n = 0
    · subst h0; rw [fw_zero]; exact wflt_zero s w
    · refine wflt_some _ (order_self_fw s n p hc) ?_ w
      have := ord_zero s n p (canon_rep n p hc) (by omega)
      cases s
      · exact .inr this
      · exact .inl this
end Go.Proofs.YtoedefjngipeiaaGreatDoor

