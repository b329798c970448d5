/- The law on ints: the byte that is asked for; what is read back; the division's facts. -/
import Derived.Test.YtpldpgdjdplbgaaDoorBack
import Derived.Test.YtpldpgdjdplbgaaDoorReadG
import Derived.Test.YtpldpgdjdplbgaaDoorWriteD
import Derived.Test.YtpldpgdjdplbgaaDoorDivI
import Derived.Test.YtpldpgdjdplbgaaDoorShiftW
import Derived.Test.YtpldpgdjdplbgaaDoorDrawB
import Derived.Test.YtpldpgdjdplbgaaDoorSmall
import Derived.OpenShut
namespace Go.Proofs.YtpldpgdjdplbgaaDoor
open Go.ChangeShapes Go.WideShapes Go.RowKit

/-- The bytes of a slice that came in. -/
def Bts (w : World) (a : Option Addr) (len : Nat) : Prop := len ≤ 1048576 ∧ ∀ i : Nat, i < len → ∃ x : Addr, a = some x ∧ ∃ z : Int, 0 ≤ z ∧ z ≤ 255 ∧ w.cell? (x.add i) = some (.int .u8 z)
theorem Bts.below {w w' : World} {a : Option Addr} {len : Nat} (h : Bts w a len) (hb : Below w.heap.size w w') : Bts w' a len :=
  ⟨h.1, fun i hi => by
    obtain ⟨x, hx, z, h0, h1, hc⟩ := h.2 i hi
    exact ⟨x, hx, z, h0, h1, by rw [hb.cell (cell_lt hc)]; exact hc⟩⟩
theorem Bts.code {w : World} {a : Option Addr} {len : Nat} (h : Bts w a len) : Code w.heap.size w a len :=
  ⟨h.1, fun i hi => by
    obtain ⟨x, hx, z, h0, h1, hc⟩ := h.2 i hi
    have hl := cell_lt hc
    refine ⟨x, hx, fun e => ?_, z, h0, h1, hc⟩
    have : (x.add i).block = x.block := by unfold Addr.add; split <;> rfl
    omega⟩
theorem Tab.below {w w' : World} (h : Tab w) (hb : Below w.heap.size w w') : Tab w' := fun i hi => by
  have hc := h i hi
  rw [hb.cell (cell_lt hc)]; exact hc

set_option maxHeartbeats 400000 in
theorem wByte_any (w : World) (a : Option Addr) (len cap : Nat) (i : Int) (hi : 0 ≤ i) (hi' : i ≤ 1000) (hk : Bts w a len) :
    Calls Tryd.prog 7 #[.slice a len cap, .int .i64 i] w fun e w' => ∃ v : Int, 0 ≤ v ∧ v ≤ 255 ∧ e = .returned (.int .i64 v) ∧ w' = w := by
  by_cases hz : len = 0
  · subst hz
    clear hk
    go_enter Tryd.func7, Tryd.ntmps7
    go_wp2
    go_ret
    exact ⟨0, by omega, by omega, rfl, rfl⟩
  · have hb : ((len : Int) == 0) = false := beq_eq_false_iff_ne.2 (by omega)
    have hm0 : 0 ≤ i % (len : Int) := Int.emod_nonneg _ (by omega)
    have hm1 : i % (len : Int) < len := Int.emod_lt_of_pos _ (by omega)
    obtain ⟨hlen, hk⟩ := hk
    obtain ⟨x, rfl, z, hz0, hz1, hx⟩ := hk (i % (len : Int)).toNat (by omega)
    clear hk
    go_enter Tryd.func7, Tryd.ntmps7
    go_wp2
    go_ret
    exact ⟨z, hz0, hz1, rfl, rfl⟩

theorem i64_range (n : Int) (h : (Lit.int .i64 n).wf = true) : -9223372036854775808 ≤ n ∧ n ≤ 9223372036854775807 := by
  exact bounds_i64 h
theorem text_size (l : List UInt8) : (⟨l.toArray⟩ : ByteArray).size = l.length := rfl
theorem unsig_pos (n : Int) (h0 : 0 ≤ n) (h1 : n ≤ 9223372036854775808) : (unsig n : Int) = n := by
  rw [← unsig_cast, IntKind.wrap_u64]; omega
/-- What is written is read back. -/
theorem back_any (n b : Int) (w : World) (hn : (Lit.int .i64 n).wf = true) (h2 : 2 ≤ b) (h36 : b ≤ 36) :
    Calls Tryd.prog 12 #[.string (intText n b), .int .i64 b] w fun e w' => e = .returned (.agg #[.int .i64 0, .int .i64 n]) ∧ Below w.heap.size w w' := by
  obtain ⟨hlo, hhi⟩ := i64_range n hn
  obtain ⟨c, rfl⟩ := Int.eq_ofNat_of_zero_le (show 0 ≤ b by omega)
  by_cases hneg : n < 0
  · rw [intText_neg n c ⟨h2, h36⟩ hneg, Int.toNat_natCast, push_front]
    have hl := textOf_length c (unsig (-n))
    have hv := text_val c (unsig (-n)) (by omega) (by omega) (unsig_lt _)
    rw [unsig_pos (-n) (by omega) (by omega)] at hv
    have hg := text_good c (unsig (-n)) (by omega) (by omega)
    refine (implRead_any _ c w (by rw [text_size]; simp; omega) h2 h36 true _ (cut_minus (textOf c (unsig (-n))))).mono ?_
    rintro e w' ⟨k, m, hr, rfl, hb⟩
    obtain ⟨rfl, rfl⟩ := readV_one c true _ _ _ 0 n hr (.inr (.inr ⟨text_ne _ _, hg, by rw [lim_true]; show val c (textOf c _) ≤ _; omega, rfl, by rw [if_pos rfl]; show n = - val c (textOf c _); omega⟩))
    exact ⟨rfl, hb⟩
  · rw [intText_pos n c ⟨h2, h36⟩ hneg, Int.toNat_natCast]
    have hl := textOf_length c (unsig n)
    have hv := text_val c (unsig n) (by omega) (by omega) (unsig_lt _)
    rw [unsig_pos n (by omega) (by omega)] at hv
    have hg := text_good c (unsig n) (by omega) (by omega)
    refine (implRead_any _ c w (by show (textOf c (unsig n)).length ≤ 1200; omega) h2 h36 false _ (cut_bare c _ h36 hg (text_ne _ _))).mono ?_
    rintro e w' ⟨k, m, hr, rfl, hb⟩
    obtain ⟨rfl, rfl⟩ := readV_one c false _ _ _ 0 n hr (.inr (.inr ⟨text_ne _ _, hg, by rw [lim_false]; show val c (textOf c _) ≤ _; omega, rfl, by rw [if_neg (by decide)]; exact hv.symm⟩))
    exact ⟨rfl, hb⟩
theorem plus_any (n b : Int) (w : World) (hn : (Lit.int .i64 n).wf = true) (h0 : 0 ≤ n) (h2 : 2 ≤ b) (h36 : b ≤ 36) :
    Calls Tryd.prog 12 #[.string (⟨#[43, 48, 48]⟩ ++ intText n b), .int .i64 b] w fun e w' => e = .returned (.agg #[.int .i64 0, .int .i64 n]) ∧ Below w.heap.size w w' := by
  obtain ⟨hlo, hhi⟩ := i64_range n hn
  obtain ⟨c, rfl⟩ := Int.eq_ofNat_of_zero_le (show 0 ≤ b by omega)
  have e3 : ∀ l : List UInt8, (⟨#[43, 48, 48]⟩ : ByteArray) ++ ⟨l.toArray⟩ = ⟨(43 :: 48 :: 48 :: l).toArray⟩ := fun l => by
    apply ByteArray.ext; rw [ByteArray.data_append]; simp
  rw [intText_pos n c ⟨h2, h36⟩ (by omega), Int.toNat_natCast, e3]
  have hl := textOf_length c (unsig n)
  have hv := text_val c (unsig n) (by omega) (by omega) (unsig_lt _)
  rw [unsig_pos n (by omega) (by omega)] at hv
  have hg := text_good c (unsig n) (by omega) (by omega)
  refine (implRead_any _ c w (by rw [text_size]; simp; omega) h2 h36 false _ (cut_plus (48 :: 48 :: textOf c (unsig n)))).mono ?_
  rintro e w' ⟨k, m, hr, rfl, hb⟩
  obtain ⟨rfl, rfl⟩ := readV_one c false _ _ _ 0 n hr (.inr (.inr ⟨by simp, zeros_good c _ h2 hg, by rw [lim_false]; show val c (48 :: 48 :: textOf c _) ≤ _; rw [zeros_val]; omega, rfl, by rw [if_neg (by decide)]; show n = val c (48 :: 48 :: textOf c _); rw [zeros_val]; exact hv.symm⟩))
  exact ⟨rfl, hb⟩

theorem intText_size (n b : Int) : (intText n b).size ≤ 100 := by
  unfold intText
  split
  · split
    · rw [push_front, text_size]
      have := textOf_length b.toNat (unsig (-n))
      simp
      omega
    · rw [text_size]
      have := textOf_length b.toNat (unsig n)
      omega
  · show (0 : Nat) ≤ 100
    omega
theorem wrap64_more (x m : Int) : wrap64 (x + 18446744073709551616 * m) = wrap64 x := by unfold wrap64; omega
theorem wrap64_add (x y : Int) : wrap64 (wrap64 x + y) = wrap64 (x + y) := by unfold wrap64; omega
theorem wrap64_right (x y : Int) : wrap64 (x + wrap64 y) = wrap64 (x + y) := by unfold wrap64; omega
theorem wrap64_less (x : Int) : wrap64 (wrap64 x - 1) = wrap64 (x - 1) := by unfold wrap64; omega
theorem wrap64_prod (x y z : Int) : wrap64 (wrap64 x * y + z) = wrap64 (x * y + z) := by
  obtain ⟨k, hk⟩ : ∃ k, wrap64 x = x + 18446744073709551616 * k := ⟨-((x + 9223372036854775808) / 18446744073709551616), by unfold wrap64; omega⟩
  rw [hk, Int.add_mul, Int.mul_assoc, show x * y + 18446744073709551616 * (k * y) + z = x * y + z + 18446744073709551616 * (k * y) by omega, wrap64_more]
theorem wrap64_self (n : Int) (h : (Lit.int .i64 n).wf = true) : wrap64 n = n := by
  obtain ⟨hlo, hhi⟩ := i64_range n h
  unfold wrap64; omega
/-- The division's facts. -/
theorem div_facts (n d : Int) (hn : (Lit.int .i64 n).wf = true) (hd : (Lit.int .i64 d).wf = true) (h0 : ¬ d = 0) : ∃ q r : Int,
    divCells n d = #[.int .i64 0, .int .i64 q, .int .i64 r] ∧ wrap64 (wrap64 (q * d) + r) = n ∧ (0 < d → 0 ≤ r ∧ r < d) ∧ (d < 0 → r ≤ 0 ∧ d < r) := by
  obtain ⟨dlo, dhi⟩ := i64_range d hd
  have hqr := Int.mul_tdiv_add_tmod n d
  have hlt : (n.tmod d).natAbs < d.natAbs := by
    rw [Int.natAbs_tmod]; exact Nat.mod_lt _ (by omega)
  have hmul : d * n.tdiv d = n.tdiv d * d := Int.mul_comm _ _
  by_cases hr : n.tmod d = 0
  · refine ⟨_, _, divCells_even n d h0 hr, ?_, fun h => by omega, fun h => by omega⟩
    rw [wrap64_add, wrap64_prod, show n.tdiv d * d + 0 = n by omega, wrap64_self n hn]
  · cases hs : (!(decide (n.tmod d < 0) == decide (d < 0)))
    · refine ⟨_, _, divCells_same n d h0 hr hs, ?_, fun h => ?_, fun h => ?_⟩
      · rw [wrap64_add, wrap64_prod, show n.tdiv d * d + n.tmod d = n by omega, wrap64_self n hn]
      · simp at hs
        omega
      · simp at hs
        omega
    · refine ⟨_, _, divCells_turn n d h0 hr hs, ?_, fun h => ?_, fun h => ?_⟩
      · rw [wrap64_add, wrap64_right, wrap64_less, wrap64_prod, Int.sub_mul, Int.one_mul, show n.tdiv d * d - d + (n.tmod d + d) = n by omega, wrap64_self n hn]
      · simp at hs
        have : wrap64 (n.tmod d + d) = n.tmod d + d := by unfold wrap64; omega
        omega
      · simp at hs
        have : wrap64 (n.tmod d + d) = n.tmod d + d := by unfold wrap64; omega
        omega
end Go.Proofs.YtpldpgdjdplbgaaDoor
