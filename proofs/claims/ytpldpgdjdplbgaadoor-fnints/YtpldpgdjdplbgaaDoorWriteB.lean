import Derived.Test.YtpldpgdjdplbgaaDoorRows
import Derived.Test.YtpldpgdjdplbgaaDoorWriteA
import Derived.WalkKit
import Derived.WalkSpells
import Derived.WalkLawsBesides
import Derived.Outline
import Derived.BigQuiet
import Derived.Deep.QuietTactic
namespace Go.Proofs.YtpldpgdjdplbgaaDoor
open Go.ChangeShapes Go.WideShapes Go.RowKit

set_option maxHeartbeats 400000 in
theorem specDigits_any (n b : Nat) (w : World) (hn : n < 18446744073709551616) (h2 : 2 ≤ b) (h36 : b ≤ 36) :
    Calls Tryd.prog 19 #[.int .u64 n, .int .i64 b] w fun e w' => e = .returned (.string ⟨(textOf b n).toArray⟩) ∧ w' = w := by
  by_cases hz : n = 0
  · subst hz
    rw [textOf_zero b]
    go_enter Tryd.func19, Tryd.ntmps19
    go_wp2
    go_ret
    exact ⟨rfl, rfl⟩
  · have hb : ((n : Int) == 0) = false := beq_eq_false_iff_ne.2 (by omega)
    go_enter Tryd.func19, Tryd.ntmps19
    go_wp2
    go_loop [0, 6] (fun t o => ∃ (m f : Nat) (acc : List UInt8), t = .int .u64 m ∧ o = .string ⟨acc.toArray⟩ ∧ m < 18446744073709551616 ∧ Hid (m < 2 ^ f) ∧ Hid (wr f b m acc = wr 64 b n []) ∧ acc.length + f = 64) (fun t _ => (intOf t).toNat)
    case atStart => exact ⟨n, 64, [], rfl, rfl, hn, by show n < 2 ^ 64; omega, rfl, rfl⟩
    case round =>
      obtain ⟨m, f, acc, rfl, rfl, hm, HF, HW, hl⟩ := hrel
      by_cases hlt : 0 < m
      · obtain ⟨g, rfl, hg⟩ := wr_step f b m acc hlt HF.out
        have HG : Hid (m / b < 2 ^ g) := wr_bound g b m h2 HF.out
        have HW2 : Hid (wr g b (m / b) (dch (m % b) :: acc) = wr 64 b n []) := hg.symm.trans HW.out
        have HX : Hid _ := digitText_at (m % b) (Nat.lt_of_lt_of_le (Nat.mod_lt m (by omega)) h36)
        have hr0 := mod_lo m b
        have hr1 := mod_hi m b h2 h36
        have hq0 := div_lo m b
        have hq1 := div_hi m b
        clear hg
        go_wp2
        have e := HX.out
        unfold digitText at e
        rw [e, push_front, ← Int.natCast_ediv]
        have hless := div_less m b hlt h2
        exact ⟨⟨m / b, g, _, rfl, rfl, by omega, HG, HW2, by simp; omega⟩, by show Int.toNat ((m / b : Nat) : Int) < Int.toNat (m : Int); rw [Int.toNat_natCast, Int.toNat_natCast]; exact hless⟩
      · have HE : Hid (textOf b n = acc) := by
          have h0 : m = 0 := by omega
          have := HW.out
          rw [h0, wr_zero] at this
          exact (textOf_pos b n (by omega)).symm.trans this.symm
        go_wp2
        go_ret
        exact ⟨by rw [HE.out]; rfl, rfl⟩
end Go.Proofs.YtpldpgdjdplbgaaDoor
