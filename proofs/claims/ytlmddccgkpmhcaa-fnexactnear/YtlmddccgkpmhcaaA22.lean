import Derived.Test.YtlmddccgkpmhcaaA09
import Derived.Laws.MathBits
/- bits.Len64: the number of digits. -/
namespace Go.Proofs.Ytlmddccgkpmhcaa
open Go.ChangeShapes Go.WideShapes Go.RowKit
open Ieee (double)

theorem len_close (x y : Int) (k b : Nat) (hk : k ≤ 56) (hy : y.toNat = x.toNat / 2 ^ k) (h256 : y.toNat < 256) (hp : k = 0 ∨ 0 < y) (hb : b = bitLen y.toNat) : wrap64 ((k : Int) + wrap64 (b : Int)) = (bitLen x.toNat : Int) := by
  have h8 := bitLen_le8 y.toNat h256
  have e : bitLen x.toNat = k + bitLen y.toNat := by
    rcases hp with rfl | hp
    · rw [hy, Nat.pow_zero, Nat.div_one, Nat.zero_add]
    · rw [hy]; exact bitLen_shift x.toNat k (by omega)
  rw [e, hb]
  generalize bitLen y.toNat = L at *
  unfold wrap64
  omega
theorem len_zero (x : Int) (b : Nat) (h256 : x.toNat < 256) (hb : b = bitLen x.toNat) : wrap64 (b : Int) = (bitLen x.toNat : Int) := by
  have h8 := bitLen_le8 x.toNat h256
  rw [hb]; unfold wrap64; omega
theorem len_zero' (x : Int) (b : Nat) (h256 : x.toNat < 256) (hb : b = bitLen x.toNat) : wrap64 (wrap64 (b : Int)) = (bitLen x.toNat : Int) := by
  have h8 := bitLen_le8 x.toNat h256
  rw [hb]; unfold wrap64; omega
set_option maxHeartbeats 1000000 in
set_option maxRecDepth 100000 in
theorem len64_any (x : Int) (h0 : 0 ≤ x) (h1 : x < 18446744073709551616) (w : World) :
    Calls Try.prog 11 #[.int .u64 x] w fun e w' => e = .returned (.int .i64 (bitLen x.toNat)) ∧ w' = w := by
  go_enter Try.func11, Try.ntmps11
  go_wp2
  all_goals go_ret
  all_goals refine ⟨congrArg (fun t => Ending.returned (.int .i64 t)) ?_, rfl⟩
  · exact len_close x (x / 4294967296 / 65536 / 256) 56 _ (by omega) (by omega) (by omega) (by omega) (len8tab_get _ _)
  · exact len_close x (x / 4294967296 / 65536) 48 _ (by omega) (by omega) (by omega) (by omega) (len8tab_get _ _)
  · exact len_close x (x / 4294967296 / 256) 40 _ (by omega) (by omega) (by omega) (by omega) (len8tab_get _ _)
  · exact len_close x (x / 4294967296) 32 _ (by omega) (by omega) (by omega) (by omega) (len8tab_get _ _)
  · exact len_close x (x / 65536 / 256) 24 _ (by omega) (by omega) (by omega) (by omega) (len8tab_get _ _)
  · exact len_close x (x / 65536) 16 _ (by omega) (by omega) (by omega) (by omega) (len8tab_get _ _)
  · exact len_close x (x / 256) 8 _ (by omega) (by omega) (by omega) (by omega) (len8tab_get _ _)
  · first | exact len_zero x _ (by omega) (len8tab_get _ _) | exact len_zero' x _ (by omega) (len8tab_get _ _)
end Go.Proofs.Ytlmddccgkpmhcaa

