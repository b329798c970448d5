import Derived.Test.YtcbhcdaedchmlaaDoorA07
import Derived.Test.YtcbhcdaedchmlaaDoorA04
import Derived.Laws.MathBits
/- A size at its place, as the program lays it. -/
namespace Go.Proofs.YtcbhcdaedchmlaaDoor
open Go.ChangeShapes Go.WideShapes Go.RowKit
open Ieee (double)

set_option maxHeartbeats 400000 in
theorem place_any (s : Bool) (k : Nat) (L : Int) (hk : k ≤ 9007199254740992) (h1 : -1074 ≤ L) (h2 : L ≤ 971) (w : World) :
    Calls Tryd.prog 15 #[.bool s, .int .u64 (k : Int), .int .i64 L] w fun e w' => e = .returned (.float .f64 (signBit s + ((L + 1074).toNat * 4503599627370496 + k))) ∧ w' = w := by
  obtain ⟨a, ha⟩ : ∃ a : Nat, L = (a : Int) - 1074 := ⟨(L + 1074).toNat, by omega⟩
  subst ha
  rw [show ((a : Int) - 1074 + 1074).toNat = a by omega]
  obtain ⟨A, hA⟩ : ∃ A : Int, A = (a : Int) := ⟨_, rfl⟩
  obtain ⟨K, hK⟩ : ∃ K : Int, K = (k : Int) := ⟨_, rfl⟩
  rw [← hA, ← hK]
  have eV : (A * 4503599627370496 + K).toNat = a * 4503599627370496 + k := by omega
  have HO : Hid (bits .or .u64 (A * 4503599627370496 + K) 9223372036854775808 = 9223372036854775808 + (A * 4503599627370496 + K)) := by
    show _ = _
    have h := or_top (a * 4503599627370496 + k) (by omega)
    rw [show ((a * 4503599627370496 + k : Nat) : Int) = A * 4503599627370496 + K by omega] at h
    rw [h]; omega
  have a0 : 0 ≤ A := by omega
  have a1 : A ≤ 2045 := by omega
  have k0 : 0 ≤ K := by omega
  have k1 : K ≤ 9007199254740992 := by omega
  cases s
  · have hc := call_frombits (A * 4503599627370496 + K)
    rw [eV] at hc
    clear hA hK eV HO hk h1 h2
    go_enter Tryd.func15, Tryd.ntmps15
    go_wp2
    go_ret
    exact ⟨by show Ending.returned (.float .f64 (a * 4503599627370496 + k)) = Ending.returned (.float .f64 (0 + (a * 4503599627370496 + k))); rw [Nat.zero_add], rfl⟩
  · have hc := call_frombits (9223372036854775808 + (A * 4503599627370496 + K))
    rw [show (9223372036854775808 + (A * 4503599627370496 + K)).toNat = 9223372036854775808 + (a * 4503599627370496 + k) by omega] at hc
    have ho := HO.out
    clear hA hK eV HO hk h1 h2
    go_enter Tryd.func15, Tryd.ntmps15
    go_wp2
    go_ret
    exact ⟨rfl, rfl⟩
end Go.Proofs.YtcbhcdaedchmlaaDoor

/- A float's bits as the program lays them: infinity. -/
namespace Go.Proofs.YtcbhcdaedchmlaaDoor
open Go.ChangeShapes Go.WideShapes Go.RowKit
open Ieee (double)

set_option maxHeartbeats 400000 in
theorem infinity_any (s : Bool) (w : World) :
    Calls Tryd.prog 13 #[.bool s] w fun e w' => e = .returned (.agg #[.bool s, .int .u64 2047, .int .u64 0]) ∧ w' = w.alloc (.cells #[.bool s, .int .u64 2047, .int .u64 0] 40) := by
  go_enter Tryd.func13, Tryd.ntmps13
  go_wp2
  exact bodyPost_ret (v := .agg #[.bool s, .int .u64 2047, .int .u64 0]) (by simp [results, Tryd.results13, go_sem]) rfl ⟨rfl, rfl⟩
end Go.Proofs.YtcbhcdaedchmlaaDoor

/- bits.Len64: the number of digits. -/
namespace Go.Proofs.YtcbhcdaedchmlaaDoor
open Go.ChangeShapes Go.WideShapes Go.RowKit
open Ieee (double)

theorem len_close (x y : Int) (k b : Nat) (hk : k ≤ 56) (hy : y.toNat = x.toNat / 2 ^ k) (h256 : y.toNat < 256) (hp : k = 0 ∨ 0 < y) (hb : b = bitLen y.toNat) : wrap64 ((k : Int) + wrap64 (b : Int)) = (bitLen x.toNat : Int) := by
  have h8 := bitLen_le8 y.toNat h256
  have e : bitLen x.toNat = k + bitLen y.toNat := by
    rcases hp with rfl | hp
    · rw [hy, Nat.pow_zero, Nat.div_one, Nat.zero_add]
    · rw [hy]; exact bitLen_shift x.toNat k (by omega)
  rw [e, hb]
  generalize bitLen y.toNat = L at *
  unfold wrap64
  omega
theorem len_zero (x : Int) (b : Nat) (h256 : x.toNat < 256) (hb : b = bitLen x.toNat) : wrap64 (b : Int) = (bitLen x.toNat : Int) := by
  have h8 := bitLen_le8 x.toNat h256
  rw [hb]; unfold wrap64; omega
theorem len_zero' (x : Int) (b : Nat) (h256 : x.toNat < 256) (hb : b = bitLen x.toNat) : wrap64 (wrap64 (b : Int)) = (bitLen x.toNat : Int) := by
  have h8 := bitLen_le8 x.toNat h256
  rw [hb]; unfold wrap64; omega
set_option maxHeartbeats 1000000 in
set_option maxRecDepth 100000 in
theorem len64_any (x : Int) (h0 : 0 ≤ x) (h1 : x < 18446744073709551616) (w : World) :
    Calls Tryd.prog 14 #[.int .u64 x] w fun e w' => e = .returned (.int .i64 (bitLen x.toNat)) ∧ w' = w := by
  go_enter Tryd.func14, Tryd.ntmps14
  go_wp2
  all_goals go_ret
  all_goals refine ⟨congrArg (fun t => Ending.returned (.int .i64 t)) ?_, rfl⟩
  · exact len_close x (x / 4294967296 / 65536 / 256) 56 _ (by omega) (by omega) (by omega) (by omega) (len8tab_get _ _)
  · exact len_close x (x / 4294967296 / 65536) 48 _ (by omega) (by omega) (by omega) (by omega) (len8tab_get _ _)
  · exact len_close x (x / 4294967296 / 256) 40 _ (by omega) (by omega) (by omega) (by omega) (len8tab_get _ _)
  · exact len_close x (x / 4294967296) 32 _ (by omega) (by omega) (by omega) (by omega) (len8tab_get _ _)
  · exact len_close x (x / 65536 / 256) 24 _ (by omega) (by omega) (by omega) (by omega) (len8tab_get _ _)
  · exact len_close x (x / 65536) 16 _ (by omega) (by omega) (by omega) (by omega) (len8tab_get _ _)
  · exact len_close x (x / 256) 8 _ (by omega) (by omega) (by omega) (by omega) (len8tab_get _ _)
  · first | exact len_zero x _ (by omega) (len8tab_get _ _) | exact len_zero' x _ (by omega) (len8tab_get _ _)
end Go.Proofs.YtcbhcdaedchmlaaDoor

