/- The specification's reader of digits: the number that they tell, or that it passes 2^64. -/
import Derived.Test.YtpldpgdjdplbgaaReadA
namespace Go.Proofs.Ytpldpgdjdplbgaa
open Go.ChangeShapes Go.WideShapes Go.RowKit

/-- What the specification's reader of digits answers. -/
def wholeV (b : Int) (l : List UInt8) : Value := if 18446744073709551615 < val b l then .tuple #[.int .u64 0, .bool false] else .tuple #[.int .u64 (val b l), .bool true]
theorem wholeV_over (b : Int) (l : List UInt8) (h : 18446744073709551615 < val b l) : wholeV b l = .tuple #[.int .u64 0, .bool false] := by unfold wholeV; rw [if_pos h]
theorem wholeV_fits (b : Int) (l : List UInt8) (h : val b l ≤ 18446744073709551615) : wholeV b l = .tuple #[.int .u64 (val b l), .bool true] := by unfold wholeV; rw [if_neg (by omega)]
theorem take_all (s : ByteArray) (k : Nat) (h : s.size ≤ k) : s.data.toList.take k = s.data.toList := List.take_of_length_le (by simpa using h)
theorem wrap_under (p d : Int) (h0 : 0 ≤ p) (h1 : p ≤ 18446744073709551615) (h2 : 18446744073709551615 < p + d) (h3 : d < 1000) : IntKind.u64.wrap (p + d) < p := by
  rw [IntKind.wrap_u64]; omega

set_option maxHeartbeats 400000 in
theorem specWhole_any (s : ByteArray) (b : Int) (w : World) (hs : s.size ≤ 1200) (hn : 0 < s.size) (h2 : 2 ≤ b) (h36 : b ≤ 36) (hg : good b s.data.toList) :
    Calls Try.prog 8 #[.string s, .int .i64 b] w fun e w' => e = .returned (wholeV b s.data.toList) ∧ w' = w := by
  have HG : Hid _ := hg
  clear hg
  go_enter Try.func8, Try.ntmps8
  go_wp2
  go_loop [6, 7] (fun n i => ∃ k : Nat, k ≤ s.size ∧ i = .int .i64 k ∧ n = .int .u64 (val b (s.data.toList.take k)) ∧ val b (s.data.toList.take k) ≤ 18446744073709551615) (fun _ i => s.size - (intOf i).toNat)
  case atStart => exact ⟨0, Nat.zero_le _, rfl, rfl, by simp [val]⟩
  case round =>
    obtain ⟨k, hk, rfl, rfl, hv⟩ := hrel
    have hv0 := val_nonneg b (by omega) (s.data.toList.take k)
    by_cases hlt : k < s.size
    · have HS : Hid _ := val_step b s k hlt
      have HC : Hid _ := specDigit_byte s[k]
      have hd := good_at b s HG.out k hlt
      have hd0 := digN_lo 99 (s[k].toNat : Int) (by omega)
      have HP : Hid _ := passes0 (val b (s.data.toList.take k)) b 18446744073709551615 (by omega)
      have HT : Hid _ := val_take b (by omega) s.data.toList (k + 1)
      generalize val b (s.data.toList.take k) = N at *
      generalize digN 99 (s[k].toNat : Int) = D at *
      have hm0 : 0 ≤ N * b := Int.mul_nonneg hv0 (by omega)
      by_cases hfit : N * b + D ≤ 18446744073709551615
      · have hq : N ≤ 18446744073709551615 / b := by have := HP.out; omega
        go_wp2_with (go_at_call 7; refine (HC.out _).mono ?_; rintro e w' ⟨rfl, rfl⟩)
        exact ⟨⟨k + 1, by omega, by go_num, by rw [HS.out], by rw [HS.out]; exact hfit⟩, by simp [intOf]; omega⟩
      · have HF : Hid _ := wholeV_over b s.data.toList (by have := HT.out; have := HS.out; omega)
        by_cases hq : 18446744073709551615 / b < N
        · go_wp2_with (go_at_call 7; refine (HC.out _).mono ?_; rintro e w' ⟨rfl, rfl⟩)
          go_ret2
          exact ⟨by rw [HF.out]; rfl, rfl⟩
        · have hm1 : N * b ≤ 18446744073709551615 := by have := HP.out; omega
          have hwr := wrap_under (N * b) D hm0 hm1 (by omega) (by omega)
          go_wp2_with (go_at_call 7; refine (HC.out _).mono ?_; rintro e w' ⟨rfl, rfl⟩)
          go_ret2
          exact ⟨by rw [HF.out]; rfl, rfl⟩
    · have ht := take_all s k (by omega)
      rw [ht] at hv hv0 ⊢
      have HF : Hid _ := wholeV_fits b s.data.toList hv
      clear ht
      go_wp2
      go_ret2
      exact ⟨by rw [HF.out]; rfl, rfl⟩
end Go.Proofs.Ytpldpgdjdplbgaa
