/- ReadInt of the program. -/
import Derived.Test.YtpldpgdjdplbgaaReadE
namespace Go.Proofs.Ytpldpgdjdplbgaa
open Go.ChangeShapes Go.WideShapes Go.RowKit

/-- Is it a base? (no abbreviation: the walk shall not open it) -/
def isB (b : Int) : Bool := decide (2 ≤ b ∧ b ≤ 36)
theorem isB_yes (b : Int) (h2 : 2 ≤ b) (h36 : b ≤ 36) : isB b = true := decide_eq_true ⟨h2, h36⟩
theorem isB_no (b : Int) (h : b < 2 ∨ 36 < b) : isB b = false := decide_eq_false (by omega)

set_option maxHeartbeats 400000 in
theorem isBase_any (b : Int) (w : World) :
    Calls Try.prog 9 #[.int .i64 b] w fun e w' => e = .returned (.bool (isB b)) ∧ w' = w := by
  by_cases h1 : 2 ≤ b
  · by_cases h2 : b ≤ 36
    · rw [isB_yes b h1 h2]
      go_enter Try.func9, Try.ntmps9
      go_wp2
      go_ret
      exact ⟨by simp, rfl⟩
    · rw [isB_no b (by omega)]
      go_enter Try.func9, Try.ntmps9
      go_wp2
      go_ret
      exact ⟨by simp, rfl⟩
  · rw [isB_no b (by omega)]
    go_enter Try.func9, Try.ntmps9
    go_wp2
    go_ret
    exact ⟨by simp, rfl⟩

set_option maxHeartbeats 400000 in
theorem cutSign_any (s : ByteArray) (w : World) (hs : s.size ≤ 1200) (neg : Bool) (r : ByteArray) (hc : Cut s neg r) :
    Calls Try.prog 10 #[.string s] w fun e w' => e = .returned (.tuple #[.bool neg, .string r]) ∧ ∃ n, w' = w.drewN n := by
  rcases hc with ⟨hz, rfl, rfl⟩ | ⟨hz, h45, rfl, rfl⟩ | ⟨hz, h43, rfl, rfl⟩ | ⟨hz, h45, h43, rfl, rfl⟩
  · have he := isEmpty_yes r hz
    clear hz
    go_enter Try.func10, Try.ntmps10
    go_wp2
    go_ret2
    exact ⟨rfl, 0, rfl⟩
  · have he := isEmpty_no s (by omega)
    have e1 : ((s[0].toNat : Int) != 45) = false := by simp [h45]
    have e3 : ((s[0].toNat : Int) == 45) = true := by simp [h45]
    clear h45
    go_enter Try.func10, Try.ntmps10
    go_wp2
    go_quiet (fail)
    go_wp2
    go_ret2
    exact ⟨rfl, _, rfl⟩
  · have he := isEmpty_no s (by omega)
    have e1 : ((s[0].toNat : Int) != 45) = true := by simp [h43]
    have e2 : ((s[0].toNat : Int) != 43) = false := by simp [h43]
    have e3 : ((s[0].toNat : Int) == 45) = false := by simp [h43]
    clear h43
    go_enter Try.func10, Try.ntmps10
    go_wp2
    go_quiet (fail)
    go_wp2
    go_ret2
    exact ⟨rfl, _, rfl⟩
  · have he := isEmpty_no r (by omega)
    have e1 : ((r[0].toNat : Int) != 45) = true := bne_iff_ne.2 (by omega)
    have e2 : ((r[0].toNat : Int) != 43) = true := bne_iff_ne.2 (by omega)
    clear h45 h43
    go_enter Try.func10, Try.ntmps10
    go_wp2
    go_ret2
    exact ⟨rfl, 0, rfl⟩
theorem cut_exists (s : ByteArray) : ∃ neg r, Cut s neg r := by
  by_cases hz : s.size = 0
  · exact ⟨false, s, .inl ⟨hz, rfl, rfl⟩⟩
  · have hp : 0 < s.size := by omega
    by_cases h45 : s[0].toNat = 45
    · exact ⟨true, _, .inr (.inl ⟨hp, h45, rfl, rfl⟩)⟩
    · by_cases h43 : s[0].toNat = 43
      · exact ⟨false, _, .inr (.inr (.inl ⟨hp, h43, rfl, rfl⟩))⟩
      · exact ⟨false, s, .inr (.inr (.inr ⟨hp, h45, h43, rfl, rfl⟩))⟩
theorem cut_size (s : ByteArray) (neg : Bool) (r : ByteArray) (hs : s.size ≤ 1200) (hc : Cut s neg r) : r.size ≤ 1200 := by
  rcases hc with ⟨_, _, rfl⟩ | ⟨_, _, _, rfl⟩ | ⟨_, _, _, rfl⟩ | ⟨_, _, _, _, rfl⟩
  · exact hs
  · exact extract_size s hs
  · exact extract_size s hs
  · exact hs

set_option maxHeartbeats 400000 in
theorem implRead_bad (s : ByteArray) (b : Int) (w : World) (hs : s.size ≤ 1048576) (h : b < 2 ∨ 36 < b ∨ 1200 < s.size) :
    Calls Try.prog 5 #[.string s, .int .i64 b] w fun e w' => e = .returned (.agg #[.int .i64 1, .int .i64 0]) ∧ Below w.heap.size w w' := by
  have HB : Hid _ := isBase_any b
  by_cases h1 : b < 2 ∨ 36 < b
  · rw [isB_no b h1] at HB
    clear h1 h
    go_enter Try.func5, Try.ntmps5
    go_wp2_with (go_at_call 9; refine (HB.out _).mono ?_; rintro e w' ⟨rfl, rfl⟩)
    exact bodyPost_ret (v := .agg #[.int .i64 1, .int .i64 0]) (by simp [results, Try.results5, go_sem]) rfl ⟨rfl, (Below.refl _ _).alloc (Nat.le_refl _) _⟩
  · have h3 : 1200 < s.size := by omega
    rw [isB_yes b (by omega) (by omega)] at HB
    clear h1 h
    go_enter Try.func5, Try.ntmps5
    go_wp2_with (go_at_call 9; refine (HB.out _).mono ?_; rintro e w' ⟨rfl, rfl⟩)
    exact bodyPost_ret (v := .agg #[.int .i64 1, .int .i64 0]) (by simp [results, Try.results5, go_sem]) rfl ⟨rfl, (Below.refl _ _).alloc (Nat.le_refl _) _⟩
end Go.Proofs.Ytpldpgdjdplbgaa
