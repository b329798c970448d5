/- ReadInt of the program. -/
import Derived.Test.YtpldpgdjdplbgaaDoorReadC
import Derived.Test.YtpldpgdjdplbgaaDoorBase
namespace Go.Proofs.YtpldpgdjdplbgaaDoor
open Go.ChangeShapes Go.WideShapes Go.RowKit

set_option maxHeartbeats 400000 in
theorem cutSign_any (s : ByteArray) (w : World) (hs : s.size ≤ 1200) (neg : Bool) (r : ByteArray) (hc : Cut s neg r) :
    Calls Tryd.prog 20 #[.string s] w fun e w' => e = .returned (.tuple #[.bool neg, .string r]) ∧ ∃ n, w' = w.drewN n := by
  rcases hc with ⟨hz, rfl, rfl⟩ | ⟨hz, h45, rfl, rfl⟩ | ⟨hz, h43, rfl, rfl⟩ | ⟨hz, h45, h43, rfl, rfl⟩
  · have he := isEmpty_yes r hz
    clear hz
    go_enter Tryd.func20, Tryd.ntmps20
    go_wp2
    go_ret2
    exact ⟨rfl, 0, rfl⟩
  · have he := isEmpty_no s (by omega)
    have e1 : ((s[0].toNat : Int) != 45) = false := by simp [h45]
    have e3 : ((s[0].toNat : Int) == 45) = true := by simp [h45]
    clear h45
    go_enter Tryd.func20, Tryd.ntmps20
    go_wp2
    go_quiet (fail)
    go_wp2
    go_ret2
    exact ⟨rfl, _, rfl⟩
  · have he := isEmpty_no s (by omega)
    have e1 : ((s[0].toNat : Int) != 45) = true := by simp [h43]
    have e2 : ((s[0].toNat : Int) != 43) = false := by simp [h43]
    have e3 : ((s[0].toNat : Int) == 45) = false := by simp [h43]
    clear h43
    go_enter Tryd.func20, Tryd.ntmps20
    go_wp2
    go_quiet (fail)
    go_wp2
    go_ret2
    exact ⟨rfl, _, rfl⟩
  · have he := isEmpty_no r (by omega)
    have e1 : ((r[0].toNat : Int) != 45) = true := bne_iff_ne.2 (by omega)
    have e2 : ((r[0].toNat : Int) != 43) = true := bne_iff_ne.2 (by omega)
    clear h45 h43
    go_enter Tryd.func20, Tryd.ntmps20
    go_wp2
    go_ret2
    exact ⟨rfl, 0, rfl⟩
set_option maxHeartbeats 400000 in
theorem implRead_bad (s : ByteArray) (b : Int) (w : World) (hs : s.size ≤ 1048576) (h : b < 2 ∨ 36 < b ∨ 1200 < s.size) :
    Calls Tryd.prog 12 #[.string s, .int .i64 b] w fun e w' => e = .returned (.agg #[.int .i64 1, .int .i64 0]) ∧ Below w.heap.size w w' := by
  have HB : Hid _ := isBase_any b
  by_cases h1 : b < 2 ∨ 36 < b
  · rw [isB_no b h1] at HB
    clear h1 h
    go_enter Tryd.func12, Tryd.ntmps12
    go_wp2_with (go_at_call 17; refine (HB.out _).mono ?_; rintro e w' ⟨rfl, rfl⟩)
    exact bodyPost_ret (v := .agg #[.int .i64 1, .int .i64 0]) (by simp [results, Tryd.results12, go_sem]) rfl ⟨rfl, (Below.refl _ _).alloc (Nat.le_refl _) _⟩
  · have h3 : 1200 < s.size := by omega
    rw [isB_yes b (by omega) (by omega)] at HB
    clear h1 h
    go_enter Tryd.func12, Tryd.ntmps12
    go_wp2_with (go_at_call 17; refine (HB.out _).mono ?_; rintro e w' ⟨rfl, rfl⟩)
    exact bodyPost_ret (v := .agg #[.int .i64 1, .int .i64 0]) (by simp [results, Tryd.results12, go_sem]) rfl ⟨rfl, (Below.refl _ _).alloc (Nat.le_refl _) _⟩
end Go.Proofs.YtpldpgdjdplbgaaDoor
