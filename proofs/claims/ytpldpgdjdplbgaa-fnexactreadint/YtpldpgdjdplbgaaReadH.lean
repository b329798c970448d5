/- The law on ReadInt. -/
import Derived.Test.YtpldpgdjdplbgaaReadG
namespace Go.Proofs.Ytpldpgdjdplbgaa
open Go.ChangeShapes Go.WideShapes Go.RowKit

set_option maxHeartbeats 400000 in
theorem eqWhole_same (c n : Int) (w : World) :
    Calls Try.prog 6 #[.agg #[.int .i64 c, .int .i64 n], .agg #[.int .i64 c, .int .i64 n]] w fun e w' => e = .returned (.bool true) ∧ Below w.heap.size w w' := by
  go_enter Try.func6, Try.ntmps6
  go_wp2
  go_ret
  exact ⟨rfl, (by repeat (first | exact Below.refl _ _ | refine below_drewN ?_ _ | refine Below.setCell ?_ (by simp) _ | refine Below.alloc ?_ (by simp) _))⟩

theorem bcell {W w1 : World} (hb : Below W.heap.size W w1) : (∀ b o, b < W.heap.size → w1.cell? ⟨b, o, none⟩ = W.cell? ⟨b, o, none⟩) ∧ (∀ b o, b < W.heap.size → w1.frozen? ⟨b, o, none⟩ = W.frozen? ⟨b, o, none⟩) :=
  ⟨fun b o h => hb.cell (p := ⟨b, o, none⟩) h, fun b o h => hb.frozen (p := ⟨b, o, none⟩) h⟩

set_option maxHeartbeats 400000 in
theorem lawRead_any (s : ByteArray) (b : Int) (h : s.size ≤ maxLen) (w : World) :
    Calls Try.prog 3 #[.string s, .int .i64 b] w fun e w' => e = .returned (.bool true) ∧ Below w.heap.size w w' := by
  unfold maxLen at h
  by_cases hs : 1048576 < s.size
  · go_enter Try.func3, Try.ntmps3
    go_wp2
    go_ret
    exact ⟨rfl, Below.refl _ _⟩
  · obtain ⟨c, n, s4, s5⟩ := read_both s b (by omega)
    have S4 : Hid _ := s4
    have S5 : Hid _ := s5
    clear s4 s5
    go_enter Try.func3, Try.ntmps3
    go_wp2_with fail
    refine (S4.out _).mono ?_
    rintro e w1 ⟨rfl, hb1⟩
    go_wp2_with fail
    refine (S5.out _).mono ?_
    rintro e w2 ⟨rfl, hb2⟩
    obtain ⟨hc, hf⟩ := bcell hb2
    have hz : w1.heap.size < w2.heap.size := by have := hb2.size; simp at this; omega
    have H1 : Hid _ := hb1
    have H2 : Hid _ := hb2
    clear hb1 hb2 S4 S5
    go_wp2_with fail
    refine (eqWhole_same c n _).mono ?_
    rintro e w3 ⟨rfl, hb3⟩
    have H3 : Hid _ := hb3
    clear hb3
    go_wp2
    go_ret
    refine ⟨rfl, ?_⟩
    refine H1.out.trans ?_
    refine Below.trans (b := w1.alloc (.cells #[.int .i64 c, .int .i64 n] 23)) ((Below.refl _ _).alloc H1.out.size _) ?_
    refine (H2.out.mono (by have := H1.out.size; simp; omega)).trans ?_
    refine Below.trans (b := w2.alloc (.cells #[.int .i64 c, .int .i64 n] 23)) ((Below.refl _ _).alloc (by have := H1.out.size; omega) _) ?_
    exact H3.out.mono (by have := H1.out.size; simp; omega)
end Go.Proofs.Ytpldpgdjdplbgaa
