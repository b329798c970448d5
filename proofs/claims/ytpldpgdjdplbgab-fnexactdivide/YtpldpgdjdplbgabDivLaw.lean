import Derived.Test.YtpldpgdjdplbgabDivWalks
namespace Go.Proofs.Ytpldpgdjdplbgab
open Go.ChangeShapes Go.WideShapes Go.RowKit

set_option maxHeartbeats 400000 in
theorem lawDiv_any (a b : Int) (w : World) :
    Calls Try.prog 3 #[.int .i64 a, .int .i64 b] w fun e w' => e = .returned (.bool true) ∧ Below w.heap.size w w' := by
  obtain ⟨c, q, r, hd⟩ : ∃ c q r : Int, divCells a b = #[.int .i64 c, .int .i64 q, .int .i64 r] := ⟨_, _, _, rfl⟩
  have s5 := specDiv_any a b
  have s6 := implDiv_any a b
  rw [hd] at s5 s6
  have S5 : Hid _ := s5
  have S6 : Hid _ := s6
  clear s5 s6 hd
  go_enter Try.func3, Try.ntmps3
  go_wp2_with fail
  refine (S5.out _).mono ?_
  rintro e w1 ⟨rfl, hb1⟩
  go_wp2_with fail
  refine (S6.out _).mono ?_
  rintro e w2 ⟨rfl, hb2⟩
  obtain ⟨hc, hf⟩ := bcell hb2
  have hz : w1.heap.size < w2.heap.size := by have := hb2.size; simp at this; omega
  have H1 : Hid _ := hb1
  have H2 : Hid _ := hb2
  clear hb1 hb2 S5 S6
  go_wp2_with fail
  refine (eqDiv_same c q r _).mono ?_
  rintro e w3 ⟨rfl, hb3⟩
  have H3 : Hid _ := hb3
  clear hb3
  go_wp2
  go_ret
  refine ⟨rfl, ?_⟩
  refine H1.out.trans ?_
  refine Below.trans (b := w1.alloc (.cells #[.int .i64 c, .int .i64 q, .int .i64 r] 23)) ((Below.refl _ _).alloc H1.out.size _) ?_
  refine (H2.out.mono (by have := H1.out.size; simp; omega)).trans ?_
  refine Below.trans (b := w2.alloc (.cells #[.int .i64 c, .int .i64 q, .int .i64 r] 23)) ((Below.refl _ _).alloc (by have := H1.out.size; omega) _) ?_
  exact H3.out.mono (by have := H1.out.size; simp; omega)
end Go.Proofs.Ytpldpgdjdplbgab
