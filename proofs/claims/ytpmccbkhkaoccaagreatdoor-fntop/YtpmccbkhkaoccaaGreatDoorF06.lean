import Derived.Test.YtpmccbkhkaoccaaGreatDoorB08
import Derived.Test.YtpmccbkhkaoccaaGreatDoorB41
import Derived.Test.YtpmccbkhkaoccaaGreatDoorF05
import Derived.Test.YtpmccbkhkaoccaaGreatDoorF03
/- HexOf of the program. -/
namespace Go.Proofs.YtpmccbkhkaoccaaGreatDoor
open Go.ChangeShapes Go.WideShapes Go.RowKit

theorem hex_join (s : Bool) (q E : Int) : sgnB s ++ (⟨#[48, 120]⟩ ++ intText q 16 ++ ⟨#[112]⟩ ++ intText E 10) = hexB s q E := by
  apply bytes_ext
  unfold hexB
  simp only [append_list, List.append_assoc]
/-- What signed answers at a float's parts. -/
theorem hex_signed (x : Nat) (k : Int) (s : Bool) (m e : Int) (hp : partsV x k s m e) : ∃ t, hexV x t ∧ ∀ W, WrG W → Calls Tryz.prog 34 #[.agg #[.int .i64 k, .bool s, .int .i64 m, .int .i64 e], .iface 64 (.agg #[.int .i64 m, .int .i64 e])] W fun r w' => r = .returned (.string t) ∧ Below W.heap.size W w' := by
  have key : ∀ (k : Int), (k = 0 ∨ k = 1) → ∀ W, WrG W → Calls Tryz.prog 34 #[.agg #[.int .i64 k, .bool s, .int .i64 m, .int .i64 e], .iface 64 (.agg #[.int .i64 m, .int .i64 e])] W fun r w' => r = .returned (.string (hexB s m e)) ∧ Below W.heap.size W w' := fun k hk W hW => by
    rw [← hex_join]
    refine signed_hex _ k hk s m e _ ?_ W fun W1 hb => hexWrite_any m e W1 (hW.below hb).2.1 (hW.below hb).2.2.2
    have h1 := hex_size16 m
    have h2 := int_size e
    have e1 : (⟨#[48, 120]⟩ : ByteArray).size = 2 := rfl
    have e2 : (⟨#[112]⟩ : ByteArray).size = 1 := rfl
    rw [append_size, append_size, append_size]
    omega
  rcases hp with ⟨hn, rfl, rfl, rfl, rfl⟩ | ⟨rfl, rfl, rfl, rfl⟩ | ⟨rfl, rfl, rfl, rfl⟩ | ⟨n, p, q, t, hc, h0, rfl, hn, hq, rfl, rfl, rfl⟩
  · exact ⟨_, .inl ⟨hn, rfl⟩, fun W _ => signed_nan _ 0 0 W⟩
  · exact ⟨_, .inr (.inl ⟨s, rfl, rfl⟩), fun W _ => signed_inf _ s 0 0 W⟩
  · exact ⟨_, .inr (.inr (.inl ⟨s, rfl, rfl⟩)), key 0 (.inl rfl)⟩
  · exact ⟨_, .inr (.inr (.inr ⟨s, n, p, q, t, hc, h0, rfl, hn, hq, rfl⟩)), key 1 (.inr rfl)⟩
set_option maxHeartbeats 2000000 in
set_option maxRecDepth 100000 in
theorem implHex_any (x : Nat) (hx : x < 18446744073709551616) (w : World) (hG : WrG w) :
    Calls Tryz.prog 10 #[.float .f64 x] w fun e w' => ∃ t, hexV x t ∧ e = .returned (.string t) ∧ Below w.heap.size w w' := by
  obtain ⟨k, s, m, e, hp⟩ := parts_ex x hx
  obtain ⟨t, ht, hs⟩ := hex_signed x k s m e hp
  have HP : Hid _ := fun (_ : Unit) => implParts_of x hx k s m e hp w hG.1 hG.2.2.1
  have HS : Hid _ := hs
  have HV : Hid (hexV x t) := ht
  have HG : Hid (WrG w) := hG
  clear hp hs ht hG
  go_enter Tryz.func10, Tryz.ntmps10
  go_wp2_with fail
  refine (HP.out ()).mono ?_
  rintro r W1 ⟨rfl, hb1⟩
  have HB2 : Hid (Below w.heap.size w (W1.alloc (.cells #[.int .i64 k, .bool s, .int .i64 m, .int .i64 e] 32))) := hb1.alloc hb1.size _
  clear hb1
  go_wp2_with fail
  refine (HS.out _ (HG.out.below HB2.out)).mono ?_
  rintro r W3 ⟨rfl, hb3⟩
  have HB3 : Hid (Below w.heap.size w W3) := HB2.out.trans (hb3.mono HB2.out.size)
  clear hb3
  go_wp2
  go_ret
  exact ⟨t, HV.out, rfl, HB3.out⟩
end Go.Proofs.YtpmccbkhkaoccaaGreatDoor

