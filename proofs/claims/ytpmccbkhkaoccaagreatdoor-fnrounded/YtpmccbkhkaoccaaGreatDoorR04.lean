import Derived.Test.YtpmccbkhkaoccaaGreatDoorB46
import Derived.Test.YtpmccbkhkaoccaaGreatDoorB47
import Derived.Test.YtpmccbkhkaoccaaGreatDoorR01
/- Digits of the program. -/
namespace Go.Proofs.YtpmccbkhkaoccaaGreatDoor
open Go.ChangeShapes Go.WideShapes Go.RowKit

theorem rnd_bounds (ds : ByteArray) (x n : Int) (t : ByteArray) (y : Int) (hg : good 10 ds.data.toList) (h : RndD ds x n t y) : t.size ≤ ds.size + 1 ∧ (y = 0 ∨ y = x ∨ y = x + 1) := by
  rcases h with ⟨_, rfl, rfl⟩ | ⟨_, _, rfl, rfl⟩ | ⟨h1, h2, ⟨_, hh⟩ | ⟨_, hl⟩⟩
  · exact ⟨Nat.zero_le _, .inl rfl⟩
  · exact ⟨by omega, .inr (.inl rfl)⟩
  · obtain ⟨j, more, _, hy, _, hj, _⟩ := high_pad ds x n.toNat t y (by omega) hg hh
    cases more
    · simp at hj hy
      exact ⟨by omega, .inr (.inl hy)⟩
    · simp at hj hy
      exact ⟨by omega, .inr (.inr hy)⟩
  · obtain ⟨u, ⟨⟨j, hj⟩, _⟩, h⟩ := hl
    have h3 := trim_size hj
    have h4 := take_size ds n.toNat (by omega)
    rcases h with ⟨_, rfl, rfl⟩ | ⟨_, rfl, rfl⟩
    · exact ⟨Nat.zero_le _, .inl rfl⟩
    · exact ⟨by omega, .inr (.inl rfl)⟩
theorem good_none : good 10 (⟨#[]⟩ : ByteArray).data.toList := fun c hc => by cases hc
theorem dof_good {q : Nat} {e : Int} {ds : ByteArray} {y : Int} (h : DofR q e ds y) : good 10 ds.data.toList := by
  rcases h.1 with ⟨_, rfl, _⟩ | ⟨_, hx⟩
  · exact good_none
  · exact hx.2.1
/-- What signed answers at a float's parts and its digits rounded. -/
theorem digits_signed (x : Nat) (k : Int) (s : Bool) (m e : Int) (hp : partsV x k s m e) (ds : ByteArray) (y : Int) (hd : DofR m.toNat e ds y) (n : Nat) (hn1 : 1 ≤ n) (hn2 : n ≤ 400) (t : ByteArray) (z : Int) (hr : RndD ds y (n : Int) t z) : ∃ u, digitsV x (n : Int) u ∧ ∀ W, WrG W → Calls Tryz.prog 34 #[.agg #[.int .i64 k, .bool s, .int .i64 m, .int .i64 e], .iface 90 (.agg #[.string t, .int .i64 z, .int .i64 (n : Int)])] W fun r w' => r = .returned (.string u) ∧ Below W.heap.size W w' := by
  obtain ⟨b1, b2⟩ := rnd_bounds ds y n t z (dof_good hd) hr
  obtain ⟨hd1, hd2, hd3, hd4⟩ := hd
  have key : ∀ (k : Int), (k = 0 ∨ k = 1) → ∀ W, WrG W → Calls Tryz.prog 34 #[.agg #[.int .i64 k, .bool s, .int .i64 m, .int .i64 e], .iface 90 (.agg #[.string t, .int .i64 z, .int .i64 (n : Int)])] W fun r w' => r = .returned (.string (sgnB s ++ sciB (padB t n) (z + 1))) ∧ Below W.heap.size W w' := fun k hk W hW =>
    signed_power _ k hk s m e _ (by have := sciB_size (padB t n) (z + 1); rw [padB_size] at this; omega) W fun W1 hb => powerWrite_any t z n (by omega) (by omega) (by omega) hn1 (by omega) W1 (hW.below hb).2.1 (hW.below hb).2.2.2
  have hin : (1 : Int) ≤ (n : Int) ∧ (n : Int) ≤ 400 := by omega
  rcases hp with ⟨hn, rfl, rfl, rfl, rfl⟩ | ⟨rfl, rfl, rfl, rfl⟩ | ⟨rfl, rfl, rfl, rfl⟩ | ⟨n', p, q, t', hc, h0, rfl, hn, hq, rfl, rfl, rfl⟩
  · exact ⟨_, .inr ⟨hin, .inl ⟨hn, rfl⟩⟩, fun W _ => signed_nan _ 0 0 W⟩
  · exact ⟨_, .inr ⟨hin, .inr (.inl ⟨s, rfl, rfl⟩)⟩, fun W _ => signed_inf _ s 0 0 W⟩
  · rcases hd1 with ⟨_, rfl, rfl⟩ | ⟨h, _⟩
    · have hz : t = ⟨#[]⟩ ∧ z = 0 := by
        rcases hr with ⟨h, _⟩ | ⟨_, _, rfl, rfl⟩ | ⟨_, h, _⟩
        · omega
        · exact ⟨rfl, rfl⟩
        · exact absurd h (by show ¬ ((n : Int) < ((0 : Nat) : Int)); omega)
      obtain ⟨rfl, rfl⟩ := hz
      have := key 0 (.inl rfl)
      have ez : padB ⟨#[]⟩ n = zerosB n := by
        rw [pad_long ⟨#[]⟩ n (Nat.zero_le _)]
        apply bytes_ext
        rw [append_list]
        rfl
      rw [ez] at this
      exact ⟨_, .inr ⟨hin, .inr (.inr (.inl ⟨s, rfl, rfl⟩))⟩, this⟩
    · exact absurd h (by decide)
  · rw [Int.toNat_natCast] at hd1
    obtain ⟨_, hq0, _, _⟩ := parts_bounds n' p q t' hc h0 hn
    rcases hd1 with ⟨h, _⟩ | ⟨_, hx⟩
    · omega
    · obtain ⟨d, p', hcut, htx⟩ := rnd_sci ds y n hn1 t z hx.2.1 hx.1 hx.2.2.1 hr
      have := key 1 (.inr rfl)
      rw [htx] at this
      exact ⟨_, .inr ⟨hin, .inr (.inr (.inr ⟨s, n', p, q, t', ds, y + 1, d, p', hc, h0, rfl, hn, hq, hx, hcut, rfl⟩))⟩, this⟩
set_option maxHeartbeats 1000000 in
set_option maxRecDepth 100000 in
theorem implDigits5_out (x : Nat) (n : Int) (hn : n < 1 ∨ 400 < n) (w : World) :
    Calls Tryz.prog 24 #[.float .f64 x, .int .i64 n] w fun e w' => e = .returned (.string ⟨#[]⟩) ∧ Below w.heap.size w w' := by
  rcases hn with h | h
  · go_enter Tryz.func24, Tryz.ntmps24
    go_wp2
    go_ret
    exact ⟨rfl, Below.refl _ _⟩
  · have h1 : ¬ n < 1 := by omega
    go_enter Tryz.func24, Tryz.ntmps24
    go_wp2
    go_ret
    exact ⟨rfl, Below.refl _ _⟩
set_option maxHeartbeats 1000000 in
set_option maxRecDepth 100000 in
theorem implDigits5_in (x : Nat) (hx : x < 18446744073709551616) (n : Nat) (hn1 : 1 ≤ n) (hn2 : n ≤ 400) (w : World) (hG : WrG w) :
    Calls Tryz.prog 24 #[.float .f64 x, .int .i64 (n : Int)] w fun e w' => ∃ t, digitsV x (n : Int) t ∧ e = .returned (.string t) ∧ Below w.heap.size w w' := by
  obtain ⟨k, s, m, e, hp⟩ := parts_ex x hx
  obtain ⟨q, rfl, hq, he1, he2⟩ := parts_mant x k s m e hp
  have HP : Hid _ := fun (_ : Unit) => implParts_of x hx k s q e hp w hG.1 hG.2.2.1
  have HG : Hid (WrG w) := hG
  have HS : Hid (∀ ds y t z, DofR q e ds y → RndD ds y (n : Int) t z → ∃ u, digitsV x (n : Int) u ∧ ∀ W, WrG W → Calls Tryz.prog 34 #[.agg #[.int .i64 k, .bool s, .int .i64 (q : Int), .int .i64 e], .iface 90 (.agg #[.string t, .int .i64 z, .int .i64 (n : Int)])] W fun r w' => r = .returned (.string u) ∧ Below W.heap.size W w') := fun ds y t z hd hr =>
    digits_signed x k s q e hp ds y (by rw [Int.toNat_natCast]; exact hd) n hn1 hn2 t z hr
  have hn1' : ¬ (n : Int) < 1 := by omega
  have hn2' : ¬ 400 < (n : Int) := by omega
  clear hp hG
  go_enter Tryz.func24, Tryz.ntmps24
  go_wp2_with fail
  refine (HP.out ()).mono ?_
  rintro r W1 ⟨rfl, hb1⟩
  obtain ⟨A, hA⟩ : ∃ A, W1.heap.size = A := ⟨_, rfl⟩
  obtain ⟨W2, hW2⟩ : ∃ W2, W1.alloc (.cells #[.int .i64 k, .bool s, .int .i64 (q : Int), .int .i64 e] 32) = W2 := ⟨_, rfl⟩
  have HX2 : Hid (Box4 w A k s (q : Int) e W2) := by rw [← hW2, ← hA]; exact Box4.new hb1
  have HD : Hid (∀ W, Box4 w A k s (q : Int) e W → Calls Tryz.prog 30 #[.agg #[.int .i64 k, .bool s, .int .i64 (q : Int), .int .i64 e]] W fun r w' => ∃ ds y, Hid (DofR q e ds y) ∧ r = .returned (.agg #[.string ds, .int .i64 y]) ∧ Hid (Box4 w A k s (q : Int) e w')) := fun W hW => by
    have hg := HG.out.below hW.1
    refine (decimalOf_any k s q e hq (by omega) (by omega) W hg.2.1 hg.2.2.2).mono ?_
    rintro r w' ⟨ds, y, h1, h2, h3, h4, rfl, hb⟩
    exact ⟨ds, y, ⟨h1, h2, h3, h4⟩, rfl, hW.next hb⟩
  have hc0 := HX2.out.2.1
  have hc1 := HX2.out.2.2.1
  have hc2 := HX2.out.2.2.2.1
  have hc3 := HX2.out.2.2.2.2
  clear hb1
  have HRN : Hid (∀ ds y, DofR q e ds y → ∀ W, Box4 w A k s (q : Int) e W → Calls Tryz.prog 52 #[.agg #[.string ds, .int .i64 y], .int .i64 (n : Int)] W fun r w' => ∃ t z, Hid (RndD ds y (n : Int) t z) ∧ r = .returned (.agg #[.string t, .int .i64 z]) ∧ Hid (Box4 w A k s (q : Int) e w')) := fun ds y hd W hW => by
    refine (round_any ds y (n : Int) (by have := hd.2.1; omega) (by have := hd.2.2.1; omega) (by have := hd.2.2.2; omega) (dof_good hd) W).mono ?_
    rintro r w' ⟨t, z, h1, rfl, hb⟩
    exact ⟨t, z, h1, rfl, hW.next hb⟩
  go_wp2
  refine wp_region_held_drew (S := fun X => Box4 w A k s (q : Int) e X) (by kernel_rfl) HX2.out.drew (fun hHeld => ?_)
  refine wpAnyH_take (i := 0) (oi := _) (v := ?v0) rfl (by kernel_rfl) (by kernel_rfl) (by kernel_rfl) (fun _ _ _ h => h) (Or.inl ⟨by rfl, ?y0⟩) (by assumption) ?_
  case y0 => (intro w' hSw; obtain ⟨_, y0, y1, y2, y3⟩ := hSw; go_simp; first | done | with_reducible rfl)
  try simp only [Act.put]
  try simp only [List.setIfInBounds_toArray]
  try simp only [List.set_cons_succ]
  try simp only [List.set_cons_zero]
  refine wpAnyH_take (i := 1) (oi := _) (v := ?v1) rfl (by kernel_rfl) (by kernel_rfl) (by kernel_rfl) (fun _ _ _ h => h) (Or.inl ⟨by rfl, ?y1⟩) (by assumption) ?_
  case y1 => (intro w' hSw; obtain ⟨_, y0, y1, y2, y3⟩ := hSw; go_simp; first | done | with_reducible rfl)
  try simp only [Act.put]
  try simp only [List.setIfInBounds_toArray]
  try simp only [List.set_cons_succ]
  try simp only [List.set_cons_zero]
  refine wpAnyH_take (i := 3) (oi := _) (v := ?v3) rfl (by kernel_rfl) (by kernel_rfl) (by kernel_rfl) (fun _ _ _ h => h) (Or.inl ⟨by rfl, ?y3⟩) (by assumption) ?_
  case y3 => (intro w' hSw; go_simp; first | done | with_reducible rfl)
  try simp only [Act.put]
  try simp only [List.setIfInBounds_toArray]
  try simp only [List.set_cons_succ]
  try simp only [List.set_cons_zero]
  refine wpAnyH_take (i := 5) (oi := _) (v := ?v5) rfl (by kernel_rfl) (by kernel_rfl) (by kernel_rfl) (fun _ _ _ h => h) (Or.inl ⟨by rfl, ?y5⟩) (by assumption) ?_
  case y5 => (intro w' hSw; go_simp; first | done | with_reducible rfl)
  try simp only [Act.put]
  try simp only [List.setIfInBounds_toArray]
  try simp only [List.set_cons_succ]
  try simp only [List.set_cons_zero]
  have HXd : Hid (Box4 w A k s (q : Int) e W2.drew) := HX2.out.drew
  generalize W2.drew = W3 at *
  refine wpAnyH_ready (rs := [2]) (by kernel_rfl) (by simp) ?_
  refine AllReadyH.cons (o := _) rfl (fun K hK => ?_) AllReadyH.nil
  go_simp
  refine (HD.out _ HXd.out).mono ?_
  rintro r W4 ⟨ds, y, HDR, rfl, HX4⟩
  dsimp only
  refine hK.out _ _ HX4.out (fun hHeld => ?_)
  clear hK K
  try simp only [Act.put]
  try simp only [List.setIfInBounds_toArray]
  try simp only [List.set_cons_succ]
  try simp only [List.set_cons_zero]
  refine wpAnyH_ready (rs := [4]) (by kernel_rfl) (by simp) ?_
  refine AllReadyH.cons (o := _) rfl (fun K hK => ?_) AllReadyH.nil
  go_simp
  refine (HRN.out ds y HDR.out _ HX4.out).mono ?_
  rintro r W5 ⟨t, z, HRD, rfl, HX5⟩
  dsimp only
  refine hK.out _ _ HX5.out (fun hHeld => ?_)
  clear hK K
  try simp only [Act.put]
  try simp only [List.setIfInBounds_toArray]
  try simp only [List.set_cons_succ]
  try simp only [List.set_cons_zero]
  refine wpAnyH_take (i := 6) (oi := _) (v := ?v6) rfl (by kernel_rfl) (by kernel_rfl) (by kernel_rfl) (fun _ _ _ h => h) (Or.inl ⟨by rfl, ?y6⟩) (by assumption) ?_
  case y6 => (intro w' hSw; go_simp; first | done | with_reducible rfl)
  try simp only [Act.put]
  try simp only [List.setIfInBounds_toArray]
  try simp only [List.set_cons_succ]
  try simp only [List.set_cons_zero]
  refine wpAnyH_take (i := 7) (oi := _) (v := ?v7) rfl (by kernel_rfl) (by kernel_rfl) (by kernel_rfl) (fun _ _ _ h => h) (Or.inl ⟨by rfl, ?y7⟩) (by assumption) ?_
  case y7 => (intro w' hSw; go_simp; first | done | with_reducible rfl)
  try simp only [Act.put]
  try simp only [List.setIfInBounds_toArray]
  try simp only [List.set_cons_succ]
  try simp only [List.set_cons_zero]
  obtain ⟨u, hu, hs⟩ := HS.out ds y t z HDR.out HRD.out
  have HV : Hid (digitsV x (n : Int) u) := hu
  have HSG : Hid _ := hs
  clear hu hs
  refine wpAnyH_ready (rs := [8]) (by kernel_rfl) (by simp) ?_
  refine AllReadyH.cons (o := _) rfl (fun K hK => ?_) AllReadyH.nil
  go_simp
  refine (HSG.out _ (HG.out.below HX5.out.1)).mono ?_
  rintro r W6 ⟨rfl, hb6⟩
  have HX6 : Hid (Box4 w A k s (q : Int) e W6) := HX5.out.next hb6
  clear hb6
  dsimp only
  refine hK.out _ _ HX6.out (fun hHeld => ?_)
  clear hK K
  try simp only [Act.put]
  try simp only [List.setIfInBounds_toArray]
  try simp only [List.set_cons_succ]
  try simp only [List.set_cons_zero]
  refine wpAnyH_ready (rs := [9]) (by kernel_rfl) (by simp) ?_
  refine AllReadyH.cons (o := _) rfl (fun K hK => ?_) AllReadyH.nil
  go_simp
  refine hK.out _ _ HX6.out (fun hHeld => ?_)
  clear hK K
  refine wpAnyH_done (by kernel_rfl) ?_ _
  go_wp2
  go_ret
  exact ⟨u, HV.out, rfl, HX6.out.1⟩
theorem implDigits5_any (x : Nat) (hx : x < 18446744073709551616) (n : Int) (w : World) (hG : WrG w) :
    Calls Tryz.prog 24 #[.float .f64 x, .int .i64 n] w fun e w' => ∃ t, digitsV x n t ∧ e = .returned (.string t) ∧ Below w.heap.size w w' := by
  by_cases ho : n < 1 ∨ 400 < n
  · refine (implDigits5_out x n ho w).mono ?_
    rintro e w' ⟨rfl, hb⟩
    exact ⟨_, .inl ⟨ho, rfl⟩, rfl, hb⟩
  · obtain ⟨j, rfl⟩ := Int.eq_ofNat_of_zero_le (show 0 ≤ n by omega)
    exact implDigits5_in x hx j (by omega) (by omega) w hG
end Go.Proofs.YtpmccbkhkaoccaaGreatDoor

/- Fixed of the program. -/
namespace Go.Proofs.YtpmccbkhkaoccaaGreatDoor
open Go.ChangeShapes Go.WideShapes Go.RowKit

theorem fixB_size2 (ds : ByteArray) (x : Int) (k : Nat) (hx : x ≤ 1300) (hk : k ≤ 1300) : (fixB ds (x + 1) k).size ≤ 10000 := by
  rw [← data_len, ← plain_text]
  have h1 : ∀ n, (putL (dAt ds x) (fxP (x + 1) - 1) (-1) n).length ≤ 2 * n := fun n => by
    induction n with
    | zero => simp [putL]
    | succ n ih =>
      rw [putL_succ, List.length_append]
      split <;> simp <;> omega
  have := h1 ((fxP (x + 1)).toNat + k)
  have h2 : (fxP (x + 1)).toNat ≤ 1301 := by unfold fxP; split <;> omega
  omega
/-- What signed answers at a float's parts and its digits rounded behind the point. -/
theorem fixed_signed (x : Nat) (k : Int) (s : Bool) (m e : Int) (hp : partsV x k s m e) (ds : ByteArray) (y : Int) (hd : DofR m.toNat e ds y) (n : Nat) (hn2 : n ≤ 400) (t : ByteArray) (z : Int) (hr : RndD ds y (y + 1 + (n : Int)) t z) : ∃ u, fixedV x (n : Int) u ∧ ∀ W, WrG W → Calls Tryz.prog 34 #[.agg #[.int .i64 k, .bool s, .int .i64 m, .int .i64 e], .iface 62 (.agg #[.string t, .int .i64 z, .int .i64 (n : Int)])] W fun r w' => r = .returned (.string u) ∧ Below W.heap.size W w' := by
  obtain ⟨b1, b2⟩ := rnd_bounds ds y _ t z (dof_good hd) hr
  obtain ⟨hd1, hd2, hd3, hd4⟩ := hd
  have key : ∀ (k : Int), (k = 0 ∨ k = 1) → ∀ W, WrG W → Calls Tryz.prog 34 #[.agg #[.int .i64 k, .bool s, .int .i64 m, .int .i64 e], .iface 62 (.agg #[.string t, .int .i64 z, .int .i64 (n : Int)])] W fun r w' => r = .returned (.string (sgnB s ++ fixB t (z + 1) n)) ∧ Below W.heap.size W w' := fun k hk W _ =>
    signed_plain _ k hk s m e _ (by have := fixB_size2 t z n (by omega) (by omega); omega) W fun W1 _ => plainWrite_any t z n (by omega) (by omega) (by omega) (by omega) W1
  have hin : (0 : Int) ≤ (n : Int) ∧ (n : Int) ≤ 400 := by omega
  rcases hp with ⟨hn, rfl, rfl, rfl, rfl⟩ | ⟨rfl, rfl, rfl, rfl⟩ | ⟨rfl, rfl, rfl, rfl⟩ | ⟨n', p, q, t', hc, h0, rfl, hn, hq, rfl, rfl, rfl⟩
  · exact ⟨_, .inr ⟨hin, .inl ⟨hn, rfl⟩⟩, fun W _ => signed_nan _ 0 0 W⟩
  · exact ⟨_, .inr ⟨hin, .inr (.inl ⟨s, rfl, rfl⟩)⟩, fun W _ => signed_inf _ s 0 0 W⟩
  · rcases hd1 with ⟨_, rfl, rfl⟩ | ⟨h, _⟩
    · have hz : t = ⟨#[]⟩ ∧ z = 0 := by
        rcases hr with ⟨h, _⟩ | ⟨_, _, rfl, rfl⟩ | ⟨_, h, _⟩
        · omega
        · exact ⟨rfl, rfl⟩
        · exact absurd h (by show ¬ ((0 : Int) + 1 + (n : Int) < ((0 : Nat) : Int)); omega)
      obtain ⟨rfl, rfl⟩ := hz
      have := key 0 (.inl rfl)
      exact ⟨_, .inr ⟨hin, .inr (.inr (.inl ⟨s, rfl, rfl⟩))⟩, this⟩
    · exact absurd h (by decide)
  · rw [Int.toNat_natCast] at hd1
    obtain ⟨_, hq0, _, _⟩ := parts_bounds n' p q t' hc h0 hn
    rcases hd1 with ⟨h, _⟩ | ⟨_, hx⟩
    · omega
    · obtain ⟨d, p', hcut, htx⟩ := rnd_fix ds y n t z hx.2.1 hx.1 hx.2.2.1 hr
      have := key 1 (.inr rfl)
      rw [htx] at this
      exact ⟨_, .inr ⟨hin, .inr (.inr (.inr ⟨s, n', p, q, t', ds, y + 1, d, p', hc, h0, rfl, hn, hq, hx, hcut, rfl⟩))⟩, this⟩
set_option maxHeartbeats 1000000 in
set_option maxRecDepth 100000 in
theorem implFixed_out (x : Nat) (n : Int) (hn : n < 0 ∨ 400 < n) (w : World) :
    Calls Tryz.prog 23 #[.float .f64 x, .int .i64 n] w fun e w' => e = .returned (.string ⟨#[]⟩) ∧ Below w.heap.size w w' := by
  rcases hn with h | h
  · go_enter Tryz.func23, Tryz.ntmps23
    go_wp2
    go_ret
    exact ⟨rfl, Below.refl _ _⟩
  · have h1 : ¬ n < 0 := by omega
    go_enter Tryz.func23, Tryz.ntmps23
    go_wp2
    go_ret
    exact ⟨rfl, Below.refl _ _⟩
/-- Both boxes. -/
def Box6 (w : World) (A : Nat) (k : Int) (s : Bool) (m e : Int) (C : Nat) (ds : ByteArray) (y : Int) (W : World) : Prop := Box4 w A k s m e W ∧ W.cell? ⟨C, 0, none⟩ = some (.string ds) ∧ W.cell? ⟨C, 1, none⟩ = some (.int .i64 y)
theorem Box6.next {w W W' : World} {A : Nat} {k : Int} {s : Bool} {m e : Int} {C : Nat} {ds : ByteArray} {y : Int} (h : Box6 w A k s m e C ds y W) (hb : Below W.heap.size W W') : Box6 w A k s m e C ds y W' :=
  ⟨h.1.next hb, (hb.cell (lt_cell h.2.1)).trans h.2.1, (hb.cell (lt_cell h.2.2)).trans h.2.2⟩
set_option maxHeartbeats 1000000 in
set_option maxRecDepth 100000 in
theorem implFixed_in (x : Nat) (hx : x < 18446744073709551616) (n : Nat) (hn2 : n ≤ 400) (w : World) (hG : WrG w) :
    Calls Tryz.prog 23 #[.float .f64 x, .int .i64 (n : Int)] w fun e w' => ∃ t, fixedV x (n : Int) t ∧ e = .returned (.string t) ∧ Below w.heap.size w w' := by
  obtain ⟨k, s, m, e, hp⟩ := parts_ex x hx
  obtain ⟨q, rfl, hq, he1, he2⟩ := parts_mant x k s m e hp
  have HP : Hid _ := fun (_ : Unit) => implParts_of x hx k s q e hp w hG.1 hG.2.2.1
  have HG : Hid (WrG w) := hG
  have HS : Hid (∀ ds y t z, DofR q e ds y → RndD ds y (y + 1 + (n : Int)) t z → ∃ u, fixedV x (n : Int) u ∧ ∀ W, WrG W → Calls Tryz.prog 34 #[.agg #[.int .i64 k, .bool s, .int .i64 (q : Int), .int .i64 e], .iface 62 (.agg #[.string t, .int .i64 z, .int .i64 (n : Int)])] W fun r w' => r = .returned (.string u) ∧ Below W.heap.size W w') := fun ds y t z hd hr =>
    fixed_signed x k s q e hp ds y (by rw [Int.toNat_natCast]; exact hd) n hn2 t z hr
  have hn1' : ¬ (n : Int) < 0 := by omega
  have hn2' : ¬ 400 < (n : Int) := by omega
  clear hp hG
  go_enter Tryz.func23, Tryz.ntmps23
  go_wp2_with fail
  refine (HP.out ()).mono ?_
  rintro r W1 ⟨rfl, hb1⟩
  obtain ⟨A, hA⟩ : ∃ A, W1.heap.size = A := ⟨_, rfl⟩
  obtain ⟨W2, hW2⟩ : ∃ W2, W1.alloc (.cells #[.int .i64 k, .bool s, .int .i64 (q : Int), .int .i64 e] 32) = W2 := ⟨_, rfl⟩
  have HX2 : Hid (Box4 w A k s (q : Int) e W2) := by rw [← hW2, ← hA]; exact Box4.new hb1
  have HD : Hid (∀ W, Box4 w A k s (q : Int) e W → Calls Tryz.prog 30 #[.agg #[.int .i64 k, .bool s, .int .i64 (q : Int), .int .i64 e]] W fun r w' => ∃ ds y, Hid (DofR q e ds y) ∧ r = .returned (.agg #[.string ds, .int .i64 y]) ∧ Hid (Box4 w A k s (q : Int) e w')) := fun W hW => by
    have hg := HG.out.below hW.1
    refine (decimalOf_any k s q e hq (by omega) (by omega) W hg.2.1 hg.2.2.2).mono ?_
    rintro r w' ⟨ds, y, h1, h2, h3, h4, rfl, hb⟩
    exact ⟨ds, y, ⟨h1, h2, h3, h4⟩, rfl, hW.next hb⟩
  have hc0 := HX2.out.2.1
  have hc1 := HX2.out.2.2.1
  have hc2 := HX2.out.2.2.2.1
  have hc3 := HX2.out.2.2.2.2
  clear hb1
  go_wp2_with fail
  refine (HD.out _ HX2.out).mono ?_
  rintro r W3 ⟨ds, y, HDR, rfl, HX3⟩
  have hy1 : -1200 ≤ y := HDR.out.2.2.1
  have hy2 : y ≤ 1200 := HDR.out.2.2.2
  obtain ⟨C, hC⟩ : ∃ C, W3.heap.size = C := ⟨_, rfl⟩
  obtain ⟨W4, hW4⟩ : ∃ W4, W3.alloc (.cells #[.string ds, .int .i64 y] 51) = W4 := ⟨_, rfl⟩
  have HX4 : Hid (Box6 w A k s (q : Int) e C ds y W4) := by
    rw [← hW4, ← hC]
    exact ⟨HX3.out.next ((Below.refl _ _).alloc (Nat.le_refl _) _), by simp [go_sem], by simp [go_sem]⟩
  have HRN : Hid (∀ W, Box6 w A k s (q : Int) e C ds y W → Calls Tryz.prog 52 #[.agg #[.string ds, .int .i64 y], .int .i64 (y + 1 + (n : Int))] W fun r w' => ∃ t z, Hid (RndD ds y (y + 1 + (n : Int)) t z) ∧ r = .returned (.agg #[.string t, .int .i64 z]) ∧ Hid (Box6 w A k s (q : Int) e C ds y w')) := fun W hW => by
    refine (round_any ds y (y + 1 + (n : Int)) (by have := HDR.out.2.1; omega) (by omega) (by omega) (dof_good HDR.out) W).mono ?_
    rintro r w' ⟨t, z, h1, rfl, hb⟩
    exact ⟨t, z, h1, rfl, hW.next hb⟩
  clear hc0 hc1 hc2 hc3 hW2
  go_wp2
  refine wp_region_held_drew (S := fun X => Box6 w A k s (q : Int) e C ds y X) (by kernel_rfl) ⟨HX4.out.1.drew, HX4.out.2⟩ (fun hHeld => ?_)
  refine wpAnyH_take (i := 0) (oi := _) (v := ?v0) rfl (by kernel_rfl) (by kernel_rfl) (by kernel_rfl) (fun _ _ _ h => h) (Or.inl ⟨by rfl, ?y0⟩) (by assumption) ?_
  case y0 => (intro w' hSw; obtain ⟨⟨_, y0, y1, y2, y3⟩, y4, y5⟩ := hSw; go_simp; first | done | with_reducible rfl)
  try simp only [Act.put]
  try simp only [List.setIfInBounds_toArray]
  try simp only [List.set_cons_succ]
  try simp only [List.set_cons_zero]
  refine wpAnyH_take (i := 1) (oi := _) (v := ?v1) rfl (by kernel_rfl) (by kernel_rfl) (by kernel_rfl) (fun _ _ _ h => h) (Or.inl ⟨by rfl, ?y1⟩) (by assumption) ?_
  case y1 => (intro w' hSw; obtain ⟨⟨_, y0, y1, y2, y3⟩, y4, y5⟩ := hSw; go_simp; first | done | with_reducible rfl)
  try simp only [Act.put]
  try simp only [List.setIfInBounds_toArray]
  try simp only [List.set_cons_succ]
  try simp only [List.set_cons_zero]
  refine wpAnyH_take (i := 2) (oi := _) (v := ?v2) rfl (by kernel_rfl) (by kernel_rfl) (by kernel_rfl) (fun _ _ _ h => h) (Or.inl ⟨by rfl, ?y2⟩) (by assumption) ?_
  case y2 => (intro w' hSw; obtain ⟨⟨_, y0, y1, y2, y3⟩, y4, y5⟩ := hSw; go_simp; first | done | with_reducible rfl)
  try simp only [Act.put]
  try simp only [List.setIfInBounds_toArray]
  try simp only [List.set_cons_succ]
  try simp only [List.set_cons_zero]
  refine wpAnyH_take (i := 3) (oi := _) (v := ?v3) rfl (by kernel_rfl) (by kernel_rfl) (by kernel_rfl) (fun _ _ _ h => h) (Or.inl ⟨by rfl, ?y3⟩) (by assumption) ?_
  case y3 => (intro w' hSw; obtain ⟨⟨_, y0, y1, y2, y3⟩, y4, y5⟩ := hSw; go_simp; first | done | with_reducible rfl)
  try simp only [Act.put]
  try simp only [List.setIfInBounds_toArray]
  try simp only [List.set_cons_succ]
  try simp only [List.set_cons_zero]
  refine wpAnyH_take (i := 4) (oi := _) (v := ?v4) rfl (by kernel_rfl) (by kernel_rfl) (by kernel_rfl) (fun _ _ _ h => h) (Or.inl ⟨by rfl, ?y4⟩) (by assumption) ?_
  case y4 => (intro w' hSw; go_simp; first | done | with_reducible rfl)
  try simp only [Act.put]
  try simp only [List.setIfInBounds_toArray]
  try simp only [List.set_cons_succ]
  try simp only [List.set_cons_zero]
  refine wpAnyH_take (i := 5) (oi := _) (v := ?v5) rfl (by kernel_rfl) (by kernel_rfl) (by kernel_rfl) (fun _ _ _ h => h) (Or.inl ⟨by rfl, ?y5⟩) (by assumption) ?_
  case y5 => (intro w' hSw; go_simp; first | done | with_reducible rfl)
  try simp only [Act.put]
  try simp only [List.setIfInBounds_toArray]
  try simp only [List.set_cons_succ]
  try simp only [List.set_cons_zero]
  refine wpAnyH_take (i := 6) (oi := _) (v := ?v6) rfl (by kernel_rfl) (by kernel_rfl) (by kernel_rfl) (fun _ _ _ h => h) (Or.inl ⟨by rfl, ?y6⟩) (by assumption) ?_
  case y6 => (intro w' hSw; go_simp; first | done | with_reducible rfl)
  try simp only [Act.put]
  try simp only [List.setIfInBounds_toArray]
  try simp only [List.set_cons_succ]
  try simp only [List.set_cons_zero]
  refine wpAnyH_take (i := 8) (oi := _) (v := ?v8) rfl (by kernel_rfl) (by kernel_rfl) (by kernel_rfl) (fun _ _ _ h => h) (Or.inl ⟨by rfl, ?y8⟩) (by assumption) ?_
  case y8 => (intro w' hSw; go_simp; first | done | with_reducible rfl)
  try simp only [Act.put]
  try simp only [List.setIfInBounds_toArray]
  try simp only [List.set_cons_succ]
  try simp only [List.set_cons_zero]
  have HXd : Hid (Box6 w A k s (q : Int) e C ds y W4.drew) := ⟨HX4.out.1.drew, HX4.out.2⟩
  generalize W4.drew = W5 at *
  have hwr : IntKind.i64.wrap (IntKind.i64.wrap (y + 1) + (n : Int)) = y + 1 + (n : Int) := by rw [IntKind.wrap_i64, IntKind.wrap_i64]; omega
  simp only [hwr]
  refine wpAnyH_ready (rs := [7]) (by kernel_rfl) (by simp) ?_
  refine AllReadyH.cons (o := _) rfl (fun K hK => ?_) AllReadyH.nil
  go_simp
  try rw [hwr]
  refine (HRN.out _ HXd.out).mono ?_
  rintro r W6 ⟨t, z, HRD, rfl, HX6⟩
  dsimp only
  refine hK.out _ _ HX6.out (fun hHeld => ?_)
  clear hK K
  try simp only [Act.put]
  try simp only [List.setIfInBounds_toArray]
  try simp only [List.set_cons_succ]
  try simp only [List.set_cons_zero]
  refine wpAnyH_take (i := 9) (oi := _) (v := ?v9) rfl (by kernel_rfl) (by kernel_rfl) (by kernel_rfl) (fun _ _ _ h => h) (Or.inl ⟨by rfl, ?y9⟩) (by assumption) ?_
  case y9 => (intro w' hSw; go_simp; first | done | with_reducible rfl)
  try simp only [Act.put]
  try simp only [List.setIfInBounds_toArray]
  try simp only [List.set_cons_succ]
  try simp only [List.set_cons_zero]
  refine wpAnyH_take (i := 10) (oi := _) (v := ?v10) rfl (by kernel_rfl) (by kernel_rfl) (by kernel_rfl) (fun _ _ _ h => h) (Or.inl ⟨by rfl, ?y10⟩) (by assumption) ?_
  case y10 => (intro w' hSw; go_simp; first | done | with_reducible rfl)
  try simp only [Act.put]
  try simp only [List.setIfInBounds_toArray]
  try simp only [List.set_cons_succ]
  try simp only [List.set_cons_zero]
  obtain ⟨u, hu, hs⟩ := HS.out ds y t z HDR.out HRD.out
  have HV : Hid (fixedV x (n : Int) u) := hu
  have HSG : Hid _ := hs
  clear hu hs
  refine wpAnyH_ready (rs := [11]) (by kernel_rfl) (by simp) ?_
  refine AllReadyH.cons (o := _) rfl (fun K hK => ?_) AllReadyH.nil
  go_simp
  refine (HSG.out _ (HG.out.below HX6.out.1.1)).mono ?_
  rintro r W7 ⟨rfl, hb7⟩
  have HX7 : Hid (Box6 w A k s (q : Int) e C ds y W7) := HX6.out.next hb7
  clear hb7
  dsimp only
  refine hK.out _ _ HX7.out (fun hHeld => ?_)
  clear hK K
  try simp only [Act.put]
  try simp only [List.setIfInBounds_toArray]
  try simp only [List.set_cons_succ]
  try simp only [List.set_cons_zero]
  refine wpAnyH_ready (rs := [12]) (by kernel_rfl) (by simp) ?_
  refine AllReadyH.cons (o := _) rfl (fun K hK => ?_) AllReadyH.nil
  go_simp
  refine hK.out _ _ HX7.out (fun hHeld => ?_)
  clear hK K
  refine wpAnyH_done (by kernel_rfl) ?_ _
  go_wp2
  go_ret
  exact ⟨u, HV.out, rfl, HX7.out.1.1⟩
theorem implFixed_any (x : Nat) (hx : x < 18446744073709551616) (n : Int) (w : World) (hG : WrG w) :
    Calls Tryz.prog 23 #[.float .f64 x, .int .i64 n] w fun e w' => ∃ t, fixedV x n t ∧ e = .returned (.string t) ∧ Below w.heap.size w w' := by
  by_cases ho : n < 0 ∨ 400 < n
  · refine (implFixed_out x n ho w).mono ?_
    rintro e w' ⟨rfl, hb⟩
    exact ⟨_, .inl ⟨ho, rfl⟩, rfl, hb⟩
  · obtain ⟨j, rfl⟩ := Int.eq_ofNat_of_zero_le (show 0 ≤ n by omega)
    exact implFixed_in x hx j (by omega) w hG
end Go.Proofs.YtpmccbkhkaoccaaGreatDoor

