import Derived.Test.YtoedefjngipeiaaGreatDoorA24
import Derived.Test.YtoedefjngipeiaaGreatDoorA23
import Derived.Test.YtoedefjngipeiaaGreatDoorA25
import Derived.Deep.RegionWith
import Derived.Test.YtoedefjngipeiaaGreatDoorA20
/- HexOf of the specification. -/
namespace Go.Proofs.YtoedefjngipeiaaGreatDoor
open Go.ChangeShapes Go.WideShapes Go.RowKit
open Ieee (double)

theorem int_size16 (n : Int) : (intText n 16).size ≤ 70 := by
  unfold intText
  rw [if_pos (by omega)]
  have h1 : ∀ k, (⟨(textOf 16 k).toArray⟩ : ByteArray).size ≤ 64 := fun k => by
    rw [← data_len]
    exact textOf_length 16 k
  split
  · rw [append_size]
    have := h1 (unsig (-n))
    have e : (⟨#[45]⟩ : ByteArray).size = 1 := rfl
    rw [show (16 : Int).toNat = 16 from rfl]
    omega
  · have := h1 (unsig n)
    rw [show (16 : Int).toNat = 16 from rfl]
    omega
/-- A float's parts in hexadecimal. -/
def hexB (s : Bool) (q E : Int) : ByteArray := sgnB s ++ ⟨#[48, 120]⟩ ++ intText q 16 ++ ⟨#[112]⟩ ++ intText E 10

set_option maxHeartbeats 1000000 in
set_option maxRecDepth 100000 in
theorem hexOf_num (s : Bool) (r : Nat) (hr : r < 9218868437227405312) (k q E : Int) (w : World)
    (hP : ∀ w, Calls Tryz.prog 80 #[.float .f64 r] w fun e w' => e = .returned (.agg #[.int .i64 k, .bool false, .int .i64 q, .int .i64 E]) ∧ Below w.heap.size w w') :
    Calls Tryz.prog 56 #[.float .f64 (signBit s + r)] w fun e w' => e = .returned (.string (hexB s q E)) ∧ Below w.heap.size w w' := by
  have HP : Hid _ := hP
  have H1 : Hid _ := fun w => l5size_any s r (by omega) w
  have H2 : Hid _ := fun w => l5odd_num r hr w
  have HI1 : Hid _ := fun w => specInt_any q 16 w
  have HI2 : Hid _ := fun w => specInt_any E 10 w
  have z1 := int_size16 q
  have z2 := int_size E
  have z3 := sgnB_size s
  unfold hexB
  generalize intText q 16 = I1 at *
  generalize intText E 10 = I2 at *
  generalize sgnB s = S at *
  generalize signBit s + r = X at *
  clear hP hr
  go_enter Tryz.func56, Tryz.ntmps56
  go_wp2_with fail
  refine (H1.out _).mono ?_
  rintro e w1 ⟨rfl, rfl⟩
  go_wp2_with fail
  refine (H2.out _).mono ?_
  rintro e w1 ⟨rfl, rfl⟩
  generalize decide (r = 0) = b at *
  have hne : (⟨#[48]⟩ : ByteArray) = ⟨#[48]⟩ := rfl
  clear H1 H2
  cases b
  all_goals
    go_wp2_with fail
    refine (HP.out _).mono ?_
    rintro e w2 ⟨rfl, hb⟩
    have HB : Hid _ := hb
    clear hb
    go_wp2_with fail
    go_quiet (first | (go_at_call_of 59 (Value.int .i64 q); exact Calls.quiet_of_same (HI1.out _)) | (go_at_call_of 59 (Value.int .i64 E); exact Calls.quiet_of_same (HI2.out _)))
    go_wp2
    go_ret
    exact ⟨rfl, below_drewN (HB.out.alloc HB.out.size _) _⟩
set_option maxHeartbeats 400000 in
theorem hexOf_nan (x : Nat) (hx : IsNan x) (w : World) :
    Calls Tryz.prog 56 #[.float .f64 x] w fun e w' => e = .returned (.string ⟨#[110, 97, 110]⟩) ∧ Below w.heap.size w w' := by
  have H1 : Hid _ := fun w => l5size_nan x hx w
  have H2 : Hid _ := fun w => l5odd_nan x hx w
  clear hx
  go_enter Tryz.func56, Tryz.ntmps56
  go_wp2_with fail
  refine (H1.out _).mono ?_
  rintro e w1 ⟨rfl, rfl⟩
  go_wp2_with fail
  refine (H2.out _).mono ?_
  rintro e w1 ⟨rfl, rfl⟩
  go_wp2
  go_ret
  exact ⟨rfl, Below.refl _ _⟩
set_option maxHeartbeats 400000 in
theorem hexOf_inf (s : Bool) (w : World) :
    Calls Tryz.prog 56 #[.float .f64 (iw s)] w fun e w' => e = .returned (.string (sgnB s ++ ⟨#[105, 110, 102]⟩)) ∧ Below w.heap.size w w' := by
  have H1 : Hid (∀ w, Calls Tryz.prog 74 #[.float .f64 (iw s)] w fun e w' => e = .returned (.tuple #[.float .f64 9218868437227405312, .string (sgnB s)]) ∧ w' = w) := fun w => l5size_any s 9218868437227405312 (by omega) w
  have H2 : Hid _ := fun w => l5odd_inf w
  have z3 := sgnB_size s
  generalize sgnB s = S at *
  generalize iw s = X at *
  go_enter Tryz.func56, Tryz.ntmps56
  go_wp2_with fail
  refine (H1.out _).mono ?_
  rintro e w1 ⟨rfl, rfl⟩
  go_wp2_with fail
  refine (H2.out _).mono ?_
  rintro e w1 ⟨rfl, rfl⟩
  go_wp2
  go_ret
  exact ⟨rfl, Below.refl _ _⟩
/-- What HexOf answers. -/
def hexV (x : Nat) (t : ByteArray) : Prop := (IsNan x ∧ t = ⟨#[110, 97, 110]⟩) ∨ (∃ s, x = iw s ∧ t = sgnB s ++ ⟨#[105, 110, 102]⟩) ∨ (∃ s, x = signBit s ∧ t = hexB s 0 0)
  ∨ (∃ (s : Bool) (n : Nat) (p : Int) (q k : Nat), Canon n p ∧ 0 < n ∧ x = fw s n p ∧ n = q * 2 ^ k ∧ q % 2 = 1 ∧ t = hexB s q (p + k))
theorem hexB_size (s : Bool) (q E : Int) : (hexB s q E).size ≤ 200 := by
  unfold hexB
  rw [append_size, append_size, append_size, append_size]
  have h1 := sgnB_size s
  have h2 := int_size16 q
  have h3 := int_size E
  have e1 : (⟨#[48, 120]⟩ : ByteArray).size = 2 := rfl
  have e2 : (⟨#[112]⟩ : ByteArray).size = 1 := rfl
  omega
theorem hexV_size (x : Nat) (t : ByteArray) (h : hexV x t) : t.size ≤ 200 := by
  rcases h with ⟨_, rfl⟩ | ⟨s, _, rfl⟩ | ⟨s, _, rfl⟩ | ⟨s, n, p, q, k, _, _, _, _, _, rfl⟩
  · decide
  · cases s <;> decide
  · exact hexB_size _ _ _
  · exact hexB_size _ _ _
theorem specHex_any (x : Nat) (hx : x < 18446744073709551616) (w : World) :
    Calls Tryz.prog 56 #[.float .f64 x] w fun e w' => ∃ t, hexV x t ∧ e = .returned (.string t) ∧ Below w.heap.size w w' := by
  rcases float_cases x hx with h | ⟨s, rfl⟩ | ⟨s, n, p, hc, rfl⟩
  · refine (hexOf_nan x h w).mono ?_
    rintro e w' ⟨rfl, hb⟩
    exact ⟨_, .inl ⟨h, rfl⟩, rfl, hb⟩
  · refine (hexOf_inf s w).mono ?_
    rintro e w' ⟨rfl, hb⟩
    exact ⟨_, .inr (.inl ⟨s, rfl, rfl⟩), rfl, hb⟩
  · by_cases h0 : n = 0
    · subst h0
      rw [fw_zero]
      have := hexOf_num s 0 (by omega) 0 0 0 w (fun w => parts_none w)
      rw [Nat.add_zero] at this
      refine this.mono ?_
      rintro e w' ⟨rfl, hb⟩
      exact ⟨_, .inr (.inr (.inl ⟨s, rfl, rfl⟩)), rfl, hb⟩
    · obtain ⟨q, k, hq, hq1⟩ := odd_some n (by omega)
      have hfw : fw false n p = rung n p := by rw [fw_canon _ _ _ hc]; exact Nat.zero_add _
      have hfs : fw s n p = signBit s + rung n p := fw_canon _ _ _ hc
      have := hexOf_num s (rung n p) (rung_lt n p hc) 1 q (p + k) w (fun w => by rw [← hfw]; exact parts_fixed false n p q k hc (by omega) hq hq1 w)
      rw [← hfs] at this
      refine this.mono ?_
      rintro e w' ⟨rfl, hb⟩
      exact ⟨_, .inr (.inr (.inr ⟨s, n, p, q, k, hc, by omega, rfl, hq, hq1, rfl⟩)), rfl, hb⟩
end Go.Proofs.YtoedefjngipeiaaGreatDoor

/- What Exact answers: plain. -/
namespace Go.Proofs.YtoedefjngipeiaaGreatDoor
open Go.RowKit
open Ieee (double)

/-- What Exact answers. -/
def exactV (x : Nat) (t : ByteArray) : Prop := (IsNan x ∧ t = ⟨#[110, 97, 110]⟩) ∨ (∃ s, x = iw s ∧ t = sgnB s ++ ⟨#[105, 110, 102]⟩) ∨ (∃ s, x = signBit s ∧ t = sgnB s ++ ⟨#[48]⟩)
  ∨ (∃ (s : Bool) (n : Nat) (p : Int) (q k : Nat) (ds : ByteArray) (pow : Int), Canon n p ∧ 0 < n ∧ x = fw s n p ∧ n = q * 2 ^ k ∧ q % 2 = 1 ∧ ExD ds pow q (p + k) ∧ t = sgnB s ++ plainB ds pow)
end Go.Proofs.YtoedefjngipeiaaGreatDoor

/- Exact of the specification. -/
namespace Go.Proofs.YtoedefjngipeiaaGreatDoor
open Go.ChangeShapes Go.WideShapes Go.RowKit
open Ieee (double)


set_option maxHeartbeats 1000000 in
theorem exact_nan (x : Nat) (hx : IsNan x) (w : World) :
    Calls Tryz.prog 57 #[.float .f64 x] w fun e w' => e = .returned (.string ⟨#[110, 97, 110]⟩) ∧ Below w.heap.size w w' := by
  have H1 : Hid _ := fun w => l5size_nan x hx w
  have H2 : Hid _ := fun w => l5odd_nan x hx w
  clear hx
  go_enter Tryz.func57, Tryz.ntmps57
  go_wp2_with fail
  refine (H1.out _).mono ?_
  rintro e w1 ⟨rfl, rfl⟩
  go_wp2_with fail
  refine (H2.out _).mono ?_
  rintro e w1 ⟨rfl, rfl⟩
  go_wp2
  go_ret
  exact ⟨rfl, Below.refl _ _⟩
set_option maxHeartbeats 1000000 in
theorem exact_odd (s : Bool) (r : Nat) (t : ByteArray) (hr : r ≤ 9218868437227405312) (ht : t.size ≤ 10) (hO : ∀ w, Calls Tryz.prog 75 #[.float .f64 r] w fun e w' => e = .returned (.tuple #[.string t, .bool true]) ∧ w' = w) (w : World) :
    Calls Tryz.prog 57 #[.float .f64 (signBit s + r)] w fun e w' => e = .returned (.string (sgnB s ++ t)) ∧ Below w.heap.size w w' := by
  have H1 : Hid _ := fun w => l5size_any s r hr w
  have H2 : Hid _ := hO
  have z3 := sgnB_size s
  generalize sgnB s = S at *
  generalize signBit s + r = X at *
  clear hO hr
  go_enter Tryz.func57, Tryz.ntmps57
  go_wp2_with fail
  refine (H1.out _).mono ?_
  rintro e w1 ⟨rfl, rfl⟩
  go_wp2_with fail
  refine (H2.out _).mono ?_
  rintro e w1 ⟨rfl, rfl⟩
  go_wp2
  go_ret
  exact ⟨rfl, Below.refl _ _⟩
set_option maxHeartbeats 1000000 in
theorem exact_num (s : Bool) (r : Nat) (q : Nat) (E : Int) (hr : r < 9218868437227405312) (hr0 : r ≠ 0) (hX : ∀ w, Calls Tryz.prog 81 #[.float .f64 r] w fun e w' =>
    ∃ ds pow, ExD ds pow q E ∧ ds.size ≤ 1100 ∧ -1100 ≤ pow ∧ pow ≤ 1100 ∧ e = .returned (.agg #[.string ds, .int .i64 pow]) ∧ Below w.heap.size w w') (w : World) :
    Calls Tryz.prog 57 #[.float .f64 (signBit s + r)] w fun e w' => ∃ ds pow, ExD ds pow q E ∧ (sgnB s ++ plainB ds pow).size ≤ 3100 ∧ e = .returned (.string (sgnB s ++ plainB ds pow)) ∧ Below w.heap.size w w' := by
  have H1 : Hid _ := fun w => l5size_any s r (by omega) w
  have H2 : Hid (∀ w, Calls Tryz.prog 75 #[.float .f64 r] w fun e w' => e = .returned (.tuple #[.string ⟨#[48]⟩, .bool false]) ∧ w' = w) := fun w => by
    have := l5odd_num r hr w
    rw [decide_eq_false hr0] at this
    exact this
  have H3 : Hid _ := hX
  have z3 := sgnB_size s
  generalize sgnB s = S at *
  generalize signBit s + r = X at *
  clear hX hr hr0
  go_enter Tryz.func57, Tryz.ntmps57
  go_wp2_with fail
  refine (H1.out _).mono ?_
  rintro e w1 ⟨rfl, rfl⟩
  go_wp2_with fail
  refine (H2.out _).mono ?_
  rintro e w1 ⟨rfl, rfl⟩
  go_wp2_with fail
  refine (H3.out _).mono ?_
  rintro e w2 ⟨ds, pow, hd, hs, hp1, hp2, rfl, hb⟩
  have HD : Hid _ := fun (_ : Unit) => And.intro hd hb
  have HPL : Hid _ := fun w => l5plain_any ds pow hs hp1 hp2 w
  have hsz := plainB_size ds pow hs hp1 hp2
  clear hd hb
  obtain ⟨P, hP⟩ : ∃ P, P = plainB ds pow := ⟨_, rfl⟩
  rw [← hP] at hsz HPL
  have HPE : Hid (P = plainB ds pow) := hP
  clear hP
  go_wp2_with fail
  refine (HPL.out _).mono ?_
  rintro e w3 ⟨rfl, hb3⟩
  have HB3 : Hid (Below _ _ w3) := (HD.out ()).2.trans (hb3.mono (HD.out ()).2.size)
  clear hb3
  go_wp2
  go_ret
  exact ⟨ds, pow, (HD.out ()).1, by rw [← HPE.out, append_size]; omega, by rw [← HPE.out]; rfl, HB3.out⟩
theorem specExact_any (x : Nat) (hx : x < 18446744073709551616) (w : World) :
    Calls Tryz.prog 57 #[.float .f64 x] w fun e w' => ∃ t, exactV x t ∧ t.size ≤ 3100 ∧ e = .returned (.string t) ∧ Below w.heap.size w w' := by
  rcases float_cases x hx with h | ⟨s, rfl⟩ | ⟨s, n, p, hc, rfl⟩
  · refine (exact_nan x h w).mono ?_
    rintro e w' ⟨rfl, hb⟩
    exact ⟨_, .inl ⟨h, rfl⟩, by decide, rfl, hb⟩
  · refine (exact_odd s 9218868437227405312 _ (by omega) (by decide) (fun w => l5odd_inf w) w).mono ?_
    rintro e w' ⟨rfl, hb⟩
    exact ⟨_, .inr (.inl ⟨s, rfl, rfl⟩), by cases s <;> decide, rfl, hb⟩
  · by_cases h0 : n = 0
    · subst h0
      rw [fw_zero]
      have := exact_odd s 0 ⟨#[48]⟩ (by omega) (by decide) (fun w => l5odd_num 0 (by omega) w) w
      rw [Nat.add_zero] at this
      refine this.mono ?_
      rintro e w' ⟨rfl, hb⟩
      exact ⟨_, .inr (.inr (.inl ⟨s, rfl, rfl⟩)), by cases s <;> decide, rfl, hb⟩
    · obtain ⟨q, k, hq, hq1, hX⟩ := l5exact_any n p hc (by omega)
      have hfw : fw false n p = rung n p := by rw [fw_canon _ _ _ hc]; exact Nat.zero_add _
      have hfs : fw s n p = signBit s + rung n p := fw_canon _ _ _ hc
      rw [hfw] at hX
      have := exact_num s (rung n p) q (p + k) (rung_lt n p hc) (fun h => h0 (rung_zero n p h)) hX w
      rw [← hfs] at this
      refine this.mono ?_
      rintro e w' ⟨ds, pow, hd, hz, rfl, hb⟩
      exact ⟨_, .inr (.inr (.inr ⟨s, n, p, q, k, ds, pow, hc, by omega, rfl, hq, hq1, hd, rfl⟩)), hz, rfl, hb⟩
end Go.Proofs.YtoedefjngipeiaaGreatDoor

/- WriteBits of the specification. -/
namespace Go.Proofs.YtoedefjngipeiaaGreatDoor
open Go.ChangeShapes Go.WideShapes Go.RowKit

set_option maxHeartbeats 400000 in
theorem specBits_any (n b : Int) (w : World) :
    Calls Tryz.prog 60 #[.int .i64 n, .int .i64 b] w fun e w' => e = .returned (.string (bitsText n b)) ∧ w' = w := by
  by_cases h : 2 ≤ b ∧ b ≤ 36
  · have HV : Hid (bitsText n b = ⟨(textOf b.toNat (unsig n)).toArray⟩) := by unfold bitsText; exact if_pos h
    have HC : Hid _ := fun w => specDigits_at _ b (unsig n) (unsig_cast n) w (unsig_lt n) h.1 h.2
    obtain ⟨h2, h36⟩ := h
    go_enter Tryz.func60, Tryz.ntmps60
    go_wp2_with (go_at_call 82; refine (HC.out _).mono ?_; rintro e w' ⟨rfl, rfl⟩)
    go_ret
    exact ⟨by rw [HV.out]; rfl, rfl⟩
  · have HV : Hid (bitsText n b = ⟨#[]⟩) := by unfold bitsText; exact if_neg h
    go_enter Tryz.func60, Tryz.ntmps60
    by_cases h2 : b < 2
    · clear h
      go_wp2
      go_ret
      exact ⟨by rw [HV.out]; rfl, rfl⟩
    · have h36 : 36 < b := by omega
      clear h
      go_wp2
      go_ret
      exact ⟨by rw [HV.out]; rfl, rfl⟩
end Go.Proofs.YtoedefjngipeiaaGreatDoor

