/- The cursor: pick, bits, num; the int that bytes tell. -/
import Derived.Test.YtpldpgdjdplbgaaDoorDraw
namespace Go.Proofs.YtpldpgdjdplbgaaDoor
open Go.ChangeShapes Go.WideShapes Go.RowKit

set_option maxHeartbeats 400000 in
theorem pick_any (B : Nat) (w : World) (a : Option Addr) (len cap : Nat) (pos n : Int) (hc : Cur B w a len cap pos) (hk : Code B w a len) (h0 : 0 ≤ pos) (h1 : pos ≤ 900000000) (hn : 2 ≤ n) (hn' : n ≤ 60000) :
    Calls Tryd.prog 22 #[.pointer (some ⟨B, 0, none⟩), .int .i64 n] w fun e w' => ∃ v pos' : Int, 0 ≤ v ∧ v < n ∧ e = .returned (.int .i64 v) ∧ pos ≤ pos' ∧ pos' ≤ pos + 2 ∧ Cur B w' a len cap pos' ∧ Code B w' a len ∧ Only B w w' := by
  have HN : Hid _ := fun (_ : Unit) => next_any B w a len cap pos hc hk h0 (by omega)
  have HK : Hid _ := fun (_ : Unit) => hk
  clear hc hk
  go_enter Tryd.func22, Tryd.ntmps22
  go_wp2_with fail
  refine (HN.out ()).mono ?_
  rintro e w1 ⟨x, hx0, hx1, rfl, hc1, ho1⟩
  have hk1 := (HK.out ()).only ho1
  by_cases hs : 200 < n
  · have HN2 : Hid _ := fun (_ : Unit) => next_any B w1 a len cap (pos + 1) hc1 hk1 (by omega) (by omega)
    have HO : Hid _ := fun (_ : Unit) => ho1
    have HK1 : Hid _ := fun (_ : Unit) => hk1
    clear hc1 ho1 hk1 HN HK
    go_wp2_with fail
    refine (HN2.out ()).mono ?_
    rintro e w2 ⟨y, hy0, hy1, rfl, hc2, ho2⟩
    have HO2 : Hid _ := fun (_ : Unit) => ho2
    have HC2 : Hid _ := fun (_ : Unit) => hc2
    clear hc2 ho2 HN2
    have hm0 : 0 ≤ (x * 256 + y) % n := Int.emod_nonneg _ (by omega)
    have hm1 : (x * 256 + y) % n < n := Int.emod_lt_of_pos _ (by omega)
    go_wp2
    go_ret
    exact ⟨_, _, hm0, hm1, rfl, by omega, by omega, HC2.out (), (HK1.out ()).only (HO2.out ()), (HO.out ()).trans (HO2.out ())⟩
  · have HO : Hid _ := fun (_ : Unit) => ho1
    have HC1 : Hid _ := fun (_ : Unit) => hc1
    have HK1 : Hid _ := fun (_ : Unit) => hk1
    clear hc1 ho1 hk1 HN HK
    have hm0 : 0 ≤ x % n := Int.emod_nonneg _ (by omega)
    have hm1 : x % n < n := Int.emod_lt_of_pos _ (by omega)
    go_wp2
    go_ret
    exact ⟨_, _, hm0, hm1, rfl, by omega, by omega, HC1.out (), HK1.out (), HO.out ()⟩

set_option maxHeartbeats 400000 in
theorem bits_any (B : Nat) (w : World) (a : Option Addr) (len cap : Nat) (pos : Int) (hc : Cur B w a len cap pos) (hk : Code B w a len) (h0 : 0 ≤ pos) (h1 : pos ≤ 900000000) :
    Calls Tryd.prog 23 #[.pointer (some ⟨B, 0, none⟩)] w fun e w' => ∃ v : Int, (Lit.int .i64 v).wf = true ∧ e = .returned (.int .i64 v) ∧ Cur B w' a len cap (pos + 8) ∧ Code B w' a len ∧ Only B w w' := by
  have HS : Hid _ := fun (_ : Unit) => And.intro hc hk
  clear hc hk
  go_enter Tryd.func23, Tryd.ntmps23
  go_wp2
  go_loopw [3, 4] (fun n k wl => ∃ (j : Nat) (N : Int), j ≤ 8 ∧ n = .int .u64 N ∧ k = .int .i64 j ∧ Hid (Cur B wl a len cap (pos + j) ∧ Code B wl a len ∧ Only B w wl)) (fun _ k _ => 8 - (intOf k).toNat)
  case atStart => exact ⟨0, 0, by omega, rfl, rfl, by have := (HS.out ()).1; simpa using this, (HS.out ()).2, Only.refl _ _⟩
  case round =>
    obtain ⟨j, N, hj, rfl, rfl, HR⟩ := hrel
    by_cases hlt : j < 8
    · obtain ⟨hc, hk, ho⟩ := HR.out
      have HN : Hid _ := fun (_ : Unit) => next_any B wr a len cap (pos + j) hc hk (by omega) (by omega)
      have HX : Hid _ := fun (_ : Unit) => And.intro hk ho
      clear hc hk ho HR
      go_wp2_with fail
      refine (HN.out ()).mono ?_
      rintro e w1 ⟨x, hx0, hx1, rfl, hc1, ho1⟩
      have HY : Hid _ := fun (_ : Unit) => And.intro hc1 ho1
      clear hc1 ho1 HN
      go_wp2
      refine ⟨⟨j + 1, _, by omega, rfl, by go_num, ?_, (HX.out ()).1.only (HY.out ()).2, (HX.out ()).2.trans (HY.out ()).2⟩, by simp [intOf]; omega⟩
      have h := (HY.out ()).1
      rw [show pos + ((j + 1 : Nat) : Int) = pos + (j : Int) + 1 by omega]
      exact h
    · have e8 : j = 8 := by omega
      subst e8
      go_wp2
      go_ret
      exact ⟨_, wrap64_wf N, rfl, HR.out⟩

theorem small_wf (v : Int) (h0 : -1000 ≤ v) (h1 : v ≤ 1000) : (Lit.int .i64 v).wf = true := by
  refine WalkArith.wf_i64 ?_; omega
theorem Only.toBelow {B : Nat} {a b c : World} (h : Only B a b) (k : Below B b c) : Below B a c := (h.below (Nat.le_refl _)).trans k

set_option maxHeartbeats 1000000 in
theorem num_any (B : Nat) (w : World) (a : Option Addr) (len cap : Nat) (pos : Int) (hc : Cur B w a len cap pos) (hk : Code B w a len) (h0 : 0 ≤ pos) (h1 : pos ≤ 800000000) (hB : B < w.heap.size) :
    Calls Tryd.prog 16 #[.pointer (some ⟨B, 0, none⟩)] w fun e w' => ∃ v : Int, (Lit.int .i64 v).wf = true ∧ e = .returned (.int .i64 v) ∧ Below B w w' := by
  have HP : Hid _ := fun (_ : Unit) => pick_any B w a len cap pos 5 hc hk h0 (by omega) (by omega) (by omega)
  clear hc hk
  go_enter Tryd.func16, Tryd.ntmps16
  go_wp2_with fail
  refine (HP.out ()).mono ?_
  rintro e w1 ⟨x, pos1, hx0, hx1, rfl, hp0, hp1, hc1, hk1, ho1⟩
  clear HP
  have hx : x = 0 ∨ x = 1 ∨ x = 2 ∨ 3 ≤ x := by omega
  rcases hx with rfl | rfl | rfl | hx
  · have HN : Hid _ := fun (_ : Unit) => bits_any B w1 a len cap pos1 hc1 hk1 (by omega) (by omega)
    have HO : Hid _ := fun (_ : Unit) => ho1
    clear hc1 hk1 ho1
    go_wp2_with fail
    refine (HN.out ()).mono ?_
    rintro e w2 ⟨v, hv, rfl, hc2, hk2, ho2⟩
    have HO2 : Hid _ := fun (_ : Unit) => ho2
    clear hc2 hk2 ho2
    have HV : Hid _ := hv
    clear hv
    go_wp2
    go_ret
    exact ⟨v, HV.out, rfl, (HO.out ()).toBelow ((HO2.out ()).below (Nat.le_refl _))⟩
  · have HN : Hid _ := fun (_ : Unit) => bits_any B w1 a len cap pos1 hc1 hk1 (by omega) (by omega)
    have HO : Hid _ := fun (_ : Unit) => ho1
    clear hc1 hk1 ho1
    go_wp2_with fail
    refine (HN.out ()).mono ?_
    rintro e w2 ⟨v, hv, rfl, hc2, hk2, ho2⟩
    have HN2 : Hid _ := fun (_ : Unit) => pick_any B w2 a len cap (pos1 + 8) 64 hc2 hk2 (by omega) (by omega) (by omega) (by omega)
    have HO2 : Hid _ := fun (_ : Unit) => ho2
    clear hc2 hk2 ho2 hv HN
    go_wp2_with fail
    refine (HN2.out ()).mono ?_
    rintro e w3 ⟨y, pos3, hy0, hy1, rfl, hq0, hq1, hc3, hk3, ho3⟩
    have HO3 : Hid _ := fun (_ : Unit) => ho3
    clear hc3 hk3 ho3
    go_wp2
    go_ret
    exact ⟨_, wrap64_wf _, rfl, (HO.out ()).toBelow ((HO2.out ()).toBelow ((HO3.out ()).below (Nat.le_refl _)))⟩
  · have HO : Hid _ := fun (_ : Unit) => ho1
    have hsz : B < w1.heap.size := by rw [ho1.2.2.2.1]; exact hB
    have HC : Hid _ := fun (O : Obj) => pick_any B (w1.alloc O) a len cap pos1 9 (hc1.below ((Below.refl _ _).alloc (Nat.le_refl _) O) hsz) (hk1.below ((Below.refl _ _).alloc (Nat.le_refl _) O)) (by omega) (by omega) (by omega) (by omega)
    clear hc1 hk1 ho1
    go_wp2_with fail
    refine (HC.out _).mono ?_
    rintro e w2 ⟨y, pos3, hy0, hy1, rfl, hq0, hq1, hc3, hk3, ho3⟩
    have hcell := fun o => ho3.cell (p := ⟨w1.heap.size, o, none⟩) (show w1.heap.size ≠ B by omega)
    have HO3 : Hid _ := fun (_ : Unit) => ho3
    clear hc3 hk3 ho3 HC
    have hy : y = 0 ∨ y = 1 ∨ y = 2 ∨ y = 3 ∨ y = 4 ∨ y = 5 ∨ y = 6 ∨ y = 7 ∨ y = 8 := by omega
    rcases hy with rfl | rfl | rfl | rfl | rfl | rfl | rfl | rfl | rfl
    all_goals
      go_wp2
      go_ret
      exact ⟨_, by decide, rfl, (HO.out ()).toBelow (((Below.refl _ _).alloc (Nat.le_of_lt hsz) _).trans ((HO3.out ()).below (Nat.le_refl _)))⟩
  · have e0 : (x == 0) = false := beq_eq_false_iff_ne.2 (by omega)
    have e1 : (x == 1) = false := beq_eq_false_iff_ne.2 (by omega)
    have e2 : (x == 2) = false := beq_eq_false_iff_ne.2 (by omega)
    have HN : Hid _ := fun (_ : Unit) => pick_any B w1 a len cap pos1 200 hc1 hk1 (by omega) (by omega) (by omega) (by omega)
    have HO : Hid _ := fun (_ : Unit) => ho1
    clear hc1 hk1 ho1
    go_wp2_with fail
    refine (HN.out ()).mono ?_
    rintro e w2 ⟨y, pos3, hy0, hy1, rfl, hq0, hq1, hc3, hk3, ho3⟩
    have HO3 : Hid _ := fun (_ : Unit) => ho3
    clear hc3 hk3 ho3
    go_wp2
    go_ret
    exact ⟨_, small_wf _ (by omega) (by omega), rfl, (HO.out ()).toBelow ((HO3.out ()).below (Nat.le_refl _))⟩

set_option maxHeartbeats 400000 in
theorem ints_any (w : World) (a : Option Addr) (len cap : Nat) (hk : Code w.heap.size w a len) :
    Calls Tryd.prog 6 #[.slice a len cap] w fun e w' => ∃ v : Int, (Lit.int .i64 v).wf = true ∧ e = .returned (.int .i64 v) ∧ Below w.heap.size w w' := by
  have HK : Hid _ := fun (_ : Unit) => hk
  clear hk
  go_enter Tryd.func6, Tryd.ntmps6
  go_wp2_with fail
  refine (num_any w.heap.size _ a len cap 0 ⟨0, ?_, ?_, ?_, ?_, ?_⟩ ((HK.out ()).below ((Below.refl _ _).alloc (Nat.le_refl _) _)) (by omega) (by omega) (by simp)).mono ?_
  · simp [go_sem]
  · simp [go_sem]
  · simp [go_sem]
  · simp [go_sem]
  · simp [go_sem]
  rintro e w1 ⟨v, hv, rfl, hb⟩
  have HB : Hid _ := fun (_ : Unit) => And.intro hv hb
  clear hv hb
  go_wp2
  go_ret
  exact ⟨v, (HB.out ()).1, rfl, ((Below.refl _ _).alloc (Nat.le_refl _) _).trans (HB.out ()).2⟩
end Go.Proofs.YtpldpgdjdplbgaaDoor
