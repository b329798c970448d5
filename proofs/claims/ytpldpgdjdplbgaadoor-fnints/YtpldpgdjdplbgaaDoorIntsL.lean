/- The law on ints, walked. -/
import Derived.Test.YtpldpgdjdplbgaaDoorIntsW
import Derived.Laws.StructEq
import Derived.Deep.Cut
import Derived.Deep.RegionWith
namespace Go.Proofs.YtpldpgdjdplbgaaDoor
open Go.ChangeShapes Go.WideShapes Go.RowKit

theorem hop {w a b : World} (h : Below w.heap.size w a) (k : Below a.heap.size a b) : Below w.heap.size w b := h.trans (k.mono h.size)

set_option maxHeartbeats 1000000 in
set_option maxRecDepth 100000 in
theorem lawInts_small (w : World) (a0 a1 : Option Addr) (len0 cap0 len1 cap1 : Nat) (k0 : Bts w a0 len0) (k1 : Bts w a1 len1) (ht : Tab w) :
    Calls Tryd.prog 3 #[.slice a0 len0 cap0, .slice a1 len1 cap1] w fun e w' => e = .returned (.bool true) ∧ Below w.heap.size w w' := by
  have hl0 : len0 ≤ 1048576 := k0.1
  have hl1 : len1 ≤ 1048576 := k1.1
  have HW : Hid _ := fun (_ : Unit) => And.intro k0 (And.intro k1 ht)
  clear k0 k1 ht
  go_enter Tryd.func3, Tryd.ntmps3
  go_wp2_with fail
  refine (ints_any w a0 len0 cap0 (HW.out ()).1.code).mono ?_
  rintro e w1 ⟨n, hn, rfl, hb1⟩
  have H1 : Hid _ := fun (_ : Unit) => And.intro hn hb1
  clear hn hb1
  go_wp2_with fail
  refine (ints_any w1 a1 len1 cap1 ((HW.out ()).2.1.below (H1.out ()).2).code).mono ?_
  rintro e w2 ⟨d, hd, rfl, hb2⟩
  have H2 : Hid _ := fun (_ : Unit) => And.intro hd (hop (H1.out ()).2 hb2)
  clear hd hb2
  go_wp2_with fail
  refine (wByte_any w2 a1 len1 cap1 1 (by omega) (by omega) ((HW.out ()).2.1.below (H2.out ()).2)).mono ?_
  rintro e w2' ⟨v, hv0, hv1, rfl, hw2⟩
  subst hw2
  have hm0 : 0 ≤ v % 35 := Int.emod_nonneg _ (by omega)
  have hm1 : v % 35 < 35 := Int.emod_lt_of_pos _ (by omega)
  go_wp2_with fail
  have hb2 : 2 ≤ 2 + v % 35 := by omega
  have hb36 : 2 + v % 35 ≤ 36 := by omega
  generalize 2 + v % 35 = b at *
  clear hm0 hm1 hv0 hv1
  have HII : Hid _ := fun w ht hz => implInt_any n b w ht hz
  have HSI : Hid _ := specInt_any n b
  have HIB : Hid _ := fun w ht hz => implBits_any n b w ht hz
  have HSB : Hid _ := specBits_any n b
  have HBK : Hid _ := fun w => back_any n b w (H1.out ()).1 hb2 hb36
  have HPL : Hid _ := fun w h0 => plus_any n b w (H1.out ()).1 h0 hb2 hb36
  have hsz := intText_size n b
  generalize intText n b = s at *
  generalize bitsText n b = t at *
  have HT2 : Hid _ := fun (_ : Unit) => (HW.out ()).2.2.below (H2.out ()).2
  have hz0 : 0 < w2'.heap.size := by have := cell_lt (HT2.out () 0 (by omega)); exact this
  refine (HII.out w2' (HT2.out ()) hz0).mono ?_
  rintro e w3 ⟨rfl, hb3⟩
  have H3 : Hid _ := fun (_ : Unit) => hop (H2.out ()).2 hb3
  clear hb3 hz0 HII HT2
  go_wp2_with fail
  refine (HSI.out w3).mono ?_
  rintro e w3' ⟨rfl, hw3⟩
  subst hw3
  clear HSI
  go_wp2_with fail
  have HT3 : Hid _ := fun (_ : Unit) => (HW.out ()).2.2.below (H3.out ())
  have hz0 : 0 < w3'.heap.size := by have := cell_lt (HT3.out () 0 (by omega)); exact this
  refine (HIB.out w3' (HT3.out ()) hz0).mono ?_
  rintro e w4 ⟨rfl, hb4⟩
  have H4 : Hid _ := fun (_ : Unit) => hop (H3.out ()) hb4
  clear hb4 hz0 HIB HT3 H3
  go_wp2_with fail
  refine (HSB.out w4).mono ?_
  rintro e w4' ⟨rfl, hw4⟩
  subst hw4
  clear HSB
  go_wp2_with fail
  refine (HBK.out w4').mono ?_
  rintro e w5 ⟨rfl, hb5⟩
  have H5 : Hid _ := fun (_ : Unit) => hop (H4.out ()) hb5
  clear hb5 H4 HBK
  go_wp2_with fail
  go_cut [66] from 12 (fun s66 wc => s66 = .bool false ∧ Hid (Below w.heap.size w wc))
  case first =>
    by_cases hn0 : 0 ≤ n
    · have hd1 : decide (0 ≤ n) = true := decide_eq_true hn0
      go_region_with (go_at_call 12; refine (HPL.out _ hn0).mono ?_; rintro e w6 ⟨rfl, hb6⟩; have hz6 := hb6.size; obtain ⟨hc6, hf6⟩ := bcell hb6; have H6 : Hid _ := fun (_ : Unit) => hb6; clear hb6)
      all_goals
        go_wp2
        go_meet
        case rel => exact ⟨rfl, hop ((H5.out ()).alloc (H5.out ()).size _).drew (H6.out ())⟩
    · have hd0 : decide (0 ≤ n) = false := by simpa using hn0
      go_quiet (fail)
      go_wp2
      go_meet
      case rel => exact ⟨rfl, below_drewN ((H5.out ()).alloc (H5.out ()).size _) _⟩
  case rest =>
    obtain ⟨rfl, HC⟩ := hcut
    have hk1 := (HW.out ()).2.1.below HC.out
    have HBY : Hid _ := fun (_ : Unit) => wByte_any wc a1 len1 cap1 2 (by omega) (by omega) hk1
    clear hk1
    go_wp2_with fail
    refine (HBY.out ()).mono ?_
    rintro e wd ⟨y, hy0, hy1, rfl, hwd⟩
    subst hwd
    clear HBY
    have hm0 : 0 ≤ y % 140 := Int.emod_nonneg _ (by omega)
    have hm1 : y % 140 < 140 := Int.emod_lt_of_pos _ (by omega)
    have hn := (H1.out ()).1
    have hd := (H2.out ()).1
    have HDV : Hid _ := fun w => implDiv_any n d w
    by_cases hz : d = 0
    · rw [divCells_zero n d hz] at HDV
      subst hz
      clear hn hd H1 H2 HPL
      go_wp2_with (first | (go_at_call 13; refine (implShift_any _ _ _).mono ?_; rintro e w' ⟨rfl, rfl⟩) | (go_at_call 14; refine (specShift_any _ _ _).mono ?_; rintro e w' ⟨rfl, rfl⟩))
      refine (HDV.out _).mono ?_
      rintro e w7 ⟨rfl, hb7⟩
      have H7 : Hid _ := fun (_ : Unit) => hop HC.out hb7
      clear hb7
      go_wp2
      go_ret
      exact ⟨rfl, (H7.out ()).alloc (H7.out ()).size _⟩
    · obtain ⟨q, r, hq, hsum, hpos, hneg⟩ := div_facts n d hn hd hz
      rw [hq] at HDV
      have e0 : (d == 0) = false := beq_eq_false_iff_ne.2 hz
      have es : (wrap64 (wrap64 (q * d) + r) != n) = false := by simp [hsum]
      by_cases hp : 0 < d
      · obtain ⟨hr0, hr1⟩ := hpos hp
        clear hn hd H1 H2 HPL hz hq hsum hpos hneg
        go_wp2_with (first | (go_at_call 13; refine (implShift_any _ _ _).mono ?_; rintro e w' ⟨rfl, rfl⟩) | (go_at_call 14; refine (specShift_any _ _ _).mono ?_; rintro e w' ⟨rfl, rfl⟩))
        refine (HDV.out _).mono ?_
        rintro e w7 ⟨rfl, hb7⟩
        have H7 : Hid _ := fun (_ : Unit) => hop HC.out hb7
        clear hb7
        go_wp2
        go_ret
        exact ⟨by simp, (H7.out ()).alloc (H7.out ()).size _⟩
      · obtain ⟨hr0, hr1⟩ := hneg (by omega)
        have hp' : d ≤ 0 := by omega
        clear hn hd H1 H2 HPL hz hq hsum hpos hneg hp
        go_wp2_with (first | (go_at_call 13; refine (implShift_any _ _ _).mono ?_; rintro e w' ⟨rfl, rfl⟩) | (go_at_call 14; refine (specShift_any _ _ _).mono ?_; rintro e w' ⟨rfl, rfl⟩))
        refine (HDV.out _).mono ?_
        rintro e w7 ⟨rfl, hb7⟩
        have H7 : Hid _ := fun (_ : Unit) => hop HC.out hb7
        clear hb7
        go_wp2
        go_ret
        exact ⟨by simp, (H7.out ()).alloc (H7.out ()).size _⟩

/-- A slice of bytes that came in: nil, or it leads to a row of cells that hold bytes. -/
def IsRow (w : World) (a : Option Addr) (len cap : Nat) (zs : List Int) : Prop :=
  (a = none ∧ len = 0 ∧ cap = 0 ∧ zs = []) ∨
  ∃ x, a = some x ∧ len ≤ cap ∧ cap ≤ maxLen ∧ zs.length = cap ∧ (∀ i, i < zs.length → w.cell? (x.add i) = some (.int .u8 (zs.getD i 0))) ∧ ∀ n ∈ zs, (Lit.int .u8 n).wf = true
theorem IsRow.bts {w : World} {a : Option Addr} {len cap : Nat} {zs : List Int} (h : IsRow w a len cap zs) (hl : len ≤ 1048576) : Bts w a len := by
  refine ⟨hl, fun i hi => ?_⟩
  rcases h with ⟨_, rfl, _, _⟩ | ⟨x, rfl, hlc, _, hz, hc, hw⟩
  · omega
  · have hi' : i < zs.length := by omega
    have hm : zs.getD i 0 ∈ zs := by
      have e : zs.getD i 0 = zs[i] := by simp [List.getD, List.getElem?_eq_getElem hi']
      rw [e]; exact List.getElem_mem hi'
    have hb := bounds_u8 (hw _ hm)
    exact ⟨x, rfl, zs.getD i 0, hb.1, hb.2, hc i hi'⟩
theorem IsRow.len {w : World} {a : Option Addr} {len cap : Nat} {zs : List Int} (h : IsRow w a len cap zs) : len ≤ maxLen := by
  rcases h with ⟨_, rfl, _, _⟩ | ⟨x, _, hlc, hm, _, _, _⟩
  · exact Nat.zero_le _
  · omega

set_option maxHeartbeats 400000 in
theorem lawInts_any (w : World) (a0 a1 : Option Addr) (len0 cap0 len1 cap1 : Nat) (z0 z1 : List Int) (k0 : IsRow w a0 len0 cap0 z0) (k1 : IsRow w a1 len1 cap1 z1) (ht : Tab w) :
    Calls Tryd.prog 3 #[.slice a0 len0 cap0, .slice a1 len1 cap1] w fun e w' => e = .returned (.bool true) ∧ Below w.heap.size w w' := by
  have m0 := k0.len
  have m1 := k1.len
  by_cases h0 : len0 ≤ 1048576
  · by_cases h1 : len1 ≤ 1048576
    · exact lawInts_small w a0 a1 len0 cap0 len1 cap1 (k0.bts h0) (k1.bts h1) ht
    · unfold maxLen at m0 m1
      have h1' : 1048576 < len1 := by omega
      clear k0 k1 ht h1
      go_enter Tryd.func3, Tryd.ntmps3
      go_wp2
      go_ret
      exact ⟨rfl, Below.refl _ _⟩
  · unfold maxLen at m0 m1
    have h0' : 1048576 < len0 := by omega
    clear k0 k1 ht h0
    go_enter Tryd.func3, Tryd.ntmps3
    go_wp2
    go_ret
    exact ⟨rfl, Below.refl _ _⟩
end Go.Proofs.YtpldpgdjdplbgaaDoor
