import Derived.Test.YtaoccjaaopmfdaaGreatDoorB42
import Derived.Test.YtaoccjaaopmfdaaGreatDoorB28
import Derived.OpenShut
import Derived.Test.YtaoccjaaopmfdaaGreatDoorB27
import Derived.Test.YtaoccjaaopmfdaaGreatDoorB30
import Derived.Test.YtaoccjaaopmfdaaGreatDoorB41
/- The law on PartsOf, walked. -/
namespace Go.Proofs.YtaoccjaaopmfdaaGreatDoor
open Go.ChangeShapes Go.WideShapes Go.RowKit
open Ieee (double)

theorem implParts_of (x : Nat) (hx : x < 18446744073709551616) (k : Int) (s : Bool) (m e : Int) (h : partsV x k s m e) (w : World) (hT : DTab w) (hz : 1 < w.heap.size) :
    Calls Tryz.prog 18 #[.float .f64 x] w fun r w' => r = .returned (.agg #[.int .i64 k, .bool s, .int .i64 m, .int .i64 e]) ∧ Below w.heap.size w w' := by
  rcases h with ⟨hn, rfl, rfl, rfl, rfl⟩ | ⟨rfl, rfl, rfl, rfl⟩ | ⟨rfl, rfl, rfl, rfl⟩ | ⟨n, p, q, t, hc, h0, rfl, hn, hq, rfl, rfl, rfl⟩
  · obtain ⟨s, E, M, hE, hM, hU⟩ := word_parts x hx
    have hL := lays_any x s E M hE hM hU
    have c : ¬ E * 4503599627370496 + M ≤ 9218868437227405312 := fun h' => not_nan s _ h' (by rw [← hU]; exact hn)
    obtain rfl : E = 2047 := by omega
    exact implParts_nan x s M hL (by omega) w
  · exact implParts_inf _ s (lays_any _ s 2047 0 (by omega) (by omega) (by unfold iw; omega)) w
  · exact implParts_zero _ s (lays_any _ s 0 0 (by omega) (by omega) (by omega)) w
  · have hw := fw_canon s n p hc
    rcases hc with ⟨h1, h2, h3, h4⟩ | ⟨h1, rfl⟩
    · obtain ⟨M, rfl⟩ : ∃ M, n = 4503599627370496 + M := ⟨n - 4503599627370496, by omega⟩
      obtain ⟨E, hE⟩ : ∃ E : Nat, p = (E : Int) - 1 + -1074 := ⟨(p + 1075).toNat, by omega⟩
      have hU : fw s (4503599627370496 + M) p = signBit s + (E * 4503599627370496 + M) := by
        refine hw.trans ?_
        unfold rung
        obtain ⟨F, rfl⟩ : ∃ F, E = F + 1 := ⟨E - 1, by omega⟩
        rw [show (p + 1074).toNat = F by omega, Nat.succ_mul]
        omega
      refine implParts_normal _ s E M (lays_any _ s E M (by omega) (by omega) hU) (4503599627370496 + M) p q t hn hq h2 h3 h4 (fun w => kind_normal s E M (by omega) (by omega) w) (fun w => ?_) w hT hz
      rw [hE]
      exact size_normal s E M (by omega) (by omega) (by omega) w
    · have hU : fw s n (-1074) = signBit s + (0 * 4503599627370496 + n) := by
        refine hw.trans ?_
        unfold rung
        rw [show ((-1074 : Int) + 1074).toNat = 0 from rfl]
      exact implParts_small _ s n (lays_any _ s 0 n (by omega) h1 hU) n (-1074) q t hn hq (by omega) (by omega) (by omega) (fun w => kind_small s n (by omega) w) (fun w => size_small s n w) w hT hz
end Go.Proofs.YtaoccjaaopmfdaaGreatDoor

/- The bytes of a slice that came in. -/
namespace Go.Proofs.YtaoccjaaopmfdaaGreatDoor
open Go.ChangeShapes Go.WideShapes Go.RowKit

/-- The bytes of a slice that came in. -/
def Bts (w : World) (a : Option Addr) (len : Nat) : Prop := len ≤ 1048576 ∧ ∀ i : Nat, i < len → ∃ x : Addr, a = some x ∧ ∃ z : Int, 0 ≤ z ∧ z ≤ 255 ∧ w.cell? (x.add i) = some (.int .u8 z)
theorem Bts.below {w w' : World} {a : Option Addr} {len : Nat} (h : Bts w a len) (hb : Below w.heap.size w w') : Bts w' a len :=
  ⟨h.1, fun i hi => by
    obtain ⟨x, hx, z, h0, h1, hc⟩ := h.2 i hi
    exact ⟨x, hx, z, h0, h1, by rw [hb.cell (cell_lt hc)]; exact hc⟩⟩
theorem Bts.code {w : World} {a : Option Addr} {len : Nat} (h : Bts w a len) : Code w.heap.size w a len :=
  ⟨h.1, fun i hi => by
    obtain ⟨x, hx, z, h0, h1, hc⟩ := h.2 i hi
    have hl := cell_lt hc
    refine ⟨x, hx, fun e => ?_, z, h0, h1, hc⟩
    have : (x.add i).block = x.block := by unfold Addr.add; split <;> rfl
    omega⟩
/-- A slice of bytes that came in: nil, or it leads to a row of cells that hold bytes. -/
def IsRow (w : World) (a : Option Addr) (len cap : Nat) (zs : List Int) : Prop :=
  (a = none ∧ len = 0 ∧ cap = 0 ∧ zs = []) ∨
  ∃ x, a = some x ∧ len ≤ cap ∧ cap ≤ maxLen ∧ zs.length = cap ∧ (∀ i, i < zs.length → w.cell? (x.add i) = some (.int .u8 (zs.getD i 0))) ∧ ∀ n ∈ zs, (Lit.int .u8 n).wf = true
theorem IsRow.bts {w : World} {a : Option Addr} {len cap : Nat} {zs : List Int} (h : IsRow w a len cap zs) (hl : len ≤ 1048576) : Bts w a len := by
  refine ⟨hl, fun i hi => ?_⟩
  rcases h with ⟨_, rfl, _, _⟩ | ⟨x, rfl, hlc, _, hz, hc, hw⟩
  · omega
  · have hi' : i < zs.length := by omega
    have hm : zs.getD i 0 ∈ zs := by
      have e : zs.getD i 0 = zs[i] := by simp [List.getD, List.getElem?_eq_getElem hi']
      rw [e]; exact List.getElem_mem hi'
    have hb := bounds_u8 (hw _ hm)
    exact ⟨x, rfl, zs.getD i 0, hb.1, hb.2, hc i hi'⟩
theorem IsRow.len {w : World} {a : Option Addr} {len cap : Nat} {zs : List Int} (h : IsRow w a len cap zs) : len ≤ maxLen := by
  rcases h with ⟨_, rfl, _, _⟩ | ⟨x, _, hlc, hm, _, _, _⟩
  · exact Nat.zero_le _
  · omega
end Go.Proofs.YtaoccjaaopmfdaaGreatDoor

/- A byte of a slice, as the laws ask it. -/
namespace Go.Proofs.YtaoccjaaopmfdaaGreatDoor
open Go.ChangeShapes Go.WideShapes Go.RowKit

set_option maxHeartbeats 400000 in
theorem wByte_any (w : World) (a : Option Addr) (len cap : Nat) (i : Int) (hi : 0 ≤ i) (hi' : i ≤ 1000) (hk : Bts w a len) :
    Calls Tryz.prog 22 #[.slice a len cap, .int .i64 i] w fun e w' => ∃ v : Int, 0 ≤ v ∧ v ≤ 255 ∧ e = .returned (.int .i64 v) ∧ w' = w := by
  by_cases hz : len = 0
  · subst hz
    clear hk
    go_enter Tryz.func22, Tryz.ntmps22
    go_wp2
    go_ret
    exact ⟨0, by omega, by omega, rfl, rfl⟩
  · have hb : ((len : Int) == 0) = false := beq_eq_false_iff_ne.2 (by omega)
    have hm0 : 0 ≤ i % (len : Int) := Int.emod_nonneg _ (by omega)
    have hm1 : i % (len : Int) < len := Int.emod_lt_of_pos _ (by omega)
    obtain ⟨hlen, hk⟩ := hk
    obtain ⟨x, rfl, z, hz0, hz1, hx⟩ := hk (i % (len : Int)).toNat (by omega)
    clear hk
    go_enter Tryz.func22, Tryz.ntmps22
    go_wp2
    go_ret
    exact ⟨z, hz0, hz1, rfl, rfl⟩
end Go.Proofs.YtaoccjaaopmfdaaGreatDoor

/- The law on rounding, walked: over whatever Fixed and Digits answer as they should. -/
namespace Go.Proofs.YtaoccjaaopmfdaaGreatDoor
open Go.ChangeShapes Go.WideShapes Go.RowKit
open Ieee (double)

/-- What is read: the program's ReadFlt says so. -/
theorem some_ok (t : ByteArray) (x : Nat) (h : ReadsSome t ∨ IsNan x ∧ ReadA t true 0 IsNan) (w : World) :
    Calls Tryz.prog 27 #[.string t] w fun e w' => ∃ (pl : Int) (y : Nat), e = .returned (.agg #[.bool true, .int .i64 pl, .float .f64 y]) ∧ Below w.heap.size w w' := by
  obtain ⟨fl, hA⟩ : ∃ fl, ReadA t true 0 fl := by
    rcases h with ⟨v, h⟩ | ⟨_, h⟩
    · exact ⟨_, h⟩
    · exact ⟨_, h⟩
  refine (implRead_of t w (.inr fun ok pl fl h => (readA_one h hA).1)).mono ?_
  rintro e w' ⟨ok, pl, fl', y, hr, _, _, rfl, hb⟩
  obtain ⟨rfl, rfl, rfl⟩ := readA_one hr hA
  exact ⟨_, y, rfl, hb⟩
set_option maxHeartbeats 4000000 in
set_option maxRecDepth 100000 in
theorem lawFnRounded_small (G : World → Prop) (HG0 : ∀ w w', G w → Below w.heap.size w w' → G w')
    (HFX0 : ∀ x, x < 18446744073709551616 → ∀ (n : Int) w, G w → Calls Tryz.prog 23 #[.float .f64 x, .int .i64 n] w fun e w' => ∃ t, fixedV x n t ∧ e = .returned (.string t) ∧ Below w.heap.size w w')
    (HDG0 : ∀ x, x < 18446744073709551616 → ∀ (n : Int) w, G w → Calls Tryz.prog 24 #[.float .f64 x, .int .i64 n] w fun e w' => ∃ t, digitsV x n t ∧ e = .returned (.string t) ∧ Below w.heap.size w w')
    (w : World) (a : Option Addr) (len cap : Nat) (a1 : Option Addr) (len1 cap1 : Nat) (k0 : Bts w a len) (k1 : Bts w a1 len1) (hG : G w) (hT : DTab w) (hz : 1 < w.heap.size) :
    Calls Tryz.prog 5 #[.slice a len cap, .slice a1 len1 cap1] w fun e w' => e = .returned (.bool true) ∧ Below w.heap.size w w' := by
  have hl : len ≤ 1048576 := k0.1
  have hl1 : len1 ≤ 1048576 := k1.1
  have HW : Hid _ := fun (_ : Unit) => drawn_any w a len cap k0.code
  have HK1 : Hid (Bts w a1 len1) := k1
  have HG : Hid _ := HG0
  have HFX : Hid _ := HFX0
  have HDG : Hid _ := HDG0
  have HGw : Hid (G w) := hG
  have HTw : Hid (DTab w ∧ 1 < w.heap.size) := ⟨hT, hz⟩
  clear k0 k1 HG0 HFX0 HDG0 hG hT hz
  go_enter Tryz.func5, Tryz.ntmps5
  go_wp2_with fail
  refine (HW.out ()).mono ?_
  rintro e w1 ⟨x, hx, rfl, hb1⟩
  have H1 : Hid (Below w.heap.size w w1) := hb1
  have HG1 : Hid (G w1) := HG.out _ _ HGw.out hb1
  have HX : Hid (x < 18446744073709551616) := hx
  have HBY : Hid _ := fun (_ : Unit) => wByte_any w1 a1 len1 cap1 0 (by omega) (by omega) (HK1.out.below hb1)
  clear hb1 HW HGw hx HK1
  go_wp2_with fail
  refine (HBY.out ()).mono ?_
  rintro e w1' ⟨y, hy0, hy1, rfl, hw1⟩
  subst hw1
  have hm0 : 0 ≤ y % 30 := Int.emod_nonneg _ (by omega)
  have hm1 : y % 30 < 30 := Int.emod_lt_of_pos _ (by omega)
  have hmt : y.tmod 30 = y % 30 := Int.tmod_eq_emod_of_nonneg hy0
  obtain ⟨n, hn⟩ : ∃ n : Nat, y % 30 = (n : Int) := ⟨(y % 30).toNat, by omega⟩
  have hn30 : n < 30 := by omega
  clear HBY
  go_wp2_with fail
  refine (HFX.out x HX.out (n : Int) _ HG1.out).mono ?_
  rintro e w2 ⟨t, ht, rfl, hb2⟩
  have H2 : Hid (Below w.heap.size w w2) := H1.out.trans (hb2.mono H1.out.size)
  have HG2 : Hid (G w2) := HG.out _ _ HG1.out hb2
  have HVT : Hid (fixedV x (n : Int) t) := ht
  clear ht hb2 H1 HG1 HFX hmt hm0 hm1 hn hy0 hy1
  go_wp2_with fail
  refine (HDG.out x HX.out ((n : Int) + 1) _ HG2.out).mono ?_
  rintro e w3 ⟨u, hu, rfl, hb3⟩
  have H3 : Hid (Below w.heap.size w w3) := H2.out.trans (hb3.mono H2.out.size)
  have HVU : Hid (digitsV x ((n : Int) + 1) u) := hu
  clear hu hb3 H2 HG2 HDG HG
  go_wp2_with fail
  refine (specFixed_any x HX.out (n : Int) _).mono ?_
  rintro e w4 ⟨t', ht, _, rfl, hb4⟩
  obtain rfl := fixedV_one x _ t t' HVT.out ht
  have H4 : Hid (Below w.heap.size w w4) := H3.out.trans (hb4.mono H3.out.size)
  clear ht hb4 H3
  go_wp2_with fail
  refine (specDigits5_any x HX.out ((n : Int) + 1) _).mono ?_
  rintro e w5 ⟨u', hu, rfl, hb5⟩
  obtain rfl := digitsV_one x _ u u' HVU.out hu
  have H5 : Hid (Below w.heap.size w w5) := H4.out.trans (hb5.mono H4.out.size)
  clear hu hb5 H4
  obtain ⟨k, s, m, ex, hp⟩ := partsV_some x HX.out
  have HPV : Hid (partsV x k s m ex) := hp
  have HIP : Hid _ := fun (_ : Unit) => implParts_of x HX.out k s m ex hp w5 (HTw.out.1.below HTw.out.2 H5.out) (by have := HTw.out.2; have := H5.out.size; omega)
  have hfd : ∀ w : World, (Instr.field 32 (.agg #[.int .i64 k, .bool s, .int .i64 m, .int .i64 ex]) 0).run Tryz.prog w = .ok (.int .i64 k) w := fun _ => by kernel_rfl
  have hfo : ∀ (pl : Int) (y : Nat) (w : World), (Instr.field 40 (.agg #[.bool true, .int .i64 pl, .float .f64 y]) 0).run Tryz.prog w = .ok (.bool true) w := fun _ _ _ => by kernel_rfl
  clear hp HTw
  go_wp2_with fail
  refine (HIP.out ()).mono ?_
  rintro e w6 ⟨rfl, hb6⟩
  have H6 : Hid (Below w.heap.size w w6) := H5.out.trans (hb6.mono H5.out.size)
  clear hb6 H5 HIP
  obtain ⟨f1, f2⟩ := rnd_fixed x n (by omega) t HVT.out
  obtain ⟨d1, d2, d3⟩ := rnd_digits x (n + 1) (by omega) (by omega) u (by have := HVU.out; rw [show ((n + 1 : Nat) : Int) = (n : Int) + 1 by omega]; exact this)
  have HYES : Hid (∀ v, Reads v x → ∀ w, Calls Tryz.prog 17 #[.string v, .float .f64 x] w fun e w' => e = .returned (.bool true) ∧ Below w.heap.size w w') := fun v hv w => by
    obtain ⟨fl, h1, h2, h3⟩ := hv
    exact wRead_yes v x HX.out fl h1 h2 h3 w
  by_cases hk : k = 1
  · have hkb : (k != 1) = false := by rw [hk]; rfl
    have HO1 : Hid _ := fun w => some_ok t x f1 w
    have HO2 : Hid _ := fun w => some_ok u x d1 w
    have HD3 : Hid (17 ≤ n + 1 → Reads u x) := d3
    clear f1 f2 d1 d2 d3 hk
    go_wp2_with fail
    refine (HO1.out _).mono ?_
    rintro e w7 ⟨pl, y1, rfl, hb7⟩
    have H7 : Hid (Below w.heap.size w w7) := H6.out.trans (hb7.mono H6.out.size)
    clear hb7 H6 HO1
    go_wp2_with fail
    refine (HO2.out _).mono ?_
    rintro e w8 ⟨pl2, y2, rfl, hb8⟩
    have H8 : Hid (Below w.heap.size w w8) := H7.out.trans (hb8.mono H7.out.size)
    clear hb8 H7 HO2
    by_cases h17 : (n : Int) < 17
    · have h17' : decide ((n : Int) < 17) = true := decide_eq_true h17
      go_wp2
      go_ret
      exact ⟨rfl, H8.out⟩
    · have h17' : decide ((n : Int) < 17) = false := decide_eq_false h17
      have HY : Hid _ := fun w => HYES.out u (HD3.out (by omega)) w
      go_wp2_with fail
      refine (HY.out _).mono ?_
      rintro e w9 ⟨rfl, hb9⟩
      have H9 : Hid (Below w.heap.size w w9) := H8.out.trans (hb9.mono H8.out.size)
      clear hb9
      go_wp2
      go_ret
      exact ⟨rfl, H9.out⟩
  · have hkb : (k != 1) = true := bne_iff_ne.2 hk
    have hno : ∀ s n p, Canon n p → 0 < n → x ≠ fw s n p := fun s' n' p' hc hn he => by
      rcases HPV.out with ⟨h, _⟩ | ⟨h, _⟩ | ⟨h, _⟩ | ⟨_, _, _, _, _, _, _, _, _, h, _⟩
      · rw [he] at h; exact nan_not_fw _ _ _ hc h
      · rw [he] at h; exact iw_fw _ _ _ _ hc h.symm
      · rw [he] at h; exact sign_fw _ _ _ _ hc hn h.symm
      · exact hk h
    have HY1 : Hid _ := fun w => HYES.out t (f2 hno) w
    have HY2 : Hid _ := fun w => HYES.out u (d2 hno) w
    clear f1 f2 d1 d2 d3 hno hk
    go_wp2_with fail
    refine (HY1.out _).mono ?_
    rintro e w7 ⟨rfl, hb7⟩
    have H7 : Hid (Below w.heap.size w w7) := H6.out.trans (hb7.mono H6.out.size)
    clear hb7 H6 HY1
    go_wp2_with fail
    refine (HY2.out _).mono ?_
    rintro e w8 ⟨rfl, hb8⟩
    have H8 : Hid (Below w.heap.size w w8) := H7.out.trans (hb8.mono H7.out.size)
    clear hb8 H7
    go_wp2
    go_ret
    exact ⟨rfl, H8.out⟩
set_option maxHeartbeats 400000 in
theorem lawFnRounded_any (G : World → Prop) (HG0 : ∀ w w', G w → Below w.heap.size w w' → G w')
    (HFX0 : ∀ x, x < 18446744073709551616 → ∀ (n : Int) w, G w → Calls Tryz.prog 23 #[.float .f64 x, .int .i64 n] w fun e w' => ∃ t, fixedV x n t ∧ e = .returned (.string t) ∧ Below w.heap.size w w')
    (HDG0 : ∀ x, x < 18446744073709551616 → ∀ (n : Int) w, G w → Calls Tryz.prog 24 #[.float .f64 x, .int .i64 n] w fun e w' => ∃ t, digitsV x n t ∧ e = .returned (.string t) ∧ Below w.heap.size w w')
    (w : World) (a : Option Addr) (len cap : Nat) (z : List Int) (k : IsRow w a len cap z) (a1 : Option Addr) (len1 cap1 : Nat) (z1 : List Int) (k1 : IsRow w a1 len1 cap1 z1) (hG : G w) (hT : DTab w) (hz : 1 < w.heap.size) :
    Calls Tryz.prog 5 #[.slice a len cap, .slice a1 len1 cap1] w fun e w' => e = .returned (.bool true) ∧ Below w.heap.size w w' := by
  have m0 := k.len
  have m1 := k1.len
  by_cases h0 : len ≤ 1048576
  · by_cases h1 : len1 ≤ 1048576
    · exact lawFnRounded_small G HG0 HFX0 HDG0 w a len cap a1 len1 cap1 (k.bts h0) (k1.bts h1) hG hT hz
    · unfold maxLen at m0 m1
      have h1' : 1048576 < len1 := by omega
      clear k k1 h1 HG0 HFX0 HDG0 hG hT hz
      go_enter Tryz.func5, Tryz.ntmps5
      go_wp2
      go_ret
      exact ⟨rfl, Below.refl _ _⟩
  · unfold maxLen at m0 m1
    have h0' : 1048576 < len := by omega
    clear k k1 h0 HG0 HFX0 HDG0 hG hT hz
    go_enter Tryz.func5, Tryz.ntmps5
    go_wp2
    go_ret
    exact ⟨rfl, Below.refl _ _⟩
end Go.Proofs.YtaoccjaaopmfdaaGreatDoor

