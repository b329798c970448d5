import Derived.Test.YtpmccbkhkaoccaaGreatDoorR02
import Derived.Test.YtpmccbkhkaoccaaGreatDoorB03
import Derived.Test.YtpmccbkhkaoccaaGreatDoorB33
import Derived.Test.YtpmccbkhkaoccaaGreatDoorB40
import Derived.Test.YtpmccbkhkaoccaaGreatDoorR01
import Derived.OpenShut
import Derived.Test.YtpmccbkhkaoccaaGreatDoorB06
/- Drawn of the specification. -/
namespace Go.Proofs.YtpmccbkhkaoccaaGreatDoor
open Go.ChangeShapes Go.WideShapes Go.RowKit

set_option maxHeartbeats 400000 in
theorem drawn_any (w : World) (a : Option Addr) (len cap : Nat) (hk : Code w.heap.size w a len) :
    Calls Tryz.prog 7 #[.slice a len cap] w fun e w' => ∃ x : Nat, x < 18446744073709551616 ∧ e = .returned (.float .f64 x) ∧ Below w.heap.size w w' := by
  have HK : Hid _ := fun T => DS.start w a len cap T hk
  clear hk
  go_enter Tryz.func7, Tryz.ntmps7
  go_wp2_with fail
  refine (flt_ds w.heap.size w _ a len cap 0 (HK.out _) (by omega)).mono ?_
  rintro e w1 ⟨r, hr, rfl, hd⟩
  have H1 : Hid _ := fun (_ : Unit) => hd
  have HR : Hid (r < 18446744073709551616) := hr
  clear hd hr HK
  go_wp2
  go_ret
  exact ⟨r, HR.out, rfl, (H1.out ()).done⟩
end Go.Proofs.YtpmccbkhkaoccaaGreatDoor

/- Floats held against each other, as the laws over drawn inputs do it. -/
namespace Go.Proofs.YtpmccbkhkaoccaaGreatDoor
open Go.ChangeShapes Go.WideShapes Go.RowKit
open Ieee (double)

set_option maxHeartbeats 400000 in
theorem wflt_nan (x y : Nat) (hx : IsNan x) (hy : IsNan y) (w : World) :
    Calls Tryz.prog 14 #[.float .f64 x, .float .f64 y] w fun e w' => e = .returned (.bool true) ∧ w' = w := by
  have h1 : (FloatKind.f64.format.order x x != some .eq) = true := nan_neq x hx
  have h2 : (FloatKind.f64.format.order y y != some .eq) = true := nan_neq y hy
  go_enter Tryz.func14, Tryz.ntmps14
  go_wp2
  go_ret
  exact ⟨rfl, rfl⟩
set_option maxHeartbeats 400000 in
theorem wflt_some (x : Nat) (h1 : FloatKind.f64.format.order x x = some .eq) (h2 : FloatKind.f64.format.order x 0 = some .lt ∨ FloatKind.f64.format.order x 0 = some .gt) (w : World) :
    Calls Tryz.prog 14 #[.float .f64 x, .float .f64 x] w fun e w' => e = .returned (.bool true) ∧ w' = w := by
  rcases h2 with h2 | h2
  all_goals
    go_enter Tryz.func14, Tryz.ntmps14
    go_wp2
    go_ret
    exact ⟨rfl, rfl⟩
set_option maxHeartbeats 400000 in
theorem wflt_zero (s : Bool) (w : World) :
    Calls Tryz.prog 14 #[.float .f64 (signBit s), .float .f64 (signBit s)] w fun e w' => e = .returned (.bool true) ∧ w' = w := by
  have hn : FloatKind.f64.format.order (signBit s) (signBit s) = some .eq := by
    have := order_self_fw s 0 (-1074) canon_zero
    rw [fw_zero] at this
    exact this
  have hz : FloatKind.f64.format.order (signBit s) 0 = some .eq := ord_zeros s
  have hd := run_valid (P := Tryz.prog) .quo 23 _ _ _ (one_by_zero s)
  have hi : FloatKind.f64.format.order (iw s) (iw s) = some .eq := order_self_iw s
  generalize iw s = I at *
  generalize signBit s = Z at *
  go_enter Tryz.func14, Tryz.ntmps14
  go_wp2
  go_ret
  exact ⟨rfl, rfl⟩
/-- One float is the same as itself. -/
theorem wflt_self (x : Nat) (hx : x < 18446744073709551616) (w : World) :
    Calls Tryz.prog 14 #[.float .f64 x, .float .f64 x] w fun e w' => e = .returned (.bool true) ∧ w' = w := by
  rcases float_cases x hx with h | ⟨s, rfl⟩ | ⟨s, n, p, hc, rfl⟩
  · exact wflt_nan x x h h w
  · refine wflt_some (iw s) (order_self_iw s) ?_ w
    have := ord_inf_zero s
    cases s
    · exact .inr this
    · exact .inl this
  · by_cases h0 : n = 0
    · subst h0; rw [fw_zero]; exact wflt_zero s w
    · refine wflt_some _ (order_self_fw s n p hc) ?_ w
      have := ord_zero s n p (canon_rep n p hc) (by omega)
      cases s
      · exact .inr this
      · exact .inl this
end Go.Proofs.YtpmccbkhkaoccaaGreatDoor

/- A text that is read as a float, or as another one, as the laws ask it. -/
namespace Go.Proofs.YtpmccbkhkaoccaaGreatDoor
open Go.ChangeShapes Go.WideShapes Go.RowKit
open Ieee (double)

attribute [local go_sem] run_store_float

theorem wflt_one {fl : Nat → Prop} {x y : Nat} (h : fl = IsNan ∨ fl = (· = x)) (hx : fl x) (hy : fl y) (hlx : x < 18446744073709551616) (w : World) :
    Calls Tryz.prog 14 #[.float .f64 y, .float .f64 x] w fun e w' => e = .returned (.bool true) ∧ w' = w := by
  rcases h with rfl | rfl
  · exact wflt_nan y x hy hx w
  · have h2 : y = x := hy
    rw [h2]
    exact wflt_self x hlx w
set_option maxHeartbeats 400000 in
/-- What is read as a float is found to be so. -/
theorem wRead_yes (s : ByteArray) (x : Nat) (hx : x < 18446744073709551616) (fl : Nat → Prop) (hA : ReadA s true 0 fl) (hfx : fl x) (hfl : fl = IsNan ∨ fl = (· = x)) (w : World) :
    Calls Tryz.prog 17 #[.string s, .float .f64 x] w fun e w' => e = .returned (.bool true) ∧ Below w.heap.size w w' := by
  have HR : Hid _ := fun (_ : Unit) => implRead_of s w (.inr fun ok pl fl h => (readA_one h hA).1)
  have HQ : Hid _ := fun (_ : Unit) => And.intro hA (And.intro hfx (And.intro hfl hx))
  clear hA hfx hfl hx
  go_enter Tryz.func17, Tryz.ntmps17
  go_wp2_with fail
  refine (HR.out ()).mono ?_
  rintro e w1 ⟨ok, pl, fl', y, hr, hy, _, rfl, hb⟩
  obtain ⟨h1, h2, h3, h4⟩ := HQ.out ()
  obtain ⟨rfl, rfl, rfl⟩ := readA_one hr h1
  have HB : Hid (Below w.heap.size w w1) := hb
  have HW : Hid _ := fun w => wflt_one h3 h2 hy h4 w
  clear hb HR HQ h1 h2 h3 h4 hr hy
  go_wp2_with fail
  refine (HW.out _).mono ?_
  rintro e w2 ⟨rfl, rfl⟩
  go_wp2
  go_ret
  exact ⟨rfl, HB.out.alloc HB.out.size _⟩
set_option maxHeartbeats 400000 in
/-- What is read as another number is found not to be so. -/
theorem wRead_no (s : ByteArray) (x v : Nat) (hA : ReadA s true 0 (· = v)) (h1 : FloatKind.f64.format.order x x = some .eq) (h2 : FloatKind.f64.format.order v v = some .eq) (h3 : (FloatKind.f64.format.order v x == some .eq) = false) (w : World) :
    Calls Tryz.prog 17 #[.string s, .float .f64 x] w fun e w' => e = .returned (.bool false) ∧ Below w.heap.size w w' := by
  have HR : Hid _ := fun (_ : Unit) => implRead_of s w (.inr fun ok pl fl h => (readA_one h hA).1)
  have HQ : Hid _ := fun (_ : Unit) => hA
  have HW : Hid (∀ w, Calls Tryz.prog 14 #[.float .f64 v, .float .f64 x] w fun e w' => e = .returned (.bool false) ∧ w' = w) := fun w => by
    go_enter Tryz.func14, Tryz.ntmps14
    go_wp2
    go_ret
    exact ⟨rfl, rfl⟩
  clear hA h1 h2 h3
  go_enter Tryz.func17, Tryz.ntmps17
  go_wp2_with fail
  refine (HR.out ()).mono ?_
  rintro e w1 ⟨ok, pl, fl', y, hr, hy, _, rfl, hb⟩
  obtain ⟨rfl, rfl, rfl⟩ := readA_one hr (HQ.out ())
  cases hy
  have HB : Hid (Below w.heap.size w w1) := hb
  clear hb HR HQ hr
  go_wp2_with fail
  refine (HW.out _).mono ?_
  rintro e w2 ⟨rfl, rfl⟩
  go_wp2
  go_ret
  exact ⟨rfl, HB.out.alloc HB.out.size _⟩
end Go.Proofs.YtpmccbkhkaoccaaGreatDoor

/- The bytes of a slice that came in. -/
namespace Go.Proofs.YtpmccbkhkaoccaaGreatDoor
open Go.ChangeShapes Go.WideShapes Go.RowKit

/-- The bytes of a slice that came in. -/
def Bts (w : World) (a : Option Addr) (len : Nat) : Prop := len ≤ 1048576 ∧ ∀ i : Nat, i < len → ∃ x : Addr, a = some x ∧ ∃ z : Int, 0 ≤ z ∧ z ≤ 255 ∧ w.cell? (x.add i) = some (.int .u8 z)
theorem Bts.below {w w' : World} {a : Option Addr} {len : Nat} (h : Bts w a len) (hb : Below w.heap.size w w') : Bts w' a len :=
  ⟨h.1, fun i hi => by
    obtain ⟨x, hx, z, h0, h1, hc⟩ := h.2 i hi
    exact ⟨x, hx, z, h0, h1, by rw [hb.cell (cell_lt hc)]; exact hc⟩⟩
theorem Bts.code {w : World} {a : Option Addr} {len : Nat} (h : Bts w a len) : Code w.heap.size w a len :=
  ⟨h.1, fun i hi => by
    obtain ⟨x, hx, z, h0, h1, hc⟩ := h.2 i hi
    have hl := cell_lt hc
    refine ⟨x, hx, fun e => ?_, z, h0, h1, hc⟩
    have : (x.add i).block = x.block := by unfold Addr.add; split <;> rfl
    omega⟩
/-- A slice of bytes that came in: nil, or it leads to a row of cells that hold bytes. -/
def IsRow (w : World) (a : Option Addr) (len cap : Nat) (zs : List Int) : Prop :=
  (a = none ∧ len = 0 ∧ cap = 0 ∧ zs = []) ∨
  ∃ x, a = some x ∧ len ≤ cap ∧ cap ≤ maxLen ∧ zs.length = cap ∧ (∀ i, i < zs.length → w.cell? (x.add i) = some (.int .u8 (zs.getD i 0))) ∧ ∀ n ∈ zs, (Lit.int .u8 n).wf = true
theorem IsRow.bts {w : World} {a : Option Addr} {len cap : Nat} {zs : List Int} (h : IsRow w a len cap zs) (hl : len ≤ 1048576) : Bts w a len := by
  refine ⟨hl, fun i hi => ?_⟩
  rcases h with ⟨_, rfl, _, _⟩ | ⟨x, rfl, hlc, _, hz, hc, hw⟩
  · omega
  · have hi' : i < zs.length := by omega
    have hm : zs.getD i 0 ∈ zs := by
      have e : zs.getD i 0 = zs[i] := by simp [List.getD, List.getElem?_eq_getElem hi']
      rw [e]; exact List.getElem_mem hi'
    have hb := bounds_u8 (hw _ hm)
    exact ⟨x, rfl, zs.getD i 0, hb.1, hb.2, hc i hi'⟩
theorem IsRow.len {w : World} {a : Option Addr} {len cap : Nat} {zs : List Int} (h : IsRow w a len cap zs) : len ≤ maxLen := by
  rcases h with ⟨_, rfl, _, _⟩ | ⟨x, _, hlc, hm, _, _, _⟩
  · exact Nat.zero_le _
  · omega
end Go.Proofs.YtpmccbkhkaoccaaGreatDoor

/- A byte of a slice, as the laws ask it. -/
namespace Go.Proofs.YtpmccbkhkaoccaaGreatDoor
open Go.ChangeShapes Go.WideShapes Go.RowKit

set_option maxHeartbeats 400000 in
theorem wByte_any (w : World) (a : Option Addr) (len cap : Nat) (i : Int) (hi : 0 ≤ i) (hi' : i ≤ 1000) (hk : Bts w a len) :
    Calls Tryz.prog 22 #[.slice a len cap, .int .i64 i] w fun e w' => ∃ v : Int, 0 ≤ v ∧ v ≤ 255 ∧ e = .returned (.int .i64 v) ∧ w' = w := by
  by_cases hz : len = 0
  · subst hz
    clear hk
    go_enter Tryz.func22, Tryz.ntmps22
    go_wp2
    go_ret
    exact ⟨0, by omega, by omega, rfl, rfl⟩
  · have hb : ((len : Int) == 0) = false := beq_eq_false_iff_ne.2 (by omega)
    have hm0 : 0 ≤ i % (len : Int) := Int.emod_nonneg _ (by omega)
    have hm1 : i % (len : Int) < len := Int.emod_lt_of_pos _ (by omega)
    obtain ⟨hlen, hk⟩ := hk
    obtain ⟨x, rfl, z, hz0, hz1, hx⟩ := hk (i % (len : Int)).toNat (by omega)
    clear hk
    go_enter Tryz.func22, Tryz.ntmps22
    go_wp2
    go_ret
    exact ⟨z, hz0, hz1, rfl, rfl⟩
end Go.Proofs.YtpmccbkhkaoccaaGreatDoor

/- The law on rounding, walked: over whatever Fixed and Digits answer as they should. -/
namespace Go.Proofs.YtpmccbkhkaoccaaGreatDoor
open Go.ChangeShapes Go.WideShapes Go.RowKit
open Ieee (double)

/-- What is read: the program's ReadFlt says so. -/
theorem some_ok (t : ByteArray) (x : Nat) (h : ReadsSome t ∨ IsNan x ∧ ReadA t true 0 IsNan) (w : World) :
    Calls Tryz.prog 27 #[.string t] w fun e w' => ∃ (pl : Int) (y : Nat), e = .returned (.agg #[.bool true, .int .i64 pl, .float .f64 y]) ∧ Below w.heap.size w w' := by
  obtain ⟨fl, hA⟩ : ∃ fl, ReadA t true 0 fl := by
    rcases h with ⟨v, h⟩ | ⟨_, h⟩
    · exact ⟨_, h⟩
    · exact ⟨_, h⟩
  refine (implRead_of t w (.inr fun ok pl fl h => (readA_one h hA).1)).mono ?_
  rintro e w' ⟨ok, pl, fl', y, hr, _, _, rfl, hb⟩
  obtain ⟨rfl, rfl, rfl⟩ := readA_one hr hA
  exact ⟨_, y, rfl, hb⟩
set_option maxHeartbeats 4000000 in
set_option maxRecDepth 100000 in
theorem lawFnRounded_small (G : World → Prop) (HG0 : ∀ w w', G w → Below w.heap.size w w' → G w')
    (HFX0 : ∀ x, x < 18446744073709551616 → ∀ (n : Int) w, G w → Calls Tryz.prog 23 #[.float .f64 x, .int .i64 n] w fun e w' => ∃ t, fixedV x n t ∧ e = .returned (.string t) ∧ Below w.heap.size w w')
    (HDG0 : ∀ x, x < 18446744073709551616 → ∀ (n : Int) w, G w → Calls Tryz.prog 24 #[.float .f64 x, .int .i64 n] w fun e w' => ∃ t, digitsV x n t ∧ e = .returned (.string t) ∧ Below w.heap.size w w')
    (w : World) (a : Option Addr) (len cap : Nat) (a1 : Option Addr) (len1 cap1 : Nat) (k0 : Bts w a len) (k1 : Bts w a1 len1) (hG : G w) (hT : DTab w) (hz : 1 < w.heap.size) :
    Calls Tryz.prog 5 #[.slice a len cap, .slice a1 len1 cap1] w fun e w' => e = .returned (.bool true) ∧ Below w.heap.size w w' := by
  have hl : len ≤ 1048576 := k0.1
  have hl1 : len1 ≤ 1048576 := k1.1
  have HW : Hid _ := fun (_ : Unit) => drawn_any w a len cap k0.code
  have HK1 : Hid (Bts w a1 len1) := k1
  have HG : Hid _ := HG0
  have HFX : Hid _ := HFX0
  have HDG : Hid _ := HDG0
  have HGw : Hid (G w) := hG
  have HTw : Hid (DTab w ∧ 1 < w.heap.size) := ⟨hT, hz⟩
  clear k0 k1 HG0 HFX0 HDG0 hG hT hz
  go_enter Tryz.func5, Tryz.ntmps5
  go_wp2_with fail
  refine (HW.out ()).mono ?_
  rintro e w1 ⟨x, hx, rfl, hb1⟩
  have H1 : Hid (Below w.heap.size w w1) := hb1
  have HG1 : Hid (G w1) := HG.out _ _ HGw.out hb1
  have HX : Hid (x < 18446744073709551616) := hx
  have HBY : Hid _ := fun (_ : Unit) => wByte_any w1 a1 len1 cap1 0 (by omega) (by omega) (HK1.out.below hb1)
  clear hb1 HW HGw hx HK1
  go_wp2_with fail
  refine (HBY.out ()).mono ?_
  rintro e w1' ⟨y, hy0, hy1, rfl, hw1⟩
  subst hw1
  have hm0 : 0 ≤ y % 30 := Int.emod_nonneg _ (by omega)
  have hm1 : y % 30 < 30 := Int.emod_lt_of_pos _ (by omega)
  have hmt : y.tmod 30 = y % 30 := Int.tmod_eq_emod_of_nonneg hy0
  obtain ⟨n, hn⟩ : ∃ n : Nat, y % 30 = (n : Int) := ⟨(y % 30).toNat, by omega⟩
  have hn30 : n < 30 := by omega
  clear HBY
  go_wp2_with fail
  refine (HFX.out x HX.out (n : Int) _ HG1.out).mono ?_
  rintro e w2 ⟨t, ht, rfl, hb2⟩
  have H2 : Hid (Below w.heap.size w w2) := H1.out.trans (hb2.mono H1.out.size)
  have HG2 : Hid (G w2) := HG.out _ _ HG1.out hb2
  have HVT : Hid (fixedV x (n : Int) t) := ht
  clear ht hb2 H1 HG1 HFX hmt hm0 hm1 hn hy0 hy1
  go_wp2_with fail
  refine (HDG.out x HX.out ((n : Int) + 1) _ HG2.out).mono ?_
  rintro e w3 ⟨u, hu, rfl, hb3⟩
  have H3 : Hid (Below w.heap.size w w3) := H2.out.trans (hb3.mono H2.out.size)
  have HVU : Hid (digitsV x ((n : Int) + 1) u) := hu
  clear hu hb3 H2 HG2 HDG HG
  go_wp2_with fail
  refine (specFixed_any x HX.out (n : Int) _).mono ?_
  rintro e w4 ⟨t', ht, _, rfl, hb4⟩
  obtain rfl := fixedV_one x _ t t' HVT.out ht
  have H4 : Hid (Below w.heap.size w w4) := H3.out.trans (hb4.mono H3.out.size)
  clear ht hb4 H3
  go_wp2_with fail
  refine (specDigits5_any x HX.out ((n : Int) + 1) _).mono ?_
  rintro e w5 ⟨u', hu, rfl, hb5⟩
  obtain rfl := digitsV_one x _ u u' HVU.out hu
  have H5 : Hid (Below w.heap.size w w5) := H4.out.trans (hb5.mono H4.out.size)
  clear hu hb5 H4
  obtain ⟨k, s, m, ex, hp⟩ := partsV_some x HX.out
  have HPV : Hid (partsV x k s m ex) := hp
  have HIP : Hid _ := fun (_ : Unit) => implParts_of x HX.out k s m ex hp w5 (HTw.out.1.below HTw.out.2 H5.out) (by have := HTw.out.2; have := H5.out.size; omega)
  have hfd : ∀ w : World, (Instr.field 32 (.agg #[.int .i64 k, .bool s, .int .i64 m, .int .i64 ex]) 0).run Tryz.prog w = .ok (.int .i64 k) w := fun _ => by kernel_rfl
  have hfo : ∀ (pl : Int) (y : Nat) (w : World), (Instr.field 40 (.agg #[.bool true, .int .i64 pl, .float .f64 y]) 0).run Tryz.prog w = .ok (.bool true) w := fun _ _ _ => by kernel_rfl
  clear hp HTw
  go_wp2_with fail
  refine (HIP.out ()).mono ?_
  rintro e w6 ⟨rfl, hb6⟩
  have H6 : Hid (Below w.heap.size w w6) := H5.out.trans (hb6.mono H5.out.size)
  clear hb6 H5 HIP
  obtain ⟨f1, f2⟩ := rnd_fixed x n (by omega) t HVT.out
  obtain ⟨d1, d2, d3⟩ := rnd_digits x (n + 1) (by omega) (by omega) u (by have := HVU.out; rw [show ((n + 1 : Nat) : Int) = (n : Int) + 1 by omega]; exact this)
  have HYES : Hid (∀ v, Reads v x → ∀ w, Calls Tryz.prog 17 #[.string v, .float .f64 x] w fun e w' => e = .returned (.bool true) ∧ Below w.heap.size w w') := fun v hv w => by
    obtain ⟨fl, h1, h2, h3⟩ := hv
    exact wRead_yes v x HX.out fl h1 h2 h3 w
  by_cases hk : k = 1
  · have hkb : (k != 1) = false := by rw [hk]; rfl
    have HO1 : Hid _ := fun w => some_ok t x f1 w
    have HO2 : Hid _ := fun w => some_ok u x d1 w
    have HD3 : Hid (17 ≤ n + 1 → Reads u x) := d3
    clear f1 f2 d1 d2 d3 hk
    go_wp2_with fail
    refine (HO1.out _).mono ?_
    rintro e w7 ⟨pl, y1, rfl, hb7⟩
    have H7 : Hid (Below w.heap.size w w7) := H6.out.trans (hb7.mono H6.out.size)
    clear hb7 H6 HO1
    go_wp2_with fail
    refine (HO2.out _).mono ?_
    rintro e w8 ⟨pl2, y2, rfl, hb8⟩
    have H8 : Hid (Below w.heap.size w w8) := H7.out.trans (hb8.mono H7.out.size)
    clear hb8 H7 HO2
    by_cases h17 : (n : Int) < 17
    · have h17' : decide ((n : Int) < 17) = true := decide_eq_true h17
      go_wp2
      go_ret
      exact ⟨rfl, H8.out⟩
    · have h17' : decide ((n : Int) < 17) = false := decide_eq_false h17
      have HY : Hid _ := fun w => HYES.out u (HD3.out (by omega)) w
      go_wp2_with fail
      refine (HY.out _).mono ?_
      rintro e w9 ⟨rfl, hb9⟩
      have H9 : Hid (Below w.heap.size w w9) := H8.out.trans (hb9.mono H8.out.size)
      clear hb9
      go_wp2
      go_ret
      exact ⟨rfl, H9.out⟩
  · have hkb : (k != 1) = true := bne_iff_ne.2 hk
    have hno : ∀ s n p, Canon n p → 0 < n → x ≠ fw s n p := fun s' n' p' hc hn he => by
      rcases HPV.out with ⟨h, _⟩ | ⟨h, _⟩ | ⟨h, _⟩ | ⟨_, _, _, _, _, _, _, _, _, h, _⟩
      · rw [he] at h; exact nan_not_fw _ _ _ hc h
      · rw [he] at h; exact iw_fw _ _ _ _ hc h.symm
      · rw [he] at h; exact sign_fw _ _ _ _ hc hn h.symm
      · exact hk h
    have HY1 : Hid _ := fun w => HYES.out t (f2 hno) w
    have HY2 : Hid _ := fun w => HYES.out u (d2 hno) w
    clear f1 f2 d1 d2 d3 hno hk
    go_wp2_with fail
    refine (HY1.out _).mono ?_
    rintro e w7 ⟨rfl, hb7⟩
    have H7 : Hid (Below w.heap.size w w7) := H6.out.trans (hb7.mono H6.out.size)
    clear hb7 H6 HY1
    go_wp2_with fail
    refine (HY2.out _).mono ?_
    rintro e w8 ⟨rfl, hb8⟩
    have H8 : Hid (Below w.heap.size w w8) := H7.out.trans (hb8.mono H7.out.size)
    clear hb8 H7
    go_wp2
    go_ret
    exact ⟨rfl, H8.out⟩
set_option maxHeartbeats 400000 in
theorem lawFnRounded_any (G : World → Prop) (HG0 : ∀ w w', G w → Below w.heap.size w w' → G w')
    (HFX0 : ∀ x, x < 18446744073709551616 → ∀ (n : Int) w, G w → Calls Tryz.prog 23 #[.float .f64 x, .int .i64 n] w fun e w' => ∃ t, fixedV x n t ∧ e = .returned (.string t) ∧ Below w.heap.size w w')
    (HDG0 : ∀ x, x < 18446744073709551616 → ∀ (n : Int) w, G w → Calls Tryz.prog 24 #[.float .f64 x, .int .i64 n] w fun e w' => ∃ t, digitsV x n t ∧ e = .returned (.string t) ∧ Below w.heap.size w w')
    (w : World) (a : Option Addr) (len cap : Nat) (z : List Int) (k : IsRow w a len cap z) (a1 : Option Addr) (len1 cap1 : Nat) (z1 : List Int) (k1 : IsRow w a1 len1 cap1 z1) (hG : G w) (hT : DTab w) (hz : 1 < w.heap.size) :
    Calls Tryz.prog 5 #[.slice a len cap, .slice a1 len1 cap1] w fun e w' => e = .returned (.bool true) ∧ Below w.heap.size w w' := by
  have m0 := k.len
  have m1 := k1.len
  by_cases h0 : len ≤ 1048576
  · by_cases h1 : len1 ≤ 1048576
    · exact lawFnRounded_small G HG0 HFX0 HDG0 w a len cap a1 len1 cap1 (k.bts h0) (k1.bts h1) hG hT hz
    · unfold maxLen at m0 m1
      have h1' : 1048576 < len1 := by omega
      clear k k1 h1 HG0 HFX0 HDG0 hG hT hz
      go_enter Tryz.func5, Tryz.ntmps5
      go_wp2
      go_ret
      exact ⟨rfl, Below.refl _ _⟩
  · unfold maxLen at m0 m1
    have h0' : 1048576 < len := by omega
    clear k k1 h0 HG0 HFX0 HDG0 hG hT hz
    go_enter Tryz.func5, Tryz.ntmps5
    go_wp2
    go_ret
    exact ⟨rfl, Below.refl _ _⟩
end Go.Proofs.YtpmccbkhkaoccaaGreatDoor

