import Derived.Test.YtoedefjngipeiaaGreatDoorA12
import Derived.OpenShut
import Derived.Test.YtoedefjngipeiaaGreatDoorA28
import Derived.Test.YtoedefjngipeiaaGreatDoorA38
import Derived.Test.YtoedefjngipeiaaGreatDoorA40
import Derived.Test.YtoedefjngipeiaaGreatDoorA41
/- The bytes of a slice that came in. -/
namespace Go.Proofs.YtoedefjngipeiaaGreatDoor
open Go.ChangeShapes Go.WideShapes Go.RowKit

/-- The bytes of a slice that came in. -/
def Bts (w : World) (a : Option Addr) (len : Nat) : Prop := len ≤ 1048576 ∧ ∀ i : Nat, i < len → ∃ x : Addr, a = some x ∧ ∃ z : Int, 0 ≤ z ∧ z ≤ 255 ∧ w.cell? (x.add i) = some (.int .u8 z)
theorem Bts.below {w w' : World} {a : Option Addr} {len : Nat} (h : Bts w a len) (hb : Below w.heap.size w w') : Bts w' a len :=
  ⟨h.1, fun i hi => by
    obtain ⟨x, hx, z, h0, h1, hc⟩ := h.2 i hi
    exact ⟨x, hx, z, h0, h1, by rw [hb.cell (cell_lt hc)]; exact hc⟩⟩
theorem Bts.code {w : World} {a : Option Addr} {len : Nat} (h : Bts w a len) : Code w.heap.size w a len :=
  ⟨h.1, fun i hi => by
    obtain ⟨x, hx, z, h0, h1, hc⟩ := h.2 i hi
    have hl := cell_lt hc
    refine ⟨x, hx, fun e => ?_, z, h0, h1, hc⟩
    have : (x.add i).block = x.block := by unfold Addr.add; split <;> rfl
    omega⟩
/-- A slice of bytes that came in: nil, or it leads to a row of cells that hold bytes. -/
def IsRow (w : World) (a : Option Addr) (len cap : Nat) (zs : List Int) : Prop :=
  (a = none ∧ len = 0 ∧ cap = 0 ∧ zs = []) ∨
  ∃ x, a = some x ∧ len ≤ cap ∧ cap ≤ maxLen ∧ zs.length = cap ∧ (∀ i, i < zs.length → w.cell? (x.add i) = some (.int .u8 (zs.getD i 0))) ∧ ∀ n ∈ zs, (Lit.int .u8 n).wf = true
theorem IsRow.bts {w : World} {a : Option Addr} {len cap : Nat} {zs : List Int} (h : IsRow w a len cap zs) (hl : len ≤ 1048576) : Bts w a len := by
  refine ⟨hl, fun i hi => ?_⟩
  rcases h with ⟨_, rfl, _, _⟩ | ⟨x, rfl, hlc, _, hz, hc, hw⟩
  · omega
  · have hi' : i < zs.length := by omega
    have hm : zs.getD i 0 ∈ zs := by
      have e : zs.getD i 0 = zs[i] := by simp [List.getD, List.getElem?_eq_getElem hi']
      rw [e]; exact List.getElem_mem hi'
    have hb := bounds_u8 (hw _ hm)
    exact ⟨x, rfl, zs.getD i 0, hb.1, hb.2, hc i hi'⟩
theorem IsRow.len {w : World} {a : Option Addr} {len cap : Nat} {zs : List Int} (h : IsRow w a len cap zs) : len ≤ maxLen := by
  rcases h with ⟨_, rfl, _, _⟩ | ⟨x, _, hlc, hm, _, _, _⟩
  · exact Nat.zero_le _
  · omega
end Go.Proofs.YtoedefjngipeiaaGreatDoor

/- The law on drawn texts that are read. -/
namespace Go.Proofs.YtoedefjngipeiaaGreatDoor
open Go.ChangeShapes Go.WideShapes Go.RowKit
open Ieee (double)

attribute [local go_sem] run_store_float

theorem reads_one (s : ByteArray) (v : Nat) (hA : ReadA s true 0 (· = v)) (hv : v < 18446744073709551616) (w : World) :
    Calls Tryz.prog 12 #[.string s, .float .f64 v] w fun e w' => e = .returned (.bool true) ∧ Below w.heap.size w w' := by
  refine wRead_is s v hv (fun w => ?_) w
  refine (implRead_of s w (.inr fun ok pl fl h => (readA_one h hA).1)).mono ?_
  rintro e w' ⟨ok, pl, fl, x, hr, hx, _, rfl, hb⟩
  obtain ⟨rfl, rfl, rfl⟩ := readA_one hr hA
  cases hx
  exact ⟨0, rfl, hb⟩
theorem readA_flt {s : ByteArray} {ok : Bool} {pl : Int} {fl : Nat → Prop} (h : ReadA s ok pl fl) : fl = IsNan ∨ ∃ v, fl = (· = v) := by
  rcases h with ⟨_, _, _, rfl⟩ | ⟨_, neg, k, _, ⟨nan, _, i, _, _, ⟨_, _, _, _, rfl⟩ | ⟨_, _, _, _, rfl⟩ | ⟨_, _, _, _, rfl⟩⟩ | ⟨_, _, b, k1, j, _, _, ⟨_, _, _, rfl⟩ | ⟨_, r, _, ⟨_, _, _, rfl⟩ | ⟨ds, e, i, x, _, _, ⟨a, _, _, _, rfl⟩ | ⟨n, a, _, ⟨_, _, _, rfl⟩ | ⟨_, _, _, rfl⟩⟩⟩⟩⟩⟩
  · exact .inr ⟨_, rfl⟩
  · exact .inr ⟨_, rfl⟩
  · exact .inr ⟨_, rfl⟩
  · cases nan
    · exact .inr ⟨_, rfl⟩
    · exact .inl rfl
  · exact .inr ⟨_, rfl⟩
  · exact .inr ⟨_, rfl⟩
  · exact .inr ⟨_, rfl⟩
  · exact .inr ⟨_, rfl⟩
  · exact .inr ⟨_, rfl⟩
theorem wflt_fl {fl : Nat → Prop} (h : fl = IsNan ∨ ∃ v, fl = (· = v)) {x y : Nat} (hx : fl x) (hy : fl y) (hlx : x < 18446744073709551616) (w : World) :
    Calls Tryz.prog 7 #[.float .f64 x, .float .f64 y] w fun e w' => e = .returned (.bool true) ∧ w' = w := by
  rcases h with rfl | ⟨v, rfl⟩
  · exact wflt_nan x y hx hy w
  · have h1 : x = v := hx
    have h2 : y = v := hy
    rw [h2, ← h1]
    exact wflt_self x hlx w
set_option maxHeartbeats 2000000 in
set_option maxRecDepth 100000 in
theorem lawFnReads_small (w : World) (a : Option Addr) (len cap : Nat) (k0 : Bts w a len) (hg : Handle w) (hlt : 2 < w.heap.size) :
    Calls Tryz.prog 4 #[.slice a len cap] w fun e w' => e = .returned (.bool true) ∧ Below w.heap.size w w' := by
  have hl : len ≤ 1048576 := k0.1
  have HW : Hid _ := fun (_ : Unit) => drawRead_any w a len cap k0.code
  have HG : Hid (Handle w ∧ 2 < w.heap.size) := ⟨hg, hlt⟩
  clear k0 hg hlt
  go_enter Tryz.func4, Tryz.ntmps4
  go_wp2_with fail
  refine (HW.out ()).mono ?_
  rintro e w1 ⟨t, ht, rfl, hb1⟩
  have hz1 := hb1.size
  have H1 : Hid (Below w.heap.size w w1) := hb1
  have HR : Hid _ := fun (_ : Unit) => implRead_of t w1 (.inl ⟨HG.out.1.below HG.out.2 hb1, by have := HG.out.2; omega⟩)
  have ht' : (t.size : Int) ≤ 3500 := by omega
  clear hb1 HW HG
  go_wp2_with fail
  refine (HR.out ()).mono ?_
  rintro e w2 ⟨ok, pl, fl, x, hra, hx, hlx, rfl, hb2⟩
  have hz2 := hb2.size
  have H2 : Hid (Below w.heap.size w w2) := H1.out.trans (hb2.mono hz1)
  have HQ : Hid (ReadA t ok pl fl ∧ fl x ∧ x < 18446744073709551616) := ⟨hra, hx, hlx⟩
  have HS : Hid _ := fun w => specRead_any t w (by omega)
  clear hra hx hlx hb2 H1 HR
  go_wp2_with fail
  refine (HS.out _).mono ?_
  rintro e w3 ⟨ok', pl', fl', y, hra, hy, hly, rfl, hb3⟩
  obtain ⟨hra1, hx, hlx⟩ := HQ.out
  obtain ⟨rfl, rfl, rfl⟩ := readA_one hra1 hra
  have HF : Hid _ := fun (w : World) => wflt_fl (readA_flt hra) hx hy hlx w
  have hz3 : w2.heap.size < w3.heap.size := by have := hb3.size; simp at this; omega
  have c0 : w3.cell? ⟨w2.heap.size, 0, none⟩ = some (.bool ok) := by rw [hb3.cell (by simp)]; simp
  have c1 : w3.cell? ⟨w2.heap.size, 1, none⟩ = some (.int .i64 pl) := by rw [hb3.cell (by simp)]; simp
  have c2 : w3.cell? ⟨w2.heap.size, 2, none⟩ = some (.float .f64 x) := by rw [hb3.cell (by simp)]; simp
  have H3 : Hid (Below w.heap.size w w3) := (H2.out.alloc H2.out.size _).trans (hb3.mono (by have := H2.out.size; simp; omega))
  clear hra hra1 hx hlx hy hly hb3 HS H2
  cases ok
  · go_wp2_with fail
    refine (HF.out _).mono ?_
    rintro e w4 ⟨rfl, rfl⟩
    go_wp2
    go_ret
    exact ⟨rfl, H3.out.alloc H3.out.size _⟩
  · go_wp2_with fail
    refine (HF.out _).mono ?_
    rintro e w4 ⟨rfl, rfl⟩
    by_cases h0 : t.size = 0
    · have ht0 : t = ⟨#[]⟩ := by
        apply ByteArray.ext
        exact Array.size_eq_zero_iff.1 h0
      subst ht0
      go_wp2
      go_ret
      exact ⟨rfl, H3.out.alloc H3.out.size _⟩
    · have h1 : 0 < t.size := by omega
      have he := isEmpty_no t (by omega)
      have HB : Hid (bAt t 0 = (t[0].toNat : Int)) := bAt_in t 0 h1
      obtain ⟨C, hC⟩ : ∃ C : Int, (t[0].toNat : Int) = C := ⟨_, rfl⟩
      have HC : Hid (bAt t 0 = C) := by show _ = _; rw [HB.out, hC]
      clear h0 HB
      by_cases ha : C < 48
      · have ha' : decide (C < 48) = true := decide_eq_true ha
        go_wp2
        go_ret
        exact ⟨rfl, H3.out.alloc H3.out.size _⟩
      have ha' : decide (C < 48) = false := decide_eq_false ha
      by_cases hb : 57 < C
      · have hb' : decide (57 < C) = true := decide_eq_true hb
        go_wp2
        go_ret
        exact ⟨rfl, H3.out.alloc H3.out.size _⟩
      have hb' : decide (57 < C) = false := decide_eq_false hb
      by_cases hs : 1000 < (t.size : Int)
      · have hs' : decide (1000 < (t.size : Int)) = true := decide_eq_true hs
        go_wp2
        go_ret
        exact ⟨rfl, H3.out.alloc H3.out.size _⟩
      have hs' : decide (1000 < (t.size : Int)) = false := decide_eq_false hs
      have HK : Hid (¬ (1 < t.size ∧ bAt t 1 = 120) → ∃ X, X < 9223372036854775808 ∧ fl = (· = signBit false + X) ∧ pl = 0 ∧ ReadA (zzzB ++ t) true 0 (· = signBit false + X) ∧ ReadA (minB ++ t) true 0 (· = signBit true + X)) := fun h =>
        read_ahead HQ.out.1 (by rw [HC.out]; omega) (by rw [HC.out]; omega) h (by omega)
      by_cases h2 : 1 < t.size
      · have h2' : decide (1 < (t.size : Int)) = true := decide_eq_true (by omega)
        have HB : Hid (bAt t 1 = (t[1].toNat : Int)) := bAt_in t 1 h2
        obtain ⟨D, hD⟩ : ∃ D : Int, (t[1].toNat : Int) = D := ⟨_, rfl⟩
        by_cases hd : D = 120
        · have hd' : (D == 120) = true := by rw [hd]; rfl
          clear HK HB
          go_wp2
          go_ret
          exact ⟨rfl, H3.out.alloc H3.out.size _⟩
        have hd' : (D == 120) = false := beq_eq_false_iff_ne.2 hd
        have HN : ¬ (1 < t.size ∧ bAt t 1 = 120) := fun h => hd (by have h2 := h.2; rw [HB.out, hD] at h2; exact h2)
        clear HB
        obtain ⟨X, hX, hfl, _, hz, hm⟩ := HK.out HN
        have hxe : x = signBit false + X := by have := HQ.out.2.1; rw [hfl] at this; exact this
        have hneg : Op.negFloat .f64 x = signBit true + X := by rw [hxe]; exact neg_word false X hX
        have H7 : Hid (∀ w, Calls Tryz.prog 12 #[.string (⟨#[48, 48, 48]⟩ ++ t), .float .f64 x] w fun e w' => e = .returned (.bool true) ∧ Below w.heap.size w w') := fun w => by rw [hxe]; exact reads_one (zzzB ++ t) _ hz (by show 0 + X < _; omega) w
        have H8 : Hid (∀ w, Calls Tryz.prog 12 #[.string (⟨#[45]⟩ ++ t), .float .f64 (Op.negFloat .f64 x)] w fun e w' => e = .returned (.bool true) ∧ Below w.heap.size w w') := fun w => by rw [hneg]; exact reads_one (minB ++ t) _ hm (by show 9223372036854775808 + X < _; omega) w
        have hrn := fun w => run_neg x w
        clear hX hfl hz hm hxe hneg HK HN HQ
        generalize Op.negFloat .f64 x = g at *
        go_wp2_with fail
        refine (H7.out _).mono ?_
        rintro e w5 ⟨rfl, hb5⟩
        have c5 : w5.cell? ⟨w2.heap.size, 2, none⟩ = some (.float .f64 x) := by rw [hb5.cell (by simp; omega), World.cell?_alloc_lt _ _ _ (by simpa using hz3)]; exact c2
        have H5 : Hid (Below w.heap.size w w5) := (H3.out.alloc H3.out.size _).trans (hb5.mono (by have := H3.out.size; simp; omega))
        clear hb5 H7
        go_wp2_with fail
        refine (H8.out _).mono ?_
        rintro e w6 ⟨rfl, hb6⟩
        have H6 : Hid (Below w.heap.size w w6) := H5.out.trans (hb6.mono H5.out.size)
        clear hb6 H8
        go_wp2
        go_ret
        exact ⟨rfl, H6.out⟩
      · have h2' : decide (1 < (t.size : Int)) = false := decide_eq_false (by omega)
        have HN : ¬ (1 < t.size ∧ bAt t 1 = 120) := fun h => h2 h.1
        obtain ⟨X, hX, hfl, _, hz, hm⟩ := HK.out HN
        have hxe : x = signBit false + X := by have := HQ.out.2.1; rw [hfl] at this; exact this
        have hneg : Op.negFloat .f64 x = signBit true + X := by rw [hxe]; exact neg_word false X hX
        have H7 : Hid (∀ w, Calls Tryz.prog 12 #[.string (⟨#[48, 48, 48]⟩ ++ t), .float .f64 x] w fun e w' => e = .returned (.bool true) ∧ Below w.heap.size w w') := fun w => by rw [hxe]; exact reads_one (zzzB ++ t) _ hz (by show 0 + X < _; omega) w
        have H8 : Hid (∀ w, Calls Tryz.prog 12 #[.string (⟨#[45]⟩ ++ t), .float .f64 (Op.negFloat .f64 x)] w fun e w' => e = .returned (.bool true) ∧ Below w.heap.size w w') := fun w => by rw [hneg]; exact reads_one (minB ++ t) _ hm (by show 9223372036854775808 + X < _; omega) w
        have hrn := fun w => run_neg x w
        clear hX hfl hz hm hxe hneg HK HN HQ
        generalize Op.negFloat .f64 x = g at *
        go_wp2_with fail
        refine (H7.out _).mono ?_
        rintro e w5 ⟨rfl, hb5⟩
        have c5 : w5.cell? ⟨w2.heap.size, 2, none⟩ = some (.float .f64 x) := by rw [hb5.cell (by simp; omega), World.cell?_alloc_lt _ _ _ (by simpa using hz3)]; exact c2
        have H5 : Hid (Below w.heap.size w w5) := (H3.out.alloc H3.out.size _).trans (hb5.mono (by have := H3.out.size; simp; omega))
        clear hb5 H7
        go_wp2_with fail
        refine (H8.out _).mono ?_
        rintro e w6 ⟨rfl, hb6⟩
        have H6 : Hid (Below w.heap.size w w6) := H5.out.trans (hb6.mono H5.out.size)
        clear hb6 H8
        go_wp2
        go_ret
        exact ⟨rfl, H6.out⟩
set_option maxHeartbeats 400000 in
theorem lawFnReads_any (w : World) (a : Option Addr) (len cap : Nat) (z : List Int) (k : IsRow w a len cap z) (hg : Handle w) (hlt : 2 < w.heap.size) :
    Calls Tryz.prog 4 #[.slice a len cap] w fun e w' => e = .returned (.bool true) ∧ Below w.heap.size w w' := by
  have m0 := k.len
  by_cases h0 : len ≤ 1048576
  · exact lawFnReads_small w a len cap (k.bts h0) hg hlt
  · unfold maxLen at m0
    have h0' : 1048576 < len := by omega
    clear k h0 hg hlt
    go_enter Tryz.func4, Tryz.ntmps4
    go_wp2
    go_ret
    exact ⟨rfl, Below.refl _ _⟩
end Go.Proofs.YtoedefjngipeiaaGreatDoor

