import Derived.Test.YtdhcomkgofbphaaDoorR10
import Derived.Test.YtdhcomkgofbphaaDoorR11
import Derived.Test.YtdhcomkgofbphaaDoorR14
import Derived.Deep.Cut
import Derived.Deep.CutRange
import Derived.Deep.CutBlock
import Derived.Test.YtdhcomkgofbphaaDoorR01
import Derived.Test.YtdhcomkgofbphaaDoorR05
/- What ReadFlt's walk wants; its code from a statement on. -/
namespace Go.Proofs.YtdhcomkgofbphaaDoor
open Go.ChangeShapes Go.WideShapes Go.RowKit

theorem is_any (B : Nat) (w : World) (s : ByteArray) (k : Nat) (c : Int) (h : Rd B w s k) (hs : s.size ≤ 1300) (hc : 0 < c) :
    Calls Tryd.prog 7 #[.pointer (some ⟨B, 0, none⟩), .int .u8 c] w fun e w' => ∃ (t : Bool) (j : Nat), ((t = true ∧ k < s.size ∧ bAt s k = c ∧ j = k + 1) ∨ (t = false ∧ bAt s k ≠ c ∧ j = k)) ∧ e = .returned (.bool t) ∧ Rd B w' s j ∧ Only B w w' := by
  by_cases hb : bAt s k = c
  · have hk : k < s.size := by
      by_cases hk : k < s.size
      · exact hk
      · rw [bAt_out s k hk] at hb; omega
    refine (is_yes' B w s k c h hs hk hb).mono ?_
    rintro e w' ⟨rfl, hr, ho⟩
    exact ⟨true, k + 1, .inl ⟨rfl, hk, hb, rfl⟩, rfl, hr, ho⟩
  · refine (is_no' B w s k c h hb).mono ?_
    rintro e w' ⟨rfl, hr, ho⟩
    exact ⟨false, k, .inr ⟨rfl, hb, rfl⟩, rfl, hr, ho⟩

theorem fw_half (m : Nat) (e : Int) : fw false m e < 9223372036854775808 := by
  by_cases h0 : m = 0
  · subst h0; rw [fw_zero]; decide
  · rw [fw_place false m e (by omega)]
    have : min ((max (e + (m.log2 : Int) - 52) (-1074) + 1074).toNat * 4503599627370496 + roundN m (max (e + (m.log2 : Int) - 52) (-1074) - e)) 9218868437227405312 ≤ 9218868437227405312 := Nat.min_le_right _ _
    show 0 + _ < _
    omega
theorem decW_half (b V : Nat) (e : Int) : decW b V e < 9223372036854775808 := by
  unfold decW
  split
  · omega
  · unfold ratioW ratioAt
    split <;> exact fw_half _ _
theorem signed_word (neg : Bool) (x : Nat) (hx : x < 9223372036854775808) (w : World) : Calls Tryd.prog 10 #[.bool neg, .float .f64 x] w fun e w' => e = .returned (.float .f64 (signBit neg + x)) ∧ w' = w := by
  cases neg
  · have h := l2signed_plus x w
    rw [show signBit false + x = x by show 0 + x = x; omega]
    exact h
  · refine l2signed_minus x _ ?_ w
    have h := neg_word false x hx
    rw [show signBit false + x = x by show 0 + x = x; omega] at h
    exact h
theorem flW_lt (neg : Bool) (b : Nat) (ds : ByteArray) (e : Int) : flW neg b ds e < 18446744073709551616 := by
  unfold flW
  have h1 := fw_half (valN 16 ds.data.toList) e
  have h2 := decW_half 10 (valN 10 ds.data.toList) e
  split <;> cases neg <;> simp only [signBit] <;> simp <;> omega
/-- The code from its n-th statement on. -/
def dropSeq : Nat → Code → Code
  | 0, c => c
  | n + 1, .seq _ b => dropSeq n b
  | _, c => c
end Go.Proofs.YtdhcomkgofbphaaDoor

/- What the program's reader answers is what reading answers: plain. -/
namespace Go.Proofs.YtdhcomkgofbphaaDoor
open Go.RowKit

/-- Digits with a point among them are at most as many as the text has bytes. -/
theorem frac_len {b : Nat} {s : ByteArray} {k p j : Nat} {ds : ByteArray} {e : Int} (hr : Run b s k p) (hf : Frac b s k p (some (ds, e, j))) :
    good (b : Int) ds.data.toList ∧ ds.data.toList.length ≤ s.size ∧ -(s.size : Int) ≤ e ∧ e ≤ 0 ∧ j ≤ s.size := by
  rcases hf with ⟨_, h⟩ | ⟨_, i, hi, ⟨_, h⟩ | ⟨hl, h⟩⟩
  · obtain ⟨rfl, rfl, rfl⟩ : ds = s.extract k p ∧ e = 0 ∧ j = p := by simpa using h
    have hz := extract_len s k j hr.2.1
    have := hr.2.1
    exact ⟨run_good b s k j hr, by omega, by omega, by omega, by omega⟩
  · cases h
  · obtain ⟨rfl, rfl, rfl⟩ : ds = s.extract k p ++ s.extract (p + 1) i ∧ e = -((i - (p + 1) : Nat) : Int) ∧ j = i := by simpa using h
    have h1 := run_good b s k p hr
    have h2 := run_good b s (p + 1) j hi
    have z1 := extract_len s k p hr.2.1
    have z2 := extract_len s (p + 1) j hi.2.1
    have e1 : (s.extract k p ++ s.extract (p + 1) j).data.toList = (s.extract k p).data.toList ++ (s.extract (p + 1) j).data.toList := by simp
    have := hi.2.1
    have := hr.1
    rw [e1]
    refine ⟨fun c hc => ?_, ?_, by omega, by omega, by omega⟩
    · rcases List.mem_append.1 hc with h | h
      · exact h1 c h
      · exact h2 c h
    · rw [List.length_append, z1, z2]; omega
/-- The word of a decimal or a hex is the specification's. -/
theorem fin_word {b : Nat} (hb : b = 10 ∨ b = 16) {s ds : ByteArray} {e P n : Int} {V beh : Nat} (neg : Bool) (hs : s.size ≤ 1200) (hg : good (b : Int) ds.data.toList) (hl : ds.data.toList.length ≤ s.size) (he : -(s.size : Int) ≤ e) (he' : e ≤ 0)
    (hV : V = valN b ds.data.toList) (hbe : e = -(beh : Int)) (hP : P = n ∨ (100000 ≤ P ∧ n = 100000) ∨ (P ≤ -100000 ∧ n = -100000)) :
    signBit neg + (if b = 16 then quoW V 1 (P - 4 * (beh : Int)).toNat (-(P - 4 * (beh : Int))).toNat else decW 10 V (P - (beh : Int))) = flW neg b ds (expOf b e + n) := by
  have hlt := valN_good_lt b _ hg
  rw [← hV] at hlt
  unfold flW expOf
  rcases hb with rfl | rfl
  · rw [if_neg (by omega), if_neg (by omega), if_neg (by omega), ← hV]
    have := dec_far V _ e P n hlt (by omega) (by omega) he' hP
    rw [← this, hbe]
    congr 2
  · rw [if_pos rfl, if_pos rfl, if_pos rfl, ← hV, quo_hex]
    have h2 : V < 2 ^ (4 * ds.data.toList.length) := by rw [Nat.pow_mul]; exact hlt
    have := fw_far V _ (4 * e) P n h2 (by omega) (by omega) (by omega) hP
    rw [← this, hbe]
    congr 2
    omega
theorem flo_some {s : ByteArray} (hs : s.size ≤ 1200) {fl : Nat → Prop} {a j : Nat} (h : Flo s fl (some a) j) : ReadA s false (a : Int) (· = 0) := by
  obtain ⟨neg, k, hsg, h⟩ := h
  refine .inr ⟨hs, neg, k, hsg, ?_⟩
  rcases h with ⟨nan, h0, ⟨i, hi, hm, rfl, h⟩, _⟩ | ⟨h1, h2, b, k1, x, hb, hbas, hf, _⟩
  · left
    rcases h with ⟨h3, h4, h5⟩ | ⟨_, h5⟩
    · obtain rfl := Option.some.inj h5
      exact ⟨nan, h0, i, hi, hm, .inl ⟨h3, h4, rfl, rfl, rfl⟩⟩
    · cases h5
  · right
    refine ⟨h1, h2, b, k1, ?_⟩
    obtain ⟨V, beh, r1, j1, hd, ⟨a', rfl, h, _⟩ | ⟨rfl, P, r2, hp, ⟨a', rfl, h⟩ | ⟨_, h, _⟩⟩⟩ := hf
    · obtain rfl := Option.some.inj h
      rcases fin_some hd with ⟨hr, rfl⟩ | ⟨p, hr, hk, hfr, rfl⟩
      · exact ⟨_, hbas, hr, .inl ⟨rfl, rfl, rfl, rfl⟩⟩
      · exact ⟨_, hbas, hr, .inr ⟨hk, none, hfr, .inl ⟨rfl, rfl, rfl, rfl⟩⟩⟩
    · obtain rfl := Option.some.inj h
      obtain ⟨p, ds, e, hr, hk, hfr, _, _⟩ := fin_none hd
      exact ⟨_, hbas, hr, .inr ⟨hk, _, hfr, .inr ⟨ds, e, j1, _, rfl, pow_some hp, .inl ⟨_, rfl, rfl, rfl, rfl⟩⟩⟩⟩
    · cases h
theorem flo_none {s : ByteArray} (hs : s.size ≤ 1200) {fl : Nat → Prop} {j : Nat} (h : Flo s fl none j) :
    (j < s.size → ReadA s false (j : Int) (· = 0)) ∧ (¬ j < s.size → ReadA s true 0 fl) := by
  obtain ⟨neg, k, hsg, h⟩ := h
  rcases h with ⟨nan, h0, ⟨i, hi, hm, rfl, h⟩, hfl⟩ | ⟨h1, h2, b, k1, x, hb, hbas, hf, hfl⟩
  · rcases h with ⟨_, _, h5⟩ | ⟨rfl, _⟩
    · cases h5
    · exact ⟨fun hj => .inr ⟨hs, neg, k, hsg, .inl ⟨nan, h0, 3, hi, hm, .inr (.inl ⟨rfl, hj, rfl, rfl, rfl⟩)⟩⟩,
        fun hj => .inr ⟨hs, neg, k, hsg, .inl ⟨nan, h0, 3, hi, hm, .inr (.inr ⟨rfl, hj, rfl, rfl, hfl⟩)⟩⟩⟩
  · obtain ⟨V, beh, r1, j1, hd, ⟨a', _, h, _⟩ | ⟨rfl, P, r2, hp, ⟨a', _, h⟩ | ⟨rfl, _, hx⟩⟩⟩ := hf
    · cases h
    · cases h
    · obtain ⟨p, ds, e, hr, hk, hfr, hV, he⟩ := fin_none hd
      obtain ⟨n, hex, hP⟩ := pow_none hp
      obtain ⟨g1, g2, g3, g4, _⟩ := frac_len hr hfr
      refine ⟨fun hj => .inr ⟨hs, neg, k, hsg, .inr ⟨h1, h2, b, k1, p, hbas, hr, .inr ⟨hk, _, hfr, .inr ⟨ds, e, j1, _, rfl, hex, .inr ⟨n, j, rfl, .inl ⟨hj, rfl, rfl, rfl⟩⟩⟩⟩⟩⟩,
        fun hj => .inr ⟨hs, neg, k, hsg, .inr ⟨h1, h2, b, k1, p, hbas, hr, .inr ⟨hk, _, hfr, .inr ⟨ds, e, j1, _, rfl, hex, .inr ⟨n, j, rfl, .inr ⟨hj, rfl, rfl, ?_⟩⟩⟩⟩⟩⟩⟩
      rw [hfl, hx, fin_word hb neg hs g1 g2 g3 g4 hV he hP]
theorem flo_lt {s : ByteArray} (hs : s.size ≤ 1200) {fl : Nat → Prop} {j x : Nat} (h : Flo s fl none j) (hx : fl x) (hn : fl = IsNan → x < 18446744073709551616) : x < 18446744073709551616 := by
  obtain ⟨neg, k, hsg, h⟩ := h
  rcases h with ⟨nan, h0, _, hfl⟩ | ⟨h1, h2, b, k1, y, hb, hbas, hf, hfl⟩
  · cases nan
    · rw [hfl] at hx
      have : x = iw neg := hx
      rw [this]
      cases neg <;> decide
    · exact hn hfl
  · obtain ⟨V, beh, r1, j1, hd, ⟨a', _, h, _⟩ | ⟨rfl, P, r2, hp, ⟨a', _, h⟩ | ⟨rfl, _, hy⟩⟩⟩ := hf
    · cases h
    · cases h
    · obtain ⟨p, ds, e, hr, hk, hfr, hV, he⟩ := fin_none hd
      obtain ⟨n, hex, hP⟩ := pow_none hp
      obtain ⟨g1, g2, g3, g4, _⟩ := frac_len hr hfr
      rw [hfl] at hx
      have hx' : x = y := hx
      rw [hx', hy, fin_word hb neg hs g1 g2 g3 g4 hV he hP]
      exact flW_lt _ _ _ _
end Go.Proofs.YtdhcomkgofbphaaDoor

/- The program's reader: a whole text. -/
namespace Go.Proofs.YtdhcomkgofbphaaDoor
open Go.ChangeShapes Go.WideShapes Go.RowKit

/-- What is said of a text that is read whole: a place where it breaks off, or a float. -/
def AllQ (s : ByteArray) (r : Option Nat) (x : Nat) : Prop :=
  (∃ a : Nat, r = some a ∧ ReadA s false (a : Int) (· = 0)) ∨ (r = none ∧ ∃ fl, ReadA s true 0 fl ∧ fl x ∧ x < 18446744073709551616)
theorem nil_eq (w : World) : (binOp .eql 41 .nilIface .nilIface).run Tryd.prog w = .ok (.bool true) w := by kernel_rfl
theorem bo_eq (v : Value) (w : World) : (binOp .eql 41 (.iface 45 v) .nilIface).run Tryd.prog w = .ok (.bool false) w := by kernel_rfl
set_option maxHeartbeats 2000000 in
set_option maxRecDepth 100000 in
theorem readAll_any (s : ByteArray) (w : World) :
    Calls Tryd.prog 16 #[.string s] w fun e w' => ∃ r x, AllQ s r x ∧ e = .returned (.tuple #[.float .f64 x, errV r]) ∧ Below w.heap.size w w' := by
  by_cases hs : 1200 < s.size
  · have hs' : (1200 : Int) < (s.size : Int) := by omega
    go_enter Tryd.func16, Tryd.ntmps16
    go_wp2
    go_ret2
    exact ⟨some 1200, 0, .inl ⟨1200, rfl, .inl ⟨hs, rfl, rfl, rfl⟩⟩, rfl, Below.refl _ _⟩
  · have hs' : (s.size : Int) ≤ 1200 := by omega
    have HS : Hid (s.size ≤ 1200) := Nat.le_of_not_lt hs
    clear hs
    have HB : Hid (Below w.heap.size w (w.alloc (.cells #[.string s, .int .i64 0] 59))) := (Below.refl _ w).alloc (by simp) _
    have HF : Hid _ := fun (_ : Unit) => rfloat_any w.heap.size s (w.alloc (.cells #[.string s, .int .i64 0] 59)) (by show (w.heap.push _)[w.heap.size]? = some _; simp) HS.out
    go_enter Tryd.func16, Tryd.ntmps16
    go_wp2_with fail
    refine (HF.out ()).mono ?_
    rintro e w1 ⟨fl, r, j, x, hflo, hx, hnn, hj, rfl, hr, hm⟩
    have HM : Hid (Below w.heap.size w w1) := HB.out.trans (hm.below (Nat.le_refl _) (by simp))
    have hc := hr.at_
    have hl := hr.lt
    clear hr hm HF HB
    cases r with
    | some a =>
      have HA : Hid (ReadA s false (a : Int) (· = 0)) := flo_some HS.out hflo
      have he := bo_eq (.agg #[.int .i64 (a : Int)])
      clear hflo hx hnn hj
      rw [err_some]
      go_wp2
      go_ret2
      exact ⟨some a, x, .inl ⟨a, rfl, HA.out⟩, rfl, HM.out⟩
    | none =>
      have he := nil_eq
      have hx := hx rfl
      have HL : Hid (x < 18446744073709551616) := flo_lt HS.out hflo hx hnn
      obtain ⟨h1, h2⟩ := flo_none HS.out hflo
      have HX : Hid (fl x) := hx
      clear hx hnn hflo
      rw [err_none]
      by_cases hl : j < s.size
      · have hl' : (j : Int) < (s.size : Int) := by omega
        have HA : Hid (ReadA s false (j : Int) (· = 0)) := h1 hl
        clear h1 h2 hl
        go_wp2
        go_quiet (fail)
        go_wp2
        go_ret2
        exact ⟨some j, 0, .inl ⟨j, rfl, HA.out⟩, rfl, below_drewN HM.out _⟩
      · have hl' : decide (j < s.size) = false := decide_eq_false hl
        have HA : Hid (ReadA s true 0 fl) := h2 hl
        clear h1 h2 hl
        go_wp2
        go_ret2
        exact ⟨none, x, .inr ⟨rfl, fl, HA.out, HX.out, HL.out⟩, rfl, HM.out⟩
end Go.Proofs.YtdhcomkgofbphaaDoor

/- errors.As at the program's own error: what a caller is told. -/
namespace Go.Proofs.YtdhcomkgofbphaaDoor
open Go.ChangeShapes Go.WideShapes Go.RowKit

theorem Handle.below {w w' : World} (h : Handle w) (hl : 0 < w.heap.size) (hb : Below w.heap.size w w') : Handle w' := by
  unfold Handle at h ⊢
  rw [← h]
  exact World.cell?_of_block (w := w) (hb.block _ hl)
theorem Handle.alloc {w : World} (h : Handle w) (hl : 0 < w.heap.size) (b : Obj) : Handle (w.alloc b) :=
  h.below hl ((Below.refl _ w).alloc (Nat.le_refl _) b)
theorem as_place (k : Int) (B : Nat) (old : Value) (w : World) (hg : Handle w) (hlt : 0 < w.heap.size) (h0 : w.cell? ⟨B, 0, none⟩ = some old) (hf : w.frozen? ⟨B, 0, none⟩ = false) :
    Calls Tryd.prog 17 #[.iface 45 (.agg #[.int .i64 k]), .iface 47 (.pointer (some ⟨B, 0, none⟩))] w fun e w' => e = .returned (.bool true) ∧ w'.cell? ⟨B, 0, none⟩ = some (.int .i64 k) ∧ Mod B w w' := by
  have hl : B < w.heap.size := by
    rcases Nat.lt_or_ge B w.heap.size with h | h
    · exact h
    · simp [World.cell?, Array.getElem?_eq_none h] at h0
  refine (as_hit k ⟨B, 0, none⟩ old w hg hlt h0 hf).mono ?_
  rintro e w' ⟨rfl, rfl⟩
  refine ⟨rfl, ?_, ((((Mod.refl B w).alloc _).alloc _).alloc _).alloc _ |>.setCell 0 _⟩
  refine World.cell?_setCell_same _ _ _ (u := old) ?_
  rw [World.cell?_alloc_lt _ _ _ (by simp; omega), World.cell?_alloc_lt _ _ _ (by simp; omega), World.cell?_alloc_lt _ _ _ (by simp; omega), World.cell?_alloc_lt _ _ _ hl]
  exact h0
end Go.Proofs.YtdhcomkgofbphaaDoor

/- The program's ReadFlt answers what reading answers. -/
namespace Go.Proofs.YtdhcomkgofbphaaDoor
open Go.ChangeShapes Go.WideShapes Go.RowKit

attribute [local go_sem] run_store_float

set_option maxHeartbeats 2000000 in
set_option maxRecDepth 100000 in
theorem implRead_of (s : ByteArray) (w : World) (h : (Handle w ∧ 0 < w.heap.size) ∨ ∀ ok pl fl, ReadA s ok pl fl → ok = true) :
    Calls Tryd.prog 5 #[.string s] w (ReadQ s w) := by
  have HH : Hid ((Handle w ∧ 0 < w.heap.size) ∨ ∀ ok pl fl, ReadA s ok pl fl → ok = true) := h
  have HA : Hid _ := fun (w : World) => readAll_any s w
  have HB0 : Hid (Below w.heap.size w (w.alloc (.cells #[.bool false, .int .i64 0, .float .f64 0] 24))) := (Below.refl _ w).alloc (Nat.le_refl _) _
  clear h
  go_enter Tryd.func5, Tryd.ntmps5
  go_wp2_with fail
  refine (HA.out _).mono ?_
  rintro e w1 ⟨r, x, hq, rfl, hb⟩
  have hz : w.heap.size < w1.heap.size := by have := hb.size; simp at this; omega
  have HB1 : Hid (Below w.heap.size w w1) := HB0.out.trans (hb.mono (by simp))
  have r0 : w1.cell? ⟨w.heap.size, 0, none⟩ = some (.bool false) := by rw [hb.cell (by simp)]; simp
  have r1 : w1.cell? ⟨w.heap.size, 1, none⟩ = some (.int .i64 0) := by rw [hb.cell (by simp)]; simp
  have r2 : w1.cell? ⟨w.heap.size, 2, none⟩ = some (.float .f64 0) := by rw [hb.cell (by simp)]; simp
  have f0 : w1.frozen? ⟨w.heap.size, 0, none⟩ = false := by rw [hb.frozen (by simp)]; simp
  have f1 : w1.frozen? ⟨w.heap.size, 1, none⟩ = false := by rw [hb.frozen (by simp)]; simp
  have f2 : w1.frozen? ⟨w.heap.size, 2, none⟩ = false := by rw [hb.frozen (by simp)]; simp
  clear hb HA HB0
  rcases hq with ⟨a, rfl, hra⟩ | ⟨rfl, fl, hra, hx, hlt⟩
  · have hg : Handle w1 ∧ 0 < w1.heap.size := by
      rcases HH.out with ⟨h1, h2⟩ | h
      · exact ⟨h1.below h2 HB1.out, by omega⟩
      · cases h _ _ _ hra
    have HS : Hid _ := fun (_ : Unit) => as_place (a : Int) w1.heap.size (.int .i64 0) (w1.alloc (.cells #[.int .i64 0] 45)) (hg.1.alloc hg.2 _) (by simp <;> omega) (by simp) (by simp)
    have HRA : Hid (ReadA s false (a : Int) (· = 0)) := hra
    clear hg hra HH
    rw [err_some]
    go_wp2_with fail
    refine (HS.out ()).mono ?_
    rintro e w2 ⟨rfl, hc, hm⟩
    have q0 : w2.cell? ⟨w.heap.size, 0, none⟩ = some (.bool false) := by rw [hm.cell (by simp; omega) (by simp; omega), World.cell?_alloc_lt _ _ _ (by simpa using hz)]; exact r0
    have q1 : w2.cell? ⟨w.heap.size, 1, none⟩ = some (.int .i64 0) := by rw [hm.cell (by simp; omega) (by simp; omega), World.cell?_alloc_lt _ _ _ (by simpa using hz)]; exact r1
    have q2 : w2.cell? ⟨w.heap.size, 2, none⟩ = some (.float .f64 0) := by rw [hm.cell (by simp; omega) (by simp; omega), World.cell?_alloc_lt _ _ _ (by simpa using hz)]; exact r2
    have g0 : w2.frozen? ⟨w.heap.size, 0, none⟩ = false := by rw [hm.frozen (by simp; omega) (by simp; omega), World.frozen?_alloc_old _ _ _ (by simp; omega)]; exact f0
    have g1 : w2.frozen? ⟨w.heap.size, 1, none⟩ = false := by rw [hm.frozen (by simp; omega) (by simp; omega), World.frozen?_alloc_old _ _ _ (by simp; omega)]; exact f1
    have g2 : w2.frozen? ⟨w.heap.size, 2, none⟩ = false := by rw [hm.frozen (by simp; omega) (by simp; omega), World.frozen?_alloc_old _ _ _ (by simp; omega)]; exact f2
    have HB2 : Hid (Below w.heap.size w w2) := (HB1.out.alloc (by omega) _).trans (hm.below (by omega) (by simp; omega))
    clear hm HS r0 r1 r2 f0 f1 f2 HB1 hz
    go_wp2
    exact bodyPost_ret (v := .agg #[.bool false, .int .i64 (a : Int), .float .f64 0]) (by simp [results, Tryd.results5, go_sem, q0, q1, q2]) rfl ⟨false, _, _, 0, HRA.out, rfl, by omega, rfl, (by repeat (first | exact HB2.out | refine Below.drew ?_ | refine Below.setCell ?_ (by simp) _))⟩
  · have HRA : Hid (ReadA s true 0 fl ∧ fl x ∧ x < 18446744073709551616) := ⟨hra, hx, hlt⟩
    clear hra hx hlt HH
    rw [err_none]
    go_wp2_with fail
    refine (as_none _ _).mono ?_
    rintro e w2 ⟨rfl, rfl⟩
    have q0 : (w1.alloc (.cells #[.int .i64 0] 45)).cell? ⟨w.heap.size, 0, none⟩ = some (.bool false) := by rw [World.cell?_alloc_lt _ _ _ (by simpa using hz)]; exact r0
    have q1 : (w1.alloc (.cells #[.int .i64 0] 45)).cell? ⟨w.heap.size, 1, none⟩ = some (.int .i64 0) := by rw [World.cell?_alloc_lt _ _ _ (by simpa using hz)]; exact r1
    have q2 : (w1.alloc (.cells #[.int .i64 0] 45)).cell? ⟨w.heap.size, 2, none⟩ = some (.float .f64 0) := by rw [World.cell?_alloc_lt _ _ _ (by simpa using hz)]; exact r2
    have g0 : (w1.alloc (.cells #[.int .i64 0] 45)).frozen? ⟨w.heap.size, 0, none⟩ = false := by rw [World.frozen?_alloc_old _ _ _ (by simp; omega)]; exact f0
    have g1 : (w1.alloc (.cells #[.int .i64 0] 45)).frozen? ⟨w.heap.size, 1, none⟩ = false := by rw [World.frozen?_alloc_old _ _ _ (by simp; omega)]; exact f1
    have g2 : (w1.alloc (.cells #[.int .i64 0] 45)).frozen? ⟨w.heap.size, 2, none⟩ = false := by rw [World.frozen?_alloc_old _ _ _ (by simp; omega)]; exact f2
    have HB2 : Hid (Below w.heap.size w (w1.alloc (.cells #[.int .i64 0] 45))) := HB1.out.alloc (by omega) _
    clear r0 r1 r2 f0 f1 f2 HB1
    generalize w1.alloc (.cells #[.int .i64 0] 45) = w2 at *
    go_wp2
    exact bodyPost_ret (v := .agg #[.bool true, .int .i64 0, .float .f64 x]) (by simp [results, Tryd.results5, go_sem, q0, q1, q2]) rfl ⟨true, _, _, x, HRA.out.1, HRA.out.2.1, HRA.out.2.2, rfl, (by repeat (first | exact HB2.out | refine Below.drew ?_ | refine Below.setCell ?_ (by simp) _ | refine Below.alloc ?_ (by simp <;> omega) _))⟩
end Go.Proofs.YtdhcomkgofbphaaDoor

/- ReadFlt of the specification: from the exponent on, base 10. -/
namespace Go.Proofs.YtdhcomkgofbphaaDoor
open Go.ChangeShapes Go.WideShapes Go.RowKit

attribute [local go_sem] run_store_float
set_option maxHeartbeats 8000000 in
set_option maxRecDepth 1000000 in
theorem readEnd_10 (s : ByteArray) (w : World) (neg : Bool) (k k1 j : Nat) (ds : ByteArray) (e : Int) (i : Nat) (v1 v5 v6 v7 v11 v12 v13 v14 v15 v16 v17 v18 v19 v20 v21 v22 v23 v24 v25 v26 v27 v28 v29 v30 v31 v32 v33 v34 v35 v36 v37 v38 v39 v40 v41 v42 v43 v44 v45 v46 v47 v48 v49 v50 v51 v52 v53 v54 v55 v56 v57 v58 v59 v60 v61 v62 v63 v64 v65 v66 v67 v68 v69 v70 v71 v72 v73 v74 v75 v76 v77 v78 v79 v80 v81 v82 v83 v84 v85 v86 v87 v88 v89 v90 v91 v92 v93 v94 v95 v96 v97 v98 v99 v100 v101 v102 v103 v104 v105 v106 v107 v108 v109 v110 v111 v112 v113 v114 v115 v116 v117 v118 v119 v120 v121 v122 v123 v124 v125 v126 v127 v128 v129 v130 v131 v132 v133 v134 v135 v136 v137 v138 v139 v140 v141 v142 v143 v144 v145 v146 v147 v148 v149 v150 v151 v152 v153 v154 v155 v156 v157 v158 v159 v160 v161 v162 v163 v164 v165 v166 v167 v168 v169 v170 v171 v172 v173 v174 v175 v176 v177 v178 v179 v180 v181 v182 v183 v184 v185 v186 v187 v188 v189 v190 v191 : Value) (wc : World) (hbig : ¬ 1200 < s.size) (hs : s.size ≤ 1300) (HG : Hid (Sgn s 0 neg k)) (HNW : Hid (bAt s k ≠ 105 ∧ bAt s k ≠ 110)) (HBs : Hid (Bas s k 10 k1)) (HRun : Hid (Run 10 s k1 j)) (hkj' : k1 < j)
    (he1 : -1200 ≤ e) (he2 : e ≤ 0) (hds : ds.size ≤ 1200) (his : i ≤ s.size) (hgd : good 10 ds.data.toList) (HFr : Hid (Frac 10 s k1 j (some (ds, e, i)))) (H8 : Hid (St w wc s i)) :
    Code.wp Tryd.prog (dropSeq 12 (Tryd.f4.body.getD .skip)) (bodyPost Tryd.prog Tryd.f4 (ReadQ s w)) ⟨#[.string s, v1, .pointer (some ⟨w.heap.size, 0, none⟩), .pointer (some ⟨w.heap.size + 1, 0, none⟩), .bool neg, v5, v6, v7, .int .i64 10, .string ds, .int .i64 e, v11, v12, v13, v14, v15, v16, v17, v18, v19, v20, v21, v22, v23, v24, v25, v26, v27, v28, v29, v30, v31, v32, v33, v34, v35, v36, v37, v38, v39, v40, v41, v42, v43, v44, v45, v46, v47, v48, v49, v50, v51, v52, v53, v54, v55, v56, v57, v58, v59, v60, v61, v62, v63, v64, v65, v66, v67, v68, v69, v70, v71, v72, v73, v74, v75, v76, v77, v78, v79, v80, v81, v82, v83, v84, v85, v86, v87, v88, v89, v90, v91, v92, v93, v94, v95, v96, v97, v98, v99, v100, v101, v102, v103, v104, v105, v106, v107, v108, v109, v110, v111, v112, v113, v114, v115, v116, v117, v118, v119, v120, v121, v122, v123, v124, v125, v126, v127, v128, v129, v130, v131, v132, v133, v134, v135, v136, v137, v138, v139, v140, v141, v142, v143, v144, v145, v146, v147, v148, v149, v150, v151, v152, v153, v154, v155, v156, v157, v158, v159, v160, v161, v162, v163, v164, v165, v166, v167, v168, v169, v170, v171, v172, v173, v174, v175, v176, v177, v178, v179, v180, v181, v182, v183, v184, v185, v186, v187, v188, v189, v190, v191], []⟩ wc := by
  have hs0 : (s.size : Int) ≤ 1200 := by omega
  conv => arg 2; whnf
  have HGD : Hid _ := fun (_ : Unit) => hgd
  clear hgd
  go_upto_region 41 with fail
  go_cut [150] from 15 (fun s150 wc => ∃ t : Bool, s150 = .bool t ∧ Hid ((t = true ∧ bAt s i = 101 ∧ i < s.size ∧ St w wc s (i + 1)) ∨ (t = false ∧ bAt s i ≠ 101 ∧ St w wc s i)))
  case first =>
    have H9 : Hid _ := fun (_ : Unit) => is_any (w.heap.size + 1) _ s i 101 H8.out.2.1 hs (by omega)
    go_wp2_with fail
    refine (H9.out ()).mono ?_
    rintro x w9 ⟨t, j9, ht9, rfl, hr9, ho9⟩
    have H10 : Hid (St w w9 s j9) := H8.out.only ho9 hr9
    clear hr9 ho9 H9
    go_wp2
    go_meet
    case rel =>
      refine ⟨t, rfl, ?_⟩
      rcases ht9 with ⟨rfl, h91, h92, rfl⟩ | ⟨rfl, h91, rfl⟩
      · exact .inl ⟨rfl, h92, h91, H10.out⟩
      · exact .inr ⟨rfl, h91, H10.out⟩
  case rest =>
    obtain ⟨t, rfl, HT9⟩ := hcut
    clear H8
    go_upto_if 150 with fail
    go_cut [10] from 15 (fun s10 wc => ∃ (n : Int) (a : Nat), s10 = .int .i64 (e + n) ∧ -100000 ≤ n ∧ n ≤ 100000 ∧ Hid (Expo (markOf 10) s i (.inl (n, a))) ∧ Hid (St w wc s a))
    case first =>
      cases t
      · obtain ⟨h91, h92⟩ := (HT9.out.resolve_left (by rintro ⟨h, _⟩; cases h)).2
        have H10 : Hid _ := fun (_ : Unit) => h92
        have HEX : Hid (Expo (markOf 10) s i (.inl (0, i))) := .inl ⟨h91, rfl⟩
        clear h91 h92
        go_wp2
        go_meet
        case rel => exact ⟨0, i, by rw [Int.add_zero], by omega, by omega, HEX.out, H10.out ()⟩
      · obtain ⟨h91, h92, h93⟩ := (HT9.out.resolve_right (by rintro ⟨h, _⟩; cases h)).2
        have H10 : Hid _ := fun (_ : Unit) => h93
        have H91 : Hid (bAt s i = 101) := h91
        obtain ⟨ng, kk, hsg⟩ := sgn_any s (i + 1)
        have HSG : Hid (Sgn s (i + 1) ng kk) := hsg
        have H11 : Hid _ := fun (_ : Unit) => exponent_any (w.heap.size + 1) _ s (i + 1) h93.2.1 hs (by omega) ng kk hsg
        clear h91 h92 h93 hsg
        go_wp2_with fail
        refine (H11.out ()).mono ?_
        rintro x w11 ⟨j3, hrun3, rfl, hr11, ho11⟩
        have H12 : Hid (St w w11 s j3) := (H10.out ()).only ho11 hr11
        have HR3 : Hid (Run 10 s kk j3) := hrun3
        clear hr11 ho11 H11 hrun3
        by_cases hj3 : kk < j3
        · have hj3' : decide (kk < j3) = true := decide_eq_true hj3
          have hex : -100000 ≤ expV ng (runV 10 s kk j3) ∧ expV ng (runV 10 s kk j3) ≤ 100000 := by unfold expV cap; split <;> omega
          have HEX : Hid (Expo (markOf 10) s i (.inl (expV ng (runV 10 s kk j3), j3))) := .inr ⟨H91.out, ng, kk, j3, HSG.out, HR3.out, .inr ⟨hj3, rfl⟩⟩
          obtain ⟨x1, x2⟩ := hex
          generalize expV ng (runV 10 s kk j3) = n at *
          rw [hj3']
          clear hj3 hj3'
          go_wp2
          go_meet
          case rel => exact ⟨n, j3, rfl, x1, x2, HEX.out, H12.out⟩
        · have hj3' : decide (kk < j3) = false := decide_eq_false hj3
          have hjk : j3 = kk := by have := HR3.out.1; omega
          have HX : Hid (ReadA s false ((j3 : Nat) : Int) (· = 0)) := .inr ⟨by omega, neg, k, HG.out, .inr ⟨HNW.out.1, HNW.out.2, 10, k1, j, HBs.out, HRun.out, .inr ⟨by omega, _, HFr.out, .inr ⟨ds, e, i, _, rfl, .inr ⟨H91.out, ng, kk, j3, HSG.out, HR3.out, .inl ⟨hjk, rfl⟩⟩, .inl ⟨j3, rfl, rfl, rfl, rfl⟩⟩⟩⟩⟩
          obtain ⟨hB, ⟨e0, e1, _⟩, hz, r0, r1, r2, f0, f1, f2⟩ := H12.out
          rw [hj3']
          clear hj3 hj3' hjk
          generalize expV ng (runV 10 s kk j3) = n at *
          go_wp2
          exact bodyPost_ret (v := .agg #[.bool false, .int .i64 ((j3 : Nat) : Int), .float .f64 0]) (by simp [results, Tryd.results4, go_sem, r0, r1, r2]) rfl ⟨false, _, _, 0, HX.out, rfl, by omega, rfl, (by repeat (first | exact hB | refine Below.drew ?_ | refine below_drewN ?_ _ | refine Below.setCell ?_ (by simp) _ | refine Below.alloc ?_ (by simp <;> omega) _))⟩
    case rest =>
      clear HT9
      obtain ⟨n, a, rfl, n1, n2, HEX, H13⟩ := hcut
      obtain ⟨hB, ⟨e0, e1, _⟩, hz, r0, r1, r2, f0, f1, f2⟩ := H13.out
      by_cases ha : a < s.size
      · have ha' : (a : Int) < (s.size : Int) := by omega
        have HX : Hid (ReadA s false ((a : Nat) : Int) (· = 0)) := .inr ⟨by omega, neg, k, HG.out, .inr ⟨HNW.out.1, HNW.out.2, 10, k1, j, HBs.out, HRun.out, .inr ⟨by omega, _, HFr.out, .inr ⟨ds, e, i, _, rfl, HEX.out, .inr ⟨n, a, rfl, .inl ⟨ha, rfl, rfl, rfl⟩⟩⟩⟩⟩⟩
        clear ha
        go_wp2
        exact bodyPost_ret (v := .agg #[.bool false, .int .i64 ((a : Nat) : Int), .float .f64 0]) (by simp [results, Tryd.results4, go_sem, r0, r1, r2]) rfl ⟨false, _, _, 0, HX.out, rfl, by omega, rfl, (by repeat (first | exact hB | refine Below.drew ?_ | refine below_drewN ?_ _ | refine Below.setCell ?_ (by simp) _ | refine Below.alloc ?_ (by simp <;> omega) _))⟩
      · have ha' : decide (a < s.size) = false := decide_eq_false ha
        have ha2 : (s.size : Int) ≤ (a : Int) := by omega
        have HX : Hid (ReadA s true 0 (· = flW neg 10 ds (expOf 10 e + n))) := .inr ⟨by omega, neg, k, HG.out, .inr ⟨HNW.out.1, HNW.out.2, 10, k1, j, HBs.out, HRun.out, .inr ⟨by omega, _, HFr.out, .inr ⟨ds, e, i, _, rfl, HEX.out, .inr ⟨n, a, rfl, .inr ⟨ha, rfl, rfl, rfl⟩⟩⟩⟩⟩⟩
        clear ha
        have HCV : Hid _ := fun w => l4decimal_any ds (e + n) w (by omega) (HGD.out ()) (by omega) (by omega)
        go_wp2_with fail
        refine (HCV.out _).mono ?_
        rintro x w14 ⟨rfl, hb14⟩
        have H15 : Hid (St w w14 s a) := H13.out.below hb14
        clear HCV hb14 hB e0 e1 hz r0 r1 r2 f0 f1 f2
        obtain ⟨hB, ⟨e0, e1, _⟩, hz, r0, r1, r2, f0, f1, f2⟩ := H15.out
        have HSW : Hid _ := fun w => signed_word neg _ (decW_half 10 (valN 10 ds.data.toList) (e + n)) w
        have HFL : Hid (signBit neg + decW 10 (valN 10 ds.data.toList) (e + n) = flW neg 10 ds (expOf 10 e + n)) := by
            show _ = _
            unfold flW expOf
            rw [if_neg (by decide), if_neg (by decide)]
        rw [HFL.out] at HSW
        generalize decW 10 (valN 10 ds.data.toList) (e + n) = xw at *
        have HLT : Hid (flW neg 10 ds (expOf 10 e + n) < 18446744073709551616) := flW_lt _ _ _ _
        generalize flW neg 10 ds (expOf 10 e + n) = yw at *
        go_wp2_with (go_at_call 10; refine (HSW.out _).mono ?_; rintro x w' ⟨rfl, rfl⟩)
        exact bodyPost_ret (v := .agg #[.bool true, .int .i64 0, .float .f64 yw]) (by simp [results, Tryd.results4, go_sem, r0, r1, r2]) rfl ⟨true, _, _, yw, HX.out, rfl, HLT.out, rfl, (by repeat (first | exact hB | refine Below.drew ?_ | refine below_drewN ?_ _ | refine Below.setCell ?_ (by simp) _ | refine Below.alloc ?_ (by simp <;> omega) _))⟩
end Go.Proofs.YtdhcomkgofbphaaDoor

