import Derived.Test.YtcbhcdaedchmlaaDoorA31
import Derived.Test.YtcbhcdaedchmlaaDoorA22
import Derived.Test.YtcbhcdaedchmlaaDoorA01
import Derived.Test.YtcbhcdaedchmlaaDoorA25
/- What the program's reader answers is what reading answers: plain. -/
namespace Go.Proofs.YtcbhcdaedchmlaaDoor
open Go.RowKit

/-- Digits with a point among them are at most as many as the text has bytes. -/
theorem frac_len {b : Nat} {s : ByteArray} {k p j : Nat} {ds : ByteArray} {e : Int} (hr : Run b s k p) (hf : Frac b s k p (some (ds, e, j))) :
    good (b : Int) ds.data.toList ∧ ds.data.toList.length ≤ s.size ∧ -(s.size : Int) ≤ e ∧ e ≤ 0 ∧ j ≤ s.size := by
  rcases hf with ⟨_, h⟩ | ⟨_, i, hi, ⟨_, h⟩ | ⟨hl, h⟩⟩
  · obtain ⟨rfl, rfl, rfl⟩ : ds = s.extract k p ∧ e = 0 ∧ j = p := by simpa using h
    have hz := extract_len s k j hr.2.1
    have := hr.2.1
    exact ⟨run_good b s k j hr, by omega, by omega, by omega, by omega⟩
  · cases h
  · obtain ⟨rfl, rfl, rfl⟩ : ds = s.extract k p ++ s.extract (p + 1) i ∧ e = -((i - (p + 1) : Nat) : Int) ∧ j = i := by simpa using h
    have h1 := run_good b s k p hr
    have h2 := run_good b s (p + 1) j hi
    have z1 := extract_len s k p hr.2.1
    have z2 := extract_len s (p + 1) j hi.2.1
    have e1 : (s.extract k p ++ s.extract (p + 1) j).data.toList = (s.extract k p).data.toList ++ (s.extract (p + 1) j).data.toList := by simp
    have := hi.2.1
    have := hr.1
    rw [e1]
    refine ⟨fun c hc => ?_, ?_, by omega, by omega, by omega⟩
    · rcases List.mem_append.1 hc with h | h
      · exact h1 c h
      · exact h2 c h
    · rw [List.length_append, z1, z2]; omega
/-- The word of a decimal or a hex is the specification's. -/
theorem fin_word {b : Nat} (hb : b = 10 ∨ b = 16) {s ds : ByteArray} {e P n : Int} {V beh : Nat} (neg : Bool) (hs : s.size ≤ 1200) (hg : good (b : Int) ds.data.toList) (hl : ds.data.toList.length ≤ s.size) (he : -(s.size : Int) ≤ e) (he' : e ≤ 0)
    (hV : V = valN b ds.data.toList) (hbe : e = -(beh : Int)) (hP : P = n ∨ (100000 ≤ P ∧ n = 100000) ∨ (P ≤ -100000 ∧ n = -100000)) :
    signBit neg + (if b = 16 then quoW V 1 (P - 4 * (beh : Int)).toNat (-(P - 4 * (beh : Int))).toNat else decW 10 V (P - (beh : Int))) = flW neg b ds (expOf b e + n) := by
  have hlt := valN_good_lt b _ hg
  rw [← hV] at hlt
  unfold flW expOf
  rcases hb with rfl | rfl
  · rw [if_neg (by omega), if_neg (by omega), if_neg (by omega), ← hV]
    have := dec_far V _ e P n hlt (by omega) (by omega) he' hP
    rw [← this, hbe]
    congr 2
  · rw [if_pos rfl, if_pos rfl, if_pos rfl, ← hV, quo_hex]
    have h2 : V < 2 ^ (4 * ds.data.toList.length) := by rw [Nat.pow_mul]; exact hlt
    have := fw_far V _ (4 * e) P n h2 (by omega) (by omega) (by omega) hP
    rw [← this, hbe]
    congr 2
    omega
theorem flo_some {s : ByteArray} (hs : s.size ≤ 1200) {fl : Nat → Prop} {a j : Nat} (h : Flo s fl (some a) j) : ReadA s false (a : Int) (· = 0) := by
  obtain ⟨neg, k, hsg, h⟩ := h
  refine .inr ⟨hs, neg, k, hsg, ?_⟩
  rcases h with ⟨nan, h0, ⟨i, hi, hm, rfl, h⟩, _⟩ | ⟨h1, h2, b, k1, x, hb, hbas, hf, _⟩
  · left
    rcases h with ⟨h3, h4, h5⟩ | ⟨_, h5⟩
    · obtain rfl := Option.some.inj h5
      exact ⟨nan, h0, i, hi, hm, .inl ⟨h3, h4, rfl, rfl, rfl⟩⟩
    · cases h5
  · right
    refine ⟨h1, h2, b, k1, ?_⟩
    obtain ⟨V, beh, r1, j1, hd, ⟨a', rfl, h, _⟩ | ⟨rfl, P, r2, hp, ⟨a', rfl, h⟩ | ⟨_, h, _⟩⟩⟩ := hf
    · obtain rfl := Option.some.inj h
      rcases fin_some hd with ⟨hr, rfl⟩ | ⟨p, hr, hk, hfr, rfl⟩
      · exact ⟨_, hbas, hr, .inl ⟨rfl, rfl, rfl, rfl⟩⟩
      · exact ⟨_, hbas, hr, .inr ⟨hk, none, hfr, .inl ⟨rfl, rfl, rfl, rfl⟩⟩⟩
    · obtain rfl := Option.some.inj h
      obtain ⟨p, ds, e, hr, hk, hfr, _, _⟩ := fin_none hd
      exact ⟨_, hbas, hr, .inr ⟨hk, _, hfr, .inr ⟨ds, e, j1, _, rfl, pow_some hp, .inl ⟨_, rfl, rfl, rfl, rfl⟩⟩⟩⟩
    · cases h
theorem flo_none {s : ByteArray} (hs : s.size ≤ 1200) {fl : Nat → Prop} {j : Nat} (h : Flo s fl none j) :
    (j < s.size → ReadA s false (j : Int) (· = 0)) ∧ (¬ j < s.size → ReadA s true 0 fl) := by
  obtain ⟨neg, k, hsg, h⟩ := h
  rcases h with ⟨nan, h0, ⟨i, hi, hm, rfl, h⟩, hfl⟩ | ⟨h1, h2, b, k1, x, hb, hbas, hf, hfl⟩
  · rcases h with ⟨_, _, h5⟩ | ⟨rfl, _⟩
    · cases h5
    · exact ⟨fun hj => .inr ⟨hs, neg, k, hsg, .inl ⟨nan, h0, 3, hi, hm, .inr (.inl ⟨rfl, hj, rfl, rfl, rfl⟩)⟩⟩,
        fun hj => .inr ⟨hs, neg, k, hsg, .inl ⟨nan, h0, 3, hi, hm, .inr (.inr ⟨rfl, hj, rfl, rfl, hfl⟩)⟩⟩⟩
  · obtain ⟨V, beh, r1, j1, hd, ⟨a', _, h, _⟩ | ⟨rfl, P, r2, hp, ⟨a', _, h⟩ | ⟨rfl, _, hx⟩⟩⟩ := hf
    · cases h
    · cases h
    · obtain ⟨p, ds, e, hr, hk, hfr, hV, he⟩ := fin_none hd
      obtain ⟨n, hex, hP⟩ := pow_none hp
      obtain ⟨g1, g2, g3, g4, _⟩ := frac_len hr hfr
      refine ⟨fun hj => .inr ⟨hs, neg, k, hsg, .inr ⟨h1, h2, b, k1, p, hbas, hr, .inr ⟨hk, _, hfr, .inr ⟨ds, e, j1, _, rfl, hex, .inr ⟨n, j, rfl, .inl ⟨hj, rfl, rfl, rfl⟩⟩⟩⟩⟩⟩,
        fun hj => .inr ⟨hs, neg, k, hsg, .inr ⟨h1, h2, b, k1, p, hbas, hr, .inr ⟨hk, _, hfr, .inr ⟨ds, e, j1, _, rfl, hex, .inr ⟨n, j, rfl, .inr ⟨hj, rfl, rfl, ?_⟩⟩⟩⟩⟩⟩⟩
      rw [hfl, hx, fin_word hb neg hs g1 g2 g3 g4 hV he hP]
theorem flo_lt {s : ByteArray} (hs : s.size ≤ 1200) {fl : Nat → Prop} {j x : Nat} (h : Flo s fl none j) (hx : fl x) (hn : fl = IsNan → x < 18446744073709551616) : x < 18446744073709551616 := by
  obtain ⟨neg, k, hsg, h⟩ := h
  rcases h with ⟨nan, h0, _, hfl⟩ | ⟨h1, h2, b, k1, y, hb, hbas, hf, hfl⟩
  · cases nan
    · rw [hfl] at hx
      have : x = iw neg := hx
      rw [this]
      cases neg <;> decide
    · exact hn hfl
  · obtain ⟨V, beh, r1, j1, hd, ⟨a', _, h, _⟩ | ⟨rfl, P, r2, hp, ⟨a', _, h⟩ | ⟨rfl, _, hy⟩⟩⟩ := hf
    · cases h
    · cases h
    · obtain ⟨p, ds, e, hr, hk, hfr, hV, he⟩ := fin_none hd
      obtain ⟨n, hex, hP⟩ := pow_none hp
      obtain ⟨g1, g2, g3, g4, _⟩ := frac_len hr hfr
      rw [hfl] at hx
      have hx' : x = y := hx
      rw [hx', hy, fin_word hb neg hs g1 g2 g3 g4 hV he hP]
      exact flW_lt _ _ _ _
end Go.Proofs.YtcbhcdaedchmlaaDoor

/- The program's reader: a whole text. -/
namespace Go.Proofs.YtcbhcdaedchmlaaDoor
open Go.ChangeShapes Go.WideShapes Go.RowKit

/-- What is said of a text that is read whole: a place where it breaks off, or a float. -/
def AllQ (s : ByteArray) (r : Option Nat) (x : Nat) : Prop :=
  (∃ a : Nat, r = some a ∧ ReadA s false (a : Int) (· = 0)) ∨ (r = none ∧ ∃ fl, ReadA s true 0 fl ∧ fl x ∧ x < 18446744073709551616)
theorem nil_eq (w : World) : (binOp .eql 60 .nilIface .nilIface).run Tryd.prog w = .ok (.bool true) w := by kernel_rfl
theorem bo_eq (v : Value) (w : World) : (binOp .eql 60 (.iface 64 v) .nilIface).run Tryd.prog w = .ok (.bool false) w := by kernel_rfl
set_option maxHeartbeats 2000000 in
set_option maxRecDepth 100000 in
theorem readAll_any (s : ByteArray) (w : World) :
    Calls Tryd.prog 28 #[.string s] w fun e w' => ∃ r x, AllQ s r x ∧ e = .returned (.tuple #[.float .f64 x, errV r]) ∧ Below w.heap.size w w' := by
  by_cases hs : 1200 < s.size
  · have hs' : (1200 : Int) < (s.size : Int) := by omega
    go_enter Tryd.func28, Tryd.ntmps28
    go_wp2
    go_ret2
    exact ⟨some 1200, 0, .inl ⟨1200, rfl, .inl ⟨hs, rfl, rfl, rfl⟩⟩, rfl, Below.refl _ _⟩
  · have hs' : (s.size : Int) ≤ 1200 := by omega
    have HS : Hid (s.size ≤ 1200) := Nat.le_of_not_lt hs
    clear hs
    have HB : Hid (Below w.heap.size w (w.alloc (.cells #[.string s, .int .i64 0] 74))) := (Below.refl _ w).alloc (by simp) _
    have HF : Hid _ := fun (_ : Unit) => rfloat_any w.heap.size s (w.alloc (.cells #[.string s, .int .i64 0] 74)) (by show (w.heap.push _)[w.heap.size]? = some _; simp) HS.out
    go_enter Tryd.func28, Tryd.ntmps28
    go_wp2_with fail
    refine (HF.out ()).mono ?_
    rintro e w1 ⟨fl, r, j, x, hflo, hx, hnn, hj, rfl, hr, hm⟩
    have HM : Hid (Below w.heap.size w w1) := HB.out.trans (hm.below (Nat.le_refl _) (by simp))
    have hc := hr.at_
    have hl := hr.lt
    clear hr hm HF HB
    cases r with
    | some a =>
      have HA : Hid (ReadA s false (a : Int) (· = 0)) := flo_some HS.out hflo
      have he := bo_eq (.agg #[.int .i64 (a : Int)])
      clear hflo hx hnn hj
      rw [err_some]
      go_wp2
      go_ret2
      exact ⟨some a, x, .inl ⟨a, rfl, HA.out⟩, rfl, HM.out⟩
    | none =>
      have he := nil_eq
      have hx := hx rfl
      have HL : Hid (x < 18446744073709551616) := flo_lt HS.out hflo hx hnn
      obtain ⟨h1, h2⟩ := flo_none HS.out hflo
      have HX : Hid (fl x) := hx
      clear hx hnn hflo
      rw [err_none]
      by_cases hl : j < s.size
      · have hl' : (j : Int) < (s.size : Int) := by omega
        have HA : Hid (ReadA s false (j : Int) (· = 0)) := h1 hl
        clear h1 h2 hl
        go_wp2
        go_quiet (fail)
        go_wp2
        go_ret2
        exact ⟨some j, 0, .inl ⟨j, rfl, HA.out⟩, rfl, below_drewN HM.out _⟩
      · have hl' : decide (j < s.size) = false := decide_eq_false hl
        have HA : Hid (ReadA s true 0 fl) := h2 hl
        clear h1 h2 hl
        go_wp2
        go_ret2
        exact ⟨none, x, .inr ⟨rfl, fl, HA.out, HX.out, HL.out⟩, rfl, HM.out⟩
end Go.Proofs.YtcbhcdaedchmlaaDoor

/- errors.As at the program's own error: what a caller is told. -/
namespace Go.Proofs.YtcbhcdaedchmlaaDoor
open Go.ChangeShapes Go.WideShapes Go.RowKit

theorem Handle.below {w w' : World} (h : Handle w) (hl : 1 < w.heap.size) (hb : Below w.heap.size w w') : Handle w' := by
  unfold Handle at h ⊢
  rw [← h]
  exact World.cell?_of_block (w := w) (hb.block _ hl)
theorem Handle.alloc {w : World} (h : Handle w) (hl : 1 < w.heap.size) (b : Obj) : Handle (w.alloc b) :=
  h.below hl ((Below.refl _ w).alloc (Nat.le_refl _) b)
theorem as_place (k : Int) (B : Nat) (old : Value) (w : World) (hg : Handle w) (hlt : 1 < w.heap.size) (h0 : w.cell? ⟨B, 0, none⟩ = some old) (hf : w.frozen? ⟨B, 0, none⟩ = false) :
    Calls Tryd.prog 29 #[.iface 64 (.agg #[.int .i64 k]), .iface 66 (.pointer (some ⟨B, 0, none⟩))] w fun e w' => e = .returned (.bool true) ∧ w'.cell? ⟨B, 0, none⟩ = some (.int .i64 k) ∧ Mod B w w' := by
  have hl : B < w.heap.size := by
    rcases Nat.lt_or_ge B w.heap.size with h | h
    · exact h
    · simp [World.cell?, Array.getElem?_eq_none h] at h0
  refine (as_hit k ⟨B, 0, none⟩ old w hg hlt h0 hf).mono ?_
  rintro e w' ⟨rfl, rfl⟩
  refine ⟨rfl, ?_, ((((Mod.refl B w).alloc _).alloc _).alloc _).alloc _ |>.setCell 0 _⟩
  refine World.cell?_setCell_same _ _ _ (u := old) ?_
  rw [World.cell?_alloc_lt _ _ _ (by simp; omega), World.cell?_alloc_lt _ _ _ (by simp; omega), World.cell?_alloc_lt _ _ _ (by simp; omega), World.cell?_alloc_lt _ _ _ hl]
  exact h0
end Go.Proofs.YtcbhcdaedchmlaaDoor

