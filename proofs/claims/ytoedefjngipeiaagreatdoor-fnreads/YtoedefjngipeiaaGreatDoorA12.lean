import Derived.Test.YtoedefjngipeiaaGreatDoorA08
import Derived.Test.YtoedefjngipeiaaGreatDoorA09
import Derived.Test.YtoedefjngipeiaaGreatDoorA11
import Derived.Test.YtoedefjngipeiaaGreatDoorA03
import Derived.Test.YtoedefjngipeiaaGreatDoorRows
import Derived.WalkKit
import Derived.WalkSpells
import Derived.WalkLawsBesides
import Derived.Outline
import Derived.BigQuiet
import Derived.Deep.QuietTactic
import Derived.Laws.BitsAllLaws
/- l7pointed of the specification. -/
namespace Go.Proofs.YtoedefjngipeiaaGreatDoor
open Go.ChangeShapes Go.WideShapes Go.RowKit

theorem two_le_big (E : Nat) : 2 ^ E ≤ 4294967296 ^ E := Nat.pow_le_pow_left (by omega) E
theorem up_bound (A E : Nat) (hA : A < 4294967296 ^ 2) : A * 2 ^ E < 4294967296 ^ (2 + E) := by
  rw [Nat.pow_add]
  exact Nat.mul_lt_mul_of_lt_of_le hA (two_le_big E) (Nat.pow_pos (by omega))
theorem zeros_extract (n : Nat) (ds : ByteArray) : ((⟨(zerosL n).toArray⟩ : ByteArray) ++ ds).data.toList = List.replicate n 48 ++ ds.data.toList := by
  rw [append_list]; rfl

set_option maxHeartbeats 2000000 in
set_option maxRecDepth 100000 in
theorem l7pointed_up (v : Value) (A E : Nat) (w : World) (h : Big w v A) (hA0 : 0 < A) (hA : A < 4294967296 ^ 2) (hE : E ≤ 4000) :
    Calls Tryz.prog 28 #[v, .int .i64 (E : Int)] w fun e w' => ∃ t : ByteArray, e = .returned (.string t) ∧ Pointed t A (E : Int) ∧ Below w.heap.size w w' := by
  have HB : Hid (Big w v A) := h
  have HA : Hid (A < 4294967296 ^ 2) := hA
  obtain ⟨ao, len, cap, rfl, hl⟩ : ∃ ao len cap, v = .slice ao len cap ∧ ((len : Int) == 0) = false := by
    obtain ⟨ls, ⟨ao, cap, hv, _⟩, _, h3, h4⟩ := h
    refine ⟨ao, _, cap, hv, beq_eq_false_iff_ne.2 ?_⟩
    intro h0
    have : ls = [] := List.length_eq_zero_iff.1 (by omega)
    rw [this] at h4
    simp [bval] at h4
    omega
  have HUP : Hid _ := up_bound A E hA
  have HP0 : Hid (0 < A * 2 ^ E) := Nat.mul_pos hA0 (Nat.two_pow_pos E)
  have HP : Hid _ := fun ds h => pointed_up ds A E hA0 h
  clear h hA hA0
  go_enter Tryz.func28, Tryz.ntmps28
  go_wp2_with fail
  refine (l0shl_big _ A 2 E _ HB.out HA.out (by omega) (by omega)).mono ?_
  rintro e w1 ⟨v1, rfl, hb1, hv1⟩
  have HB1 : Hid (Below w.heap.size w w1) := hb1
  have HV1 : Hid (Big w1 v1 (A * 2 ^ E)) := hv1
  clear hb1 hv1
  go_wp2_with fail
  refine (l0digits_any v1 (A * 2 ^ E) (2 + E) w1 HV1.out HUP.out (by omega)).mono ?_
  rintro e w2 ⟨ds, rfl, hds, hb2⟩
  have HD : Hid (IsDec ds (A * 2 ^ E)) := hds
  have hfew := dec_few ds _ (2 + E) hds HUP.out
  have HB2 : Hid (Below w.heap.size w w2) := HB1.out.trans (hb2.mono HB1.out.size)
  have hpos : 0 < ds.size := dec_pos ds _ hds HP0.out
  have hne : decide (ds = ByteArray.empty) = false := decide_eq_false (fun h => by rw [h] at hpos; exact absurd hpos (by decide))
  clear hds hb2 HV1 HB1
  go_wp2_with fail
  go_quiet (fail)
  go_wp2
  go_ret
  exact ⟨_, rfl, HP.out _ HD.out, below_drewN HB2.out _⟩
set_option maxHeartbeats 2000000 in
set_option maxRecDepth 100000 in
theorem l7pointed_down (v : Value) (A s : Nat) (w : World) (h : Big w v A) (hA0 : 0 < A) (hA : A < 4294967296 ^ 2) (hs : s ≤ 4000) (hs0 : 0 < s) :
    Calls Tryz.prog 28 #[v, .int .i64 (-(s : Int))] w fun e w' => ∃ t : ByteArray, e = .returned (.string t) ∧ Pointed t A (-(s : Int)) ∧ Below w.heap.size w w' := by
  have HB : Hid (Big w v A) := h
  obtain ⟨ao, len, cap, rfl, hl⟩ : ∃ ao len cap, v = .slice ao len cap ∧ ((len : Int) == 0) = false := by
    obtain ⟨ls, ⟨ao, cap, hv, _⟩, _, h3, h4⟩ := h
    refine ⟨ao, _, cap, hv, beq_eq_false_iff_ne.2 ?_⟩
    intro h0
    have : ls = [] := List.length_eq_zero_iff.1 (by omega)
    rw [this] at h4
    simp [bval] at h4
    omega
  have HUP : Hid _ := down_bound A s hA
  have HP0 : Hid (0 < A * 5 ^ s) := Nat.mul_pos hA0 (Nat.pow_pos (by omega))
  have HA0 : Hid (0 < A) := hA0
  clear h hA hA0
  go_enter Tryz.func28, Tryz.ntmps28
  go_wp2_with fail
  refine (l0pow_any 5 s _ (by omega) (by omega)).mono ?_
  rintro e w1 ⟨v1, rfl, hb1, hv1⟩
  have HB1 : Hid (Below w.heap.size w w1) := hb1
  have HV1 : Hid (Big w1 v1 (5 ^ s)) := hv1
  clear hb1 hv1
  go_wp2_with fail
  refine (l0times_any _ _ A (5 ^ s) (s + 2) _ (HB.out.below HB1.out (Nat.le_refl _)) HV1.out HUP.out.1 HUP.out.2.1 (by omega)).mono ?_
  rintro e w2 ⟨v2, rfl, hb2, hv2⟩
  have HB2 : Hid (Below w.heap.size w w2) := HB1.out.trans (hb2.mono HB1.out.size)
  have HV2 : Hid (Big w2 v2 (A * 5 ^ s)) := hv2
  clear hb2 hv2 HV1 HB1
  go_wp2_with fail
  refine (l0digits_any v2 (A * 5 ^ s) (s + 2 + (s + 2)) w2 HV2.out HUP.out.2.2 (by omega)).mono ?_
  rintro e w3 ⟨ds, rfl, hds, hb3⟩
  have HD : Hid (IsDec ds (A * 5 ^ s)) := hds
  have hfew := dec_few ds _ _ hds HUP.out.2.2
  have HB3 : Hid (Below w.heap.size w w3) := HB2.out.trans (hb3.mono HB2.out.size)
  have hpos : 0 < ds.size := dec_pos ds _ hds HP0.out
  have HBD : Hid _ := (dec_bounds ds _ hds hpos).1
  clear hds hb3 HV2 HB2
  by_cases hle : ds.size ≤ s
  · obtain ⟨z, hz⟩ : ∃ z : Nat, ds.size + z = s + 1 := ⟨s + 1 - ds.size, by omega⟩
    have hz1 : (s : Int) - (ds.size : Int) + 1 = (z : Int) := by omega
    go_wp2_with fail
    refine (l5zeros_any z (by omega) _).mono ?_
    rintro e w4 ⟨rfl, hb4⟩
    have HB4 : Hid (Below w.heap.size w w4) := HB3.out.trans (hb4.mono HB3.out.size)
    have hzs : (⟨(zerosL z).toArray⟩ : ByteArray).size = z := by rw [← data_len]; exact zerosL_length z
    have HL : Hid _ := zeros_extract z ds
    generalize (⟨(zerosL z).toArray⟩ : ByteArray) = Z at *
    clear hb4 HB3
    go_wp2_with fail
    have hsz := append_size Z ds
    generalize Z ++ ds = D at *
    have hDs : D.size = 1 + s := by omega
    have HP : Hid (Pointed (D.extract 0 1 ++ dotB ++ D.extract 1 D.size) A (-(s : Int))) := pointed_down D A s 1 z HA0.out hs0 ds.data.toList HL.out HD.out.1 HD.out.2.1 hDs (by omega) (.inl rfl)
    have hDi : (D.size : Int) - (s : Int) = 1 := by omega
    have hD1 : 1 ≤ D.size := by omega
    go_quiet (fail)
    go_wp2
    go_ret
    exact ⟨_, rfl, by rw [show z + ds.size - s = 1 by omega, show z + ds.size = D.size by omega]; exact HP.out, below_drewN HB4.out _⟩
  · obtain ⟨k, hk⟩ : ∃ k : Nat, ds.size = k + s := ⟨ds.size - s, by omega⟩
    have HP : Hid (Pointed (ds.extract 0 k ++ dotB ++ ds.extract k ds.size) A (-(s : Int))) := pointed_down ds A s k 0 HA0.out hs0 ds.data.toList rfl HD.out.1 HD.out.2.1 hk (by omega) (.inr HBD.out)
    have hDi : (ds.size : Int) - (s : Int) = (k : Int) := by omega
    have hk2 : k ≤ ds.size := by omega
    clear hk
    go_wp2_with fail
    go_quiet (fail)
    go_wp2
    go_ret
    exact ⟨_, rfl, HP.out, below_drewN HB3.out _⟩
set_option maxHeartbeats 400000 in
theorem l7pointed_none (ao : Option Addr) (cap : Nat) (e : Int) (w : World) :
    Calls Tryz.prog 28 #[.slice ao 0 cap, .int .i64 e] w fun e' w' => ∃ t : ByteArray, e' = .returned (.string t) ∧ Pointed t 0 e ∧ Below w.heap.size w w' := by
  go_enter Tryz.func28, Tryz.ntmps28
  go_wp2
  go_ret
  exact ⟨_, rfl, pointed_zero e, Below.refl _ _⟩
theorem l7pointed_any (v : Value) (A : Nat) (e : Int) (w : World) (h : Big w v A) (hA : A < 4294967296 ^ 2) (h1 : -4000 ≤ e) (h2 : e ≤ 4000) :
    Calls Tryz.prog 28 #[v, .int .i64 e] w fun e' w' => ∃ t : ByteArray, e' = .returned (.string t) ∧ Pointed t A e ∧ Below w.heap.size w w' := by
  by_cases h0 : A = 0
  · subst h0
    obtain ⟨ls, ⟨ao, cap, rfl, _⟩, _, h3, h4⟩ := h
    rw [(trim_nil_iff h3).2 h4]
    exact l7pointed_none ao cap e w
  · by_cases he : 0 ≤ e
    · obtain ⟨E, rfl⟩ := Int.eq_ofNat_of_zero_le he
      exact l7pointed_up v A E w h (by omega) hA (by omega)
    · obtain ⟨s, rfl⟩ : ∃ s : Nat, e = -(s : Int) := ⟨(-e).toNat, by omega⟩
      exact l7pointed_down v A s w h (by omega) hA (by omega) (by omega)
end Go.Proofs.YtoedefjngipeiaaGreatDoor

/- A callee that writes into one block alone. -/
namespace Go.Proofs.YtoedefjngipeiaaGreatDoor
open Go.ChangeShapes Go.WideShapes Go.RowKit

/-- Of what was there nothing has turned but block B. -/
def Only (B : Nat) (w w' : World) : Prop := w'.os = w.os ∧ w'.tape = w.tape ∧ w'.output = w.output ∧ w'.heap.size = w.heap.size ∧ ∀ k, k ≠ B → w'.heap[k]? = w.heap[k]?
theorem Only.refl (B : Nat) (w : World) : Only B w w := ⟨rfl, rfl, rfl, rfl, fun _ _ => rfl⟩
theorem Only.trans {B : Nat} {a b c : World} (h : Only B a b) (k : Only B b c) : Only B a c :=
  ⟨k.1.trans h.1, k.2.1.trans h.2.1, k.2.2.1.trans h.2.2.1, k.2.2.2.1.trans h.2.2.2.1, fun i hi => (k.2.2.2.2 i hi).trans (h.2.2.2.2 i hi)⟩
theorem Only.drewN {B : Nat} {a w : World} (h : Only B a w) (n : Nat) : Only B a (w.drewN n) := h.trans ⟨rfl, rfl, rfl, rfl, fun _ _ => rfl⟩
theorem Only.setCell {B : Nat} {a w : World} (h : Only B a w) (o : Nat) (u : Value) : Only B a (w.setCell ⟨B, o, none⟩ u) :=
  h.trans ⟨rfl, rfl, rfl, by simp [World.setCell], fun k hk => Below.heap_setCell _ _ _ _ hk⟩
theorem Only.cell {B : Nat} {w w' : World} (h : Only B w w') {p : Addr} (hp : p.block ≠ B) : w'.cell? p = w.cell? p := World.cell?_of_block (w := w) (h.2.2.2.2 p.block hp)
theorem Only.frozen {B : Nat} {w w' : World} (h : Only B w w') {p : Addr} (hp : p.block ≠ B) : w'.frozen? p = w.frozen? p := World.frozen?_of_block (w := w) (h.2.2.2.2 p.block hp)
theorem Only.below {B C : Nat} {w w' : World} (h : Only B w w') (hC : C ≤ B) : Below C w w' :=
  ⟨h.1, h.2.1, h.2.2.1, by rw [h.2.2.2.1]; exact Nat.le_refl _, fun k hk => h.2.2.2.2 k (by omega)⟩

theorem cell_lt {w : World} {p : Addr} {v : Value} (h : w.cell? p = some v) : p.block < w.heap.size := by
  by_cases hp : p.block < w.heap.size
  · exact hp
  · have e : w.heap[p.block]? = Option.none := Array.getElem?_eq_none (by omega)
    simp [World.cell?, e] at h
end Go.Proofs.YtoedefjngipeiaaGreatDoor

/- The cursor that draws choices from bytes: it returns, whatever the bytes; it writes into its own block alone. -/
namespace Go.Proofs.YtoedefjngipeiaaGreatDoor
open Go.ChangeShapes Go.WideShapes Go.RowKit

/-- The bytes of a slice that came in: its cells hold bytes, and lie in another block than B. -/
def Code (B : Nat) (w : World) (a : Option Addr) (len : Nat) : Prop := len ≤ 1048576 ∧ ∀ i : Nat, i < len → ∃ x : Addr, a = some x ∧ x.block ≠ B ∧ ∃ z : Int, 0 ≤ z ∧ z ≤ 255 ∧ w.cell? (x.add i) = some (.int .u8 z)
/-- The cursor in block B. -/
def Cur (B : Nat) (w : World) (a : Option Addr) (len cap : Nat) (pos : Int) : Prop :=
  ∃ seed : Int, w.cell? ⟨B, 0, none⟩ = some (.slice a len cap) ∧ w.cell? ⟨B, 1, none⟩ = some (.int .i64 pos) ∧ w.cell? ⟨B, 2, none⟩ = some (.int .u64 seed)
    ∧ w.frozen? ⟨B, 1, none⟩ = false ∧ w.frozen? ⟨B, 2, none⟩ = false
theorem Code.only {B : Nat} {w w' : World} {a : Option Addr} {len : Nat} (h : Code B w a len) (ho : Only B w w') : Code B w' a len :=
  ⟨h.1, fun i hi => by
    obtain ⟨x, hx, hb, z, h0, h1, hc⟩ := h.2 i hi
    exact ⟨x, hx, hb, z, h0, h1, by rw [ho.cell (by unfold Addr.add; split <;> exact hb)]; exact hc⟩⟩

theorem Cur.below {B C : Nat} {w w' : World} {a : Option Addr} {len cap : Nat} {pos : Int} (h : Cur B w a len cap pos) (hb : Below C w w') (hB : B < C) : Cur B w' a len cap pos := by
  obtain ⟨seed, c0, c1, c2, f1, f2⟩ := h
  exact ⟨seed, by rw [hb.cell (p := ⟨B, 0, none⟩) hB]; exact c0, by rw [hb.cell (p := ⟨B, 1, none⟩) hB]; exact c1, by rw [hb.cell (p := ⟨B, 2, none⟩) hB]; exact c2, by rw [hb.frozen (p := ⟨B, 1, none⟩) hB]; exact f1, by rw [hb.frozen (p := ⟨B, 2, none⟩) hB]; exact f2⟩
theorem Code.below {B : Nat} {w w' : World} {a : Option Addr} {len : Nat} (h : Code B w a len) (hb : Below w.heap.size w w') : Code B w' a len :=
  ⟨h.1, fun i hi => by
    obtain ⟨x, hx, hne, z, h0, h1, hc⟩ := h.2 i hi
    exact ⟨x, hx, hne, z, h0, h1, by rw [hb.cell (cell_lt hc)]; exact hc⟩⟩
theorem low8 (X : Int) (h0 : 0 ≤ X) (h1 : X < 18446744073709551616) : 0 ≤ wrap64 (bits .and .u64 X 255) ∧ wrap64 (bits .and .u64 X 255) ≤ 255 := by
  rw [u64_and X 255 h0 h1 (by omega) (by omega)]
  have h := Nat.and_le_right (n := X.toNat) (m := (255 : Int).toNat)
  have e : (255 : Int).toNat = 255 := rfl
  rw [e] at h ⊢
  generalize X.toNat &&& 255 = k at *
  unfold wrap64
  omega
theorem u64_in (x : Int) : 0 ≤ IntKind.u64.wrap x ∧ IntKind.u64.wrap x < 18446744073709551616 := by rw [IntKind.wrap_u64]; omega

set_option maxHeartbeats 400000 in
theorem next_any (B : Nat) (w : World) (a : Option Addr) (len cap : Nat) (pos : Int) (hc : Cur B w a len cap pos) (hk : Code B w a len) (h0 : 0 ≤ pos) (h1 : pos ≤ 1000000000) :
    Calls Tryz.prog 54 #[.pointer (some ⟨B, 0, none⟩)] w fun e w' => ∃ v : Int, 0 ≤ v ∧ v ≤ 255 ∧ e = .returned (.int .i64 v) ∧ Cur B w' a len cap (pos + 1) ∧ Only B w w' := by
  obtain ⟨seed, c0, c1, c2, f1, f2⟩ := hc
  by_cases hlt : pos < len
  · obtain ⟨hlen, hk⟩ := hk
    obtain ⟨x, rfl, hb, z, hz0, hz1, hx⟩ := hk pos.toNat (by omega)
    clear hk
    go_enter Tryz.func54, Tryz.ntmps54
    go_wp2
    go_quiet (fail)
    go_wp2
    go_quiet (fail)
    go_wp2
    go_ret
    exact ⟨z, hz0, hz1, rfl, ⟨_, by simp [go_sem, c0], by simp [go_sem, c1], by simp [go_sem, c2]; rfl, by simp [go_sem, f1], by simp [go_sem, f2]⟩, (((Only.refl _ _).drewN _).setCell _ _).setCell _ _⟩
  · go_enter Tryz.func54, Tryz.ntmps54
    clear hk
    go_wp2
    go_quiet (fail)
    go_wp2
    have hl := low8 (IntKind.u64.wrap (IntKind.u64.wrap (seed * 6364136223846793005) + 1442695040888963407) / 1099511627776) (by have := u64_in (IntKind.u64.wrap (seed * 6364136223846793005) + 1442695040888963407); omega) (by have := u64_in (IntKind.u64.wrap (seed * 6364136223846793005) + 1442695040888963407); omega)
    go_ret
    exact ⟨_, hl.1, hl.2, rfl, ⟨_, by simp [go_sem, c0], by simp [go_sem, c1], by simp [go_sem, c2]; rfl, by simp [go_sem, f1], by simp [go_sem, f2]⟩, (((Only.refl _ _).drewN _).setCell _ _).setCell _ _⟩
end Go.Proofs.YtoedefjngipeiaaGreatDoor

/- The cursor: pick, bits, num; the int that bytes tell. -/
namespace Go.Proofs.YtoedefjngipeiaaGreatDoor
open Go.ChangeShapes Go.WideShapes Go.RowKit

set_option maxHeartbeats 400000 in
theorem pick_any (B : Nat) (w : World) (a : Option Addr) (len cap : Nat) (pos n : Int) (hc : Cur B w a len cap pos) (hk : Code B w a len) (h0 : 0 ≤ pos) (h1 : pos ≤ 900000000) (hn : 2 ≤ n) (hn' : n ≤ 1000000) :
    Calls Tryz.prog 30 #[.pointer (some ⟨B, 0, none⟩), .int .i64 n] w fun e w' => ∃ v pos' : Int, 0 ≤ v ∧ v < n ∧ e = .returned (.int .i64 v) ∧ pos ≤ pos' ∧ pos' ≤ pos + 2 ∧ Cur B w' a len cap pos' ∧ Code B w' a len ∧ Only B w w' := by
  have HN : Hid _ := fun (_ : Unit) => next_any B w a len cap pos hc hk h0 (by omega)
  have HK : Hid _ := fun (_ : Unit) => hk
  clear hc hk
  go_enter Tryz.func30, Tryz.ntmps30
  go_wp2_with fail
  refine (HN.out ()).mono ?_
  rintro e w1 ⟨x, hx0, hx1, rfl, hc1, ho1⟩
  have hk1 := (HK.out ()).only ho1
  by_cases hs : 200 < n
  · have HN2 : Hid _ := fun (_ : Unit) => next_any B w1 a len cap (pos + 1) hc1 hk1 (by omega) (by omega)
    have HO : Hid _ := fun (_ : Unit) => ho1
    have HK1 : Hid _ := fun (_ : Unit) => hk1
    clear hc1 ho1 hk1 HN HK
    go_wp2_with fail
    refine (HN2.out ()).mono ?_
    rintro e w2 ⟨y, hy0, hy1, rfl, hc2, ho2⟩
    have HO2 : Hid _ := fun (_ : Unit) => ho2
    have HC2 : Hid _ := fun (_ : Unit) => hc2
    clear hc2 ho2 HN2
    have hm0 : 0 ≤ (x * 256 + y) % n := Int.emod_nonneg _ (by omega)
    have hm1 : (x * 256 + y) % n < n := Int.emod_lt_of_pos _ (by omega)
    go_wp2
    go_ret
    exact ⟨_, _, hm0, hm1, rfl, by omega, by omega, HC2.out (), (HK1.out ()).only (HO2.out ()), (HO.out ()).trans (HO2.out ())⟩
  · have HO : Hid _ := fun (_ : Unit) => ho1
    have HC1 : Hid _ := fun (_ : Unit) => hc1
    have HK1 : Hid _ := fun (_ : Unit) => hk1
    clear hc1 ho1 hk1 HN HK
    have hm0 : 0 ≤ x % n := Int.emod_nonneg _ (by omega)
    have hm1 : x % n < n := Int.emod_lt_of_pos _ (by omega)
    go_wp2
    go_ret
    exact ⟨_, _, hm0, hm1, rfl, by omega, by omega, HC1.out (), HK1.out (), HO.out ()⟩

set_option maxHeartbeats 400000 in
theorem bits_any (B : Nat) (w : World) (a : Option Addr) (len cap : Nat) (pos : Int) (hc : Cur B w a len cap pos) (hk : Code B w a len) (h0 : 0 ≤ pos) (h1 : pos ≤ 900000000) :
    Calls Tryz.prog 71 #[.pointer (some ⟨B, 0, none⟩)] w fun e w' => ∃ v : Int, (Lit.int .i64 v).wf = true ∧ e = .returned (.int .i64 v) ∧ Cur B w' a len cap (pos + 8) ∧ Code B w' a len ∧ Only B w w' := by
  have HS : Hid _ := fun (_ : Unit) => And.intro hc hk
  clear hc hk
  go_enter Tryz.func71, Tryz.ntmps71
  go_wp2
  go_loopw [3, 4] (fun n k wl => ∃ (j : Nat) (N : Int), j ≤ 8 ∧ n = .int .u64 N ∧ k = .int .i64 j ∧ Hid (Cur B wl a len cap (pos + j) ∧ Code B wl a len ∧ Only B w wl)) (fun _ k _ => 8 - (intOf k).toNat)
  case atStart => exact ⟨0, 0, by omega, rfl, rfl, by have := (HS.out ()).1; simpa using this, (HS.out ()).2, Only.refl _ _⟩
  case round =>
    obtain ⟨j, N, hj, rfl, rfl, HR⟩ := hrel
    by_cases hlt : j < 8
    · obtain ⟨hc, hk, ho⟩ := HR.out
      have HN : Hid _ := fun (_ : Unit) => next_any B wr a len cap (pos + j) hc hk (by omega) (by omega)
      have HX : Hid _ := fun (_ : Unit) => And.intro hk ho
      clear hc hk ho HR
      go_wp2_with fail
      refine (HN.out ()).mono ?_
      rintro e w1 ⟨x, hx0, hx1, rfl, hc1, ho1⟩
      have HY : Hid _ := fun (_ : Unit) => And.intro hc1 ho1
      clear hc1 ho1 HN
      go_wp2
      refine ⟨⟨j + 1, _, by omega, rfl, by go_num, ?_, (HX.out ()).1.only (HY.out ()).2, (HX.out ()).2.trans (HY.out ()).2⟩, by simp [intOf]; omega⟩
      have h := (HY.out ()).1
      rw [show pos + ((j + 1 : Nat) : Int) = pos + (j : Int) + 1 by omega]
      exact h
    · have e8 : j = 8 := by omega
      subst e8
      go_wp2
      go_ret
      exact ⟨_, wrap64_wf N, rfl, HR.out⟩

theorem small_wf (v : Int) (h0 : -1000 ≤ v) (h1 : v ≤ 1000) : (Lit.int .i64 v).wf = true := by
  refine WalkArith.wf_i64 ?_; omega
theorem Only.toBelow {B : Nat} {a b c : World} (h : Only B a b) (k : Below B b c) : Below B a c := (h.below (Nat.le_refl _)).trans k
end Go.Proofs.YtoedefjngipeiaaGreatDoor

