import Derived.Test.YtoedefjngipeiaaGreatDoorA13
import Derived.Test.YtoedefjngipeiaaGreatDoorA19
import Derived.Test.YtoedefjngipeiaaGreatDoorA25
import Derived.Test.YtoedefjngipeiaaGreatDoorA26
import Derived.Deep.Cut
import Derived.Deep.CutRange
import Derived.Deep.CutBlock
/- num of the cursor, handed on. -/
namespace Go.Proofs.YtoedefjngipeiaaGreatDoor
open Go.ChangeShapes Go.WideShapes Go.RowKit

set_option maxHeartbeats 1000000 in
theorem num_ds (B : Nat) (w0 w : World) (a : Option Addr) (len cap : Nat) (m : Int) (h : DS B w0 w a len cap m) (hm : m ≤ 700000000) :
    Calls Tryz.prog 61 #[.pointer (some ⟨B, 0, none⟩)] w fun e w' => ∃ v : Int, (Lit.int .i64 v).wf = true ∧ e = .returned (.int .i64 v) ∧ DS B w0 w' a len cap (m + 20) := by
  have HP : Hid _ := fun (_ : Unit) => pick_ds B w0 w a len cap m 5 h (by omega) (by omega) (by omega)
  clear h
  go_enter Tryz.func61, Tryz.ntmps61
  go_wp2_with fail
  refine (HP.out ()).mono ?_
  rintro e w1 ⟨x, hx0, hx1, rfl, hd1⟩
  have H1 : Hid _ := fun (_ : Unit) => hd1
  clear HP hd1
  have hx : x = 0 ∨ x = 1 ∨ x = 2 ∨ 3 ≤ x := by omega
  rcases hx with rfl | rfl | rfl | hx
  · go_wp2_with fail
    refine (bits_ds B w0 w1 a len cap _ (H1.out ()) (by omega)).mono ?_
    rintro e w2 ⟨v, hv, rfl, hd2⟩
    have H2 : Hid _ := fun (_ : Unit) => And.intro hv hd2
    clear hv hd2
    go_wp2
    go_ret
    exact ⟨v, (H2.out ()).1, rfl, (H2.out ()).2.mono (by omega)⟩
  · go_wp2_with fail
    refine (bits_ds B w0 w1 a len cap _ (H1.out ()) (by omega)).mono ?_
    rintro e w2 ⟨v, hv, rfl, hd2⟩
    have H2 : Hid _ := fun (_ : Unit) => hd2
    clear hv hd2
    go_wp2_with fail
    refine (pick_ds B w0 w2 a len cap _ 64 (H2.out ()) (by omega) (by omega) (by omega)).mono ?_
    rintro e w3 ⟨y, hy0, hy1, rfl, hd3⟩
    have H3 : Hid _ := fun (_ : Unit) => hd3
    clear hd3
    go_wp2
    go_ret
    exact ⟨_, wrap64_wf _, rfl, (H3.out ()).mono (by omega)⟩
  · have HB : Hid _ := fun (O : Obj) => (H1.out ()).below ((Below.refl _ _).alloc (Nat.le_refl _) O)
    have hB := (H1.out ()).fresh
    go_wp2_with fail
    refine (pick_ds B _ _ a len cap _ 9 (HB.out _).self (by omega) (by omega) (by omega)).mono ?_
    rintro e w2 ⟨y, hy0, hy1, rfl, hd2⟩
    have hcell := fun o => hd2.cell ⟨w1.heap.size, o, none⟩ (by simp) hB
    have H2 : Hid _ := fun (_ : Unit) => (HB.out _).join hd2
    clear hd2 HB
    have hy : y = 0 ∨ y = 1 ∨ y = 2 ∨ y = 3 ∨ y = 4 ∨ y = 5 ∨ y = 6 ∨ y = 7 ∨ y = 8 := by omega
    rcases hy with rfl | rfl | rfl | rfl | rfl | rfl | rfl | rfl | rfl
    all_goals
      go_wp2
      go_ret
      exact ⟨_, by decide, rfl, (H2.out ()).mono (by omega)⟩
  · have e0 : (x == 0) = false := beq_eq_false_iff_ne.2 (by omega)
    have e1 : (x == 1) = false := beq_eq_false_iff_ne.2 (by omega)
    have e2 : (x == 2) = false := beq_eq_false_iff_ne.2 (by omega)
    go_wp2_with fail
    refine (pick_ds B w0 w1 a len cap _ 200 (H1.out ()) (by omega) (by omega) (by omega)).mono ?_
    rintro e w2 ⟨y, hy0, hy1, rfl, hd2⟩
    have H2 : Hid _ := fun (_ : Unit) => hd2
    clear hd2
    go_wp2
    go_ret
    exact ⟨_, small_wf _ (by omega) (by omega), rfl, (H2.out ()).mono (by omega)⟩
end Go.Proofs.YtoedefjngipeiaaGreatDoor

/- Sizes of drawn texts: plain. -/
namespace Go.Proofs.YtoedefjngipeiaaGreatDoor
open Go.ChangeShapes Go.WideShapes Go.RowKit

theorem bits_text16 (n : Int) : (bitsText n 16).size ≤ 64 := by
  unfold bitsText
  rw [if_pos (by omega), ← data_len]
  exact textOf_length 16 _
theorem zerosL_size (n : Nat) : (⟨(zerosL n).toArray⟩ : ByteArray).size = n := zerosB_size n
theorem midst_len (t : ByteArray) (m : Nat) (p : Int) (hc : Canon m p) (h : Pointed t (2 * m + 1) (p - 1)) : t.size ≤ 1150 := by
  have hm2 : m < 9007199254740992 := by rcases hc with h | h <;> omega
  have hp1 : -1074 ≤ p := by rcases hc with h | h <;> omega
  have hp2 : p ≤ 971 := by rcases hc with h | h <;> omega
  have := pointed_size t _ _ h (by omega)
  split at this <;> omega
theorem texts_at (cs : List ByteArray) (h : ∀ f ∈ cs, f.size ≤ 30) (n : Nat) (hn : n < cs.length) : ∃ f, ((cs.map Value.string).toArray)[n]? = some (.string f) ∧ f.size ≤ 30 := by
  refine ⟨cs[n], ?_, h _ (List.getElem_mem hn)⟩
  simp [List.getElem?_eq_getElem hn]
theorem word_canon (r : Nat) (h : r < 9218868437227405312) : ∃ m p, Canon m p ∧ r = fw false m p := by
  obtain ⟨m, p, hc, he, _⟩ := canon_parts (r / 4503599627370496) (r % 4503599627370496) (by omega) (by omega)
  have e : rung m p = r := by omega
  exact ⟨m, p, hc, by rw [fw_canon _ _ _ hc, e]; exact (Nat.zero_add r).symm⟩
end Go.Proofs.YtoedefjngipeiaaGreatDoor

/- What the end of a drawn text wants. -/
namespace Go.Proofs.YtoedefjngipeiaaGreatDoor
open Go.ChangeShapes Go.WideShapes Go.RowKit

def fxtL : List ByteArray := [⟨#[105, 110, 102]⟩, ⟨#[45, 105, 110, 102]⟩, ⟨#[110, 97, 110]⟩, ⟨#[43, 105, 110, 102]⟩, ⟨#[45, 110, 97, 110]⟩, ⟨#[105, 110, 102, 105, 110, 105, 116, 121]⟩, ⟨#[105, 110]⟩, ⟨#[48, 120]⟩, ⟨#[48, 120, 46, 56]⟩, ⟨#[49, 46]⟩, ⟨#[46, 53]⟩, ⟨#[49, 101]⟩, ⟨#[49, 101, 43]⟩, ⟨#[49, 101, 45, 53]⟩, ⟨#[49, 112, 53]⟩, ⟨#[48, 120, 49, 112]⟩, ⟨#[48, 120, 49, 112, 45, 51]⟩, ⟨#[49, 101, 57, 57, 57, 57, 57, 57, 57, 57, 57, 57, 57]⟩, ⟨#[48, 101, 57, 57, 57, 57, 57, 57, 57, 57, 57, 57, 57]⟩, ⟨#[49, 101, 45, 57, 57, 57, 57, 57, 57, 57, 57, 57, 57, 57]⟩, ⟨#[48, 120, 49, 112, 57, 57, 57, 57, 57]⟩, ⟨#[48, 48, 48, 49, 50]⟩, ⟨#[48, 120, 48, 112, 48]⟩, ⟨#[45, 48]⟩, ⟨#[43, 49, 46, 53, 101, 43, 51]⟩, ⟨#[48, 120, 49, 101, 53]⟩, ⟨#[49, 46, 56, 52, 52, 54, 55, 52, 52, 48, 55, 51, 55, 48, 57, 53, 53, 49, 54, 49, 54, 101, 49, 57]⟩, ⟨#[50, 46, 52, 55, 48, 51, 50, 56, 50, 50, 57, 50, 48, 54, 50, 51, 50, 55, 101, 45, 51, 50, 52]⟩, ⟨#[50, 46, 52, 55, 48, 51, 50, 56, 50, 50, 57, 50, 48, 54, 50, 51, 50, 56, 101, 45, 51, 50, 52]⟩, ⟨#[49, 46, 55, 57, 55, 54, 57, 51, 49, 51, 52, 56, 54, 50, 51, 49, 53, 56, 101, 51, 48, 56]⟩, ⟨#[49, 46, 55, 57, 55, 54, 57, 51, 49, 51, 52, 56, 54, 50, 51, 49, 53, 57, 101, 51, 48, 56]⟩]
theorem fxtL_ok : ∀ f ∈ fxtL, f.size ≤ 30 := by decide
theorem DS.late {B : Nat} {w v v' : World} {a : Option Addr} {len cap : Nat} {n : Int} (h : DS B w v a len cap n) (hk : Code B w a len) (hB : B < w.heap.size) (hb : Below w.heap.size v v') : DS B w v' a len cap n := by
  obtain ⟨pos, h0, h1, hc, _, hw⟩ := h
  have g1 : w.grownBy v' (some B) := ⟨hb.os.trans hw.os, hb.tape.trans hw.tape, hb.output.trans hw.output, Nat.le_trans hw.size hb.size, fun k hk hr => (hb.block k hk).trans (hw.block k hk hr)⟩
  refine ⟨pos, h0, h1, ?_, ?_, g1⟩
  · obtain ⟨seed, c0, c1, c2, f1, f2⟩ := hc
    have e : v'.heap[B]? = v.heap[B]? := hb.block B hB
    exact ⟨seed, (World.cell?_of_block (a := ⟨B, 0, none⟩) e).trans c0, (World.cell?_of_block (a := ⟨B, 1, none⟩) e).trans c1, (World.cell?_of_block (a := ⟨B, 2, none⟩) e).trans c2, (World.frozen?_of_block (a := ⟨B, 1, none⟩) e).trans f1, (World.frozen?_of_block (a := ⟨B, 2, none⟩) e).trans f2⟩
  · refine ⟨hk.1, fun i hi => ?_⟩
    obtain ⟨x, hx, hb', z, z0, z1, hcell⟩ := hk.2 i hi
    have hbl : (x.add i).block = x.block := by unfold Addr.add; split <;> rfl
    exact ⟨x, hx, hb', z, z0, z1, by rw [g1.cell_far (x.add i) (cell_lt hcell) (by intro e; cases e; exact hb' hbl.symm)]; exact hcell⟩
theorem DS.code {B : Nat} {w v : World} {a : Option Addr} {len cap : Nat} {n : Int} (h : DS B w v a len cap n) : Code B v a len ∧ B < v.heap.size := by
  obtain ⟨_, _, _, hc, hk, _⟩ := h
  exact ⟨hk, cur_lt hc⟩
theorem DS.frozen {B : Nat} {w w' : World} {a : Option Addr} {len cap : Nat} {m : Int} (k : DS B w w' a len cap m) (p : Addr) (hp : p.block < w.heap.size) (hB : p.block ≠ B) : w'.frozen? p = w.frozen? p := by
  obtain ⟨pos, h0, h1, h2, h3, h4⟩ := k
  exact h4.frozen_far p hp (by intro h; cases h; exact hB rfl)
set_option maxHeartbeats 400000 in
theorem pick_ds1 (B : Nat) (w0 w : World) (a : Option Addr) (len cap : Nat) (m n : Int) (h : DS B w0 w a len cap m) (hm : m ≤ 800000000) (hn : 1 ≤ n) (hn' : n ≤ 1000000) :
    Calls Tryz.prog 30 #[.pointer (some ⟨B, 0, none⟩), .int .i64 n] w fun e w' => ∃ v : Int, 0 ≤ v ∧ v < n ∧ e = .returned (.int .i64 v) ∧ DS B w0 w' a len cap (m + 2) := by
  by_cases h1 : n = 1
  · subst h1
    have H : Hid (DS B w0 w a len cap (m + 2)) := h.mono (by omega)
    clear h
    go_enter Tryz.func30, Tryz.ntmps30
    go_wp2
    go_ret
    exact ⟨0, by omega, by omega, rfl, H.out⟩
  · exact pick_ds B w0 w a len cap m n h hm (by omega) hn'
/-- A text with one byte put in another's place. -/
theorem put_text (t : ByteArray) (C i cap : Nat) (c : UInt8) (wr : World) (hi : i < t.size) (hc : ∀ j (h : j < t.size), j ≠ i → wr.cell? ⟨C, j, none⟩ = some (.int .u8 (t[j].toNat : Int))) (hci : wr.cell? ⟨C, i, none⟩ = some (.int .u8 (c.toNat : Int))) :
    (convert 22 9 (.slice (some ⟨C, 0, none⟩) t.size cap)).run Tryz.prog wr = .ok (.string ⟨(t.data.toList.set i c).toArray⟩) wr := by
  have hl : (t.data.toList.set i c).length = t.size := by rw [List.length_set, data_len]
  have := run_convert_bytes_back (P := Tryz.prog) wr 22 9 5 ⟨C, 0, none⟩ cap (t.data.toList.set i c) Tryz.underlying22 Tryz.underlying5 Tryz.underlying9 (fun j hj => by
    rw [show (⟨C, 0, none⟩ : Addr).add j = ⟨C, j, none⟩ by (simp [Addr.add]; try omega)]
    by_cases e : j = i
    · subst e
      rw [hci, List.getElem_set_self]
    · rw [hc j (by omega) e, List.getElem_set_ne (fun h => e h.symm)]
      rfl)
  rw [hl] at this
  exact this
theorem put_size (t : ByteArray) (i : Nat) (c : UInt8) : (⟨(t.data.toList.set i c).toArray⟩ : ByteArray).size = t.size := by
  rw [← data_len, ← data_len]
  show (t.data.toList.set i c).length = _
  rw [List.length_set]
end Go.Proofs.YtoedefjngipeiaaGreatDoor

/- A drawn text of a float, or nearly. -/
namespace Go.Proofs.YtoedefjngipeiaaGreatDoor
open Go.ChangeShapes Go.WideShapes Go.RowKit

set_option maxHeartbeats 4000000 in
set_option maxRecDepth 100000 in
theorem fltext_ds (B : Nat) (w0 w : World) (a : Option Addr) (len cap : Nat) (m : Int) (h : DS B w0 w a len cap m) (hm : m ≤ 500000000) :
    Calls Tryz.prog 32 #[.pointer (some ⟨B, 0, none⟩)] w fun e w' => ∃ t : ByteArray, t.size ≤ 3500 ∧ e = .returned (.string t) ∧ DS B w0 w' a len cap (m + 1000) := by
  have HP : Hid _ := fun (_ : Unit) => pick_ds B w0 w a len cap m 9 h (by omega) (by omega) (by omega)
  clear h
  go_enter Tryz.func32, Tryz.ntmps32
  go_wp2_with fail
  refine (HP.out ()).mono ?_
  rintro e w1 ⟨x, hx0, hx1, rfl, hd1⟩
  have H1 : Hid _ := fun (_ : Unit) => hd1
  clear HP hd1
  go_upto_block 0 with fail
  go_cut [3, 4] from 9 to 93 (fun s3 _ wc => ∃ t : ByteArray, s3 = .string t ∧ t.size ≤ 3400 ∧ Hid (DS B w0 wc a len cap (m + 300)))
  case first =>
    have hx : x = 0 ∨ x = 1 ∨ x = 2 ∨ x = 3 ∨ x = 4 ∨ x = 5 ∨ x = 6 ∨ x = 7 ∨ x = 8 := by omega
    clear hx0 hx1
    rcases hx with rfl | rfl | rfl | rfl | rfl | rfl | rfl | rfl | rfl
    · go_wp2_with fail
      refine (flt_ds B w0 w1 a len cap _ (H1.out ()) (by omega)).mono ?_
      rintro e w2 ⟨f, hf, rfl, hd2⟩
      have H2 : Hid _ := fun (_ : Unit) => hd2
      have HS : Hid _ := fun w => specShortest_any f hf w
      clear hf hd2
      go_wp2_with fail
      refine (HS.out _).mono ?_
      rintro e w3 ⟨t, _, hz, rfl, hb⟩
      have H3 : Hid (DS B w0 w3 a len cap (m + 300)) := ((H2.out ()).below hb).mono (by omega)
      clear hb HS H2
      go_wp2
      go_meet
      case rel => exact ⟨t, rfl, by omega, H3⟩
    · go_wp2_with fail
      refine (flt_ds B w0 w1 a len cap _ (H1.out ()) (by omega)).mono ?_
      rintro e w2 ⟨f, hf, rfl, hd2⟩
      have H2 : Hid _ := fun (_ : Unit) => hd2
      have HS : Hid _ := fun w => specHex_any f hf w
      clear hf hd2
      go_wp2_with fail
      refine (HS.out _).mono ?_
      rintro e w3 ⟨t, hv, rfl, hb⟩
      have hz := hexV_size _ _ hv
      have H3 : Hid (DS B w0 w3 a len cap (m + 300)) := ((H2.out ()).below hb).mono (by omega)
      clear hb HS H2 hv
      go_wp2
      go_meet
      case rel => exact ⟨t, rfl, by omega, H3⟩
    · go_wp2_with fail
      refine (flt_ds B w0 w1 a len cap _ (H1.out ()) (by omega)).mono ?_
      rintro e w2 ⟨f, hf, rfl, hd2⟩
      have H2 : Hid _ := fun (_ : Unit) => hd2
      have HS : Hid _ := fun w => specExact_any f hf w
      clear hf hd2
      go_wp2_with fail
      refine (HS.out _).mono ?_
      rintro e w3 ⟨t, _, hz, rfl, hb⟩
      have H3 : Hid (DS B w0 w3 a len cap (m + 300)) := ((H2.out ()).below hb).mono (by omega)
      clear hb HS H2
      go_wp2
      go_meet
      case rel => exact ⟨t, rfl, by omega, H3⟩
    · go_wp2_with fail
      refine (pick_ds B w0 w1 a len cap _ 25 (H1.out ()) (by omega) (by omega) (by omega)).mono ?_
      rintro e w2 ⟨v, hv0, hv1, rfl, hd2⟩
      obtain ⟨k, hk⟩ : ∃ k : Nat, 1 + v = (k : Int) := ⟨(1 + v).toNat, by omega⟩
      have hk1 : 1 ≤ k := by omega
      have hk2 : k ≤ 25 := by omega
      have HL : Hid _ := fun (_ : Unit) => l7digits_ds B w0 w2 a len cap _ k hd2 (by omega) hk1 (by omega)
      clear hd2
      go_wp2_with fail
      refine (HL.out ()).mono ?_
      rintro e w3 ⟨s, hs, _, rfl, hd3⟩
      have H3 : Hid _ := fun (_ : Unit) => hd3
      have hsz : s.size ≤ 25 := by omega
      clear hd3 HL hs hk hv0 hv1
      go_wp2_with fail
      refine (pick_ds B w0 w3 a len cap _ 25 (H3.out ()) (by omega) (by omega) (by omega)).mono ?_
      rintro e w4 ⟨u, hu0, hu1, rfl, hd4⟩
      obtain ⟨l, hl⟩ : ∃ l : Nat, 1 + u = (l : Int) := ⟨(1 + u).toNat, by omega⟩
      have hl1 : 1 ≤ l := by omega
      have hl2 : l ≤ 25 := by omega
      have HL : Hid _ := fun (_ : Unit) => l7digits_ds B w0 w4 a len cap _ l hd4 (by omega) hl1 (by omega)
      clear hd4
      go_wp2_with fail
      refine (HL.out ()).mono ?_
      rintro e w5 ⟨s', hs', _, rfl, hd5⟩
      have H5 : Hid (DS B w0 w5 a len cap (m + 300)) := hd5.mono (by omega)
      have hsz' : s'.size ≤ 25 := by omega
      clear hd5 HL hs' hl hu0 hu1
      go_wp2
      go_meet
      case rel => exact ⟨_, rfl, by simp only [append_size]; have e1 : (⟨#[46]⟩ : ByteArray).size = 1 := rfl; omega, H5⟩
    · go_wp2_with fail
      refine (pick_ds B w0 w1 a len cap _ 4 (H1.out ()) (by omega) (by omega) (by omega)).mono ?_
      rintro e w2 ⟨v, hv0, hv1, rfl, hd2⟩
      obtain ⟨k, hk⟩ : ∃ k : Nat, 1 + v = (k : Int) := ⟨(1 + v).toNat, by omega⟩
      have hk1 : 1 ≤ k := by omega
      have hk2 : k ≤ 25 := by omega
      have HL : Hid _ := fun (_ : Unit) => l7digits_ds B w0 w2 a len cap _ k hd2 (by omega) hk1 (by omega)
      clear hd2
      go_wp2_with fail
      refine (HL.out ()).mono ?_
      rintro e w3 ⟨s, hs, _, rfl, hd3⟩
      have H3 : Hid _ := fun (_ : Unit) => hd3
      have hsz : s.size ≤ 25 := by omega
      clear hd3 HL hs hk hv0 hv1
      go_wp2_with fail
      refine (pick_ds B w0 w3 a len cap _ 700 (H3.out ()) (by omega) (by omega) (by omega)).mono ?_
      rintro e w4 ⟨u, hu0, hu1, rfl, hd4⟩
      have H4 : Hid (DS B w0 w4 a len cap (m + 300)) := hd4.mono (by omega)
      clear hd4
      go_wp2_with fail
      refine (specInt_any _ 10 _).mono ?_
      rintro e w5 ⟨rfl, rfl⟩
      obtain ⟨T, hT⟩ : ∃ T, T = intText (u - 350) 10 := ⟨_, rfl⟩
      have hTz : T.size ≤ 70 := by rw [hT]; exact int_size _
      rw [← hT]
      clear hT
      go_wp2
      go_meet
      case rel => exact ⟨_, rfl, by simp only [append_size]; have e1 : (⟨#[101]⟩ : ByteArray).size = 1 := rfl; omega, H4⟩
    · go_wp2_with fail
      refine (num_ds B w0 w1 a len cap _ (H1.out ()) (by omega)).mono ?_
      rintro e w2 ⟨v, _, rfl, hd2⟩
      have H2 : Hid _ := fun (_ : Unit) => hd2
      clear hd2
      go_wp2_with fail
      refine (specBits_any _ 16 _).mono ?_
      rintro e w3 ⟨rfl, rfl⟩
      obtain ⟨S, hS⟩ : ∃ S, S = bitsText v 16 := ⟨_, rfl⟩
      have hSz : S.size ≤ 64 := by rw [hS]; exact bits_text16 _
      rw [← hS]
      clear hS
      go_wp2_with fail
      refine (num_ds B w0 w3 a len cap _ (H2.out ()) (by omega)).mono ?_
      rintro e w4 ⟨v', _, rfl, hd4⟩
      have H4 : Hid _ := fun (_ : Unit) => hd4
      clear hd4
      go_wp2_with fail
      refine (specBits_any _ 16 _).mono ?_
      rintro e w5 ⟨rfl, rfl⟩
      obtain ⟨S', hS'⟩ : ∃ S, S = bitsText v' 16 := ⟨_, rfl⟩
      have hSz' : S'.size ≤ 64 := by rw [hS']; exact bits_text16 _
      rw [← hS']
      clear hS'
      go_wp2_with fail
      refine (pick_ds B w0 w5 a len cap _ 2400 (H4.out ()) (by omega) (by omega) (by omega)).mono ?_
      rintro e w6 ⟨u, hu0, hu1, rfl, hd6⟩
      have H6 : Hid (DS B w0 w6 a len cap (m + 300)) := hd6.mono (by omega)
      clear hd6
      go_wp2_with fail
      refine (specInt_any _ 10 _).mono ?_
      rintro e w7 ⟨rfl, rfl⟩
      obtain ⟨T, hT⟩ : ∃ T, T = intText (u - 1200) 10 := ⟨_, rfl⟩
      have hTz : T.size ≤ 70 := by rw [hT]; exact int_size _
      rw [← hT]
      clear hT
      go_wp2
      go_meet
      case rel => exact ⟨_, rfl, by simp only [append_size]; have e1 : (⟨#[112]⟩ : ByteArray).size = 1 := rfl; have e2 : (⟨#[46]⟩ : ByteArray).size = 1 := rfl; have e3 : (⟨#[48, 120]⟩ : ByteArray).size = 2 := rfl; omega, H6⟩
    · go_wp2_with fail
      refine (l7sized_ds B w0 w1 a len cap _ (H1.out ()) (by omega)).mono ?_
      rintro e w2 ⟨r, hr, rfl, hd2⟩
      obtain ⟨mm, p, hc, hrr⟩ := word_canon r hr
      have H2 : Hid _ := fun (_ : Unit) => hd2
      have HM : Hid (∀ w, Calls Tryz.prog 10 #[.float .f64 r] w fun e w' => ∃ t : ByteArray, t.size ≤ 1150 ∧ e = .returned (.string t) ∧ Below w.heap.size w w') := fun w => by
        rw [hrr]
        refine (midst_any mm p hc w).mono ?_
        rintro e w' ⟨t, ht, rfl, hb⟩
        exact ⟨t, midst_len t mm p hc ht, rfl, hb⟩
      clear hr hc hrr hd2
      go_wp2_with fail
      refine (HM.out _).mono ?_
      rintro e w3 ⟨t, hz, rfl, hb⟩
      have H3 : Hid (DS B w0 w3 a len cap (m + 300)) := ((H2.out ()).below hb).mono (by omega)
      clear hb HM H2
      go_wp2
      go_meet
      case rel => exact ⟨t, rfl, by omega, H3⟩
    · have HB : Hid _ := fun (O : Obj) => (H1.out ()).below ((Below.refl _ _).alloc (Nat.le_refl _) O)
      have hB := (H1.out ()).fresh
      go_wp2_with fail
      refine (pick_ds B _ _ a len cap _ 31 (HB.out _).self (by omega) (by omega) (by omega)).mono ?_
      rintro e w2 ⟨y, hy0, hy1, rfl, hd2⟩
      obtain ⟨n, rfl⟩ := Int.eq_ofNat_of_zero_le hy0
      have hn : n < 31 := by omega
      obtain ⟨f, hf, hfl⟩ : ∃ f, w2.cell? ⟨w1.heap.size, n, none⟩ = some (.string f) ∧ f.size ≤ 30 := by
        obtain ⟨f, h1, h2⟩ := texts_at fxtL fxtL_ok n hn
        refine ⟨f, ?_, h2⟩
        rw [hd2.cell ⟨w1.heap.size, n, none⟩ (by simp) hB]
        exact (World.cell?_alloc_mark (w := w1) ..).trans h1
      have H2 : Hid (DS B w0 w2 a len cap (m + 300)) := ((HB.out _).join hd2).mono (by omega)
      clear hd2 HB hy0
      go_wp2
      go_meet
      case rel => exact ⟨f, rfl, by omega, H2⟩
    · go_wp2_with fail
      refine (l7digits_ds B w0 w1 a len cap _ 1 (H1.out ()) (by omega) (by omega) (by omega)).mono ?_
      rintro e w2 ⟨s, hs, _, rfl, hd2⟩
      have H2 : Hid _ := fun (_ : Unit) => hd2
      have hsz : s.size ≤ 1 := by omega
      clear hd2 hs
      go_wp2_with fail
      refine (pick_ds B w0 w2 a len cap _ 320 (H2.out ()) (by omega) (by omega) (by omega)).mono ?_
      rintro e w3 ⟨u, hu0, hu1, rfl, hd3⟩
      obtain ⟨l, rfl⟩ := Int.eq_ofNat_of_zero_le hu0
      have H3 : Hid _ := fun (_ : Unit) => hd3
      have hl : l ≤ 320 := by omega
      have HZ : Hid _ := fun w => l5zeros_any l (by omega) w
      obtain ⟨Z, hZ⟩ : ∃ Z, Z = (⟨(zerosL l).toArray⟩ : ByteArray) := ⟨_, rfl⟩
      have hZz : Z.size ≤ 320 := by rw [hZ, zerosL_size]; exact hl
      rw [← hZ] at HZ
      clear hd3 hZ hu0 hu1
      go_wp2_with fail
      refine (HZ.out _).mono ?_
      rintro e w4 ⟨rfl, hb4⟩
      have H4 : Hid _ := fun (_ : Unit) => (H3.out ()).below hb4
      clear hb4 HZ
      go_wp2_with fail
      refine (pick_ds B w0 w4 a len cap _ 640 (H4.out ()) (by omega) (by omega) (by omega)).mono ?_
      rintro e w5 ⟨y, hy0, hy1, rfl, hd5⟩
      have H5 : Hid (DS B w0 w5 a len cap (m + 300)) := hd5.mono (by omega)
      clear hd5
      go_wp2_with fail
      refine (specInt_any _ 10 _).mono ?_
      rintro e w6 ⟨rfl, rfl⟩
      obtain ⟨T, hT⟩ : ∃ T, T = intText y 10 := ⟨_, rfl⟩
      have hTz : T.size ≤ 70 := by rw [hT]; exact int_size _
      rw [← hT]
      clear hT
      go_wp2
      go_meet
      case rel => exact ⟨_, rfl, by simp only [append_size]; have e1 : (⟨#[101, 45]⟩ : ByteArray).size = 2 := rfl; omega, H5⟩
  case rest =>
    obtain ⟨t, rfl, ht, HD⟩ := hcut
    by_cases h0 : t.size = 0
    · go_wp2
      go_ret
      exact ⟨t, by omega, rfl, HD.out.mono (by omega)⟩
    · have h1 : 0 < t.size := by omega
      have HC := HD.out.code
      clear h0
      go_wp2_with fail
      refine (pick_ds B wc wc a len cap _ 5 HD.out.self (by omega) (by omega) (by omega)).mono ?_
      rintro e w2 ⟨y, hy0, hy1, rfl, hd2⟩
      have H2 : Hid _ := fun (_ : Unit) => hd2
      clear hd2
      by_cases hy : y = 0
      · subst hy
        go_wp2_with fail
        refine (pick_ds1 B wc w2 a len cap _ (t.size : Int) (H2.out ()) (by omega) (by omega) (by omega)).mono ?_
        rintro e w3 ⟨z, hz0, hz1, rfl, hd3⟩
        obtain ⟨i, rfl⟩ := Int.eq_ofNat_of_zero_le hz0
        have hi : i < t.size := by omega
        obtain ⟨cp, W, hrun, hbw, hlt, hcl, hfr⟩ := bytes_new w3 t
        have hw3 : wc.heap.size ≤ w3.heap.size := by obtain ⟨_, _, _, _, _, hg⟩ := hd3; exact hg.size
        have hB3 := hd3.fresh
        have HDW : Hid _ := fun (_ : Unit) => hd3.below hbw
        have HCL : Hid _ := fun (_ : Unit) => And.intro hcl hfr
        have HCC : Hid _ := fun (_ : Unit) => HC
        clear hd3 hbw hcl hfr HC hz0 hz1
        go_wp2_with fail
        refine (pick_ds B W W a len cap _ 17 (HDW.out ()).self (by omega) (by omega) (by omega)).mono ?_
        rintro e w4 ⟨u, hu0, hu1, rfl, hd4⟩
        obtain ⟨n, rfl⟩ := Int.eq_ofNat_of_zero_le hu0
        have hn : n < 17 := by omega
        have hci : w4.cell? ⟨w3.heap.size, i, none⟩ = some (.int .u8 (t[i].toNat : Int)) := by rw [hd4.cell ⟨w3.heap.size, i, none⟩ hlt hB3]; exact (HCL.out ()).1 i hi
        have hfi : w4.frozen? ⟨w3.heap.size, i, none⟩ = false := by rw [hd4.frozen ⟨w3.heap.size, i, none⟩ hlt hB3]; exact (HCL.out ()).2 i hi
        have HO : Hid (∀ j (h : j < t.size), w4.cell? ⟨w3.heap.size, j, none⟩ = some (.int .u8 (t[j].toNat : Int))) := fun j hj => by rw [hd4.cell ⟨w3.heap.size, j, none⟩ hlt hB3]; exact (HCL.out ()).1 j hj
        have H4 : Hid _ := fun (_ : Unit) => (HDW.out ()).join hd4
        have hpt := put_text t w3.heap.size i cp ((⟨#[48, 49, 50, 51, 52, 53, 54, 55, 56, 57, 43, 45, 46, 101, 120, 112, 32]⟩ : ByteArray)[n]'hn) (w4.setCell ⟨w3.heap.size, i, none⟩ (.int .u8 (((⟨#[48, 49, 50, 51, 52, 53, 54, 55, 56, 57, 43, 45, 46, 101, 120, 112, 32]⟩ : ByteArray)[n]'hn).toNat : Int))) hi
          (fun j hj hne => by rw [World.cell?_setCell_other _ _ _ _ (by intro e; cases e; exact hne rfl)]; exact HO.out j hj) (World.cell?_setCell_same _ _ _ hci)
        have hps := put_size t i ((⟨#[48, 49, 50, 51, 52, 53, 54, 55, 56, 57, 43, 45, 46, 101, 120, 112, 32]⟩ : ByteArray)[n]'hn)
        have H5 : Hid _ := fun (u : Value) => (H4.out ()).late (HCC.out ()).1 (HCC.out ()).2 ((Below.refl _ w4).setCell (p := ⟨w3.heap.size, i, none⟩) hw3 u)
        generalize (⟨(t.data.toList.set i ((⟨#[48, 49, 50, 51, 52, 53, 54, 55, 56, 57, 43, 45, 46, 101, 120, 112, 32]⟩ : ByteArray)[n]'hn)).toArray⟩ : ByteArray) = R at *
        clear hd4 hu0 hu1 HDW HCL hrun HO
        go_wp2
        go_ret
        exact ⟨R, by omega, rfl, (HD.out.join (H5.out _)).mono (by omega)⟩
      · have hy' : (y == 0) = false := beq_eq_false_iff_ne.2 hy
        go_wp2
        go_ret
        exact ⟨t, by omega, rfl, (HD.out.join (H2.out ())).mono (by omega)⟩
end Go.Proofs.YtoedefjngipeiaaGreatDoor

