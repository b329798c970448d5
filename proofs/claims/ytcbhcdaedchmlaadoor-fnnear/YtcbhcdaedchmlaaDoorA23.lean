import Derived.Test.YtcbhcdaedchmlaaDoorA09
import Derived.Test.YtcbhcdaedchmlaaDoorA10
import Derived.Test.YtcbhcdaedchmlaaDoorA12
import Derived.Test.YtcbhcdaedchmlaaDoorA21
import Derived.Test.YtcbhcdaedchmlaaDoorA22
import Derived.Test.YtcbhcdaedchmlaaDoorA15
import Derived.WalkKit
/- The law on Near and what is read, walked: over whatever ReadFlt that answers as it should. -/
namespace Go.Proofs.YtcbhcdaedchmlaaDoor
open Go.ChangeShapes Go.WideShapes Go.RowKit
open Ieee (double)

theorem fw_lt_any (s : Bool) (m : Nat) (e : Int) : fw s m e < 18446744073709551616 := by
  by_cases h : m = 0
  · subst h; rw [fw_zero]; cases s <;> decide
  · rw [fw_place s m e (by omega)]
    have h1 : signBit s ≤ 9223372036854775808 := by cases s <;> decide
    have h2 := Nat.min_le_right ((max (e + (m.log2 : Int) - 52) (-1074) + 1074).toNat * 4503599627370496 + roundN m (max (e + (m.log2 : Int) - 52) (-1074) - e)) 9218868437227405312
    omega
/-- What is written out is read as the nearest float. -/
theorem reads_pointed (HREAD : ∀ (s : ByteArray), s.size ≤ 1200 → (∀ ok pl fl, ReadA s ok pl fl → ok = true) → ∀ w, Calls Tryd.prog 19 #[.string s] w fun e w' => ReadQ s w e w') (neg : Bool) (t : ByteArray) (A : Nat) (e : Int) (h : Pointed t A e) (hs : (sgnT neg t).size ≤ 1200) (w : World) :
    Calls Tryd.prog 19 #[.string (sgnT neg t)] w fun e' w' => ∃ pl : Int, e' = .returned (.agg #[.bool true, .int .i64 pl, .float .f64 (fw neg A e)]) ∧ Below w.heap.size w w' := by
  refine (HREAD _ hs (fun ok pl fl hr => (read_pointed neg t A e h hs ok pl fl hr).1) w).mono ?_
  rintro e' w' ⟨ok, pl, fl, x, hr, hx, _, rfl, hb⟩
  obtain ⟨rfl, rfl, rfl⟩ := read_pointed neg t A e h hs ok pl fl hr
  cases hx
  exact ⟨0, rfl, hb⟩

set_option maxHeartbeats 1000000 in
set_option maxRecDepth 100000 in
theorem lawFnNear_small (HREAD0 : ∀ (s : ByteArray), s.size ≤ 1200 → (∀ ok pl fl, ReadA s ok pl fl → ok = true) → ∀ w, Calls Tryd.prog 19 #[.string s] w fun e w' => ReadQ s w e w') (w : World) (a : Option Addr) (len cap : Nat) (k0 : Bts w a len) :
    Calls Tryd.prog 3 #[.slice a len cap] w fun e w' => e = .returned (.bool true) ∧ Below w.heap.size w w' := by
  have hl : len ≤ 1048576 := k0.1
  have HW : Hid _ := fun (_ : Unit) => k0.code
  have HREAD : Hid _ := HREAD0
  clear k0 HREAD0
  go_enter Tryd.func3, Tryd.ntmps3
  go_wp2_with fail
  refine (drawNear_any w a len cap (HW.out ())).mono ?_
  rintro e w1 ⟨neg, n, x, hn, hx, rfl, hb1⟩
  have H1 : Hid (Below w.heap.size w w1) := hb1
  have hx1 := bounds_i64 hx
  clear hb1 HW hn hx
  go_wp2_with fail
  refine (implNear_any neg n x w1).mono ?_
  rintro e w2 ⟨rfl, hb2⟩
  have H2 : Hid (Below w.heap.size w w2) := H1.out.trans (hb2.mono H1.out.size)
  clear hb2 H1
  go_wp2_with fail
  refine (specNear_any neg n x w2).mono ?_
  rintro e w3 ⟨rfl, hw3⟩
  subst hw3
  have hlt := fw_lt_any neg (u64n n) x
  have HF : Hid _ := fun w => wflt_self _ hlt w
  have HN : Hid _ := fun h1 h2 w => numbered_any neg n x w h1 h2
  have HP : Hid (∀ t, Pointed t (u64n n) x → -1150 ≤ x → x ≤ 1100 → ∀ w, Calls Tryd.prog 8 #[.string (sgnT neg t), .float .f64 (fw neg (u64n n) x)] w fun e w' => e = .returned (.bool true) ∧ Below w.heap.size w w') := fun t ht h1 h2 w =>
    wRead_is _ _ hlt (fun w => reads_pointed HREAD.out neg t _ x ht (by
      have h3 := pointed_size t _ x ht (u64n_lt n)
      have h4 : (sgnT neg t).size ≤ t.size + 1 := by
        unfold sgnT
        split
        · rw [append_size]; have : (⟨#[45]⟩ : ByteArray).size = 1 := rfl; omega
        · omega
      split at h3 <;> omega) w) w
  generalize u64n n = U at *
  generalize fw neg U x = W at *
  clear hlt HREAD
  go_wp2_with fail
  refine (HF.out _).mono ?_
  rintro e w4 ⟨rfl, hw4⟩
  subst hw4
  clear HF
  by_cases c1 : x < -1150
  · go_wp2
    go_ret
    exact ⟨rfl, H2.out⟩
  · by_cases c2 : 1100 < x
    · go_wp2
      go_ret
      exact ⟨rfl, H2.out⟩
    · go_wp2_with fail
      refine (HN.out (by omega) (by omega) _).mono ?_
      rintro e w5 ⟨t, ht, rfl, hb5⟩
      have H5 : Hid (Below w.heap.size w w5) := H2.out.trans (hb5.mono H2.out.size)
      have HT : Hid _ := fun w => HP.out t ht (by omega) (by omega) w
      clear ht hb5 HP HN
      go_wp2_with fail
      refine (HT.out _).mono ?_
      rintro e w6 ⟨rfl, hb6⟩
      have H6 : Hid (Below w.heap.size w w6) := H5.out.trans (hb6.mono H5.out.size)
      clear hb6
      go_wp2
      go_ret
      exact ⟨rfl, H6.out⟩
set_option maxHeartbeats 400000 in
theorem lawFnNear_any (HREAD : ∀ (s : ByteArray), s.size ≤ 1200 → (∀ ok pl fl, ReadA s ok pl fl → ok = true) → ∀ w, Calls Tryd.prog 19 #[.string s] w fun e w' => ReadQ s w e w') (w : World) (a : Option Addr) (len cap : Nat) (z : List Int) (k : IsRow w a len cap z) :
    Calls Tryd.prog 3 #[.slice a len cap] w fun e w' => e = .returned (.bool true) ∧ Below w.heap.size w w' := by
  have m0 := k.len
  by_cases h0 : len ≤ 1048576
  · exact lawFnNear_small HREAD w a len cap (k.bts h0)
  · unfold maxLen at m0
    have h0' : 1048576 < len := by omega
    clear k h0 HREAD
    go_enter Tryd.func3, Tryd.ntmps3
    go_wp2
    go_ret
    exact ⟨rfl, Below.refl _ _⟩
end Go.Proofs.YtcbhcdaedchmlaaDoor

/- Reading, as plain relations: no program is spoken of here. -/
namespace Go.Proofs.YtcbhcdaedchmlaaDoor
open Go.ChangeShapes Go.WideShapes Go.RowKit

theorem take_all (s : ByteArray) (k : Nat) (h : s.size ≤ k) : s.data.toList.take k = s.data.toList := List.take_of_length_le (by simpa using h)
theorem empty_iff (s : ByteArray) : s.data.toList = [] ↔ s.size = 0 := by
  rw [← List.length_eq_zero_iff]; simp
theorem isEmpty_yes (s : ByteArray) (h : s.size = 0) : s.toList.isEmpty = true := by
  rw [ByteArray.toList_eq, List.isEmpty_iff]; exact (empty_iff s).2 h
theorem isEmpty_no (s : ByteArray) (h : ¬ s.size = 0) : s.toList.isEmpty = false := by
  rw [ByteArray.toList_eq]
  cases hc : s.data.toList.isEmpty
  · rfl
  · exact absurd ((empty_iff s).1 (List.isEmpty_iff.1 hc)) h

/-- A text's sign and what stands behind it. -/
def Cut (s : ByteArray) (neg : Bool) (r : ByteArray) : Prop :=
  (s.size = 0 ∧ neg = false ∧ r = s) ∨ (∃ _ : 0 < s.size, s[0].toNat = 45 ∧ neg = true ∧ r = s.extract 1 s.size)
  ∨ (∃ _ : 0 < s.size, s[0].toNat = 43 ∧ neg = false ∧ r = s.extract 1 s.size) ∨ (∃ _ : 0 < s.size, s[0].toNat ≠ 45 ∧ s[0].toNat ≠ 43 ∧ neg = false ∧ r = s)
def lim (neg : Bool) : Int := if neg then 9223372036854775808 else 9223372036854775807
/-- What reading answers. -/
def ReadV (b : Int) (neg : Bool) (l : List UInt8) (c n : Int) : Prop :=
  ((l = [] ∨ ¬ good b l) ∧ c = 2 ∧ n = 0) ∨ (l ≠ [] ∧ good b l ∧ lim neg < val b l ∧ c = 3 ∧ n = 0)
  ∨ (l ≠ [] ∧ good b l ∧ val b l ≤ lim neg ∧ c = 0 ∧ n = if neg then - val b l else val b l)
theorem readV_one (b : Int) (neg : Bool) (l : List UInt8) (c n c' n' : Int) (h : ReadV b neg l c n) (h' : ReadV b neg l c' n') : c = c' ∧ n = n' := by
  rcases h with ⟨a, rfl, rfl⟩ | ⟨a, a', a'', rfl, rfl⟩ | ⟨a, a', a'', rfl, rfl⟩ <;> rcases h' with ⟨d, rfl, rfl⟩ | ⟨d, d', d'', rfl, rfl⟩ | ⟨d, d', d'', rfl, rfl⟩
  · exact ⟨rfl, rfl⟩
  · exact (a.elim d (fun h => h d')).elim
  · exact (a.elim d (fun h => h d')).elim
  · exact (d.elim a (fun h => h a')).elim
  · exact ⟨rfl, rfl⟩
  · exact absurd a'' (by omega)
  · exact (d.elim a (fun h => h a')).elim
  · exact absurd d'' (by omega)
  · exact ⟨rfl, rfl⟩

theorem lim_true : lim true = 9223372036854775808 := rfl
theorem lim_false : lim false = 9223372036854775807 := rfl
theorem readV_bad (b : Int) (neg : Bool) (l : List UInt8) (h : l = [] ∨ ¬ good b l) : ReadV b neg l 2 0 := .inl ⟨h, rfl, rfl⟩
theorem readV_over (b : Int) (neg : Bool) (l : List UInt8) (h : l ≠ []) (hg : good b l) (hv : lim neg < val b l) : ReadV b neg l 3 0 := .inr (.inl ⟨h, hg, hv, rfl, rfl⟩)
theorem readV_plus (b : Int) (l : List UInt8) (h : l ≠ []) (hg : good b l) (hv : val b l ≤ 9223372036854775807) : ReadV b false l 0 (val b l) := .inr (.inr ⟨h, hg, hv, rfl, rfl⟩)
theorem readV_minus (b n : Int) (l : List UInt8) (h : l ≠ []) (hg : good b l) (hv : val b l ≤ 9223372036854775808) (hn : n = - val b l) : ReadV b true l 0 n := .inr (.inr ⟨h, hg, hv, rfl, hn⟩)
theorem wrap_least (V : Int) (h : 9223372036854775808 ≤ V) (h' : V ≤ 9223372036854775808) : wrap64 (-(wrap64 V)) = -V := by
  unfold wrap64; omega
theorem extract_size (s : ByteArray) (h : s.size ≤ 1200) : (s.extract 1 s.size).size ≤ 1200 := by
  rw [ByteArray.size_extract]; omega

theorem cut_exists (s : ByteArray) : ∃ neg r, Cut s neg r := by
  by_cases hz : s.size = 0
  · exact ⟨false, s, .inl ⟨hz, rfl, rfl⟩⟩
  · have hp : 0 < s.size := by omega
    by_cases h45 : s[0].toNat = 45
    · exact ⟨true, _, .inr (.inl ⟨hp, h45, rfl, rfl⟩)⟩
    · by_cases h43 : s[0].toNat = 43
      · exact ⟨false, _, .inr (.inr (.inl ⟨hp, h43, rfl, rfl⟩))⟩
      · exact ⟨false, s, .inr (.inr (.inr ⟨hp, h45, h43, rfl, rfl⟩))⟩
theorem cut_size (s : ByteArray) (neg : Bool) (r : ByteArray) (hs : s.size ≤ 1200) (hc : Cut s neg r) : r.size ≤ 1200 := by
  rcases hc with ⟨_, _, rfl⟩ | ⟨_, _, _, rfl⟩ | ⟨_, _, _, rfl⟩ | ⟨_, _, _, _, rfl⟩
  · exact hs
  · exact extract_size s hs
  · exact extract_size s hs
  · exact hs

end Go.Proofs.YtcbhcdaedchmlaaDoor

/- cutSign of the program. -/
namespace Go.Proofs.YtcbhcdaedchmlaaDoor
open Go.ChangeShapes Go.WideShapes Go.RowKit

set_option maxHeartbeats 400000 in
theorem cutSign_any (s : ByteArray) (w : World) (hs : s.size ≤ 10000) (neg : Bool) (r : ByteArray) (hc : Cut s neg r) :
    Calls Tryd.prog 51 #[.string s] w fun e w' => e = .returned (.tuple #[.bool neg, .string r]) ∧ ∃ n, w' = w.drewN n := by
  rcases hc with ⟨hz, rfl, rfl⟩ | ⟨hz, h45, rfl, rfl⟩ | ⟨hz, h43, rfl, rfl⟩ | ⟨hz, h45, h43, rfl, rfl⟩
  · have he := isEmpty_yes r hz
    clear hz
    go_enter Tryd.func51, Tryd.ntmps51
    go_wp2
    go_ret2
    exact ⟨rfl, 0, rfl⟩
  · have he := isEmpty_no s (by omega)
    have e1 : ((s[0].toNat : Int) != 45) = false := by simp [h45]
    have e3 : ((s[0].toNat : Int) == 45) = true := by simp [h45]
    clear h45
    go_enter Tryd.func51, Tryd.ntmps51
    go_wp2
    go_quiet (fail)
    go_wp2
    go_ret2
    exact ⟨rfl, _, rfl⟩
  · have he := isEmpty_no s (by omega)
    have e1 : ((s[0].toNat : Int) != 45) = true := by simp [h43]
    have e2 : ((s[0].toNat : Int) != 43) = false := by simp [h43]
    have e3 : ((s[0].toNat : Int) == 45) = false := by simp [h43]
    clear h43
    go_enter Tryd.func51, Tryd.ntmps51
    go_wp2
    go_quiet (fail)
    go_wp2
    go_ret2
    exact ⟨rfl, _, rfl⟩
  · have he := isEmpty_no r (by omega)
    have e1 : ((r[0].toNat : Int) != 45) = true := bne_iff_ne.2 (by omega)
    have e2 : ((r[0].toNat : Int) != 43) = true := bne_iff_ne.2 (by omega)
    clear h45 h43
    go_enter Tryd.func51, Tryd.ntmps51
    go_wp2
    go_ret2
    exact ⟨rfl, 0, rfl⟩
end Go.Proofs.YtcbhcdaedchmlaaDoor

