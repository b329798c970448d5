import Derived.WalkKit
import Derived.Test.YtaoccjaaopmfdaaGreatDoorB06
import Derived.Test.YtaoccjaaopmfdaaGreatDoorB04
import Derived.Test.YtaoccjaaopmfdaaGreatDoorB19
/- A float stored into a cell. -/
namespace Go.Proofs.YtaoccjaaopmfdaaGreatDoor
open Go.ChangeShapes Go.WideShapes Go.RowKit

theorem run_store_float {P : Program} {w : World} {a : Addr} {m : Mode} (k : FloatKind) (x : Nat) : (store a (.float k x) m).run P w = stored P w a (.float k x) m := run_store P w a _ m rfl
end Go.Proofs.YtaoccjaaopmfdaaGreatDoor

/- What reading answers is one thing alone: plain. -/
namespace Go.Proofs.YtaoccjaaopmfdaaGreatDoor
open Go.RowKit

theorem sgn_one {s : ByteArray} {k j j' : Nat} {n n' : Bool} (h : Sgn s k n j) (h' : Sgn s k n' j') : n = n' ∧ j = j' := by
  rcases h with ⟨_, a, rfl, rfl⟩ | ⟨_, a, rfl, rfl⟩ | ⟨a, b, rfl, rfl⟩ <;> rcases h' with ⟨_, c, rfl, rfl⟩ | ⟨_, c, rfl, rfl⟩ | ⟨c, d, rfl, rfl⟩ <;> first | exact ⟨rfl, rfl⟩ | (exfalso; omega)
theorem bas_one {s : ByteArray} {k b j b' j' : Nat} (h : Bas s k b j) (h' : Bas s k b' j') : b = b' ∧ j = j' := by
  rcases h with ⟨a1, a2, a3, rfl, rfl⟩ | ⟨a, rfl, rfl⟩ <;> rcases h' with ⟨c1, c2, c3, rfl, rfl⟩ | ⟨c, rfl, rfl⟩
  · exact ⟨rfl, rfl⟩
  · exact absurd ⟨a1, a2, a3⟩ c
  · exact absurd ⟨c1, c2, c3⟩ a
  · exact ⟨rfl, rfl⟩
theorem frac_one {b : Nat} {s : ByteArray} {k j : Nat} {r r' : Option (ByteArray × Int × Nat)} (h : Frac b s k j r) (h' : Frac b s k j r') : r = r' := by
  rcases h with ⟨a, rfl⟩ | ⟨a, i, hi, h⟩ <;> rcases h' with ⟨c, rfl⟩ | ⟨c, i', hi', h'⟩
  · rfl
  · exact absurd c a
  · exact absurd a c
  · obtain rfl := run_one _ _ _ _ _ hi hi'
    rcases h with ⟨e, rfl⟩ | ⟨e, rfl⟩ <;> rcases h' with ⟨e', rfl⟩ | ⟨e', rfl⟩ <;> first | rfl | (exfalso; omega)
theorem expo_one {m : Int} {s : ByteArray} {j : Nat} {r r' : Sum (Int × Nat) Nat} (h : Expo m s j r) (h' : Expo m s j r') : r = r' := by
  rcases h with ⟨a, rfl⟩ | ⟨a, n, k, i, hs, hi, h⟩ <;> rcases h' with ⟨c, rfl⟩ | ⟨c, n', k', i', hs', hi', h'⟩
  · rfl
  · exact absurd c a
  · exact absurd a c
  · obtain ⟨rfl, rfl⟩ := sgn_one hs hs'
    obtain rfl := run_one _ _ _ _ _ hi hi'
    rcases h with ⟨e, rfl⟩ | ⟨e, rfl⟩ <;> rcases h' with ⟨e', rfl⟩ | ⟨e', rfl⟩ <;> first | rfl | (exfalso; omega)
theorem word_two (x : Int) (n n' : Bool) (h : x = wordC n 0) (h' : x = wordC n' 0) : n = n' := by
  cases n <;> cases n' <;> first | rfl | (exfalso; simp [wordC] at h h'; omega)
theorem word_not (x : Int) (n : Bool) (h : x = wordC n 0) (h1 : x ≠ 105) (h2 : x ≠ 110) : False := by
  cases n <;> simp [wordC] at h <;> omega
theorem readA_one {s : ByteArray} {ok ok' : Bool} {pl pl' : Int} {fl fl' : Nat → Prop} (h : ReadA s ok pl fl) (h' : ReadA s ok' pl' fl') : ok = ok' ∧ pl = pl' ∧ fl = fl' := by
  rcases h with ⟨hs, rfl, rfl, rfl⟩ | ⟨hs, neg, k, hg, h⟩ <;> rcases h' with ⟨hs', rfl, rfl, rfl⟩ | ⟨hs', neg', k', hg', h'⟩
  · exact ⟨rfl, rfl, rfl⟩
  · omega
  · omega
  obtain ⟨rfl, rfl⟩ := sgn_one hg hg'
  rcases h with ⟨nan, hw, i, hi, hm, h⟩ | ⟨n1, n2, b, k1, j, hb, hr, h⟩ <;> rcases h' with ⟨nan', hw', i', hi', hm', h'⟩ | ⟨n1', n2', b', k1', j', hb', hr', h'⟩
  · obtain rfl := word_two _ _ _ hw hw'
    have e : i = i' := by
      rcases Nat.lt_trichotomy i i' with hl | e | hl
      · exfalso
        have := hm' i hl
        rcases h with ⟨_, h, _⟩ | ⟨h, _⟩ | ⟨h, _⟩
        · exact h this
        · omega
        · omega
      · exact e
      · exfalso
        have := hm i' hl
        rcases h' with ⟨_, h, _⟩ | ⟨h, _⟩ | ⟨h, _⟩
        · exact h this
        · omega
        · omega
    subst e
    rcases h with ⟨a, _, rfl, rfl, rfl⟩ | ⟨a, c, rfl, rfl, rfl⟩ | ⟨a, c, rfl, rfl, rfl⟩ <;> rcases h' with ⟨a', _, rfl, rfl, rfl⟩ | ⟨a', c', rfl, rfl, rfl⟩ | ⟨a', c', rfl, rfl, rfl⟩ <;> first | exact ⟨rfl, rfl, rfl⟩ | (exfalso; omega)
  · exact (word_not _ _ hw n1' n2').elim
  · exact (word_not _ _ hw' n1 n2).elim
  · obtain ⟨rfl, rfl⟩ := bas_one hb hb'
    obtain rfl := run_one _ _ _ _ _ hr hr'
    rcases h with ⟨e, rfl, rfl, rfl⟩ | ⟨e, r, hf, h⟩ <;> rcases h' with ⟨e', rfl, rfl, rfl⟩ | ⟨e', r', hf', h'⟩
    · exact ⟨rfl, rfl, rfl⟩
    · omega
    · omega
    obtain rfl := frac_one hf hf'
    rcases h with ⟨rfl, rfl, rfl, rfl⟩ | ⟨ds, ex, i, x, hr1, hx, h⟩ <;> rcases h' with ⟨h2, rfl, rfl, rfl⟩ | ⟨ds', ex', i', x', hr2, hx', h'⟩
    · exact ⟨rfl, rfl, rfl⟩
    · cases hr2
    · rw [hr1] at h2; cases h2
    rw [hr1] at hr2
    obtain ⟨rfl, rfl, rfl⟩ : ds = ds' ∧ ex = ex' ∧ i = i' := by simpa using hr2
    obtain rfl := expo_one hx hx'
    rcases h with ⟨a, rfl, rfl, rfl, rfl⟩ | ⟨n, a, rfl, h⟩ <;> rcases h' with ⟨a', e', rfl, rfl, rfl⟩ | ⟨n', a', e', h'⟩
    · cases e'; exact ⟨rfl, rfl, rfl⟩
    · cases e'
    · cases e'
    · cases e'
      rcases h with ⟨a1, rfl, rfl, rfl⟩ | ⟨a1, rfl, rfl, rfl⟩ <;> rcases h' with ⟨a2, rfl, rfl, rfl⟩ | ⟨a2, rfl, rfl, rfl⟩ <;> first | exact ⟨rfl, rfl, rfl⟩ | exact absurd a1 a2 | exact absurd a2 a1
end Go.Proofs.YtaoccjaaopmfdaaGreatDoor

/- Reading, as plain relations: no program is spoken of here. -/
namespace Go.Proofs.YtaoccjaaopmfdaaGreatDoor
open Go.ChangeShapes Go.WideShapes Go.RowKit

theorem take_all (s : ByteArray) (k : Nat) (h : s.size ≤ k) : s.data.toList.take k = s.data.toList := List.take_of_length_le (by simpa using h)
theorem empty_iff (s : ByteArray) : s.data.toList = [] ↔ s.size = 0 := by
  rw [← List.length_eq_zero_iff]; simp
theorem isEmpty_yes (s : ByteArray) (h : s.size = 0) : s.toList.isEmpty = true := by
  rw [ByteArray.toList_eq, List.isEmpty_iff]; exact (empty_iff s).2 h
theorem isEmpty_no (s : ByteArray) (h : ¬ s.size = 0) : s.toList.isEmpty = false := by
  rw [ByteArray.toList_eq]
  cases hc : s.data.toList.isEmpty
  · rfl
  · exact absurd ((empty_iff s).1 (List.isEmpty_iff.1 hc)) h

/-- A text's sign and what stands behind it. -/
def Cut (s : ByteArray) (neg : Bool) (r : ByteArray) : Prop :=
  (s.size = 0 ∧ neg = false ∧ r = s) ∨ (∃ _ : 0 < s.size, s[0].toNat = 45 ∧ neg = true ∧ r = s.extract 1 s.size)
  ∨ (∃ _ : 0 < s.size, s[0].toNat = 43 ∧ neg = false ∧ r = s.extract 1 s.size) ∨ (∃ _ : 0 < s.size, s[0].toNat ≠ 45 ∧ s[0].toNat ≠ 43 ∧ neg = false ∧ r = s)
def lim (neg : Bool) : Int := if neg then 9223372036854775808 else 9223372036854775807
/-- What reading answers. -/
def ReadV (b : Int) (neg : Bool) (l : List UInt8) (c n : Int) : Prop :=
  ((l = [] ∨ ¬ good b l) ∧ c = 2 ∧ n = 0) ∨ (l ≠ [] ∧ good b l ∧ lim neg < val b l ∧ c = 3 ∧ n = 0)
  ∨ (l ≠ [] ∧ good b l ∧ val b l ≤ lim neg ∧ c = 0 ∧ n = if neg then - val b l else val b l)
theorem readV_one (b : Int) (neg : Bool) (l : List UInt8) (c n c' n' : Int) (h : ReadV b neg l c n) (h' : ReadV b neg l c' n') : c = c' ∧ n = n' := by
  rcases h with ⟨a, rfl, rfl⟩ | ⟨a, a', a'', rfl, rfl⟩ | ⟨a, a', a'', rfl, rfl⟩ <;> rcases h' with ⟨d, rfl, rfl⟩ | ⟨d, d', d'', rfl, rfl⟩ | ⟨d, d', d'', rfl, rfl⟩
  · exact ⟨rfl, rfl⟩
  · exact (a.elim d (fun h => h d')).elim
  · exact (a.elim d (fun h => h d')).elim
  · exact (d.elim a (fun h => h a')).elim
  · exact ⟨rfl, rfl⟩
  · exact absurd a'' (by omega)
  · exact (d.elim a (fun h => h a')).elim
  · exact absurd d'' (by omega)
  · exact ⟨rfl, rfl⟩

theorem lim_true : lim true = 9223372036854775808 := rfl
theorem lim_false : lim false = 9223372036854775807 := rfl
theorem readV_bad (b : Int) (neg : Bool) (l : List UInt8) (h : l = [] ∨ ¬ good b l) : ReadV b neg l 2 0 := .inl ⟨h, rfl, rfl⟩
theorem readV_over (b : Int) (neg : Bool) (l : List UInt8) (h : l ≠ []) (hg : good b l) (hv : lim neg < val b l) : ReadV b neg l 3 0 := .inr (.inl ⟨h, hg, hv, rfl, rfl⟩)
theorem readV_plus (b : Int) (l : List UInt8) (h : l ≠ []) (hg : good b l) (hv : val b l ≤ 9223372036854775807) : ReadV b false l 0 (val b l) := .inr (.inr ⟨h, hg, hv, rfl, rfl⟩)
theorem readV_minus (b n : Int) (l : List UInt8) (h : l ≠ []) (hg : good b l) (hv : val b l ≤ 9223372036854775808) (hn : n = - val b l) : ReadV b true l 0 n := .inr (.inr ⟨h, hg, hv, rfl, hn⟩)
theorem wrap_least (V : Int) (h : 9223372036854775808 ≤ V) (h' : V ≤ 9223372036854775808) : wrap64 (-(wrap64 V)) = -V := by
  unfold wrap64; omega
theorem extract_size (s : ByteArray) (h : s.size ≤ 1200) : (s.extract 1 s.size).size ≤ 1200 := by
  rw [ByteArray.size_extract]; omega

theorem cut_exists (s : ByteArray) : ∃ neg r, Cut s neg r := by
  by_cases hz : s.size = 0
  · exact ⟨false, s, .inl ⟨hz, rfl, rfl⟩⟩
  · have hp : 0 < s.size := by omega
    by_cases h45 : s[0].toNat = 45
    · exact ⟨true, _, .inr (.inl ⟨hp, h45, rfl, rfl⟩)⟩
    · by_cases h43 : s[0].toNat = 43
      · exact ⟨false, _, .inr (.inr (.inl ⟨hp, h43, rfl, rfl⟩))⟩
      · exact ⟨false, s, .inr (.inr (.inr ⟨hp, h45, h43, rfl, rfl⟩))⟩
theorem cut_size (s : ByteArray) (neg : Bool) (r : ByteArray) (hs : s.size ≤ 1200) (hc : Cut s neg r) : r.size ≤ 1200 := by
  rcases hc with ⟨_, _, rfl⟩ | ⟨_, _, _, rfl⟩ | ⟨_, _, _, rfl⟩ | ⟨_, _, _, _, rfl⟩
  · exact hs
  · exact extract_size s hs
  · exact extract_size s hs
  · exact hs

end Go.Proofs.YtaoccjaaopmfdaaGreatDoor

/- cutSign of the program. -/
namespace Go.Proofs.YtaoccjaaopmfdaaGreatDoor
open Go.ChangeShapes Go.WideShapes Go.RowKit

set_option maxHeartbeats 400000 in
theorem cutSign_any (s : ByteArray) (w : World) (hs : s.size ≤ 1200) (neg : Bool) (r : ByteArray) (hc : Cut s neg r) :
    Calls Tryz.prog 123 #[.string s] w fun e w' => e = .returned (.tuple #[.bool neg, .string r]) ∧ ∃ n, w' = w.drewN n := by
  rcases hc with ⟨hz, rfl, rfl⟩ | ⟨hz, h45, rfl, rfl⟩ | ⟨hz, h43, rfl, rfl⟩ | ⟨hz, h45, h43, rfl, rfl⟩
  · have he := isEmpty_yes r hz
    clear hz
    go_enter Tryz.func123, Tryz.ntmps123
    go_wp2
    go_ret2
    exact ⟨rfl, 0, rfl⟩
  · have he := isEmpty_no s (by omega)
    have e1 : ((s[0].toNat : Int) != 45) = false := by simp [h45]
    have e3 : ((s[0].toNat : Int) == 45) = true := by simp [h45]
    clear h45
    go_enter Tryz.func123, Tryz.ntmps123
    go_wp2
    go_quiet (fail)
    go_wp2
    go_ret2
    exact ⟨rfl, _, rfl⟩
  · have he := isEmpty_no s (by omega)
    have e1 : ((s[0].toNat : Int) != 45) = true := by simp [h43]
    have e2 : ((s[0].toNat : Int) != 43) = false := by simp [h43]
    have e3 : ((s[0].toNat : Int) == 45) = false := by simp [h43]
    clear h43
    go_enter Tryz.func123, Tryz.ntmps123
    go_wp2
    go_quiet (fail)
    go_wp2
    go_ret2
    exact ⟨rfl, _, rfl⟩
  · have he := isEmpty_no r (by omega)
    have e1 : ((r[0].toNat : Int) != 45) = true := bne_iff_ne.2 (by omega)
    have e2 : ((r[0].toNat : Int) != 43) = true := bne_iff_ne.2 (by omega)
    clear h45 h43
    go_enter Tryz.func123, Tryz.ntmps123
    go_wp2
    go_ret2
    exact ⟨rfl, 0, rfl⟩
end Go.Proofs.YtaoccjaaopmfdaaGreatDoor

