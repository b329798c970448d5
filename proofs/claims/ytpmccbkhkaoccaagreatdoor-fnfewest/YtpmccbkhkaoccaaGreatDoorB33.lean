import Derived.Test.YtpmccbkhkaoccaaGreatDoorB02
import Derived.WalkKit
import Derived.Test.YtpmccbkhkaoccaaGreatDoorB11
import Derived.Test.YtpmccbkhkaoccaaGreatDoorRows
import Derived.Test.YtpmccbkhkaoccaaGreatDoorB08
import Derived.WalkSpells
import Derived.WalkLawsBesides
import Derived.Outline
import Derived.BigQuiet
import Derived.Deep.QuietTactic
/- A word is one thing alone: plain. -/
namespace Go.Proofs.YtpmccbkhkaoccaaGreatDoor
open Ieee (double)

theorem fw_one (s t : Bool) (m n : Nat) (p q : Int) (h : Canon m p) (k : Canon n q) (e : fw s m p = fw t n q) : s = t ∧ m = n ∧ p = q := by
  have h1 := read_canon s m p h
  have h2 := read_canon t n q k
  rw [e, h2] at h1
  cases h1
  exact ⟨rfl, rfl, rfl⟩
theorem iw_fw (s t : Bool) (m : Nat) (p : Int) (h : Canon m p) (e : iw s = fw t m p) : False := by
  have h1 := read_canon t m p h
  rw [← e, read_iw] at h1
  cases h1
theorem nan_not_fw (s : Bool) (m : Nat) (p : Int) (h : Canon m p) (hn : IsNan (fw s m p)) : False := by
  have h2 := fw_eq_self s m p h
  rw [nan_neq _ hn] at h2
  cases h2
theorem nan_not_iw (s : Bool) (hn : IsNan (iw s)) : False := by
  have h2 := iw_eq_self s
  rw [nan_neq _ hn] at h2
  cases h2
theorem iw_one (s t : Bool) (h : iw s = iw t) : s = t := by
  have h1 := read_iw s
  rw [h, read_iw] at h1
  cases h1; rfl
theorem sign_one (s t : Bool) (h : signBit s = signBit t) : s = t := by cases s <;> cases t <;> first | rfl | (exact absurd h (by decide))
theorem sign_fw (s t : Bool) (m : Nat) (p : Int) (hc : Canon m p) (h0 : 0 < m) (h : signBit s = fw t m p) : False := by
  have h1 := fw_one s t 0 m (-1074) p canon_zero hc (by rw [fw_zero]; exact h)
  omega
theorem sign_iw (s t : Bool) (h : signBit s = iw t) : False := by cases s <;> cases t <;> exact absurd h (by decide)
theorem sign_nan (s : Bool) (h : IsNan (signBit s)) : False := nan_not_fw s 0 (-1074) canon_zero (by rw [fw_zero]; exact h)
end Go.Proofs.YtpmccbkhkaoccaaGreatDoor

/- A float stored into a cell. -/
namespace Go.Proofs.YtpmccbkhkaoccaaGreatDoor
open Go.ChangeShapes Go.WideShapes Go.RowKit

theorem run_store_float {P : Program} {w : World} {a : Addr} {m : Mode} (k : FloatKind) (x : Nat) : (store a (.float k x) m).run P w = stored P w a (.float k x) m := run_store P w a _ m rfl
end Go.Proofs.YtpmccbkhkaoccaaGreatDoor

/- What reading answers is one thing alone: plain. -/
namespace Go.Proofs.YtpmccbkhkaoccaaGreatDoor
open Go.RowKit

theorem sgn_one {s : ByteArray} {k j j' : Nat} {n n' : Bool} (h : Sgn s k n j) (h' : Sgn s k n' j') : n = n' ∧ j = j' := by
  rcases h with ⟨_, a, rfl, rfl⟩ | ⟨_, a, rfl, rfl⟩ | ⟨a, b, rfl, rfl⟩ <;> rcases h' with ⟨_, c, rfl, rfl⟩ | ⟨_, c, rfl, rfl⟩ | ⟨c, d, rfl, rfl⟩ <;> first | exact ⟨rfl, rfl⟩ | (exfalso; omega)
theorem bas_one {s : ByteArray} {k b j b' j' : Nat} (h : Bas s k b j) (h' : Bas s k b' j') : b = b' ∧ j = j' := by
  rcases h with ⟨a1, a2, a3, rfl, rfl⟩ | ⟨a, rfl, rfl⟩ <;> rcases h' with ⟨c1, c2, c3, rfl, rfl⟩ | ⟨c, rfl, rfl⟩
  · exact ⟨rfl, rfl⟩
  · exact absurd ⟨a1, a2, a3⟩ c
  · exact absurd ⟨c1, c2, c3⟩ a
  · exact ⟨rfl, rfl⟩
theorem frac_one {b : Nat} {s : ByteArray} {k j : Nat} {r r' : Option (ByteArray × Int × Nat)} (h : Frac b s k j r) (h' : Frac b s k j r') : r = r' := by
  rcases h with ⟨a, rfl⟩ | ⟨a, i, hi, h⟩ <;> rcases h' with ⟨c, rfl⟩ | ⟨c, i', hi', h'⟩
  · rfl
  · exact absurd c a
  · exact absurd a c
  · obtain rfl := run_one _ _ _ _ _ hi hi'
    rcases h with ⟨e, rfl⟩ | ⟨e, rfl⟩ <;> rcases h' with ⟨e', rfl⟩ | ⟨e', rfl⟩ <;> first | rfl | (exfalso; omega)
theorem expo_one {m : Int} {s : ByteArray} {j : Nat} {r r' : Sum (Int × Nat) Nat} (h : Expo m s j r) (h' : Expo m s j r') : r = r' := by
  rcases h with ⟨a, rfl⟩ | ⟨a, n, k, i, hs, hi, h⟩ <;> rcases h' with ⟨c, rfl⟩ | ⟨c, n', k', i', hs', hi', h'⟩
  · rfl
  · exact absurd c a
  · exact absurd a c
  · obtain ⟨rfl, rfl⟩ := sgn_one hs hs'
    obtain rfl := run_one _ _ _ _ _ hi hi'
    rcases h with ⟨e, rfl⟩ | ⟨e, rfl⟩ <;> rcases h' with ⟨e', rfl⟩ | ⟨e', rfl⟩ <;> first | rfl | (exfalso; omega)
theorem word_two (x : Int) (n n' : Bool) (h : x = wordC n 0) (h' : x = wordC n' 0) : n = n' := by
  cases n <;> cases n' <;> first | rfl | (exfalso; simp [wordC] at h h'; omega)
theorem word_not (x : Int) (n : Bool) (h : x = wordC n 0) (h1 : x ≠ 105) (h2 : x ≠ 110) : False := by
  cases n <;> simp [wordC] at h <;> omega
theorem readA_one {s : ByteArray} {ok ok' : Bool} {pl pl' : Int} {fl fl' : Nat → Prop} (h : ReadA s ok pl fl) (h' : ReadA s ok' pl' fl') : ok = ok' ∧ pl = pl' ∧ fl = fl' := by
  rcases h with ⟨hs, rfl, rfl, rfl⟩ | ⟨hs, neg, k, hg, h⟩ <;> rcases h' with ⟨hs', rfl, rfl, rfl⟩ | ⟨hs', neg', k', hg', h'⟩
  · exact ⟨rfl, rfl, rfl⟩
  · omega
  · omega
  obtain ⟨rfl, rfl⟩ := sgn_one hg hg'
  rcases h with ⟨nan, hw, i, hi, hm, h⟩ | ⟨n1, n2, b, k1, j, hb, hr, h⟩ <;> rcases h' with ⟨nan', hw', i', hi', hm', h'⟩ | ⟨n1', n2', b', k1', j', hb', hr', h'⟩
  · obtain rfl := word_two _ _ _ hw hw'
    have e : i = i' := by
      rcases Nat.lt_trichotomy i i' with hl | e | hl
      · exfalso
        have := hm' i hl
        rcases h with ⟨_, h, _⟩ | ⟨h, _⟩ | ⟨h, _⟩
        · exact h this
        · omega
        · omega
      · exact e
      · exfalso
        have := hm i' hl
        rcases h' with ⟨_, h, _⟩ | ⟨h, _⟩ | ⟨h, _⟩
        · exact h this
        · omega
        · omega
    subst e
    rcases h with ⟨a, _, rfl, rfl, rfl⟩ | ⟨a, c, rfl, rfl, rfl⟩ | ⟨a, c, rfl, rfl, rfl⟩ <;> rcases h' with ⟨a', _, rfl, rfl, rfl⟩ | ⟨a', c', rfl, rfl, rfl⟩ | ⟨a', c', rfl, rfl, rfl⟩ <;> first | exact ⟨rfl, rfl, rfl⟩ | (exfalso; omega)
  · exact (word_not _ _ hw n1' n2').elim
  · exact (word_not _ _ hw' n1 n2).elim
  · obtain ⟨rfl, rfl⟩ := bas_one hb hb'
    obtain rfl := run_one _ _ _ _ _ hr hr'
    rcases h with ⟨e, rfl, rfl, rfl⟩ | ⟨e, r, hf, h⟩ <;> rcases h' with ⟨e', rfl, rfl, rfl⟩ | ⟨e', r', hf', h'⟩
    · exact ⟨rfl, rfl, rfl⟩
    · omega
    · omega
    obtain rfl := frac_one hf hf'
    rcases h with ⟨rfl, rfl, rfl, rfl⟩ | ⟨ds, ex, i, x, hr1, hx, h⟩ <;> rcases h' with ⟨h2, rfl, rfl, rfl⟩ | ⟨ds', ex', i', x', hr2, hx', h'⟩
    · exact ⟨rfl, rfl, rfl⟩
    · cases hr2
    · rw [hr1] at h2; cases h2
    rw [hr1] at hr2
    obtain ⟨rfl, rfl, rfl⟩ : ds = ds' ∧ ex = ex' ∧ i = i' := by simpa using hr2
    obtain rfl := expo_one hx hx'
    rcases h with ⟨a, rfl, rfl, rfl, rfl⟩ | ⟨n, a, rfl, h⟩ <;> rcases h' with ⟨a', e', rfl, rfl, rfl⟩ | ⟨n', a', e', h'⟩
    · cases e'; exact ⟨rfl, rfl, rfl⟩
    · cases e'
    · cases e'
    · cases e'
      rcases h with ⟨a1, rfl, rfl, rfl⟩ | ⟨a1, rfl, rfl, rfl⟩ <;> rcases h' with ⟨a2, rfl, rfl, rfl⟩ | ⟨a2, rfl, rfl, rfl⟩ <;> first | exact ⟨rfl, rfl, rfl⟩ | exact absurd a1 a2 | exact absurd a2 a1
end Go.Proofs.YtpmccbkhkaoccaaGreatDoor

/- The digit of a byte, of the program. -/
namespace Go.Proofs.YtpmccbkhkaoccaaGreatDoor
open Go.ChangeShapes Go.WideShapes Go.RowKit

set_option maxHeartbeats 400000 in
theorem implDigit_any (c : Int) (w : World) (h0 : 0 ≤ c) (h1 : c ≤ 255) :
    Calls Tryz.prog 132 #[.int .u8 c] w fun e w' => e = .returned (.int .u64 (digN 36 c)) ∧ w' = w := by
  by_cases ha : 48 ≤ c ∧ c ≤ 57
  · have hv : digN 36 c = c - 48 := by unfold digN; rw [if_pos ha]
    rw [hv]; clear hv
    obtain ⟨ha, hb⟩ := ha
    go_enter Tryz.func132, Tryz.ntmps132
    go_wp2
    go_ret
    exact ⟨rfl, rfl⟩
  · by_cases hb : 97 ≤ c ∧ c ≤ 122
    · have hv : digN 36 c = c - 97 + 10 := by unfold digN; rw [if_neg ha, if_pos hb]
      rw [hv]; clear hv
      obtain ⟨hb, hc⟩ := hb
      have hd : 57 < c := by omega
      clear ha
      go_enter Tryz.func132, Tryz.ntmps132
      go_wp2
      go_ret
      exact ⟨rfl, rfl⟩
    · have hv : digN 36 c = 36 := by unfold digN; rw [if_neg ha, if_neg hb]
      rw [hv]; clear hv
      go_enter Tryz.func132, Tryz.ntmps132
      go_wp2
      all_goals (try (exfalso; omega))
      all_goals
        go_ret
        exact ⟨rfl, rfl⟩
theorem implDigit_byte (c : UInt8) (w : World) :
    Calls Tryz.prog 132 #[.int .u8 c.toNat] w fun e w' => e = .returned (.int .u64 (digN 36 c.toNat)) ∧ w' = w :=
  implDigit_any _ w (by omega) (by have := c.toNat_lt; omega)
end Go.Proofs.YtpmccbkhkaoccaaGreatDoor

