import Derived.Test.YtaoccjaaopmfdaaDoorA11
import Derived.Test.YtaoccjaaopmfdaaDoorA03
import Derived.Test.YtaoccjaaopmfdaaDoorA16
/- All digits of a number are fixed by it: plain. -/
namespace Go.Proofs.YtaoccjaaopmfdaaDoor
open Go.RowKit

theorem last_mod (t : ByteArray) (h : 0 < t.size) (hg : good 10 t.data.toList) : valN 10 t.data.toList % 10 = t[t.size - 1].toNat - 48 := by
  have e := last_cut t h
  obtain ⟨d1, d2, d3⟩ := good_digit t[t.size - 1] (good_at 10 t hg (t.size - 1) (by omega))
  have h1 : valN 10 [t[t.size - 1]] = t[t.size - 1].toNat - 48 := by
    rw [valN_cons, valN_nil, d3]
    simp
    omega
  rw [e, valN_append, h1]
  show (_ * 10 ^ 1 + _) % 10 = _
  rw [Nat.pow_one]
  omega
theorem last_some (t : ByteArray) (h : 0 < t.size) (hg : good 10 t.data.toList) (hz : ∀ h : t.size - 1 < t.size, t[t.size - 1].toNat ≠ 48) : valN 10 t.data.toList % 10 ≠ 0 := by
  rw [last_mod t h hg]
  obtain ⟨d1, d2, d3⟩ := good_digit t[t.size - 1] (good_at 10 t hg (t.size - 1) (by omega))
  have := hz (by omega)
  omega
theorem pow_same (V W a b : Nat) (h : V * 10 ^ a = W * 10 ^ b) (hV : V % 10 ≠ 0) (hW : W % 10 ≠ 0) : V = W ∧ a = b := by
  have key : ∀ (V W a b : Nat), V * 10 ^ a = W * 10 ^ b → V % 10 ≠ 0 → a < b → False := by
    intro V W a b h hV hlt
    obtain ⟨d, hd⟩ : ∃ d, b = a + (d + 1) := ⟨b - a - 1, by omega⟩
    rw [hd, Nat.pow_add, Nat.mul_comm (10 ^ a), ← Nat.mul_assoc] at h
    have h3 := Nat.eq_of_mul_eq_mul_right (Nat.pow_pos (show 0 < 10 by omega)) h
    rw [Nat.pow_succ, ← Nat.mul_assoc] at h3
    omega
  rcases Nat.lt_trichotomy a b with hlt | rfl | hlt
  · exact (key V W a b h hV hlt).elim
  · exact ⟨Nat.eq_of_mul_eq_mul_right (Nat.pow_pos (by omega)) h, rfl⟩
  · exact (key W V b a h.symm hW hlt).elim
/-- A number's digits, and where their point is, are fixed by it. -/
theorem exD_one (ds ds' : ByteArray) (pow pow' : Int) (M : Nat) (E : Int) (h : ExD ds pow M E) (h' : ExD ds' pow' M E) : ds = ds' ∧ pow = pow' := by
  obtain ⟨a0, ag, af, al, av⟩ := h
  obtain ⟨b0, bg, bf, bl, bv⟩ := h'
  have hV := last_some ds a0 ag al
  have hW := last_some ds' b0 bg bl
  have hx : valN 10 ds.data.toList * 10 ^ ((pow - (ds.size : Int)).toNat + ((ds'.size : Int) - pow').toNat) = valN 10 ds'.data.toList * 10 ^ ((pow' - (ds'.size : Int)).toNat + ((ds.size : Int) - pow).toNat) := by
    apply Nat.eq_of_mul_eq_mul_right (Nat.two_pow_pos (-E).toNat)
    rw [Nat.pow_add, Nat.pow_add, ← Nat.mul_assoc, ← Nat.mul_assoc]
    rw [Nat.mul_right_comm (valN 10 ds.data.toList * 10 ^ (pow - (ds.size : Int)).toNat), av]
    rw [Nat.mul_right_comm (valN 10 ds'.data.toList * 10 ^ (pow' - (ds'.size : Int)).toNat), bv]
    rw [Nat.mul_right_comm]
  obtain ⟨e1, e2⟩ := pow_same _ _ _ _ hx hV hW
  have hd : ds = ds' := dec_one ds ds' _ ⟨ag, rfl, af⟩ ⟨bg, e1.symm, bf⟩
  subst hd
  exact ⟨rfl, by omega⟩
end Go.Proofs.YtaoccjaaopmfdaaDoor

/- A word is one thing alone: plain. -/
namespace Go.Proofs.YtaoccjaaopmfdaaDoor
open Ieee (double)

theorem fw_one (s t : Bool) (m n : Nat) (p q : Int) (h : Canon m p) (k : Canon n q) (e : fw s m p = fw t n q) : s = t ∧ m = n ∧ p = q := by
  have h1 := read_canon s m p h
  have h2 := read_canon t n q k
  rw [e, h2] at h1
  cases h1
  exact ⟨rfl, rfl, rfl⟩
theorem iw_fw (s t : Bool) (m : Nat) (p : Int) (h : Canon m p) (e : iw s = fw t m p) : False := by
  have h1 := read_canon t m p h
  rw [← e, read_iw] at h1
  cases h1
theorem nan_not_fw (s : Bool) (m : Nat) (p : Int) (h : Canon m p) (hn : IsNan (fw s m p)) : False := by
  have h2 := fw_eq_self s m p h
  rw [nan_neq _ hn] at h2
  cases h2
theorem nan_not_iw (s : Bool) (hn : IsNan (iw s)) : False := by
  have h2 := iw_eq_self s
  rw [nan_neq _ hn] at h2
  cases h2
theorem iw_one (s t : Bool) (h : iw s = iw t) : s = t := by
  have h1 := read_iw s
  rw [h, read_iw] at h1
  cases h1; rfl
theorem sign_one (s t : Bool) (h : signBit s = signBit t) : s = t := by cases s <;> cases t <;> first | rfl | (exact absurd h (by decide))
theorem sign_fw (s t : Bool) (m : Nat) (p : Int) (hc : Canon m p) (h0 : 0 < m) (h : signBit s = fw t m p) : False := by
  have h1 := fw_one s t 0 m (-1074) p canon_zero hc (by rw [fw_zero]; exact h)
  omega
theorem sign_iw (s t : Bool) (h : signBit s = iw t) : False := by cases s <;> cases t <;> exact absurd h (by decide)
theorem sign_nan (s : Bool) (h : IsNan (signBit s)) : False := nan_not_fw s 0 (-1074) canon_zero (by rw [fw_zero]; exact h)
end Go.Proofs.YtaoccjaaopmfdaaDoor

/- Exact's, HexOf's and Digits's answers are fixed: plain but for their names. -/
namespace Go.Proofs.YtaoccjaaopmfdaaDoor
open Ieee (double)

theorem exactV_one (x : Nat) (t t' : ByteArray) (h : exactV x t) (h' : exactV x t') : t = t' := by
  rcases h with ⟨a, rfl⟩ | ⟨s, rfl, rfl⟩ | ⟨s, rfl, rfl⟩ | ⟨s, n, p, q, k, ds, pow, hc, h0, rfl, hq, hq1, hd, rfl⟩
  · rcases h' with ⟨_, rfl⟩ | ⟨s, rfl, rfl⟩ | ⟨s, rfl, rfl⟩ | ⟨s, n, p, q, k, ds, pow, hc, h0, rfl, hq, hq1, hd, rfl⟩
    · rfl
    · exact (nan_not_iw s a).elim
    · exact (sign_nan s a).elim
    · exact (nan_not_fw s n p hc a).elim
  · rcases h' with ⟨a, _⟩ | ⟨t, e, rfl⟩ | ⟨t, e, rfl⟩ | ⟨t, n, p, q, k, ds, pow, hc, h0, e, hq, hq1, hd, rfl⟩
    · exact (nan_not_iw s a).elim
    · rw [iw_one s t e]
    · exact (sign_iw t s e.symm).elim
    · exact (iw_fw s t n p hc e).elim
  · rcases h' with ⟨a, _⟩ | ⟨t, e, rfl⟩ | ⟨t, e, rfl⟩ | ⟨t, n, p, q, k, ds, pow, hc, h0, e, hq, hq1, hd, rfl⟩
    · exact (sign_nan s a).elim
    · exact (sign_iw s t e).elim
    · rw [sign_one s t e]
    · exact (sign_fw s t n p hc h0 e).elim
  · rcases h' with ⟨a, _⟩ | ⟨t, e, rfl⟩ | ⟨t, e, rfl⟩ | ⟨t, n', p', q', k', ds', pow', hc', h0', e, hq', hq1', hd', rfl⟩
    · exact (nan_not_fw s n p hc a).elim
    · exact (iw_fw t s n p hc e.symm).elim
    · exact (sign_fw t s n p hc h0 e.symm).elim
    · obtain ⟨rfl, rfl, rfl⟩ := fw_one s t n n' p p' hc hc' e
      obtain ⟨rfl, rfl⟩ := odd_one q k q' k' (hq.symm.trans hq') hq1 hq1'
      obtain ⟨rfl, rfl⟩ := exD_one ds ds' pow pow' q _ hd hd'
      rfl
end Go.Proofs.YtaoccjaaopmfdaaDoor

