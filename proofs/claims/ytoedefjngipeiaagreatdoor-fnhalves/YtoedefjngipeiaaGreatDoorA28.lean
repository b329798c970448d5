import Derived.Test.YtoedefjngipeiaaGreatDoorA27
import Derived.Test.YtoedefjngipeiaaGreatDoorA14
import Derived.Test.YtoedefjngipeiaaGreatDoorA26
import Derived.Test.YtoedefjngipeiaaGreatDoorA03
/- The midst between two floats written out, a digit more behind it, one less: what they are read as: plain. -/
namespace Go.Proofs.YtoedefjngipeiaaGreatDoor
open Ieee (double)

/-- What the text of the midst says of its digits. -/
theorem midst_key (m V bs : Nat) (p : Int) (hb : bs = if 0 ≤ p - 1 ∨ 2 * m + 1 = 0 then 1 else (-(p - 1)).toNat) (hv : V * 2 ^ (-(p - 1)).toNat = (2 * m + 1) * 2 ^ (p - 1).toNat * 10 ^ bs) :
    (2 * m + 1) * 2 ^ p.toNat * 10 ^ bs = V * 2 ^ ((-p).toNat + 1) ∧ (-p).toNat + 1 ≤ bs ∧ p = (p.toNat : Int) - ((-p).toNat : Int) ∧ 0 < V := by
  have hpos : 0 < V := by
    apply Nat.pos_of_ne_zero
    intro h
    rw [h, Nat.zero_mul] at hv
    have : 0 < (2 * m + 1) * 2 ^ (p - 1).toNat * 10 ^ bs := Nat.mul_pos (Nat.mul_pos (by omega) (Nat.two_pow_pos _)) (Nat.pow_pos (by omega))
    omega
  by_cases h : 1 ≤ p
  · rw [if_pos (.inl (by omega))] at hb
    rw [show (-(p - 1)).toNat = 0 by omega, Nat.pow_zero, Nat.mul_one] at hv
    refine ⟨?_, by omega, by omega, hpos⟩
    rw [hv, show p.toNat = (p - 1).toNat + 1 by omega, show (-p).toNat + 1 = 1 by omega, Nat.pow_succ, Nat.pow_one, ← Nat.mul_assoc, Nat.mul_right_comm]
  · rw [if_neg (by omega)] at hb
    rw [show (p - 1).toNat = 0 by omega, Nat.pow_zero, Nat.mul_one, show (-(p - 1)).toNat = (-p).toNat + 1 by omega] at hv
    refine ⟨?_, by omega, by omega, hpos⟩
    rw [show p.toNat = 0 by omega, Nat.pow_zero, Nat.mul_one]
    exact hv.symm
theorem two_ten (a b : Nat) (h : a ≤ b) : 2 ^ a ≤ 10 ^ b := Nat.le_trans (Nat.pow_le_pow_right (by omega) h) (Nat.pow_le_pow_left (by omega) b)
/-- A digit more behind it. -/
theorem midst_more (m V bs : Nat) (p : Int) (hc : Canon m p) (hb : bs = if 0 ≤ p - 1 ∨ 2 * m + 1 = 0 then 1 else (-(p - 1)).toNat) (hv : V * 2 ^ (-(p - 1)).toNat = (2 * m + 1) * 2 ^ (p - 1).toNat * 10 ^ bs) (z : Nat) :
    decW 10 (V * 10 ^ (z + 1) + 1) (-((bs + (z + 1) : Nat) : Int)) = rung m p + 1 := by
  obtain ⟨k1, k2, k3, k4⟩ := midst_key m V bs p hb hv
  unfold decW
  rw [if_neg (by omega), show (-((bs + (z + 1) : Nat) : Int)).toNat = 0 by omega, show (-(-((bs + (z + 1) : Nat) : Int))).toNat = bs + (z + 1) by omega, Nat.pow_zero, Nat.mul_one]
  have hZ : 0 < 10 ^ (z + 1) := Nat.pow_pos (by omega)
  have hW : 0 < 2 ^ ((-p).toNat + 1) := Nat.two_pow_pos _
  have e1 : (2 * m + 1) * 2 ^ p.toNat * 10 ^ (bs + (z + 1)) = V * 2 ^ ((-p).toNat + 1) * 10 ^ (z + 1) := by rw [Nat.pow_add, ← Nat.mul_assoc, k1]
  have e2 : (V * 10 ^ (z + 1) + 1) * 2 ^ ((-p).toNat + 1) = V * 2 ^ ((-p).toNat + 1) * 10 ^ (z + 1) + 2 ^ ((-p).toNat + 1) := by rw [Nat.add_mul, Nat.one_mul, Nat.mul_right_comm]
  refine ratio_above _ _ m p.toNat (-p).toNat p hc k3 (by omega) (Nat.pow_pos (by omega)) (by rw [e1, e2]; omega) ?_
  have hlt : 2 ^ ((-p).toNat + 1) < 2 ^ p.toNat * 10 ^ (bs + (z + 1)) := by
    have h1 : 2 ^ ((-p).toNat + 1) < 2 ^ (bs + (z + 1)) := Nat.pow_lt_pow_right (by omega) (by omega)
    have h2 := two_ten (bs + (z + 1)) (bs + (z + 1)) (Nat.le_refl _)
    have h3 : 1 * 10 ^ (bs + (z + 1)) ≤ 2 ^ p.toNat * 10 ^ (bs + (z + 1)) := Nat.mul_le_mul_right _ (Nat.two_pow_pos _)
    omega
  have e3 : 2 * ((m + 1) * 2 ^ p.toNat * 10 ^ (bs + (z + 1))) = (2 * m + 1) * 2 ^ p.toNat * 10 ^ (bs + (z + 1)) + 2 ^ p.toNat * 10 ^ (bs + (z + 1)) := by
    rw [← Nat.mul_assoc, ← Nat.mul_assoc, show 2 * (m + 1) = 2 * m + 1 + 1 by omega, Nat.add_mul _ 1, Nat.one_mul, Nat.add_mul]
  have e4 : 2 * ((V * 10 ^ (z + 1) + 1) * 2 ^ (-p).toNat) = (V * 10 ^ (z + 1) + 1) * 2 ^ ((-p).toNat + 1) := by rw [show 2 ^ ((-p).toNat + 1) = 2 ^ (-p).toNat * 2 from Nat.pow_succ .., Nat.mul_comm 2, Nat.mul_assoc]
  omega
/-- One less in its last place, and nines. -/
theorem midst_less (m V bs : Nat) (p : Int) (hc : Canon m p) (hb : bs = if 0 ≤ p - 1 ∨ 2 * m + 1 = 0 then 1 else (-(p - 1)).toNat) (hv : V * 2 ^ (-(p - 1)).toNat = (2 * m + 1) * 2 ^ (p - 1).toNat * 10 ^ bs) (z : Nat) :
    decW 10 (V * 10 ^ (z + 1) - 1) (-((bs + (z + 1) : Nat) : Int)) = rung m p := by
  obtain ⟨k1, k2, k3, k4⟩ := midst_key m V bs p hb hv
  have hZ : 10 ≤ 10 ^ (z + 1) := by rw [Nat.pow_succ]; have : 0 < 10 ^ z := Nat.pow_pos (by omega); omega
  have hVZ : 1 * 10 ^ (z + 1) ≤ V * 10 ^ (z + 1) := Nat.mul_le_mul_right _ k4
  unfold decW
  rw [if_neg (by omega), show (-((bs + (z + 1) : Nat) : Int)).toNat = 0 by omega, show (-(-((bs + (z + 1) : Nat) : Int))).toNat = bs + (z + 1) by omega, Nat.pow_zero, Nat.mul_one]
  obtain ⟨D, hD⟩ : ∃ D, V * 10 ^ (z + 1) = D + 1 := ⟨V * 10 ^ (z + 1) - 1, by omega⟩
  rw [hD, Nat.add_sub_cancel]
  have hW : 0 < 2 ^ ((-p).toNat + 1) := Nat.two_pow_pos _
  have e1 : (2 * m + 1) * 2 ^ p.toNat * 10 ^ (bs + (z + 1)) = D * 2 ^ ((-p).toNat + 1) + 2 ^ ((-p).toNat + 1) := by
    rw [Nat.pow_add, ← Nat.mul_assoc, k1, Nat.mul_right_comm, hD, Nat.add_mul, Nat.one_mul]
  have hle : 2 ^ ((-p).toNat + 1) ≤ 2 ^ p.toNat * 10 ^ (bs + (z + 1)) := by
    have h2 := two_ten ((-p).toNat + 1) (bs + (z + 1)) (by omega)
    have h3 : 1 * 10 ^ (bs + (z + 1)) ≤ 2 ^ p.toNat * 10 ^ (bs + (z + 1)) := Nat.mul_le_mul_right _ (Nat.two_pow_pos _)
    omega
  have e3 : (2 * m + 1) * 2 ^ p.toNat * 10 ^ (bs + (z + 1)) = 2 * (m * 2 ^ p.toNat * 10 ^ (bs + (z + 1))) + 2 ^ p.toNat * 10 ^ (bs + (z + 1)) := by
    rw [Nat.add_mul, Nat.one_mul, Nat.add_mul, Nat.mul_assoc 2, Nat.mul_assoc 2]
  have e4 : 2 * (D * 2 ^ (-p).toNat) = D * 2 ^ ((-p).toNat + 1) := by rw [Nat.pow_succ, Nat.mul_comm 2, Nat.mul_assoc]
  refine ratio_below _ _ m p.toNat (-p).toNat p hc k3 ?_ (Nat.pow_pos (by omega)) (by omega) (by omega)
  apply Nat.pos_of_ne_zero
  intro h
  omega
end Go.Proofs.YtoedefjngipeiaaGreatDoor

/- What the texts around the midst between two floats are read as: plain. -/
namespace Go.Proofs.YtoedefjngipeiaaGreatDoor
open Go.RowKit
open Ieee (double)

def oneB : ByteArray := ⟨#[48, 48, 48, 48, 48, 48, 48, 48, 48, 48, 49]⟩
def ninesB : ByteArray := ⟨#[57, 57, 57, 57, 57, 57, 57, 57, 57, 57]⟩
theorem one_facts : valN 10 oneB.data.toList = 1 ∧ good 10 oneB.data.toList ∧ oneB.size = 11 := ⟨by decide, by unfold good; decide, rfl⟩
theorem nines_facts : valN 10 ninesB.data.toList = 9999999999 ∧ good 10 ninesB.data.toList ∧ ninesB.size = 10 := ⟨by decide, by unfold good; decide, rfl⟩
theorem read_midst (t : ByteArray) (m : Nat) (p : Int) (hc : Canon m p) (h : Pointed t (2 * m + 1) (p - 1)) (hs : t.size ≤ 1200) (ok : Bool) (pl : Int) (fl : Nat → Prop) (hr : ReadA t ok pl fl) :
    ok = true ∧ pl = 0 ∧ fl = (· = rung m p + m % 2) := by
  obtain ⟨h1, h2, h3⟩ := read_pointed false t (2 * m + 1) (p - 1) h hs ok pl fl hr
  exact ⟨h1, h2, by rw [h3, fw_midst m p hc]⟩
theorem read_more (t : ByteArray) (m : Nat) (p : Int) (hc : Canon m p) (h : Pointed t (2 * m + 1) (p - 1)) (hs : t.size + 11 ≤ 1200) (ok : Bool) (pl : Int) (fl : Nat → Prop) (hr : ReadA (t ++ oneB) ok pl fl) :
    ok = true ∧ pl = 0 ∧ fl = (· = rung m p + 1) := by
  obtain ⟨a, b, ht, ha0, hb, hg, hv, _⟩ := h
  obtain ⟨z1, z2, z3⟩ := one_facts
  have hts : (t ++ oneB).size ≤ 1200 := by rw [append_size, z3]; exact hs
  have hlist : (a ++ (b ++ oneB)).data.toList = (a ++ b).data.toList ++ oneB.data.toList := by rw [append_list, append_list, append_list, List.append_assoc]
  obtain ⟨h1, h2, h3⟩ := read_dotted false (t ++ oneB) a (b ++ oneB) (by rw [ht]; simp only [ByteArray.append_assoc]) ha0 (by rw [append_size, z3]; omega) (by rw [hlist]; exact good_append _ _ hg z2) hts ok pl fl hr
  refine ⟨h1, h2, ?_⟩
  rw [h3, hlist, valN_append, z1, data_len, append_size, z3, midst_more m _ b.size p hc hb hv 10]
  show (fun x => x = 0 + (rung m p + 1)) = _
  rw [Nat.zero_add]
theorem read_less (t : ByteArray) (m : Nat) (p : Int) (hc : Canon m p) (h : Pointed t (2 * m + 1) (p - 1)) (hs : t.size + 10 ≤ 1200) (ok : Bool) (pl : Int) (fl : Nat → Prop) (hr : ReadA (⟨(les t.data.toList).toArray⟩ ++ ninesB) ok pl fl) :
    ok = true ∧ pl = 0 ∧ fl = (· = rung m p) := by
  obtain ⟨a, b, ht, ha0, hb, hg, hv, _⟩ := h
  obtain ⟨z1, z2, z3⟩ := nines_facts
  obtain ⟨_, _, _, hV⟩ := midst_key m _ b.size p hb hv
  have hany : (a.data.toList ++ b.data.toList).any nz = true := by
    apply Classical.byContradiction
    intro hn
    have hn' : (a.data.toList ++ b.data.toList).any nz = false := by simpa using hn
    have := zeros_of _ (by rw [← append_list]; exact hg) hn'
    rw [append_list, this, valN_zeros] at hV
    omega
  obtain ⟨a', b', e1, e2, e3, e4⟩ := les_dot a.data.toList b.data.toList hany
  obtain ⟨g1, g2⟩ := les_value (a.data.toList ++ b.data.toList) (by rw [← append_list]; exact hg) hany
  have hlt : t.data.toList = a.data.toList ++ [46] ++ b.data.toList := by rw [ht, append_list, append_list]; rfl
  have hb0 : 0 < b.size := by rw [hb]; split <;> omega
  have sa : (⟨a'.toArray⟩ : ByteArray).size = a.size := by rw [← data_len, ← data_len a]; exact e3
  have sb : (⟨b'.toArray⟩ : ByteArray).size = b.size := by rw [← data_len, ← data_len b]; exact e4
  have htxt : (⟨(les t.data.toList).toArray⟩ ++ ninesB : ByteArray) = ⟨a'.toArray⟩ ++ dotB ++ (⟨b'.toArray⟩ ++ ninesB) := by
    apply bytes_ext
    rw [hlt, e1]
    simp only [append_list]
    show a' ++ [46] ++ b' ++ _ = a' ++ [46] ++ (b' ++ _)
    rw [List.append_assoc]
  have hlist : ((⟨a'.toArray⟩ : ByteArray) ++ (⟨b'.toArray⟩ ++ ninesB)).data.toList = (a' ++ b') ++ ninesB.data.toList := by
    rw [append_list, append_list]
    show a' ++ (b' ++ _) = _
    rw [List.append_assoc]
  have hsz : (⟨(les t.data.toList).toArray⟩ ++ ninesB : ByteArray).size ≤ 1200 := by
    rw [append_size, z3]
    have : (⟨(les t.data.toList).toArray⟩ : ByteArray).size = t.size := by
      rw [← data_len]
      show (les t.data.toList).length = _
      rw [les_length, data_len]
    omega
  obtain ⟨h1, h2, h3⟩ := read_dotted false _ ⟨a'.toArray⟩ (⟨b'.toArray⟩ ++ ninesB) htxt (by omega) (by rw [append_size, z3]; omega) (by rw [hlist, ← e2]; exact good_append _ _ g1 z2) hsz ok pl fl hr
  refine ⟨h1, h2, ?_⟩
  have hval : valN 10 (a' ++ b') * 10 ^ 10 + 9999999999 = valN 10 (a ++ b).data.toList * 10 ^ (9 + 1) - 1 := by
    rw [append_list, ← g2, ← e2]
    show _ * 10000000000 + _ = (_ + 1) * 10000000000 - 1
    omega
  rw [h3, hlist, valN_append, z1, data_len, append_size, z3, sb]
  have h10 : (10 : Nat) ^ ninesB.size = 10 ^ 10 := by rw [z3]
  rw [show b.size + 10 = b.size + (9 + 1) from rfl]
  first
    | rw [h10, hval, midst_less m _ b.size p hc hb hv 9]
    | rw [hval, midst_less m _ b.size p hc hb hv 9]
  show (fun x => x = 0 + rung m p) = _
  rw [Nat.zero_add]
end Go.Proofs.YtoedefjngipeiaaGreatDoor

/- A float's bits as the program lays them: plain facts. -/
namespace Go.Proofs.YtoedefjngipeiaaGreatDoor
open Go.ChangeShapes Go.WideShapes Go.RowKit
open Ieee (double)

theorem and_top (U : Nat) (s : Bool) (r : Nat) (hr : r < 9223372036854775808) (hU : U = signBit s + r) : bits .and .u64 (U : Int) 9223372036854775808 = (signBit s : Int) := by
  have hlt : U < 18446744073709551616 := by cases s <;> simp only [signBit] at hU <;> simp at hU <;> omega
  have e := bits_and_u64_nat U 9223372036854775808 hlt (by omega)
  rw [show ((9223372036854775808 : Nat) : Int) = 9223372036854775808 from rfl] at e
  rw [e]
  congr 1
  have hb : r.testBit 63 = false := Nat.testBit_lt_two_pow hr
  apply Nat.eq_of_testBit_eq
  intro i
  rw [Nat.testBit_and, show (9223372036854775808 : Nat) = 2 ^ 63 from rfl, Nat.testBit_two_pow]
  cases s
  · rw [hU]
    show ((0 + r).testBit i && _) = (0 : Nat).testBit i
    rw [Nat.zero_add, Nat.zero_testBit]
    by_cases hi : 63 = i
    · subst hi; rw [hb]; rfl
    · rw [decide_eq_false hi, Bool.and_false]
  · rw [hU]
    show ((2 ^ 63 + r).testBit i && _) = (2 ^ 63 : Nat).testBit i
    rw [Nat.testBit_two_pow]
    by_cases hi : 63 = i
    · subst hi
      rw [Nat.testBit_two_pow_add_eq, hb]; rfl
    · rw [decide_eq_false hi, Bool.and_false]
/-- What a walk is told of a word. -/
def Lays (U : Nat) (s : Bool) (E M : Nat) : Prop :=
  (bits .and .u64 (U : Int) 9223372036854775808 != 0) = s ∧ bits .and .u64 ((U : Int) / 4503599627370496) 2047 = (E : Int) ∧ bits .and .u64 (U : Int) 4503599627370495 = (M : Int)
theorem lays_any (U : Nat) (s : Bool) (E M : Nat) (hE : E < 2048) (hM : M < 4503599627370496) (hU : U = signBit s + (E * 4503599627370496 + M)) : Lays U s E M := by
  have hlt : U < 18446744073709551616 := by cases s <;> simp only [signBit] at hU <;> simp at hU <;> omega
  have ha := mask11 ((U : Int) / 4503599627370496) (by omega) (by omega)
  have hb := mask52 (U : Int) (by omega) (by omega)
  have eE : (U : Int) / 4503599627370496 % 2048 = (E : Int) := by cases s <;> simp only [signBit] at hU <;> simp at hU <;> omega
  have eM : (U : Int) % 4503599627370496 = (M : Int) := by cases s <;> simp only [signBit] at hU <;> simp at hU <;> omega
  rw [eE] at ha
  rw [eM] at hb
  refine ⟨?_, ha, hb⟩
  rw [and_top U s _ (by omega) hU]
  cases s <;> rfl
end Go.Proofs.YtoedefjngipeiaaGreatDoor

