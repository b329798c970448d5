import Derived.Test.YtpmccbkhkaoccaaDoorA09
import Derived.WalkKit
import Derived.Test.YtpmccbkhkaoccaaDoorA08
/- WriteInt of the program. -/
namespace Go.Proofs.YtpmccbkhkaoccaaDoor
open Go.ChangeShapes Go.WideShapes Go.RowKit

theorem implDigits_at (m b : Int) (k : Nat) (hm : m = (k : Int)) (w : World) (hn : k < 18446744073709551616) (h2 : 2 ≤ b) (h36 : b ≤ 36) (ht : Tab w) (hw : 1 < w.heap.size) :
    Calls Tryd.prog 106 #[.int .u64 m, .int .u64 b] w fun e w' => e = .returned (.string ⟨(textOf b.toNat k).toArray⟩) ∧ Below w.heap.size w w' := by
  obtain ⟨c, rfl⟩ := Int.eq_ofNat_of_zero_le (show 0 ≤ b by omega)
  subst hm
  exact implDigits_any k c w hn (by omega) (by omega) ht hw

set_option maxHeartbeats 400000 in
theorem implInt_any (n b : Int) (w : World) (ht : Tab w) (hw : 1 < w.heap.size) :
    Calls Tryd.prog 104 #[.int .i64 n, .int .i64 b] w fun e w' => e = .returned (.string (intText n b)) ∧ Below w.heap.size w w' := by
  have HB : Hid _ := isBase_any b
  by_cases h : 2 ≤ b ∧ b ≤ 36
  · rw [isB_yes b h.1 h.2] at HB
    by_cases hn : n < 0
    · have HV : Hid (intText n b = ⟨#[45]⟩ ++ ⟨(textOf b.toNat (unsig (-n))).toArray⟩) := intText_neg n b h hn
      have HC : Hid _ := fun (_ : Unit) => implDigits_at _ b (unsig (-n)) (neg_unsig n) w (unsig_lt (-n)) h.1 h.2 ht hw
      obtain ⟨h2, h36⟩ := h
      have hl := textOf_length b.toNat (unsig (-n))
      generalize textOf b.toNat (unsig (-n)) = t at *
      clear ht
      go_enter Tryd.func104, Tryd.ntmps104
      go_wp2_with (go_at_call 105; refine (HB.out _).mono ?_; rintro e w' ⟨rfl, rfl⟩)
      refine (HC.out ()).mono ?_
      rintro e w1 ⟨rfl, hb⟩
      have HX : Hid _ := hb
      clear hb
      go_wp2
      go_ret
      exact ⟨by rw [HV.out]; rfl, HX.out⟩
    · have HV : Hid (intText n b = ⟨(textOf b.toNat (unsig n)).toArray⟩) := intText_pos n b h hn
      have HC : Hid _ := fun (_ : Unit) => implDigits_at _ b (unsig n) (unsig_cast n) w (unsig_lt n) h.1 h.2 ht hw
      obtain ⟨h2, h36⟩ := h
      clear ht
      go_enter Tryd.func104, Tryd.ntmps104
      go_wp2_with (go_at_call 105; refine (HB.out _).mono ?_; rintro e w' ⟨rfl, rfl⟩)
      refine (HC.out ()).mono ?_
      rintro e w1 ⟨rfl, hb⟩
      have HX : Hid _ := hb
      clear hb
      go_wp2
      go_ret
      exact ⟨by rw [HV.out]; rfl, HX.out⟩
  · rw [isB_no b (by omega)] at HB
    have HV : Hid (intText n b = ⟨#[]⟩) := by unfold intText; exact if_neg h
    clear h ht
    go_enter Tryd.func104, Tryd.ntmps104
    go_wp2_with (go_at_call 105; refine (HB.out _).mono ?_; rintro e w' ⟨rfl, rfl⟩)
    go_ret
    exact ⟨by rw [HV.out]; rfl, Below.refl _ _⟩

end Go.Proofs.YtpmccbkhkaoccaaDoor

/- A number as an odd one times a power of two: plain. -/
namespace Go.Proofs.YtpmccbkhkaoccaaDoor

theorem odd_some (n : Nat) : 0 < n → ∃ q t, n = q * 2 ^ t ∧ q % 2 = 1 := by
  induction n using Nat.strongRecOn with
  | ind n ih =>
    intro h
    by_cases h1 : n % 2 = 1
    · exact ⟨n, 0, by rw [Nat.pow_zero, Nat.mul_one], h1⟩
    · obtain ⟨q, t, hq, hq1⟩ := ih (n / 2) (by omega) (by omega)
      refine ⟨q, t + 1, ?_, hq1⟩
      rw [Nat.pow_succ, ← Nat.mul_assoc, ← hq]; omega
theorem odd_one (q t q' t' : Nat) (h : q * 2 ^ t = q' * 2 ^ t') (h1 : q % 2 = 1) (h2 : q' % 2 = 1) : q = q' ∧ t = t' := by
  have key : ∀ (q t q' t' : Nat), q * 2 ^ t = q' * 2 ^ t' → q % 2 = 1 → t < t' → False := by
    intro q t q' t' h h1 hlt
    obtain ⟨d, hd⟩ : ∃ d, t' = t + (d + 1) := ⟨t' - t - 1, by omega⟩
    rw [hd, Nat.pow_add, Nat.mul_comm (2 ^ t), ← Nat.mul_assoc] at h
    have h3 := Nat.eq_of_mul_eq_mul_right (Nat.two_pow_pos t) h
    rw [Nat.pow_succ, ← Nat.mul_assoc] at h3
    omega
  rcases Nat.lt_trichotomy t t' with hlt | rfl | hlt
  · exact (key q t q' t' h h1 hlt).elim
  · exact ⟨Nat.eq_of_mul_eq_mul_right (Nat.two_pow_pos t) h, rfl⟩
  · exact (key q' t' q t h.symm h2 hlt).elim
end Go.Proofs.YtpmccbkhkaoccaaDoor

/- What the program's writers want of the world. -/
namespace Go.Proofs.YtpmccbkhkaoccaaDoor
open Go.RowKit

def WrG (w : World) : Prop := DTab w ∧ Tab w ∧ 0 < w.heap.size ∧ 1 < w.heap.size
theorem WrG.below {w w' : World} (h : WrG w) (hb : Below w.heap.size w w') : WrG w' :=
  ⟨h.1.below h.2.2.1 hb, fun i hi => by rw [hb.cell (p := ⟨1, i, none⟩) h.2.2.2]; exact h.2.1 i hi, Nat.lt_of_lt_of_le h.2.2.1 hb.size, Nat.lt_of_lt_of_le h.2.2.2 hb.size⟩
/-- Every float has its parts. -/
theorem parts_ex (x : Nat) (hx : x < 18446744073709551616) : ∃ k s m e, partsV x k s m e := by
  rcases float_cases x hx with h | ⟨s, rfl⟩ | ⟨s, n, p, hc, rfl⟩
  · exact ⟨3, false, 0, 0, .inl ⟨h, rfl, rfl, rfl, rfl⟩⟩
  · exact ⟨2, s, 0, 0, .inr (.inl ⟨rfl, rfl, rfl, rfl⟩)⟩
  · by_cases h0 : n = 0
    · subst h0
      rw [fw_zero]
      exact ⟨0, s, 0, 0, .inr (.inr (.inl ⟨rfl, rfl, rfl, rfl⟩))⟩
    · obtain ⟨q, t, hq, hq1⟩ := odd_some n (by omega)
      exact ⟨1, s, q, p + t, .inr (.inr (.inr ⟨n, p, q, t, hc, by omega, rfl, hq, hq1, rfl, rfl, rfl⟩))⟩
theorem parts_bounds (n : Nat) (p : Int) (q t : Nat) (hc : Canon n p) (h0 : 0 < n) (hq : n = q * 2 ^ t) : q ≤ 9007199254740992 ∧ 0 < q ∧ -1074 ≤ p + t ∧ p + t ≤ 1023 := by
  have h1 : n < 9007199254740992 := by rcases hc with h | h <;> omega
  have hq0 : 0 < q := Nat.pos_of_ne_zero fun h => by rw [h, Nat.zero_mul] at hq; omega
  have ht : t ≤ 52 := few_halves n t (q : Int) (by rw [Int.toNat_natCast]; exact hq) (by omega) h1
  have hqn : q ≤ n := by rw [hq]; exact Nat.le_mul_of_pos_right _ (Nat.two_pow_pos t)
  rcases hc with h | h <;> omega
end Go.Proofs.YtpmccbkhkaoccaaDoor

