import Derived.Test.YtpmccbkhkaoccaaGreatDoorB14
import Derived.Test.YtpmccbkhkaoccaaGreatDoorB11
import Derived.Test.YtpmccbkhkaoccaaGreatDoorB06
import Derived.Test.YtpmccbkhkaoccaaGreatDoorB07
import Derived.Test.YtpmccbkhkaoccaaGreatDoorB15
/- The fewest digits that are read as a float, as the specification finds them: plain. -/
namespace Go.Proofs.YtpmccbkhkaoccaaGreatDoor
open Ieee (double)

theorem dec_exact (V q : Nat) (e E : Int) (hV : 0 < V) (hq : 0 < q) (h : V * 10 ^ e.toNat * 2 ^ (-E).toNat = q * 2 ^ E.toNat * 10 ^ (-e).toNat) : decW 10 V e = fw false q E := by
  unfold decW
  have p2 : ∀ k, 0 < 2 ^ k := fun k => Nat.two_pow_pos k
  have p10 : ∀ k, 0 < 10 ^ k := fun k => Nat.pow_pos (by omega)
  rw [if_neg (by omega), ratioW_eq (V * 10 ^ e.toNat) (10 ^ (-e).toNat) (q * 2 ^ E.toNat) (2 ^ (-E).toNat) (Nat.mul_pos hV (p10 _)) (p10 _) (Nat.mul_pos hq (p2 _)) (p2 _) h, ratioW_fw q _ _ hq]
  rw [show ((E.toNat : Int) - ((-E).toNat : Int)) = E by omega]
/-- All digits are read as the float. -/
theorem exD_reads (ds : ByteArray) (pow : Int) (q : Nat) (E : Int) (hq : 0 < q) (h : ExD ds pow q E) : decW 10 (valN 10 ds.data.toList) (pow - (ds.size : Int)) = fw false q E := by
  obtain ⟨h0, hg, hf, _, hv⟩ := h
  have hV : 0 < valN 10 ds.data.toList := by
    have := (dec_bounds ds _ ⟨hg, rfl, hf⟩ h0).1
    have h2 : 0 < 10 ^ (ds.size - 1) := Nat.pow_pos (by omega)
    omega
  refine dec_exact _ q _ E hV hq ?_
  rw [show (-(pow - (ds.size : Int))).toNat = ((ds.size : Int) - pow).toNat by omega]
  exact hv
end Go.Proofs.YtpmccbkhkaoccaaGreatDoor

/- l1write of the specification, at a number. -/
namespace Go.Proofs.YtpmccbkhkaoccaaGreatDoor
open Go.ChangeShapes Go.WideShapes Go.RowKit

theorem specDigits_at (m b : Int) (k : Nat) (hm : m = (k : Int)) (w : World) (hn : k < 18446744073709551616) (h2 : 2 ≤ b) (h36 : b ≤ 36) :
    Calls Tryz.prog 80 #[.int .u64 m, .int .i64 b] w fun e w' => e = .returned (.string ⟨(textOf b.toNat k).toArray⟩) ∧ w' = w := by
  obtain ⟨c, rfl⟩ := Int.eq_ofNat_of_zero_le (show 0 ≤ b by omega)
  subst hm
  exact specDigits_any k c w hn (by omega) (by omega)
end Go.Proofs.YtpmccbkhkaoccaaGreatDoor

/- WriteInt of the specification. -/
namespace Go.Proofs.YtpmccbkhkaoccaaGreatDoor
open Go.ChangeShapes Go.WideShapes Go.RowKit

set_option maxHeartbeats 400000 in
theorem specInt_any (n b : Int) (w : World) :
    Calls Tryz.prog 43 #[.int .i64 n, .int .i64 b] w fun e w' => e = .returned (.string (intText n b)) ∧ w' = w := by
  by_cases h : 2 ≤ b ∧ b ≤ 36
  · by_cases hn : n < 0
    · have HV : Hid (intText n b = ⟨#[45]⟩ ++ ⟨(textOf b.toNat (unsig (-n))).toArray⟩) := intText_neg n b h hn
      have HC : Hid _ := fun w => specDigits_at _ b (unsig (-n)) (neg_unsig n) w (unsig_lt (-n)) h.1 h.2
      obtain ⟨h2, h36⟩ := h
      have hl := textOf_length b.toNat (unsig (-n))
      generalize textOf b.toNat (unsig (-n)) = t at *
      go_enter Tryz.func43, Tryz.ntmps43
      go_wp2_with (go_at_call 80; refine (HC.out _).mono ?_; rintro e w' ⟨rfl, rfl⟩)
      go_ret
      exact ⟨by rw [HV.out]; rfl, rfl⟩
    · have HV : Hid (intText n b = ⟨(textOf b.toNat (unsig n)).toArray⟩) := intText_pos n b h hn
      have HC : Hid _ := fun w => specDigits_at _ b (unsig n) (unsig_cast n) w (unsig_lt n) h.1 h.2
      obtain ⟨h2, h36⟩ := h
      go_enter Tryz.func43, Tryz.ntmps43
      go_wp2_with (go_at_call 80; refine (HC.out _).mono ?_; rintro e w' ⟨rfl, rfl⟩)
      go_ret
      exact ⟨by rw [HV.out]; rfl, rfl⟩
  · have HV : Hid (intText n b = ⟨#[]⟩) := by unfold intText; exact if_neg h
    go_enter Tryz.func43, Tryz.ntmps43
    by_cases h2 : b < 2
    · clear h
      go_wp2
      go_ret
      exact ⟨by rw [HV.out]; rfl, rfl⟩
    · have h36 : 36 < b := by omega
      clear h
      go_wp2
      go_ret
      exact ⟨by rw [HV.out]; rfl, rfl⟩
end Go.Proofs.YtpmccbkhkaoccaaGreatDoor

/- l5science of the specification. -/
namespace Go.Proofs.YtpmccbkhkaoccaaGreatDoor
open Go.ChangeShapes Go.WideShapes Go.RowKit

/-- Digits with an exponent. -/
def sciB (ds : ByteArray) (pow : Int) : ByteArray := (if 1 < ds.size then ds.extract 0 1 ++ (⟨#[46]⟩ ++ ds.extract 1 ds.size) else ds.extract 0 1) ++ ⟨#[101]⟩ ++ intText (pow - 1) 10
theorem int_size (n : Int) : (intText n 10).size ≤ 70 := by
  unfold intText
  rw [if_pos (by omega)]
  have h1 : ∀ k, (⟨(textOf 10 k).toArray⟩ : ByteArray).size ≤ 64 := fun k => by
    rw [← data_len]
    exact textOf_length 10 k
  split
  · rw [append_size]
    have := h1 (unsig (-n))
    have e : (⟨#[45]⟩ : ByteArray).size = 1 := rfl
    rw [show (10 : Int).toNat = 10 from rfl]
    omega
  · have := h1 (unsig n)
    rw [show (10 : Int).toNat = 10 from rfl]
    omega
theorem sciB_size (ds : ByteArray) (pow : Int) : (sciB ds pow).size ≤ ds.size + 80 := by
  unfold sciB
  have h := int_size (pow - 1)
  have e1 : (⟨#[101]⟩ : ByteArray).size = 1 := rfl
  have e2 : (⟨#[46]⟩ : ByteArray).size = 1 := rfl
  have e3 : (ds.extract 0 1).size ≤ 1 := by simp; omega
  rw [append_size, append_size]
  split
  · have e4 : (ds.extract 1 ds.size).size = ds.size - 1 := by simp
    rw [append_size, append_size]; omega
  · omega

set_option maxHeartbeats 1000000 in
set_option maxRecDepth 100000 in
theorem l5science_any (ds : ByteArray) (p : Int) (hs : ds.size ≤ 3000) (h0 : 0 < ds.size) (hp : -100000 ≤ p) (hp2 : p ≤ 100000) (w : World) :
    Calls Tryz.prog 41 #[.agg #[.string ds, .int .i64 p]] w fun e w' => e = .returned (.string (sciB ds p)) ∧ Below w.heap.size w w' := by
  have HI : Hid _ := fun w => specInt_any (p - 1) 10 w
  have hi := int_size (p - 1)
  have hs' : (ds.size : Int) ≤ 3000 := by omega
  unfold sciB
  generalize intText (p - 1) 10 = I at *
  by_cases h1 : 1 < ds.size
  · rw [if_pos h1]
    have e4 : (ds.extract 1 ds.size).size = ds.size - 1 := by simp
    go_enter Tryz.func41, Tryz.ntmps41
    go_wp2_with (go_at_call 43; refine (HI.out _).mono ?_; rintro e w' ⟨rfl, rfl⟩)
    go_ret
    exact ⟨rfl, (Below.refl _ _).alloc (Nat.le_refl _) _⟩
  · rw [if_neg h1]
    go_enter Tryz.func41, Tryz.ntmps41
    go_wp2_with (go_at_call 43; refine (HI.out _).mono ?_; rintro e w' ⟨rfl, rfl⟩)
    go_ret
    exact ⟨rfl, (Below.refl _ _).alloc (Nat.le_refl _) _⟩
end Go.Proofs.YtpmccbkhkaoccaaGreatDoor

