import Derived.Test.YtoedefjngipeiaaGreatDoorA22
import Derived.Test.YtoedefjngipeiaaGreatDoorA09
/- Texts of ints: plain. -/
namespace Go.Proofs.YtoedefjngipeiaaGreatDoor
open Go.ChangeShapes Go.WideShapes Go.RowKit

/-- A number without a sign. -/
def unsig (n : Int) : Nat := (IntKind.u64.wrap n).toNat
theorem unsig_cast (n : Int) : IntKind.u64.wrap n = (unsig n : Int) := by
  unfold unsig; rw [IntKind.wrap_u64]; omega
theorem unsig_lt (n : Int) : unsig n < 18446744073709551616 := by
  unfold unsig; rw [IntKind.wrap_u64]; omega
theorem neg_unsig (n : Int) : IntKind.u64.wrap (-(IntKind.u64.wrap n)) = (unsig (-n) : Int) := by
  unfold unsig; simp only [IntKind.wrap_u64]; omega
/-- What WriteBits answers. -/
def bitsText (n b : Int) : ByteArray := if 2 ≤ b ∧ b ≤ 36 then ⟨(textOf b.toNat (unsig n)).toArray⟩ else ⟨#[]⟩
/-- What WriteInt answers. -/
def intText (n b : Int) : ByteArray := if 2 ≤ b ∧ b ≤ 36 then (if n < 0 then ⟨#[45]⟩ ++ ⟨(textOf b.toNat (unsig (-n))).toArray⟩ else ⟨(textOf b.toNat (unsig n)).toArray⟩) else ⟨#[]⟩
theorem intText_neg (n b : Int) (h : 2 ≤ b ∧ b ≤ 36) (hn : n < 0) : intText n b = ⟨#[45]⟩ ++ ⟨(textOf b.toNat (unsig (-n))).toArray⟩ := by unfold intText; rw [if_pos h, if_pos hn]
theorem intText_pos (n b : Int) (h : 2 ≤ b ∧ b ≤ 36) (hn : ¬ n < 0) : intText n b = ⟨(textOf b.toNat (unsig n)).toArray⟩ := by unfold intText; rw [if_pos h, if_neg hn]
end Go.Proofs.YtoedefjngipeiaaGreatDoor

/- l1write of the specification, at a number. -/
namespace Go.Proofs.YtoedefjngipeiaaGreatDoor
open Go.ChangeShapes Go.WideShapes Go.RowKit

theorem specDigits_at (m b : Int) (k : Nat) (hm : m = (k : Int)) (w : World) (hn : k < 18446744073709551616) (h2 : 2 ≤ b) (h36 : b ≤ 36) :
    Calls Tryz.prog 82 #[.int .u64 m, .int .i64 b] w fun e w' => e = .returned (.string ⟨(textOf b.toNat k).toArray⟩) ∧ w' = w := by
  obtain ⟨c, rfl⟩ := Int.eq_ofNat_of_zero_le (show 0 ≤ b by omega)
  subst hm
  exact specDigits_any k c w hn (by omega) (by omega)
end Go.Proofs.YtoedefjngipeiaaGreatDoor

/- WriteInt of the specification. -/
namespace Go.Proofs.YtoedefjngipeiaaGreatDoor
open Go.ChangeShapes Go.WideShapes Go.RowKit

set_option maxHeartbeats 400000 in
theorem specInt_any (n b : Int) (w : World) :
    Calls Tryz.prog 59 #[.int .i64 n, .int .i64 b] w fun e w' => e = .returned (.string (intText n b)) ∧ w' = w := by
  by_cases h : 2 ≤ b ∧ b ≤ 36
  · by_cases hn : n < 0
    · have HV : Hid (intText n b = ⟨#[45]⟩ ++ ⟨(textOf b.toNat (unsig (-n))).toArray⟩) := intText_neg n b h hn
      have HC : Hid _ := fun w => specDigits_at _ b (unsig (-n)) (neg_unsig n) w (unsig_lt (-n)) h.1 h.2
      obtain ⟨h2, h36⟩ := h
      have hl := textOf_length b.toNat (unsig (-n))
      generalize textOf b.toNat (unsig (-n)) = t at *
      go_enter Tryz.func59, Tryz.ntmps59
      go_wp2_with (go_at_call 82; refine (HC.out _).mono ?_; rintro e w' ⟨rfl, rfl⟩)
      go_ret
      exact ⟨by rw [HV.out]; rfl, rfl⟩
    · have HV : Hid (intText n b = ⟨(textOf b.toNat (unsig n)).toArray⟩) := intText_pos n b h hn
      have HC : Hid _ := fun w => specDigits_at _ b (unsig n) (unsig_cast n) w (unsig_lt n) h.1 h.2
      obtain ⟨h2, h36⟩ := h
      go_enter Tryz.func59, Tryz.ntmps59
      go_wp2_with (go_at_call 82; refine (HC.out _).mono ?_; rintro e w' ⟨rfl, rfl⟩)
      go_ret
      exact ⟨by rw [HV.out]; rfl, rfl⟩
  · have HV : Hid (intText n b = ⟨#[]⟩) := by unfold intText; exact if_neg h
    go_enter Tryz.func59, Tryz.ntmps59
    by_cases h2 : b < 2
    · clear h
      go_wp2
      go_ret
      exact ⟨by rw [HV.out]; rfl, rfl⟩
    · have h36 : 36 < b := by omega
      clear h
      go_wp2
      go_ret
      exact ⟨by rw [HV.out]; rfl, rfl⟩
end Go.Proofs.YtoedefjngipeiaaGreatDoor

/- l5science of the specification. -/
namespace Go.Proofs.YtoedefjngipeiaaGreatDoor
open Go.ChangeShapes Go.WideShapes Go.RowKit

/-- Digits with an exponent. -/
def sciB (ds : ByteArray) (pow : Int) : ByteArray := (if 1 < ds.size then ds.extract 0 1 ++ (⟨#[46]⟩ ++ ds.extract 1 ds.size) else ds.extract 0 1) ++ ⟨#[101]⟩ ++ intText (pow - 1) 10
theorem int_size (n : Int) : (intText n 10).size ≤ 70 := by
  unfold intText
  rw [if_pos (by omega)]
  have h1 : ∀ k, (⟨(textOf 10 k).toArray⟩ : ByteArray).size ≤ 64 := fun k => by
    rw [← data_len]
    exact textOf_length 10 k
  split
  · rw [append_size]
    have := h1 (unsig (-n))
    have e : (⟨#[45]⟩ : ByteArray).size = 1 := rfl
    rw [show (10 : Int).toNat = 10 from rfl]
    omega
  · have := h1 (unsig n)
    rw [show (10 : Int).toNat = 10 from rfl]
    omega
theorem sciB_size (ds : ByteArray) (pow : Int) : (sciB ds pow).size ≤ ds.size + 80 := by
  unfold sciB
  have h := int_size (pow - 1)
  have e1 : (⟨#[101]⟩ : ByteArray).size = 1 := rfl
  have e2 : (⟨#[46]⟩ : ByteArray).size = 1 := rfl
  have e3 : (ds.extract 0 1).size ≤ 1 := by simp; omega
  rw [append_size, append_size]
  split
  · have e4 : (ds.extract 1 ds.size).size = ds.size - 1 := by simp
    rw [append_size, append_size]; omega
  · omega

set_option maxHeartbeats 1000000 in
set_option maxRecDepth 100000 in
theorem l5science_any (ds : ByteArray) (p : Int) (hs : ds.size ≤ 3000) (h0 : 0 < ds.size) (hp : -100000 ≤ p) (hp2 : p ≤ 100000) (w : World) :
    Calls Tryz.prog 79 #[.agg #[.string ds, .int .i64 p]] w fun e w' => e = .returned (.string (sciB ds p)) ∧ Below w.heap.size w w' := by
  have HI : Hid _ := fun w => specInt_any (p - 1) 10 w
  have hi := int_size (p - 1)
  have hs' : (ds.size : Int) ≤ 3000 := by omega
  unfold sciB
  generalize intText (p - 1) 10 = I at *
  by_cases h1 : 1 < ds.size
  · rw [if_pos h1]
    have e4 : (ds.extract 1 ds.size).size = ds.size - 1 := by simp
    go_enter Tryz.func79, Tryz.ntmps79
    go_wp2_with (go_at_call 59; refine (HI.out _).mono ?_; rintro e w' ⟨rfl, rfl⟩)
    go_ret
    exact ⟨rfl, (Below.refl _ _).alloc (Nat.le_refl _) _⟩
  · rw [if_neg h1]
    go_enter Tryz.func79, Tryz.ntmps79
    go_wp2_with (go_at_call 59; refine (HI.out _).mono ?_; rintro e w' ⟨rfl, rfl⟩)
    go_ret
    exact ⟨rfl, (Below.refl _ _).alloc (Nat.le_refl _) _⟩
end Go.Proofs.YtoedefjngipeiaaGreatDoor

