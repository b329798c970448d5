import Derived.Test.YtaoccjaaopmfdaaDoorRows
import Derived.WalkKit
import Derived.WalkSpells
import Derived.WalkLawsBesides
import Derived.Test.YtaoccjaaopmfdaaDoorA21
/- isBase. -/
namespace Go.Proofs.YtaoccjaaopmfdaaDoor
open Go.ChangeShapes Go.WideShapes Go.RowKit

/-- Is it a base? (no abbreviation: the walk shall not open it) -/
def isB (b : Int) : Bool := decide (2 ≤ b ∧ b ≤ 36)
theorem isB_yes (b : Int) (h2 : 2 ≤ b) (h36 : b ≤ 36) : isB b = true := decide_eq_true ⟨h2, h36⟩
theorem isB_no (b : Int) (h : b < 2 ∨ 36 < b) : isB b = false := decide_eq_false (by omega)

set_option maxHeartbeats 400000 in
theorem isBase_any (b : Int) (w : World) :
    Calls Tryd.prog 105 #[.int .i64 b] w fun e w' => e = .returned (.bool (isB b)) ∧ w' = w := by
  by_cases h1 : 2 ≤ b
  · by_cases h2 : b ≤ 36
    · rw [isB_yes b h1 h2]
      go_enter Tryd.func105, Tryd.ntmps105
      go_wp2
      go_ret
      exact ⟨by simp, rfl⟩
    · rw [isB_no b (by omega)]
      go_enter Tryd.func105, Tryd.ntmps105
      go_wp2
      go_ret
      exact ⟨by simp, rfl⟩
  · rw [isB_no b (by omega)]
    go_enter Tryd.func105, Tryd.ntmps105
    go_wp2
    go_ret
    exact ⟨by simp, rfl⟩
end Go.Proofs.YtaoccjaaopmfdaaDoor

/- Texts of ints: plain. -/
namespace Go.Proofs.YtaoccjaaopmfdaaDoor
open Go.ChangeShapes Go.WideShapes Go.RowKit

/-- A number without a sign. -/
def unsig (n : Int) : Nat := (IntKind.u64.wrap n).toNat
theorem unsig_cast (n : Int) : IntKind.u64.wrap n = (unsig n : Int) := by
  unfold unsig; rw [IntKind.wrap_u64]; omega
theorem unsig_lt (n : Int) : unsig n < 18446744073709551616 := by
  unfold unsig; rw [IntKind.wrap_u64]; omega
theorem neg_unsig (n : Int) : IntKind.u64.wrap (-(IntKind.u64.wrap n)) = (unsig (-n) : Int) := by
  unfold unsig; simp only [IntKind.wrap_u64]; omega
/-- What WriteBits answers. -/
def bitsText (n b : Int) : ByteArray := if 2 ≤ b ∧ b ≤ 36 then ⟨(textOf b.toNat (unsig n)).toArray⟩ else ⟨#[]⟩
/-- What WriteInt answers. -/
def intText (n b : Int) : ByteArray := if 2 ≤ b ∧ b ≤ 36 then (if n < 0 then ⟨#[45]⟩ ++ ⟨(textOf b.toNat (unsig (-n))).toArray⟩ else ⟨(textOf b.toNat (unsig n)).toArray⟩) else ⟨#[]⟩
theorem intText_neg (n b : Int) (h : 2 ≤ b ∧ b ≤ 36) (hn : n < 0) : intText n b = ⟨#[45]⟩ ++ ⟨(textOf b.toNat (unsig (-n))).toArray⟩ := by unfold intText; rw [if_pos h, if_pos hn]
theorem intText_pos (n b : Int) (h : 2 ≤ b ∧ b ≤ 36) (hn : ¬ n < 0) : intText n b = ⟨(textOf b.toNat (unsig n)).toArray⟩ := by unfold intText; rw [if_pos h, if_neg hn]
end Go.Proofs.YtaoccjaaopmfdaaDoor

/- WriteInt of the program. -/
namespace Go.Proofs.YtaoccjaaopmfdaaDoor
open Go.ChangeShapes Go.WideShapes Go.RowKit

theorem implDigits_at (m b : Int) (k : Nat) (hm : m = (k : Int)) (w : World) (hn : k < 18446744073709551616) (h2 : 2 ≤ b) (h36 : b ≤ 36) (ht : Tab w) (hw : 1 < w.heap.size) :
    Calls Tryd.prog 106 #[.int .u64 m, .int .u64 b] w fun e w' => e = .returned (.string ⟨(textOf b.toNat k).toArray⟩) ∧ Below w.heap.size w w' := by
  obtain ⟨c, rfl⟩ := Int.eq_ofNat_of_zero_le (show 0 ≤ b by omega)
  subst hm
  exact implDigits_any k c w hn (by omega) (by omega) ht hw

set_option maxHeartbeats 400000 in
theorem implInt_any (n b : Int) (w : World) (ht : Tab w) (hw : 1 < w.heap.size) :
    Calls Tryd.prog 104 #[.int .i64 n, .int .i64 b] w fun e w' => e = .returned (.string (intText n b)) ∧ Below w.heap.size w w' := by
  have HB : Hid _ := isBase_any b
  by_cases h : 2 ≤ b ∧ b ≤ 36
  · rw [isB_yes b h.1 h.2] at HB
    by_cases hn : n < 0
    · have HV : Hid (intText n b = ⟨#[45]⟩ ++ ⟨(textOf b.toNat (unsig (-n))).toArray⟩) := intText_neg n b h hn
      have HC : Hid _ := fun (_ : Unit) => implDigits_at _ b (unsig (-n)) (neg_unsig n) w (unsig_lt (-n)) h.1 h.2 ht hw
      obtain ⟨h2, h36⟩ := h
      have hl := textOf_length b.toNat (unsig (-n))
      generalize textOf b.toNat (unsig (-n)) = t at *
      clear ht
      go_enter Tryd.func104, Tryd.ntmps104
      go_wp2_with (go_at_call 105; refine (HB.out _).mono ?_; rintro e w' ⟨rfl, rfl⟩)
      refine (HC.out ()).mono ?_
      rintro e w1 ⟨rfl, hb⟩
      have HX : Hid _ := hb
      clear hb
      go_wp2
      go_ret
      exact ⟨by rw [HV.out]; rfl, HX.out⟩
    · have HV : Hid (intText n b = ⟨(textOf b.toNat (unsig n)).toArray⟩) := intText_pos n b h hn
      have HC : Hid _ := fun (_ : Unit) => implDigits_at _ b (unsig n) (unsig_cast n) w (unsig_lt n) h.1 h.2 ht hw
      obtain ⟨h2, h36⟩ := h
      clear ht
      go_enter Tryd.func104, Tryd.ntmps104
      go_wp2_with (go_at_call 105; refine (HB.out _).mono ?_; rintro e w' ⟨rfl, rfl⟩)
      refine (HC.out ()).mono ?_
      rintro e w1 ⟨rfl, hb⟩
      have HX : Hid _ := hb
      clear hb
      go_wp2
      go_ret
      exact ⟨by rw [HV.out]; rfl, HX.out⟩
  · rw [isB_no b (by omega)] at HB
    have HV : Hid (intText n b = ⟨#[]⟩) := by unfold intText; exact if_neg h
    clear h ht
    go_enter Tryd.func104, Tryd.ntmps104
    go_wp2_with (go_at_call 105; refine (HB.out _).mono ?_; rintro e w' ⟨rfl, rfl⟩)
    go_ret
    exact ⟨by rw [HV.out]; rfl, Below.refl _ _⟩

end Go.Proofs.YtaoccjaaopmfdaaDoor

