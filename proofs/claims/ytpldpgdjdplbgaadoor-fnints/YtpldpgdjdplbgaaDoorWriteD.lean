/- WriteInt and WriteBits, of the specification and of the program; their laws. -/
import Derived.Test.YtpldpgdjdplbgaaDoorWriteC
import Derived.Test.YtpldpgdjdplbgaaDoorBase
namespace Go.Proofs.YtpldpgdjdplbgaaDoor
open Go.ChangeShapes Go.WideShapes Go.RowKit

/-- A number without a sign. -/
def unsig (n : Int) : Nat := (IntKind.u64.wrap n).toNat
theorem unsig_cast (n : Int) : IntKind.u64.wrap n = (unsig n : Int) := by
  unfold unsig; rw [IntKind.wrap_u64]; omega
theorem unsig_lt (n : Int) : unsig n < 18446744073709551616 := by
  unfold unsig; rw [IntKind.wrap_u64]; omega
theorem neg_unsig (n : Int) : IntKind.u64.wrap (-(IntKind.u64.wrap n)) = (unsig (-n) : Int) := by
  unfold unsig; simp only [IntKind.wrap_u64]; omega
/-- What WriteBits answers. -/
def bitsText (n b : Int) : ByteArray := if 2 ≤ b ∧ b ≤ 36 then ⟨(textOf b.toNat (unsig n)).toArray⟩ else ⟨#[]⟩
/-- What WriteInt answers. -/
def intText (n b : Int) : ByteArray := if 2 ≤ b ∧ b ≤ 36 then (if n < 0 then ⟨#[45]⟩ ++ ⟨(textOf b.toNat (unsig (-n))).toArray⟩ else ⟨(textOf b.toNat (unsig n)).toArray⟩) else ⟨#[]⟩
theorem intText_neg (n b : Int) (h : 2 ≤ b ∧ b ≤ 36) (hn : n < 0) : intText n b = ⟨#[45]⟩ ++ ⟨(textOf b.toNat (unsig (-n))).toArray⟩ := by unfold intText; rw [if_pos h, if_pos hn]
theorem intText_pos (n b : Int) (h : 2 ≤ b ∧ b ≤ 36) (hn : ¬ n < 0) : intText n b = ⟨(textOf b.toNat (unsig n)).toArray⟩ := by unfold intText; rw [if_pos h, if_neg hn]
theorem specDigits_at (m b : Int) (k : Nat) (hm : m = (k : Int)) (w : World) (hn : k < 18446744073709551616) (h2 : 2 ≤ b) (h36 : b ≤ 36) :
    Calls Tryd.prog 19 #[.int .u64 m, .int .i64 b] w fun e w' => e = .returned (.string ⟨(textOf b.toNat k).toArray⟩) ∧ w' = w := by
  obtain ⟨c, rfl⟩ := Int.eq_ofNat_of_zero_le (show 0 ≤ b by omega)
  subst hm
  exact specDigits_any k c w hn (by omega) (by omega)
theorem implDigits_at (m b : Int) (k : Nat) (hm : m = (k : Int)) (w : World) (hn : k < 18446744073709551616) (h2 : 2 ≤ b) (h36 : b ≤ 36) (ht : Tab w) (hw : 0 < w.heap.size) :
    Calls Tryd.prog 18 #[.int .u64 m, .int .u64 b] w fun e w' => e = .returned (.string ⟨(textOf b.toNat k).toArray⟩) ∧ Below w.heap.size w w' := by
  obtain ⟨c, rfl⟩ := Int.eq_ofNat_of_zero_le (show 0 ≤ b by omega)
  subst hm
  exact implDigits_any k c w hn (by omega) (by omega) ht hw

set_option maxHeartbeats 400000 in
theorem specBits_any (n b : Int) (w : World) :
    Calls Tryd.prog 11 #[.int .i64 n, .int .i64 b] w fun e w' => e = .returned (.string (bitsText n b)) ∧ w' = w := by
  by_cases h : 2 ≤ b ∧ b ≤ 36
  · have HV : Hid (bitsText n b = ⟨(textOf b.toNat (unsig n)).toArray⟩) := by unfold bitsText; exact if_pos h
    have HC : Hid _ := fun w => specDigits_at _ b (unsig n) (unsig_cast n) w (unsig_lt n) h.1 h.2
    obtain ⟨h2, h36⟩ := h
    go_enter Tryd.func11, Tryd.ntmps11
    go_wp2_with (go_at_call 19; refine (HC.out _).mono ?_; rintro e w' ⟨rfl, rfl⟩)
    go_ret
    exact ⟨by rw [HV.out]; rfl, rfl⟩
  · have HV : Hid (bitsText n b = ⟨#[]⟩) := by unfold bitsText; exact if_neg h
    go_enter Tryd.func11, Tryd.ntmps11
    by_cases h2 : b < 2
    · clear h
      go_wp2
      go_ret
      exact ⟨by rw [HV.out]; rfl, rfl⟩
    · have h36 : 36 < b := by omega
      clear h
      go_wp2
      go_ret
      exact ⟨by rw [HV.out]; rfl, rfl⟩

set_option maxHeartbeats 400000 in
theorem specInt_any (n b : Int) (w : World) :
    Calls Tryd.prog 9 #[.int .i64 n, .int .i64 b] w fun e w' => e = .returned (.string (intText n b)) ∧ w' = w := by
  by_cases h : 2 ≤ b ∧ b ≤ 36
  · by_cases hn : n < 0
    · have HV : Hid (intText n b = ⟨#[45]⟩ ++ ⟨(textOf b.toNat (unsig (-n))).toArray⟩) := intText_neg n b h hn
      have HC : Hid _ := fun w => specDigits_at _ b (unsig (-n)) (neg_unsig n) w (unsig_lt (-n)) h.1 h.2
      obtain ⟨h2, h36⟩ := h
      have hl := textOf_length b.toNat (unsig (-n))
      generalize textOf b.toNat (unsig (-n)) = t at *
      go_enter Tryd.func9, Tryd.ntmps9
      go_wp2_with (go_at_call 19; refine (HC.out _).mono ?_; rintro e w' ⟨rfl, rfl⟩)
      go_ret
      exact ⟨by rw [HV.out]; rfl, rfl⟩
    · have HV : Hid (intText n b = ⟨(textOf b.toNat (unsig n)).toArray⟩) := intText_pos n b h hn
      have HC : Hid _ := fun w => specDigits_at _ b (unsig n) (unsig_cast n) w (unsig_lt n) h.1 h.2
      obtain ⟨h2, h36⟩ := h
      go_enter Tryd.func9, Tryd.ntmps9
      go_wp2_with (go_at_call 19; refine (HC.out _).mono ?_; rintro e w' ⟨rfl, rfl⟩)
      go_ret
      exact ⟨by rw [HV.out]; rfl, rfl⟩
  · have HV : Hid (intText n b = ⟨#[]⟩) := by unfold intText; exact if_neg h
    go_enter Tryd.func9, Tryd.ntmps9
    by_cases h2 : b < 2
    · clear h
      go_wp2
      go_ret
      exact ⟨by rw [HV.out]; rfl, rfl⟩
    · have h36 : 36 < b := by omega
      clear h
      go_wp2
      go_ret
      exact ⟨by rw [HV.out]; rfl, rfl⟩

set_option maxHeartbeats 400000 in
theorem implBits_any (n b : Int) (w : World) (ht : Tab w) (hw : 0 < w.heap.size) :
    Calls Tryd.prog 10 #[.int .i64 n, .int .i64 b] w fun e w' => e = .returned (.string (bitsText n b)) ∧ Below w.heap.size w w' := by
  have HB : Hid _ := isBase_any b
  by_cases h : 2 ≤ b ∧ b ≤ 36
  · rw [isB_yes b h.1 h.2] at HB
    have HV : Hid (bitsText n b = ⟨(textOf b.toNat (unsig n)).toArray⟩) := by unfold bitsText; exact if_pos h
    have HC : Hid _ := fun (_ : Unit) => implDigits_at _ b (unsig n) (unsig_cast n) w (unsig_lt n) h.1 h.2 ht hw
    obtain ⟨h2, h36⟩ := h
    clear ht
    go_enter Tryd.func10, Tryd.ntmps10
    go_wp2_with (go_at_call 17; refine (HB.out _).mono ?_; rintro e w' ⟨rfl, rfl⟩)
    refine (HC.out ()).mono ?_
    rintro e w1 ⟨rfl, hb⟩
    have HX : Hid _ := hb
    clear hb
    go_wp2
    go_ret
    exact ⟨by rw [HV.out]; rfl, HX.out⟩
  · rw [isB_no b (by omega)] at HB
    have HV : Hid (bitsText n b = ⟨#[]⟩) := by unfold bitsText; exact if_neg h
    clear h ht
    go_enter Tryd.func10, Tryd.ntmps10
    go_wp2_with (go_at_call 17; refine (HB.out _).mono ?_; rintro e w' ⟨rfl, rfl⟩)
    go_ret
    exact ⟨by rw [HV.out]; rfl, Below.refl _ _⟩

set_option maxHeartbeats 400000 in
theorem implInt_any (n b : Int) (w : World) (ht : Tab w) (hw : 0 < w.heap.size) :
    Calls Tryd.prog 8 #[.int .i64 n, .int .i64 b] w fun e w' => e = .returned (.string (intText n b)) ∧ Below w.heap.size w w' := by
  have HB : Hid _ := isBase_any b
  by_cases h : 2 ≤ b ∧ b ≤ 36
  · rw [isB_yes b h.1 h.2] at HB
    by_cases hn : n < 0
    · have HV : Hid (intText n b = ⟨#[45]⟩ ++ ⟨(textOf b.toNat (unsig (-n))).toArray⟩) := intText_neg n b h hn
      have HC : Hid _ := fun (_ : Unit) => implDigits_at _ b (unsig (-n)) (neg_unsig n) w (unsig_lt (-n)) h.1 h.2 ht hw
      obtain ⟨h2, h36⟩ := h
      have hl := textOf_length b.toNat (unsig (-n))
      generalize textOf b.toNat (unsig (-n)) = t at *
      clear ht
      go_enter Tryd.func8, Tryd.ntmps8
      go_wp2_with (go_at_call 17; refine (HB.out _).mono ?_; rintro e w' ⟨rfl, rfl⟩)
      refine (HC.out ()).mono ?_
      rintro e w1 ⟨rfl, hb⟩
      have HX : Hid _ := hb
      clear hb
      go_wp2
      go_ret
      exact ⟨by rw [HV.out]; rfl, HX.out⟩
    · have HV : Hid (intText n b = ⟨(textOf b.toNat (unsig n)).toArray⟩) := intText_pos n b h hn
      have HC : Hid _ := fun (_ : Unit) => implDigits_at _ b (unsig n) (unsig_cast n) w (unsig_lt n) h.1 h.2 ht hw
      obtain ⟨h2, h36⟩ := h
      clear ht
      go_enter Tryd.func8, Tryd.ntmps8
      go_wp2_with (go_at_call 17; refine (HB.out _).mono ?_; rintro e w' ⟨rfl, rfl⟩)
      refine (HC.out ()).mono ?_
      rintro e w1 ⟨rfl, hb⟩
      have HX : Hid _ := hb
      clear hb
      go_wp2
      go_ret
      exact ⟨by rw [HV.out]; rfl, HX.out⟩
  · rw [isB_no b (by omega)] at HB
    have HV : Hid (intText n b = ⟨#[]⟩) := by unfold intText; exact if_neg h
    clear h ht
    go_enter Tryd.func8, Tryd.ntmps8
    go_wp2_with (go_at_call 17; refine (HB.out _).mono ?_; rintro e w' ⟨rfl, rfl⟩)
    go_ret
    exact ⟨by rw [HV.out]; rfl, Below.refl _ _⟩

set_option maxHeartbeats 400000 in
theorem lawBits_any (n b : Int) (w : World) (ht : Tab w) (hw : 0 < w.heap.size) :
    Calls Tryd.prog 5 #[.int .i64 n, .int .i64 b] w fun e w' => e = .returned (.bool true) ∧ Below w.heap.size w w' := by
  have H1 : Hid _ := specBits_any n b
  have H2 : Hid _ := fun (_ : Unit) => implBits_any n b w ht hw
  generalize bitsText n b = s at *
  clear ht hw
  go_enter Tryd.func5, Tryd.ntmps5
  go_wp2_with fail
  refine (H1.out _).mono ?_
  rintro e w1 ⟨rfl, rfl⟩
  go_wp2_with fail
  refine (H2.out ()).mono ?_
  rintro e w2 ⟨rfl, hb⟩
  have HX : Hid _ := hb
  clear hb
  go_wp2
  go_ret
  exact ⟨rfl, HX.out⟩

set_option maxHeartbeats 400000 in
theorem lawInt_any (n b : Int) (w : World) (ht : Tab w) (hw : 0 < w.heap.size) :
    Calls Tryd.prog 4 #[.int .i64 n, .int .i64 b] w fun e w' => e = .returned (.bool true) ∧ Below w.heap.size w w' := by
  have H1 : Hid _ := specInt_any n b
  have H2 : Hid _ := fun (_ : Unit) => implInt_any n b w ht hw
  generalize intText n b = s at *
  clear ht hw
  go_enter Tryd.func4, Tryd.ntmps4
  go_wp2_with fail
  refine (H1.out _).mono ?_
  rintro e w1 ⟨rfl, rfl⟩
  go_wp2_with fail
  refine (H2.out ()).mono ?_
  rintro e w2 ⟨rfl, hb⟩
  have HX : Hid _ := hb
  clear hb
  go_wp2
  go_ret
  exact ⟨rfl, HX.out⟩
end Go.Proofs.YtpldpgdjdplbgaaDoor
