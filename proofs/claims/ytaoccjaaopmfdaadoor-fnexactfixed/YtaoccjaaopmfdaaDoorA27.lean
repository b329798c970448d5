import Derived.Test.YtaoccjaaopmfdaaDoorA26
import Derived.Test.YtaoccjaaopmfdaaDoorA11
import Derived.Test.YtaoccjaaopmfdaaDoorA15
import Derived.Test.YtaoccjaaopmfdaaDoorA21
import Derived.Test.YtaoccjaaopmfdaaDoorA22
/- What Fixed answers: plain. -/
namespace Go.Proofs.YtaoccjaaopmfdaaDoor
open Go.RowKit

/-- Zeros ahead of digits whose point stands ahead of them. -/
def fxD (ds : ByteArray) (p : Int) : ByteArray := if p < 1 then zerosB (1 - p).toNat ++ ds else ds
def fxP (p : Int) : Int := if p < 1 then 1 else p
/-- Zeros behind. -/
def fxE (ds : ByteArray) (p : Int) (k : Nat) : ByteArray := if (ds.size : Int) < p + k then ds ++ zerosB (p + k - (ds.size : Int)).toNat else ds
/-- The digits with so many places behind the point. -/
def fixB (ds : ByteArray) (p : Int) (k : Nat) : ByteArray :=
  if k = 0 then (fxE (fxD ds p) (fxP p) k).extract 0 (fxP p).toNat
  else (fxE (fxD ds p) (fxP p) k).extract 0 (fxP p).toNat ++ ⟨#[46]⟩ ++ (fxE (fxD ds p) (fxP p) k).extract (fxP p).toNat ((fxP p).toNat + k)
/-- The digits of a number, cut so far behind the point. -/
def FixD (ds : ByteArray) (pow : Int) (k : Nat) (t : ByteArray) (p : Int) : Prop :=
  (pow + k < 0 ∧ t = ⟨#[]⟩ ∧ p = 1) ∨ (0 ≤ pow + k ∧ cutV ds pow (pow + k).toNat (roundsB ds (pow + k)) t p)
theorem fixD_one {ds : ByteArray} {pow : Int} {k : Nat} {t t' : ByteArray} {p p' : Int} (h : FixD ds pow k t p) (h' : FixD ds pow k t' p') : t = t' ∧ p = p' := by
  rcases h with ⟨a, rfl, rfl⟩ | ⟨a, c⟩ <;> rcases h' with ⟨b, rfl, rfl⟩ | ⟨b, c'⟩
  · exact ⟨rfl, rfl⟩
  · omega
  · omega
  · exact cutV_one _ _ _ _ _ _ _ _ c c'
theorem fxD_size (ds : ByteArray) (p : Int) : (fxD ds p).size = (if p < 1 then (1 - p).toNat + ds.size else ds.size) := by
  unfold fxD
  split
  · rw [append_size, zerosB_size]
  · rfl
theorem fxE_size (ds : ByteArray) (p : Int) (k : Nat) : p + k ≤ ((fxE ds p k).size : Int) ∧ (fxE ds p k).size ≤ ds.size + (p + k).toNat := by
  unfold fxE
  split
  · rw [append_size, zerosB_size]; omega
  · omega
end Go.Proofs.YtaoccjaaopmfdaaDoor

/- l1write of the specification, at a number. -/
namespace Go.Proofs.YtaoccjaaopmfdaaDoor
open Go.ChangeShapes Go.WideShapes Go.RowKit

theorem specDigits_at (m b : Int) (k : Nat) (hm : m = (k : Int)) (w : World) (hn : k < 18446744073709551616) (h2 : 2 ≤ b) (h36 : b ≤ 36) :
    Calls Tryd.prog 48 #[.int .u64 m, .int .i64 b] w fun e w' => e = .returned (.string ⟨(textOf b.toNat k).toArray⟩) ∧ w' = w := by
  obtain ⟨c, rfl⟩ := Int.eq_ofNat_of_zero_le (show 0 ≤ b by omega)
  subst hm
  exact specDigits_any k c w hn (by omega) (by omega)
end Go.Proofs.YtaoccjaaopmfdaaDoor

/- WriteInt of the specification. -/
namespace Go.Proofs.YtaoccjaaopmfdaaDoor
open Go.ChangeShapes Go.WideShapes Go.RowKit

set_option maxHeartbeats 400000 in
theorem specInt_any (n b : Int) (w : World) :
    Calls Tryd.prog 29 #[.int .i64 n, .int .i64 b] w fun e w' => e = .returned (.string (intText n b)) ∧ w' = w := by
  by_cases h : 2 ≤ b ∧ b ≤ 36
  · by_cases hn : n < 0
    · have HV : Hid (intText n b = ⟨#[45]⟩ ++ ⟨(textOf b.toNat (unsig (-n))).toArray⟩) := intText_neg n b h hn
      have HC : Hid _ := fun w => specDigits_at _ b (unsig (-n)) (neg_unsig n) w (unsig_lt (-n)) h.1 h.2
      obtain ⟨h2, h36⟩ := h
      have hl := textOf_length b.toNat (unsig (-n))
      generalize textOf b.toNat (unsig (-n)) = t at *
      go_enter Tryd.func29, Tryd.ntmps29
      go_wp2_with (go_at_call 48; refine (HC.out _).mono ?_; rintro e w' ⟨rfl, rfl⟩)
      go_ret
      exact ⟨by rw [HV.out]; rfl, rfl⟩
    · have HV : Hid (intText n b = ⟨(textOf b.toNat (unsig n)).toArray⟩) := intText_pos n b h hn
      have HC : Hid _ := fun w => specDigits_at _ b (unsig n) (unsig_cast n) w (unsig_lt n) h.1 h.2
      obtain ⟨h2, h36⟩ := h
      go_enter Tryd.func29, Tryd.ntmps29
      go_wp2_with (go_at_call 48; refine (HC.out _).mono ?_; rintro e w' ⟨rfl, rfl⟩)
      go_ret
      exact ⟨by rw [HV.out]; rfl, rfl⟩
  · have HV : Hid (intText n b = ⟨#[]⟩) := by unfold intText; exact if_neg h
    go_enter Tryd.func29, Tryd.ntmps29
    by_cases h2 : b < 2
    · clear h
      go_wp2
      go_ret
      exact ⟨by rw [HV.out]; rfl, rfl⟩
    · have h36 : 36 < b := by omega
      clear h
      go_wp2
      go_ret
      exact ⟨by rw [HV.out]; rfl, rfl⟩
end Go.Proofs.YtaoccjaaopmfdaaDoor

