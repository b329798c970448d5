import Derived.Test.YtaoccjaaopmfdaaGreatDoorB20
import Derived.Test.YtaoccjaaopmfdaaGreatDoorB23
import Derived.Test.YtaoccjaaopmfdaaGreatDoorB04
import Derived.Test.YtaoccjaaopmfdaaGreatDoorB05
import Derived.Test.YtaoccjaaopmfdaaGreatDoorB21
import Derived.Test.YtaoccjaaopmfdaaGreatDoorB08
import Derived.Test.YtaoccjaaopmfdaaGreatDoorB07
import Derived.Test.YtaoccjaaopmfdaaGreatDoorB10
/- l4decimal of the specification: the float nearest to digits times a power of ten. -/
namespace Go.Proofs.YtaoccjaaopmfdaaGreatDoor
open Go.ChangeShapes Go.WideShapes Go.RowKit

/-- The zeros ahead are struck. -/
def Strip (s r : ByteArray) : Prop := good 10 r.data.toList ∧ valN 10 r.data.toList = valN 10 s.data.toList ∧ r.size ≤ s.size
theorem strip_step (s r : ByteArray) (h : Strip s r) (h0 : 0 < r.size) (hz : r[0].toNat = 48) : Strip s (r.extract 1 r.size) := by
  obtain ⟨h1, h2, h3⟩ := h
  have hc := text_cons r h0
  refine ⟨by rw [hc] at h1; exact good_tail h1, ?_, by have := extract_one r h0; omega⟩
  rw [← h2]
  conv => rhs; rw [hc]
  rw [valN_zero 10 _ _ hz]
theorem strip_some (s r : ByteArray) (h : Strip s r) (h0 : 0 < r.size) (hz : r[0].toNat ≠ 48) : 10 ^ (r.size - 1) ≤ valN 10 s.data.toList ∧ valN 10 s.data.toList < 10 ^ r.size := by
  obtain ⟨h1, h2, h3⟩ := h
  have hc := text_cons r h0
  have hl : (r.extract 1 r.size).data.toList.length = r.size - 1 := by
    have := extract_one r h0
    have : (r.extract 1 r.size).data.toList.length = (r.extract 1 r.size).size := by simp
    omega
  have a := valN_good_lt 10 _ h1
  rw [show r.data.toList.length = r.size by simp] at a
  have b := valN_good_ge 10 r[0] (r.extract 1 r.size).data.toList (fun h => hz ((digN_zero _).1 h))
  rw [← hc, hl] at b
  rw [← h2]
  exact ⟨b, a⟩
theorem strip_none (s r : ByteArray) (h : Strip s r) (h0 : r.size = 0) : valN 10 s.data.toList = 0 := by
  rw [← h.2.1]
  have : r.data.toList = [] := List.length_eq_zero_iff.1 (by simpa using h0)
  rw [this]; exact valN_nil 10

set_option maxHeartbeats 3200000 in
set_option maxRecDepth 100000 in
theorem l4decimal_any (s : ByteArray) (e : Int) (w : World) (hs : s.size ≤ 1300) (hg : good 10 s.data.toList) (he1 : -200000 ≤ e) (he2 : e ≤ 200000) :
    Calls Tryz.prog 60 #[.string s, .int .i64 e] w fun r w' => r = .returned (.float .f64 (decW 10 (valN 10 s.data.toList) e)) ∧ Below w.heap.size w w' := by
  have HG : Hid (Strip s s) := ⟨hg, rfl, Nat.le_refl _⟩
  obtain ⟨N, HN⟩ : ∃ N : Nat, Hid (N ≤ 1300 ∧ 1300 ≤ N) := ⟨1300, ⟨by omega, by omega⟩⟩
  clear hg
  obtain ⟨V, hV⟩ : ∃ V, V = valN 10 s.data.toList := ⟨_, rfl⟩
  rw [← hV]
  have HE : Hid (valN 10 s.data.toList = V) := hV.symm
  clear hV
  go_enter Tryz.func60, Tryz.ntmps60
  go_wp2
  go_loopw [0] (fun a wr => ∃ r : ByteArray, a = .string r ∧ Hid (Strip s r) ∧ r.size ≤ s.size ∧ wr = w) (fun a _ => (match a with | .string r => r.size | _ => 0))
  case atStart => exact ⟨s, rfl, HG, Nat.le_refl _, rfl⟩
  case round =>
    obtain ⟨r, rfl, HS, hrs, rfl⟩ := hrel
    have hr13 : r.size ≤ 1300 := by omega
    have HL : Hid _ := fun w => l4big_any r 10 w (by omega) (by omega)
    rw [HS.out.2.1, HE.out] at HL
    by_cases h0 : 0 < r.size
    · have h0' : (0 : Int) < (r.size : Int) := by omega
      by_cases hz : r[0].toNat = 48
      · have b48 : ((r[0].toNat : Int) == 48) = true := beq_iff_eq.2 (by omega)
        have HN : Hid _ := fun (_ : Unit) => strip_step s r HS.out h0 hz
        have hsz := extract_one r h0
        clear HL hz
        go_wp2
        go_roundw
        case rel => exact ⟨r.extract 1 r.size, rfl, HN.out (), by omega, by first | rfl | trivial⟩
        case measure => show (r.extract 1 r.size).size < r.size; omega
      · have b48 : ((r[0].toNat : Int) == 48) = false := beq_eq_false_iff_ne.2 (by omega)
        obtain ⟨v1, v2⟩ := strip_some s r HS.out h0 hz
        rw [HE.out] at v1 v2
        have hVp : 0 < V := Nat.lt_of_lt_of_le (Nat.pow_pos (by omega)) v1
        have HV1 : Hid _ := fun (_ : Unit) => v1
        have HV2 : Hid _ := fun (_ : Unit) => v2
        clear hz v1 v2 HS
        go_wp2_with fail
        refine (HL.out _).mono ?_
        rintro x w1 ⟨v, rfl, hb1, hv1⟩
        have HB1 : Hid (Big w1 v V) := hv1
        have HW1 : Hid (Below wr.heap.size wr w1) := hb1
        obtain ⟨ao, la, cap, rfl, l1, l2, l3⟩ := hv1.slice
        have l0 : ((la : Int) == 0) = false := beq_eq_false_iff_ne.2 (by have := l3.1; omega)
        have l5 : cap ≤ 9223372036854775807 := l2
        clear hb1 hv1 HL l2 l3
        by_cases c1 : 400 < (r.size : Int) + e
        · have HX : Hid (decW 10 V e = iw false) := dec_over V e r.size (HV1.out ()) (by omega) (by omega)
          go_wp2_with (go_at_call 91; refine (l2inf_any _).mono ?_; rintro x w' ⟨rfl, rfl⟩)
          go_ret
          exact ⟨by rw [HX.out]; rfl, HW1.out⟩
        · by_cases c2 : (r.size : Int) + e < -400
          · have HX : Hid (decW 10 V e = 0) := dec_under V e r.size hVp (HV2.out ()) (by omega)
            go_wp2
            go_ret
            exact ⟨by rw [HX.out]; rfl, HW1.out⟩
          · have d1 : decide (400 < (r.size : Int) + e) = false := decide_eq_false c1
            have d2 : decide ((r.size : Int) + e < -400) = false := decide_eq_false c2
            have HD : Hid _ := fun (_ : Unit) => dec_within V e r.size (HV1.out ()) (HV2.out ()) (by omega) (by omega) (by omega)
            have HVB : Hid (V < 4294967296 ^ N) := by
              show V < 4294967296 ^ N
              have a1 : 10 ^ r.size ≤ 4294967296 ^ r.size := Nat.pow_le_pow_left (by omega) _
              have a2 : 4294967296 ^ r.size ≤ 4294967296 ^ N := Nat.pow_le_pow_right (by have := HN.out; omega) (by have := HN.out; omega)
              exact Nat.lt_of_lt_of_le (HV2.out ()) (Nat.le_trans a1 a2)
            by_cases c3 : 0 ≤ e
            · obtain ⟨K, rfl⟩ : ∃ K : Nat, e = (K : Int) := ⟨e.toNat, by omega⟩
              have HX : Hid (decW 10 V K = ratioW (V * 10 ^ K) 1) := by
                show decW 10 V K = ratioW (V * 10 ^ K) 1
                unfold decW
                rw [if_neg (by omega), Int.toNat_natCast, show (-(K : Int)).toNat = 0 by omega, Nat.pow_zero]
              have HD' := HD.out ()
              rw [Int.toNat_natCast, show (-(K : Int)).toNat = 0 by omega, Nat.pow_zero] at HD'
              have HDD : Hid _ := fun (_ : Unit) => HD'
              have HK : Hid (10 ^ K < 4294967296 ^ (N + 500)) := Nat.lt_of_lt_of_le (pow_small 10 K (by have := HN.out; omega)) (Nat.pow_le_pow_right (by have := HN.out; omega) (by have := HN.out; omega))
              have HT : Hid (V * 10 ^ K < 4294967296 ^ (N + (N + 500))) := mul_bound HVB.out HK.out
              have HPW : Hid _ := fun (_ : Unit) => l0pow_any 10 K w1 (by omega) (by omega)
              clear HD HD'
              go_wp2_with fail
              refine (HPW.out ()).mono ?_
              rintro x w2 ⟨v2, rfl, hb2, hv2⟩
              have HTM : Hid _ := fun (_ : Unit) => l0times_any _ _ V (10 ^ K) (N + 500) w2 (HB1.out.below hb2 (Nat.le_refl _)) hv2 (Nat.lt_of_lt_of_le HVB.out (Nat.pow_le_pow_right (by have := HN.out; omega) (by have := HN.out; omega))) HK.out (by have := HN.out; omega)
              have HW2 : Hid (Below wr.heap.size wr w2) := HW1.out.trans (hb2.mono HW1.out.size)
              clear hb2 hv2 HPW
              go_wp2_with fail
              refine (HTM.out ()).mono ?_
              rintro x w3 ⟨v3, rfl, hb3, hv3⟩
              have HB3 : Hid (Big w3 v3 (V * 10 ^ K)) := hv3
              have HW3 : Hid (Below wr.heap.size wr w3) := HW2.out.trans (hb3.mono HW2.out.size)
              clear hb3 hv3 HTM
              go_wp2_with fail
              have HRT : Hid _ := fun (_ : Unit) => l4ratio_any v3 (.slice (some ⟨w3.heap.size, 0, none⟩) 1 1) (V * 10 ^ K) 1 (N + (N + 500)) (w3.alloc (.cells #[.int .u64 1] 45)) (HB3.out.below ((Below.refl _ w3).alloc (Nat.le_refl _) _) (Nat.le_refl _)) (Big.one w3 45) HT.out (Nat.one_lt_pow (by have := HN.out; omega) (by have := HN.out; omega)) (by have := HN.out; omega) (by have := HN.out; omega) (.inr (HDD.out ()))
              rw [if_neg (Nat.ne_of_gt (Nat.mul_pos hVp (Nat.pow_pos (by have := HN.out; omega))))] at HRT
              refine (HRT.out ()).mono ?_
              rintro x w4 ⟨rfl, hb4⟩
              have HW4 : Hid (Below wr.heap.size wr w4) := (HW3.out.alloc HW3.out.size _).trans (hb4.mono (by have := HW3.out.size; simp; omega))
              clear hb4 HRT
              go_wp2
              go_ret
              exact ⟨by rw [HX.out]; rfl, HW4.out⟩
            · obtain ⟨K, hK⟩ : ∃ K : Nat, -e = (K : Int) := ⟨(-e).toNat, by omega⟩
              have HX : Hid (decW 10 V e = ratioW V (10 ^ K)) := by
                show decW 10 V e = ratioW V (10 ^ K)
                unfold decW
                rw [if_neg (by omega), hK, Int.toNat_natCast, show e.toNat = 0 by omega, Nat.pow_zero, Nat.mul_one]
              have HD' := HD.out ()
              rw [hK, Int.toNat_natCast, show e.toNat = 0 by omega, Nat.pow_zero, Nat.mul_one] at HD'
              have HDD : Hid _ := fun (_ : Unit) => HD'
              have HK : Hid (10 ^ K < 4294967296 ^ (N + 500)) := Nat.lt_of_lt_of_le (pow_small 10 K (by have := HN.out; omega)) (Nat.pow_le_pow_right (by have := HN.out; omega) (by have := HN.out; omega))
              have HPW : Hid _ := fun (_ : Unit) => l0pow_any 10 K w1 (by omega) (by omega)
              have c4 : decide (0 ≤ e) = false := decide_eq_false c3
              clear HD HD' c3
              go_wp2_with fail
              refine (HPW.out ()).mono ?_
              rintro x w2 ⟨v2, rfl, hb2, hv2⟩
              have HRT : Hid _ := fun (_ : Unit) => l4ratio_any _ _ V (10 ^ K) (N + 500) w2 (HB1.out.below hb2 (Nat.le_refl _)) hv2 (Nat.lt_of_lt_of_le HVB.out (Nat.pow_le_pow_right (by have := HN.out; omega) (by have := HN.out; omega))) HK.out (by have := HN.out; omega) (Nat.pow_pos (by have := HN.out; omega)) (.inr (HDD.out ()))
              rw [if_neg (Nat.ne_of_gt hVp)] at HRT
              have HW2 : Hid (Below wr.heap.size wr w2) := HW1.out.trans (hb2.mono HW1.out.size)
              clear hb2 hv2 HPW
              go_wp2_with fail
              refine (HRT.out ()).mono ?_
              rintro x w3 ⟨rfl, hb3⟩
              have HW3 : Hid (Below wr.heap.size wr w3) := HW2.out.trans (hb3.mono HW2.out.size)
              clear hb3 HRT
              go_wp2
              go_ret
              exact ⟨by rw [HX.out]; rfl, HW3.out⟩
    · obtain hz : r.size = 0 := by omega
      have hV0 : V = 0 := by rw [← HE.out]; exact strip_none s r HS.out hz
      subst hV0
      clear HS HE
      go_wp2_with fail
      refine (HL.out _).mono ?_
      rintro x w1 ⟨v, rfl, hb1, hv1⟩
      obtain ⟨ao, la, cap, rfl, l1, l2, l3⟩ := hv1.slice
      obtain rfl : la = 0 := l3.2 rfl
      have HW1 : Hid (Below wr.heap.size wr w1) := hb1
      clear hb1 hv1 HL l2 l3
      go_wp2
      go_ret
      exact ⟨rfl, HW1.out⟩
end Go.Proofs.YtaoccjaaopmfdaaGreatDoor

/- l5value of the specification. -/
namespace Go.Proofs.YtaoccjaaopmfdaaGreatDoor
open Go.ChangeShapes Go.WideShapes Go.RowKit
open Ieee (double)

set_option maxHeartbeats 1000000 in
theorem l5value_any (ds : ByteArray) (p : Int) (hs : ds.size ≤ 1300) (hg : good 10 ds.data.toList) (hp : -100000 ≤ p) (hp2 : p ≤ 100000) (w : World) :
    Calls Tryz.prog 74 #[.agg #[.string ds, .int .i64 p]] w fun e w' => e = .returned (.float .f64 (decW 10 (valN 10 ds.data.toList) (p - (ds.size : Int)))) ∧ Below w.heap.size w w' := by
  have HD : Hid _ := fun w => l4decimal_any ds (p - (ds.size : Int)) w hs hg (by omega) (by omega)
  generalize decW 10 (valN 10 ds.data.toList) (p - (ds.size : Int)) = D at *
  have hs' : (ds.size : Int) ≤ 1300 := by omega
  clear hg
  go_enter Tryz.func74, Tryz.ntmps74
  go_wp2_with fail
  refine (HD.out _).mono ?_
  rintro e w1 ⟨rfl, hb⟩
  have HB : Hid _ := hb
  clear hb
  go_wp2
  go_ret
  exact ⟨rfl, ((Below.refl _ _).alloc (Nat.le_refl _) _).trans (HB.out.mono (by simp))⟩
end Go.Proofs.YtaoccjaaopmfdaaGreatDoor

/- l5least of the specification. -/
namespace Go.Proofs.YtaoccjaaopmfdaaGreatDoor
open Go.ChangeShapes Go.WideShapes Go.RowKit
open Ieee (double)

/-- Digits that are read as x. -/
def Rds (x : Nat) (t : ByteArray) (p : Int) : Bool := double.order (decW 10 (valN 10 t.data.toList) (p - (t.size : Int))) x == some .eq
/-- What l5least answers. -/
def LeastD (ds : ByteArray) (pow : Int) (x : Nat) (t : ByteArray) (p' : Int) : Prop := ∃ n t2 p2, 1 ≤ n ∧ n ≤ ds.size ∧ cutV ds pow n (decide (n < ds.size)) t2 p2
  ∧ (∀ k, 1 ≤ k → k < n → Rds x (padB ds k) pow = false ∧ ∀ u r, cutV ds pow k (decide (k < ds.size)) u r → Rds x u r = false)
  ∧ ((Rds x (padB ds n) pow = true ∧ (Rds x t2 p2 = true → roundsB ds (n : Int) = false) ∧ t = padB ds n ∧ p' = pow) ∨ (Rds x t2 p2 = true ∧ (Rds x (padB ds n) pow = true → roundsB ds (n : Int) = true) ∧ t = t2 ∧ p' = p2))
/-- A boxed pair of digits and their point. -/
theorem boxed (w : World) (ds : ByteArray) (p : Int) (T : Nat) : ∃ W, W = w.alloc (.cells #[.string ds, .int .i64 p] T) ∧ Below w.heap.size w W ∧ w.heap.size < W.heap.size
    ∧ W.cell? ⟨w.heap.size, 0, none⟩ = some (.string ds) ∧ W.cell? ⟨w.heap.size, 1, none⟩ = some (.int .i64 p) ∧ W.frozen? ⟨w.heap.size, 0, none⟩ = false ∧ W.frozen? ⟨w.heap.size, 1, none⟩ = false :=
  ⟨_, rfl, (Below.refl _ _).alloc (Nat.le_refl _) _, by simp, by simp [go_sem], by simp [go_sem], by simp [go_sem], by simp [go_sem]⟩

set_option maxHeartbeats 8000000 in
set_option maxRecDepth 100000 in
theorem l5least_any (x : Nat) (q : Nat) (E : Int) (hq : 0 < q) (hxq : x = fw false q E) (hself : double.order x x = some .eq) (hX : ∀ w, Calls Tryz.prog 42 #[.float .f64 x] w fun e w' =>
    ∃ ds pow, ExD ds pow q E ∧ ds.size ≤ 1100 ∧ -1100 ≤ pow ∧ pow ≤ 1100 ∧ e = .returned (.agg #[.string ds, .int .i64 pow]) ∧ Below w.heap.size w w') (w : World) :
    Calls Tryz.prog 39 #[.float .f64 x] w fun e w' => ∃ ds pow t p', ExD ds pow q E ∧ ds.size ≤ 1100 ∧ -1100 ≤ pow ∧ pow ≤ 1100 ∧ LeastD ds pow x t p' ∧ e = .returned (.agg #[.string t, .int .i64 p']) ∧ Below w.heap.size w w' := by
  have H3 : Hid _ := hX
  have HXQ : Hid (x = fw false q E ∧ double.order x x = some .eq ∧ 0 < q) := ⟨hxq, hself, hq⟩
  obtain ⟨Wr, hWr, hBr, hlr, r0, r1, g0, g1⟩ := boxed w ⟨#[]⟩ 0 70
  have HWr : Hid _ := hWr
  have HR0 : Hid _ := fun (_ : Unit) => And.intro hBr (And.intro hlr (And.intro r0 (And.intro r1 (And.intro g0 g1))))
  clear hX hWr hBr hlr r0 r1 g0 g1 hxq hself hq
  go_enter Tryz.func39, Tryz.ntmps39
  go_wp2_with fail
  rw [← HWr.out]
  refine (H3.out _).mono ?_
  rintro e w2 ⟨ds, pow, hd, hs, hp1, hp2, rfl, hb2⟩
  obtain ⟨Wd, hWd, hBd, hld, d0, d1, _, _⟩ := boxed w2 ds pow 70
  have HWd : Hid _ := hWd
  have HD : Hid _ := fun (_ : Unit) => hd
  have HRd : Hid (Below w.heap.size w Wd ∧ w.heap.size < Wd.heap.size ∧ Wd.cell? ⟨w.heap.size, 0, none⟩ = some (.string ⟨#[]⟩) ∧ Wd.cell? ⟨w.heap.size, 1, none⟩ = some (.int .i64 0) ∧ Wd.frozen? ⟨w.heap.size, 0, none⟩ = false ∧ Wd.frozen? ⟨w.heap.size, 1, none⟩ = false) := by
    obtain ⟨a1, a2, a3, a4, a5, a6⟩ := HR0.out ()
    have hb : Below Wr.heap.size Wr Wd := hb2.trans (hBd.mono hb2.size)
    exact ⟨a1.trans (hb.mono (by omega)), Nat.lt_of_lt_of_le a2 hb.size, (hb.cell (p := ⟨w.heap.size, 0, none⟩) a2).trans a3, (hb.cell (p := ⟨w.heap.size, 1, none⟩) a2).trans a4, (hb.frozen (p := ⟨w.heap.size, 0, none⟩) a2).trans a5, (hb.frozen (p := ⟨w.heap.size, 1, none⟩) a2).trans a6⟩
  have HDd : Hid _ := fun (_ : Unit) => And.intro hld (And.intro d0 d1)
  have hs1 := hd.1
  clear hd hb2 hBd hld d0 d1 hWd HR0 HWr H3
  go_wp2_with fail
  rw [← HWd.out]
  go_loopw [4] (fun vn wr => ∃ n : Nat, vn = .int .i64 (n : Int) ∧ 1 ≤ n ∧ n ≤ ds.size ∧ Hid (∀ k, 1 ≤ k → k < n → Rds x (padB ds k) pow = false ∧ ∀ u r, cutV ds pow k (decide (k < ds.size)) u r → Rds x u r = false) ∧ Hid (Below Wd.heap.size Wd wr)) (fun vn _ => ds.size + 1 - (intOf vn).toNat)
  case atStart => exact ⟨1, rfl, Nat.le_refl _, hs1, fun k h1 h2 => by omega, Below.refl _ _⟩
  case round =>
    obtain ⟨n, rfl, hn1, hn2, HN, HBn⟩ := hrel
    have hni : (n : Int) ≤ (ds.size : Int) := by omega
    have hsi : (ds.size : Int) ≤ 1100 := by omega
    have d0 : wr.cell? ⟨w2.heap.size, 0, none⟩ = some (.string ds) := (HBn.out.cell (p := ⟨w2.heap.size, 0, none⟩) (HDd.out ()).1).trans (HDd.out ()).2.1
    have d1 : wr.cell? ⟨w2.heap.size, 1, none⟩ = some (.int .i64 pow) := (HBn.out.cell (p := ⟨w2.heap.size, 1, none⟩) (HDd.out ()).1).trans (HDd.out ()).2.2
    go_wp2_with fail
    refine (l5cut_any ds pow n false hs (HD.out ()).2.1 (by omega) (by omega) (by omega) _).mono ?_
    rintro e w5 ⟨t1, p1, hc1, rfl, hb5⟩
    have e1 : t1 = padB ds n ∧ p1 = pow := by
      rcases hc1 with ⟨_, a, b⟩ | ⟨h, _⟩
      · exact ⟨a, b⟩
      · cases h
    obtain ⟨rfl, rfl⟩ := e1
    have hb5' : Below Wd.heap.size Wd w5 := HBn.out.trans (hb5.mono HBn.out.size)
    have hl5 : w2.heap.size < w5.heap.size := Nat.lt_of_lt_of_le (HDd.out ()).1 hb5'.size
    have HB5 : Hid (Below Wd.heap.size Wd w5) := hb5'
    have d05 : w5.cell? ⟨w2.heap.size, 0, none⟩ = some (.string ds) := (hb5'.cell (p := ⟨w2.heap.size, 0, none⟩) (HDd.out ()).1).trans (HDd.out ()).2.1
    have d15 : w5.cell? ⟨w2.heap.size, 1, none⟩ = some (.int .i64 p1) := (hb5'.cell (p := ⟨w2.heap.size, 1, none⟩) (HDd.out ()).1).trans (HDd.out ()).2.2
    have hps := padB_size ds n
    have HPG : Hid _ := padB_good ds n (HD.out ()).2.1
    clear hb5 hc1 d0 d1
    go_wp2_with fail
    refine (l5cut_any ds p1 n _ hs (HD.out ()).2.1 (by omega) (by omega) (by omega) _).mono ?_
    rintro e w6 ⟨t2, p2, hc2, rfl, hb6⟩
    have hz2 := cut5_size _ _ _ _ _ _ hc2
    have HC2 : Hid (cutV ds p1 n (decide (n < ds.size)) t2 p2) := hc2
    have HG2 : Hid _ := cutV_good _ _ _ _ _ _ (HD.out ()).2.1 hc2
    have hl6 : w5.heap.size < w6.heap.size := by have h := hb6.size; simp at h; omega
    have a0 := (hb6.cell (p := ⟨w5.heap.size, 0, none⟩) (by simp)).trans (by simp [go_sem] : _ = some (.string (padB ds n)))
    have a1 := (hb6.cell (p := ⟨w5.heap.size, 1, none⟩) (by simp)).trans (by simp [go_sem] : _ = some (.int .i64 p1))
    have HB6 : Hid (Below Wd.heap.size Wd w6) := (HB5.out.alloc HB5.out.size _).trans (hb6.mono (by have := HB5.out.size; simp; omega))
    clear hb6 hc2 d05 d15
    go_wp2_with fail
    refine (l5value_any (padB ds n) p1 (by omega) HPG.out (by omega) (by omega) _).mono ?_
    rintro e w7 ⟨rfl, hb7⟩
    have hl7 : w6.heap.size < w7.heap.size := by have h := hb7.size; simp at h; omega
    have HB7 : Hid (Below Wd.heap.size Wd w7) := (HB6.out.alloc HB6.out.size _).trans (hb7.mono (by have := HB6.out.size; simp; omega))
    have b0 := (hb7.cell (p := ⟨w6.heap.size, 0, none⟩) (by simp)).trans (by simp [go_sem] : _ = some (.string t2))
    have b1 := (hb7.cell (p := ⟨w6.heap.size, 1, none⟩) (by simp)).trans (by simp [go_sem] : _ = some (.int .i64 p2))
    have a07 := (hb7.cell (p := ⟨w5.heap.size, 0, none⟩) (by simp <;> omega)).trans (((Below.refl w6.heap.size w6).alloc (Nat.le_refl _) _).cell (p := ⟨w5.heap.size, 0, none⟩) hl6 |>.trans a0)
    have a17 := (hb7.cell (p := ⟨w5.heap.size, 1, none⟩) (by simp <;> omega)).trans (((Below.refl w6.heap.size w6).alloc (Nat.le_refl _) _).cell (p := ⟨w5.heap.size, 1, none⟩) hl6 |>.trans a1)
    obtain ⟨D1, hD1⟩ : ∃ D1, D1 = decW 10 (valN 10 (padB ds n).data.toList) (p1 - ((padB ds n).size : Int)) := ⟨_, rfl⟩
    obtain ⟨A, hA⟩ : ∃ A, A = Rds x (padB ds n) p1 := ⟨_, rfl⟩
    have hA' : (FloatKind.f64.format.order D1 x == some .eq) = A := by rw [hA, hD1]; rfl
    have HAE : Hid (A = Rds x (padB ds n) p1) := hA
    rw [← hD1]
    clear hb7 a0 a1 hA hD1
    go_wp2_with fail
    refine (l5value_any t2 p2 (by omega) HG2.out (by omega) (by omega) _).mono ?_
    rintro e w8 ⟨rfl, hb8⟩
    have HB8 : Hid (Below Wd.heap.size Wd w8) := HB7.out.trans (hb8.mono HB7.out.size)
    have hl8 : w7.heap.size ≤ w8.heap.size := hb8.size
    have b08 := (hb8.cell (p := ⟨w6.heap.size, 0, none⟩) hl7).trans b0
    have b18 := (hb8.cell (p := ⟨w6.heap.size, 1, none⟩) hl7).trans b1
    have hl57 : w5.heap.size < w7.heap.size := by omega
    have a08 := (hb8.cell (p := ⟨w5.heap.size, 0, none⟩) hl57).trans a07
    have a18 := (hb8.cell (p := ⟨w5.heap.size, 1, none⟩) hl57).trans a17
    have hl68 : w6.heap.size < w8.heap.size := by omega
    have hl58 : w5.heap.size < w8.heap.size := by omega
    have d08 : w8.cell? ⟨w2.heap.size, 0, none⟩ = some (.string ds) := (HB8.out.cell (p := ⟨w2.heap.size, 0, none⟩) (HDd.out ()).1).trans (HDd.out ()).2.1
    have d18 : w8.cell? ⟨w2.heap.size, 1, none⟩ = some (.int .i64 p1) := (HB8.out.cell (p := ⟨w2.heap.size, 1, none⟩) (HDd.out ()).1).trans (HDd.out ()).2.2
    obtain ⟨D2, hD2⟩ : ∃ D2, D2 = decW 10 (valN 10 t2.data.toList) (p2 - (t2.size : Int)) := ⟨_, rfl⟩
    obtain ⟨B, hB⟩ : ∃ B, B = Rds x t2 p2 := ⟨_, rfl⟩
    have hB' : (FloatKind.f64.format.order D2 x == some .eq) = B := by rw [hB, hD2]; rfl
    have HBE : Hid (B = Rds x t2 p2) := hB
    rw [← hD2]
    clear hb8 b0 b1 a07 a17 hB hD2
    obtain ⟨hRb, hRl, r0d, r1d, g0d, g1d⟩ := HRd.out
    have r0 : w8.cell? ⟨w.heap.size, 0, none⟩ = some (.string ⟨#[]⟩) := (HB8.out.cell (p := ⟨w.heap.size, 0, none⟩) hRl).trans r0d
    have r1 : w8.cell? ⟨w.heap.size, 1, none⟩ = some (.int .i64 0) := (HB8.out.cell (p := ⟨w.heap.size, 1, none⟩) hRl).trans r1d
    have g0 : w8.frozen? ⟨w.heap.size, 0, none⟩ = false := (HB8.out.frozen (p := ⟨w.heap.size, 0, none⟩) hRl).trans g0d
    have g1 : w8.frozen? ⟨w.heap.size, 1, none⟩ = false := (HB8.out.frozen (p := ⟨w.heap.size, 1, none⟩) hRl).trans g1d
    have hRl8 : w.heap.size < w8.heap.size := Nat.lt_of_lt_of_le hRl HB8.out.size
    have HRB : Hid (Below w.heap.size w w8) := hRb.trans (HB8.out.mono (by omega))
    have HROU : Hid _ := fun w => l5rounds_any ds p1 (n : Int) (by omega) (HD.out ()).2.1 w
    clear r0d r1d g0d g1d hRb
    cases A
    · cases B
      · have hend : n < ds.size := by
          apply Classical.byContradiction
          intro hge
          have hn : n = ds.size := by omega
          have hpad : padB ds n = ds := by
            unfold padB
            rw [if_neg hge, show n - ds.size = 0 by omega]
            show ds ++ ByteArray.empty = ds
            simp
          have h1 := HAE.out
          rw [hpad] at h1
          unfold Rds at h1
          rw [exD_reads ds p1 q E HXQ.out.2.2 (HD.out ()), ← HXQ.out.1, HXQ.out.2.1] at h1
          revert h1; decide
        have HN2 : Hid (∀ k, 1 ≤ k → k < n + 1 → Rds x (padB ds k) p1 = false ∧ ∀ u r, cutV ds p1 k (decide (k < ds.size)) u r → Rds x u r = false) := by
          intro k h1 h2
          by_cases hk : k < n
          · exact HN.out k h1 hk
          · obtain rfl : k = n := by omega
            refine ⟨HAE.out.symm, fun u r hu => ?_⟩
            obtain ⟨rfl, rfl⟩ := cutV_one _ _ _ _ _ _ _ _ hu HC2.out
            exact HBE.out.symm
        go_wp2
        exact ⟨⟨n + 1, rfl, by omega, by omega, HN2.out, HB8.out⟩, by simp only [intOf]; omega⟩
      · go_wp2
        refine bodyPost_ret (v := .agg #[.string t2, .int .i64 p2]) (by simp [results, Tryz.results39, go_sem, r0, r1]) rfl ⟨ds, p1, t2, p2, HD.out (), hs, hp1, hp2, ⟨n, t2, p2, hn1, hn2, HC2.out, HN.out, .inr ⟨HBE.out.symm, (fun h => by rw [← HAE.out] at h; cases h), rfl, rfl⟩⟩, rfl, (by repeat (first | exact HRB.out | with_reducible refine Below.alloc ?_ (by simp <;> omega) _ | with_reducible refine Below.setCell ?_ (by simp <;> omega) _))⟩
    · cases B
      · go_wp2
        refine bodyPost_ret (v := .agg #[.string (padB ds n), .int .i64 p1]) (by simp [results, Tryz.results39, go_sem, r0, r1]) rfl ⟨ds, p1, padB ds n, p1, HD.out (), hs, hp1, hp2, ⟨n, t2, p2, hn1, hn2, HC2.out, HN.out, .inl ⟨HAE.out.symm, (fun h => by rw [← HBE.out] at h; cases h), rfl, rfl⟩⟩, rfl, (by repeat (first | exact HRB.out | with_reducible refine Below.alloc ?_ (by simp <;> omega) _ | with_reducible refine Below.setCell ?_ (by simp <;> omega) _))⟩
      · obtain ⟨rb, hrb⟩ : ∃ rb, rb = roundsB ds (n : Int) := ⟨_, rfl⟩
        have HRBE : Hid (rb = roundsB ds (n : Int)) := hrb
        rw [← hrb] at HROU
        clear hrb
        cases rb
        · go_wp2_with (go_at_call 53; refine (HROU.out _).mono ?_; rintro e w9 ⟨rfl, rfl⟩)
          have hba := (Below.refl ((w8.setCell ⟨w.heap.size, 0, none⟩ (.string (padB ds n))).setCell ⟨w.heap.size, 1, none⟩ (.int .i64 p1)).heap.size ((w8.setCell ⟨w.heap.size, 0, none⟩ (.string (padB ds n))).setCell ⟨w.heap.size, 1, none⟩ (.int .i64 p1))).alloc (Nat.le_refl _) (.cells #[.string ds, .int .i64 p1] 70)
          have e0 := (hba.cell (p := ⟨w.heap.size, 0, none⟩) (by simpa using hRl8)).trans (by simp [go_sem, r0] : _ = some (.string (padB ds n)))
          have e1 := (hba.cell (p := ⟨w.heap.size, 1, none⟩) (by simpa using hRl8)).trans (by simp [go_sem, r1] : _ = some (.int .i64 p1))
          refine bodyPost_ret (v := .agg #[.string (padB ds n), .int .i64 p1]) (by simp [results, Tryz.results39, go_sem, e0, e1]) rfl ⟨ds, p1, padB ds n, p1, HD.out (), hs, hp1, hp2, ⟨n, t2, p2, hn1, hn2, HC2.out, HN.out, .inl ⟨HAE.out.symm, (fun _ => HRBE.out.symm), rfl, rfl⟩⟩, rfl, (by repeat (first | exact HRB.out | with_reducible refine Below.alloc ?_ (by simp <;> omega) _ | with_reducible refine Below.setCell ?_ (by simp <;> omega) _))⟩
        · go_wp2_with (go_at_call 53; refine (HROU.out _).mono ?_; rintro e w9 ⟨rfl, rfl⟩)
          have hba := (Below.refl ((w8.setCell ⟨w.heap.size, 0, none⟩ (.string t2)).setCell ⟨w.heap.size, 1, none⟩ (.int .i64 p2)).heap.size ((w8.setCell ⟨w.heap.size, 0, none⟩ (.string t2)).setCell ⟨w.heap.size, 1, none⟩ (.int .i64 p2))).alloc (Nat.le_refl _) (.cells #[.string ds, .int .i64 p1] 70)
          have e0 := (hba.cell (p := ⟨w.heap.size, 0, none⟩) (by simpa using hRl8)).trans (by simp [go_sem, r0] : _ = some (.string t2))
          have e1 := (hba.cell (p := ⟨w.heap.size, 1, none⟩) (by simpa using hRl8)).trans (by simp [go_sem, r1] : _ = some (.int .i64 p2))
          refine bodyPost_ret (v := .agg #[.string t2, .int .i64 p2]) (by simp [results, Tryz.results39, go_sem, e0, e1]) rfl ⟨ds, p1, t2, p2, HD.out (), hs, hp1, hp2, ⟨n, t2, p2, hn1, hn2, HC2.out, HN.out, .inr ⟨HBE.out.symm, (fun _ => HRBE.out.symm), rfl, rfl⟩⟩, rfl, (by repeat (first | exact HRB.out | with_reducible refine Below.alloc ?_ (by simp <;> omega) _ | with_reducible refine Below.setCell ?_ (by simp <;> omega) _))⟩
end Go.Proofs.YtaoccjaaopmfdaaGreatDoor

/- l5trim of the specification. -/
namespace Go.Proofs.YtaoccjaaopmfdaaGreatDoor
open Go.ChangeShapes Go.WideShapes Go.RowKit

/-- Zeros at the end are left out, but for one digit. -/
def TrimD (d t : ByteArray) : Prop := 0 < t.size ∧ good 10 t.data.toList ∧ ∃ j, t = d.extract 0 t.size ∧ t.size + j = d.size ∧ valN 10 d.data.toList = valN 10 t.data.toList * 10 ^ j ∧ (t.size = 1 ∨ ∀ h : t.size - 1 < t.size, t[t.size - 1].toNat ≠ 48)
/-- On the way. -/
def TrimO (d t : ByteArray) (j : Nat) : Prop := 0 < t.size ∧ good 10 t.data.toList ∧ t = d.extract 0 t.size ∧ t.size + j = d.size ∧ valN 10 d.data.toList = valN 10 t.data.toList * 10 ^ j
theorem trimO_start (d : ByteArray) (h : 0 < d.size) (hg : good 10 d.data.toList) : TrimO d d 0 := ⟨h, hg, by simp, rfl, by rw [Nat.pow_zero, Nat.mul_one]⟩
theorem trimO_next (d t : ByteArray) (j : Nat) (h : TrimO d t j) (h1 : 1 < t.size) (hz : ∀ h : t.size - 1 < t.size, t[t.size - 1].toNat = 48) : TrimO d (t.extract 0 (t.size - 1)) (j + 1) := by
  obtain ⟨a1, a2, a3, a4, a5⟩ := h
  have hs : (t.extract 0 (t.size - 1)).size = t.size - 1 := by simp
  refine ⟨by omega, ?_, ?_, by omega, ?_⟩
  · intro c hc
    exact a2 c (by rw [last_cut t a1]; exact List.mem_append_left _ hc)
  · rw [hs]
    apply ByteArray.ext
    apply Array.toList_inj.1
    have e : t.data.toList = d.data.toList.take t.size := by
      have h := congrArg (fun b : ByteArray => b.data.toList) a3
      simp only [Lib.extract_eq] at h
      simpa using h
    rw [Lib.extract_eq, Lib.extract_eq]
    simp only [List.drop_zero, Nat.sub_zero]
    rw [e, List.take_take, Nat.min_eq_left (by omega)]
  · rw [a5, valN_last t a1 (hz (by omega)), Nat.pow_succ, Nat.mul_assoc, Nat.mul_comm 10]

set_option maxHeartbeats 2000000 in
set_option maxRecDepth 100000 in
theorem l5trim_any (d : ByteArray) (p : Int) (hd : d.size ≤ 3000) (h0 : 0 < d.size) (hg : good 10 d.data.toList) (w : World) :
    Calls Tryz.prog 38 #[.agg #[.string d, .int .i64 p]] w fun e w' => ∃ t, TrimD d t ∧ e = .returned (.agg #[.string t, .int .i64 p]) ∧ Below w.heap.size w w' := by
  have HO : Hid (TrimO d d 0) := trimO_start d h0 hg
  clear hg
  go_enter Tryz.func38, Tryz.ntmps38
  go_wp2
  go_loopw [3] (fun _ wr => ∃ (t : ByteArray) (j : Nat), wr = (w.alloc (.cells #[.string t, .int .i64 p] 70)).alloc (.cells #[.string ⟨#[]⟩, .int .i64 0] 70) ∧ Hid (TrimO d t j) ∧ t.size ≤ 3000 ∧ 0 < t.size) (fun _ wr => match wr.cell? ⟨w.heap.size, 0, none⟩ with | some (.string t) => t.size | _ => 0)
  case atStart => exact ⟨d, 0, rfl, HO.out, hd, h0⟩
  case round =>
    obtain ⟨t, j, rfl, HT, hts, ht0⟩ := hrel
    have hts' : (t.size : Int) ≤ 3000 := by omega
    obtain ⟨k, hk⟩ : ∃ k, t.size = k + 1 := ⟨t.size - 1, by omega⟩
    have hk1 : t.size - 1 = k := by omega
    have hkl : k < t.size := by omega
    have hki : (t.size : Int) - 1 = (k : Int) := by omega
    by_cases h1 : 1 < t.size
    · by_cases hz : t[k].toNat = 48
      · have HN : Hid (TrimO d (t.extract 0 k) (j + 1)) := by
          have := trimO_next d t j HT.out h1 (fun _ => by simp only [hk1]; exact hz)
          rw [hk1] at this
          exact this
        have hz2 : (t[k].toNat : Int) = 48 := by omega
        have hes : (t.extract 0 k).size = k := by simp; omega
        clear hk hk1
        go_wp2
        have hm : ∀ u : ByteArray, ((w.alloc (.cells #[.string u, .int .i64 p] 70)).alloc (.cells #[.string ⟨#[]⟩, .int .i64 0] 70)).cell? ⟨w.heap.size, 0, none⟩ = some (.string u) := fun u => by simp [go_sem]
        exact ⟨⟨_, j + 1, rfl, HN.out, by omega, HN.out.1⟩, by simp only [hm]; omega⟩
      · have HX : Hid (TrimD d t) := by
          obtain ⟨a1, a2, a3, a4, a5⟩ := HT.out
          exact ⟨a1, a2, j, a3, a4, a5, .inr (fun _ => by simp only [hk1]; exact hz)⟩
        have hz2 : ((t[k].toNat : Int) == 48) = false := beq_eq_false_iff_ne.2 (by omega)
        have hz3 : ¬ (t[k].toNat : Int) = 48 := by omega
        clear hk hk1
        go_wp2
        refine bodyPost_ret (v := .agg #[.string t, .int .i64 p]) (by simp [results, Tryz.results38, go_sem]) rfl ⟨t, HX.out, rfl, (by repeat (first | with_reducible exact Below.refl _ _ | with_reducible refine Below.alloc ?_ (by simp <;> omega) _ | with_reducible refine Below.setCell ?_ (by simp <;> omega) _))⟩
    · have HX : Hid (TrimD d t) := by
        obtain ⟨a1, a2, a3, a4, a5⟩ := HT.out
        exact ⟨a1, a2, j, a3, a4, a5, .inl (by omega)⟩
      clear hk hk1
      go_wp2
      refine bodyPost_ret (v := .agg #[.string t, .int .i64 p]) (by simp [results, Tryz.results38, go_sem]) rfl ⟨t, HX.out, rfl, (by repeat (first | with_reducible exact Below.refl _ _ | with_reducible refine Below.alloc ?_ (by simp <;> omega) _ | with_reducible refine Below.setCell ?_ (by simp <;> omega) _))⟩
end Go.Proofs.YtaoccjaaopmfdaaGreatDoor

