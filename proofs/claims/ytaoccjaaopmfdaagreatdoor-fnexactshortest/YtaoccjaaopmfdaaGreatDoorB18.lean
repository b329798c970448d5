import Derived.Test.YtaoccjaaopmfdaaGreatDoorB07
import Derived.Test.YtaoccjaaopmfdaaGreatDoorB10
import Derived.Test.YtaoccjaaopmfdaaGreatDoorB17
import Derived.Deep.RegionWith
/- l5plain of the specification: with a point inside. -/
namespace Go.Proofs.YtaoccjaaopmfdaaGreatDoor
open Go.ChangeShapes Go.WideShapes Go.RowKit

set_option maxHeartbeats 1000000 in
set_option maxRecDepth 100000 in
theorem l5plain_mid (ds : ByteArray) (k : Nat) (hs : ds.size ≤ 1100) (hk : 0 < k) (hk2 : k < ds.size) (w : World) :
    Calls Tryz.prog 40 #[.agg #[.string ds, .int .i64 (k : Int)]] w fun e w' => e = .returned (.string (ds.extract 0 k ++ dotB ++ ds.extract k ds.size)) ∧ Below w.heap.size w w' := by
  have hs' : (ds.size : Int) ≤ 1100 := by omega
  go_enter Tryz.func40, Tryz.ntmps40
  go_wp2
  go_quiet (fail)
  go_wp2
  go_ret
  exact ⟨rfl, below_drewN ((Below.refl _ _).alloc (Nat.le_refl _) _) _⟩
end Go.Proofs.YtaoccjaaopmfdaaGreatDoor

/- l5plain of the specification. -/
namespace Go.Proofs.YtaoccjaaopmfdaaGreatDoor
open Go.ChangeShapes Go.WideShapes Go.RowKit

theorem zeros_int (x : Int) (h0 : 0 ≤ x) (h1 : x ≤ 100000) (w : World) : Calls Tryz.prog 54 #[.int .i64 x] w fun e w' => e = .returned (.string (zerosB x.toNat)) ∧ w' = w.alloc (.cells (tcells (zerosL x.toNat) x.toNat).toArray 5) := by
  have := l5zeros_at x.toNat (by omega) w
  rw [Int.toNat_of_nonneg h0] at this
  exact this

set_option maxHeartbeats 4000000 in
set_option maxRecDepth 100000 in
theorem l5plain_low (ds : ByteArray) (p : Int) (hs : ds.size ≤ 1100) (hp : p ≤ 0) (hp2 : -1100 ≤ p) (w : World) :
    Calls Tryz.prog 40 #[.agg #[.string ds, .int .i64 p]] w fun e w' => e = .returned (.string (⟨#[48, 46]⟩ ++ zerosB (-p).toNat ++ ds)) ∧ Below w.heap.size w w' := by
  have HZ : Hid (∀ w, Calls Tryz.prog 54 #[.int .i64 (IntKind.i64.wrap (-p))] w fun e w' => e = .returned (.string (zerosB (-p).toNat)) ∧ w' = w.alloc (.cells (tcells (zerosL (-p).toNat) (-p).toNat).toArray 5)) := fun w => by
    rw [show IntKind.i64.wrap (-p) = -p by rw [IntKind.wrap_i64]; omega]
    exact zeros_int (-p) (by omega) (by omega) w
  have hzs : ((zerosB (-p).toNat).size : Int) ≤ 1100 := by rw [zerosB_size]; omega
  have hs' : (ds.size : Int) ≤ 1100 := by omega
  generalize zerosB (-p).toNat = Z at *
  generalize (tcells (zerosL (-p).toNat) (-p).toNat).toArray = C at *
  clear hs
  go_enter Tryz.func40, Tryz.ntmps40
  go_wp2
  go_region_with (go_at_call 54; refine (HZ.out _).mono ?_; rintro e w' ⟨rfl, rfl⟩)
  all_goals
    go_wp2
    go_ret
    exact ⟨rfl, (by repeat (first | with_reducible exact Below.refl _ _ | with_reducible refine Below.alloc ?_ (by simp <;> omega) _ | with_reducible refine Below.drew ?_ | with_reducible refine below_drewN ?_ _ | with_reducible refine Below.setCell ?_ (by simp <;> omega) _))⟩
set_option maxHeartbeats 4000000 in
set_option maxRecDepth 100000 in
theorem l5plain_high (ds : ByteArray) (p : Int) (hs : ds.size ≤ 1100) (hp : (ds.size : Int) ≤ p) (hp0 : 0 < p) (hp2 : p ≤ 1100) (w : World) :
    Calls Tryz.prog 40 #[.agg #[.string ds, .int .i64 p]] w fun e w' => e = .returned (.string (ds ++ zerosB (p.toNat - ds.size))) ∧ Below w.heap.size w w' := by
  have HZ : Hid (∀ w, Calls Tryz.prog 54 #[.int .i64 (IntKind.i64.wrap (p - (ds.size : Int)))] w fun e w' => e = .returned (.string (zerosB (p.toNat - ds.size))) ∧ w' = w.alloc (.cells (tcells (zerosL (p.toNat - ds.size)) (p.toNat - ds.size)).toArray 5)) := fun w => by
    rw [show IntKind.i64.wrap (p - (ds.size : Int)) = p - (ds.size : Int) by rw [IntKind.wrap_i64]; omega]
    have := zeros_int (p - (ds.size : Int)) (by omega) (by omega) w
    rw [show (p - (ds.size : Int)).toNat = p.toNat - ds.size by omega] at this
    exact this
  have hzs : ((zerosB (p.toNat - ds.size)).size : Int) ≤ 1100 := by rw [zerosB_size]; omega
  have hs' : (ds.size : Int) ≤ 1100 := by omega
  generalize zerosB (p.toNat - ds.size) = Z at *
  generalize (tcells (zerosL (p.toNat - ds.size)) (p.toNat - ds.size)).toArray = C at *
  clear hs
  go_enter Tryz.func40, Tryz.ntmps40
  go_wp2
  go_region_with (go_at_call 54; refine (HZ.out _).mono ?_; rintro e w' ⟨rfl, rfl⟩)
  all_goals
    go_wp2
    go_ret
    exact ⟨rfl, (by repeat (first | with_reducible exact Below.refl _ _ | with_reducible refine Below.alloc ?_ (by simp <;> omega) _ | with_reducible refine Below.drew ?_ | with_reducible refine below_drewN ?_ _ | with_reducible refine Below.setCell ?_ (by simp <;> omega) _))⟩
theorem l5plain_any (ds : ByteArray) (p : Int) (hs : ds.size ≤ 1100) (hp : -1100 ≤ p) (hp2 : p ≤ 1100) (w : World) :
    Calls Tryz.prog 40 #[.agg #[.string ds, .int .i64 p]] w fun e w' => e = .returned (.string (plainB ds p)) ∧ Below w.heap.size w w' := by
  unfold plainB
  by_cases h1 : p ≤ 0
  · rw [if_pos h1]; exact l5plain_low ds p hs h1 hp w
  · rw [if_neg h1]
    by_cases h2 : (ds.size : Int) ≤ p
    · rw [if_pos h2]; exact l5plain_high ds p hs h2 (by omega) hp2 w
    · rw [if_neg h2]
      have := l5plain_mid ds p.toNat hs (by omega) (by omega) w
      rw [Int.toNat_of_nonneg (by omega)] at this
      exact this
end Go.Proofs.YtaoccjaaopmfdaaGreatDoor

/- Exact of the specification. -/
namespace Go.Proofs.YtaoccjaaopmfdaaGreatDoor
open Go.ChangeShapes Go.WideShapes Go.RowKit
open Ieee (double)


set_option maxHeartbeats 1000000 in
theorem exact_nan (x : Nat) (hx : IsNan x) (w : World) :
    Calls Tryz.prog 12 #[.float .f64 x] w fun e w' => e = .returned (.string ⟨#[110, 97, 110]⟩) ∧ Below w.heap.size w w' := by
  have H1 : Hid _ := fun w => l5size_nan x hx w
  have H2 : Hid _ := fun w => l5odd_nan x hx w
  clear hx
  go_enter Tryz.func12, Tryz.ntmps12
  go_wp2_with fail
  refine (H1.out _).mono ?_
  rintro e w1 ⟨rfl, rfl⟩
  go_wp2_with fail
  refine (H2.out _).mono ?_
  rintro e w1 ⟨rfl, rfl⟩
  go_wp2
  go_ret
  exact ⟨rfl, Below.refl _ _⟩
set_option maxHeartbeats 1000000 in
theorem exact_odd (s : Bool) (r : Nat) (t : ByteArray) (hr : r ≤ 9218868437227405312) (ht : t.size ≤ 10) (hO : ∀ w, Calls Tryz.prog 37 #[.float .f64 r] w fun e w' => e = .returned (.tuple #[.string t, .bool true]) ∧ w' = w) (w : World) :
    Calls Tryz.prog 12 #[.float .f64 (signBit s + r)] w fun e w' => e = .returned (.string (sgnB s ++ t)) ∧ Below w.heap.size w w' := by
  have H1 : Hid _ := fun w => l5size_any s r hr w
  have H2 : Hid _ := hO
  have z3 := sgnB_size s
  generalize sgnB s = S at *
  generalize signBit s + r = X at *
  clear hO hr
  go_enter Tryz.func12, Tryz.ntmps12
  go_wp2_with fail
  refine (H1.out _).mono ?_
  rintro e w1 ⟨rfl, rfl⟩
  go_wp2_with fail
  refine (H2.out _).mono ?_
  rintro e w1 ⟨rfl, rfl⟩
  go_wp2
  go_ret
  exact ⟨rfl, Below.refl _ _⟩
set_option maxHeartbeats 1000000 in
theorem exact_num (s : Bool) (r : Nat) (q : Nat) (E : Int) (hr : r < 9218868437227405312) (hr0 : r ≠ 0) (hX : ∀ w, Calls Tryz.prog 42 #[.float .f64 r] w fun e w' =>
    ∃ ds pow, ExD ds pow q E ∧ ds.size ≤ 1100 ∧ -1100 ≤ pow ∧ pow ≤ 1100 ∧ e = .returned (.agg #[.string ds, .int .i64 pow]) ∧ Below w.heap.size w w') (w : World) :
    Calls Tryz.prog 12 #[.float .f64 (signBit s + r)] w fun e w' => ∃ ds pow, ExD ds pow q E ∧ (sgnB s ++ plainB ds pow).size ≤ 3100 ∧ e = .returned (.string (sgnB s ++ plainB ds pow)) ∧ Below w.heap.size w w' := by
  have H1 : Hid _ := fun w => l5size_any s r (by omega) w
  have H2 : Hid (∀ w, Calls Tryz.prog 37 #[.float .f64 r] w fun e w' => e = .returned (.tuple #[.string ⟨#[48]⟩, .bool false]) ∧ w' = w) := fun w => by
    have := l5odd_num r hr w
    rw [decide_eq_false hr0] at this
    exact this
  have H3 : Hid _ := hX
  have z3 := sgnB_size s
  generalize sgnB s = S at *
  generalize signBit s + r = X at *
  clear hX hr hr0
  go_enter Tryz.func12, Tryz.ntmps12
  go_wp2_with fail
  refine (H1.out _).mono ?_
  rintro e w1 ⟨rfl, rfl⟩
  go_wp2_with fail
  refine (H2.out _).mono ?_
  rintro e w1 ⟨rfl, rfl⟩
  go_wp2_with fail
  refine (H3.out _).mono ?_
  rintro e w2 ⟨ds, pow, hd, hs, hp1, hp2, rfl, hb⟩
  have HD : Hid _ := fun (_ : Unit) => And.intro hd hb
  have HPL : Hid _ := fun w => l5plain_any ds pow hs hp1 hp2 w
  have hsz := plainB_size ds pow hs hp1 hp2
  clear hd hb
  obtain ⟨P, hP⟩ : ∃ P, P = plainB ds pow := ⟨_, rfl⟩
  rw [← hP] at hsz HPL
  have HPE : Hid (P = plainB ds pow) := hP
  clear hP
  go_wp2_with fail
  refine (HPL.out _).mono ?_
  rintro e w3 ⟨rfl, hb3⟩
  have HB3 : Hid (Below _ _ w3) := (HD.out ()).2.trans (hb3.mono (HD.out ()).2.size)
  clear hb3
  go_wp2
  go_ret
  exact ⟨ds, pow, (HD.out ()).1, by rw [← HPE.out, append_size]; omega, by rw [← HPE.out]; rfl, HB3.out⟩
/-- What Exact answers. -/
def exactV (x : Nat) (t : ByteArray) : Prop := (IsNan x ∧ t = ⟨#[110, 97, 110]⟩) ∨ (∃ s, x = iw s ∧ t = sgnB s ++ ⟨#[105, 110, 102]⟩) ∨ (∃ s, x = signBit s ∧ t = sgnB s ++ ⟨#[48]⟩)
  ∨ (∃ (s : Bool) (n : Nat) (p : Int) (q k : Nat) (ds : ByteArray) (pow : Int), Canon n p ∧ 0 < n ∧ x = fw s n p ∧ n = q * 2 ^ k ∧ q % 2 = 1 ∧ ExD ds pow q (p + k) ∧ t = sgnB s ++ plainB ds pow)
theorem specExact_any (x : Nat) (hx : x < 18446744073709551616) (w : World) :
    Calls Tryz.prog 12 #[.float .f64 x] w fun e w' => ∃ t, exactV x t ∧ t.size ≤ 3100 ∧ e = .returned (.string t) ∧ Below w.heap.size w w' := by
  rcases float_cases x hx with h | ⟨s, rfl⟩ | ⟨s, n, p, hc, rfl⟩
  · refine (exact_nan x h w).mono ?_
    rintro e w' ⟨rfl, hb⟩
    exact ⟨_, .inl ⟨h, rfl⟩, by decide, rfl, hb⟩
  · refine (exact_odd s 9218868437227405312 _ (by omega) (by decide) (fun w => l5odd_inf w) w).mono ?_
    rintro e w' ⟨rfl, hb⟩
    exact ⟨_, .inr (.inl ⟨s, rfl, rfl⟩), by cases s <;> decide, rfl, hb⟩
  · by_cases h0 : n = 0
    · subst h0
      rw [fw_zero]
      have := exact_odd s 0 ⟨#[48]⟩ (by omega) (by decide) (fun w => l5odd_num 0 (by omega) w) w
      rw [Nat.add_zero] at this
      refine this.mono ?_
      rintro e w' ⟨rfl, hb⟩
      exact ⟨_, .inr (.inr (.inl ⟨s, rfl, rfl⟩)), by cases s <;> decide, rfl, hb⟩
    · obtain ⟨q, k, hq, hq1, hX⟩ := l5exact_any n p hc (by omega)
      have hfw : fw false n p = rung n p := by rw [fw_canon _ _ _ hc]; exact Nat.zero_add _
      have hfs : fw s n p = signBit s + rung n p := fw_canon _ _ _ hc
      rw [hfw] at hX
      have := exact_num s (rung n p) q (p + k) (rung_lt n p hc) (fun h => h0 (rung_zero n p h)) hX w
      rw [← hfs] at this
      refine this.mono ?_
      rintro e w' ⟨ds, pow, hd, hz, rfl, hb⟩
      exact ⟨_, .inr (.inr (.inr ⟨s, n, p, q, k, ds, pow, hc, by omega, rfl, hq, hq1, hd, rfl⟩)), hz, rfl, hb⟩
end Go.Proofs.YtaoccjaaopmfdaaGreatDoor

/- Digits with 1 more in the last place: plain. -/
namespace Go.Proofs.YtaoccjaaopmfdaaGreatDoor
open Go.RowKit

/-- What l5up answers. -/
def UpD (ds t : ByteArray) (more : Bool) : Prop := good 10 t.data.toList ∧ valN 10 t.data.toList = valN 10 ds.data.toList + 1 ∧ t.size = ds.size + (if more then 1 else 0) ∧ (more = true → valN 10 ds.data.toList + 1 = 10 ^ ds.size)
theorem valN_nines (k : Nat) : valN 10 (List.replicate k (57 : UInt8)) + 1 = 10 ^ k := by
  induction k with
  | zero => rw [List.replicate_zero, valN_nil]
  | succ k ih =>
    rw [List.replicate_succ', valN_append, Nat.pow_succ]
    have : valN 10 [(57 : UInt8)] = 9 := by decide
    rw [this]
    show valN 10 (List.replicate k 57) * 10 ^ 1 + 9 + 1 = 10 ^ k * 10
    omega
/-- Behind the place i all digits are nines. -/
def Nines (l : List UInt8) (i : Nat) : Prop := ∃ k, l = l.take i ++ List.replicate k 57
theorem nines_start (l : List UInt8) : Nines l l.length := ⟨0, by simp⟩
theorem nines_step (l : List UInt8) (i : Nat) (hi : i < l.length) (h : Nines l (i + 1)) (hc : l[i].toNat = 57) : Nines l i := by
  obtain ⟨k, hk⟩ := h
  refine ⟨k + 1, ?_⟩
  have e : l[i] = 57 := UInt8.toNat_inj.1 hc
  rw [List.take_succ_eq_append_getElem hi, e] at hk
  rw [List.replicate_succ]
  conv => lhs; rw [hk]
  simp
theorem up_found (l : List UInt8) (i : Nat) (hi : i < l.length) (hg : good 10 l) (h : Nines l (i + 1)) (hc : l[i].toNat ≠ 57) (c : UInt8) (hcc : c.toNat = l[i].toNat + 1) :
    good 10 (l.take i ++ [c] ++ List.replicate (l.length - (i + 1)) 48) ∧ valN 10 (l.take i ++ [c] ++ List.replicate (l.length - (i + 1)) 48) = valN 10 l + 1 := by
  obtain ⟨k, hk⟩ := h
  have hkl : k = l.length - (i + 1) := by
    have := congrArg List.length hk
    rw [List.length_append, List.length_take, List.length_replicate] at this
    omega
  rw [← hkl]
  obtain ⟨d1, d2, d3⟩ := good_digit l[i] (hg _ (List.getElem_mem hi))
  have hcg : digN 99 (c.toNat : Int) = (c.toNat : Int) - 48 := by unfold digN; rw [if_pos (by omega)]
  refine ⟨?_, ?_⟩
  · refine good_append _ _ (good_append _ _ (fun x hx => hg x (List.mem_of_mem_take hx)) ?_) (good_zeros k)
    intro x hx
    rw [List.mem_singleton.1 hx, hcg]; omega
  · have hv : valN 10 l = (valN 10 (l.take i) * 10 + (l[i].toNat - 48)) * 10 ^ k + (10 ^ k - 1) := by
      conv => lhs; rw [hk]
      rw [valN_append, List.length_replicate, List.take_succ_eq_append_getElem hi, valN_append]
      have h1 := valN_nines k
      have h2 : valN 10 [l[i]] = l[i].toNat - 48 := by
        rw [valN_cons, valN_nil, d3]
        simp
        omega
      rw [h2]
      show (valN 10 (l.take i) * 10 ^ 1 + (l[i].toNat - 48)) * 10 ^ k + _ = _
      rw [Nat.pow_one]
      omega
    have h3 : valN 10 [c] = c.toNat - 48 := by
      rw [valN_cons, valN_nil, hcg]
      simp
      omega
    rw [valN_append, valN_append, valN_zeros, List.length_replicate, h3, hv, hcc]
    have hp : 0 < 10 ^ k := Nat.pow_pos (by omega)
    show (valN 10 (l.take i) * 10 ^ 1 + (l[i].toNat + 1 - 48)) * 10 ^ k + 0 = _
    rw [show l[i].toNat + 1 - 48 = (l[i].toNat - 48) + 1 by omega, Nat.pow_one, ← Nat.add_assoc, Nat.add_mul _ 1, Nat.one_mul]
    omega
theorem nines_all (l : List UInt8) (h : Nines l 0) : valN 10 l + 1 = 10 ^ l.length := by
  obtain ⟨k, hk⟩ := h
  rw [List.take_zero, List.nil_append] at hk
  have hkl : l.length = k := by rw [hk, List.length_replicate]
  rw [hkl, hk, valN_nines]
theorem bytes_ext (s t : ByteArray) (h : s.data.toList = t.data.toList) : s = t := by
  have h' : s.data = t.data := by rw [← Array.toArray_toList (xs := s.data), h, Array.toArray_toList]
  cases s; cases t; cases h'; rfl
theorem upD_one (ds t t' : ByteArray) (m m' : Bool) (h : UpD ds t m) (h' : UpD ds t' m') : t = t' ∧ m = m' := by
  obtain ⟨a1, a2, a3, a4⟩ := h
  obtain ⟨b1, b2, b3, b4⟩ := h'
  have l1 := valN_good_lt 10 t.data.toList a1
  have l2 := valN_good_lt 10 t'.data.toList b1
  rw [data_len] at l1 l2
  have hm : m = m' := by
    cases m <;> cases m'
    · rfl
    · have := b4 rfl
      rw [if_neg (by decide), Nat.add_zero] at a3
      rw [a3] at l1
      omega
    · have := a4 rfl
      rw [if_neg (by decide), Nat.add_zero] at b3
      rw [b3] at l2
      omega
    · rfl
  subst hm
  exact ⟨bytes_ext _ _ (digits_one _ _ a1 b1 (by rw [data_len, data_len, a3, b3]) (a2.trans b2.symm)), rfl⟩
theorem up_none (l : List UInt8) (h : Nines l 0) : good 10 ((49 : UInt8) :: List.replicate l.length 48) ∧ valN 10 ((49 : UInt8) :: List.replicate l.length 48) = valN 10 l + 1 := by
  obtain ⟨k, hk⟩ := h
  rw [List.take_zero, List.nil_append] at hk
  have hkl : l.length = k := by rw [hk, List.length_replicate]
  refine ⟨?_, ?_⟩
  · intro x hx
    rcases List.mem_cons.1 hx with rfl | hx
    · decide
    · exact good_zeros _ x hx
  · rw [valN_cons, valN_zeros, List.length_replicate, hkl, hk, valN_nines]
    have : (digN 99 (((49 : UInt8).toNat : Nat) : Int)).toNat = 1 := by decide
    rw [this]; omega
end Go.Proofs.YtaoccjaaopmfdaaGreatDoor

