import Derived.Test.YtpmccbkhkaoccaaDoorA30
import Derived.Deep.RegionHeld3
/- width, wordAt, multiply of the program's numbers. -/
namespace Go.Proofs.YtpmccbkhkaoccaaDoor
open Go.ChangeShapes Go.WideShapes Go.RowKit

theorem width_any (v : Value) (w : World) : Calls Tryd.prog 55 #[v] w fun e w' => e = .returned (.int .i64 32) ∧ w' = w := by
  have HL : Hid _ := fun w => len64_any 4294967295 (by omega) (by omega) w
  have hb : bitLen (Int.toNat 4294967295) = 32 := by decide
  rw [hb] at HL
  go_enter Tryd.func55, Tryd.ntmps55
  go_wp2_with (go_at_call 62; refine (HL.out _).mono ?_; rintro e w' ⟨rfl, rfl⟩)
  go_ret
  exact ⟨rfl, rfl⟩
set_option maxRecDepth 100000 in
theorem wordAt_any (B c : Nat) (f : Nat → Nat) (R : List Value) (t : TypeId) (w : World) (h : LB w B c f R t) (i : Int) (hi : i < 151) :
    Calls Tryd.prog 56 #[.pointer (some ⟨B, 0, none⟩), .int .i64 i] w fun e w' => e = .returned (.int .u32 (if i < 0 then 0 else (f i.toNat : Int))) ∧ w' = w := by
  by_cases h0 : i < 0
  · rw [if_pos h0]
    clear h
    go_enter Tryd.func56, Tryd.ntmps56
    go_wp2
    go_ret
    exact ⟨rfl, rfl⟩
  · rw [if_neg h0]
    obtain ⟨k, rfl⟩ : ∃ k : Nat, i = (k : Int) := ⟨i.toNat, by omega⟩
    have hw := h.wrd' k (by omega)
    clear h h0
    go_enter Tryd.func56, Tryd.ntmps56
    go_wp2
    go_ret
    exact ⟨rfl, rfl⟩

/-- The words while a number is multiplied: the first i are done. -/
def wmid (N M i : Nat) : Nat → Nat := fun j => if j < i then dg M j else dg N j
theorem wmid_zero (N M : Nat) : wmid N M 0 = dg N := rfl
theorem wmid_at (N M i : Nat) : wmid N M i i = dg N i := by unfold wmid; rw [if_neg (by omega)]
theorem wmid_step (N M i : Nat) : upd (wmid N M i) i (dg M i) = wmid N M (i + 1) := by
  funext j
  unfold upd wmid
  by_cases h : j = i
  · subst h; rw [if_pos rfl, if_pos (by omega)]
  · rw [if_neg h]
    by_cases h' : j < i
    · rw [if_pos h', if_pos (by omega)]
    · rw [if_neg h', if_neg (by omega)]
theorem wmid_end (N M c : Nat) (hN : N < be ^ c) (hM : M < be ^ c) (j : Nat) : wmid N M c j = dg M j := by
  unfold wmid
  by_cases h : j < c
  · rw [if_pos h]
  · rw [if_neg h, dg_above N j c hN (by omega), dg_above M j c hM (by omega)]
set_option maxHeartbeats 1000000 in
set_option maxRecDepth 100000 in
theorem mul_any (B N F a : Nat) (R : List Value) (t : TypeId) (w : World) (h : Lg w B N R t) (hF1 : 1 ≤ F) (hF : F ≤ 16) (ha : a ≤ 9007199254740992) (hN : N * F + a < be ^ 151) :
    Calls Tryd.prog 54 #[.pointer (some ⟨B, 0, none⟩), .int .u64 (F : Int), .int .u64 (a : Int)] w fun e w' => e = .returned (.tuple #[]) ∧ Mod B w w' ∧ Lg w' B (N * F + a) R t := by
  obtain ⟨c, hc, hk, hl⟩ := h
  obtain ⟨M, hM⟩ : ∃ M, N * F + a = M := ⟨_, rfl⟩
  have HM : Hid (N * F + a = M) := hM
  have HMB : Hid (M < be ^ 151) := by rw [← hM]; exact hN
  rw [hM]
  clear hM hN
  have HW : Hid _ := fun v w => width_any v w
  have HK : Hid (cntOk c N) := hk
  have HL : Hid (LB w B c (dg N) R t) := hl
  have hcnt := hl.cnt
  clear hk hl
  go_enter Tryd.func54, Tryd.ntmps54
  go_wp2
  go_loopw [6, 13] (fun cv iv wl => ∃ (i u : Nat), iv = .int .i64 (i : Int) ∧ cv = .int .u64 (u : Int) ∧ i ≤ c ∧ u ≤ 9007199254741100 ∧ Hid (car N F a i = u) ∧ Hid (LB wl B c (wmid N M i) R t) ∧ Hid (Mod B w wl)) (fun _ iv _ => c - (intOf iv).toNat)
  case atStart => exact ⟨0, a, rfl, rfl, Nat.zero_le _, by omega, car_zero N F a, HL.out, Mod.refl B w⟩
  case round =>
    clear hcnt
    obtain ⟨i, u, rfl, rfl, hi, hu, HU, HB, HMd⟩ := hrel
    by_cases hlt : i < c
    · have hlt' : (i : Int) < (c : Int) := by omega
      obtain ⟨d, hd⟩ : ∃ d, dg N i = d := ⟨_, rfl⟩
      have hd1 : d < 4294967296 := by rw [← hd]; exact dg_lt _ _
      have hw := HB.out.wrd' i (by omega)
      rw [wmid_at, hd] at hw
      have hfr := HB.out.froz (1 + i)
      have HD : Hid (dg N i = d) := hd
      obtain ⟨p, hp⟩ : ∃ p : Int, (d : Int) * (F : Int) = p := ⟨_, rfl⟩
      have hp0 : 0 ≤ p := by rw [← hp]; exact Int.mul_nonneg (by omega) (by omega)
      have hp1 : p ≤ 68719476720 := by
        rw [← hp]
        have : (d : Int) * F ≤ 4294967295 * 16 := Int.mul_le_mul (by omega) (by omega) (by omega) (by omega)
        omega
      clear hd
      go_wp2_with (go_at_call 55; refine (HW.out _ _).mono ?_; rintro e w' ⟨rfl, rfl⟩)
      have ev : ((u : Int) + p) % 4294967296 = ((dg M i : Nat) : Int) := by
        rw [← HM.out, ← car_word, HU.out, HD.out, ← hp, be_eq]; omega
      have ec : ((u : Int) + p) / 4294967296 = ((car N F a (i + 1) : Nat) : Int) := by
        rw [← car_next, HU.out, HD.out, ← hp, be_eq]; omega
      rw [ev, ec]
      refine ⟨⟨i + 1, car N F a (i + 1), rfl, rfl, by omega, by have := car_le N F a (i + 1); omega, rfl, ?_, HMd.out.setCell _ _⟩, ?_⟩
      · have := HB.out.setw' i (dg M i) (by omega)
        rw [wmid_step] at this; exact this
      · show c - ((i : Int) + 1).toNat < c - (i : Int).toNat; omega
    · have hlt' : decide ((i : Int) < (c : Int)) = false := decide_eq_false (by omega)
      obtain rfl : i = c := by omega
      go_wp2
      go_loopw [6] (fun cv wl => ∃ (k v : Nat), cv = .int .u64 (v : Int) ∧ v ≤ 9007199254741100 ∧ Hid (M / be ^ k = v) ∧ k ≤ 151 ∧ Hid (0 < k → be ^ (k - 1) ≤ M) ∧ Hid (N < be ^ k) ∧ Hid (LB wl B k (wmid N M k) R t) ∧ Hid (Mod B w wl)) (fun cv _ => (intOf cv).toNat)
      case atStart => 
        refine ⟨i, u, rfl, hu, ?_, hc, ?_, HK.out.1, HB.out, HMd.out⟩
        · rw [← HM.out, ← car_end N F a i HK.out.1]; exact HU.out
        · intro h0
          have h1 := HK.out.2 h0
          have h2 : N * 1 ≤ N * F := Nat.mul_le_mul_left _ hF1
          rw [← HM.out]; omega
      case round =>
        clear HU HB HMd hi hu hlt hlt'
        obtain ⟨k, v, rfl, hv, HV, hk, HG, HN, HB, HMd⟩ := hrel
        by_cases h0 : 0 < v
        · have h0' : (0 : Int) < (v : Int) := by omega
          have hk1 : k < 151 := by
            rcases Nat.lt_or_ge k 151 with h | h
            · exact h
            · have : M < be ^ k := Nat.lt_of_lt_of_le HMB.out (bpow_le h)
              have := HV.out; rw [Nat.div_eq_of_lt (by assumption)] at this; omega
          have hk2 : (k : Int) < 151 := by omega
          have hcnt := HB.out.cnt
          have hw := HB.out.wrd' k hk1
          have hfr := HB.out.froz (1 + k)
          have hfr0 := HB.out.froz 0
          go_wp2_with (go_at_call 55; refine (HW.out _ _).mono ?_; rintro e w' ⟨rfl, rfl⟩)
          go_region
          all_goals go_wp2_with (go_at_call 55; refine (HW.out _ _).mono ?_; rintro e w' ⟨rfl, rfl⟩)
          all_goals
            have hdv : (v : Int) % 4294967296 = ((dg M k : Nat) : Int) := by unfold dg; rw [HV.out, be_eq]; omega
            have hcar : (v : Int) / 4294967296 = ((v / 4294967296 : Nat) : Int) := by omega
            rw [hdv, hcar]
            refine ⟨⟨k + 1, v / 4294967296, rfl, by omega, ?_, by omega, fun _ => ?_, Nat.lt_of_lt_of_le HN.out (bpow_le (by omega)), ?_, (HMd.out.setCell _ _).setCell _ _⟩, ?_⟩
            · show M / be ^ (k + 1) = v / 4294967296
              rw [Nat.pow_succ, ← Nat.div_div_eq_div_mul, HV.out]
              rfl
            · show be ^ (k + 1 - 1) ≤ M
              rw [Nat.add_sub_cancel]
              rcases Nat.lt_or_ge M (be ^ k) with h | h
              · have := HV.out; rw [Nat.div_eq_of_lt h] at this; omega
              · exact h
            · have h1 := (HB.out.setw' k (dg M k) hk1)
              rw [wmid_step] at h1
              exact h1.setc (k + 1)
            · show ((v / 4294967296 : Nat) : Int).toNat < (v : Int).toNat; omega
        · have h0' : decide ((0 : Int) < (v : Int)) = false := decide_eq_false (by omega)
          go_wp2
          go_end0
          refine ⟨rfl, HMd.out, k, hk, ⟨?_, HG.out⟩, HB.out.congr _ fun j _ => wmid_end N M k HN.out ?_ j⟩
          all_goals
            have hv0 : v = 0 := by omega
            have := HV.out
            rcases Nat.lt_or_ge M (be ^ k) with h | h
            · exact h
            · have := Nat.div_pos h (bpow_pos k); omega
end Go.Proofs.YtpmccbkhkaoccaaDoor

/- trim of the program's numbers. -/
namespace Go.Proofs.YtpmccbkhkaoccaaDoor
open Go.ChangeShapes Go.WideShapes Go.RowKit

set_option maxHeartbeats 1000000 in
set_option maxRecDepth 100000 in
theorem trim_any (B N c : Nat) (R : List Value) (t : TypeId) (w : World) (hc : c ≤ 151) (hN : N < be ^ c) (h : LB w B c (dg N) R t) :
    Calls Tryd.prog 57 #[.pointer (some ⟨B, 0, none⟩)] w fun e w' => e = .returned (.tuple #[]) ∧ Mod B w w' ∧ Lg w' B N R t := by
  have HL : Hid (LB w B c (dg N) R t) := h
  have HN : Hid (N < be ^ c) := hN
  clear h hN
  go_enter Tryd.func57, Tryd.ntmps57
  go_wp2
  go_loopw [2] (fun _ wl => ∃ k : Nat, k ≤ 151 ∧ Hid (N < be ^ k) ∧ Hid (LB wl B k (dg N) R t) ∧ Hid (Mod B w wl)) (fun _ wl => (intOf ((wl.cell? ⟨B, 0, none⟩).getD (.int .i64 0))).toNat)
  case atStart => exact ⟨c, hc, HN.out, HL.out, Mod.refl B w⟩
  case round =>
    obtain ⟨k, hk, HK, HB, HMd⟩ := hrel
    have hcnt := HB.out.cnt
    by_cases h0 : 0 < k
    · have hd : decide ((0 : Int) < (k : Int)) = true := decide_eq_true (by omega)
      obtain ⟨j, rfl⟩ : ∃ j, k = j + 1 := ⟨k - 1, by omega⟩
      have hk1 : (j : Int) < 151 := by omega
      have hw := HB.out.wrd' j (by omega)
      have hfr0 := HB.out.froz 0
      obtain ⟨d, hd'⟩ : ∃ d, dg N j = d := ⟨_, rfl⟩
      have HD : Hid (dg N j = d) := hd'
      have e1 : ((j + 1 : Nat) : Int) = (j : Int) + 1 := by omega
      rw [e1] at hcnt hd
      rw [hd'] at hw
      clear hd' e1
      by_cases hz : d = 0
      · have hb : ((d : Int) == 0) = true := by rw [hz]; rfl
        go_wp2
        go_quiet (fail)
        go_wp2
        have hl : LB ((wr.drewN nq).setCell ⟨B, 0, none⟩ (.int .i64 (j : Int))) B j (dg N) R t := (HB.out.drewN nq).setc j
        refine ⟨⟨j, by omega, ?_, hl, (HMd.out.drewN _).setCell _ _⟩, ?_⟩
        · show N < be ^ j
          have h1 := HD.out
          have h2 := HK.out
          rw [hz] at h1
          have h3 : N / be ^ j < be := by rw [Nat.div_lt_iff_lt_mul (bpow_pos j), Nat.mul_comm, ← Nat.pow_succ]; exact h2
          unfold dg at h1
          rw [Nat.mod_eq_of_lt h3] at h1
          rcases Nat.lt_or_ge N (be ^ j) with h | h
          · exact h
          · have := Nat.div_pos h (bpow_pos j); omega
        · rw [hl.cnt, hcnt]
          show (j : Int).toNat < ((j : Int) + 1).toNat; omega
      · have hb : ((d : Int) == 0) = false := beq_eq_false_iff_ne.2 (by omega)
        go_wp2
        go_quiet (fail)
        go_wp2
        go_end0
        refine ⟨rfl, HMd.out.drewN _, j + 1, by omega, ⟨HK.out, fun _ => ?_⟩, HB.out.drewN nq⟩
        rw [Nat.add_sub_cancel]
        rcases Nat.lt_or_ge N (be ^ j) with h | h
        · have h1 := HD.out; rw [dg_big N j h] at h1; omega
        · exact h
    · have hd : decide ((0 : Int) < (k : Int)) = false := decide_eq_false (by omega)
      go_wp2
      go_quiet (fail)
      go_wp2
      go_end0
      exact ⟨rfl, HMd.out.drewN _, k, by omega, ⟨HK.out, fun h => by omega⟩, HB.out.drewN nq⟩
end Go.Proofs.YtpmccbkhkaoccaaDoor

/- shift of the program's numbers. -/
namespace Go.Proofs.YtpmccbkhkaoccaaDoor
open Go.ChangeShapes Go.WideShapes Go.RowKit

/-- The two halves of a shifted word. -/
theorem or_sh (a1 a2 m n : Nat) (hm : m < 32) (hn : n = 32 - m) (hb2 : a2 < 4294967296) : bits .or .u32 ((a1 : Int) * 2 ^ m % 4294967296) ((a2 : Int) / 2 ^ n) = ((a1 * 2 ^ m % be + a2 / 2 ^ n : Nat) : Int) := by
  have hb : be = 2 ^ n * 2 ^ m := by rw [← Nat.pow_add, show n + m = 32 by omega]; rfl
  have e1 : (a1 : Int) * 2 ^ m % 4294967296 = ((a1 * 2 ^ m % be : Nat) : Int) := by
    rw [Int.natCast_emod, Int.natCast_mul, Int.natCast_pow]; rfl
  have e2 : (a2 : Int) / 2 ^ n = ((a2 / 2 ^ n : Nat) : Int) := by rw [Int.natCast_ediv, Int.natCast_pow]; rfl
  rw [e1, e2]
  have h1 : a2 / 2 ^ n < 2 ^ m := by rw [Nat.div_lt_iff_lt_mul (Nat.two_pow_pos n), Nat.mul_comm, ← hb]; exact hb2
  have h2 : a1 * 2 ^ m % be = 2 ^ m * (a1 % 2 ^ n) := by rw [hb, Nat.mul_mod_mul_right, Nat.mul_comm]
  have h3 : a2 / 2 ^ n < 4294967296 := Nat.lt_of_le_of_lt (Nat.div_le_self _ _) hb2
  rw [u32_or_nat (a1 * 2 ^ m % be) (a2 / 2 ^ n) (Nat.mod_lt _ be_pos) h3, h2, ← Nat.two_pow_add_eq_or_of_lt h1]
/-- The words while a number is shifted: from the i-th on they are done. -/
def wtop (N M i : Nat) : Nat → Nat := fun j => if j < i then dg N j else dg M j
theorem wtop_step (N M i : Nat) : upd (wtop N M (i + 1)) i (dg M i) = wtop N M i := by
  funext j
  unfold upd wtop
  by_cases h : j = i
  · subst h; rw [if_pos rfl, if_neg (by omega)]
  · rw [if_neg h]
    by_cases h' : j < i
    · rw [if_pos h', if_pos (by omega)]
    · rw [if_neg h', if_neg (by omega)]
theorem wtop_low (N M i j : Nat) (h : j < i) : wtop N M i j = dg N j := by unfold wtop; rw [if_pos h]
set_option maxHeartbeats 2000000 in
set_option maxRecDepth 100000 in
theorem shift_any (B N s : Nat) (R : List Value) (t : TypeId) (w : World) (c : Nat) (hk : cntOk c N) (h : LB w B c (dg N) R t) (hs : c + s / 32 + 1 ≤ 151) :
    Calls Tryd.prog 41 #[.pointer (some ⟨B, 0, none⟩), .int .i64 (s : Int)] w fun e w' => e = .returned (.tuple #[]) ∧ Mod B w w' ∧ Lg w' B (N * 2 ^ s) R t := by
  have HW : Hid _ := fun v w => width_any v w
  have HK : Hid (cntOk c N) := hk
  have HL : Hid (LB w B c (dg N) R t) := h
  obtain ⟨q, hq⟩ : ∃ q, s / 32 = q := ⟨_, rfl⟩
  obtain ⟨m, hm⟩ : ∃ m, s % 32 = m := ⟨_, rfl⟩
  obtain ⟨M, hM⟩ : ∃ M, N * 2 ^ s = M := ⟨_, rfl⟩
  have HQ : Hid (s / 32 = q) := hq
  have HR : Hid (s % 32 = m) := hm
  have HM : Hid (N * 2 ^ s = M) := hM
  have hm1 : m < 32 := by omega
  have hs1 : (s : Int) / 32 = (q : Int) := by omega
  have hs2 : (s : Int) % 32 = (m : Int) := by omega
  have hs0 : (s : Int) ≤ 4831 := by omega
  rw [hM]
  rw [hq] at hs
  have hcnt := h.cnt
  have hfr := h.froz 0
  clear hk h hM hq hm
  go_enter Tryd.func41, Tryd.ntmps41
  go_wp2
  go_quiet (first | (go_at_call 55; exact Calls.quiet_of_same (HW.out _ _)))
  go_wp2
  simp only [hs2]
  have HMB : Hid (M < be ^ (c + q + 1)) := by
    show M < be ^ (c + q + 1)
    have h1 : N * 2 ^ s < be ^ c * 2 ^ s := Nat.mul_lt_mul_of_pos_right HK.out.1 (Nat.two_pow_pos s)
    have h2 : be ^ c * 2 ^ s ≤ be ^ (c + q + 1) := by
      rw [be_two, be_two, ← Nat.pow_add]
      exact Nat.pow_le_pow_right (by omega) (by have := HQ.out; have := HR.out; omega)
    rw [← HM.out]; omega
  go_loopw [6] (fun iv wl => ∃ (i : Nat) (x : Int), iv = .int .i64 x ∧ x = (i : Int) - 1 ∧ i ≤ c + q + 1 ∧ Hid (LB wl B (c + q + 1) (wtop N M i) R t) ∧ Hid (Mod B w wl)) (fun iv _ => (intOf iv + 1).toNat)
  case atStart =>
    refine ⟨c + q + 1, _, rfl, by omega, Nat.le_refl _, ?_, (Mod.refl B w).drewN _ |>.setCell _ _⟩
    have h1 := ((HL.out.drewN nq).setc (c + q + 1)).congr (wtop N M (c + q + 1)) fun j _ => by
      unfold wtop
      split
      · rfl
      · rw [dg_above N j (c + q + 1) (Nat.lt_of_lt_of_le HK.out.1 (bpow_le (by omega))) (by omega), dg_above M j (c + q + 1) HMB.out (by omega)]
    rw [show ((c + q + 1 : Nat) : Int) = (c : Int) + ((q : Int) + 1) by omega] at h1
    exact h1
  case round =>
    clear hcnt hfr
    obtain ⟨i, x, rfl, hx, hi, HB, HMd⟩ := hrel
    by_cases h0 : 0 < i
    · obtain ⟨k, rfl⟩ : ∃ k, i = k + 1 := ⟨i - 1, by omega⟩
      obtain rfl : x = (k : Int) := by omega
      have hk0 : (0 : Int) ≤ (k : Int) := by omega
      have hk1 : (k : Int) < 151 := by omega
      obtain ⟨a1, ha1⟩ : ∃ a1 : Nat, a1 = (if (k : Int) - (q : Int) < 0 then 0 else dg N (k - q)) := ⟨_, rfl⟩
      obtain ⟨a2, ha2⟩ : ∃ a2 : Nat, a2 = (if (k : Int) - (q : Int) - 1 < 0 then 0 else dg N (k - q - 1)) := ⟨_, rfl⟩
      have hb1 : a1 < 4294967296 := by rw [ha1]; split; · omega
                                       · exact dg_lt _ _
      have hb2 : a2 < 4294967296 := by rw [ha2]; split; · omega
                                       · exact dg_lt _ _
      have HA1 : Hid (∀ W : World, LB W B (c + q + 1) (wtop N M (k + 1)) R t → Calls Tryd.prog 56 #[.pointer (some ⟨B, 0, none⟩), .int .i64 ((k : Int) - (q : Int))] W fun e w' => e = .returned (.int .u32 (a1 : Int)) ∧ w' = W) := fun W h => by
        refine (wordAt_any B _ _ R t W h _ (by omega)).mono ?_
        rintro e w' ⟨rfl, rfl⟩
        refine ⟨?_, rfl⟩
        rw [ha1]
        split
        · rfl
        · rw [wtop_low _ _ _ _ (by omega), show ((k : Int) - (q : Int)).toNat = k - q by omega]
      have HA2 : Hid (∀ W : World, LB W B (c + q + 1) (wtop N M (k + 1)) R t → Calls Tryd.prog 56 #[.pointer (some ⟨B, 0, none⟩), .int .i64 ((k : Int) - (q : Int) - 1)] W fun e w' => e = .returned (.int .u32 (a2 : Int)) ∧ w' = W) := fun W h => by
        refine (wordAt_any B _ _ R t W h _ (by omega)).mono ?_
        rintro e w' ⟨rfl, rfl⟩
        refine ⟨?_, rfl⟩
        rw [ha2]
        split
        · rfl
        · rw [wtop_low _ _ _ _ (by omega), show ((k : Int) - (q : Int) - 1).toNat = k - q - 1 by omega]
      have w1 : IntKind.i64.wrap ((k : Int) - (q : Int)) = (k : Int) - (q : Int) := by rw [IntKind.wrap_i64]; omega
      have w2 : IntKind.i64.wrap (IntKind.i64.wrap ((k : Int) - (q : Int)) - 1) = (k : Int) - (q : Int) - 1 := by rw [w1, IntKind.wrap_i64]; omega
      rw [← w1] at HA1
      rw [← w2] at HA2
      clear w1 w2
      have HV1 : Hid (a1 = (if (k : Int) - (q : Int) < 0 then 0 else dg N (k - q))) := ha1
      have HV2 : Hid (a2 = (if (k : Int) - (q : Int) - 1 < 0 then 0 else dg N (k - q - 1))) := ha2
      have hw := HB.out.wrd' k (by omega)
      obtain ⟨n, hn⟩ : ∃ n : Nat, n = 32 - m := ⟨_, rfl⟩
      have HNn : Hid (n = 32 - m) := hn
      have hsh : IntKind.i64.wrap (32 - (m : Int)) = (n : Int) := by rw [IntKind.wrap_i64]; omega
      have hn1 : n ≤ 32 := by omega
      clear hn
      have hfr := HB.out.froz (1 + k)
      clear ha1 ha2 h0 hx
      go_wp2
      go_region_with (first | (go_at_call 55; refine (HW.out _ _).mono ?_; rintro e w' ⟨rfl, rfl⟩) | (go_at_call_of 56 (Value.int .i64 (IntKind.i64.wrap ((k : Int) - (q : Int)))); refine (HA1.out _ (by exact HB.out)).mono ?_; rintro e w' ⟨rfl, rfl⟩) | (go_at_call 56; refine (HA2.out _ (by exact HB.out)).mono ?_; rintro e w' ⟨rfl, rfl⟩))
      go_wp2
      have ev : bits .or .u32 ((a1 : Int) * 2 ^ m % 4294967296) ((a2 : Int) / 2 ^ n) = ((dg M k : Nat) : Int) := by
        rw [or_sh a1 a2 m n hm1 HNn.out hb2, ← HM.out, dg_shift, HQ.out, HR.out, ← HNn.out, HV1.out, HV2.out]
        congr 2
        · by_cases hq : k < q
          · rw [if_pos (by omega), if_pos hq]
          · rw [if_neg (by omega), if_neg hq]
        · by_cases hq : k < q + 1
          · rw [if_pos (by omega), if_pos hq]
          · rw [if_neg (by omega), if_neg hq]
      rw [ev]
      refine ⟨⟨k, (k : Int) - 1, rfl, rfl, by omega, ?_, (HMd.out.setCell _ _).drewN 1⟩, ?_⟩
      · have h1 := HB.out.setw' k (dg M k) (by omega)
        rw [wtop_step] at h1
        exact h1.drewN 1
      · show ((k : Int) - 1 + 1).toNat < ((k : Int) + 1).toNat; omega
    · have h0' : decide ((0 : Int) ≤ x) = false := decide_eq_false (by omega)
      obtain rfl : i = 0 := by omega
      have HT : Hid (LB wr B (c + q + 1) (dg M) R t) := HB.out.congr _ fun j _ => by unfold wtop; rw [if_neg (by omega)]
      go_wp2_with (go_at_call 57; refine (trim_any B M (c + q + 1) R t _ hs HMB.out HT.out).mono ?_; rintro e w' ⟨rfl, hm1, hg⟩)
      go_end0
      exact ⟨rfl, HMd.out.trans hm1, hg⟩
end Go.Proofs.YtpmccbkhkaoccaaDoor

