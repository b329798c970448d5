import Derived.Test.YtoedefjngipeiaaGreatDoorA31
import Derived.Test.YtoedefjngipeiaaGreatDoorA30
import Derived.Test.YtoedefjngipeiaaGreatDoorA10
/- shift of the program's numbers. -/
namespace Go.Proofs.YtoedefjngipeiaaGreatDoor
open Go.ChangeShapes Go.WideShapes Go.RowKit

/-- The two halves of a shifted word. -/
theorem or_sh (a1 a2 m n : Nat) (hm : m < 32) (hn : n = 32 - m) (hb2 : a2 < 4294967296) : bits .or .u32 ((a1 : Int) * 2 ^ m % 4294967296) ((a2 : Int) / 2 ^ n) = ((a1 * 2 ^ m % be + a2 / 2 ^ n : Nat) : Int) := by
  have hb : be = 2 ^ n * 2 ^ m := by rw [← Nat.pow_add, show n + m = 32 by omega]; rfl
  have e1 : (a1 : Int) * 2 ^ m % 4294967296 = ((a1 * 2 ^ m % be : Nat) : Int) := by
    rw [Int.natCast_emod, Int.natCast_mul, Int.natCast_pow]; rfl
  have e2 : (a2 : Int) / 2 ^ n = ((a2 / 2 ^ n : Nat) : Int) := by rw [Int.natCast_ediv, Int.natCast_pow]; rfl
  rw [e1, e2]
  have h1 : a2 / 2 ^ n < 2 ^ m := by rw [Nat.div_lt_iff_lt_mul (Nat.two_pow_pos n), Nat.mul_comm, ← hb]; exact hb2
  have h2 : a1 * 2 ^ m % be = 2 ^ m * (a1 % 2 ^ n) := by rw [hb, Nat.mul_mod_mul_right, Nat.mul_comm]
  have h3 : a2 / 2 ^ n < 4294967296 := Nat.lt_of_le_of_lt (Nat.div_le_self _ _) hb2
  rw [u32_or_nat (a1 * 2 ^ m % be) (a2 / 2 ^ n) (Nat.mod_lt _ be_pos) h3, h2, ← Nat.two_pow_add_eq_or_of_lt h1]
/-- The words while a number is shifted: from the i-th on they are done. -/
def wtop (N M i : Nat) : Nat → Nat := fun j => if j < i then dg N j else dg M j
theorem wtop_step (N M i : Nat) : upd (wtop N M (i + 1)) i (dg M i) = wtop N M i := by
  funext j
  unfold upd wtop
  by_cases h : j = i
  · subst h; rw [if_pos rfl, if_neg (by omega)]
  · rw [if_neg h]
    by_cases h' : j < i
    · rw [if_pos h', if_pos (by omega)]
    · rw [if_neg h', if_neg (by omega)]
theorem wtop_low (N M i j : Nat) (h : j < i) : wtop N M i j = dg N j := by unfold wtop; rw [if_pos h]
set_option maxHeartbeats 2000000 in
set_option maxRecDepth 100000 in
theorem shift_any (B N s : Nat) (R : List Value) (t : TypeId) (w : World) (c : Nat) (hk : cntOk c N) (h : LB w B c (dg N) R t) (hs : c + s / 32 + 1 ≤ 151) :
    Calls Tryz.prog 112 #[.pointer (some ⟨B, 0, none⟩), .int .i64 (s : Int)] w fun e w' => e = .returned (.tuple #[]) ∧ Mod B w w' ∧ Lg w' B (N * 2 ^ s) R t := by
  have HW : Hid _ := fun v w => width_any v w
  have HK : Hid (cntOk c N) := hk
  have HL : Hid (LB w B c (dg N) R t) := h
  obtain ⟨q, hq⟩ : ∃ q, s / 32 = q := ⟨_, rfl⟩
  obtain ⟨m, hm⟩ : ∃ m, s % 32 = m := ⟨_, rfl⟩
  obtain ⟨M, hM⟩ : ∃ M, N * 2 ^ s = M := ⟨_, rfl⟩
  have HQ : Hid (s / 32 = q) := hq
  have HR : Hid (s % 32 = m) := hm
  have HM : Hid (N * 2 ^ s = M) := hM
  have hm1 : m < 32 := by omega
  have hs1 : (s : Int) / 32 = (q : Int) := by omega
  have hs2 : (s : Int) % 32 = (m : Int) := by omega
  have hs0 : (s : Int) ≤ 4831 := by omega
  rw [hM]
  rw [hq] at hs
  have hcnt := h.cnt
  have hfr := h.froz 0
  clear hk h hM hq hm
  go_enter Tryz.func112, Tryz.ntmps112
  go_wp2
  go_quiet (first | (go_at_call 110; exact Calls.quiet_of_same (HW.out _ _)))
  go_wp2
  simp only [hs2]
  have HMB : Hid (M < be ^ (c + q + 1)) := by
    show M < be ^ (c + q + 1)
    have h1 : N * 2 ^ s < be ^ c * 2 ^ s := Nat.mul_lt_mul_of_pos_right HK.out.1 (Nat.two_pow_pos s)
    have h2 : be ^ c * 2 ^ s ≤ be ^ (c + q + 1) := by
      rw [be_two, be_two, ← Nat.pow_add]
      exact Nat.pow_le_pow_right (by omega) (by have := HQ.out; have := HR.out; omega)
    rw [← HM.out]; omega
  go_loopw [6] (fun iv wl => ∃ (i : Nat) (x : Int), iv = .int .i64 x ∧ x = (i : Int) - 1 ∧ i ≤ c + q + 1 ∧ Hid (LB wl B (c + q + 1) (wtop N M i) R t) ∧ Hid (Mod B w wl)) (fun iv _ => (intOf iv + 1).toNat)
  case atStart =>
    refine ⟨c + q + 1, _, rfl, by omega, Nat.le_refl _, ?_, (Mod.refl B w).drewN _ |>.setCell _ _⟩
    have h1 := ((HL.out.drewN nq).setc (c + q + 1)).congr (wtop N M (c + q + 1)) fun j _ => by
      unfold wtop
      split
      · rfl
      · rw [dg_above N j (c + q + 1) (Nat.lt_of_lt_of_le HK.out.1 (bpow_le (by omega))) (by omega), dg_above M j (c + q + 1) HMB.out (by omega)]
    rw [show ((c + q + 1 : Nat) : Int) = (c : Int) + ((q : Int) + 1) by omega] at h1
    exact h1
  case round =>
    clear hcnt hfr
    obtain ⟨i, x, rfl, hx, hi, HB, HMd⟩ := hrel
    by_cases h0 : 0 < i
    · obtain ⟨k, rfl⟩ : ∃ k, i = k + 1 := ⟨i - 1, by omega⟩
      obtain rfl : x = (k : Int) := by omega
      have hk0 : (0 : Int) ≤ (k : Int) := by omega
      have hk1 : (k : Int) < 151 := by omega
      obtain ⟨a1, ha1⟩ : ∃ a1 : Nat, a1 = (if (k : Int) - (q : Int) < 0 then 0 else dg N (k - q)) := ⟨_, rfl⟩
      obtain ⟨a2, ha2⟩ : ∃ a2 : Nat, a2 = (if (k : Int) - (q : Int) - 1 < 0 then 0 else dg N (k - q - 1)) := ⟨_, rfl⟩
      have hb1 : a1 < 4294967296 := by rw [ha1]; split; · omega
                                       · exact dg_lt _ _
      have hb2 : a2 < 4294967296 := by rw [ha2]; split; · omega
                                       · exact dg_lt _ _
      have HA1 : Hid (∀ W : World, LB W B (c + q + 1) (wtop N M (k + 1)) R t → Calls Tryz.prog 118 #[.pointer (some ⟨B, 0, none⟩), .int .i64 ((k : Int) - (q : Int))] W fun e w' => e = .returned (.int .u32 (a1 : Int)) ∧ w' = W) := fun W h => by
        refine (wordAt_any B _ _ R t W h _ (by omega)).mono ?_
        rintro e w' ⟨rfl, rfl⟩
        refine ⟨?_, rfl⟩
        rw [ha1]
        split
        · rfl
        · rw [wtop_low _ _ _ _ (by omega), show ((k : Int) - (q : Int)).toNat = k - q by omega]
      have HA2 : Hid (∀ W : World, LB W B (c + q + 1) (wtop N M (k + 1)) R t → Calls Tryz.prog 118 #[.pointer (some ⟨B, 0, none⟩), .int .i64 ((k : Int) - (q : Int) - 1)] W fun e w' => e = .returned (.int .u32 (a2 : Int)) ∧ w' = W) := fun W h => by
        refine (wordAt_any B _ _ R t W h _ (by omega)).mono ?_
        rintro e w' ⟨rfl, rfl⟩
        refine ⟨?_, rfl⟩
        rw [ha2]
        split
        · rfl
        · rw [wtop_low _ _ _ _ (by omega), show ((k : Int) - (q : Int) - 1).toNat = k - q - 1 by omega]
      have w1 : IntKind.i64.wrap ((k : Int) - (q : Int)) = (k : Int) - (q : Int) := by rw [IntKind.wrap_i64]; omega
      have w2 : IntKind.i64.wrap (IntKind.i64.wrap ((k : Int) - (q : Int)) - 1) = (k : Int) - (q : Int) - 1 := by rw [w1, IntKind.wrap_i64]; omega
      rw [← w1] at HA1
      rw [← w2] at HA2
      clear w1 w2
      have HV1 : Hid (a1 = (if (k : Int) - (q : Int) < 0 then 0 else dg N (k - q))) := ha1
      have HV2 : Hid (a2 = (if (k : Int) - (q : Int) - 1 < 0 then 0 else dg N (k - q - 1))) := ha2
      have hw := HB.out.wrd' k (by omega)
      obtain ⟨n, hn⟩ : ∃ n : Nat, n = 32 - m := ⟨_, rfl⟩
      have HNn : Hid (n = 32 - m) := hn
      have hsh : IntKind.i64.wrap (32 - (m : Int)) = (n : Int) := by rw [IntKind.wrap_i64]; omega
      have hn1 : n ≤ 32 := by omega
      clear hn
      have hfr := HB.out.froz (1 + k)
      clear ha1 ha2 h0 hx
      go_wp2
      go_region_with (first | (go_at_call 110; refine (HW.out _ _).mono ?_; rintro e w' ⟨rfl, rfl⟩) | (go_at_call_of 118 (Value.int .i64 (IntKind.i64.wrap ((k : Int) - (q : Int)))); refine (HA1.out _ (by exact HB.out)).mono ?_; rintro e w' ⟨rfl, rfl⟩) | (go_at_call 118; refine (HA2.out _ (by exact HB.out)).mono ?_; rintro e w' ⟨rfl, rfl⟩))
      go_wp2
      have ev : bits .or .u32 ((a1 : Int) * 2 ^ m % 4294967296) ((a2 : Int) / 2 ^ n) = ((dg M k : Nat) : Int) := by
        rw [or_sh a1 a2 m n hm1 HNn.out hb2, ← HM.out, dg_shift, HQ.out, HR.out, ← HNn.out, HV1.out, HV2.out]
        congr 2
        · by_cases hq : k < q
          · rw [if_pos (by omega), if_pos hq]
          · rw [if_neg (by omega), if_neg hq]
        · by_cases hq : k < q + 1
          · rw [if_pos (by omega), if_pos hq]
          · rw [if_neg (by omega), if_neg hq]
      rw [ev]
      refine ⟨⟨k, (k : Int) - 1, rfl, rfl, by omega, ?_, (HMd.out.setCell _ _).drewN 1⟩, ?_⟩
      · have h1 := HB.out.setw' k (dg M k) (by omega)
        rw [wtop_step] at h1
        exact h1.drewN 1
      · show ((k : Int) - 1 + 1).toNat < ((k : Int) + 1).toNat; omega
    · have h0' : decide ((0 : Int) ≤ x) = false := decide_eq_false (by omega)
      obtain rfl : i = 0 := by omega
      have HT : Hid (LB wr B (c + q + 1) (dg M) R t) := HB.out.congr _ fun j _ => by unfold wtop; rw [if_neg (by omega)]
      go_wp2_with (go_at_call 119; refine (trim_any B M (c + q + 1) R t _ hs HMB.out HT.out).mono ?_; rintro e w' ⟨rfl, hm1, hg⟩)
      go_end0
      exact ⟨rfl, HMd.out.trans hm1, hg⟩
end Go.Proofs.YtoedefjngipeiaaGreatDoor

/- length, order of the program's numbers. -/
namespace Go.Proofs.YtoedefjngipeiaaGreatDoor
open Go.ChangeShapes Go.WideShapes Go.RowKit

theorem length_any (B N c : Nat) (R : List Value) (t : TypeId) (w : World) (hc : c ≤ 151) (hk : cntOk c N) (h : LB w B c (dg N) R t) :
    Calls Tryz.prog 111 #[.pointer (some ⟨B, 0, none⟩)] w fun e w' => e = .returned (.int .i64 (bitLen N : Int)) ∧ ∃ n, w' = w.drewN n := by
  have HW : Hid _ := fun v w => width_any v w
  have hcnt := h.cnt
  by_cases h0 : c = 0
  · subst h0
    have h1 : N = 0 := by have := hk.1; rw [Nat.pow_zero] at this; omega
    subst h1
    rw [show bitLen 0 = 0 from rfl]
    clear hk h
    go_enter Tryz.func111, Tryz.ntmps111
    go_wp2
    go_ret
    exact ⟨rfl, 0, rfl⟩
  · obtain ⟨j, rfl⟩ : ∃ j, c = j + 1 := ⟨c - 1, by omega⟩
    have hl := len_words hk (by omega)
    rw [Nat.add_sub_cancel] at hl
    have hw := h.wrd' j (by omega)
    have hj : (j : Int) < 151 := by omega
    have hb : ((j : Int) + 1 == 0) = false := beq_eq_false_iff_ne.2 (by omega)
    rw [show ((j + 1 : Nat) : Int) = (j : Int) + 1 by omega] at hcnt
    have hd := dg_lt N j
    generalize dg N j = d at *
    have HL : Hid _ := fun w => len64_any (d : Int) (by omega) (by omega) w
    rw [Int.toNat_natCast] at HL
    have h64 : bitLen d ≤ 64 := by
      have := bitLen_spec d
      rcases Nat.lt_or_ge 64 (bitLen d) with h | h
      · have h1 : d ≠ 0 := by rintro rfl; simp [bitLen] at h
        have h2 := this.2 h1
        have h3 : (2 : Nat) ^ 64 ≤ 2 ^ (bitLen d - 1) := Nat.pow_le_pow_right (by omega) (by omega)
        have h4 : (2 : Nat) ^ 64 = 18446744073709551616 := rfl
        omega
      · exact h
    rw [← hl]
    generalize bitLen d = L at *
    clear hk h hl h0
    go_enter Tryz.func111, Tryz.ntmps111
    go_wp2
    go_quiet (first | (go_at_call 110; exact Calls.quiet_of_same (HW.out _ _)) | (go_at_call 115; exact Calls.quiet_of_same (HL.out _)))
    go_wp2
    go_ret
    exact ⟨by congr 2, _, rfl⟩

/-- What is said of two numbers' order. -/
def ordN (N M : Nat) : Int := if N < M then -1 else if M < N then 1 else 0
theorem isNaN32_any (x : Int) (w : World) :
    Calls Tryz.prog 121 #[.int .u32 x] w fun e w' => e = .returned (.bool false) ∧ w' = w := by
  go_enter Tryz.func121, Tryz.ntmps121
  go_wp2
  go_ret
  exact ⟨rfl, rfl⟩
theorem cmp32_any (a b : Nat) (w : World) (hne : a ≠ b) :
    Calls Tryz.prog 120 #[.int .u32 (a : Int), .int .u32 (b : Int)] w fun e w' => e = .returned (.int .i64 (if a < b then -1 else 1)) ∧ w' = w := by
  have HN : Hid _ := fun x w => isNaN32_any x w
  by_cases h1 : a < b
  · rw [if_pos h1]
    have h1' : (a : Int) < (b : Int) := by omega
    go_enter Tryz.func120, Tryz.ntmps120
    go_wp2_with (go_at_call 121; refine (HN.out _ _).mono ?_; rintro e w' ⟨rfl, rfl⟩)
    go_ret
    exact ⟨rfl, rfl⟩
  · rw [if_neg h1]
    have h2 : (b : Int) < (a : Int) := by omega
    go_enter Tryz.func120, Tryz.ntmps120
    go_wp2_with (go_at_call 121; refine (HN.out _ _).mono ?_; rintro e w' ⟨rfl, rfl⟩)
    go_ret
    exact ⟨rfl, rfl⟩
set_option maxHeartbeats 1000000 in
set_option maxRecDepth 100000 in
theorem order_any (B N M c k : Nat) (R : List Value) (t : TypeId) (w : World) (hc : c ≤ 151) (hk : k ≤ 151) (hN : cntOk c N) (hM : cntOk k M) (h : LB w B c (dg N) R t) :
    Calls Tryz.prog 113 #[.pointer (some ⟨B, 0, none⟩), lgV k M] w fun e w' => e = .returned (.int .i64 (ordN N M)) ∧ Below w.heap.size w w' := by
  have HN : Hid (cntOk c N) := hN
  have HM : Hid (cntOk k M) := hM
  have HL : Hid (LB w B c (dg N) R t) := h
  have hlt := h.lt
  have h0 : (lgL k (dg M)).toArray = blk k (dg M) [] := by unfold blk; rw [List.append_nil]
  unfold lgV
  rw [h0]
  have HB1 : Hid (LB (w.alloc (.cells (blk k (dg M) []) 156)) B c (dg N) R t) := h.alloc _
  have HB2 : Hid (LB (w.alloc (.cells (blk k (dg M) []) 156)) w.heap.size k (dg M) [] 156) := LB.new w k (dg M) [] _
  obtain ⟨C, hC⟩ : ∃ C, blk k (dg M) [] = C := ⟨_, rfl⟩
  rw [hC] at HB1 HB2 ⊢
  clear hN hM h h0 hC
  obtain ⟨W, hW⟩ : ∃ W, w.alloc (.cells C 156) = W := ⟨_, rfl⟩
  rw [hW] at HB1 HB2
  have HBW : Hid (Below w.heap.size w W) := by rw [← hW]; exact (Below.refl _ w).alloc (Nat.le_refl _) _
  have hc1 := HB1.out.cnt
  have hc2 := HB2.out.cnt
  obtain ⟨D, hD⟩ : ∃ D, w.heap.size = D := ⟨_, rfl⟩
  have HD : Hid (w.heap.size = D) := hD
  go_enter Tryz.func113, Tryz.ntmps113
  go_wp2
  rw [hD] at hc2 HB2 hlt
  clear hW hD HL
  go_region_held3 (fun w' => w'.cell? ⟨B, 0, none⟩ = some (.int .i64 (c : Int)) ∧ w'.cell? ⟨D, 0, none⟩ = some (.int .i64 (k : Int))) (go_keep) (fail)
  all_goals go_wp2
  all_goals
    have HST : Hid (∃ j : Nat, j ≤ 151 ∧ c ≤ j ∧ k ≤ j ∧ (if c < k then IntKind.i64.wrap ((k : Int) - 1) else IntKind.i64.wrap ((c : Int) - 1)) = (j : Int) - 1) := by
      by_cases hck : c < k
      · refine ⟨k, hk, by omega, by omega, ?_⟩
        rw [if_pos hck, IntKind.wrap_i64]; omega
      · refine ⟨c, hc, by omega, by omega, ?_⟩
        rw [if_neg hck, IntKind.wrap_i64]; omega
    first
      | rw [if_pos (show c < k by assumption)] at HST
      | rw [if_neg (show ¬ c < k by assumption)] at HST
    clear hc1 hc2
    go_loopw [5] (fun iv wl => ∃ (j : Nat) (x : Int), iv = .int .i64 x ∧ x = (j : Int) - 1 ∧ j ≤ 151 ∧ Hid (N / be ^ j = M / be ^ j) ∧ Hid (LB wl B c (dg N) R t) ∧ Hid (LB wl D k (dg M) [] 156) ∧ Hid (Below w.heap.size w wl)) (fun iv _ => (intOf iv + 1).toNat)
    case atStart =>
      obtain ⟨j, h1, h2, h3, h4⟩ := HST.out
      refine ⟨j, _, rfl, h4, h1, ?_, HB1.out.drewN 1, HB2.out.drewN 1, HBW.out.drew⟩
      show N / be ^ j = M / be ^ j
      rw [Nat.div_eq_of_lt (Nat.lt_of_lt_of_le HN.out.1 (bpow_le h2)), Nat.div_eq_of_lt (Nat.lt_of_lt_of_le HM.out.1 (bpow_le h3))]
    case round =>
      clear HST HBW HB1 HB2
      obtain ⟨j, x, rfl, hx, hj, HE, HB1, HB2, HBW⟩ := hrel
      by_cases h0 : 0 < j
      · obtain ⟨i, rfl⟩ : ∃ i, j = i + 1 := ⟨j - 1, by omega⟩
        obtain rfl : x = (i : Int) := by omega
        have hi0 : (0 : Int) ≤ (i : Int) := by omega
        have hi1 : (i : Int) < 151 := by omega
        have hw1 := HB1.out.wrd' i (by omega)
        have hw2 := HB2.out.wrd' i (by omega)
        obtain ⟨e1, e2⟩ := dg_cmp N M i HE.out
        have HE1 : Hid _ := fun (_ : Unit) => e1
        have HE2 : Hid _ := fun (_ : Unit) => e2
        generalize dg N i = d1 at *
        generalize dg M i = d2 at *
        clear h0 hx e1 e2
        by_cases hd : d1 = d2
        · subst hd
          go_wp2
          go_quiet (fail)
          go_wp2
          refine ⟨⟨i, _, rfl, rfl, by omega, ?_, HB1.out.drewN _, HB2.out.drewN _, below_drewN HBW.out _⟩, ?_⟩
          · show N / be ^ i = M / be ^ i
            rw [HE1.out (), HE2.out ()]
          · show ((i : Int) - 1 + 1).toNat < ((i : Int) + 1).toNat; omega
        · have hb : ((d1 : Int) == (d2 : Int)) = false := beq_eq_false_iff_ne.2 (by omega)
          have HR : Hid ((if d1 < d2 then (-1 : Int) else 1) = ordN N M) := by
            show _ = ordN N M
            unfold ordN
            by_cases hl : d1 < d2
            · rw [if_pos hl, if_pos (div_lt_of N M i (by rw [HE1.out (), HE2.out ()]; omega))]
            · have : M < N := div_lt_of M N i (by rw [HE1.out (), HE2.out ()]; omega)
              rw [if_neg hl, if_neg (by omega), if_pos this]
          have HC : Hid (∀ w, Calls Tryz.prog 120 #[.int .u32 (d1 : Int), .int .u32 (d2 : Int)] w fun e w' => e = .returned (.int .i64 (ordN N M)) ∧ w' = w) := fun w => by rw [← HR.out]; exact cmp32_any d1 d2 w hd
          clear hd
          go_wp2
          go_quiet (fail)
          go_wp2
          go_region_held3 (fun w' => w'.cell? ⟨B, 1 + i, none⟩ = some (.int .u32 (d1 : Int)) ∧ w'.cell? ⟨D, 1 + i, none⟩ = some (.int .u32 (d2 : Int))) (go_keep) (first | (go_at_call 120; refine (HC.out _).mono ?_; rintro e w' ⟨rfl, rfl⟩))
          all_goals go_wp2
          go_ret
          exact ⟨rfl, (below_drewN HBW.out _).drew⟩
      · have h0' : decide ((0 : Int) ≤ x) = false := decide_eq_false (by omega)
        obtain rfl : j = 0 := by omega
        have HR : Hid (ordN N M = 0) := by
          show ordN N M = 0
          have h := HE.out
          rw [Nat.pow_zero, Nat.div_one, Nat.div_one] at h
          unfold ordN; rw [h, if_neg (by omega), if_neg (by omega)]
        go_wp2
        go_ret
        exact ⟨by rw [HR.out]; rfl, HBW.out⟩
end Go.Proofs.YtoedefjngipeiaaGreatDoor

/- subtract of the program's numbers. -/
namespace Go.Proofs.YtoedefjngipeiaaGreatDoor
open Go.ChangeShapes Go.WideShapes Go.RowKit

set_option maxHeartbeats 1000000 in
set_option maxRecDepth 100000 in
theorem sub_any (B N M c k : Nat) (R : List Value) (t : TypeId) (w : World) (hc : c ≤ 151) (hle : M ≤ N) (hN : cntOk c N) (h : LB w B c (dg N) R t) :
    Calls Tryz.prog 114 #[.pointer (some ⟨B, 0, none⟩), lgV k M] w fun e w' => e = .returned (.tuple #[]) ∧ Mod B w w' ∧ Lg w' B (N - M) R t := by
  have HN : Hid (cntOk c N) := hN
  have HLE : Hid (M ≤ N) := hle
  have hlt := h.lt
  have h0 : (lgL k (dg M)).toArray = blk k (dg M) [] := by unfold blk; rw [List.append_nil]
  unfold lgV
  rw [h0]
  have HB1 : Hid (LB (w.alloc (.cells (blk k (dg M) []) 156)) B c (dg N) R t) := h.alloc _
  have HB2 : Hid (LB (w.alloc (.cells (blk k (dg M) []) 156)) w.heap.size k (dg M) [] 156) := LB.new w k (dg M) [] _
  obtain ⟨C, hC⟩ : ∃ C, blk k (dg M) [] = C := ⟨_, rfl⟩
  rw [hC] at HB1 HB2 ⊢
  clear hN h h0 hC hle
  obtain ⟨W, hW⟩ : ∃ W, w.alloc (.cells C 156) = W := ⟨_, rfl⟩
  rw [hW] at HB1 HB2
  have HBW : Hid (Mod B w W) := by rw [← hW]; exact (Mod.refl _ w).alloc _
  have hc1 := HB1.out.cnt
  obtain ⟨D, hD⟩ : ∃ D, w.heap.size = D := ⟨_, rfl⟩
  have HD : Hid (w.heap.size = D) := hD
  go_enter Tryz.func114, Tryz.ntmps114
  go_wp2
  rw [hD] at HB2 hlt
  clear hW hD
  go_loopw [4, 11] (fun bv iv wl => ∃ (i b : Nat), iv = .int .i64 (i : Int) ∧ bv = .int .u64 (b : Int) ∧ i ≤ c ∧ b ≤ 1 ∧ Hid (bor N M i = b) ∧ Hid (LB wl B c (wmid N (N - M) i) R t) ∧ Hid (LB wl D k (dg M) [] 156) ∧ Hid (Mod B w wl)) (fun _ iv _ => c - (intOf iv).toNat)
  case atStart => exact ⟨0, 0, rfl, rfl, Nat.zero_le _, by omega, bor_zero N M, HB1.out, HB2.out, HBW.out⟩
  case round =>
    clear hc1 HB1 HB2 HBW
    obtain ⟨i, b, rfl, rfl, hi, hb, HBo, HB1, HB2, HBW⟩ := hrel
    by_cases hic : i < c
    · have hic' : (i : Int) < (c : Int) := by omega
      have hi1 : (i : Int) < 151 := by omega
      have hw1 := HB1.out.wrd' i (by omega)
      rw [wmid_at] at hw1
      have hw2 := HB2.out.wrd' i (by omega)
      have hfr := HB1.out.froz (1 + i)
      have n2 := dg_lt N i
      have m2 := dg_lt M i
      have HS1 : Hid _ := fun (_ : Unit) => bor_step N M i
      have HS2 : Hid _ := fun (_ : Unit) => bor_word N M i HLE.out
      rw [HBo.out] at HS1 HS2
      generalize dg N i = d1 at *
      generalize dg M i = d2 at *
      go_wp2
      go_quiet (fail)
      go_wp2
      have ev : IntKind.u64.wrap (IntKind.u64.wrap ((d1 : Int) - d2) - b) % 4294967296 = ((dg (N - M) i : Nat) : Int) := by
        rw [HS2.out (), IntKind.wrap_u64, IntKind.wrap_u64, be_eq]
        by_cases hq : d1 < d2 + b
        · rw [if_pos hq]; omega
        · rw [if_neg hq]; omega
      have eb : IntKind.u64.wrap (IntKind.u64.wrap ((d1 : Int) - d2) - b) / 9223372036854775808 = ((bor N M (i + 1) : Nat) : Int) := by
        rw [HS1.out (), IntKind.wrap_u64, IntKind.wrap_u64]
        by_cases hq : d1 < d2 + b
        · rw [if_pos hq]; omega
        · rw [if_neg hq]; omega
      rw [ev, eb]
      have h1 := HB1.out.setw' i (dg (N - M) i) (by omega)
      rw [wmid_step] at h1
      have hne : D ≠ B := by have := hlt; omega
      refine ⟨⟨i + 1, bor N M (i + 1), rfl, rfl, by omega, bor_le _ _ _, rfl, (HB1.out.drewN nq).setw' i (dg (N - M) i) (by omega) |>.congr _ (fun j _ => by rw [wmid_step]), ?_, (HBW.out.drewN _).setCell _ _⟩, ?_⟩
      · exact (HB2.out.drewN nq).other ((Mod.refl B _).setCell _ _) hne
      · show c - ((i : Int) + 1).toNat < c - (i : Int).toNat; omega
    · have hic' : decide ((i : Int) < (c : Int)) = false := decide_eq_false (by omega)
      obtain rfl : i = c := by omega
      have hlt2 : Hid (N - M < be ^ i) := Nat.lt_of_le_of_lt (Nat.sub_le _ _) HN.out.1
      have HT : Hid (LB wr B i (dg (N - M)) R t) := HB1.out.congr _ fun j _ => wmid_end N (N - M) i HN.out.1 hlt2.out j
      go_wp2_with (go_at_call 119; refine (trim_any B (N - M) i R t _ hc hlt2.out HT.out).mono ?_; rintro e w' ⟨rfl, hm1, hg⟩)
      go_end0
      exact ⟨rfl, HBW.out.trans hm1, hg⟩
end Go.Proofs.YtoedefjngipeiaaGreatDoor

/- The program's long division, and the float that comes of it: plain. -/
namespace Go.Proofs.YtoedefjngipeiaaGreatDoor
open Ieee (double)

/-- After k rounds: the bits so far, and what is left, doubled. -/
def Lng (A B k q t : Nat) : Prop := A * 2 ^ k = 2 * q * B + t ∧ t < 2 * B ∧ q < 2 ^ k
theorem lng_start (A B : Nat) (h : A < 2 * B) : Lng A B 0 0 A := ⟨by simp, h, by simp⟩
theorem lng_no {A B k q t : Nat} (h : Lng A B k q t) (ht : t < B) : Lng A B (k + 1) (2 * q) (2 * t) := by
  obtain ⟨h1, h2, h3⟩ := h
  refine ⟨?_, by omega, by rw [Nat.pow_succ]; omega⟩
  rw [Nat.pow_succ, ← Nat.mul_assoc, h1, Nat.mul_comm _ 2, Nat.mul_add, ← Nat.mul_assoc, ← Nat.mul_assoc]
theorem lng_yes {A B k q t : Nat} (h : Lng A B k q t) (ht : B ≤ t) : Lng A B (k + 1) (2 * q + 1) (2 * (t - B)) := by
  obtain ⟨h1, h2, h3⟩ := h
  refine ⟨?_, by omega, by rw [Nat.pow_succ]; omega⟩
  rw [Nat.pow_succ, ← Nat.mul_assoc, h1, Nat.mul_comm _ 2, Nat.mul_add, show 2 * (2 * q + 1) * B = 2 * (2 * q * B) + 2 * B by rw [Nat.mul_add, Nat.add_mul, Nat.mul_one, Nat.mul_assoc 2 (2 * q) B]]
  omega
theorem lng_end {A B k q t : Nat} (hB : 0 < B) (h : Lng A B (k + 1) q t) : A * 2 ^ k / B = q ∧ (A * 2 ^ k % B = 0 ↔ t = 0) := by
  obtain ⟨h1, h2, h3⟩ := h
  rw [Nat.pow_succ, ← Nat.mul_assoc, Nat.mul_assoc 2 q B] at h1
  generalize A * 2 ^ k = X at *
  have e : X = B * q + t / 2 := by rw [Nat.mul_comm B q]; omega
  have h4 : t / 2 < B := by omega
  have h5 : t % 2 = 0 := by omega
  constructor
  · rw [e, Nat.mul_add_div hB, Nat.div_eq_of_lt h4, Nat.add_zero]
  · rw [e, Nat.mul_add_mod, Nat.mod_eq_of_lt h4]; omega
/-- The lowest bit is 1 too where something is left. -/
def stk (q t : Nat) : Nat := if t = 0 then q else oddOf q
theorem stk_at (A B q t : Nat) (E : Int) (hB : 0 < B) (h : Lng A B 64 q t) (hq : 18014398509481984 ≤ q) : fw false (stk q t) E = ratioAt (A * 2 ^ 63) B E := by
  obtain ⟨h1, h2⟩ := lng_end (k := 63) hB h
  unfold stk ratioAt
  rw [h1]
  by_cases ht : t = 0
  · rw [if_pos ht, if_pos (h2.2 ht)]
  · rw [if_neg ht, if_neg (fun x => ht (h2.1 x)), fw_stick false q E hq]
/-- Equal lengths: the quotient has 63 digits at least. -/
theorem lng_long {A B k q t L : Nat} (hB : 0 < B) (h : Lng A B (k + 1) q t) (hA1 : 2 ^ L ≤ A) (hB1 : B < 2 ^ (L + 1)) (hk : 1 ≤ k) : 2 ^ (k - 1) ≤ q := by
  obtain ⟨h1, _⟩ := lng_end hB h
  rw [← h1, Nat.le_div_iff_mul_le hB]
  have a : 2 ^ (k - 1) * B ≤ 2 ^ (k - 1) * 2 ^ (L + 1) := Nat.mul_le_mul_left _ (Nat.le_of_lt hB1)
  have b : 2 ^ L * 2 ^ k ≤ A * 2 ^ k := Nat.mul_le_mul_right _ hA1
  rw [← Nat.pow_add] at a b
  rw [show k - 1 + (L + 1) = L + k by omega] at a
  omega
/-- A power of two beside. -/
theorem ratioW_pow (A C a c x y : Nat) (E : Int) (hA : 0 < A) (hC : 0 < C) (h : 9007199254740992 ≤ A * 2 ^ a / (C * 2 ^ c)) (hE : E = (c : Int) - a + ((x : Int) - y)) :
    ratioAt (A * 2 ^ a) (C * 2 ^ c) E = ratioW (A * 2 ^ x) (C * 2 ^ y) := by
  have e1 : A * 2 ^ x * 2 ^ (a + y) = A * 2 ^ a * 2 ^ (x + y) := by rw [Nat.mul_assoc, ← Nat.pow_add, Nat.mul_assoc, ← Nat.pow_add]; congr 2; omega
  have e2 : C * 2 ^ y * 2 ^ (c + x) = C * 2 ^ c * 2 ^ (x + y) := by rw [Nat.mul_assoc, ← Nat.pow_add, Nat.mul_assoc, ← Nat.pow_add]; congr 2; omega
  have hq : 9007199254740992 ≤ A * 2 ^ x * 2 ^ (a + y) / (C * 2 ^ y * 2 ^ (c + x)) := by rw [e1, e2, Nat.mul_div_mul_right _ _ (Nat.two_pow_pos _)]; exact h
  rw [← ratioW_at (A * 2 ^ x) (C * 2 ^ y) (a + y) (c + x) (Nat.mul_pos hA (Nat.two_pow_pos _)) (Nat.mul_pos hC (Nat.two_pow_pos _)) hq, e1, e2, ratio_scale _ _ _ _ (Nat.two_pow_pos _)]
  congr 1
  omega
/-- What the program's division answers: A' = A * 2^a, C' = C * 2^c of equal length. -/
theorem quo_word (A C a c q t x y L : Nat) (E : Int) (hA : 0 < A) (hC : 0 < C) (h : Lng (A * 2 ^ a) (C * 2 ^ c) 64 q t) (hL : 2 ^ L ≤ A * 2 ^ a) (hL' : C * 2 ^ c < 2 ^ (L + 1)) (hE : E = (c : Int) - a - 63 + ((x : Int) - y)) :
    fw false (stk q t) E = ratioW (A * 2 ^ x) (C * 2 ^ y) := by
  have hB : 0 < C * 2 ^ c := Nat.mul_pos hC (Nat.two_pow_pos _)
  have hq : 2 ^ (63 - 1) ≤ q := lng_long hB h hL hL' (by omega)
  have hq' : 18014398509481984 ≤ q := Nat.le_trans (by decide) hq
  rw [stk_at _ _ q t E hB h hq', Nat.mul_assoc, ← Nat.pow_add]
  refine ratioW_pow A C (a + 63) c x y E hA hC ?_ (by omega)
  rw [Nat.pow_add, ← Nat.mul_assoc, (lng_end hB h).1]
  omega
/-- Powers of ten by those of five and two. -/
theorem dec_five (V K : Nat) (hV : 0 < V) : decW 10 V K = ratioW (V * 5 ^ K * 2 ^ K) (1 * 2 ^ 0) := by
  unfold decW
  rw [if_neg (by omega), Int.toNat_natCast, show (-(K : Int)).toNat = 0 by omega, Nat.pow_zero, Nat.mul_assoc, ← Nat.mul_pow]
theorem dec_fifth (V K : Nat) (hV : 0 < V) : decW 10 V (-(K : Int)) = ratioW (V * 2 ^ 0) (5 ^ K * 2 ^ K) := by
  unfold decW
  rw [if_neg (by omega), show (-(-(K : Int))).toNat = K by omega, show (-(K : Int)).toNat = 0 by omega, Nat.pow_zero, ← Nat.mul_pow]
theorem dec_nil (e : Int) : decW 10 0 e = 0 := by unfold decW; rw [if_pos rfl]
/-- Beyond both ends the power no longer counts. -/
theorem dec_clamp (V : Nat) (e : Int) (len : Nat) (hV : V < 10 ^ len) (hl : len ≤ 1200) : decW 10 V e = decW 10 V (min (max e (-1530)) 310) := by
  by_cases h0 : V = 0
  · subst h0; rw [dec_nil, dec_nil]
  · by_cases h1 : e < -1530
    · rw [show min (max e (-1530)) 310 = -1530 by omega]
      have hk : ∀ e : Int, e ≤ -1530 → decW 10 V e = 0 := by
        intro e he
        unfold decW
        rw [if_neg h0]
        obtain ⟨k, hk⟩ : ∃ k : Nat, (k : Int) = -e - 1200 := ⟨(-e - 1200).toNat, by omega⟩
        have h1 : V * 10 ^ e.toNat = V := by rw [show e.toNat = 0 by omega, Nat.pow_zero, Nat.mul_one]
        rw [h1]
        obtain ⟨t, ht⟩ : ∃ t : Nat, t = 10 := ⟨_, rfl⟩
        obtain ⟨b, hb⟩ : ∃ b, b = 109 * t + 3 * (k - 33 * t) := ⟨_, rfl⟩
        refine ratio_under _ _ b (by omega) (by omega) ?_
        have h3 : 2 ^ b ≤ 10 ^ k := by
          rw [hb, Nat.pow_add]
          obtain ⟨j, hj⟩ : ∃ j, k = 33 * t + j := ⟨k - 33 * t, by omega⟩
          rw [hj, Nat.add_sub_cancel_left, Nat.pow_add, Nat.pow_mul 2 109 t, Nat.pow_mul 10 33 t]
          exact Nat.mul_le_mul (Nat.pow_le_pow_left (by decide) t) (ten_lo j)
        obtain ⟨l, hl'⟩ : ∃ l : Nat, l = 1200 := ⟨_, rfl⟩
        have h2 : V * 2 ^ b ≤ 10 ^ l * 10 ^ k := Nat.mul_le_mul (Nat.le_of_lt (Nat.lt_of_lt_of_le hV (Nat.pow_le_pow_right (by omega) (by omega)))) h3
        rw [← Nat.pow_add, show l + k = (-e).toNat by omega] at h2
        exact h2
      rw [hk e (by omega), hk (-1530) (by omega)]
    · by_cases h2 : 310 < e
      · rw [show min (max e (-1530)) 310 = 310 by omega]
        have hk : ∀ e : Int, 310 ≤ e → decW 10 V e = iw false := by
          intro e he
          unfold decW
          rw [if_neg h0]
          obtain ⟨k, hk⟩ : ∃ k : Nat, e = 310 + (k : Int) := ⟨(e - 310).toNat, by omega⟩
          obtain ⟨t, ht⟩ : ∃ t : Nat, t = 5 := ⟨_, rfl⟩
          refine ratio_over _ _ (205 * t) (Nat.pow_pos (by omega)) (by omega) ?_
          rw [show (-e).toNat = 0 by omega, show e.toNat = 62 * t + k by omega, Nat.pow_zero, Nat.one_mul, Nat.pow_add]
          have c1 : 2 ^ (205 * t) ≤ 10 ^ (62 * t) := by rw [Nat.pow_mul, Nat.pow_mul]; exact Nat.pow_le_pow_left (by decide) t
          have a : 2 ^ (205 * t) * 1 ≤ 10 ^ (62 * t) * 10 ^ k := Nat.mul_le_mul c1 (Nat.pow_pos (by omega))
          have b : 1 * (10 ^ (62 * t) * 10 ^ k) ≤ V * (10 ^ (62 * t) * 10 ^ k) := Nat.mul_le_mul_right _ (by omega)
          omega
        rw [hk e (by omega), hk 310 (by omega)]
      · rw [show min (max e (-1530)) 310 = e by omega]
/-- The sign beside the word. -/
theorem fw_sgn (s : Bool) (m : Nat) (p : Int) : fw s m p = signBit s + fw false m p := by
  by_cases h0 : m = 0
  · subst h0; rw [fw_zero, fw_zero]; rfl
  · rw [fw_place s m p (by omega), fw_place false m p (by omega)]
    show _ = signBit s + (0 + _)
    rw [Nat.zero_add]
end Go.Proofs.YtoedefjngipeiaaGreatDoor

