import Derived.Test.YtoedefjngipeiaaGreatDoorA41
import Derived.Test.YtoedefjngipeiaaGreatDoorA40
/- shift of the program's numbers. -/
namespace Go.Proofs.YtoedefjngipeiaaGreatDoor
open Go.ChangeShapes Go.WideShapes Go.RowKit

/-- The two halves of a shifted word. -/
theorem or_sh (a1 a2 m n : Nat) (hm : m < 32) (hn : n = 32 - m) (hb2 : a2 < 4294967296) : bits .or .u32 ((a1 : Int) * 2 ^ m % 4294967296) ((a2 : Int) / 2 ^ n) = ((a1 * 2 ^ m % be + a2 / 2 ^ n : Nat) : Int) := by
  have hb : be = 2 ^ n * 2 ^ m := by rw [← Nat.pow_add, show n + m = 32 by omega]; rfl
  have e1 : (a1 : Int) * 2 ^ m % 4294967296 = ((a1 * 2 ^ m % be : Nat) : Int) := by
    rw [Int.natCast_emod, Int.natCast_mul, Int.natCast_pow]; rfl
  have e2 : (a2 : Int) / 2 ^ n = ((a2 / 2 ^ n : Nat) : Int) := by rw [Int.natCast_ediv, Int.natCast_pow]; rfl
  rw [e1, e2]
  have h1 : a2 / 2 ^ n < 2 ^ m := by rw [Nat.div_lt_iff_lt_mul (Nat.two_pow_pos n), Nat.mul_comm, ← hb]; exact hb2
  have h2 : a1 * 2 ^ m % be = 2 ^ m * (a1 % 2 ^ n) := by rw [hb, Nat.mul_mod_mul_right, Nat.mul_comm]
  have h3 : a2 / 2 ^ n < 4294967296 := Nat.lt_of_le_of_lt (Nat.div_le_self _ _) hb2
  rw [u32_or_nat (a1 * 2 ^ m % be) (a2 / 2 ^ n) (Nat.mod_lt _ be_pos) h3, h2, ← Nat.two_pow_add_eq_or_of_lt h1]
/-- The words while a number is shifted: from the i-th on they are done. -/
def wtop (N M i : Nat) : Nat → Nat := fun j => if j < i then dg N j else dg M j
theorem wtop_step (N M i : Nat) : upd (wtop N M (i + 1)) i (dg M i) = wtop N M i := by
  funext j
  unfold upd wtop
  by_cases h : j = i
  · subst h; rw [if_pos rfl, if_neg (by omega)]
  · rw [if_neg h]
    by_cases h' : j < i
    · rw [if_pos h', if_pos (by omega)]
    · rw [if_neg h', if_neg (by omega)]
theorem wtop_low (N M i j : Nat) (h : j < i) : wtop N M i j = dg N j := by unfold wtop; rw [if_pos h]
set_option maxHeartbeats 2000000 in
set_option maxRecDepth 100000 in
theorem shift_any (B N s : Nat) (R : List Value) (t : TypeId) (w : World) (c : Nat) (hk : cntOk c N) (h : LB w B c (dg N) R t) (hs : c + s / 32 + 1 ≤ 151) :
    Calls Tryz.prog 112 #[.pointer (some ⟨B, 0, none⟩), .int .i64 (s : Int)] w fun e w' => e = .returned (.tuple #[]) ∧ Mod B w w' ∧ Lg w' B (N * 2 ^ s) R t := by
  have HW : Hid _ := fun v w => width_any v w
  have HK : Hid (cntOk c N) := hk
  have HL : Hid (LB w B c (dg N) R t) := h
  obtain ⟨q, hq⟩ : ∃ q, s / 32 = q := ⟨_, rfl⟩
  obtain ⟨m, hm⟩ : ∃ m, s % 32 = m := ⟨_, rfl⟩
  obtain ⟨M, hM⟩ : ∃ M, N * 2 ^ s = M := ⟨_, rfl⟩
  have HQ : Hid (s / 32 = q) := hq
  have HR : Hid (s % 32 = m) := hm
  have HM : Hid (N * 2 ^ s = M) := hM
  have hm1 : m < 32 := by omega
  have hs1 : (s : Int) / 32 = (q : Int) := by omega
  have hs2 : (s : Int) % 32 = (m : Int) := by omega
  have hs0 : (s : Int) ≤ 4831 := by omega
  rw [hM]
  rw [hq] at hs
  have hcnt := h.cnt
  have hfr := h.froz 0
  clear hk h hM hq hm
  go_enter Tryz.func112, Tryz.ntmps112
  go_wp2
  go_quiet (first | (go_at_call 110; exact Calls.quiet_of_same (HW.out _ _)))
  go_wp2
  simp only [hs2]
  have HMB : Hid (M < be ^ (c + q + 1)) := by
    show M < be ^ (c + q + 1)
    have h1 : N * 2 ^ s < be ^ c * 2 ^ s := Nat.mul_lt_mul_of_pos_right HK.out.1 (Nat.two_pow_pos s)
    have h2 : be ^ c * 2 ^ s ≤ be ^ (c + q + 1) := by
      rw [be_two, be_two, ← Nat.pow_add]
      exact Nat.pow_le_pow_right (by omega) (by have := HQ.out; have := HR.out; omega)
    rw [← HM.out]; omega
  go_loopw [6] (fun iv wl => ∃ (i : Nat) (x : Int), iv = .int .i64 x ∧ x = (i : Int) - 1 ∧ i ≤ c + q + 1 ∧ Hid (LB wl B (c + q + 1) (wtop N M i) R t) ∧ Hid (Mod B w wl)) (fun iv _ => (intOf iv + 1).toNat)
  case atStart =>
    refine ⟨c + q + 1, _, rfl, by omega, Nat.le_refl _, ?_, (Mod.refl B w).drewN _ |>.setCell _ _⟩
    have h1 := ((HL.out.drewN nq).setc (c + q + 1)).congr (wtop N M (c + q + 1)) fun j _ => by
      unfold wtop
      split
      · rfl
      · rw [dg_above N j (c + q + 1) (Nat.lt_of_lt_of_le HK.out.1 (bpow_le (by omega))) (by omega), dg_above M j (c + q + 1) HMB.out (by omega)]
    rw [show ((c + q + 1 : Nat) : Int) = (c : Int) + ((q : Int) + 1) by omega] at h1
    exact h1
  case round =>
    clear hcnt hfr
    obtain ⟨i, x, rfl, hx, hi, HB, HMd⟩ := hrel
    by_cases h0 : 0 < i
    · obtain ⟨k, rfl⟩ : ∃ k, i = k + 1 := ⟨i - 1, by omega⟩
      obtain rfl : x = (k : Int) := by omega
      have hk0 : (0 : Int) ≤ (k : Int) := by omega
      have hk1 : (k : Int) < 151 := by omega
      obtain ⟨a1, ha1⟩ : ∃ a1 : Nat, a1 = (if (k : Int) - (q : Int) < 0 then 0 else dg N (k - q)) := ⟨_, rfl⟩
      obtain ⟨a2, ha2⟩ : ∃ a2 : Nat, a2 = (if (k : Int) - (q : Int) - 1 < 0 then 0 else dg N (k - q - 1)) := ⟨_, rfl⟩
      have hb1 : a1 < 4294967296 := by rw [ha1]; split; · omega
                                       · exact dg_lt _ _
      have hb2 : a2 < 4294967296 := by rw [ha2]; split; · omega
                                       · exact dg_lt _ _
      have HA1 : Hid (∀ W : World, LB W B (c + q + 1) (wtop N M (k + 1)) R t → Calls Tryz.prog 118 #[.pointer (some ⟨B, 0, none⟩), .int .i64 ((k : Int) - (q : Int))] W fun e w' => e = .returned (.int .u32 (a1 : Int)) ∧ w' = W) := fun W h => by
        refine (wordAt_any B _ _ R t W h _ (by omega)).mono ?_
        rintro e w' ⟨rfl, rfl⟩
        refine ⟨?_, rfl⟩
        rw [ha1]
        split
        · rfl
        · rw [wtop_low _ _ _ _ (by omega), show ((k : Int) - (q : Int)).toNat = k - q by omega]
      have HA2 : Hid (∀ W : World, LB W B (c + q + 1) (wtop N M (k + 1)) R t → Calls Tryz.prog 118 #[.pointer (some ⟨B, 0, none⟩), .int .i64 ((k : Int) - (q : Int) - 1)] W fun e w' => e = .returned (.int .u32 (a2 : Int)) ∧ w' = W) := fun W h => by
        refine (wordAt_any B _ _ R t W h _ (by omega)).mono ?_
        rintro e w' ⟨rfl, rfl⟩
        refine ⟨?_, rfl⟩
        rw [ha2]
        split
        · rfl
        · rw [wtop_low _ _ _ _ (by omega), show ((k : Int) - (q : Int) - 1).toNat = k - q - 1 by omega]
      have w1 : IntKind.i64.wrap ((k : Int) - (q : Int)) = (k : Int) - (q : Int) := by rw [IntKind.wrap_i64]; omega
      have w2 : IntKind.i64.wrap (IntKind.i64.wrap ((k : Int) - (q : Int)) - 1) = (k : Int) - (q : Int) - 1 := by rw [w1, IntKind.wrap_i64]; omega
      rw [← w1] at HA1
      rw [← w2] at HA2
      clear w1 w2
      have HV1 : Hid (a1 = (if (k : Int) - (q : Int) < 0 then 0 else dg N (k - q))) := ha1
      have HV2 : Hid (a2 = (if (k : Int) - (q : Int) - 1 < 0 then 0 else dg N (k - q - 1))) := ha2
      have hw := HB.out.wrd' k (by omega)
      obtain ⟨n, hn⟩ : ∃ n : Nat, n = 32 - m := ⟨_, rfl⟩
      have HNn : Hid (n = 32 - m) := hn
      have hsh : IntKind.i64.wrap (32 - (m : Int)) = (n : Int) := by rw [IntKind.wrap_i64]; omega
      have hn1 : n ≤ 32 := by omega
      clear hn
      have hfr := HB.out.froz (1 + k)
      clear ha1 ha2 h0 hx
      go_wp2
      go_region_with (first | (go_at_call 110; refine (HW.out _ _).mono ?_; rintro e w' ⟨rfl, rfl⟩) | (go_at_call_of 118 (Value.int .i64 (IntKind.i64.wrap ((k : Int) - (q : Int)))); refine (HA1.out _ (by exact HB.out)).mono ?_; rintro e w' ⟨rfl, rfl⟩) | (go_at_call 118; refine (HA2.out _ (by exact HB.out)).mono ?_; rintro e w' ⟨rfl, rfl⟩))
      go_wp2
      have ev : bits .or .u32 ((a1 : Int) * 2 ^ m % 4294967296) ((a2 : Int) / 2 ^ n) = ((dg M k : Nat) : Int) := by
        rw [or_sh a1 a2 m n hm1 HNn.out hb2, ← HM.out, dg_shift, HQ.out, HR.out, ← HNn.out, HV1.out, HV2.out]
        congr 2
        · by_cases hq : k < q
          · rw [if_pos (by omega), if_pos hq]
          · rw [if_neg (by omega), if_neg hq]
        · by_cases hq : k < q + 1
          · rw [if_pos (by omega), if_pos hq]
          · rw [if_neg (by omega), if_neg hq]
      rw [ev]
      refine ⟨⟨k, (k : Int) - 1, rfl, rfl, by omega, ?_, (HMd.out.setCell _ _).drewN 1⟩, ?_⟩
      · have h1 := HB.out.setw' k (dg M k) (by omega)
        rw [wtop_step] at h1
        exact h1.drewN 1
      · show ((k : Int) - 1 + 1).toNat < ((k : Int) + 1).toNat; omega
    · have h0' : decide ((0 : Int) ≤ x) = false := decide_eq_false (by omega)
      obtain rfl : i = 0 := by omega
      have HT : Hid (LB wr B (c + q + 1) (dg M) R t) := HB.out.congr _ fun j _ => by unfold wtop; rw [if_neg (by omega)]
      go_wp2_with (go_at_call 119; refine (trim_any B M (c + q + 1) R t _ hs HMB.out HT.out).mono ?_; rintro e w' ⟨rfl, hm1, hg⟩)
      go_end0
      exact ⟨rfl, HMd.out.trans hm1, hg⟩
end Go.Proofs.YtoedefjngipeiaaGreatDoor

/- length, order of the program's numbers. -/
namespace Go.Proofs.YtoedefjngipeiaaGreatDoor
open Go.ChangeShapes Go.WideShapes Go.RowKit

theorem length_any (B N c : Nat) (R : List Value) (t : TypeId) (w : World) (hc : c ≤ 151) (hk : cntOk c N) (h : LB w B c (dg N) R t) :
    Calls Tryz.prog 111 #[.pointer (some ⟨B, 0, none⟩)] w fun e w' => e = .returned (.int .i64 (bitLen N : Int)) ∧ ∃ n, w' = w.drewN n := by
  have HW : Hid _ := fun v w => width_any v w
  have hcnt := h.cnt
  by_cases h0 : c = 0
  · subst h0
    have h1 : N = 0 := by have := hk.1; rw [Nat.pow_zero] at this; omega
    subst h1
    rw [show bitLen 0 = 0 from rfl]
    clear hk h
    go_enter Tryz.func111, Tryz.ntmps111
    go_wp2
    go_ret
    exact ⟨rfl, 0, rfl⟩
  · obtain ⟨j, rfl⟩ : ∃ j, c = j + 1 := ⟨c - 1, by omega⟩
    have hl := len_words hk (by omega)
    rw [Nat.add_sub_cancel] at hl
    have hw := h.wrd' j (by omega)
    have hj : (j : Int) < 151 := by omega
    have hb : ((j : Int) + 1 == 0) = false := beq_eq_false_iff_ne.2 (by omega)
    rw [show ((j + 1 : Nat) : Int) = (j : Int) + 1 by omega] at hcnt
    have hd := dg_lt N j
    generalize dg N j = d at *
    have HL : Hid _ := fun w => len64_any (d : Int) (by omega) (by omega) w
    rw [Int.toNat_natCast] at HL
    have h64 : bitLen d ≤ 64 := by
      have := bitLen_spec d
      rcases Nat.lt_or_ge 64 (bitLen d) with h | h
      · have h1 : d ≠ 0 := by rintro rfl; simp [bitLen] at h
        have h2 := this.2 h1
        have h3 : (2 : Nat) ^ 64 ≤ 2 ^ (bitLen d - 1) := Nat.pow_le_pow_right (by omega) (by omega)
        have h4 : (2 : Nat) ^ 64 = 18446744073709551616 := rfl
        omega
      · exact h
    rw [← hl]
    generalize bitLen d = L at *
    clear hk h hl h0
    go_enter Tryz.func111, Tryz.ntmps111
    go_wp2
    go_quiet (first | (go_at_call 110; exact Calls.quiet_of_same (HW.out _ _)) | (go_at_call 115; exact Calls.quiet_of_same (HL.out _)))
    go_wp2
    go_ret
    exact ⟨by congr 2, _, rfl⟩

/-- What is said of two numbers' order. -/
def ordN (N M : Nat) : Int := if N < M then -1 else if M < N then 1 else 0
theorem isNaN32_any (x : Int) (w : World) :
    Calls Tryz.prog 121 #[.int .u32 x] w fun e w' => e = .returned (.bool false) ∧ w' = w := by
  go_enter Tryz.func121, Tryz.ntmps121
  go_wp2
  go_ret
  exact ⟨rfl, rfl⟩
theorem cmp32_any (a b : Nat) (w : World) (hne : a ≠ b) :
    Calls Tryz.prog 120 #[.int .u32 (a : Int), .int .u32 (b : Int)] w fun e w' => e = .returned (.int .i64 (if a < b then -1 else 1)) ∧ w' = w := by
  have HN : Hid _ := fun x w => isNaN32_any x w
  by_cases h1 : a < b
  · rw [if_pos h1]
    have h1' : (a : Int) < (b : Int) := by omega
    go_enter Tryz.func120, Tryz.ntmps120
    go_wp2_with (go_at_call 121; refine (HN.out _ _).mono ?_; rintro e w' ⟨rfl, rfl⟩)
    go_ret
    exact ⟨rfl, rfl⟩
  · rw [if_neg h1]
    have h2 : (b : Int) < (a : Int) := by omega
    go_enter Tryz.func120, Tryz.ntmps120
    go_wp2_with (go_at_call 121; refine (HN.out _ _).mono ?_; rintro e w' ⟨rfl, rfl⟩)
    go_ret
    exact ⟨rfl, rfl⟩
set_option maxHeartbeats 1000000 in
set_option maxRecDepth 100000 in
theorem order_any (B N M c k : Nat) (R : List Value) (t : TypeId) (w : World) (hc : c ≤ 151) (hk : k ≤ 151) (hN : cntOk c N) (hM : cntOk k M) (h : LB w B c (dg N) R t) :
    Calls Tryz.prog 113 #[.pointer (some ⟨B, 0, none⟩), lgV k M] w fun e w' => e = .returned (.int .i64 (ordN N M)) ∧ Below w.heap.size w w' := by
  have HN : Hid (cntOk c N) := hN
  have HM : Hid (cntOk k M) := hM
  have HL : Hid (LB w B c (dg N) R t) := h
  have hlt := h.lt
  have h0 : (lgL k (dg M)).toArray = blk k (dg M) [] := by unfold blk; rw [List.append_nil]
  unfold lgV
  rw [h0]
  have HB1 : Hid (LB (w.alloc (.cells (blk k (dg M) []) 156)) B c (dg N) R t) := h.alloc _
  have HB2 : Hid (LB (w.alloc (.cells (blk k (dg M) []) 156)) w.heap.size k (dg M) [] 156) := LB.new w k (dg M) [] _
  obtain ⟨C, hC⟩ : ∃ C, blk k (dg M) [] = C := ⟨_, rfl⟩
  rw [hC] at HB1 HB2 ⊢
  clear hN hM h h0 hC
  obtain ⟨W, hW⟩ : ∃ W, w.alloc (.cells C 156) = W := ⟨_, rfl⟩
  rw [hW] at HB1 HB2
  have HBW : Hid (Below w.heap.size w W) := by rw [← hW]; exact (Below.refl _ w).alloc (Nat.le_refl _) _
  have hc1 := HB1.out.cnt
  have hc2 := HB2.out.cnt
  obtain ⟨D, hD⟩ : ∃ D, w.heap.size = D := ⟨_, rfl⟩
  have HD : Hid (w.heap.size = D) := hD
  go_enter Tryz.func113, Tryz.ntmps113
  go_wp2
  rw [hD] at hc2 HB2 hlt
  clear hW hD HL
  go_region_held3 (fun w' => w'.cell? ⟨B, 0, none⟩ = some (.int .i64 (c : Int)) ∧ w'.cell? ⟨D, 0, none⟩ = some (.int .i64 (k : Int))) (go_keep) (fail)
  all_goals go_wp2
  all_goals
    have HST : Hid (∃ j : Nat, j ≤ 151 ∧ c ≤ j ∧ k ≤ j ∧ (if c < k then IntKind.i64.wrap ((k : Int) - 1) else IntKind.i64.wrap ((c : Int) - 1)) = (j : Int) - 1) := by
      by_cases hck : c < k
      · refine ⟨k, hk, by omega, by omega, ?_⟩
        rw [if_pos hck, IntKind.wrap_i64]; omega
      · refine ⟨c, hc, by omega, by omega, ?_⟩
        rw [if_neg hck, IntKind.wrap_i64]; omega
    first
      | rw [if_pos (show c < k by assumption)] at HST
      | rw [if_neg (show ¬ c < k by assumption)] at HST
    clear hc1 hc2
    go_loopw [5] (fun iv wl => ∃ (j : Nat) (x : Int), iv = .int .i64 x ∧ x = (j : Int) - 1 ∧ j ≤ 151 ∧ Hid (N / be ^ j = M / be ^ j) ∧ Hid (LB wl B c (dg N) R t) ∧ Hid (LB wl D k (dg M) [] 156) ∧ Hid (Below w.heap.size w wl)) (fun iv _ => (intOf iv + 1).toNat)
    case atStart =>
      obtain ⟨j, h1, h2, h3, h4⟩ := HST.out
      refine ⟨j, _, rfl, h4, h1, ?_, HB1.out.drewN 1, HB2.out.drewN 1, HBW.out.drew⟩
      show N / be ^ j = M / be ^ j
      rw [Nat.div_eq_of_lt (Nat.lt_of_lt_of_le HN.out.1 (bpow_le h2)), Nat.div_eq_of_lt (Nat.lt_of_lt_of_le HM.out.1 (bpow_le h3))]
    case round =>
      clear HST HBW HB1 HB2
      obtain ⟨j, x, rfl, hx, hj, HE, HB1, HB2, HBW⟩ := hrel
      by_cases h0 : 0 < j
      · obtain ⟨i, rfl⟩ : ∃ i, j = i + 1 := ⟨j - 1, by omega⟩
        obtain rfl : x = (i : Int) := by omega
        have hi0 : (0 : Int) ≤ (i : Int) := by omega
        have hi1 : (i : Int) < 151 := by omega
        have hw1 := HB1.out.wrd' i (by omega)
        have hw2 := HB2.out.wrd' i (by omega)
        obtain ⟨e1, e2⟩ := dg_cmp N M i HE.out
        have HE1 : Hid _ := fun (_ : Unit) => e1
        have HE2 : Hid _ := fun (_ : Unit) => e2
        generalize dg N i = d1 at *
        generalize dg M i = d2 at *
        clear h0 hx e1 e2
        by_cases hd : d1 = d2
        · subst hd
          go_wp2
          go_quiet (fail)
          go_wp2
          refine ⟨⟨i, _, rfl, rfl, by omega, ?_, HB1.out.drewN _, HB2.out.drewN _, below_drewN HBW.out _⟩, ?_⟩
          · show N / be ^ i = M / be ^ i
            rw [HE1.out (), HE2.out ()]
          · show ((i : Int) - 1 + 1).toNat < ((i : Int) + 1).toNat; omega
        · have hb : ((d1 : Int) == (d2 : Int)) = false := beq_eq_false_iff_ne.2 (by omega)
          have HR : Hid ((if d1 < d2 then (-1 : Int) else 1) = ordN N M) := by
            show _ = ordN N M
            unfold ordN
            by_cases hl : d1 < d2
            · rw [if_pos hl, if_pos (div_lt_of N M i (by rw [HE1.out (), HE2.out ()]; omega))]
            · have : M < N := div_lt_of M N i (by rw [HE1.out (), HE2.out ()]; omega)
              rw [if_neg hl, if_neg (by omega), if_pos this]
          have HC : Hid (∀ w, Calls Tryz.prog 120 #[.int .u32 (d1 : Int), .int .u32 (d2 : Int)] w fun e w' => e = .returned (.int .i64 (ordN N M)) ∧ w' = w) := fun w => by rw [← HR.out]; exact cmp32_any d1 d2 w hd
          clear hd
          go_wp2
          go_quiet (fail)
          go_wp2
          go_region_held3 (fun w' => w'.cell? ⟨B, 1 + i, none⟩ = some (.int .u32 (d1 : Int)) ∧ w'.cell? ⟨D, 1 + i, none⟩ = some (.int .u32 (d2 : Int))) (go_keep) (first | (go_at_call 120; refine (HC.out _).mono ?_; rintro e w' ⟨rfl, rfl⟩))
          all_goals go_wp2
          go_ret
          exact ⟨rfl, (below_drewN HBW.out _).drew⟩
      · have h0' : decide ((0 : Int) ≤ x) = false := decide_eq_false (by omega)
        obtain rfl : j = 0 := by omega
        have HR : Hid (ordN N M = 0) := by
          show ordN N M = 0
          have h := HE.out
          rw [Nat.pow_zero, Nat.div_one, Nat.div_one] at h
          unfold ordN; rw [h, if_neg (by omega), if_neg (by omega)]
        go_wp2
        go_ret
        exact ⟨by rw [HR.out]; rfl, HBW.out⟩
end Go.Proofs.YtoedefjngipeiaaGreatDoor

/- subtract of the program's numbers. -/
namespace Go.Proofs.YtoedefjngipeiaaGreatDoor
open Go.ChangeShapes Go.WideShapes Go.RowKit

set_option maxHeartbeats 1000000 in
set_option maxRecDepth 100000 in
theorem sub_any (B N M c k : Nat) (R : List Value) (t : TypeId) (w : World) (hc : c ≤ 151) (hle : M ≤ N) (hN : cntOk c N) (h : LB w B c (dg N) R t) :
    Calls Tryz.prog 114 #[.pointer (some ⟨B, 0, none⟩), lgV k M] w fun e w' => e = .returned (.tuple #[]) ∧ Mod B w w' ∧ Lg w' B (N - M) R t := by
  have HN : Hid (cntOk c N) := hN
  have HLE : Hid (M ≤ N) := hle
  have hlt := h.lt
  have h0 : (lgL k (dg M)).toArray = blk k (dg M) [] := by unfold blk; rw [List.append_nil]
  unfold lgV
  rw [h0]
  have HB1 : Hid (LB (w.alloc (.cells (blk k (dg M) []) 156)) B c (dg N) R t) := h.alloc _
  have HB2 : Hid (LB (w.alloc (.cells (blk k (dg M) []) 156)) w.heap.size k (dg M) [] 156) := LB.new w k (dg M) [] _
  obtain ⟨C, hC⟩ : ∃ C, blk k (dg M) [] = C := ⟨_, rfl⟩
  rw [hC] at HB1 HB2 ⊢
  clear hN h h0 hC hle
  obtain ⟨W, hW⟩ : ∃ W, w.alloc (.cells C 156) = W := ⟨_, rfl⟩
  rw [hW] at HB1 HB2
  have HBW : Hid (Mod B w W) := by rw [← hW]; exact (Mod.refl _ w).alloc _
  have hc1 := HB1.out.cnt
  obtain ⟨D, hD⟩ : ∃ D, w.heap.size = D := ⟨_, rfl⟩
  have HD : Hid (w.heap.size = D) := hD
  go_enter Tryz.func114, Tryz.ntmps114
  go_wp2
  rw [hD] at HB2 hlt
  clear hW hD
  go_loopw [4, 11] (fun bv iv wl => ∃ (i b : Nat), iv = .int .i64 (i : Int) ∧ bv = .int .u64 (b : Int) ∧ i ≤ c ∧ b ≤ 1 ∧ Hid (bor N M i = b) ∧ Hid (LB wl B c (wmid N (N - M) i) R t) ∧ Hid (LB wl D k (dg M) [] 156) ∧ Hid (Mod B w wl)) (fun _ iv _ => c - (intOf iv).toNat)
  case atStart => exact ⟨0, 0, rfl, rfl, Nat.zero_le _, by omega, bor_zero N M, HB1.out, HB2.out, HBW.out⟩
  case round =>
    clear hc1 HB1 HB2 HBW
    obtain ⟨i, b, rfl, rfl, hi, hb, HBo, HB1, HB2, HBW⟩ := hrel
    by_cases hic : i < c
    · have hic' : (i : Int) < (c : Int) := by omega
      have hi1 : (i : Int) < 151 := by omega
      have hw1 := HB1.out.wrd' i (by omega)
      rw [wmid_at] at hw1
      have hw2 := HB2.out.wrd' i (by omega)
      have hfr := HB1.out.froz (1 + i)
      have n2 := dg_lt N i
      have m2 := dg_lt M i
      have HS1 : Hid _ := fun (_ : Unit) => bor_step N M i
      have HS2 : Hid _ := fun (_ : Unit) => bor_word N M i HLE.out
      rw [HBo.out] at HS1 HS2
      generalize dg N i = d1 at *
      generalize dg M i = d2 at *
      go_wp2
      go_quiet (fail)
      go_wp2
      have ev : IntKind.u64.wrap (IntKind.u64.wrap ((d1 : Int) - d2) - b) % 4294967296 = ((dg (N - M) i : Nat) : Int) := by
        rw [HS2.out (), IntKind.wrap_u64, IntKind.wrap_u64, be_eq]
        by_cases hq : d1 < d2 + b
        · rw [if_pos hq]; omega
        · rw [if_neg hq]; omega
      have eb : IntKind.u64.wrap (IntKind.u64.wrap ((d1 : Int) - d2) - b) / 9223372036854775808 = ((bor N M (i + 1) : Nat) : Int) := by
        rw [HS1.out (), IntKind.wrap_u64, IntKind.wrap_u64]
        by_cases hq : d1 < d2 + b
        · rw [if_pos hq]; omega
        · rw [if_neg hq]; omega
      rw [ev, eb]
      have h1 := HB1.out.setw' i (dg (N - M) i) (by omega)
      rw [wmid_step] at h1
      have hne : D ≠ B := by have := hlt; omega
      refine ⟨⟨i + 1, bor N M (i + 1), rfl, rfl, by omega, bor_le _ _ _, rfl, (HB1.out.drewN nq).setw' i (dg (N - M) i) (by omega) |>.congr _ (fun j _ => by rw [wmid_step]), ?_, (HBW.out.drewN _).setCell _ _⟩, ?_⟩
      · exact (HB2.out.drewN nq).other ((Mod.refl B _).setCell _ _) hne
      · show c - ((i : Int) + 1).toNat < c - (i : Int).toNat; omega
    · have hic' : decide ((i : Int) < (c : Int)) = false := decide_eq_false (by omega)
      obtain rfl : i = c := by omega
      have hlt2 : Hid (N - M < be ^ i) := Nat.lt_of_le_of_lt (Nat.sub_le _ _) HN.out.1
      have HT : Hid (LB wr B i (dg (N - M)) R t) := HB1.out.congr _ fun j _ => wmid_end N (N - M) i HN.out.1 hlt2.out j
      go_wp2_with (go_at_call 119; refine (trim_any B (N - M) i R t _ hc hlt2.out HT.out).mono ?_; rintro e w' ⟨rfl, hm1, hg⟩)
      go_end0
      exact ⟨rfl, HBW.out.trans hm1, hg⟩
end Go.Proofs.YtoedefjngipeiaaGreatDoor

