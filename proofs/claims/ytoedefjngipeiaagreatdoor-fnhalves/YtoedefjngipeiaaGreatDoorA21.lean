import Derived.Test.YtoedefjngipeiaaGreatDoorA08
import Derived.Test.YtoedefjngipeiaaGreatDoorA15
/- l0cmp of the specification. -/
namespace Go.Proofs.YtoedefjngipeiaaGreatDoor
open Go.ChangeShapes Go.WideShapes Go.RowKit

set_option maxHeartbeats 1600000 in
set_option maxRecDepth 100000 in
theorem l0cmp_any (v u : Value) (A C : Nat) (w : World) (h : Big w v A) (h' : Big w u C) :
    Calls Tryz.prog 91 #[v, u] w fun e w' => Below w.heap.size w w' ∧ e = .returned (.int .i64 (cmpI A C)) := by
  obtain ⟨ls, a1, a2, a3, rfl⟩ := h
  obtain ⟨ms, b1, b2, b3, rfl⟩ := h'
  obtain ⟨ao, acap, rfl, ac, am, ah⟩ := a1
  obtain ⟨bo, bcap, rfl, bc, bm, bh⟩ := b1
  have am' : acap ≤ 9223372036854775807 := am
  have bm' : bcap ≤ 9223372036854775807 := bm
  have HA : Hid _ := ah
  have HB : Hid _ := bh
  have LA : Hid _ := a2
  have LB : Hid _ := b2
  clear ah bh am bm
  by_cases hl : ls.length = ms.length
  · clear a2 b2 a3 b3
    have e0 : ((ms.length : Int) == ms.length) = true := beq_iff_eq.2 rfl
    rw [hl]
    go_enter Tryz.func91, Tryz.ntmps91
    go_wp2
    go_loopw [5] (fun i wr => ∃ k : Nat, i = .int .i64 ((k : Int) - 1) ∧ k ≤ ms.length ∧ Hid (ls.drop k = ms.drop k) ∧ Below w.heap.size w wr) (fun i _ => (intOf i + 1).toNat)
    case atStart => exact ⟨ms.length, rfl, Nat.le_refl _, by show _ = _; rw [List.drop_length, ← hl, List.drop_length], Below.refl _ _⟩
    case round =>
      obtain ⟨k, rfl, hk, HD, hbe⟩ := hrel
      cases k with
      | zero =>
        have HE : Hid (cmpI (bval ls) (bval ms) = 0) := cmpI_eq (congrArg bval (by simpa using HD.out))
        go_wp2
        go_ret
        exact ⟨hbe, by rw [HE.out]; rfl⟩
      | succ k =>
        obtain ⟨g, rfl, hg, hcl⟩ := Row.block ac HA.out (t := k) (by omega)
        obtain ⟨g', rfl, hg', hcl'⟩ := Row.block bc HB.out (t := k) (by omega)
        have hx : wr.cell? ⟨g, k, none⟩ = some (.int .u64 (ls.getD k 0 : Nat)) := (hbe.cell hg).trans (hcl k (by omega))
        have hy : wr.cell? ⟨g', k, none⟩ = some (.int .u64 (ms.getD k 0 : Nat)) := (hbe.cell hg').trans (hcl' k (by omega))
        clear hcl hcl'
        have hxl := lim_get LA.out k
        have hyl := lim_get LB.out k
        rcases Nat.lt_trichotomy (ls.getD k 0) (ms.getD k 0) with hc | hc | hc
        · have HE : Hid (cmpI (bval ls) (bval ms) = -1) := cmpI_lt (parts_lt LA.out hl k (by omega) HD.out hc)
          generalize ls.getD k 0 = x at *
          generalize ms.getD k 0 = y at *
          go_wp2
          go_quiet (fail)
          go_wp2
          go_ret
          exact ⟨by repeat (first | exact hbe | refine below_drewN ?_ _), by rw [HE.out]; rfl⟩
        · have HE : Hid (ls.drop k = ms.drop k) := drop_eq hl k (by omega) HD.out hc
          generalize ls.getD k 0 = x at *
          generalize ms.getD k 0 = y at *
          go_wp2
          go_quiet (fail)
          go_wp2
          go_quiet (fail)
          go_wp2
          exact ⟨⟨k, rfl, by omega, HE, by repeat (first | exact hbe | refine below_drewN ?_ _)⟩, by simp only [intOf]; omega⟩
        · have HE : Hid (cmpI (bval ls) (bval ms) = 1) := cmpI_gt (parts_lt LB.out hl.symm k (by omega) HD.out.symm hc)
          generalize ls.getD k 0 = x at *
          generalize ms.getD k 0 = y at *
          go_wp2
          go_quiet (fail)
          go_wp2
          go_quiet (fail)
          go_wp2
          go_ret
          exact ⟨by repeat (first | exact hbe | refine below_drewN ?_ _), by rw [HE.out]; rfl⟩
  · have e0 : ((ls.length : Int) == ms.length) = false := beq_eq_false_iff_ne.2 (by omega)
    by_cases hlt : ls.length < ms.length
    · have HE : Hid (cmpI (bval ls) (bval ms) = -1) := cmpI_lt (len_lt a2 b3 hlt)
      clear a2 b2 a3 b3
      go_enter Tryz.func91, Tryz.ntmps91
      go_wp2
      go_ret
      exact ⟨Below.refl _ _, by rw [HE.out]; rfl⟩
    · have HE : Hid (cmpI (bval ls) (bval ms) = 1) := cmpI_gt (len_lt b2 a3 (by omega))
      clear a2 b2 a3 b3
      go_enter Tryz.func91, Tryz.ntmps91
      go_wp2
      go_ret
      exact ⟨Below.refl _ _, by rw [HE.out]; rfl⟩
end Go.Proofs.YtoedefjngipeiaaGreatDoor

/- l0sub of the specification. -/
namespace Go.Proofs.YtoedefjngipeiaaGreatDoor
open Go.ChangeShapes Go.WideShapes Go.RowKit

/-- A round of the subtraction: what is taken from the part, and what is left. -/
theorem sub_round (ls ms os : List Nat) (c k : Nat) (hk : k < ls.length) (ho : os.length = k) (hL : Lim os)
    (hv : bval os + bval (ms.take k) = bval (ls.take k) + 4294967296 ^ k * c) (r d : Nat) (hr : r + (c + ms.getD k 0) = ls.getD k 0 + 4294967296 * d) (hr2 : r < 4294967296) :
    Lim (os ++ [r]) ∧ bval (os ++ [r]) + bval (ms.take (k + 1)) = bval (ls.take (k + 1)) + 4294967296 ^ (k + 1) * d := by
  refine ⟨?_, ?_⟩
  · intro y hy
    rcases List.mem_append.1 hy with h | h
    · exact hL y h
    · rw [List.mem_singleton.1 h]; omega
  · have hms : bval (ms.take (k + 1)) = bval (ms.take k) + 4294967296 ^ k * ms.getD k 0 := by
      by_cases h : k < ms.length
      · exact take_val ms k h
      · rw [List.take_of_length_le (by omega), List.take_of_length_le (by omega)]
        simp [List.getElem?_eq_none (Nat.le_of_not_lt h)]
    rw [take_val ls k hk, hms, bval_append, ho, Nat.pow_succ]
    generalize ls.getD k 0 = x at *
    generalize ms.getD k 0 = y at *
    generalize 4294967296 ^ k = z at *
    have e : z * r + z * c + z * y = z * x + z * 4294967296 * d := by
      rw [← Nat.mul_add, ← Nat.mul_add, Nat.mul_assoc, ← Nat.mul_add, Nat.add_assoc, hr]
    simp only [bval]
    rw [Nat.mul_zero, Nat.add_zero]
    omega
theorem sub_end (ls ms os : List Nat) (c : Nat) (hm : ms.length ≤ ls.length) (ho : os.length = ls.length) (hle : bval ms ≤ bval ls) (hL : Lim os)
    (hv : bval os + bval (ms.take ls.length) = bval (ls.take ls.length) + 4294967296 ^ ls.length * c) : bval os = bval ls - bval ms := by
  rw [List.take_length, List.take_of_length_le hm] at hv
  have h1 := bval_lt hL
  rw [ho] at h1
  cases c with
  | zero => omega
  | succ c =>
    have : 4294967296 ^ ls.length ≤ 4294967296 ^ ls.length * (c + 1) := Nat.le_mul_of_pos_right _ (by omega)
    omega

set_option maxHeartbeats 3200000 in
set_option maxRecDepth 100000 in
theorem l0sub_any (v u : Value) (A C n : Nat) (w : World) (h : Big w v A) (h' : Big w u C) (hA : A < 4294967296 ^ n) (hn : n < 1000000) (hle : C ≤ A) :
    Calls Tryz.prog 92 #[v, u] w fun e w' => ∃ v', e = .returned v' ∧ Below w.heap.size w w' ∧ Big w' v' (A - C) := by
  obtain ⟨i0, hi, hz0, hz1, hz2⟩ := info_parts Tryz.infoU
  obtain ⟨ls, a1, a2, a3, rfl⟩ := h
  obtain ⟨ms, b1, b2, b3, rfl⟩ := h'
  have hlen := Nat.lt_of_le_of_lt (trim_len a3 hA) hn
  have hm : ms.length ≤ ls.length := by
    apply Classical.byContradiction; intro hc
    have := len_lt a2 b3 (by omega); omega
  obtain ⟨ao, acap, rfl, ac, am, ah⟩ := a1
  obtain ⟨bo, bcap, rfl, bc, bm, bh⟩ := b1
  have HA : Hid _ := ah
  have HB : Hid _ := bh
  have LA : Hid _ := a2
  have LB : Hid _ := b2
  have HLE : Hid _ := hle
  clear ah bh am bm a2 b2 a3 b3 hA hle
  go_enter Tryz.func92, Tryz.ntmps92
  go_wp2
  go_loopw [5, 6, 12] (fun v cv i wr => ∃ (k c : Nat) (os : List Nat), k ≤ ls.length ∧ i = .int .i64 k ∧ cv = .int .u64 c ∧ c ≤ 1 ∧ os.length = k ∧ Hid (Lim os) ∧
      Hid (bval os + bval (ms.take k) = bval (ls.take k) + 4294967296 ^ k * c) ∧ wr.ownsRow w.heap.size 40 1 v k (os.map fun x => Value.int .u64 (x : Nat)) ∧ Below w.heap.size w wr)
    (fun _ _ i _ => ls.length - (intOf i).toNat)
  case atStart => exact ⟨0, 0, [], Nat.zero_le _, rfl, rfl, by omega, rfl, fun _ h => absurd h (by simp), by show _ = _; simp [bval], World.ownsRow_nil _ _ _ _, Below.refl _ _⟩
  case round =>
    obtain ⟨k, c, os, hk, rfl, rfl, hc, ho, HO, HV, hown, hbe⟩ := hrel
    by_cases hlt : k < ls.length
    · obtain ⟨g, rfl, hg, hcl⟩ := Row.block ac HA.out (t := k) hlt
      have hx : wr.cell? ⟨g, k, none⟩ = some (.int .u64 (ls.getD k 0 : Nat)) := (hbe.cell hg).trans (hcl k hlt)
      have hxl := lim_get LA.out k
      have hyl := lim_get LB.out k
      have HR : Hid _ := sub_round ls ms os c k hlt ho HO.out HV.out
      clear hcl HV
      generalize ls.getD k 0 = x at *
      by_cases hlm : k < ms.length
      · obtain ⟨g', rfl, hg', hcl'⟩ := Row.block bc HB.out (t := k) hlm
        have hy : wr.cell? ⟨g', k, none⟩ = some (.int .u64 (ms.getD k 0 : Nat)) := (hbe.cell hg').trans (hcl' k hlm)
        clear hcl'
        generalize ms.getD k 0 = y at *
        by_cases hxy : x < c + y
        · obtain ⟨r, hr⟩ : ∃ r : Nat, (x : Int) + 4294967296 - (c + y) = r := ⟨x + 4294967296 - (c + y), by omega⟩
          have HR2 : Hid _ := HR.out r 1 (by omega) (by omega)
          go_wp2_with (first
            | (at_builtin; refine wpList_append_own _ rfl _ _ 58 rfl w.heap.size 40 i0 (.int .u64 0) 1 8 Tryz.underlying58 hi hz0 hz1 hz2 rfl (by decide) _ _ _ rfl (hown.alloc _) ⟨wr.heap.size, 0, none⟩ 1 1 [.int .u64 (r : Nat)] rfl rfl ?c1a ?c1b ?c1c ?c1d ?c1e ?_)
            | go_in)
          case c1a =>
            intro j u hj
            match j, hj with
            | 0, hj => simp at hj; subst hj; simp [Addr.add]
          case c1b => intro u hu; simp at hu; subst hu; rfl
          case c1c => unfold maxLen; omega
          case c1d => omega
          case c1e => have := hbe.size; simp; omega
          · intro v' w1 hown' hgrow _
            have R := own_step (os := os) (r := r) ho hown hbe (Nat.le_refl _) (by simpa using hown') hgrow
            have RL : (os ++ [r]).length = k + 1 := by simp [ho]
            rw [RL] at R
            clear hown' hgrow hown
            go_wp2
            go_roundw
            case rel => exact ⟨k + 1, 1, os ++ [r], by omega, by simp, by simp, by omega, RL, HR2.out.1, HR2.out.2, R.1, R.2⟩
            case measure => simp [intOf]; omega
        · obtain ⟨r, hr⟩ : ∃ r : Nat, (x : Int) - (c + y) = r := ⟨x - (c + y), by omega⟩
          have HR2 : Hid _ := HR.out r 0 (by omega) (by omega)
          go_wp2_with (first
            | (at_builtin; refine wpList_append_own _ rfl _ _ 58 rfl w.heap.size 40 i0 (.int .u64 0) 1 8 Tryz.underlying58 hi hz0 hz1 hz2 rfl (by decide) _ _ _ rfl (hown.alloc _) ⟨wr.heap.size, 0, none⟩ 1 1 [.int .u64 (r : Nat)] rfl rfl ?c2a ?c2b ?c2c ?c2d ?c2e ?_)
            | go_in)
          case c2a =>
            intro j u hj
            match j, hj with
            | 0, hj => simp at hj; subst hj; simp [Addr.add]
          case c2b => intro u hu; simp at hu; subst hu; rfl
          case c2c => unfold maxLen; omega
          case c2d => omega
          case c2e => have := hbe.size; simp; omega
          · intro v' w1 hown' hgrow _
            have R := own_step (os := os) (r := r) ho hown hbe (Nat.le_refl _) (by simpa using hown') hgrow
            have RL : (os ++ [r]).length = k + 1 := by simp [ho]
            rw [RL] at R
            clear hown' hgrow hown
            go_wp2
            go_roundw
            case rel => exact ⟨k + 1, 0, os ++ [r], by omega, by simp, by simp, by omega, RL, HR2.out.1, HR2.out.2, R.1, R.2⟩
            case measure => simp [intOf]; omega
      · have h0 : ms.getD k 0 = 0 := by simp [List.getElem?_eq_none (Nat.le_of_not_lt hlm)]
        rw [h0] at HR hyl
        by_cases hxy : x < c
        · obtain ⟨r, hr⟩ : ∃ r : Nat, (x : Int) + 4294967296 - c = r := ⟨x + 4294967296 - c, by omega⟩
          have HR2 : Hid _ := HR.out r 1 (by omega) (by omega)
          go_wp2_with (first
            | (at_builtin; refine wpList_append_own _ rfl _ _ 58 rfl w.heap.size 40 i0 (.int .u64 0) 1 8 Tryz.underlying58 hi hz0 hz1 hz2 rfl (by decide) _ _ _ rfl (hown.alloc _) ⟨wr.heap.size, 0, none⟩ 1 1 [.int .u64 (r : Nat)] rfl rfl ?c3a ?c3b ?c3c ?c3d ?c3e ?_)
            | go_in)
          case c3a =>
            intro j u hj
            match j, hj with
            | 0, hj => simp at hj; subst hj; simp [Addr.add]
          case c3b => intro u hu; simp at hu; subst hu; rfl
          case c3c => unfold maxLen; omega
          case c3d => omega
          case c3e => have := hbe.size; simp; omega
          · intro v' w1 hown' hgrow _
            have R := own_step (os := os) (r := r) ho hown hbe (Nat.le_refl _) (by simpa using hown') hgrow
            have RL : (os ++ [r]).length = k + 1 := by simp [ho]
            rw [RL] at R
            clear hown' hgrow hown
            go_wp2
            go_roundw
            case rel => exact ⟨k + 1, 1, os ++ [r], by omega, by simp, by simp, by omega, RL, HR2.out.1, HR2.out.2, R.1, R.2⟩
            case measure => simp [intOf]; omega
        · obtain ⟨r, hr⟩ : ∃ r : Nat, (x : Int) - c = r := ⟨x - c, by omega⟩
          have HR2 : Hid _ := HR.out r 0 (by omega) (by omega)
          go_wp2_with (first
            | (at_builtin; refine wpList_append_own _ rfl _ _ 58 rfl w.heap.size 40 i0 (.int .u64 0) 1 8 Tryz.underlying58 hi hz0 hz1 hz2 rfl (by decide) _ _ _ rfl (hown.alloc _) ⟨wr.heap.size, 0, none⟩ 1 1 [.int .u64 (r : Nat)] rfl rfl ?c4a ?c4b ?c4c ?c4d ?c4e ?_)
            | go_in)
          case c4a =>
            intro j u hj
            match j, hj with
            | 0, hj => simp at hj; subst hj; simp [Addr.add]
          case c4b => intro u hu; simp at hu; subst hu; rfl
          case c4c => unfold maxLen; omega
          case c4d => omega
          case c4e => have := hbe.size; simp; omega
          · intro v' w1 hown' hgrow _
            have R := own_step (os := os) (r := r) ho hown hbe (Nat.le_refl _) (by simpa using hown') hgrow
            have RL : (os ++ [r]).length = k + 1 := by simp [ho]
            rw [RL] at R
            clear hown' hgrow hown
            go_wp2
            go_roundw
            case rel => exact ⟨k + 1, 0, os ++ [r], by omega, by simp, by simp, by omega, RL, HR2.out.1, HR2.out.2, R.1, R.2⟩
            case measure => simp [intOf]; omega
    · obtain rfl : k = ls.length := by omega
      have HE : Hid _ := sub_end ls ms os c hm ho HLE.out HO.out HV.out
      have HR : Hid (Row wr u5 os) := Row.of_owns (by rw [ho]; exact hown)
      clear HV hown
      go_wp2_with (go_at_call 53; refine (l0trim_any os _ _ HR.out).mono ?_; rintro e w2 ⟨rfl, v2, rfl, hv2⟩)
      go_ret
      exact ⟨_, rfl, hbe, Big.of_trim hv2 HO.out HE.out⟩
end Go.Proofs.YtoedefjngipeiaaGreatDoor

/- l4ratio of the specification: long division, plain part. -/
namespace Go.Proofs.YtoedefjngipeiaaGreatDoor
open Go.ChangeShapes Go.WideShapes Go.RowKit

theorem bits_pos {A n : Nat} (h : Bits A n) (h0 : 0 < A) : 0 < n ∧ 2 ^ (n - 1) ≤ A ∧ A < 2 ^ n := by
  rcases h with ⟨h, _⟩ | h
  · omega
  · exact h
theorem bits_shl {A n k : Nat} (h : Bits A n) (h0 : 0 < A) : 0 < n + k ∧ 2 ^ (n + k - 1) ≤ A * 2 ^ k ∧ A * 2 ^ k < 2 ^ (n + k) := by
  obtain ⟨h1, h2, h3⟩ := bits_pos h h0
  refine ⟨by omega, ?_, ?_⟩
  · rw [show n + k - 1 = n - 1 + k by omega, Nat.pow_add]
    exact Nat.mul_le_mul_right _ h2
  · rw [Nat.pow_add]
    exact Nat.mul_lt_mul_of_pos_right h3 (Nat.two_pow_pos k)
/-- The two numbers that are divided: 63 bits apart. -/
theorem apart {A C a c : Nat} (hA : 0 < a ∧ 2 ^ (a - 1) ≤ A ∧ A < 2 ^ a) (hC : 0 < c ∧ 2 ^ (c - 1) ≤ C ∧ C < 2 ^ c) (h : a = c + 63) :
    A < C * 18446744073709551616 ∧ C * 4611686018427387904 ≤ A := by
  obtain ⟨a0, a1, a2⟩ := hA
  obtain ⟨c0, c1, c2⟩ := hC
  subst h
  constructor
  · have : 2 ^ (c + 63) = 2 ^ (c - 1) * 18446744073709551616 := by
      rw [show (18446744073709551616 : Nat) = 2 ^ 64 from rfl, ← Nat.pow_add]; congr 1; omega
    have h2 := Nat.mul_le_mul_right 18446744073709551616 c1
    omega
  · have : 2 ^ (c + 63 - 1) = 2 ^ c * 4611686018427387904 := by
      rw [show (4611686018427387904 : Nat) = 2 ^ 62 from rfl, ← Nat.pow_add]
      congr 1
    have h2 := Nat.mul_le_mul_right 4611686018427387904 (Nat.le_of_lt c2)
    omega
/-- What holds between the rounds of the division: k places are still to come. -/
def Div (A C R q k : Nat) : Prop := A = q * C + R ∧ R < C * 2 ^ k ∧ q % 2 ^ k = 0 ∧ q < 18446744073709551616
theorem div_start {A C : Nat} (h : A < C * 18446744073709551616) : Div A C A 0 64 := ⟨by omega, h, by simp, by omega⟩
theorem div_no {A C R q k : Nat} (h : Div A C R q (k + 1)) (hlt : R < C * 2 ^ k) : Div A C R q k := by
  obtain ⟨h1, _, h3, h4⟩ := h
  refine ⟨h1, hlt, ?_, h4⟩
  have hd : 2 ^ k ∣ 2 ^ (k + 1) := ⟨2, Nat.pow_succ _ _⟩
  exact Nat.mod_eq_zero_of_dvd (Nat.dvd_trans hd (Nat.dvd_of_mod_eq_zero h3))
theorem or_bit (q k : Nat) (hk : k ≤ 63) (hq : q < 18446744073709551616) (h : q % 2 ^ (k + 1) = 0) : q ||| 2 ^ k = q + 2 ^ k ∧ q + 2 ^ k < 18446744073709551616 := by
  obtain ⟨t, rfl⟩ := Nat.dvd_of_mod_eq_zero h
  have hlt : 2 ^ k < 2 ^ (k + 1) := Nat.pow_lt_pow_right (by omega) (by omega)
  refine ⟨(Nat.two_pow_add_eq_or_of_lt hlt t).symm, ?_⟩
  have e : (18446744073709551616 : Nat) = 2 ^ (k + 1) * 2 ^ (63 - k) := by
    rw [← Nat.pow_add, show k + 1 + (63 - k) = 64 by omega]
  rw [e] at hq ⊢
  have ht : t < 2 ^ (63 - k) := Nat.lt_of_mul_lt_mul_left hq
  have h2 := Nat.mul_le_mul_left (2 ^ (k + 1)) (show t + 1 ≤ 2 ^ (63 - k) from ht)
  rw [Nat.mul_add, Nat.mul_one] at h2
  omega
theorem div_yes {A C R q k : Nat} (h : Div A C R q (k + 1)) (hk : k ≤ 63) (hge : C * 2 ^ k ≤ R) : Div A C (R - C * 2 ^ k) (q ||| 2 ^ k) k := by
  obtain ⟨h1, h2, h3, h4⟩ := h
  obtain ⟨e1, e2⟩ := or_bit q k hk h4 h3
  rw [e1]
  refine ⟨?_, ?_, ?_, e2⟩
  · rw [Nat.add_mul, Nat.mul_comm (2 ^ k) C]; omega
  · rw [Nat.pow_succ, ← Nat.mul_assoc] at h2; omega
  · have hd : 2 ^ k ∣ 2 ^ (k + 1) := ⟨2, Nat.pow_succ _ _⟩
    have := Nat.dvd_trans hd (Nat.dvd_of_mod_eq_zero h3)
    exact Nat.mod_eq_zero_of_dvd (Nat.dvd_add this (Nat.dvd_refl _))
theorem div_end {A C R q : Nat} (h : Div A C R q 0) (hC : 0 < C) : q = A / C ∧ R = A % C := by
  obtain ⟨h1, h2, _, _⟩ := h
  rw [Nat.pow_zero, Nat.mul_one] at h2
  subst h1
  constructor
  · rw [Nat.mul_comm, Nat.mul_add_div hC, Nat.div_eq_of_lt h2, Nat.add_zero]
  · rw [Nat.mul_comm, Nat.mul_add_mod, Nat.mod_eq_of_lt h2]
theorem div_rest {A C R q k : Nat} (h : Div A C R q k) : R ≤ A := by have := h.1; omega
theorem or_cast (q k : Nat) (hq : q < 18446744073709551616) (hk : k ≤ 63) : bits .or .u64 (q : Int) (((2 ^ k : Nat) : Int)) = ((q ||| 2 ^ k : Nat) : Int) ∧ IntKind.u64.wrap (2 ^ k) = ((2 ^ k : Nat) : Int) := by
  have h1 : 2 ^ k < 2 ^ 64 := Nat.pow_lt_pow_right (by omega) (by omega)
  have c : (2 : Int) ^ k = ((2 ^ k : Nat) : Int) := (Int.natCast_pow 2 k).symm
  refine ⟨u64_or_nat q (2 ^ k) hq h1, ?_⟩
  rw [c, IntKind.wrap_u64]
  generalize 2 ^ k = z at *
  have : (2 : Nat) ^ 64 = 18446744073709551616 := rfl
  omega
end Go.Proofs.YtoedefjngipeiaaGreatDoor

