import Derived.Test.YtoedefjngipeiaaGreatDoorA06
import Derived.Test.YtoedefjngipeiaaGreatDoorA11
import Derived.Test.YtoedefjngipeiaaGreatDoorA14
import Derived.Test.YtoedefjngipeiaaGreatDoorA15
import Derived.Test.YtoedefjngipeiaaGreatDoorA09
/- l0cmp of the specification. -/
namespace Go.Proofs.YtoedefjngipeiaaGreatDoor
open Go.ChangeShapes Go.WideShapes Go.RowKit

set_option maxHeartbeats 1600000 in
set_option maxRecDepth 100000 in
theorem l0cmp_any (v u : Value) (A C : Nat) (w : World) (h : Big w v A) (h' : Big w u C) :
    Calls Tryz.prog 91 #[v, u] w fun e w' => Below w.heap.size w w' ∧ e = .returned (.int .i64 (cmpI A C)) := by
  obtain ⟨ls, a1, a2, a3, rfl⟩ := h
  obtain ⟨ms, b1, b2, b3, rfl⟩ := h'
  obtain ⟨ao, acap, rfl, ac, am, ah⟩ := a1
  obtain ⟨bo, bcap, rfl, bc, bm, bh⟩ := b1
  have am' : acap ≤ 9223372036854775807 := am
  have bm' : bcap ≤ 9223372036854775807 := bm
  have HA : Hid _ := ah
  have HB : Hid _ := bh
  have LA : Hid _ := a2
  have LB : Hid _ := b2
  clear ah bh am bm
  by_cases hl : ls.length = ms.length
  · clear a2 b2 a3 b3
    have e0 : ((ms.length : Int) == ms.length) = true := beq_iff_eq.2 rfl
    rw [hl]
    go_enter Tryz.func91, Tryz.ntmps91
    go_wp2
    go_loopw [5] (fun i wr => ∃ k : Nat, i = .int .i64 ((k : Int) - 1) ∧ k ≤ ms.length ∧ Hid (ls.drop k = ms.drop k) ∧ Below w.heap.size w wr) (fun i _ => (intOf i + 1).toNat)
    case atStart => exact ⟨ms.length, rfl, Nat.le_refl _, by show _ = _; rw [List.drop_length, ← hl, List.drop_length], Below.refl _ _⟩
    case round =>
      obtain ⟨k, rfl, hk, HD, hbe⟩ := hrel
      cases k with
      | zero =>
        have HE : Hid (cmpI (bval ls) (bval ms) = 0) := cmpI_eq (congrArg bval (by simpa using HD.out))
        go_wp2
        go_ret
        exact ⟨hbe, by rw [HE.out]; rfl⟩
      | succ k =>
        obtain ⟨g, rfl, hg, hcl⟩ := Row.block ac HA.out (t := k) (by omega)
        obtain ⟨g', rfl, hg', hcl'⟩ := Row.block bc HB.out (t := k) (by omega)
        have hx : wr.cell? ⟨g, k, none⟩ = some (.int .u64 (ls.getD k 0 : Nat)) := (hbe.cell hg).trans (hcl k (by omega))
        have hy : wr.cell? ⟨g', k, none⟩ = some (.int .u64 (ms.getD k 0 : Nat)) := (hbe.cell hg').trans (hcl' k (by omega))
        clear hcl hcl'
        have hxl := lim_get LA.out k
        have hyl := lim_get LB.out k
        rcases Nat.lt_trichotomy (ls.getD k 0) (ms.getD k 0) with hc | hc | hc
        · have HE : Hid (cmpI (bval ls) (bval ms) = -1) := cmpI_lt (parts_lt LA.out hl k (by omega) HD.out hc)
          generalize ls.getD k 0 = x at *
          generalize ms.getD k 0 = y at *
          go_wp2
          go_quiet (fail)
          go_wp2
          go_ret
          exact ⟨by repeat (first | exact hbe | refine below_drewN ?_ _), by rw [HE.out]; rfl⟩
        · have HE : Hid (ls.drop k = ms.drop k) := drop_eq hl k (by omega) HD.out hc
          generalize ls.getD k 0 = x at *
          generalize ms.getD k 0 = y at *
          go_wp2
          go_quiet (fail)
          go_wp2
          go_quiet (fail)
          go_wp2
          exact ⟨⟨k, rfl, by omega, HE, by repeat (first | exact hbe | refine below_drewN ?_ _)⟩, by simp only [intOf]; omega⟩
        · have HE : Hid (cmpI (bval ls) (bval ms) = 1) := cmpI_gt (parts_lt LB.out hl.symm k (by omega) HD.out.symm hc)
          generalize ls.getD k 0 = x at *
          generalize ms.getD k 0 = y at *
          go_wp2
          go_quiet (fail)
          go_wp2
          go_quiet (fail)
          go_wp2
          go_ret
          exact ⟨by repeat (first | exact hbe | refine below_drewN ?_ _), by rw [HE.out]; rfl⟩
  · have e0 : ((ls.length : Int) == ms.length) = false := beq_eq_false_iff_ne.2 (by omega)
    by_cases hlt : ls.length < ms.length
    · have HE : Hid (cmpI (bval ls) (bval ms) = -1) := cmpI_lt (len_lt a2 b3 hlt)
      clear a2 b2 a3 b3
      go_enter Tryz.func91, Tryz.ntmps91
      go_wp2
      go_ret
      exact ⟨Below.refl _ _, by rw [HE.out]; rfl⟩
    · have HE : Hid (cmpI (bval ls) (bval ms) = 1) := cmpI_gt (len_lt b2 a3 (by omega))
      clear a2 b2 a3 b3
      go_enter Tryz.func91, Tryz.ntmps91
      go_wp2
      go_ret
      exact ⟨Below.refl _ _, by rw [HE.out]; rfl⟩
end Go.Proofs.YtoedefjngipeiaaGreatDoor

/- l0sub of the specification. -/
namespace Go.Proofs.YtoedefjngipeiaaGreatDoor
open Go.ChangeShapes Go.WideShapes Go.RowKit

/-- A round of the subtraction: what is taken from the part, and what is left. -/
theorem sub_round (ls ms os : List Nat) (c k : Nat) (hk : k < ls.length) (ho : os.length = k) (hL : Lim os)
    (hv : bval os + bval (ms.take k) = bval (ls.take k) + 4294967296 ^ k * c) (r d : Nat) (hr : r + (c + ms.getD k 0) = ls.getD k 0 + 4294967296 * d) (hr2 : r < 4294967296) :
    Lim (os ++ [r]) ∧ bval (os ++ [r]) + bval (ms.take (k + 1)) = bval (ls.take (k + 1)) + 4294967296 ^ (k + 1) * d := by
  refine ⟨?_, ?_⟩
  · intro y hy
    rcases List.mem_append.1 hy with h | h
    · exact hL y h
    · rw [List.mem_singleton.1 h]; omega
  · have hms : bval (ms.take (k + 1)) = bval (ms.take k) + 4294967296 ^ k * ms.getD k 0 := by
      by_cases h : k < ms.length
      · exact take_val ms k h
      · rw [List.take_of_length_le (by omega), List.take_of_length_le (by omega)]
        simp [List.getElem?_eq_none (Nat.le_of_not_lt h)]
    rw [take_val ls k hk, hms, bval_append, ho, Nat.pow_succ]
    generalize ls.getD k 0 = x at *
    generalize ms.getD k 0 = y at *
    generalize 4294967296 ^ k = z at *
    have e : z * r + z * c + z * y = z * x + z * 4294967296 * d := by
      rw [← Nat.mul_add, ← Nat.mul_add, Nat.mul_assoc, ← Nat.mul_add, Nat.add_assoc, hr]
    simp only [bval]
    rw [Nat.mul_zero, Nat.add_zero]
    omega
theorem sub_end (ls ms os : List Nat) (c : Nat) (hm : ms.length ≤ ls.length) (ho : os.length = ls.length) (hle : bval ms ≤ bval ls) (hL : Lim os)
    (hv : bval os + bval (ms.take ls.length) = bval (ls.take ls.length) + 4294967296 ^ ls.length * c) : bval os = bval ls - bval ms := by
  rw [List.take_length, List.take_of_length_le hm] at hv
  have h1 := bval_lt hL
  rw [ho] at h1
  cases c with
  | zero => omega
  | succ c =>
    have : 4294967296 ^ ls.length ≤ 4294967296 ^ ls.length * (c + 1) := Nat.le_mul_of_pos_right _ (by omega)
    omega

set_option maxHeartbeats 3200000 in
set_option maxRecDepth 100000 in
theorem l0sub_any (v u : Value) (A C n : Nat) (w : World) (h : Big w v A) (h' : Big w u C) (hA : A < 4294967296 ^ n) (hn : n < 1000000) (hle : C ≤ A) :
    Calls Tryz.prog 92 #[v, u] w fun e w' => ∃ v', e = .returned v' ∧ Below w.heap.size w w' ∧ Big w' v' (A - C) := by
  obtain ⟨i0, hi, hz0, hz1, hz2⟩ := info_parts Tryz.infoU
  obtain ⟨ls, a1, a2, a3, rfl⟩ := h
  obtain ⟨ms, b1, b2, b3, rfl⟩ := h'
  have hlen := Nat.lt_of_le_of_lt (trim_len a3 hA) hn
  have hm : ms.length ≤ ls.length := by
    apply Classical.byContradiction; intro hc
    have := len_lt a2 b3 (by omega); omega
  obtain ⟨ao, acap, rfl, ac, am, ah⟩ := a1
  obtain ⟨bo, bcap, rfl, bc, bm, bh⟩ := b1
  have HA : Hid _ := ah
  have HB : Hid _ := bh
  have LA : Hid _ := a2
  have LB : Hid _ := b2
  have HLE : Hid _ := hle
  clear ah bh am bm a2 b2 a3 b3 hA hle
  go_enter Tryz.func92, Tryz.ntmps92
  go_wp2
  go_loopw [5, 6, 12] (fun v cv i wr => ∃ (k c : Nat) (os : List Nat), k ≤ ls.length ∧ i = .int .i64 k ∧ cv = .int .u64 c ∧ c ≤ 1 ∧ os.length = k ∧ Hid (Lim os) ∧
      Hid (bval os + bval (ms.take k) = bval (ls.take k) + 4294967296 ^ k * c) ∧ wr.ownsRow w.heap.size 40 1 v k (os.map fun x => Value.int .u64 (x : Nat)) ∧ Below w.heap.size w wr)
    (fun _ _ i _ => ls.length - (intOf i).toNat)
  case atStart => exact ⟨0, 0, [], Nat.zero_le _, rfl, rfl, by omega, rfl, fun _ h => absurd h (by simp), by show _ = _; simp [bval], World.ownsRow_nil _ _ _ _, Below.refl _ _⟩
  case round =>
    obtain ⟨k, c, os, hk, rfl, rfl, hc, ho, HO, HV, hown, hbe⟩ := hrel
    by_cases hlt : k < ls.length
    · obtain ⟨g, rfl, hg, hcl⟩ := Row.block ac HA.out (t := k) hlt
      have hx : wr.cell? ⟨g, k, none⟩ = some (.int .u64 (ls.getD k 0 : Nat)) := (hbe.cell hg).trans (hcl k hlt)
      have hxl := lim_get LA.out k
      have hyl := lim_get LB.out k
      have HR : Hid _ := sub_round ls ms os c k hlt ho HO.out HV.out
      clear hcl HV
      generalize ls.getD k 0 = x at *
      by_cases hlm : k < ms.length
      · obtain ⟨g', rfl, hg', hcl'⟩ := Row.block bc HB.out (t := k) hlm
        have hy : wr.cell? ⟨g', k, none⟩ = some (.int .u64 (ms.getD k 0 : Nat)) := (hbe.cell hg').trans (hcl' k hlm)
        clear hcl'
        generalize ms.getD k 0 = y at *
        by_cases hxy : x < c + y
        · obtain ⟨r, hr⟩ : ∃ r : Nat, (x : Int) + 4294967296 - (c + y) = r := ⟨x + 4294967296 - (c + y), by omega⟩
          have HR2 : Hid _ := HR.out r 1 (by omega) (by omega)
          go_wp2_with (first
            | (at_builtin; refine wpList_append_own _ rfl _ _ 58 rfl w.heap.size 40 i0 (.int .u64 0) 1 8 Tryz.underlying58 hi hz0 hz1 hz2 rfl (by decide) _ _ _ rfl (hown.alloc _) ⟨wr.heap.size, 0, none⟩ 1 1 [.int .u64 (r : Nat)] rfl rfl ?c1a ?c1b ?c1c ?c1d ?c1e ?_)
            | go_in)
          case c1a =>
            intro j u hj
            match j, hj with
            | 0, hj => simp at hj; subst hj; simp [Addr.add]
          case c1b => intro u hu; simp at hu; subst hu; rfl
          case c1c => unfold maxLen; omega
          case c1d => omega
          case c1e => have := hbe.size; simp; omega
          · intro v' w1 hown' hgrow _
            have R := own_step (os := os) (r := r) ho hown hbe (Nat.le_refl _) (by simpa using hown') hgrow
            have RL : (os ++ [r]).length = k + 1 := by simp [ho]
            rw [RL] at R
            clear hown' hgrow hown
            go_wp2
            go_roundw
            case rel => exact ⟨k + 1, 1, os ++ [r], by omega, by simp, by simp, by omega, RL, HR2.out.1, HR2.out.2, R.1, R.2⟩
            case measure => simp [intOf]; omega
        · obtain ⟨r, hr⟩ : ∃ r : Nat, (x : Int) - (c + y) = r := ⟨x - (c + y), by omega⟩
          have HR2 : Hid _ := HR.out r 0 (by omega) (by omega)
          go_wp2_with (first
            | (at_builtin; refine wpList_append_own _ rfl _ _ 58 rfl w.heap.size 40 i0 (.int .u64 0) 1 8 Tryz.underlying58 hi hz0 hz1 hz2 rfl (by decide) _ _ _ rfl (hown.alloc _) ⟨wr.heap.size, 0, none⟩ 1 1 [.int .u64 (r : Nat)] rfl rfl ?c2a ?c2b ?c2c ?c2d ?c2e ?_)
            | go_in)
          case c2a =>
            intro j u hj
            match j, hj with
            | 0, hj => simp at hj; subst hj; simp [Addr.add]
          case c2b => intro u hu; simp at hu; subst hu; rfl
          case c2c => unfold maxLen; omega
          case c2d => omega
          case c2e => have := hbe.size; simp; omega
          · intro v' w1 hown' hgrow _
            have R := own_step (os := os) (r := r) ho hown hbe (Nat.le_refl _) (by simpa using hown') hgrow
            have RL : (os ++ [r]).length = k + 1 := by simp [ho]
            rw [RL] at R
            clear hown' hgrow hown
            go_wp2
            go_roundw
            case rel => exact ⟨k + 1, 0, os ++ [r], by omega, by simp, by simp, by omega, RL, HR2.out.1, HR2.out.2, R.1, R.2⟩
            case measure => simp [intOf]; omega
      · have h0 : ms.getD k 0 = 0 := by simp [List.getElem?_eq_none (Nat.le_of_not_lt hlm)]
        rw [h0] at HR hyl
        by_cases hxy : x < c
        · obtain ⟨r, hr⟩ : ∃ r : Nat, (x : Int) + 4294967296 - c = r := ⟨x + 4294967296 - c, by omega⟩
          have HR2 : Hid _ := HR.out r 1 (by omega) (by omega)
          go_wp2_with (first
            | (at_builtin; refine wpList_append_own _ rfl _ _ 58 rfl w.heap.size 40 i0 (.int .u64 0) 1 8 Tryz.underlying58 hi hz0 hz1 hz2 rfl (by decide) _ _ _ rfl (hown.alloc _) ⟨wr.heap.size, 0, none⟩ 1 1 [.int .u64 (r : Nat)] rfl rfl ?c3a ?c3b ?c3c ?c3d ?c3e ?_)
            | go_in)
          case c3a =>
            intro j u hj
            match j, hj with
            | 0, hj => simp at hj; subst hj; simp [Addr.add]
          case c3b => intro u hu; simp at hu; subst hu; rfl
          case c3c => unfold maxLen; omega
          case c3d => omega
          case c3e => have := hbe.size; simp; omega
          · intro v' w1 hown' hgrow _
            have R := own_step (os := os) (r := r) ho hown hbe (Nat.le_refl _) (by simpa using hown') hgrow
            have RL : (os ++ [r]).length = k + 1 := by simp [ho]
            rw [RL] at R
            clear hown' hgrow hown
            go_wp2
            go_roundw
            case rel => exact ⟨k + 1, 1, os ++ [r], by omega, by simp, by simp, by omega, RL, HR2.out.1, HR2.out.2, R.1, R.2⟩
            case measure => simp [intOf]; omega
        · obtain ⟨r, hr⟩ : ∃ r : Nat, (x : Int) - c = r := ⟨x - c, by omega⟩
          have HR2 : Hid _ := HR.out r 0 (by omega) (by omega)
          go_wp2_with (first
            | (at_builtin; refine wpList_append_own _ rfl _ _ 58 rfl w.heap.size 40 i0 (.int .u64 0) 1 8 Tryz.underlying58 hi hz0 hz1 hz2 rfl (by decide) _ _ _ rfl (hown.alloc _) ⟨wr.heap.size, 0, none⟩ 1 1 [.int .u64 (r : Nat)] rfl rfl ?c4a ?c4b ?c4c ?c4d ?c4e ?_)
            | go_in)
          case c4a =>
            intro j u hj
            match j, hj with
            | 0, hj => simp at hj; subst hj; simp [Addr.add]
          case c4b => intro u hu; simp at hu; subst hu; rfl
          case c4c => unfold maxLen; omega
          case c4d => omega
          case c4e => have := hbe.size; simp; omega
          · intro v' w1 hown' hgrow _
            have R := own_step (os := os) (r := r) ho hown hbe (Nat.le_refl _) (by simpa using hown') hgrow
            have RL : (os ++ [r]).length = k + 1 := by simp [ho]
            rw [RL] at R
            clear hown' hgrow hown
            go_wp2
            go_roundw
            case rel => exact ⟨k + 1, 0, os ++ [r], by omega, by simp, by simp, by omega, RL, HR2.out.1, HR2.out.2, R.1, R.2⟩
            case measure => simp [intOf]; omega
    · obtain rfl : k = ls.length := by omega
      have HE : Hid _ := sub_end ls ms os c hm ho HLE.out HO.out HV.out
      have HR : Hid (Row wr u5 os) := Row.of_owns (by rw [ho]; exact hown)
      clear HV hown
      go_wp2_with (go_at_call 53; refine (l0trim_any os _ _ HR.out).mono ?_; rintro e w2 ⟨rfl, v2, rfl, hv2⟩)
      go_ret
      exact ⟨_, rfl, hbe, Big.of_trim hv2 HO.out HE.out⟩
end Go.Proofs.YtoedefjngipeiaaGreatDoor

/- l4ratio of the specification: long division, plain part. -/
namespace Go.Proofs.YtoedefjngipeiaaGreatDoor
open Go.ChangeShapes Go.WideShapes Go.RowKit

theorem bits_pos {A n : Nat} (h : Bits A n) (h0 : 0 < A) : 0 < n ∧ 2 ^ (n - 1) ≤ A ∧ A < 2 ^ n := by
  rcases h with ⟨h, _⟩ | h
  · omega
  · exact h
theorem bits_shl {A n k : Nat} (h : Bits A n) (h0 : 0 < A) : 0 < n + k ∧ 2 ^ (n + k - 1) ≤ A * 2 ^ k ∧ A * 2 ^ k < 2 ^ (n + k) := by
  obtain ⟨h1, h2, h3⟩ := bits_pos h h0
  refine ⟨by omega, ?_, ?_⟩
  · rw [show n + k - 1 = n - 1 + k by omega, Nat.pow_add]
    exact Nat.mul_le_mul_right _ h2
  · rw [Nat.pow_add]
    exact Nat.mul_lt_mul_of_pos_right h3 (Nat.two_pow_pos k)
/-- The two numbers that are divided: 63 bits apart. -/
theorem apart {A C a c : Nat} (hA : 0 < a ∧ 2 ^ (a - 1) ≤ A ∧ A < 2 ^ a) (hC : 0 < c ∧ 2 ^ (c - 1) ≤ C ∧ C < 2 ^ c) (h : a = c + 63) :
    A < C * 18446744073709551616 ∧ C * 4611686018427387904 ≤ A := by
  obtain ⟨a0, a1, a2⟩ := hA
  obtain ⟨c0, c1, c2⟩ := hC
  subst h
  constructor
  · have : 2 ^ (c + 63) = 2 ^ (c - 1) * 18446744073709551616 := by
      rw [show (18446744073709551616 : Nat) = 2 ^ 64 from rfl, ← Nat.pow_add]; congr 1; omega
    have h2 := Nat.mul_le_mul_right 18446744073709551616 c1
    omega
  · have : 2 ^ (c + 63 - 1) = 2 ^ c * 4611686018427387904 := by
      rw [show (4611686018427387904 : Nat) = 2 ^ 62 from rfl, ← Nat.pow_add]
      congr 1
    have h2 := Nat.mul_le_mul_right 4611686018427387904 (Nat.le_of_lt c2)
    omega
/-- What holds between the rounds of the division: k places are still to come. -/
def Div (A C R q k : Nat) : Prop := A = q * C + R ∧ R < C * 2 ^ k ∧ q % 2 ^ k = 0 ∧ q < 18446744073709551616
theorem div_start {A C : Nat} (h : A < C * 18446744073709551616) : Div A C A 0 64 := ⟨by omega, h, by simp, by omega⟩
theorem div_no {A C R q k : Nat} (h : Div A C R q (k + 1)) (hlt : R < C * 2 ^ k) : Div A C R q k := by
  obtain ⟨h1, _, h3, h4⟩ := h
  refine ⟨h1, hlt, ?_, h4⟩
  have hd : 2 ^ k ∣ 2 ^ (k + 1) := ⟨2, Nat.pow_succ _ _⟩
  exact Nat.mod_eq_zero_of_dvd (Nat.dvd_trans hd (Nat.dvd_of_mod_eq_zero h3))
theorem or_bit (q k : Nat) (hk : k ≤ 63) (hq : q < 18446744073709551616) (h : q % 2 ^ (k + 1) = 0) : q ||| 2 ^ k = q + 2 ^ k ∧ q + 2 ^ k < 18446744073709551616 := by
  obtain ⟨t, rfl⟩ := Nat.dvd_of_mod_eq_zero h
  have hlt : 2 ^ k < 2 ^ (k + 1) := Nat.pow_lt_pow_right (by omega) (by omega)
  refine ⟨(Nat.two_pow_add_eq_or_of_lt hlt t).symm, ?_⟩
  have e : (18446744073709551616 : Nat) = 2 ^ (k + 1) * 2 ^ (63 - k) := by
    rw [← Nat.pow_add, show k + 1 + (63 - k) = 64 by omega]
  rw [e] at hq ⊢
  have ht : t < 2 ^ (63 - k) := Nat.lt_of_mul_lt_mul_left hq
  have h2 := Nat.mul_le_mul_left (2 ^ (k + 1)) (show t + 1 ≤ 2 ^ (63 - k) from ht)
  rw [Nat.mul_add, Nat.mul_one] at h2
  omega
theorem div_yes {A C R q k : Nat} (h : Div A C R q (k + 1)) (hk : k ≤ 63) (hge : C * 2 ^ k ≤ R) : Div A C (R - C * 2 ^ k) (q ||| 2 ^ k) k := by
  obtain ⟨h1, h2, h3, h4⟩ := h
  obtain ⟨e1, e2⟩ := or_bit q k hk h4 h3
  rw [e1]
  refine ⟨?_, ?_, ?_, e2⟩
  · rw [Nat.add_mul, Nat.mul_comm (2 ^ k) C]; omega
  · rw [Nat.pow_succ, ← Nat.mul_assoc] at h2; omega
  · have hd : 2 ^ k ∣ 2 ^ (k + 1) := ⟨2, Nat.pow_succ _ _⟩
    have := Nat.dvd_trans hd (Nat.dvd_of_mod_eq_zero h3)
    exact Nat.mod_eq_zero_of_dvd (Nat.dvd_add this (Nat.dvd_refl _))
theorem div_end {A C R q : Nat} (h : Div A C R q 0) (hC : 0 < C) : q = A / C ∧ R = A % C := by
  obtain ⟨h1, h2, _, _⟩ := h
  rw [Nat.pow_zero, Nat.mul_one] at h2
  subst h1
  constructor
  · rw [Nat.mul_comm, Nat.mul_add_div hC, Nat.div_eq_of_lt h2, Nat.add_zero]
  · rw [Nat.mul_comm, Nat.mul_add_mod, Nat.mod_eq_of_lt h2]
theorem div_rest {A C R q k : Nat} (h : Div A C R q k) : R ≤ A := by have := h.1; omega
theorem or_cast (q k : Nat) (hq : q < 18446744073709551616) (hk : k ≤ 63) : bits .or .u64 (q : Int) (((2 ^ k : Nat) : Int)) = ((q ||| 2 ^ k : Nat) : Int) ∧ IntKind.u64.wrap (2 ^ k) = ((2 ^ k : Nat) : Int) := by
  have h1 : 2 ^ k < 2 ^ 64 := Nat.pow_lt_pow_right (by omega) (by omega)
  have c : (2 : Int) ^ k = ((2 ^ k : Nat) : Int) := (Int.natCast_pow 2 k).symm
  refine ⟨u64_or_nat q (2 ^ k) hq h1, ?_⟩
  rw [c, IntKind.wrap_u64]
  generalize 2 ^ k = z at *
  have : (2 : Nat) ^ 64 = 18446744073709551616 := rfl
  omega
end Go.Proofs.YtoedefjngipeiaaGreatDoor

/- l2near of the specification: a number times a power of two, rounded once. -/
namespace Go.Proofs.YtoedefjngipeiaaGreatDoor
open Go.ChangeShapes Go.WideShapes Go.RowKit
open Ieee (double)

theorem float_ret (x y : Nat) (h : x = y) : Ending.returned (.float .f64 x) = .returned (.float .f64 y) := by rw [h]
theorem fw_normal (s : Bool) (m j : Nat) (e : Int) : fw s m e = fw s (m * 2 ^ j) (e - j) := (fw_scale s m j e).symm

theorem two_times (m j : Nat) (x : Int) (h : x = ((m * 2 ^ j : Nat) : Int)) : x * 2 = ((m * 2 ^ (j + 1) : Nat) : Int) := by
  rw [Nat.pow_succ, ← Nat.mul_assoc]; omega
theorem few_times (m j : Nat) (x : Int) (h0 : 0 < m) (h : x = ((m * 2 ^ j : Nat) : Int)) (hx : x < 9223372036854775808) : j + 1 ≤ 63 := by
  have h1 : 2 ^ j ≤ m * 2 ^ j := Nat.le_mul_of_pos_left _ h0
  have h2 : 2 ^ j < 2 ^ 63 := by
    have : (2 : Nat) ^ 63 = 9223372036854775808 := rfl
    omega
  have := (Nat.pow_lt_pow_iff_right (a := 2) (by omega)).1 h2
  omega

/-- The numbers that the rounding reckons with. -/
theorem near_vars (x : Int) (d : Nat) (hb : 9223372036854775808 ≤ x) (hx : x < 18446744073709551616) (hd : 11 ≤ d) (hd' : d ≤ 63) : ∃ K Q H : Int,
    x / 2 ^ d = K ∧ IntKind.u64.wrap (K * 2 ^ d) = Q ∧ IntKind.u64.wrap (2 ^ (d - 1)) = H ∧ 0 ≤ Q ∧ Q ≤ x ∧ 0 < H ∧ H ≤ 4611686018427387904 ∧ 0 ≤ K ∧ K < 9007199254740992
    ∧ K = ((x.toNat / 2 ^ d : Nat) : Int) ∧ x - Q = ((x.toNat % 2 ^ d : Nat) : Int) ∧ H = ((2 ^ (d - 1) : Nat) : Int) := by
  obtain ⟨M, rfl⟩ := Int.eq_ofNat_of_zero_le (show 0 ≤ x by omega)
  rw [Int.toNat_natCast]
  have hk : M / 2 ^ d < 9007199254740992 := by
    have e : (2 : Nat) ^ 11 ≤ 2 ^ d := Nat.pow_le_pow_right (by omega) hd
    rw [Nat.div_lt_iff_lt_mul (Nat.two_pow_pos d)]
    have : (2 : Nat) ^ 11 = 2048 := rfl
    have e2 : 9007199254740992 * 2048 ≤ 9007199254740992 * 2 ^ d := Nat.mul_le_mul_left _ (by omega)
    omega
  have hdm := Nat.div_add_mod M (2 ^ d)
  rw [Nat.mul_comm] at hdm
  have hH1 : 2 ^ (d - 1) ≤ 2 ^ 62 := Nat.pow_le_pow_right (by omega) (by omega)
  have hH0 : 0 < 2 ^ (d - 1) := Nat.two_pow_pos _
  have e62 : (2 : Nat) ^ 62 = 4611686018427387904 := rfl
  have c1 : (M : Int) / 2 ^ d = ((M / 2 ^ d : Nat) : Int) := by
    rw [Int.natCast_ediv]; congr 1
  have c2 : ((M / 2 ^ d : Nat) : Int) * 2 ^ d = ((M / 2 ^ d * 2 ^ d : Nat) : Int) := by
    rw [Int.natCast_mul]; congr 1
  have c3 : (2 : Int) ^ (d - 1) = ((2 ^ (d - 1) : Nat) : Int) := (Int.natCast_pow 2 (d - 1)).symm
  generalize hq : M / 2 ^ d = q at *
  generalize hr : M % 2 ^ d = r at *
  generalize hg : q * 2 ^ d = g at *
  generalize 2 ^ (d - 1) = h at *
  refine ⟨q, g, h, c1, ?_, ?_, by omega, by omega, by omega, by omega, by omega, by omega, rfl, by omega, rfl⟩
  · rw [c2, IntKind.wrap_u64]; omega
  · rw [c3, IntKind.wrap_u64]; omega

theorem kept_up (M d : Nat) (K R H : Int) (F1 : K = ((M / 2 ^ d : Nat) : Int)) (F2 : R = ((M % 2 ^ d : Nat) : Int)) (F3 : H = ((2 ^ (d - 1) : Nat) : Int)) (h : H < R ∨ (R = H ∧ K % 2 = 1)) : keptOf M d = (K + 1).toNat := by
  unfold keptOf
  generalize M / 2 ^ d = q at *
  generalize M % 2 ^ d = r at *
  generalize 2 ^ (d - 1) = g at *
  rw [if_pos (by omega)]
  omega
theorem kept_down (M d : Nat) (K R H : Int) (F1 : K = ((M / 2 ^ d : Nat) : Int)) (F2 : R = ((M % 2 ^ d : Nat) : Int)) (F3 : H = ((2 ^ (d - 1) : Nat) : Int)) (h : R < H ∨ (R = H ∧ ¬ K % 2 = 1)) : keptOf M d = K.toNat := by
  unfold keptOf
  generalize M / 2 ^ d = q at *
  generalize M % 2 ^ d = r at *
  generalize 2 ^ (d - 1) = g at *
  rw [if_neg (by omega)]
  omega
theorem kept_64_up (x : Int) (h1 : x < 18446744073709551616) (h : 9223372036854775808 < x) : keptOf x.toNat 64 = (1 : Int).toNat := by
  unfold keptOf
  have e : x.toNat % 2 ^ 64 = x.toNat := Nat.mod_eq_of_lt (by omega)
  have e2 : x.toNat / 2 ^ 64 = 0 := Nat.div_eq_of_lt (by omega)
  rw [e, e2, if_pos (.inl (by omega))]
  rfl
theorem kept_64_down (x : Int) (h : 9223372036854775808 ≤ x) (h' : x ≤ 9223372036854775808) : keptOf x.toNat 64 = (0 : Int).toNat := by
  unfold keptOf
  have e : x.toNat % 2 ^ 64 = x.toNat := Nat.mod_eq_of_lt (by omega)
  have e2 : x.toNat / 2 ^ 64 = 0 := Nat.div_eq_of_lt (by omega)
  rw [e, e2, if_neg (by omega)]
  rfl
theorem l2scaled_int (k E : Int) (h0 : 0 ≤ k) (hk : k < 9007199254740992) (h1 : -1074 ≤ E) (h2 : E ≤ 971) (w : World) :
    Calls Tryz.prog 46 #[.int .u64 k, .int .i64 E] w fun e w' => e = .returned (.float .f64 (fw false k.toNat E)) ∧ w' = w := by
  obtain ⟨m, rfl⟩ := Int.eq_ofNat_of_zero_le h0
  rw [Int.toNat_natCast]
  exact l2scaled_any m E (by omega) h1 h2 w

set_option maxRecDepth 100000 in
set_option maxHeartbeats 1000000 in
theorem l2near_loop (y e : Int) (h0 : 0 < y) (hm : y < 18446744073709551616) (h1 : -2000 ≤ e) (h2 : e ≤ 2000) (w : World) :
    Calls Tryz.prog 93 #[.int .u64 y, .int .i64 e, .bool false] w fun r w' => r = .returned (.float .f64 (fw false y.toNat e)) ∧ w' = w := by
  have e0 : (y == 0) = false := beq_eq_false_iff_ne.2 (by omega)
  go_enter Tryz.func93, Tryz.ntmps93
  go_wp2
  go_loop [0, 1] (fun a b => ∃ (j : Nat) (x : Int), a = .int .u64 x ∧ b = .int .i64 (e - j) ∧ 0 < x ∧ x < 18446744073709551616 ∧ Hid (x = ((y.toNat * 2 ^ j : Nat) : Int)) ∧ j ≤ 63) (fun a _ => (18446744073709551616 - intOf a).toNat)
  case atStart => exact ⟨0, y, rfl, by simp, h0, hm, by show y = ((y.toNat * 2 ^ 0 : Nat) : Int); rw [Nat.pow_zero, Nat.mul_one]; omega, by omega⟩
  case round =>
    obtain ⟨j, x, rfl, rfl, hM0, hM1, HM, hj⟩ := hrel
    by_cases hlt : x < 9223372036854775808
    · have hj2 := few_times y.toNat j x (by omega) HM.out hlt
      go_wp2
      refine ⟨⟨j + 1, x * 2, rfl, ?_, by omega, by omega, two_times y.toNat j x HM.out, hj2⟩, ?_⟩
      · rw [show e - ((j + 1 : Nat) : Int) = e - j - 1 by omega]
      · simp only [intOf]; omega
    · have HF : Hid (fw false y.toNat e = fw false x.toNat (e - j)) := by
        show fw false y.toNat e = fw false x.toNat (e - j)
        have hx : x.toNat = y.toNat * 2 ^ j := by rw [HM.out]; exact Int.toNat_natCast _
        rw [hx]; exact fw_normal false y.toNat j e
      clear HM e0
      have hb : 9223372036854775808 ≤ x := by omega
      have he1 : -2063 ≤ e - j := by omega
      have he2 : e - j ≤ 2000 := by omega
      have HB : Hid _ := fun (_ : Unit) => And.intro (show 9223372036854775808 ≤ x.toNat by omega) (show x.toNat < 18446744073709551616 by omega)
      generalize e - (j : Int) = p at *
      clear hlt hM0 hj
      by_cases c1 : 1024 < p
      · have HX : Hid (fw false y.toNat e = iw false) := HF.out.trans (fw_huge false _ p (HB.out ()).1 (HB.out ()).2 (by omega))
        go_wp2_with (go_at_call 39; refine (l2inf_any _).mono ?_; rintro e w' ⟨rfl, rfl⟩)
        go_ret
        exact ⟨by rw [HX.out]; rfl, rfl⟩
      · by_cases c2 : p < -1200
        · have HX : Hid (fw false y.toNat e = 0) := HF.out.trans (near_far _ p (HB.out ()).2 (by omega))
          go_wp2
          go_ret
          exact ⟨by rw [HX.out]; rfl, rfl⟩
        · by_cases c3 : p + 11 < -1074
          · by_cases c4 : 64 < -1074 - p
            · have HX : Hid (fw false y.toNat e = 0) := HF.out.trans (near_far _ p (HB.out ()).2 (by omega))
              go_wp2
              go_ret
              exact ⟨by rw [HX.out]; rfl, rfl⟩
            · have HN : Hid (fw false y.toNat e = fw false (keptOf x.toNat (-1074 - p).toNat) (-1074)) := HF.out.trans (near_b _ p (HB.out ()).1 (HB.out ()).2 (by omega) (by omega))
              by_cases c5 : -1074 - p = 64
              · obtain rfl : p = -1138 := by omega
                have e64 : (-1074 - (-1138 : Int)).toNat = 64 := by omega
                have HM : Hid _ := fun (_ : Unit) => HN.out
                rw [e64] at HM
                clear HN HF he1 he2 c1 c2 c3 c4 c5 e64
                by_cases d1 : 9223372036854775808 < x
                · have HX : Hid (fw false y.toNat e = fw false (1 : Int).toNat (-1074)) := (HM.out ()).trans (congrArg (fun t => fw false t (-1074)) (kept_64_up x hM1 d1))
                  clear HM HB
                  go_wp2_with (go_at_call 46; refine (l2scaled_int _ _ (by omega) (by omega) (by omega) (by omega) _).mono ?_; rintro e w' ⟨rfl, rfl⟩)
                  go_ret
                  exact ⟨by rw [HX.out]; rfl, rfl⟩
                · have d2 : (x == 9223372036854775808) = true := beq_iff_eq.2 (by omega)
                  have HX : Hid (fw false y.toNat e = fw false (0 : Int).toNat (-1074)) := (HM.out ()).trans (congrArg (fun t => fw false t (-1074)) (kept_64_down x hb (by omega)))
                  clear HM HB
                  go_wp2_with (go_at_call 46; refine (l2scaled_int _ _ (by omega) (by omega) (by omega) (by omega) _).mono ?_; rintro e w' ⟨rfl, rfl⟩)
                  go_ret
                  exact ⟨by rw [HX.out]; rfl, rfl⟩
              · have c6 : -1074 - p < 64 := by omega
                have e64 : (-1074 - p == 64) = false := beq_eq_false_iff_ne.2 c5
                obtain ⟨K, Q, H, hK, hQ, hH, q0, q1, g0, g1, k0, k1, FK, FR, FH⟩ := near_vars x (-1074 - p).toNat hb hM1 (by omega) (by omega)
                have F1 : Hid _ := FK
                have F2 : Hid _ := FR
                have F3 : Hid _ := FH
                have k2 : K < 4503599627370496 := by have := (kept_more x.toNat (-1074 - p).toNat (HB.out ()).2 (by omega)).1; omega
                clear FK FR FH c5
                have HU : Hid _ := fun h => HN.out.trans (congrArg (fun t => fw false t (-1074)) (kept_up x.toNat _ K (x - Q) H F1.out F2.out F3.out h))
                have HD : Hid _ := fun h => HN.out.trans (congrArg (fun t => fw false t (-1074)) (kept_down x.toNat _ K (x - Q) H F1.out F2.out F3.out h))
                clear F1 F2 F3 HN HF
                by_cases d1 : H < x - Q
                · have HX : Hid _ := HU.out (.inl d1)
                  clear HU HD
                  go_wp2_with (go_at_call 46; refine (l2scaled_int _ _ (by omega) (by omega) (by omega) (by omega) _).mono ?_; rintro e w' ⟨rfl, rfl⟩)
                  go_ret
                  exact ⟨by rw [HX.out]; rfl, rfl⟩
                · by_cases d2 : x - Q = H
                  · have b2 : (x - Q == H) = true := beq_iff_eq.2 d2
                    by_cases d3 : K % 2 = 1
                    · have b3 : (K % 2 == 1) = true := beq_iff_eq.2 d3
                      have HX : Hid _ := HU.out (.inr ⟨d2, d3⟩)
                      clear HU HD d2 d3
                      go_wp2_with (go_at_call 46; refine (l2scaled_int _ _ (by omega) (by omega) (by omega) (by omega) _).mono ?_; rintro e w' ⟨rfl, rfl⟩)
                      go_ret
                      exact ⟨by rw [HX.out]; rfl, rfl⟩
                    · have b3 : (K % 2 == 1) = false := beq_eq_false_iff_ne.2 d3
                      have HX : Hid _ := HD.out (.inr ⟨d2, d3⟩)
                      clear HU HD d2 d3
                      go_wp2_with (go_at_call 46; refine (l2scaled_int _ _ (by omega) (by omega) (by omega) (by omega) _).mono ?_; rintro e w' ⟨rfl, rfl⟩)
                      go_ret
                      exact ⟨by rw [HX.out]; rfl, rfl⟩
                  · have b2 : (x - Q == H) = false := beq_eq_false_iff_ne.2 d2
                    have HX : Hid _ := HD.out (.inl (by omega))
                    clear HU HD d2
                    go_wp2_with (go_at_call 46; refine (l2scaled_int _ _ (by omega) (by omega) (by omega) (by omega) _).mono ?_; rintro e w' ⟨rfl, rfl⟩)
                    go_ret
                    exact ⟨by rw [HX.out]; rfl, rfl⟩
          · have e11 : (p + 11 - p).toNat = 11 := by omega
            have n64 : (p + 11 - p == 64) = false := beq_eq_false_iff_ne.2 (by omega)
            obtain ⟨K, Q, H, hK, hQ, hH, q0, q1, g0, g1', k0, k1, FK, FR, FH⟩ := near_vars x (p + 11 - p).toNat hb hM1 (by omega) (by omega)
            have F1 : Hid _ := FK
            have F2 : Hid _ := FR
            have F3 : Hid _ := FH
            have HU : Hid _ := fun h => kept_up x.toNat _ K (x - Q) H FK FR FH h
            have HD : Hid _ := fun h => kept_down x.toNat _ K (x - Q) H FK FR FH h
            rw [e11] at HU HD
            have HA : Hid _ := fun h1 h2 => HF.out.trans (near_a_fits x.toNat p (HB.out ()).1 (HB.out ()).2 (by omega) h1 h2)
            have HC : Hid _ := fun h1 h2 => HF.out.trans (near_a_carry x.toNat p (HB.out ()).1 (HB.out ()).2 (by omega) h1 h2)
            have HI : Hid _ := fun h => HF.out.trans (near_a_inf x.toNat p (HB.out ()).1 (HB.out ()).2 (by omega) h)
            clear FK FR FH HF HB e11
            by_cases d1 : H < x - Q
            · skip
              have hk := HU.out (.inl d1)
              by_cases f1 : K + 1 = 9007199254740992
              · have g1 : (K + 1 == 9007199254740992) = true := beq_iff_eq.2 f1
                by_cases f2 : 971 < p + 11 + 1
                · have HX : Hid _ := HI.out (.inr ⟨by rw [hk]; omega, f2⟩)
                  clear f1 hk
                  clear HU HD HA HC HI F1 F2 F3
                  go_wp2_with (go_at_call 39; refine (l2inf_any _).mono ?_; rintro e w' ⟨rfl, rfl⟩)
                  go_ret
                  exact ⟨by rw [HX.out]; rfl, rfl⟩
                · have HX : Hid _ := HC.out (by omega) (by rw [hk]; omega)
                  clear f1 hk
                  clear HU HD HA HC HI F1 F2 F3
                  go_wp2_with (go_at_call 46; refine (l2scaled_int _ _ (by omega) (by omega) (by omega) (by omega) _).mono ?_; rintro e w' ⟨rfl, rfl⟩)
                  go_ret
                  exact ⟨by rw [HX.out]; rfl, rfl⟩
              · have g1 : (K + 1 == 9007199254740992) = false := beq_eq_false_iff_ne.2 f1
                have f3 : K + 1 < 9007199254740992 := by omega
                by_cases f2 : 971 < p + 11
                · have HX : Hid _ := HI.out (.inl f2)
                  clear f1 hk
                  clear HU HD HA HC HI F1 F2 F3
                  go_wp2_with (go_at_call 39; refine (l2inf_any _).mono ?_; rintro e w' ⟨rfl, rfl⟩)
                  go_ret
                  exact ⟨by rw [HX.out]; rfl, rfl⟩
                · have HX : Hid _ := (HA.out (by omega) (by rw [hk]; omega)).trans (congrArg (fun t => fw false t (p + 11)) hk)
                  clear f1 hk
                  clear HU HD HA HC HI F1 F2 F3
                  go_wp2_with (go_at_call 46; refine (l2scaled_int _ _ (by omega) (by omega) (by omega) (by omega) _).mono ?_; rintro e w' ⟨rfl, rfl⟩)
                  go_ret
                  exact ⟨by rw [HX.out]; rfl, rfl⟩
            · by_cases d2 : x - Q = H
              · have b2 : (x - Q == H) = true := beq_iff_eq.2 d2
                by_cases d3 : K % 2 = 1
                · have b3 : (K % 2 == 1) = true := beq_iff_eq.2 d3
                  have hk := HU.out (.inr ⟨d2, d3⟩)
                  by_cases f1 : K + 1 = 9007199254740992
                  · have g1 : (K + 1 == 9007199254740992) = true := beq_iff_eq.2 f1
                    by_cases f2 : 971 < p + 11 + 1
                    · have HX : Hid _ := HI.out (.inr ⟨by rw [hk]; omega, f2⟩)
                      clear f1 hk d2 d3
                      clear HU HD HA HC HI F1 F2 F3
                      go_wp2_with (go_at_call 39; refine (l2inf_any _).mono ?_; rintro e w' ⟨rfl, rfl⟩)
                      go_ret
                      exact ⟨by rw [HX.out]; rfl, rfl⟩
                    · have HX : Hid _ := HC.out (by omega) (by rw [hk]; omega)
                      clear f1 hk d2 d3
                      clear HU HD HA HC HI F1 F2 F3
                      go_wp2_with (go_at_call 46; refine (l2scaled_int _ _ (by omega) (by omega) (by omega) (by omega) _).mono ?_; rintro e w' ⟨rfl, rfl⟩)
                      go_ret
                      exact ⟨by rw [HX.out]; rfl, rfl⟩
                  · have g1 : (K + 1 == 9007199254740992) = false := beq_eq_false_iff_ne.2 f1
                    have f3 : K + 1 < 9007199254740992 := by omega
                    by_cases f2 : 971 < p + 11
                    · have HX : Hid _ := HI.out (.inl f2)
                      clear f1 hk d2 d3
                      clear HU HD HA HC HI F1 F2 F3
                      go_wp2_with (go_at_call 39; refine (l2inf_any _).mono ?_; rintro e w' ⟨rfl, rfl⟩)
                      go_ret
                      exact ⟨by rw [HX.out]; rfl, rfl⟩
                    · have HX : Hid _ := (HA.out (by omega) (by rw [hk]; omega)).trans (congrArg (fun t => fw false t (p + 11)) hk)
                      clear f1 hk d2 d3
                      clear HU HD HA HC HI F1 F2 F3
                      go_wp2_with (go_at_call 46; refine (l2scaled_int _ _ (by omega) (by omega) (by omega) (by omega) _).mono ?_; rintro e w' ⟨rfl, rfl⟩)
                      go_ret
                      exact ⟨by rw [HX.out]; rfl, rfl⟩
                · have b3 : (K % 2 == 1) = false := beq_eq_false_iff_ne.2 d3
                  have hk := HD.out (.inr ⟨d2, d3⟩)
                  have g1 : (K == 9007199254740992) = false := beq_eq_false_iff_ne.2 (by omega)
                  by_cases f2 : 971 < p + 11
                  · have HX : Hid _ := HI.out (.inl f2)
                    clear hk d2 d3
                    clear HU HD HA HC HI F1 F2 F3
                    go_wp2_with (go_at_call 39; refine (l2inf_any _).mono ?_; rintro e w' ⟨rfl, rfl⟩)
                    go_ret
                    exact ⟨by rw [HX.out]; rfl, rfl⟩
                  · have HX : Hid _ := (HA.out (by omega) (by rw [hk]; omega)).trans (congrArg (fun t => fw false t (p + 11)) hk)
                    clear hk d2 d3
                    clear HU HD HA HC HI F1 F2 F3
                    go_wp2_with (go_at_call 46; refine (l2scaled_int _ _ (by omega) (by omega) (by omega) (by omega) _).mono ?_; rintro e w' ⟨rfl, rfl⟩)
                    go_ret
                    exact ⟨by rw [HX.out]; rfl, rfl⟩
              · have b2 : (x - Q == H) = false := beq_eq_false_iff_ne.2 d2
                have hk := HD.out (.inl (by omega))
                have g1 : (K == 9007199254740992) = false := beq_eq_false_iff_ne.2 (by omega)
                by_cases f2 : 971 < p + 11
                · have HX : Hid _ := HI.out (.inl f2)
                  clear hk d2
                  clear HU HD HA HC HI F1 F2 F3
                  go_wp2_with (go_at_call 39; refine (l2inf_any _).mono ?_; rintro e w' ⟨rfl, rfl⟩)
                  go_ret
                  exact ⟨by rw [HX.out]; rfl, rfl⟩
                · have HX : Hid _ := (HA.out (by omega) (by rw [hk]; omega)).trans (congrArg (fun t => fw false t (p + 11)) hk)
                  clear hk d2
                  clear HU HD HA HC HI F1 F2 F3
                  go_wp2_with (go_at_call 46; refine (l2scaled_int _ _ (by omega) (by omega) (by omega) (by omega) _).mono ?_; rintro e w' ⟨rfl, rfl⟩)
                  go_ret
                  exact ⟨by rw [HX.out]; rfl, rfl⟩
end Go.Proofs.YtoedefjngipeiaaGreatDoor

