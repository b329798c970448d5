import Derived.Test.YtpmccbkhkaoccaaGreatDoorRows
import Derived.Test.YtpmccbkhkaoccaaGreatDoorB08
import Derived.WalkKit
import Derived.WalkSpells
import Derived.WalkLawsBesides
import Derived.Outline
import Derived.BigQuiet
import Derived.Deep.QuietTactic
import Derived.Test.YtpmccbkhkaoccaaGreatDoorB20
import Derived.Test.YtpmccbkhkaoccaaGreatDoorB10
import Derived.Test.YtpmccbkhkaoccaaGreatDoorB21
/- The digit of a byte, of the specification. -/
namespace Go.Proofs.YtpmccbkhkaoccaaGreatDoor
open Go.ChangeShapes Go.WideShapes Go.RowKit

set_option maxHeartbeats 400000 in
theorem specDigit_any (c : Int) (w : World) (h0 : 0 ≤ c) (h1 : c ≤ 255) :
    Calls Tryz.prog 114 #[.int .u8 c] w fun e w' => e = .returned (.int .i64 (digN 99 c)) ∧ w' = w := by
  by_cases ha : 48 ≤ c ∧ c ≤ 57
  · have hv : digN 99 c = c - 48 := by unfold digN; rw [if_pos ha]
    rw [hv]; clear hv
    obtain ⟨ha, hb⟩ := ha
    go_enter Tryz.func114, Tryz.ntmps114
    go_wp2
    go_ret
    exact ⟨rfl, rfl⟩
  · by_cases hb : 97 ≤ c ∧ c ≤ 122
    · have hv : digN 99 c = c - 97 + 10 := by unfold digN; rw [if_neg ha, if_pos hb]
      rw [hv]; clear hv
      obtain ⟨hb, hc⟩ := hb
      have hd : 57 < c := by omega
      clear ha
      go_enter Tryz.func114, Tryz.ntmps114
      go_wp2
      go_ret
      exact ⟨rfl, rfl⟩
    · have hv : digN 99 c = 99 := by unfold digN; rw [if_neg ha, if_neg hb]
      rw [hv]; clear hv
      go_enter Tryz.func114, Tryz.ntmps114
      go_wp2
      all_goals (try (exfalso; omega))
      all_goals
        go_ret
        exact ⟨rfl, rfl⟩

theorem specDigit_byte (c : UInt8) (w : World) :
    Calls Tryz.prog 114 #[.int .u8 c.toNat] w fun e w' => e = .returned (.int .i64 (digN 99 c.toNat)) ∧ w' = w :=
  specDigit_any _ w (by omega) (by have := c.toNat_lt; omega)
end Go.Proofs.YtpmccbkhkaoccaaGreatDoor

/- l4big of the specification: digits as a big number. -/
namespace Go.Proofs.YtpmccbkhkaoccaaGreatDoor
open Go.ChangeShapes Go.WideShapes Go.RowKit

set_option maxHeartbeats 1600000 in
set_option maxRecDepth 100000 in
theorem l4big_any (s : ByteArray) (b : Nat) (w : World) (hs : s.size < 900000) (hb : b ≤ 4000000000) :
    Calls Tryz.prog 93 #[.string s, .int .u64 (b : Int)] w fun e w' => ∃ v', e = .returned v' ∧ Below w.heap.size w w' ∧ Big w' v' (valN b s.data.toList) := by
  have HL : Hid _ := fun k => valN_take_lt b hb s k
  go_enter Tryz.func93, Tryz.ntmps93
  go_wp2
  go_loopw [5, 6] (fun v i wr => ∃ k : Nat, i = .int .i64 (k : Int) ∧ k ≤ s.size ∧ Hid (Big wr v (valN b (s.data.toList.take k))) ∧ Below w.heap.size w wr) (fun _ i _ => (s.size - (intOf i).toNat))
  case atStart => exact ⟨0, rfl, Nat.zero_le _, by show Big _ _ _; rw [List.take_zero]; exact ⟨[], Row.nil w, fun _ h => absurd h (by simp), rfl, by simp [bval, valN, val]⟩, Below.refl _ _⟩
  case round =>
    obtain ⟨k, rfl, hk, HV, hbe⟩ := hrel
    have hsz := hbe.size
    by_cases hlt : k < s.size
    · obtain ⟨d, hd⟩ : ∃ d : Nat, (d : Int) = digN 99 (s[k].toNat : Int) := ⟨(digN 99 (s[k].toNat : Int)).toNat, Int.toNat_of_nonneg (digN_lo 99 _ (by omega))⟩
      have hd99 : (d : Int) ≤ 99 := by rw [hd]; exact digN_hi 99 _ (by omega)
      have HD : Hid (∀ w, Calls Tryz.prog 114 #[.int .u8 (s[k].toNat : Int)] w fun e w' => e = .returned (.int .i64 (d : Int)) ∧ w' = w) := fun w => by
        have h := specDigit_byte s[k] w
        rw [← hd] at h
        exact h
      have HS : Hid _ := valN_step b s k hlt d hd
      have HM : Hid _ := fun v wr (hb' : Big wr v (valN b (s.data.toList.take k))) => l0mul_big v (valN b (s.data.toList.take k)) b d s.size wr hb' (HL.out k) (by omega) (by omega) (by omega)
      clear hd
      go_wp2_with (first
        | (go_at_call 114; refine (HD.out _).mono ?_; rintro e w' ⟨rfl, rfl⟩)
        | (go_at_call 104; refine (HM.out _ _ HV.out).mono ?_; rintro e w3 ⟨v3, rfl, hb3, hv3⟩))
      go_roundw
      case rel => exact ⟨k + 1, by simp, by omega, by show Big _ _ _; rw [HS.out]; exact hv3, hbe.trans (hb3.mono hsz)⟩
      case measure => simp only [intOf]; omega
    · obtain rfl : k = s.size := by omega
      have e : s.data.toList.take s.size = s.data.toList := List.take_of_length_le (by simp)
      have HV' : Hid _ := fun (_ : Unit) => HV.out
      rw [e] at HV'
      go_wp2
      go_ret
      exact ⟨_, rfl, hbe, HV'.out ()⟩
end Go.Proofs.YtpmccbkhkaoccaaGreatDoor

/- l0cmp of the specification. -/
namespace Go.Proofs.YtpmccbkhkaoccaaGreatDoor
open Go.ChangeShapes Go.WideShapes Go.RowKit

set_option maxHeartbeats 1600000 in
set_option maxRecDepth 100000 in
theorem l0cmp_any (v u : Value) (A C : Nat) (w : World) (h : Big w v A) (h' : Big w u C) :
    Calls Tryz.prog 116 #[v, u] w fun e w' => Below w.heap.size w w' ∧ e = .returned (.int .i64 (cmpI A C)) := by
  obtain ⟨ls, a1, a2, a3, rfl⟩ := h
  obtain ⟨ms, b1, b2, b3, rfl⟩ := h'
  obtain ⟨ao, acap, rfl, ac, am, ah⟩ := a1
  obtain ⟨bo, bcap, rfl, bc, bm, bh⟩ := b1
  have am' : acap ≤ 9223372036854775807 := am
  have bm' : bcap ≤ 9223372036854775807 := bm
  have HA : Hid _ := ah
  have HB : Hid _ := bh
  have LA : Hid _ := a2
  have LB : Hid _ := b2
  clear ah bh am bm
  by_cases hl : ls.length = ms.length
  · clear a2 b2 a3 b3
    have e0 : ((ms.length : Int) == ms.length) = true := beq_iff_eq.2 rfl
    rw [hl]
    go_enter Tryz.func116, Tryz.ntmps116
    go_wp2
    go_loopw [5] (fun i wr => ∃ k : Nat, i = .int .i64 ((k : Int) - 1) ∧ k ≤ ms.length ∧ Hid (ls.drop k = ms.drop k) ∧ Below w.heap.size w wr) (fun i _ => (intOf i + 1).toNat)
    case atStart => exact ⟨ms.length, rfl, Nat.le_refl _, by show _ = _; rw [List.drop_length, ← hl, List.drop_length], Below.refl _ _⟩
    case round =>
      obtain ⟨k, rfl, hk, HD, hbe⟩ := hrel
      cases k with
      | zero =>
        have HE : Hid (cmpI (bval ls) (bval ms) = 0) := cmpI_eq (congrArg bval (by simpa using HD.out))
        go_wp2
        go_ret
        exact ⟨hbe, by rw [HE.out]; rfl⟩
      | succ k =>
        obtain ⟨g, rfl, hg, hcl⟩ := Row.block ac HA.out (t := k) (by omega)
        obtain ⟨g', rfl, hg', hcl'⟩ := Row.block bc HB.out (t := k) (by omega)
        have hx : wr.cell? ⟨g, k, none⟩ = some (.int .u64 (ls.getD k 0 : Nat)) := (hbe.cell hg).trans (hcl k (by omega))
        have hy : wr.cell? ⟨g', k, none⟩ = some (.int .u64 (ms.getD k 0 : Nat)) := (hbe.cell hg').trans (hcl' k (by omega))
        clear hcl hcl'
        have hxl := lim_get LA.out k
        have hyl := lim_get LB.out k
        rcases Nat.lt_trichotomy (ls.getD k 0) (ms.getD k 0) with hc | hc | hc
        · have HE : Hid (cmpI (bval ls) (bval ms) = -1) := cmpI_lt (parts_lt LA.out hl k (by omega) HD.out hc)
          generalize ls.getD k 0 = x at *
          generalize ms.getD k 0 = y at *
          go_wp2
          go_quiet (fail)
          go_wp2
          go_ret
          exact ⟨by repeat (first | exact hbe | refine below_drewN ?_ _), by rw [HE.out]; rfl⟩
        · have HE : Hid (ls.drop k = ms.drop k) := drop_eq hl k (by omega) HD.out hc
          generalize ls.getD k 0 = x at *
          generalize ms.getD k 0 = y at *
          go_wp2
          go_quiet (fail)
          go_wp2
          go_quiet (fail)
          go_wp2
          exact ⟨⟨k, rfl, by omega, HE, by repeat (first | exact hbe | refine below_drewN ?_ _)⟩, by simp only [intOf]; omega⟩
        · have HE : Hid (cmpI (bval ls) (bval ms) = 1) := cmpI_gt (parts_lt LB.out hl.symm k (by omega) HD.out.symm hc)
          generalize ls.getD k 0 = x at *
          generalize ms.getD k 0 = y at *
          go_wp2
          go_quiet (fail)
          go_wp2
          go_quiet (fail)
          go_wp2
          go_ret
          exact ⟨by repeat (first | exact hbe | refine below_drewN ?_ _), by rw [HE.out]; rfl⟩
  · have e0 : ((ls.length : Int) == ms.length) = false := beq_eq_false_iff_ne.2 (by omega)
    by_cases hlt : ls.length < ms.length
    · have HE : Hid (cmpI (bval ls) (bval ms) = -1) := cmpI_lt (len_lt a2 b3 hlt)
      clear a2 b2 a3 b3
      go_enter Tryz.func116, Tryz.ntmps116
      go_wp2
      go_ret
      exact ⟨Below.refl _ _, by rw [HE.out]; rfl⟩
    · have HE : Hid (cmpI (bval ls) (bval ms) = 1) := cmpI_gt (len_lt b2 a3 (by omega))
      clear a2 b2 a3 b3
      go_enter Tryz.func116, Tryz.ntmps116
      go_wp2
      go_ret
      exact ⟨Below.refl _ _, by rw [HE.out]; rfl⟩
end Go.Proofs.YtpmccbkhkaoccaaGreatDoor

/- l0sub of the specification. -/
namespace Go.Proofs.YtpmccbkhkaoccaaGreatDoor
open Go.ChangeShapes Go.WideShapes Go.RowKit

/-- A round of the subtraction: what is taken from the part, and what is left. -/
theorem sub_round (ls ms os : List Nat) (c k : Nat) (hk : k < ls.length) (ho : os.length = k) (hL : Lim os)
    (hv : bval os + bval (ms.take k) = bval (ls.take k) + 4294967296 ^ k * c) (r d : Nat) (hr : r + (c + ms.getD k 0) = ls.getD k 0 + 4294967296 * d) (hr2 : r < 4294967296) :
    Lim (os ++ [r]) ∧ bval (os ++ [r]) + bval (ms.take (k + 1)) = bval (ls.take (k + 1)) + 4294967296 ^ (k + 1) * d := by
  refine ⟨?_, ?_⟩
  · intro y hy
    rcases List.mem_append.1 hy with h | h
    · exact hL y h
    · rw [List.mem_singleton.1 h]; omega
  · have hms : bval (ms.take (k + 1)) = bval (ms.take k) + 4294967296 ^ k * ms.getD k 0 := by
      by_cases h : k < ms.length
      · exact take_val ms k h
      · rw [List.take_of_length_le (by omega), List.take_of_length_le (by omega)]
        simp [List.getElem?_eq_none (Nat.le_of_not_lt h)]
    rw [take_val ls k hk, hms, bval_append, ho, Nat.pow_succ]
    generalize ls.getD k 0 = x at *
    generalize ms.getD k 0 = y at *
    generalize 4294967296 ^ k = z at *
    have e : z * r + z * c + z * y = z * x + z * 4294967296 * d := by
      rw [← Nat.mul_add, ← Nat.mul_add, Nat.mul_assoc, ← Nat.mul_add, Nat.add_assoc, hr]
    simp only [bval]
    rw [Nat.mul_zero, Nat.add_zero]
    omega
theorem sub_end (ls ms os : List Nat) (c : Nat) (hm : ms.length ≤ ls.length) (ho : os.length = ls.length) (hle : bval ms ≤ bval ls) (hL : Lim os)
    (hv : bval os + bval (ms.take ls.length) = bval (ls.take ls.length) + 4294967296 ^ ls.length * c) : bval os = bval ls - bval ms := by
  rw [List.take_length, List.take_of_length_le hm] at hv
  have h1 := bval_lt hL
  rw [ho] at h1
  cases c with
  | zero => omega
  | succ c =>
    have : 4294967296 ^ ls.length ≤ 4294967296 ^ ls.length * (c + 1) := Nat.le_mul_of_pos_right _ (by omega)
    omega

set_option maxHeartbeats 3200000 in
set_option maxRecDepth 100000 in
theorem l0sub_any (v u : Value) (A C n : Nat) (w : World) (h : Big w v A) (h' : Big w u C) (hA : A < 4294967296 ^ n) (hn : n < 1000000) (hle : C ≤ A) :
    Calls Tryz.prog 117 #[v, u] w fun e w' => ∃ v', e = .returned v' ∧ Below w.heap.size w w' ∧ Big w' v' (A - C) := by
  obtain ⟨i0, hi, hz0, hz1, hz2⟩ := info_parts Tryz.infoU
  obtain ⟨ls, a1, a2, a3, rfl⟩ := h
  obtain ⟨ms, b1, b2, b3, rfl⟩ := h'
  have hlen := Nat.lt_of_le_of_lt (trim_len a3 hA) hn
  have hm : ms.length ≤ ls.length := by
    apply Classical.byContradiction; intro hc
    have := len_lt a2 b3 (by omega); omega
  obtain ⟨ao, acap, rfl, ac, am, ah⟩ := a1
  obtain ⟨bo, bcap, rfl, bc, bm, bh⟩ := b1
  have HA : Hid _ := ah
  have HB : Hid _ := bh
  have LA : Hid _ := a2
  have LB : Hid _ := b2
  have HLE : Hid _ := hle
  clear ah bh am bm a2 b2 a3 b3 hA hle
  go_enter Tryz.func117, Tryz.ntmps117
  go_wp2
  go_loopw [5, 6, 12] (fun v cv i wr => ∃ (k c : Nat) (os : List Nat), k ≤ ls.length ∧ i = .int .i64 k ∧ cv = .int .u64 c ∧ c ≤ 1 ∧ os.length = k ∧ Hid (Lim os) ∧
      Hid (bval os + bval (ms.take k) = bval (ls.take k) + 4294967296 ^ k * c) ∧ wr.ownsRow w.heap.size 45 1 v k (os.map fun x => Value.int .u64 (x : Nat)) ∧ Below w.heap.size w wr)
    (fun _ _ i _ => ls.length - (intOf i).toNat)
  case atStart => exact ⟨0, 0, [], Nat.zero_le _, rfl, rfl, by omega, rfl, fun _ h => absurd h (by simp), by show _ = _; simp [bval], World.ownsRow_nil _ _ _ _, Below.refl _ _⟩
  case round =>
    obtain ⟨k, c, os, hk, rfl, rfl, hc, ho, HO, HV, hown, hbe⟩ := hrel
    by_cases hlt : k < ls.length
    · obtain ⟨g, rfl, hg, hcl⟩ := Row.block ac HA.out (t := k) hlt
      have hx : wr.cell? ⟨g, k, none⟩ = some (.int .u64 (ls.getD k 0 : Nat)) := (hbe.cell hg).trans (hcl k hlt)
      have hxl := lim_get LA.out k
      have hyl := lim_get LB.out k
      have HR : Hid _ := sub_round ls ms os c k hlt ho HO.out HV.out
      clear hcl HV
      generalize ls.getD k 0 = x at *
      by_cases hlm : k < ms.length
      · obtain ⟨g', rfl, hg', hcl'⟩ := Row.block bc HB.out (t := k) hlm
        have hy : wr.cell? ⟨g', k, none⟩ = some (.int .u64 (ms.getD k 0 : Nat)) := (hbe.cell hg').trans (hcl' k hlm)
        clear hcl'
        generalize ms.getD k 0 = y at *
        by_cases hxy : x < c + y
        · obtain ⟨r, hr⟩ : ∃ r : Nat, (x : Int) + 4294967296 - (c + y) = r := ⟨x + 4294967296 - (c + y), by omega⟩
          have HR2 : Hid _ := HR.out r 1 (by omega) (by omega)
          go_wp2_with (first
            | (at_builtin; refine wpList_append_own _ rfl _ _ 124 rfl w.heap.size 45 i0 (.int .u64 0) 1 8 Tryz.underlying124 hi hz0 hz1 hz2 rfl (by decide) _ _ _ rfl (hown.alloc _) ⟨wr.heap.size, 0, none⟩ 1 1 [.int .u64 (r : Nat)] rfl rfl ?c1a ?c1b ?c1c ?c1d ?c1e ?_)
            | go_in)
          case c1a =>
            intro j u hj
            match j, hj with
            | 0, hj => simp at hj; subst hj; simp [Addr.add]
          case c1b => intro u hu; simp at hu; subst hu; rfl
          case c1c => unfold maxLen; omega
          case c1d => omega
          case c1e => have := hbe.size; simp; omega
          · intro v' w1 hown' hgrow _
            have R := own_step (os := os) (r := r) ho hown hbe (Nat.le_refl _) (by simpa using hown') hgrow
            have RL : (os ++ [r]).length = k + 1 := by simp [ho]
            rw [RL] at R
            clear hown' hgrow hown
            go_wp2
            go_roundw
            case rel => exact ⟨k + 1, 1, os ++ [r], by omega, by simp, by simp, by omega, RL, HR2.out.1, HR2.out.2, R.1, R.2⟩
            case measure => simp [intOf]; omega
        · obtain ⟨r, hr⟩ : ∃ r : Nat, (x : Int) - (c + y) = r := ⟨x - (c + y), by omega⟩
          have HR2 : Hid _ := HR.out r 0 (by omega) (by omega)
          go_wp2_with (first
            | (at_builtin; refine wpList_append_own _ rfl _ _ 124 rfl w.heap.size 45 i0 (.int .u64 0) 1 8 Tryz.underlying124 hi hz0 hz1 hz2 rfl (by decide) _ _ _ rfl (hown.alloc _) ⟨wr.heap.size, 0, none⟩ 1 1 [.int .u64 (r : Nat)] rfl rfl ?c2a ?c2b ?c2c ?c2d ?c2e ?_)
            | go_in)
          case c2a =>
            intro j u hj
            match j, hj with
            | 0, hj => simp at hj; subst hj; simp [Addr.add]
          case c2b => intro u hu; simp at hu; subst hu; rfl
          case c2c => unfold maxLen; omega
          case c2d => omega
          case c2e => have := hbe.size; simp; omega
          · intro v' w1 hown' hgrow _
            have R := own_step (os := os) (r := r) ho hown hbe (Nat.le_refl _) (by simpa using hown') hgrow
            have RL : (os ++ [r]).length = k + 1 := by simp [ho]
            rw [RL] at R
            clear hown' hgrow hown
            go_wp2
            go_roundw
            case rel => exact ⟨k + 1, 0, os ++ [r], by omega, by simp, by simp, by omega, RL, HR2.out.1, HR2.out.2, R.1, R.2⟩
            case measure => simp [intOf]; omega
      · have h0 : ms.getD k 0 = 0 := by simp [List.getElem?_eq_none (Nat.le_of_not_lt hlm)]
        rw [h0] at HR hyl
        by_cases hxy : x < c
        · obtain ⟨r, hr⟩ : ∃ r : Nat, (x : Int) + 4294967296 - c = r := ⟨x + 4294967296 - c, by omega⟩
          have HR2 : Hid _ := HR.out r 1 (by omega) (by omega)
          go_wp2_with (first
            | (at_builtin; refine wpList_append_own _ rfl _ _ 124 rfl w.heap.size 45 i0 (.int .u64 0) 1 8 Tryz.underlying124 hi hz0 hz1 hz2 rfl (by decide) _ _ _ rfl (hown.alloc _) ⟨wr.heap.size, 0, none⟩ 1 1 [.int .u64 (r : Nat)] rfl rfl ?c3a ?c3b ?c3c ?c3d ?c3e ?_)
            | go_in)
          case c3a =>
            intro j u hj
            match j, hj with
            | 0, hj => simp at hj; subst hj; simp [Addr.add]
          case c3b => intro u hu; simp at hu; subst hu; rfl
          case c3c => unfold maxLen; omega
          case c3d => omega
          case c3e => have := hbe.size; simp; omega
          · intro v' w1 hown' hgrow _
            have R := own_step (os := os) (r := r) ho hown hbe (Nat.le_refl _) (by simpa using hown') hgrow
            have RL : (os ++ [r]).length = k + 1 := by simp [ho]
            rw [RL] at R
            clear hown' hgrow hown
            go_wp2
            go_roundw
            case rel => exact ⟨k + 1, 1, os ++ [r], by omega, by simp, by simp, by omega, RL, HR2.out.1, HR2.out.2, R.1, R.2⟩
            case measure => simp [intOf]; omega
        · obtain ⟨r, hr⟩ : ∃ r : Nat, (x : Int) - c = r := ⟨x - c, by omega⟩
          have HR2 : Hid _ := HR.out r 0 (by omega) (by omega)
          go_wp2_with (first
            | (at_builtin; refine wpList_append_own _ rfl _ _ 124 rfl w.heap.size 45 i0 (.int .u64 0) 1 8 Tryz.underlying124 hi hz0 hz1 hz2 rfl (by decide) _ _ _ rfl (hown.alloc _) ⟨wr.heap.size, 0, none⟩ 1 1 [.int .u64 (r : Nat)] rfl rfl ?c4a ?c4b ?c4c ?c4d ?c4e ?_)
            | go_in)
          case c4a =>
            intro j u hj
            match j, hj with
            | 0, hj => simp at hj; subst hj; simp [Addr.add]
          case c4b => intro u hu; simp at hu; subst hu; rfl
          case c4c => unfold maxLen; omega
          case c4d => omega
          case c4e => have := hbe.size; simp; omega
          · intro v' w1 hown' hgrow _
            have R := own_step (os := os) (r := r) ho hown hbe (Nat.le_refl _) (by simpa using hown') hgrow
            have RL : (os ++ [r]).length = k + 1 := by simp [ho]
            rw [RL] at R
            clear hown' hgrow hown
            go_wp2
            go_roundw
            case rel => exact ⟨k + 1, 0, os ++ [r], by omega, by simp, by simp, by omega, RL, HR2.out.1, HR2.out.2, R.1, R.2⟩
            case measure => simp [intOf]; omega
    · obtain rfl : k = ls.length := by omega
      have HE : Hid _ := sub_end ls ms os c hm ho HLE.out HO.out HV.out
      have HR : Hid (Row wr u5 os) := Row.of_owns (by rw [ho]; exact hown)
      clear HV hown
      go_wp2_with (go_at_call 103; refine (l0trim_any os _ _ HR.out).mono ?_; rintro e w2 ⟨rfl, v2, rfl, hv2⟩)
      go_ret
      exact ⟨_, rfl, hbe, Big.of_trim hv2 HO.out HE.out⟩
end Go.Proofs.YtpmccbkhkaoccaaGreatDoor

