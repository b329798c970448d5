import Derived.Test.YtapiifeklimncaaDoorA26
/- l0cmp of the specification. -/
namespace Go.Proofs.YtapiifeklimncaaDoor
open Go.ChangeShapes Go.WideShapes Go.RowKit

set_option maxHeartbeats 1600000 in
set_option maxRecDepth 100000 in
theorem l0cmp_any (v u : Value) (A C : Nat) (w : World) (h : Big w v A) (h' : Big w u C) :
    Calls Tryd.prog 32 #[v, u] w fun e w' => Below w.heap.size w w' ∧ e = .returned (.int .i64 (cmpI A C)) := by
  obtain ⟨ls, a1, a2, a3, rfl⟩ := h
  obtain ⟨ms, b1, b2, b3, rfl⟩ := h'
  obtain ⟨ao, acap, rfl, ac, am, ah⟩ := a1
  obtain ⟨bo, bcap, rfl, bc, bm, bh⟩ := b1
  have am' : acap ≤ 9223372036854775807 := am
  have bm' : bcap ≤ 9223372036854775807 := bm
  have HA : Hid _ := ah
  have HB : Hid _ := bh
  have LA : Hid _ := a2
  have LB : Hid _ := b2
  clear ah bh am bm
  by_cases hl : ls.length = ms.length
  · clear a2 b2 a3 b3
    have e0 : ((ms.length : Int) == ms.length) = true := beq_iff_eq.2 rfl
    rw [hl]
    go_enter Tryd.func32, Tryd.ntmps32
    go_wp2
    go_loopw [5] (fun i wr => ∃ k : Nat, i = .int .i64 ((k : Int) - 1) ∧ k ≤ ms.length ∧ Hid (ls.drop k = ms.drop k) ∧ Below w.heap.size w wr) (fun i _ => (intOf i + 1).toNat)
    case atStart => exact ⟨ms.length, rfl, Nat.le_refl _, by show _ = _; rw [List.drop_length, ← hl, List.drop_length], Below.refl _ _⟩
    case round =>
      obtain ⟨k, rfl, hk, HD, hbe⟩ := hrel
      cases k with
      | zero =>
        have HE : Hid (cmpI (bval ls) (bval ms) = 0) := cmpI_eq (congrArg bval (by simpa using HD.out))
        go_wp2
        go_ret
        exact ⟨hbe, by rw [HE.out]; rfl⟩
      | succ k =>
        obtain ⟨g, rfl, hg, hcl⟩ := Row.block ac HA.out (t := k) (by omega)
        obtain ⟨g', rfl, hg', hcl'⟩ := Row.block bc HB.out (t := k) (by omega)
        have hx : wr.cell? ⟨g, k, none⟩ = some (.int .u64 (ls.getD k 0 : Nat)) := (hbe.cell hg).trans (hcl k (by omega))
        have hy : wr.cell? ⟨g', k, none⟩ = some (.int .u64 (ms.getD k 0 : Nat)) := (hbe.cell hg').trans (hcl' k (by omega))
        clear hcl hcl'
        have hxl := lim_get LA.out k
        have hyl := lim_get LB.out k
        rcases Nat.lt_trichotomy (ls.getD k 0) (ms.getD k 0) with hc | hc | hc
        · have HE : Hid (cmpI (bval ls) (bval ms) = -1) := cmpI_lt (parts_lt LA.out hl k (by omega) HD.out hc)
          generalize ls.getD k 0 = x at *
          generalize ms.getD k 0 = y at *
          go_wp2
          go_quiet (fail)
          go_wp2
          go_ret
          exact ⟨by repeat (first | exact hbe | refine below_drewN ?_ _), by rw [HE.out]; rfl⟩
        · have HE : Hid (ls.drop k = ms.drop k) := drop_eq hl k (by omega) HD.out hc
          generalize ls.getD k 0 = x at *
          generalize ms.getD k 0 = y at *
          go_wp2
          go_quiet (fail)
          go_wp2
          go_quiet (fail)
          go_wp2
          exact ⟨⟨k, rfl, by omega, HE, by repeat (first | exact hbe | refine below_drewN ?_ _)⟩, by simp only [intOf]; omega⟩
        · have HE : Hid (cmpI (bval ls) (bval ms) = 1) := cmpI_gt (parts_lt LB.out hl.symm k (by omega) HD.out.symm hc)
          generalize ls.getD k 0 = x at *
          generalize ms.getD k 0 = y at *
          go_wp2
          go_quiet (fail)
          go_wp2
          go_quiet (fail)
          go_wp2
          go_ret
          exact ⟨by repeat (first | exact hbe | refine below_drewN ?_ _), by rw [HE.out]; rfl⟩
  · have e0 : ((ls.length : Int) == ms.length) = false := beq_eq_false_iff_ne.2 (by omega)
    by_cases hlt : ls.length < ms.length
    · have HE : Hid (cmpI (bval ls) (bval ms) = -1) := cmpI_lt (len_lt a2 b3 hlt)
      clear a2 b2 a3 b3
      go_enter Tryd.func32, Tryd.ntmps32
      go_wp2
      go_ret
      exact ⟨Below.refl _ _, by rw [HE.out]; rfl⟩
    · have HE : Hid (cmpI (bval ls) (bval ms) = 1) := cmpI_gt (len_lt b2 a3 (by omega))
      clear a2 b2 a3 b3
      go_enter Tryd.func32, Tryd.ntmps32
      go_wp2
      go_ret
      exact ⟨Below.refl _ _, by rw [HE.out]; rfl⟩
end Go.Proofs.YtapiifeklimncaaDoor

/- l0sub of the specification. -/
namespace Go.Proofs.YtapiifeklimncaaDoor
open Go.ChangeShapes Go.WideShapes Go.RowKit

/-- A round of the subtraction: what is taken from the part, and what is left. -/
theorem sub_round (ls ms os : List Nat) (c k : Nat) (hk : k < ls.length) (ho : os.length = k) (hL : Lim os)
    (hv : bval os + bval (ms.take k) = bval (ls.take k) + 4294967296 ^ k * c) (r d : Nat) (hr : r + (c + ms.getD k 0) = ls.getD k 0 + 4294967296 * d) (hr2 : r < 4294967296) :
    Lim (os ++ [r]) ∧ bval (os ++ [r]) + bval (ms.take (k + 1)) = bval (ls.take (k + 1)) + 4294967296 ^ (k + 1) * d := by
  refine ⟨?_, ?_⟩
  · intro y hy
    rcases List.mem_append.1 hy with h | h
    · exact hL y h
    · rw [List.mem_singleton.1 h]; omega
  · have hms : bval (ms.take (k + 1)) = bval (ms.take k) + 4294967296 ^ k * ms.getD k 0 := by
      by_cases h : k < ms.length
      · exact take_val ms k h
      · rw [List.take_of_length_le (by omega), List.take_of_length_le (by omega)]
        simp [List.getElem?_eq_none (Nat.le_of_not_lt h)]
    rw [take_val ls k hk, hms, bval_append, ho, Nat.pow_succ]
    generalize ls.getD k 0 = x at *
    generalize ms.getD k 0 = y at *
    generalize 4294967296 ^ k = z at *
    have e : z * r + z * c + z * y = z * x + z * 4294967296 * d := by
      rw [← Nat.mul_add, ← Nat.mul_add, Nat.mul_assoc, ← Nat.mul_add, Nat.add_assoc, hr]
    simp only [bval]
    rw [Nat.mul_zero, Nat.add_zero]
    omega
theorem sub_end (ls ms os : List Nat) (c : Nat) (hm : ms.length ≤ ls.length) (ho : os.length = ls.length) (hle : bval ms ≤ bval ls) (hL : Lim os)
    (hv : bval os + bval (ms.take ls.length) = bval (ls.take ls.length) + 4294967296 ^ ls.length * c) : bval os = bval ls - bval ms := by
  rw [List.take_length, List.take_of_length_le hm] at hv
  have h1 := bval_lt hL
  rw [ho] at h1
  cases c with
  | zero => omega
  | succ c =>
    have : 4294967296 ^ ls.length ≤ 4294967296 ^ ls.length * (c + 1) := Nat.le_mul_of_pos_right _ (by omega)
    omega

set_option maxHeartbeats 3200000 in
set_option maxRecDepth 100000 in
theorem l0sub_any (v u : Value) (A C n : Nat) (w : World) (h : Big w v A) (h' : Big w u C) (hA : A < 4294967296 ^ n) (hn : n < 1000000) (hle : C ≤ A) :
    Calls Tryd.prog 33 #[v, u] w fun e w' => ∃ v', e = .returned v' ∧ Below w.heap.size w w' ∧ Big w' v' (A - C) := by
  obtain ⟨i0, hi, hz0, hz1, hz2⟩ := info_parts Tryd.infoU
  obtain ⟨ls, a1, a2, a3, rfl⟩ := h
  obtain ⟨ms, b1, b2, b3, rfl⟩ := h'
  have hlen := Nat.lt_of_le_of_lt (trim_len a3 hA) hn
  have hm : ms.length ≤ ls.length := by
    apply Classical.byContradiction; intro hc
    have := len_lt a2 b3 (by omega); omega
  obtain ⟨ao, acap, rfl, ac, am, ah⟩ := a1
  obtain ⟨bo, bcap, rfl, bc, bm, bh⟩ := b1
  have HA : Hid _ := ah
  have HB : Hid _ := bh
  have LA : Hid _ := a2
  have LB : Hid _ := b2
  have HLE : Hid _ := hle
  clear ah bh am bm a2 b2 a3 b3 hA hle
  go_enter Tryd.func33, Tryd.ntmps33
  go_wp2
  go_loopw [5, 6, 12] (fun v cv i wr => ∃ (k c : Nat) (os : List Nat), k ≤ ls.length ∧ i = .int .i64 k ∧ cv = .int .u64 c ∧ c ≤ 1 ∧ os.length = k ∧ Hid (Lim os) ∧
      Hid (bval os + bval (ms.take k) = bval (ls.take k) + 4294967296 ^ k * c) ∧ wr.ownsRow w.heap.size 52 1 v k (os.map fun x => Value.int .u64 (x : Nat)) ∧ Below w.heap.size w wr)
    (fun _ _ i _ => ls.length - (intOf i).toNat)
  case atStart => exact ⟨0, 0, [], Nat.zero_le _, rfl, rfl, by omega, rfl, fun _ h => absurd h (by simp), by show _ = _; simp [bval], World.ownsRow_nil _ _ _ _, Below.refl _ _⟩
  case round =>
    obtain ⟨k, c, os, hk, rfl, rfl, hc, ho, HO, HV, hown, hbe⟩ := hrel
    by_cases hlt : k < ls.length
    · obtain ⟨g, rfl, hg, hcl⟩ := Row.block ac HA.out (t := k) hlt
      have hx : wr.cell? ⟨g, k, none⟩ = some (.int .u64 (ls.getD k 0 : Nat)) := (hbe.cell hg).trans (hcl k hlt)
      have hxl := lim_get LA.out k
      have hyl := lim_get LB.out k
      have HR : Hid _ := sub_round ls ms os c k hlt ho HO.out HV.out
      clear hcl HV
      generalize ls.getD k 0 = x at *
      by_cases hlm : k < ms.length
      · obtain ⟨g', rfl, hg', hcl'⟩ := Row.block bc HB.out (t := k) hlm
        have hy : wr.cell? ⟨g', k, none⟩ = some (.int .u64 (ms.getD k 0 : Nat)) := (hbe.cell hg').trans (hcl' k hlm)
        clear hcl'
        generalize ms.getD k 0 = y at *
        by_cases hxy : x < c + y
        · obtain ⟨r, hr⟩ : ∃ r : Nat, (x : Int) + 4294967296 - (c + y) = r := ⟨x + 4294967296 - (c + y), by omega⟩
          have HR2 : Hid _ := HR.out r 1 (by omega) (by omega)
          go_wp2_with (first
            | (at_builtin; refine wpList_append_own _ rfl _ _ 50 rfl w.heap.size 52 i0 (.int .u64 0) 1 8 Tryd.underlying50 hi hz0 hz1 hz2 rfl (by decide) _ _ _ rfl (hown.alloc _) ⟨wr.heap.size, 0, none⟩ 1 1 [.int .u64 (r : Nat)] rfl rfl ?c1a ?c1b ?c1c ?c1d ?c1e ?_)
            | go_in)
          case c1a =>
            intro j u hj
            match j, hj with
            | 0, hj => simp at hj; subst hj; simp [Addr.add]
          case c1b => intro u hu; simp at hu; subst hu; rfl
          case c1c => unfold maxLen; omega
          case c1d => omega
          case c1e => have := hbe.size; simp; omega
          · intro v' w1 hown' hgrow _
            have R := own_step (os := os) (r := r) ho hown hbe (Nat.le_refl _) (by simpa using hown') hgrow
            have RL : (os ++ [r]).length = k + 1 := by simp [ho]
            rw [RL] at R
            clear hown' hgrow hown
            go_wp2
            go_roundw
            case rel => exact ⟨k + 1, 1, os ++ [r], by omega, by simp, by simp, by omega, RL, HR2.out.1, HR2.out.2, R.1, R.2⟩
            case measure => simp [intOf]; omega
        · obtain ⟨r, hr⟩ : ∃ r : Nat, (x : Int) - (c + y) = r := ⟨x - (c + y), by omega⟩
          have HR2 : Hid _ := HR.out r 0 (by omega) (by omega)
          go_wp2_with (first
            | (at_builtin; refine wpList_append_own _ rfl _ _ 50 rfl w.heap.size 52 i0 (.int .u64 0) 1 8 Tryd.underlying50 hi hz0 hz1 hz2 rfl (by decide) _ _ _ rfl (hown.alloc _) ⟨wr.heap.size, 0, none⟩ 1 1 [.int .u64 (r : Nat)] rfl rfl ?c2a ?c2b ?c2c ?c2d ?c2e ?_)
            | go_in)
          case c2a =>
            intro j u hj
            match j, hj with
            | 0, hj => simp at hj; subst hj; simp [Addr.add]
          case c2b => intro u hu; simp at hu; subst hu; rfl
          case c2c => unfold maxLen; omega
          case c2d => omega
          case c2e => have := hbe.size; simp; omega
          · intro v' w1 hown' hgrow _
            have R := own_step (os := os) (r := r) ho hown hbe (Nat.le_refl _) (by simpa using hown') hgrow
            have RL : (os ++ [r]).length = k + 1 := by simp [ho]
            rw [RL] at R
            clear hown' hgrow hown
            go_wp2
            go_roundw
            case rel => exact ⟨k + 1, 0, os ++ [r], by omega, by simp, by simp, by omega, RL, HR2.out.1, HR2.out.2, R.1, R.2⟩
            case measure => simp [intOf]; omega
      · have h0 : ms.getD k 0 = 0 := by simp [List.getElem?_eq_none (Nat.le_of_not_lt hlm)]
        rw [h0] at HR hyl
        by_cases hxy : x < c
        · obtain ⟨r, hr⟩ : ∃ r : Nat, (x : Int) + 4294967296 - c = r := ⟨x + 4294967296 - c, by omega⟩
          have HR2 : Hid _ := HR.out r 1 (by omega) (by omega)
          go_wp2_with (first
            | (at_builtin; refine wpList_append_own _ rfl _ _ 50 rfl w.heap.size 52 i0 (.int .u64 0) 1 8 Tryd.underlying50 hi hz0 hz1 hz2 rfl (by decide) _ _ _ rfl (hown.alloc _) ⟨wr.heap.size, 0, none⟩ 1 1 [.int .u64 (r : Nat)] rfl rfl ?c3a ?c3b ?c3c ?c3d ?c3e ?_)
            | go_in)
          case c3a =>
            intro j u hj
            match j, hj with
            | 0, hj => simp at hj; subst hj; simp [Addr.add]
          case c3b => intro u hu; simp at hu; subst hu; rfl
          case c3c => unfold maxLen; omega
          case c3d => omega
          case c3e => have := hbe.size; simp; omega
          · intro v' w1 hown' hgrow _
            have R := own_step (os := os) (r := r) ho hown hbe (Nat.le_refl _) (by simpa using hown') hgrow
            have RL : (os ++ [r]).length = k + 1 := by simp [ho]
            rw [RL] at R
            clear hown' hgrow hown
            go_wp2
            go_roundw
            case rel => exact ⟨k + 1, 1, os ++ [r], by omega, by simp, by simp, by omega, RL, HR2.out.1, HR2.out.2, R.1, R.2⟩
            case measure => simp [intOf]; omega
        · obtain ⟨r, hr⟩ : ∃ r : Nat, (x : Int) - c = r := ⟨x - c, by omega⟩
          have HR2 : Hid _ := HR.out r 0 (by omega) (by omega)
          go_wp2_with (first
            | (at_builtin; refine wpList_append_own _ rfl _ _ 50 rfl w.heap.size 52 i0 (.int .u64 0) 1 8 Tryd.underlying50 hi hz0 hz1 hz2 rfl (by decide) _ _ _ rfl (hown.alloc _) ⟨wr.heap.size, 0, none⟩ 1 1 [.int .u64 (r : Nat)] rfl rfl ?c4a ?c4b ?c4c ?c4d ?c4e ?_)
            | go_in)
          case c4a =>
            intro j u hj
            match j, hj with
            | 0, hj => simp at hj; subst hj; simp [Addr.add]
          case c4b => intro u hu; simp at hu; subst hu; rfl
          case c4c => unfold maxLen; omega
          case c4d => omega
          case c4e => have := hbe.size; simp; omega
          · intro v' w1 hown' hgrow _
            have R := own_step (os := os) (r := r) ho hown hbe (Nat.le_refl _) (by simpa using hown') hgrow
            have RL : (os ++ [r]).length = k + 1 := by simp [ho]
            rw [RL] at R
            clear hown' hgrow hown
            go_wp2
            go_roundw
            case rel => exact ⟨k + 1, 0, os ++ [r], by omega, by simp, by simp, by omega, RL, HR2.out.1, HR2.out.2, R.1, R.2⟩
            case measure => simp [intOf]; omega
    · obtain rfl : k = ls.length := by omega
      have HE : Hid _ := sub_end ls ms os c hm ho HLE.out HO.out HV.out
      have HR : Hid (Row wr u5 os) := Row.of_owns (by rw [ho]; exact hown)
      clear HV hown
      go_wp2_with (go_at_call 46; refine (l0trim_any os _ _ HR.out).mono ?_; rintro e w2 ⟨rfl, v2, rfl, hv2⟩)
      go_ret
      exact ⟨_, rfl, hbe, Big.of_trim hv2 HO.out HE.out⟩
end Go.Proofs.YtapiifeklimncaaDoor

/- l0add of the specification. -/
namespace Go.Proofs.YtapiifeklimncaaDoor
open Go.ChangeShapes Go.WideShapes Go.RowKit

theorem and32 (y : Nat) (h : y < 18446744073709551616) : bits .and .u64 (y : Int) 4294967295 = ((y % 4294967296 : Nat) : Int) := by
  rw [u64_and (y : Int) 4294967295 (by omega) (by omega) (by omega) (by omega), Int.toNat_natCast]
  have e : (4294967295 : Int).toNat = 2 ^ 32 - 1 := rfl
  rw [e, Nat.and_two_pow_sub_one_eq_mod]
theorem take_val' (a : List Nat) (k : Nat) : bval (a.take (k + 1)) = bval (a.take k) + 4294967296 ^ k * a.getD k 0 := by
  by_cases h : k < a.length
  · exact take_val a k h
  · rw [List.take_of_length_le (by omega), List.take_of_length_le (by omega)]
    simp [List.getElem?_eq_none (Nat.le_of_not_lt h)]
theorem lim_snoc {os : List Nat} (h : Lim os) {r : Nat} (hr : r < 4294967296) : Lim (os ++ [r]) := by
  intro y hy
  rcases List.mem_append.1 hy with h1 | h1
  · exact h y h1
  · rw [List.mem_singleton.1 h1]; omega
theorem add_round (ls ms os : List Nat) (c k : Nat) (ho : os.length = k) (hL : Lim os) (hv : bval os + 4294967296 ^ k * c = bval (ls.take k) + bval (ms.take k))
    (t : Nat) (ht : t = c + ls.getD k 0 + ms.getD k 0) (r q : Nat) (hr : t % 4294967296 = r) (hq : t / 4294967296 = q) :
    Lim (os ++ [r]) ∧ bval (os ++ [r]) + 4294967296 ^ (k + 1) * q = bval (ls.take (k + 1)) + bval (ms.take (k + 1)) := by
  refine ⟨lim_snoc hL (by omega), ?_⟩
  rw [take_val' ls k, take_val' ms k, bval_append, ho, Nat.pow_succ]
  generalize ls.getD k 0 = x at *
  generalize ms.getD k 0 = y at *
  generalize 4294967296 ^ k = z at *
  have e : z * r + z * 4294967296 * q = z * c + z * x + z * y := by
    rw [← Nat.mul_add, ← Nat.mul_add, Nat.mul_assoc, ← Nat.mul_add, ← ht]
    congr 1; omega
  simp only [bval]
  rw [Nat.mul_zero, Nat.add_zero]
  omega
theorem add_end (ls ms os : List Nat) (c k : Nat) (ho : os.length = k) (hl : ls.length ≤ k) (hm : ms.length ≤ k) (hc : c ≤ 1) (hL : Lim os)
    (hv : bval os + 4294967296 ^ k * c = bval (ls.take k) + bval (ms.take k)) : Lim (os ++ [c]) ∧ bval (os ++ [c]) = bval ls + bval ms := by
  refine ⟨lim_snoc hL (by omega), ?_⟩
  rw [List.take_of_length_le hl, List.take_of_length_le hm] at hv
  rw [bval_append, ho]
  simpa [bval] using hv

set_option maxHeartbeats 3200000 in
set_option maxRecDepth 100000 in
theorem l0add_any (v u : Value) (A C n : Nat) (w : World) (h : Big w v A) (h' : Big w u C) (hA : A < 4294967296 ^ n) (hC : C < 4294967296 ^ n) (hn : n < 1000000) :
    Calls Tryd.prog 35 #[v, u] w fun e w' => ∃ v', e = .returned v' ∧ Below w.heap.size w w' ∧ Big w' v' (A + C) := by
  obtain ⟨i0, hi, hz0, hz1, hz2⟩ := info_parts Tryd.infoU
  obtain ⟨ls, a1, a2, a3, rfl⟩ := h
  obtain ⟨ms, b1, b2, b3, rfl⟩ := h'
  have hlen := Nat.lt_of_le_of_lt (trim_len a3 hA) hn
  have hlen2 := Nat.lt_of_le_of_lt (trim_len b3 hC) hn
  obtain ⟨ao, acap, rfl, ac, am, ah⟩ := a1
  obtain ⟨bo, bcap, rfl, bc, bm, bh⟩ := b1
  have HA : Hid _ := ah
  have HB : Hid _ := bh
  have LA : Hid _ := a2
  have LB : Hid _ := b2
  clear ah bh am bm a2 b2 a3 b3 hA hC
  go_enter Tryd.func35, Tryd.ntmps35
  go_wp2
  go_loopw [5, 6, 7] (fun v cv i wr => ∃ (k c : Nat) (os : List Nat), (k ≤ ls.length ∨ k ≤ ms.length) ∧ i = .int .i64 k ∧ cv = .int .u64 c ∧ c ≤ 1 ∧ os.length = k ∧ Hid (Lim os) ∧
      Hid (bval os + 4294967296 ^ k * c = bval (ls.take k) + bval (ms.take k)) ∧ wr.ownsRow w.heap.size 52 1 v k (os.map fun x => Value.int .u64 (x : Nat)) ∧ Below w.heap.size w wr)
    (fun _ _ i _ => ls.length + ms.length - (intOf i).toNat)
  case atStart => exact ⟨0, 0, [], .inl (Nat.zero_le _), rfl, rfl, by omega, rfl, fun _ h => absurd h (by simp), by show _ = _; simp [bval], World.ownsRow_nil _ _ _ _, Below.refl _ _⟩
  case round =>
    obtain ⟨k, c, os, hk, rfl, rfl, hc, ho, HO, HV, hown, hbe⟩ := hrel
    have hxl := lim_get LA.out k
    have hyl := lim_get LB.out k
    by_cases hlt : k < ls.length
    · obtain ⟨g, rfl, hg, hcl⟩ := Row.block ac HA.out (t := k) hlt
      have hx : wr.cell? ⟨g, k, none⟩ = some (.int .u64 (ls.getD k 0 : Nat)) := (hbe.cell hg).trans (hcl k hlt)
      have HR : Hid _ := add_round ls ms os c k ho HO.out HV.out
      clear hcl HV
      by_cases hlm : k < ms.length
      · obtain ⟨g', rfl, hg', hcl'⟩ := Row.block bc HB.out (t := k) hlm
        have hy : wr.cell? ⟨g', k, none⟩ = some (.int .u64 (ms.getD k 0 : Nat)) := (hbe.cell hg').trans (hcl' k hlm)
        clear hcl'
        generalize ls.getD k 0 = x at *
        generalize ms.getD k 0 = y at *
        have hand := and32 (c + x + y) (by omega)
        have hshr : ((c : Int) + x + y) / 4294967296 = (((c + x + y) / 4294967296 : Nat) : Int) := by omega
        have HR1 : Hid _ := HR.out (c + x + y) rfl
        generalize hr : (c + x + y) % 4294967296 = r at *
        generalize hq : (c + x + y) / 4294967296 = q at *
        have HR2 : Hid _ := HR1.out r q rfl rfl
        rw [Int.natCast_add, Int.natCast_add] at hand
        go_wp2_with (first
          | (at_builtin; refine wpList_append_own _ rfl _ _ 50 rfl w.heap.size 52 i0 (.int .u64 0) 1 8 Tryd.underlying50 hi hz0 hz1 hz2 rfl (by decide) _ _ _ rfl (hown.alloc _) ⟨wr.heap.size, 0, none⟩ 1 1 [.int .u64 (r : Nat)] rfl rfl ?c1a ?c1b ?c1c ?c1d ?c1e ?_)
          | go_in)
        case c1a =>
          intro j u hj
          match j, hj with
          | 0, hj => simp at hj; subst hj; simp [Addr.add]
        case c1b => intro u hu; simp at hu; subst hu; rfl
        case c1c => unfold maxLen; omega
        case c1d => omega
        case c1e => have := hbe.size; simp; omega
        · intro v' w1 hown' hgrow _
          have R := own_step (os := os) (r := r) ho hown hbe (Nat.le_refl _) (by simpa using hown') hgrow
          have RL : (os ++ [r]).length = k + 1 := by simp [ho]
          rw [RL] at R
          clear hown' hgrow hown
          go_wp2
          go_roundw
          case rel => exact ⟨k + 1, q, os ++ [r], by omega, by simp, rfl, by omega, RL, HR2.out.1, HR2.out.2, R.1, R.2⟩
          case measure => simp [intOf]; omega
      · have h0 : ms.getD k 0 = 0 := by simp [List.getElem?_eq_none (Nat.le_of_not_lt hlm)]
        rw [h0] at HR
        clear hyl h0
        generalize ls.getD k 0 = x at *
        have hand := and32 (c + x) (by omega)
        have hshr : ((c : Int) + x) / 4294967296 = (((c + x) / 4294967296 : Nat) : Int) := by omega
        have HR1 : Hid _ := HR.out (c + x) rfl
        generalize hr : (c + x) % 4294967296 = r at *
        generalize hq : (c + x) / 4294967296 = q at *
        have HR2 : Hid _ := HR1.out r q rfl rfl
        rw [Int.natCast_add] at hand
        go_wp2_with (first
          | (at_builtin; refine wpList_append_own _ rfl _ _ 50 rfl w.heap.size 52 i0 (.int .u64 0) 1 8 Tryd.underlying50 hi hz0 hz1 hz2 rfl (by decide) _ _ _ rfl (hown.alloc _) ⟨wr.heap.size, 0, none⟩ 1 1 [.int .u64 (r : Nat)] rfl rfl ?c2a ?c2b ?c2c ?c2d ?c2e ?_)
          | go_in)
        case c2a =>
          intro j u hj
          match j, hj with
          | 0, hj => simp at hj; subst hj; simp [Addr.add]
        case c2b => intro u hu; simp at hu; subst hu; rfl
        case c2c => unfold maxLen; omega
        case c2d => omega
        case c2e => have := hbe.size; simp; omega
        · intro v' w1 hown' hgrow _
          have R := own_step (os := os) (r := r) ho hown hbe (Nat.le_refl _) (by simpa using hown') hgrow
          have RL : (os ++ [r]).length = k + 1 := by simp [ho]
          rw [RL] at R
          clear hown' hgrow hown
          go_wp2
          go_roundw
          case rel => exact ⟨k + 1, q, os ++ [r], by omega, by simp, rfl, by omega, RL, HR2.out.1, HR2.out.2, R.1, R.2⟩
          case measure => simp [intOf]; omega
    · have h0 : ls.getD k 0 = 0 := by simp [List.getElem?_eq_none (Nat.le_of_not_lt hlt)]
      by_cases hlm : k < ms.length
      · obtain ⟨g', rfl, hg', hcl'⟩ := Row.block bc HB.out (t := k) hlm
        have hy : wr.cell? ⟨g', k, none⟩ = some (.int .u64 (ms.getD k 0 : Nat)) := (hbe.cell hg').trans (hcl' k hlm)
        have HR : Hid _ := add_round ls ms os c k ho HO.out HV.out
        rw [h0] at HR
        clear hcl' HV hxl h0
        generalize ms.getD k 0 = y at *
        have hand := and32 (c + y) (by omega)
        have hshr : ((c : Int) + y) / 4294967296 = (((c + y) / 4294967296 : Nat) : Int) := by omega
        have HR1 : Hid _ := HR.out (c + y) (by omega)
        generalize hr : (c + y) % 4294967296 = r at *
        generalize hq : (c + y) / 4294967296 = q at *
        have HR2 : Hid _ := HR1.out r q rfl rfl
        rw [Int.natCast_add] at hand
        go_wp2_with (first
          | (at_builtin; refine wpList_append_own _ rfl _ _ 50 rfl w.heap.size 52 i0 (.int .u64 0) 1 8 Tryd.underlying50 hi hz0 hz1 hz2 rfl (by decide) _ _ _ rfl (hown.alloc _) ⟨wr.heap.size, 0, none⟩ 1 1 [.int .u64 (r : Nat)] rfl rfl ?c3a ?c3b ?c3c ?c3d ?c3e ?_)
          | go_in)
        case c3a =>
          intro j u hj
          match j, hj with
          | 0, hj => simp at hj; subst hj; simp [Addr.add]
        case c3b => intro u hu; simp at hu; subst hu; rfl
        case c3c => unfold maxLen; omega
        case c3d => omega
        case c3e => have := hbe.size; simp; omega
        · intro v' w1 hown' hgrow _
          have R := own_step (os := os) (r := r) ho hown hbe (Nat.le_refl _) (by simpa using hown') hgrow
          have RL : (os ++ [r]).length = k + 1 := by simp [ho]
          rw [RL] at R
          clear hown' hgrow hown
          go_wp2
          go_roundw
          case rel => exact ⟨k + 1, q, os ++ [r], by omega, by simp, rfl, by omega, RL, HR2.out.1, HR2.out.2, R.1, R.2⟩
          case measure => simp [intOf]; omega
      · have HE : Hid _ := add_end ls ms os c k ho (by omega) (by omega) hc HO.out HV.out
        clear HV hxl hyl h0
        go_wp2_with (first
          | (at_builtin; refine wpList_append_own _ rfl _ _ 50 rfl w.heap.size 52 i0 (.int .u64 0) 1 8 Tryd.underlying50 hi hz0 hz1 hz2 rfl (by decide) _ _ _ rfl (hown.alloc _) ⟨wr.heap.size, 0, none⟩ 1 1 [.int .u64 (c : Nat)] rfl rfl ?c4a ?c4b ?c4c ?c4d ?c4e ?_)
          | go_in)
        case c4a =>
          intro j u hj
          match j, hj with
          | 0, hj => simp at hj; subst hj; simp [Addr.add]
        case c4b => intro u hu; simp at hu; subst hu; rfl
        case c4c => unfold maxLen; omega
        case c4d => omega
        case c4e => have := hbe.size; simp; omega
        · intro v' w1 hown' hgrow _
          have R := own_step (os := os) (r := c) ho hown hbe (Nat.le_refl _) (by simpa using hown') hgrow
          have HR : Hid (Row w1 v' (os ++ [c])) := Row.of_owns R.1
          have HB2 : Hid (Below w.heap.size w w1) := R.2
          clear hown' hgrow hown R
          go_wp2_with (go_at_call 46; refine (l0trim_any (os ++ [c]) v' _ HR.out).mono ?_; rintro e w2 ⟨rfl, v2, rfl, hv2⟩)
          go_ret
          exact ⟨_, rfl, HB2.out, Big.of_trim hv2 HE.out.1 HE.out.2⟩
end Go.Proofs.YtapiifeklimncaaDoor

