import Derived.Test.YtpmccbkhkaoccaaGreatDoorB20
import Derived.WalkSmall
import Derived.Test.YtpmccbkhkaoccaaGreatDoorB13
import Derived.Deep.AppendLies
import Derived.Laws.IdiomStrings
/- what l0cmp, l0sub and l0add want. -/
namespace Go.Proofs.YtpmccbkhkaoccaaGreatDoor
open Go.ChangeShapes Go.WideShapes Go.RowKit

/-- Order as a number. -/
def cmpI (a b : Nat) : Int := if a < b then -1 else if b < a then 1 else 0
theorem cmpI_lt {a b : Nat} (h : a < b) : cmpI a b = -1 := if_pos h
theorem cmpI_gt {a b : Nat} (h : b < a) : cmpI a b = 1 := by unfold cmpI; rw [if_neg (by omega), if_pos h]
theorem cmpI_eq {a b : Nat} (h : a = b) : cmpI a b = 0 := by unfold cmpI; rw [if_neg (by omega), if_neg (by omega)]
theorem len_lt {a b : List Nat} (hl : Lim a) (ht : Trim b) (h : a.length < b.length) : bval a < bval b := by
  have h1 := bval_lt hl
  have hb : b ≠ [] := by rintro rfl; simp at h
  have h2 := (trim_last ht hb).1
  have h3 : 4294967296 ^ a.length ≤ 4294967296 ^ (b.length - 1) := Nat.pow_le_pow_right (by omega) (by omega)
  omega
theorem bval_split (a : List Nat) (k : Nat) (h : k ≤ a.length) : bval a = bval (a.take k) + 4294967296 ^ k * bval (a.drop k) := by
  have := bval_append (a.take k) (a.drop k)
  rw [List.take_append_drop, List.length_take, Nat.min_eq_left h] at this
  exact this
theorem take_lt {a : List Nat} (hl : Lim a) (k : Nat) (h : k ≤ a.length) : bval (a.take k) < 4294967296 ^ k := by
  have := bval_lt (a := a.take k) fun x hx => hl x (List.mem_of_mem_take hx)
  rw [List.length_take, Nat.min_eq_left h] at this
  exact this
theorem parts_lt {a b : List Nat} (hl : Lim a) (h : a.length = b.length) (k : Nat) (hk : k < a.length) (hd : a.drop (k + 1) = b.drop (k + 1)) (hx : a.getD k 0 < b.getD k 0) : bval a < bval b := by
  rw [bval_split a (k + 1) (by omega), bval_split b (k + 1) (by omega), hd, take_val a k hk, take_val b k (by omega)]
  have h1 := take_lt hl k (by omega)
  have h2 := Nat.mul_le_mul_left (4294967296 ^ k) (show a.getD k 0 + 1 ≤ b.getD k 0 from hx)
  rw [Nat.mul_add, Nat.mul_one] at h2
  generalize 4294967296 ^ k * a.getD k 0 = p at *
  generalize 4294967296 ^ k * b.getD k 0 = q at *
  omega
theorem drop_eq {a b : List Nat} (h : a.length = b.length) (k : Nat) (hk : k < a.length) (hd : a.drop (k + 1) = b.drop (k + 1)) (hx : a.getD k 0 = b.getD k 0) : a.drop k = b.drop k := by
  rw [List.drop_eq_getElem_cons hk, List.drop_eq_getElem_cons (show k < b.length by omega), hd]
  simp [List.getElem?_eq_getElem hk, List.getElem?_eq_getElem (show k < b.length by omega)] at hx
  rw [hx]
/-- A row of some parts lies in a block. -/
theorem Row.block {w : World} {ao : Option Addr} {cap : Nat} {ls : List Nat} (h1 : ls.length ≤ cap)
    (h : (ao = none ∧ cap = 0) ∨ ∃ g, ao = some ⟨g, 0, none⟩ ∧ g < w.heap.size ∧ ∀ t, t < ls.length → w.cell? ⟨g, t, none⟩ = some (.int .u64 (ls.getD t 0 : Nat))) {t : Nat} (ht : t < ls.length) :
    ∃ g, ao = some ⟨g, 0, none⟩ ∧ g < w.heap.size ∧ ∀ t, t < ls.length → w.cell? ⟨g, t, none⟩ = some (.int .u64 (ls.getD t 0 : Nat)) := by
  rcases h with ⟨_, h⟩ | h
  · omega
  · exact h

end Go.Proofs.YtpmccbkhkaoccaaGreatDoor

/- l0add of the specification. -/
namespace Go.Proofs.YtpmccbkhkaoccaaGreatDoor
open Go.ChangeShapes Go.WideShapes Go.RowKit

theorem and32 (y : Nat) (h : y < 18446744073709551616) : bits .and .u64 (y : Int) 4294967295 = ((y % 4294967296 : Nat) : Int) := by
  rw [u64_and (y : Int) 4294967295 (by omega) (by omega) (by omega) (by omega), Int.toNat_natCast]
  have e : (4294967295 : Int).toNat = 2 ^ 32 - 1 := rfl
  rw [e, Nat.and_two_pow_sub_one_eq_mod]
theorem take_val' (a : List Nat) (k : Nat) : bval (a.take (k + 1)) = bval (a.take k) + 4294967296 ^ k * a.getD k 0 := by
  by_cases h : k < a.length
  · exact take_val a k h
  · rw [List.take_of_length_le (by omega), List.take_of_length_le (by omega)]
    simp [List.getElem?_eq_none (Nat.le_of_not_lt h)]
theorem lim_snoc {os : List Nat} (h : Lim os) {r : Nat} (hr : r < 4294967296) : Lim (os ++ [r]) := by
  intro y hy
  rcases List.mem_append.1 hy with h1 | h1
  · exact h y h1
  · rw [List.mem_singleton.1 h1]; omega
theorem add_round (ls ms os : List Nat) (c k : Nat) (ho : os.length = k) (hL : Lim os) (hv : bval os + 4294967296 ^ k * c = bval (ls.take k) + bval (ms.take k))
    (t : Nat) (ht : t = c + ls.getD k 0 + ms.getD k 0) (r q : Nat) (hr : t % 4294967296 = r) (hq : t / 4294967296 = q) :
    Lim (os ++ [r]) ∧ bval (os ++ [r]) + 4294967296 ^ (k + 1) * q = bval (ls.take (k + 1)) + bval (ms.take (k + 1)) := by
  refine ⟨lim_snoc hL (by omega), ?_⟩
  rw [take_val' ls k, take_val' ms k, bval_append, ho, Nat.pow_succ]
  generalize ls.getD k 0 = x at *
  generalize ms.getD k 0 = y at *
  generalize 4294967296 ^ k = z at *
  have e : z * r + z * 4294967296 * q = z * c + z * x + z * y := by
    rw [← Nat.mul_add, ← Nat.mul_add, Nat.mul_assoc, ← Nat.mul_add, ← ht]
    congr 1; omega
  simp only [bval]
  rw [Nat.mul_zero, Nat.add_zero]
  omega
theorem add_end (ls ms os : List Nat) (c k : Nat) (ho : os.length = k) (hl : ls.length ≤ k) (hm : ms.length ≤ k) (hc : c ≤ 1) (hL : Lim os)
    (hv : bval os + 4294967296 ^ k * c = bval (ls.take k) + bval (ms.take k)) : Lim (os ++ [c]) ∧ bval (os ++ [c]) = bval ls + bval ms := by
  refine ⟨lim_snoc hL (by omega), ?_⟩
  rw [List.take_of_length_le hl, List.take_of_length_le hm] at hv
  rw [bval_append, ho]
  simpa [bval] using hv

set_option maxHeartbeats 3200000 in
set_option maxRecDepth 100000 in
theorem l0add_any (v u : Value) (A C n : Nat) (w : World) (h : Big w v A) (h' : Big w u C) (hA : A < 4294967296 ^ n) (hC : C < 4294967296 ^ n) (hn : n < 1000000) :
    Calls Tryz.prog 105 #[v, u] w fun e w' => ∃ v', e = .returned v' ∧ Below w.heap.size w w' ∧ Big w' v' (A + C) := by
  obtain ⟨i0, hi, hz0, hz1, hz2⟩ := info_parts Tryz.infoU
  obtain ⟨ls, a1, a2, a3, rfl⟩ := h
  obtain ⟨ms, b1, b2, b3, rfl⟩ := h'
  have hlen := Nat.lt_of_le_of_lt (trim_len a3 hA) hn
  have hlen2 := Nat.lt_of_le_of_lt (trim_len b3 hC) hn
  obtain ⟨ao, acap, rfl, ac, am, ah⟩ := a1
  obtain ⟨bo, bcap, rfl, bc, bm, bh⟩ := b1
  have HA : Hid _ := ah
  have HB : Hid _ := bh
  have LA : Hid _ := a2
  have LB : Hid _ := b2
  clear ah bh am bm a2 b2 a3 b3 hA hC
  go_enter Tryz.func105, Tryz.ntmps105
  go_wp2
  go_loopw [5, 6, 7] (fun v cv i wr => ∃ (k c : Nat) (os : List Nat), (k ≤ ls.length ∨ k ≤ ms.length) ∧ i = .int .i64 k ∧ cv = .int .u64 c ∧ c ≤ 1 ∧ os.length = k ∧ Hid (Lim os) ∧
      Hid (bval os + 4294967296 ^ k * c = bval (ls.take k) + bval (ms.take k)) ∧ wr.ownsRow w.heap.size 45 1 v k (os.map fun x => Value.int .u64 (x : Nat)) ∧ Below w.heap.size w wr)
    (fun _ _ i _ => ls.length + ms.length - (intOf i).toNat)
  case atStart => exact ⟨0, 0, [], .inl (Nat.zero_le _), rfl, rfl, by omega, rfl, fun _ h => absurd h (by simp), by show _ = _; simp [bval], World.ownsRow_nil _ _ _ _, Below.refl _ _⟩
  case round =>
    obtain ⟨k, c, os, hk, rfl, rfl, hc, ho, HO, HV, hown, hbe⟩ := hrel
    have hxl := lim_get LA.out k
    have hyl := lim_get LB.out k
    by_cases hlt : k < ls.length
    · obtain ⟨g, rfl, hg, hcl⟩ := Row.block ac HA.out (t := k) hlt
      have hx : wr.cell? ⟨g, k, none⟩ = some (.int .u64 (ls.getD k 0 : Nat)) := (hbe.cell hg).trans (hcl k hlt)
      have HR : Hid _ := add_round ls ms os c k ho HO.out HV.out
      clear hcl HV
      by_cases hlm : k < ms.length
      · obtain ⟨g', rfl, hg', hcl'⟩ := Row.block bc HB.out (t := k) hlm
        have hy : wr.cell? ⟨g', k, none⟩ = some (.int .u64 (ms.getD k 0 : Nat)) := (hbe.cell hg').trans (hcl' k hlm)
        clear hcl'
        generalize ls.getD k 0 = x at *
        generalize ms.getD k 0 = y at *
        have hand := and32 (c + x + y) (by omega)
        have hshr : ((c : Int) + x + y) / 4294967296 = (((c + x + y) / 4294967296 : Nat) : Int) := by omega
        have HR1 : Hid _ := HR.out (c + x + y) rfl
        generalize hr : (c + x + y) % 4294967296 = r at *
        generalize hq : (c + x + y) / 4294967296 = q at *
        have HR2 : Hid _ := HR1.out r q rfl rfl
        rw [Int.natCast_add, Int.natCast_add] at hand
        go_wp2_with (first
          | (at_builtin; refine wpList_append_own _ rfl _ _ 124 rfl w.heap.size 45 i0 (.int .u64 0) 1 8 Tryz.underlying124 hi hz0 hz1 hz2 rfl (by decide) _ _ _ rfl (hown.alloc _) ⟨wr.heap.size, 0, none⟩ 1 1 [.int .u64 (r : Nat)] rfl rfl ?c1a ?c1b ?c1c ?c1d ?c1e ?_)
          | go_in)
        case c1a =>
          intro j u hj
          match j, hj with
          | 0, hj => simp at hj; subst hj; simp [Addr.add]
        case c1b => intro u hu; simp at hu; subst hu; rfl
        case c1c => unfold maxLen; omega
        case c1d => omega
        case c1e => have := hbe.size; simp; omega
        · intro v' w1 hown' hgrow _
          have R := own_step (os := os) (r := r) ho hown hbe (Nat.le_refl _) (by simpa using hown') hgrow
          have RL : (os ++ [r]).length = k + 1 := by simp [ho]
          rw [RL] at R
          clear hown' hgrow hown
          go_wp2
          go_roundw
          case rel => exact ⟨k + 1, q, os ++ [r], by omega, by simp, rfl, by omega, RL, HR2.out.1, HR2.out.2, R.1, R.2⟩
          case measure => simp [intOf]; omega
      · have h0 : ms.getD k 0 = 0 := by simp [List.getElem?_eq_none (Nat.le_of_not_lt hlm)]
        rw [h0] at HR
        clear hyl h0
        generalize ls.getD k 0 = x at *
        have hand := and32 (c + x) (by omega)
        have hshr : ((c : Int) + x) / 4294967296 = (((c + x) / 4294967296 : Nat) : Int) := by omega
        have HR1 : Hid _ := HR.out (c + x) rfl
        generalize hr : (c + x) % 4294967296 = r at *
        generalize hq : (c + x) / 4294967296 = q at *
        have HR2 : Hid _ := HR1.out r q rfl rfl
        rw [Int.natCast_add] at hand
        go_wp2_with (first
          | (at_builtin; refine wpList_append_own _ rfl _ _ 124 rfl w.heap.size 45 i0 (.int .u64 0) 1 8 Tryz.underlying124 hi hz0 hz1 hz2 rfl (by decide) _ _ _ rfl (hown.alloc _) ⟨wr.heap.size, 0, none⟩ 1 1 [.int .u64 (r : Nat)] rfl rfl ?c2a ?c2b ?c2c ?c2d ?c2e ?_)
          | go_in)
        case c2a =>
          intro j u hj
          match j, hj with
          | 0, hj => simp at hj; subst hj; simp [Addr.add]
        case c2b => intro u hu; simp at hu; subst hu; rfl
        case c2c => unfold maxLen; omega
        case c2d => omega
        case c2e => have := hbe.size; simp; omega
        · intro v' w1 hown' hgrow _
          have R := own_step (os := os) (r := r) ho hown hbe (Nat.le_refl _) (by simpa using hown') hgrow
          have RL : (os ++ [r]).length = k + 1 := by simp [ho]
          rw [RL] at R
          clear hown' hgrow hown
          go_wp2
          go_roundw
          case rel => exact ⟨k + 1, q, os ++ [r], by omega, by simp, rfl, by omega, RL, HR2.out.1, HR2.out.2, R.1, R.2⟩
          case measure => simp [intOf]; omega
    · have h0 : ls.getD k 0 = 0 := by simp [List.getElem?_eq_none (Nat.le_of_not_lt hlt)]
      by_cases hlm : k < ms.length
      · obtain ⟨g', rfl, hg', hcl'⟩ := Row.block bc HB.out (t := k) hlm
        have hy : wr.cell? ⟨g', k, none⟩ = some (.int .u64 (ms.getD k 0 : Nat)) := (hbe.cell hg').trans (hcl' k hlm)
        have HR : Hid _ := add_round ls ms os c k ho HO.out HV.out
        rw [h0] at HR
        clear hcl' HV hxl h0
        generalize ms.getD k 0 = y at *
        have hand := and32 (c + y) (by omega)
        have hshr : ((c : Int) + y) / 4294967296 = (((c + y) / 4294967296 : Nat) : Int) := by omega
        have HR1 : Hid _ := HR.out (c + y) (by omega)
        generalize hr : (c + y) % 4294967296 = r at *
        generalize hq : (c + y) / 4294967296 = q at *
        have HR2 : Hid _ := HR1.out r q rfl rfl
        rw [Int.natCast_add] at hand
        go_wp2_with (first
          | (at_builtin; refine wpList_append_own _ rfl _ _ 124 rfl w.heap.size 45 i0 (.int .u64 0) 1 8 Tryz.underlying124 hi hz0 hz1 hz2 rfl (by decide) _ _ _ rfl (hown.alloc _) ⟨wr.heap.size, 0, none⟩ 1 1 [.int .u64 (r : Nat)] rfl rfl ?c3a ?c3b ?c3c ?c3d ?c3e ?_)
          | go_in)
        case c3a =>
          intro j u hj
          match j, hj with
          | 0, hj => simp at hj; subst hj; simp [Addr.add]
        case c3b => intro u hu; simp at hu; subst hu; rfl
        case c3c => unfold maxLen; omega
        case c3d => omega
        case c3e => have := hbe.size; simp; omega
        · intro v' w1 hown' hgrow _
          have R := own_step (os := os) (r := r) ho hown hbe (Nat.le_refl _) (by simpa using hown') hgrow
          have RL : (os ++ [r]).length = k + 1 := by simp [ho]
          rw [RL] at R
          clear hown' hgrow hown
          go_wp2
          go_roundw
          case rel => exact ⟨k + 1, q, os ++ [r], by omega, by simp, rfl, by omega, RL, HR2.out.1, HR2.out.2, R.1, R.2⟩
          case measure => simp [intOf]; omega
      · have HE : Hid _ := add_end ls ms os c k ho (by omega) (by omega) hc HO.out HV.out
        clear HV hxl hyl h0
        go_wp2_with (first
          | (at_builtin; refine wpList_append_own _ rfl _ _ 124 rfl w.heap.size 45 i0 (.int .u64 0) 1 8 Tryz.underlying124 hi hz0 hz1 hz2 rfl (by decide) _ _ _ rfl (hown.alloc _) ⟨wr.heap.size, 0, none⟩ 1 1 [.int .u64 (c : Nat)] rfl rfl ?c4a ?c4b ?c4c ?c4d ?c4e ?_)
          | go_in)
        case c4a =>
          intro j u hj
          match j, hj with
          | 0, hj => simp at hj; subst hj; simp [Addr.add]
        case c4b => intro u hu; simp at hu; subst hu; rfl
        case c4c => unfold maxLen; omega
        case c4d => omega
        case c4e => have := hbe.size; simp; omega
        · intro v' w1 hown' hgrow _
          have R := own_step (os := os) (r := c) ho hown hbe (Nat.le_refl _) (by simpa using hown') hgrow
          have HR : Hid (Row w1 v' (os ++ [c])) := Row.of_owns R.1
          have HB2 : Hid (Below w.heap.size w w1) := R.2
          clear hown' hgrow hown R
          go_wp2_with (go_at_call 103; refine (l0trim_any (os ++ [c]) v' _ HR.out).mono ?_; rintro e w2 ⟨rfl, v2, rfl, hv2⟩)
          go_ret
          exact ⟨_, rfl, HB2.out, Big.of_trim hv2 HE.out.1 HE.out.2⟩
end Go.Proofs.YtpmccbkhkaoccaaGreatDoor

/- The rounds of l0digits: plain. -/
namespace Go.Proofs.YtpmccbkhkaoccaaGreatDoor
open Go.RowKit

/-- Nine digits at a time. -/
theorem nine_round (r k : Nat) (ks : List Nat) (hl : ks.length = k) (ht : Ten ks) (hv : dval ks = r % 10 ^ k) :
    Ten (ks ++ [r / 10 ^ k % 10]) ∧ dval (ks ++ [r / 10 ^ k % 10]) = r % 10 ^ (k + 1) ∧ r / 10 ^ k / 10 = r / 10 ^ (k + 1) := by
  refine ⟨ten_snoc ht (Nat.mod_lt _ (by omega)), ?_, ?_⟩
  · rw [dval_snoc, hv, hl, Nat.mod_pow_succ]
  · rw [Nat.pow_succ, Nat.div_div_eq_div_mul]
/-- A round of the division by 10^9. -/
theorem div_round (ls qs : List Nat) (k rest : Nat) (hk : k < ls.length) (hx : ls.getD k 0 < 4294967296) (hr : rest < 1000000000)
    (hv : bval (ls.drop (k + 1)) = 1000000000 * bval qs + rest) :
    (rest * 4294967296 + ls.getD k 0) / 1000000000 < 4294967296 ∧ (rest * 4294967296 + ls.getD k 0) % 1000000000 < 1000000000
    ∧ bval (ls.drop k) = 1000000000 * bval ((rest * 4294967296 + ls.getD k 0) / 1000000000 :: qs) + (rest * 4294967296 + ls.getD k 0) % 1000000000 := by
  have hd : bval (ls.drop k) = ls.getD k 0 + 4294967296 * bval (ls.drop (k + 1)) := by
    rw [List.drop_eq_getElem_cons hk]
    simp [bval, List.getElem?_eq_getElem hk]
  generalize ls.getD k 0 = x at *
  refine ⟨by omega, by omega, ?_⟩
  rw [hd, hv]
  simp only [bval]
  have := Nat.div_add_mod (rest * 4294967296 + x) 1000000000
  omega
/-- One round of l0digits, and what is left. -/
theorem digits_round (A Aj Q R : Nat) (os ks : List Nat) (hk : ks.length = 9) (hv : dval ks = R % 10 ^ 9) (hR : R < 1000000000) (hA : Aj = 1000000000 * Q + R)
    (h : dval os + 10 ^ os.length * Aj = A) : dval (os ++ ks) + 10 ^ (os ++ ks).length * Q = A := by
  have e : (10 : Nat) ^ 9 = 1000000000 := rfl
  rw [e, Nat.mod_eq_of_lt hR] at hv
  rw [dval_append, hv, List.length_append, hk, Nat.pow_add, e, ← h, hA, Nat.mul_add, Nat.mul_assoc]
  omega
/-- There are not so many digits. -/
theorem digits_few (A Aj n : Nat) (os : List Nat) (h0 : 0 < Aj) (hA : A < 4294967296 ^ n) (h : dval os + 10 ^ os.length * Aj = A) : os.length < 32 * n ∧ os.length < A := by
  have h1 : 10 ^ os.length ≤ A := by
    have : 10 ^ os.length * 1 ≤ 10 ^ os.length * Aj := Nat.mul_le_mul_left _ h0
    omega
  have h2 : 2 ^ os.length ≤ 10 ^ os.length := Nat.pow_le_pow_left (by omega) _
  have e : 4294967296 ^ n = 2 ^ (32 * n) := by rw [Nat.pow_mul]
  rw [e] at hA
  constructor
  · exact (Nat.pow_lt_pow_iff_right (by omega)).1 (Nat.lt_of_le_of_lt h2 (Nat.lt_of_le_of_lt h1 hA))
  · have h3 : os.length < 2 ^ os.length := Nat.lt_two_pow_self
    omega
/-- Zeros at the end are left out. -/
theorem strip_round (os : List Nat) (k : Nat) (h : k < os.length) (hz : os.getD k 0 = 0) (hv : dval os = dval (os.take (k + 1))) : dval os = dval (os.take k) := by
  rw [hv, part_snoc os k h, hz, dval_snoc]; omega
/-- The text of digits, as what is read of it. -/
theorem isDec_of (ds : List Nat) (A : Nat) (s : ByteArray) (ht : Ten ds) (hv : dval ds = A) (hs : s.data.toList = dtxt ds) (hz : ∀ k, ds.length = k + 1 → ds.getD k 0 ≠ 0) : IsDec s A := by
  refine ⟨by rw [hs]; exact good_dtxt ds ht, by rw [hs, valN_dtxt ds ht, hv], ?_⟩
  intro h
  have hl : ds.length = s.size := by rw [← data_len s, hs, dtxt_length]
  obtain ⟨k, hk⟩ : ∃ k, ds.length = k + 1 := ⟨ds.length - 1, by omega⟩
  have e : s[0] = dchr (ds.getD k 0) := by
    have e1 : s[0] = s.data.toList[0]'(by rw [data_len]; exact h) := by simp [ByteArray.getElem_eq_getElem_data]
    rw [e1]
    simp only [hs, dtxt]
    rw [List.getElem_map, List.getElem_reverse]
    congr 1
    simp [hk]
  rw [e, dchr_nat _ (by
    have := ht (ds.getD k 0) (by
      have e2 : ds.getD k 0 = ds[k] := by simp [List.getElem?_eq_getElem (show k < ds.length by omega)]
      rw [e2]
      exact List.getElem_mem _)
    exact this)]
  have := hz k hk
  omega
end Go.Proofs.YtpmccbkhkaoccaaGreatDoor

/- l0from of the specification; what l0digits wants of memory. -/
namespace Go.Proofs.YtpmccbkhkaoccaaGreatDoor
open Go.ChangeShapes Go.WideShapes Go.RowKit

theorem Row.two (w : World) (T : Nat) (x y : Nat) : Row (w.alloc (.cells #[.int .u64 x, .int .u64 y] T)) (.slice (some ⟨w.heap.size, 0, none⟩) 2 2) [x, y] := by
  refine ⟨_, 2, rfl, Nat.le_refl _, by unfold maxLen; omega, .inr ⟨w.heap.size, rfl, by simp, fun t ht => ?_⟩⟩
  rw [World.cell?_alloc_mark]
  match t, ht with
  | 0, _ => rfl
  | 1, _ => rfl
set_option maxHeartbeats 400000 in
theorem l0from_any (n : Nat) (hn : n < 18446744073709551616) (w : World) :
    Calls Tryz.prog 75 #[.int .u64 (n : Int)] w fun e w' => ∃ v', e = .returned v' ∧ Below w.heap.size w w' ∧ Big w' v' n := by
  have ha := and32 n hn
  have hq : (n : Int) / 4294967296 = ((n / 4294967296 : Nat) : Int) := by omega
  have HR : Hid _ := fun (w : World) T => Row.two w T (n % 4294967296) (n / 4294967296)
  have HL : Hid (Lim [n % 4294967296, n / 4294967296]) := by
    show Lim _
    intro x hx
    simp at hx
    rcases hx with rfl | rfl <;> omega
  have HV : Hid (bval [n % 4294967296, n / 4294967296] = n) := by show _ = _; simp only [bval]; omega
  clear hn
  generalize n % 4294967296 = a at *
  generalize n / 4294967296 = b at *
  go_enter Tryz.func75, Tryz.ntmps75
  go_wp2_with (go_at_call 103; refine (l0trim_any [a, b] _ _ (HR.out _ _)).mono ?_; rintro e w2 ⟨rfl, v2, rfl, hv2⟩)
  go_ret
  exact ⟨_, rfl, (Below.refl _ _).alloc (Nat.le_refl _) _, Big.of_trim hv2 HL.out HV.out⟩

set_option maxHeartbeats 400000 in
/-- l0trim over a block: what it hands back lies in that block. -/
theorem l0trim_at (ls : List Nat) (g cap : Nat) (w : World) (h1 : ls.length ≤ cap) (h2 : cap ≤ maxLen)
    (hc : ∀ t, t < ls.length → w.cell? ⟨g, t, none⟩ = some (.int .u64 (ls.getD t 0 : Nat))) :
    Calls Tryz.prog 103 #[.slice (some ⟨g, 0, none⟩) ls.length cap] w fun e w' => w' = w ∧ e = .returned (.slice (some ⟨g, 0, none⟩) (btrim ls).length cap) := by
  go_enter Tryz.func103, Tryz.ntmps103
  go_wp2
  go_loop [3] (fun n => ∃ k : Nat, n = .int .i64 k ∧ k ≤ ls.length ∧ Hid (btrim ls = btrim (ls.take k))) (fun n => (intOf n).toNat)
  case atStart => exact ⟨ls.length, rfl, Nat.le_refl _, by show _ = _; rw [List.take_length]⟩
  case round =>
    obtain ⟨k, rfl, hk, HK⟩ := hrel
    have HC : Hid (∀ t, t < ls.length → w.cell? ⟨g, t, none⟩ = some (.int .u64 (ls.getD t 0 : Nat))) := hc
    clear hc
    have hcap : cap ≤ 9223372036854775807 := h2
    cases k with
    | zero =>
      have HE : Hid ((btrim ls).length = 0) := by show _ = _; rw [HK.out]; rfl
      go_wp2
      go_ret
      exact ⟨rfl, by rw [HE.out]; rfl⟩
    | succ k =>
      have hx := HC.out k (by omega)
      by_cases hz : ls.getD k 0 = 0
      · have HK2 : Hid (btrim ls = btrim (ls.take k)) := HK.out.trans (trim_take_zero ls k (by omega) hz)
        rw [hz] at hx
        go_wp2
        exact ⟨⟨k, rfl, by omega, HK2⟩, by simp only [intOf]; omega⟩
      · have HE : Hid ((btrim ls).length = k + 1) := by show _ = _; rw [HK.out, trim_take_some ls k (by omega) hz, List.length_take]; omega
        generalize ls.getD k 0 = x at *
        go_wp2
        go_ret
        exact ⟨rfl, by rw [HE.out]; rfl⟩

theorem Tryz.infoB : (Tryz.prog.info? 5).map (fun i => (i.zero, i.size, i.bytes)) = some (some (.int .u8 0), 1, 1) := by kernel_rfl
/-- A digit's byte, as a cell. -/
def cellD (d : Nat) : Value := .int .u8 ((dchr d).toNat : Int)
/-- Another block than the one that is appended to. -/
def Far (u v : Value) : Prop := ∀ g n c, v = .slice (some ⟨g, 0, none⟩) n c → u.ownBlock ≠ some g
theorem Row.far {w w1 : World} {u v : Value} {ls : List Nat} {o : Obj} (h : Row w v ls) (hf : Far u v) (hg : (w.alloc o).grownBy w1 u.ownBlock) : Row w1 v ls := by
  obtain ⟨ao, cap, hv, h1, h2, h3⟩ := h
  refine ⟨ao, cap, hv, h1, h2, ?_⟩
  rcases h3 with h3 | ⟨g, rfl, hl, hc⟩
  · exact .inl h3
  · have hlt : g < (w.alloc o).heap.size := by simp; omega
    refine .inr ⟨g, rfl, Nat.lt_of_lt_of_le hlt hg.size, fun t ht => ?_⟩
    rw [hg.cell_far ⟨g, t, none⟩ hlt (by intro h; exact hf g _ _ hv h.symm)]
    rw [((Below.refl w.heap.size w).alloc (Nat.le_refl _) o).cell (p := ⟨g, t, none⟩) hl]
    exact hc t ht
theorem Big.far {w w1 : World} {u v : Value} {A : Nat} {o : Obj} (h : Big w v A) (hf : Far u v) (hg : (w.alloc o).grownBy w1 u.ownBlock) : Big w1 v A := by
  obtain ⟨ls, h1, h2⟩ := h
  exact ⟨ls, h1.far hf hg, h2⟩
/-- Behind an append it lies apart still. -/
theorem Far.next {w : World} {u v : Value} {ls : List Nat} {g n c : Nat} (hf : Far u v) (h : Row w v ls) (hg : u.ownBlock = some g ∨ g = w.heap.size + 1) : Far (.slice (some ⟨g, 0, none⟩) n c) v := by
  intro k m d hv hk
  have hk' : g = k := by simpa [Value.ownBlock] using hk
  subst hk'
  rcases hg with hg | hg
  · exact hf g m d hv hg
  · obtain ⟨ao, cap, hv2, _, _, h3⟩ := h
    rw [hv] at hv2
    cases hv2
    rcases h3 with ⟨h3, _⟩ | ⟨g', h3, hl, _⟩
    · cases h3
    · cases h3; omega
theorem own_stepD {B n : Nat} {w wr w1 : World} {e f : Nat} {u v : Value} {os : List Nat} {r : Nat} {o : Obj} (ho : os.length = n) (hown : wr.ownsRow B e 1 u n (os.map cellD)) (hbe : Below B w wr) (hB : B ≤ w.heap.size)
    (h1 : w1.ownsRow B f 1 v (n + 1) ((os.map cellD) ++ [cellD r])) (hg : (wr.alloc o).grownBy w1 u.ownBlock) :
    w1.ownsRow B f 1 v (os ++ [r]).length ((os ++ [r]).map cellD) ∧ Below B w w1 := by
  have hs : B ≤ wr.heap.size := Nat.le_trans hB hbe.size
  refine ⟨by simpa [ho] using h1, (hbe.alloc hs o).grown hg (by simp; omega) ?_⟩
  intro k hk
  obtain ⟨_, h⟩ := hown
  rcases h with ⟨rfl, _⟩ | ⟨g, cap, cur, rfl, hb, _⟩
  · simp [Value.ownBlock] at hk
  · simp [Value.ownBlock] at hk; omega
end Go.Proofs.YtpmccbkhkaoccaaGreatDoor

