import Derived.Test.YtoedefjngipeiaaGreatDoorA07
import Derived.WalkSmall
import Derived.WalkKit
/- what l0cmp, l0sub and l0add want. -/
namespace Go.Proofs.YtoedefjngipeiaaGreatDoor
open Go.ChangeShapes Go.WideShapes Go.RowKit

/-- Order as a number. -/
def cmpI (a b : Nat) : Int := if a < b then -1 else if b < a then 1 else 0
theorem cmpI_lt {a b : Nat} (h : a < b) : cmpI a b = -1 := if_pos h
theorem cmpI_gt {a b : Nat} (h : b < a) : cmpI a b = 1 := by unfold cmpI; rw [if_neg (by omega), if_pos h]
theorem cmpI_eq {a b : Nat} (h : a = b) : cmpI a b = 0 := by unfold cmpI; rw [if_neg (by omega), if_neg (by omega)]
theorem len_lt {a b : List Nat} (hl : Lim a) (ht : Trim b) (h : a.length < b.length) : bval a < bval b := by
  have h1 := bval_lt hl
  have hb : b ≠ [] := by rintro rfl; simp at h
  have h2 := (trim_last ht hb).1
  have h3 : 4294967296 ^ a.length ≤ 4294967296 ^ (b.length - 1) := Nat.pow_le_pow_right (by omega) (by omega)
  omega
theorem bval_split (a : List Nat) (k : Nat) (h : k ≤ a.length) : bval a = bval (a.take k) + 4294967296 ^ k * bval (a.drop k) := by
  have := bval_append (a.take k) (a.drop k)
  rw [List.take_append_drop, List.length_take, Nat.min_eq_left h] at this
  exact this
theorem take_lt {a : List Nat} (hl : Lim a) (k : Nat) (h : k ≤ a.length) : bval (a.take k) < 4294967296 ^ k := by
  have := bval_lt (a := a.take k) fun x hx => hl x (List.mem_of_mem_take hx)
  rw [List.length_take, Nat.min_eq_left h] at this
  exact this
theorem parts_lt {a b : List Nat} (hl : Lim a) (h : a.length = b.length) (k : Nat) (hk : k < a.length) (hd : a.drop (k + 1) = b.drop (k + 1)) (hx : a.getD k 0 < b.getD k 0) : bval a < bval b := by
  rw [bval_split a (k + 1) (by omega), bval_split b (k + 1) (by omega), hd, take_val a k hk, take_val b k (by omega)]
  have h1 := take_lt hl k (by omega)
  have h2 := Nat.mul_le_mul_left (4294967296 ^ k) (show a.getD k 0 + 1 ≤ b.getD k 0 from hx)
  rw [Nat.mul_add, Nat.mul_one] at h2
  generalize 4294967296 ^ k * a.getD k 0 = p at *
  generalize 4294967296 ^ k * b.getD k 0 = q at *
  omega
theorem drop_eq {a b : List Nat} (h : a.length = b.length) (k : Nat) (hk : k < a.length) (hd : a.drop (k + 1) = b.drop (k + 1)) (hx : a.getD k 0 = b.getD k 0) : a.drop k = b.drop k := by
  rw [List.drop_eq_getElem_cons hk, List.drop_eq_getElem_cons (show k < b.length by omega), hd]
  simp [List.getElem?_eq_getElem hk, List.getElem?_eq_getElem (show k < b.length by omega)] at hx
  rw [hx]
/-- A row of some parts lies in a block. -/
theorem Row.block {w : World} {ao : Option Addr} {cap : Nat} {ls : List Nat} (h1 : ls.length ≤ cap)
    (h : (ao = none ∧ cap = 0) ∨ ∃ g, ao = some ⟨g, 0, none⟩ ∧ g < w.heap.size ∧ ∀ t, t < ls.length → w.cell? ⟨g, t, none⟩ = some (.int .u64 (ls.getD t 0 : Nat))) {t : Nat} (ht : t < ls.length) :
    ∃ g, ao = some ⟨g, 0, none⟩ ∧ g < w.heap.size ∧ ∀ t, t < ls.length → w.cell? ⟨g, t, none⟩ = some (.int .u64 (ls.getD t 0 : Nat)) := by
  rcases h with ⟨_, h⟩ | h
  · omega
  · exact h

end Go.Proofs.YtoedefjngipeiaaGreatDoor

/- l0add of the specification. -/
namespace Go.Proofs.YtoedefjngipeiaaGreatDoor
open Go.ChangeShapes Go.WideShapes Go.RowKit

theorem and32 (y : Nat) (h : y < 18446744073709551616) : bits .and .u64 (y : Int) 4294967295 = ((y % 4294967296 : Nat) : Int) := by
  rw [u64_and (y : Int) 4294967295 (by omega) (by omega) (by omega) (by omega), Int.toNat_natCast]
  have e : (4294967295 : Int).toNat = 2 ^ 32 - 1 := rfl
  rw [e, Nat.and_two_pow_sub_one_eq_mod]
theorem take_val' (a : List Nat) (k : Nat) : bval (a.take (k + 1)) = bval (a.take k) + 4294967296 ^ k * a.getD k 0 := by
  by_cases h : k < a.length
  · exact take_val a k h
  · rw [List.take_of_length_le (by omega), List.take_of_length_le (by omega)]
    simp [List.getElem?_eq_none (Nat.le_of_not_lt h)]
theorem lim_snoc {os : List Nat} (h : Lim os) {r : Nat} (hr : r < 4294967296) : Lim (os ++ [r]) := by
  intro y hy
  rcases List.mem_append.1 hy with h1 | h1
  · exact h y h1
  · rw [List.mem_singleton.1 h1]; omega
theorem add_round (ls ms os : List Nat) (c k : Nat) (ho : os.length = k) (hL : Lim os) (hv : bval os + 4294967296 ^ k * c = bval (ls.take k) + bval (ms.take k))
    (t : Nat) (ht : t = c + ls.getD k 0 + ms.getD k 0) (r q : Nat) (hr : t % 4294967296 = r) (hq : t / 4294967296 = q) :
    Lim (os ++ [r]) ∧ bval (os ++ [r]) + 4294967296 ^ (k + 1) * q = bval (ls.take (k + 1)) + bval (ms.take (k + 1)) := by
  refine ⟨lim_snoc hL (by omega), ?_⟩
  rw [take_val' ls k, take_val' ms k, bval_append, ho, Nat.pow_succ]
  generalize ls.getD k 0 = x at *
  generalize ms.getD k 0 = y at *
  generalize 4294967296 ^ k = z at *
  have e : z * r + z * 4294967296 * q = z * c + z * x + z * y := by
    rw [← Nat.mul_add, ← Nat.mul_add, Nat.mul_assoc, ← Nat.mul_add, ← ht]
    congr 1; omega
  simp only [bval]
  rw [Nat.mul_zero, Nat.add_zero]
  omega
theorem add_end (ls ms os : List Nat) (c k : Nat) (ho : os.length = k) (hl : ls.length ≤ k) (hm : ms.length ≤ k) (hc : c ≤ 1) (hL : Lim os)
    (hv : bval os + 4294967296 ^ k * c = bval (ls.take k) + bval (ms.take k)) : Lim (os ++ [c]) ∧ bval (os ++ [c]) = bval ls + bval ms := by
  refine ⟨lim_snoc hL (by omega), ?_⟩
  rw [List.take_of_length_le hl, List.take_of_length_le hm] at hv
  rw [bval_append, ho]
  simpa [bval] using hv

set_option maxHeartbeats 3200000 in
set_option maxRecDepth 100000 in
theorem l0add_any (v u : Value) (A C n : Nat) (w : World) (h : Big w v A) (h' : Big w u C) (hA : A < 4294967296 ^ n) (hC : C < 4294967296 ^ n) (hn : n < 1000000) :
    Calls Tryz.prog 73 #[v, u] w fun e w' => ∃ v', e = .returned v' ∧ Below w.heap.size w w' ∧ Big w' v' (A + C) := by
  obtain ⟨i0, hi, hz0, hz1, hz2⟩ := info_parts Tryz.infoU
  obtain ⟨ls, a1, a2, a3, rfl⟩ := h
  obtain ⟨ms, b1, b2, b3, rfl⟩ := h'
  have hlen := Nat.lt_of_le_of_lt (trim_len a3 hA) hn
  have hlen2 := Nat.lt_of_le_of_lt (trim_len b3 hC) hn
  obtain ⟨ao, acap, rfl, ac, am, ah⟩ := a1
  obtain ⟨bo, bcap, rfl, bc, bm, bh⟩ := b1
  have HA : Hid _ := ah
  have HB : Hid _ := bh
  have LA : Hid _ := a2
  have LB : Hid _ := b2
  clear ah bh am bm a2 b2 a3 b3 hA hC
  go_enter Tryz.func73, Tryz.ntmps73
  go_wp2
  go_loopw [5, 6, 7] (fun v cv i wr => ∃ (k c : Nat) (os : List Nat), (k ≤ ls.length ∨ k ≤ ms.length) ∧ i = .int .i64 k ∧ cv = .int .u64 c ∧ c ≤ 1 ∧ os.length = k ∧ Hid (Lim os) ∧
      Hid (bval os + 4294967296 ^ k * c = bval (ls.take k) + bval (ms.take k)) ∧ wr.ownsRow w.heap.size 40 1 v k (os.map fun x => Value.int .u64 (x : Nat)) ∧ Below w.heap.size w wr)
    (fun _ _ i _ => ls.length + ms.length - (intOf i).toNat)
  case atStart => exact ⟨0, 0, [], .inl (Nat.zero_le _), rfl, rfl, by omega, rfl, fun _ h => absurd h (by simp), by show _ = _; simp [bval], World.ownsRow_nil _ _ _ _, Below.refl _ _⟩
  case round =>
    obtain ⟨k, c, os, hk, rfl, rfl, hc, ho, HO, HV, hown, hbe⟩ := hrel
    have hxl := lim_get LA.out k
    have hyl := lim_get LB.out k
    by_cases hlt : k < ls.length
    · obtain ⟨g, rfl, hg, hcl⟩ := Row.block ac HA.out (t := k) hlt
      have hx : wr.cell? ⟨g, k, none⟩ = some (.int .u64 (ls.getD k 0 : Nat)) := (hbe.cell hg).trans (hcl k hlt)
      have HR : Hid _ := add_round ls ms os c k ho HO.out HV.out
      clear hcl HV
      by_cases hlm : k < ms.length
      · obtain ⟨g', rfl, hg', hcl'⟩ := Row.block bc HB.out (t := k) hlm
        have hy : wr.cell? ⟨g', k, none⟩ = some (.int .u64 (ms.getD k 0 : Nat)) := (hbe.cell hg').trans (hcl' k hlm)
        clear hcl'
        generalize ls.getD k 0 = x at *
        generalize ms.getD k 0 = y at *
        have hand := and32 (c + x + y) (by omega)
        have hshr : ((c : Int) + x + y) / 4294967296 = (((c + x + y) / 4294967296 : Nat) : Int) := by omega
        have HR1 : Hid _ := HR.out (c + x + y) rfl
        generalize hr : (c + x + y) % 4294967296 = r at *
        generalize hq : (c + x + y) / 4294967296 = q at *
        have HR2 : Hid _ := HR1.out r q rfl rfl
        rw [Int.natCast_add, Int.natCast_add] at hand
        go_wp2_with (first
          | (at_builtin; refine wpList_append_own _ rfl _ _ 58 rfl w.heap.size 40 i0 (.int .u64 0) 1 8 Tryz.underlying58 hi hz0 hz1 hz2 rfl (by decide) _ _ _ rfl (hown.alloc _) ⟨wr.heap.size, 0, none⟩ 1 1 [.int .u64 (r : Nat)] rfl rfl ?c1a ?c1b ?c1c ?c1d ?c1e ?_)
          | go_in)
        case c1a =>
          intro j u hj
          match j, hj with
          | 0, hj => simp at hj; subst hj; simp [Addr.add]
        case c1b => intro u hu; simp at hu; subst hu; rfl
        case c1c => unfold maxLen; omega
        case c1d => omega
        case c1e => have := hbe.size; simp; omega
        · intro v' w1 hown' hgrow _
          have R := own_step (os := os) (r := r) ho hown hbe (Nat.le_refl _) (by simpa using hown') hgrow
          have RL : (os ++ [r]).length = k + 1 := by simp [ho]
          rw [RL] at R
          clear hown' hgrow hown
          go_wp2
          go_roundw
          case rel => exact ⟨k + 1, q, os ++ [r], by omega, by simp, rfl, by omega, RL, HR2.out.1, HR2.out.2, R.1, R.2⟩
          case measure => simp [intOf]; omega
      · have h0 : ms.getD k 0 = 0 := by simp [List.getElem?_eq_none (Nat.le_of_not_lt hlm)]
        rw [h0] at HR
        clear hyl h0
        generalize ls.getD k 0 = x at *
        have hand := and32 (c + x) (by omega)
        have hshr : ((c : Int) + x) / 4294967296 = (((c + x) / 4294967296 : Nat) : Int) := by omega
        have HR1 : Hid _ := HR.out (c + x) rfl
        generalize hr : (c + x) % 4294967296 = r at *
        generalize hq : (c + x) / 4294967296 = q at *
        have HR2 : Hid _ := HR1.out r q rfl rfl
        rw [Int.natCast_add] at hand
        go_wp2_with (first
          | (at_builtin; refine wpList_append_own _ rfl _ _ 58 rfl w.heap.size 40 i0 (.int .u64 0) 1 8 Tryz.underlying58 hi hz0 hz1 hz2 rfl (by decide) _ _ _ rfl (hown.alloc _) ⟨wr.heap.size, 0, none⟩ 1 1 [.int .u64 (r : Nat)] rfl rfl ?c2a ?c2b ?c2c ?c2d ?c2e ?_)
          | go_in)
        case c2a =>
          intro j u hj
          match j, hj with
          | 0, hj => simp at hj; subst hj; simp [Addr.add]
        case c2b => intro u hu; simp at hu; subst hu; rfl
        case c2c => unfold maxLen; omega
        case c2d => omega
        case c2e => have := hbe.size; simp; omega
        · intro v' w1 hown' hgrow _
          have R := own_step (os := os) (r := r) ho hown hbe (Nat.le_refl _) (by simpa using hown') hgrow
          have RL : (os ++ [r]).length = k + 1 := by simp [ho]
          rw [RL] at R
          clear hown' hgrow hown
          go_wp2
          go_roundw
          case rel => exact ⟨k + 1, q, os ++ [r], by omega, by simp, rfl, by omega, RL, HR2.out.1, HR2.out.2, R.1, R.2⟩
          case measure => simp [intOf]; omega
    · have h0 : ls.getD k 0 = 0 := by simp [List.getElem?_eq_none (Nat.le_of_not_lt hlt)]
      by_cases hlm : k < ms.length
      · obtain ⟨g', rfl, hg', hcl'⟩ := Row.block bc HB.out (t := k) hlm
        have hy : wr.cell? ⟨g', k, none⟩ = some (.int .u64 (ms.getD k 0 : Nat)) := (hbe.cell hg').trans (hcl' k hlm)
        have HR : Hid _ := add_round ls ms os c k ho HO.out HV.out
        rw [h0] at HR
        clear hcl' HV hxl h0
        generalize ms.getD k 0 = y at *
        have hand := and32 (c + y) (by omega)
        have hshr : ((c : Int) + y) / 4294967296 = (((c + y) / 4294967296 : Nat) : Int) := by omega
        have HR1 : Hid _ := HR.out (c + y) (by omega)
        generalize hr : (c + y) % 4294967296 = r at *
        generalize hq : (c + y) / 4294967296 = q at *
        have HR2 : Hid _ := HR1.out r q rfl rfl
        rw [Int.natCast_add] at hand
        go_wp2_with (first
          | (at_builtin; refine wpList_append_own _ rfl _ _ 58 rfl w.heap.size 40 i0 (.int .u64 0) 1 8 Tryz.underlying58 hi hz0 hz1 hz2 rfl (by decide) _ _ _ rfl (hown.alloc _) ⟨wr.heap.size, 0, none⟩ 1 1 [.int .u64 (r : Nat)] rfl rfl ?c3a ?c3b ?c3c ?c3d ?c3e ?_)
          | go_in)
        case c3a =>
          intro j u hj
          match j, hj with
          | 0, hj => simp at hj; subst hj; simp [Addr.add]
        case c3b => intro u hu; simp at hu; subst hu; rfl
        case c3c => unfold maxLen; omega
        case c3d => omega
        case c3e => have := hbe.size; simp; omega
        · intro v' w1 hown' hgrow _
          have R := own_step (os := os) (r := r) ho hown hbe (Nat.le_refl _) (by simpa using hown') hgrow
          have RL : (os ++ [r]).length = k + 1 := by simp [ho]
          rw [RL] at R
          clear hown' hgrow hown
          go_wp2
          go_roundw
          case rel => exact ⟨k + 1, q, os ++ [r], by omega, by simp, rfl, by omega, RL, HR2.out.1, HR2.out.2, R.1, R.2⟩
          case measure => simp [intOf]; omega
      · have HE : Hid _ := add_end ls ms os c k ho (by omega) (by omega) hc HO.out HV.out
        clear HV hxl hyl h0
        go_wp2_with (first
          | (at_builtin; refine wpList_append_own _ rfl _ _ 58 rfl w.heap.size 40 i0 (.int .u64 0) 1 8 Tryz.underlying58 hi hz0 hz1 hz2 rfl (by decide) _ _ _ rfl (hown.alloc _) ⟨wr.heap.size, 0, none⟩ 1 1 [.int .u64 (c : Nat)] rfl rfl ?c4a ?c4b ?c4c ?c4d ?c4e ?_)
          | go_in)
        case c4a =>
          intro j u hj
          match j, hj with
          | 0, hj => simp at hj; subst hj; simp [Addr.add]
        case c4b => intro u hu; simp at hu; subst hu; rfl
        case c4c => unfold maxLen; omega
        case c4d => omega
        case c4e => have := hbe.size; simp; omega
        · intro v' w1 hown' hgrow _
          have R := own_step (os := os) (r := c) ho hown hbe (Nat.le_refl _) (by simpa using hown') hgrow
          have HR : Hid (Row w1 v' (os ++ [c])) := Row.of_owns R.1
          have HB2 : Hid (Below w.heap.size w w1) := R.2
          clear hown' hgrow hown R
          go_wp2_with (go_at_call 53; refine (l0trim_any (os ++ [c]) v' _ HR.out).mono ?_; rintro e w2 ⟨rfl, v2, rfl, hv2⟩)
          go_ret
          exact ⟨_, rfl, HB2.out, Big.of_trim hv2 HE.out.1 HE.out.2⟩
end Go.Proofs.YtoedefjngipeiaaGreatDoor

/- Numbers in a base, as plain functions: no program is spoken of here. -/
namespace Go.Proofs.YtoedefjngipeiaaGreatDoor
open Go.RowKit

/-- A byte's digit; 'none' for a byte that is none. -/
def digN (none c : Int) : Int := if 48 ≤ c ∧ c ≤ 57 then c - 48 else if 97 ≤ c ∧ c ≤ 122 then c - 97 + 10 else none
theorem digN_lo (none c : Int) (h : 0 ≤ none) : 0 ≤ digN none c := by unfold digN; split <;> (try split) <;> omega
theorem digN_hi (none c : Int) (h : 36 ≤ none) : digN none c ≤ none := by unfold digN; split <;> (try split) <;> omega
theorem digN_same (a b c base : Int) (ha : base ≤ a) (hb : base ≤ b) : (digN a c < base ↔ digN b c < base) ∧ (digN a c < base → digN a c = digN b c) := by
  unfold digN; split <;> (try split) <;> omega

/-- The number that digits tell. -/
def val (b : Int) (l : List UInt8) : Int := l.foldl (fun n c => n * b + digN 99 c.toNat) 0
/-- Every byte is a digit of the base. -/
def good (b : Int) (l : List UInt8) : Prop := ∀ c ∈ l, digN 99 (c.toNat : Int) < b
theorem val_snoc (b : Int) (l : List UInt8) (c : UInt8) : val b (l ++ [c]) = val b l * b + digN 99 c.toNat := by simp [val, List.foldl_append]
theorem le_mul (n b : Int) (hn : 0 ≤ n) (hb : 1 ≤ b) : n ≤ n * b := by
  have h := Int.mul_nonneg hn (show (0 : Int) ≤ b - 1 by omega)
  rw [Int.mul_sub, Int.mul_one] at h
  omega
theorem fold_nonneg (b : Int) (hb : 0 ≤ b) (l : List UInt8) : ∀ n : Int, 0 ≤ n → 0 ≤ l.foldl (fun n c => n * b + digN 99 c.toNat) n := by
  induction l with
  | nil => intro n h; exact h
  | cons c l ih =>
    intro n h
    have hd := digN_lo 99 c.toNat (by omega)
    have hm : 0 ≤ n * b := Int.mul_nonneg h hb
    exact ih _ (show 0 ≤ n * b + digN 99 c.toNat by omega)
theorem val_nonneg (b : Int) (hb : 0 ≤ b) (l : List UInt8) : 0 ≤ val b l := fold_nonneg b hb l 0 (by omega)
theorem val_more (b : Int) (hb : 1 ≤ b) (m : List UInt8) : ∀ l, val b l ≤ val b (l ++ m) := by
  induction m with
  | nil => intro l; simp
  | cons c m ih =>
    intro l
    have h := ih (l ++ [c])
    rw [List.append_assoc] at h
    have hs := val_snoc b l c
    have hd := digN_lo 99 c.toNat (by omega)
    have hm := le_mul (val b l) b (val_nonneg b (by omega) l) hb
    show val b l ≤ val b (l ++ ([c] ++ m))
    omega
theorem val_take (b : Int) (hb : 1 ≤ b) (l : List UInt8) (k : Nat) : val b (l.take k) ≤ val b l := by
  have h := val_more b hb (l.drop k) (l.take k)
  rw [List.take_append_drop] at h
  exact h
theorem take_snoc (s : ByteArray) (k : Nat) (h : k < s.size) : s.data.toList.take (k + 1) = s.data.toList.take k ++ [s[k]] := by
  rw [List.take_succ_eq_append_getElem (by simpa using h)]; rfl
theorem val_step (b : Int) (s : ByteArray) (k : Nat) (h : k < s.size) : val b (s.data.toList.take (k + 1)) = val b (s.data.toList.take k) * b + digN 99 (s[k].toNat : Int) := by
  rw [take_snoc s k h, val_snoc]
theorem good_at (b : Int) (s : ByteArray) (hg : good b s.data.toList) (k : Nat) (h : k < s.size) : digN 99 (s[k].toNat : Int) < b :=
  hg _ (List.getElem_mem (l := s.data.toList) (n := k) (by simpa using h))
theorem bad_at (b : Int) (s : ByteArray) (k : Nat) (h : k < s.size) (hb : b ≤ digN 99 (s[k].toNat : Int)) : ¬ good b s.data.toList :=
  fun hg => by have := good_at b s hg k h; omega
theorem good_of (b : Int) (s : ByteArray) (h : ∀ k (hk : k < s.size), digN 99 (s[k].toNat : Int) < b) : good b s.data.toList := by
  intro c hc
  obtain ⟨i, hi, rfl⟩ := List.getElem_of_mem hc
  exact h i (by simpa using hi)

/-- What the test ahead of a product says: 'n > (limit - d) / b' just where the next number passes the limit. -/
theorem passes (n b d limit : Int) (hb : 0 < b) : (limit - d) / b < n ↔ limit < n * b + d := by
  have h := Int.ediv_lt_iff_lt_mul (a := limit - d) (b := n) hb
  omega
theorem passes0 (n b limit : Int) (hb : 0 < b) : limit / b < n ↔ limit < n * b := by
  have h := passes n b 0 limit hb
  simp only [Int.sub_zero, Int.add_zero] at h
  exact h
end Go.Proofs.YtoedefjngipeiaaGreatDoor

