import Derived.Test.YtoedefjngipeiaaGreatDoorA06
/- l0mul of the specification: a big number times a small one. -/
namespace Go.Proofs.YtoedefjngipeiaaGreatDoor
open Go.ChangeShapes Go.WideShapes Go.RowKit

theorem Tryz.infoU : (Tryz.prog.info? 40).map (fun i => (i.zero, i.size, i.bytes)) = some (some (.int .u64 0), 1, 8) := by kernel_rfl
theorem prod_lt (x m c : Nat) (hx : x < 4294967296) (hm : m < 4294967296) (hc : c < 4294967296) : c + x * m < 18446744073709551616 := by
  have h : x * m ≤ 4294967295 * 4294967295 := Nat.mul_le_mul (by omega) (by omega)
  omega
theorem and_low (c x m : Nat) (h : c + x * m < 18446744073709551616) : bits .and .u64 ((c : Int) + (x : Int) * (m : Int)) 4294967295 = (((c + x * m) % 4294967296 : Nat) : Int) := by
  have h' : (c : Int) + (x : Int) * (m : Int) = ((c + x * m : Nat) : Int) := by rw [Int.natCast_add, Int.natCast_mul]
  rw [h']
  generalize c + x * m = y at *
  rw [u64_and (y : Int) 4294967295 (by omega) (by omega) (by omega) (by omega), Int.toNat_natCast]
  have e : (4294967295 : Int).toNat = 2 ^ 32 - 1 := rfl
  rw [e, Nat.and_two_pow_sub_one_eq_mod]
theorem shr_low (c x m : Nat) : ((c : Int) + (x : Int) * (m : Int)) / 4294967296 = (((c + x * m) / 4294967296 : Nat) : Int) := by
  rw [Int.natCast_ediv, Int.natCast_add, Int.natCast_mul]; rfl
/-- A round of the multiplication. -/
theorem mul_round (ls os : List Nat) (m c c0 k : Nat) (hk : k < ls.length) (ho : os.length = k) (hx : ls.getD k 0 < 4294967296) (hm : m < 4294967296) (hc : c < 4294967296) (hL : Lim os)
    (hv : bval os + 4294967296 ^ k * c = bval (ls.take k) * m + c0) :
    Lim (os ++ [(c + ls.getD k 0 * m) % 4294967296]) ∧ (c + ls.getD k 0 * m) / 4294967296 < 4294967296 ∧
    bval (os ++ [(c + ls.getD k 0 * m) % 4294967296]) + 4294967296 ^ (k + 1) * ((c + ls.getD k 0 * m) / 4294967296) = bval (ls.take (k + 1)) * m + c0 := by
  have hp := prod_lt (ls.getD k 0) m c hx hm hc
  refine ⟨?_, by omega, ?_⟩
  · intro y hy
    rcases List.mem_append.1 hy with h | h
    · exact hL y h
    · rw [List.mem_singleton.1 h]; omega
  · rw [take_val ls k hk, bval_append, ho, Nat.add_mul, Nat.pow_succ]
    have hd := Nat.div_add_mod (c + ls.getD k 0 * m) 4294967296
    have e1 : 4294967296 ^ k * ls.getD k 0 * m = 4294967296 ^ k * (ls.getD k 0 * m) := Nat.mul_assoc _ _ _
    generalize ls.getD k 0 * m = p at *
    rw [e1]
    generalize (c + p) / 4294967296 = q at *
    generalize (c + p) % 4294967296 = r at *
    generalize 4294967296 ^ k = z at *
    have e2 : z * 4294967296 * q + z * r = z * c + z * p := by
      rw [Nat.mul_assoc, ← Nat.mul_add, hd, Nat.mul_add]
    simp only [bval]
    rw [Nat.mul_zero, Nat.add_zero]
    omega
theorem mul_end (ls os : List Nat) (m c c0 : Nat) (ho : os.length = ls.length) (hc : c < 4294967296) (hL : Lim os)
    (hv : bval os + 4294967296 ^ ls.length * c = bval (ls.take ls.length) * m + c0) : Lim (os ++ [c]) ∧ bval (os ++ [c]) = bval ls * m + c0 := by
  refine ⟨?_, ?_⟩
  · intro y hy
    rcases List.mem_append.1 hy with h | h
    · exact hL y h
    · rw [List.mem_singleton.1 h]; omega
  · rw [bval_append, ho]
    rw [List.take_length] at hv
    simpa [bval] using hv

/-- What an append of one part leaves. -/
theorem own_step {B n : Nat} {w wr w1 : World} {e f : Nat} {u v : Value} {os : List Nat} {r : Nat} {o : Obj} (ho : os.length = n) (hown : wr.ownsRow B e 1 u n (os.map fun x => Value.int .u64 (x : Nat))) (hbe : Below B w wr) (hB : B ≤ w.heap.size)
    (h1 : w1.ownsRow B f 1 v (n + 1) ((os.map fun x => Value.int .u64 (x : Nat)) ++ [Value.int .u64 (r : Nat)])) (hg : (wr.alloc o).grownBy w1 u.ownBlock) :
    w1.ownsRow B f 1 v (os ++ [r]).length ((os ++ [r]).map fun x => Value.int .u64 (x : Nat)) ∧ Below B w w1 := by
  have hs : B ≤ wr.heap.size := Nat.le_trans hB hbe.size
  refine ⟨by simpa [ho] using h1, (hbe.alloc hs o).grown hg (by simp; omega) ?_⟩
  intro k hk
  obtain ⟨_, h⟩ := hown
  rcases h with ⟨rfl, _⟩ | ⟨g, cap, cur, rfl, hb, _⟩
  · simp [Value.ownBlock] at hk
  · simp [Value.ownBlock] at hk; omega

/-- A big number: its parts below 2^32, no zero at the end. -/
def Big (w : World) (v : Value) (A : Nat) : Prop := ∃ ls, Row w v ls ∧ Lim ls ∧ Trim ls ∧ bval ls = A
theorem Big.of_trim {w : World} {v : Value} {ls : List Nat} (h : Row w v (btrim ls)) (hl : Lim ls) {A : Nat} (hv : bval ls = A) : Big w v A :=
  ⟨btrim ls, h, btrim_lim hl, btrim_trim ls, by rw [bval_trim, hv]⟩
theorem Big.below {w w' : World} {v : Value} {A : Nat} (h : Big w v A) {B : Nat} (hb : Below B w w') (hB : w.heap.size ≤ B) : Big w' v A := by
  obtain ⟨ls, h1, h2⟩ := h
  exact ⟨ls, h1.below hb hB, h2⟩

set_option maxHeartbeats 1600000 in
set_option maxRecDepth 100000 in
theorem l0mul_block (ls : List Nat) (g cap m c0 : Nat) (w : World) (hg : g < w.heap.size)
    (hcl : ∀ t, t < ls.length → w.cell? ⟨g, t, none⟩ = some (.int .u64 (ls.getD t 0 : Nat))) (hL : Lim ls) (hm : m < 4294967296) (hc : c0 < 4294967296) (hlen : ls.length < 1000000) :
    Calls Tryz.prog 72 #[.slice (some ⟨g, 0, none⟩) ls.length cap, .int .u64 m, .int .u64 c0] w fun e w' => ∃ v', e = .returned v' ∧ Below w.heap.size w w' ∧ Big w' v' (bval ls * m + c0) := by
  obtain ⟨i0, hi, hz0, hz1, hz2⟩ := info_parts Tryz.infoU
  have HC : Hid (∀ t, t < ls.length → w.cell? ⟨g, t, none⟩ = some (.int .u64 (ls.getD t 0 : Nat))) := hcl
  have HL : Hid (Lim ls) := hL
  clear hcl hL
  go_enter Tryz.func72, Tryz.ntmps72
  go_wp2
  go_loopw [2, 7, 12] (fun cv v i wr => ∃ (k c : Nat) (os : List Nat), k ≤ ls.length ∧ i = .int .i64 k ∧ cv = .int .u64 c ∧ c < 4294967296 ∧ os.length = k ∧ Hid (Lim os) ∧
      Hid (bval os + 4294967296 ^ k * c = bval (ls.take k) * m + c0) ∧ wr.ownsRow w.heap.size 40 1 v os.length (os.map fun x => Value.int .u64 (x : Nat)) ∧ Below w.heap.size w wr)
    (fun _ _ i _ => ls.length - (intOf i).toNat)
  case atStart => exact ⟨0, c0, [], Nat.zero_le _, rfl, rfl, hc, rfl, fun _ h => absurd h (by simp), by show bval [] + 4294967296 ^ 0 * c0 = bval (ls.take 0) * m + c0; simp [bval], World.ownsRow_nil _ _ _ _, Below.refl _ _⟩
  case round =>
    obtain ⟨k, c, os, hk, rfl, rfl, hc', ho, HO, HV, hown, hbe⟩ := hrel
    by_cases hlt : k < ls.length
    · have hx : wr.cell? ⟨g, k, none⟩ = some (.int .u64 (ls.getD k 0 : Nat)) := (hbe.cell hg).trans (HC.out k hlt)
      have hxl : ls.getD k 0 < 4294967296 := by
        have : ls.getD k 0 = ls[k] := by simp [List.getElem?_eq_getElem hlt]
        rw [this]; exact HL.out _ (List.getElem_mem hlt)
      have hp := prod_lt (ls.getD k 0) m c hxl hm hc'
      have HR : Hid _ := mul_round ls os m c c0 k hlt ho hxl hm hc' HO.out HV.out
      generalize ls.getD k 0 = x at *
      clear HV
      have hand := and_low c x m hp
      have hq := shr_low c x m
      generalize hr : (c + x * m) % 4294967296 = r at *
      generalize hQ : (c + x * m) / 4294967296 = q at *
      go_wp2_with (first
        | (at_builtin; refine wpList_append_own _ rfl _ _ 58 rfl w.heap.size 40 i0 (.int .u64 0) 1 8 Tryz.underlying58 hi hz0 hz1 hz2 rfl (by decide) _ _ _ rfl (hown.alloc _) ⟨wr.heap.size, 0, none⟩ 1 1 [.int .u64 r] rfl rfl ?c1 ?c2 ?c3 ?c4 ?c5 ?_)
        | go_in)
      case c1 =>
        intro j u hj
        match j, hj with
        | 0, hj => simp at hj; subst hj; simp [Addr.add]
      case c2 => intro u hu; simp at hu; subst hu; rfl
      case c3 => unfold maxLen; omega
      case c4 => omega
      case c5 => have := hbe.size; simp; omega
      · intro v' w1 hown' hgrow _
        have R := own_step ho (by rw [← ho]; exact hown) hbe (Nat.le_refl _) hown' hgrow
        clear hown' hgrow hown
        go_wp2
        go_roundw
        case rel => exact ⟨k + 1, q, os ++ [r], by omega, by simp, rfl, HR.out.2.1, by simp [ho], HR.out.1, HR.out.2.2, R.1, R.2⟩
        case measure => simp [intOf]; omega
    · obtain rfl : k = ls.length := by omega
      have HE : Hid _ := mul_end ls os m c c0 ho hc' HO.out HV.out
      clear HV
      go_wp2_with (first
        | (at_builtin; refine wpList_append_own _ rfl _ _ 58 rfl w.heap.size 40 i0 (.int .u64 0) 1 8 Tryz.underlying58 hi hz0 hz1 hz2 rfl (by decide) _ _ _ rfl (hown.alloc _) ⟨wr.heap.size, 0, none⟩ 1 1 [.int .u64 c] rfl rfl ?d1 ?d2 ?d3 ?d4 ?d5 ?_)
        | go_in)
      case d1 =>
        intro j u hj
        match j, hj with
        | 0, hj => simp at hj; subst hj; simp [Addr.add]
      case d2 => intro u hu; simp at hu; subst hu; rfl
      case d3 => unfold maxLen; omega
      case d4 => omega
      case d5 => have := hbe.size; simp; omega
      · intro v' w1 hown' hgrow _
        have R := own_step ho (by rw [← ho]; exact hown) hbe (Nat.le_refl _) hown' hgrow
        have HR : Hid (Row w1 v' (os ++ [c])) := Row.of_owns R.1
        have HB : Hid (Below w.heap.size w w1) := R.2
        clear hown' hgrow hown R
        go_wp2_with (go_at_call 53; refine (l0trim_any (os ++ [c]) v' _ HR.out).mono ?_; rintro e w2 ⟨rfl, v2, rfl, hv2⟩)
        go_ret
        exact ⟨_, rfl, HB.out, Big.of_trim hv2 HE.out.1 HE.out.2⟩
set_option maxHeartbeats 1600000 in
set_option maxRecDepth 100000 in
theorem l0mul_nil (m c0 : Nat) (w : World) (hc : c0 < 4294967296) :
    Calls Tryz.prog 72 #[.slice none 0 0, .int .u64 m, .int .u64 c0] w fun e w' => ∃ v', e = .returned v' ∧ Below w.heap.size w w' ∧ Big w' v' c0 := by
  obtain ⟨i0, hi, hz0, hz1, hz2⟩ := info_parts Tryz.infoU
  go_enter Tryz.func72, Tryz.ntmps72
  go_wp2
  go_loop [2, 7, 12] (fun cv v i => cv = .int .u64 c0 ∧ i = .int .i64 0 ∧ w.ownsRow w.heap.size 40 1 v 0 (([] : List Nat).map fun x => Value.int .u64 (x : Nat))) (fun _ _ _ => 0)
  case atStart => exact ⟨rfl, rfl, World.ownsRow_nil _ _ _ _⟩
  case round =>
    obtain ⟨rfl, rfl, hown⟩ := hrel
    go_wp2_with (first
      | (at_builtin; refine wpList_append_own _ rfl _ _ 58 rfl w.heap.size 40 i0 (.int .u64 0) 1 8 Tryz.underlying58 hi hz0 hz1 hz2 rfl (by decide) _ _ _ rfl (hown.alloc _) ⟨w.heap.size, 0, none⟩ 1 1 [.int .u64 c0] rfl rfl ?d1 ?d2 ?d3 ?d4 ?d5 ?_)
      | go_in)
    case d2 => first | rfl | (intro u hu; simp at hu; subst hu; rfl)
    case d3 => first | decide | (unfold maxLen; omega)
    · intro v' w1 hown' hgrow _
      have R := own_step (os := []) rfl hown (Below.refl _ w) (Nat.le_refl _) hown' hgrow
      have HR : Hid (Row w1 v' ([] ++ [c0])) := Row.of_owns R.1
      have HB : Hid (Below w.heap.size w w1) := R.2
      clear hown' hgrow hown R
      go_wp2_with (go_at_call 53; refine (l0trim_any ([] ++ [c0]) v' _ HR.out).mono ?_; rintro e w2 ⟨rfl, v2, rfl, hv2⟩)
      go_ret
      exact ⟨_, rfl, HB.out, Big.of_trim hv2 (fun y hy => by simp at hy; omega) (by simp [bval])⟩
/-- A row is nil and empty, or lies in a block. -/
theorem l0mul_any (ls : List Nat) (v : Value) (m c0 : Nat) (w : World) (h : Row w v ls) (hL : Lim ls) (hm : m < 4294967296) (hc : c0 < 4294967296) (hlen : ls.length < 1000000) :
    Calls Tryz.prog 72 #[v, .int .u64 m, .int .u64 c0] w fun e w' => ∃ v', e = .returned v' ∧ Below w.heap.size w w' ∧ Big w' v' (bval ls * m + c0) := by
  obtain ⟨ao, cap, rfl, h1, h2, h3⟩ := h
  rcases h3 with ⟨rfl, rfl⟩ | ⟨g, rfl, hg, hcl⟩
  · obtain rfl : ls = [] := List.length_eq_zero_iff.1 (by omega)
    refine (l0mul_nil m c0 w hc).mono ?_
    rintro e w' ⟨v', rfl, hb, hv⟩
    exact ⟨v', rfl, hb, by simpa [bval] using hv⟩
  · exact l0mul_block ls g cap m c0 w hg hcl hL hm hc hlen
end Go.Proofs.YtoedefjngipeiaaGreatDoor

/- l0pow of the specification; how many bits a number has. -/
namespace Go.Proofs.YtoedefjngipeiaaGreatDoor
open Go.ChangeShapes Go.WideShapes Go.RowKit

theorem trim_len {ls : List Nat} (ht : Trim ls) {n : Nat} (h : bval ls < 4294967296 ^ n) : ls.length ≤ n := by
  by_cases hn : ls = []
  · subst hn; exact Nat.zero_le _
  · have := Nat.lt_of_le_of_lt (trim_last ht hn).1 h
    have := (Nat.pow_lt_pow_iff_right (a := 4294967296) (by omega)).1 this
    omega
theorem Row.one (w : World) (T : Nat) (x : Nat) : Row (w.alloc (.cells #[.int .u64 x] T)) (.slice (some ⟨w.heap.size, 0, none⟩) 1 1) [x] :=
  ⟨_, 1, rfl, Nat.le_refl _, by unfold maxLen; omega, .inr ⟨_, rfl, by simp, fun t ht => by
    obtain rfl : t = 0 := by simp at ht; omega
    simp⟩⟩
theorem Big.one (w : World) (T : Nat) : Big (w.alloc (.cells #[.int .u64 1] T)) (.slice (some ⟨w.heap.size, 0, none⟩) 1 1) 1 :=
  ⟨[1], Row.one w T 1, fun y hy => by simp at hy; omega, by simp [Trim, btrim], by simp [bval]⟩
/-- l0mul over a big number. -/
theorem l0mul_big (v : Value) (A m c0 n : Nat) (w : World) (h : Big w v A) (hA : A < 4294967296 ^ n) (hn : n < 1000000) (hm : m < 4294967296) (hc : c0 < 4294967296) :
    Calls Tryz.prog 72 #[v, .int .u64 m, .int .u64 c0] w fun e w' => ∃ v', e = .returned v' ∧ Below w.heap.size w w' ∧ Big w' v' (A * m + c0) := by
  obtain ⟨ls, h1, h2, h3, rfl⟩ := h
  exact l0mul_any ls v m c0 w h1 h2 hm hc (Nat.lt_of_le_of_lt (trim_len h3 hA) hn)
theorem pow_small (b k : Nat) (h : b < 4294967296) : b ^ k < 4294967296 ^ (k + 1) :=
  Nat.lt_of_le_of_lt (Nat.pow_le_pow_left (Nat.le_of_lt h) k) (Nat.pow_lt_pow_right (by omega) (by omega))

set_option maxHeartbeats 1600000 in
set_option maxRecDepth 100000 in
theorem l0pow_any (b n : Nat) (w : World) (hb : b < 4294967296) (hn : n < 900000) :
    Calls Tryz.prog 50 #[.int .u64 b, .int .i64 n] w fun e w' => ∃ v', e = .returned v' ∧ Below w.heap.size w w' ∧ Big w' v' (b ^ n) := by
  go_enter Tryz.func50, Tryz.ntmps50
  go_wp2
  go_loopw [1, 5] (fun nv v wr => ∃ k : Nat, k ≤ n ∧ nv = .int .i64 ((n : Int) - k) ∧ Hid (Big wr v (b ^ k)) ∧ Below w.heap.size w wr) (fun nv _ _ => (intOf nv).toNat)
  case atStart => exact ⟨0, Nat.zero_le _, by simp, Big.one w _, (Below.refl _ _).alloc (Nat.le_refl _) _⟩
  case round =>
    obtain ⟨k, hk, rfl, HB, hbe⟩ := hrel
    have hsz := hbe.size
    by_cases hlt : k < n
    · go_wp2_with (go_at_call 72; refine (l0mul_big _ (b ^ k) b 0 (k + 1) _ HB.out (pow_small b k hb) (by omega) hb (by omega)).mono ?_; rintro e w2 ⟨v2, rfl, hb2, hv2⟩)
      go_roundw
      case rel => exact ⟨k + 1, by omega, by rw [show (n : Int) - ((k + 1 : Nat) : Int) = n - k - 1 by omega], hv2, hbe.trans (hb2.mono hsz)⟩
      case measure => simp only [intOf]; omega
    · obtain rfl : k = n := by omega
      go_wp2
      go_ret
      exact ⟨_, rfl, hbe, HB.out⟩

/-- How many bits a number has. -/
def Bits (A n : Nat) : Prop := (A = 0 ∧ n = 0) ∨ (0 < n ∧ 2 ^ (n - 1) ≤ A ∧ A < 2 ^ n)
theorem pow32 (n : Nat) : 4294967296 ^ n = 2 ^ (32 * n) := by rw [Nat.pow_mul]
theorem bits_top (ls : List Nat) (hl : Lim ls) (hn : ls ≠ []) (j : Nat) (h0 : 0 < j) (h1 : 2 ^ (j - 1) ≤ ls.getD (ls.length - 1) 0) (h2 : ls.getD (ls.length - 1) 0 < 2 ^ j) :
    Bits (bval ls) (32 * (ls.length - 1) + j) := by
  have hlen : 0 < ls.length := List.length_pos_iff.2 hn
  have hv := take_val ls (ls.length - 1) (by omega)
  rw [show ls.length - 1 + 1 = ls.length by omega, List.take_length] at hv
  have hlow : bval (ls.take (ls.length - 1)) < 4294967296 ^ (ls.length - 1) := by
    have := bval_lt (a := ls.take (ls.length - 1)) fun x hx => hl x (List.mem_of_mem_take hx)
    rw [List.length_take, Nat.min_eq_left (by omega)] at this
    exact this
  rw [hv]
  generalize ls.getD (ls.length - 1) 0 = t at *
  generalize bval (ls.take (ls.length - 1)) = low at *
  rw [pow32] at *
  generalize hq : 32 * (ls.length - 1) = q at *
  refine .inr ⟨by omega, ?_, ?_⟩
  · rw [show q + j - 1 = q + (j - 1) by omega, Nat.pow_add]
    have := Nat.mul_le_mul_left (2 ^ q) h1
    omega
  · rw [Nat.pow_add]
    have := Nat.mul_le_mul_left (2 ^ q) (show t + 1 ≤ 2 ^ j by omega)
    rw [Nat.mul_add, Nat.mul_one] at this
    omega
theorem half_again (t j : Nat) : t / 2 ^ j / 2 = t / 2 ^ (j + 1) := by rw [Nat.pow_succ, Nat.div_div_eq_div_mul]
theorem half_cast (t j : Nat) : ((t / 2 ^ j : Nat) : Int) / 2 = ((t / 2 ^ (j + 1) : Nat) : Int) := by rw [← half_again]; omega
theorem few_halves32 (t j : Nat) (ht : t < 4294967296) (h : 0 < t / 2 ^ j) : j < 32 := by
  apply Classical.byContradiction
  intro hj
  have : (2 : Nat) ^ 32 ≤ 2 ^ j := Nat.pow_le_pow_right (by omega) (by omega)
  have e : (2 : Nat) ^ 32 = 4294967296 := rfl
  rw [Nat.div_eq_of_lt (by omega)] at h
  omega
end Go.Proofs.YtoedefjngipeiaaGreatDoor

/- l0shl of the specification. -/
namespace Go.Proofs.YtoedefjngipeiaaGreatDoor
open Go.ChangeShapes Go.WideShapes Go.RowKit

theorem lim_get {ls : List Nat} (h : Lim ls) (k : Nat) : ls.getD k 0 < 4294967296 := by
  by_cases hk : k < ls.length
  · have : ls.getD k 0 = ls[k] := by simp [List.getElem?_eq_getElem hk]
    rw [this]; exact h _ (List.getElem_mem hk)
  · have : ls.getD k 0 = 0 := by simp [List.getElem?_eq_none (Nat.le_of_not_lt hk)]
    omega
theorem zeros_snoc (i : Nat) : List.replicate i 0 ++ [0] = List.replicate (i + 1) (0 : Nat) := List.replicate_succ'.symm
theorem bval_zeros (i : Nat) : bval (List.replicate i 0) = 0 := by
  induction i with
  | zero => rfl
  | succ i ih => simp [List.replicate_succ, bval, ih]
theorem shifted_lim (q : Nat) {ls : List Nat} (h : Lim ls) : Lim (List.replicate q 0 ++ ls) := by
  intro x hx
  rcases List.mem_append.1 hx with h1 | h1
  · rw [List.eq_of_mem_replicate h1]; omega
  · exact h x h1
theorem shifted_val (k : Nat) (ls : List Nat) : bval (List.replicate (k / 32) 0 ++ ls) * 2 ^ (k % 32) + 0 = bval ls * 2 ^ k := by
  rw [bval_append, bval_zeros, List.length_replicate, pow32, Nat.zero_add, Nat.add_zero]
  conv => rhs; rw [show k = 32 * (k / 32) + k % 32 by omega, Nat.pow_add]
  rw [Nat.mul_comm (2 ^ (32 * (k / 32))) (bval ls), Nat.mul_assoc]
theorem shl_one (r : Nat) (h : r < 32) : IntKind.u64.wrap (2 ^ r) = ((2 ^ r : Nat) : Int) ∧ 2 ^ r < 4294967296 := by
  have h1 : 2 ^ r < 2 ^ 32 := Nat.pow_lt_pow_right (by omega) h
  have e : (2 : Nat) ^ 32 = 4294967296 := rfl
  have c : (2 : Int) ^ r = ((2 ^ r : Nat) : Int) := (Int.natCast_pow 2 r).symm
  rw [c]
  generalize 2 ^ r = z at *
  refine ⟨?_, by omega⟩
  rw [IntKind.wrap_u64]; omega

set_option maxHeartbeats 1600000 in
set_option maxRecDepth 100000 in
theorem l0shl_any (ls : List Nat) (v : Value) (k : Nat) (w : World) (h : Row w v ls) (hL : Lim ls) (hlen : ls.length < 500000) (hk : k < 1000000) :
    Calls Tryz.prog 48 #[v, .int .i64 k] w fun e w' => ∃ v', e = .returned v' ∧ Below w.heap.size w w' ∧ Big w' v' (bval ls * 2 ^ k) := by
  obtain ⟨i0, hi, hz0, hz1, hz2⟩ := info_parts Tryz.infoU
  obtain ⟨ao, cap, rfl, h1, h2, h3⟩ := h
  have H3 : Hid _ := h3
  have HL : Hid (Lim ls) := hL
  have HC : Hid (ls.length ≤ cap) := h1
  clear h1 h2 h3 hL
  go_enter Tryz.func48, Tryz.ntmps48
  go_wp2
  go_loopw [5, 6] (fun v i wr => ∃ j : Nat, j ≤ k / 32 ∧ i = .int .i64 j ∧ wr.ownsRow w.heap.size 40 1 v j ((List.replicate j (0 : Nat)).map fun x => Value.int .u64 (x : Nat)) ∧ Below w.heap.size w wr) (fun _ i _ => k / 32 - (intOf i).toNat)
  case atStart => exact ⟨0, Nat.zero_le _, rfl, World.ownsRow_nil _ _ _ _, Below.refl _ _⟩
  case round =>
    obtain ⟨j, hj, rfl, hown, hbe⟩ := hrel
    have hdiv : (k : Int).tdiv 32 = ((k / 32 : Nat) : Int) := by rw [Int.tdiv_eq_ediv_of_nonneg (by omega)]; rfl
    by_cases hlt : j < k / 32
    · go_wp2_with (first
        | (at_builtin; refine wpList_append_own _ rfl _ _ 58 rfl w.heap.size 40 i0 (.int .u64 0) 1 8 Tryz.underlying58 hi hz0 hz1 hz2 rfl (by decide) _ _ _ rfl (hown.alloc _) ⟨wr.heap.size, 0, none⟩ 1 1 [.int .u64 ((0 : Nat) : Int)] rfl rfl ?c1 ?c2 ?c3 ?c4 ?c5 ?_)
        | go_in)
      case c1 =>
        intro j u hj
        match j, hj with
        | 0, hj => simp at hj; subst hj; simp [Addr.add]
      case c2 => intro u hu; simp at hu; subst hu; rfl
      case c3 => unfold maxLen; omega
      case c4 => omega
      case c5 => have := hbe.size; simp; omega
      · intro v' w1 hown' hgrow _
        have R := own_step (os := List.replicate j 0) (r := 0) (by simp) hown hbe (Nat.le_refl _) (by simpa using hown') hgrow
        rw [zeros_snoc] at R
        clear hown' hgrow hown
        go_wp2
        go_roundw
        case rel => exact ⟨j + 1, by omega, by simp, by simpa using R.1, R.2⟩
        case measure => simp [intOf]; omega
    · obtain rfl : j = k / 32 := by omega
      generalize hq : k / 32 = q at *
      go_wp2
      go_loopw [5, 20] (fun v i wr => ∃ t : Nat, t ≤ ls.length ∧ i = .int .i64 t ∧ wr.ownsRow w.heap.size 40 1 v (q + t) ((List.replicate q (0 : Nat) ++ ls.take t).map fun x => Value.int .u64 (x : Nat)) ∧ Below w.heap.size w wr) (fun _ i _ => ls.length - (intOf i).toNat)
      case atStart => exact ⟨0, Nat.zero_le _, rfl, by simpa using hown, hbe⟩
      case round =>
        clear hown hbe
        obtain ⟨t, ht, rfl, hown, hbe⟩ := hrel
        by_cases hlt2 : t < ls.length
        · obtain ⟨g, rfl, hg, hcl⟩ : ∃ g, ao = some ⟨g, 0, none⟩ ∧ g < w.heap.size ∧ ∀ t, t < ls.length → w.cell? ⟨g, t, none⟩ = some (.int .u64 (ls.getD t 0 : Nat)) := by
            rcases H3.out with ⟨_, h⟩ | h
            · have := HC.out; omega
            · exact h
          have hx : wr.cell? ⟨g, t, none⟩ = some (.int .u64 (ls.getD t 0 : Nat)) := (hbe.cell hg).trans (hcl t hlt2)
          have HS : Hid _ := part_snoc ls t hlt2
          clear hcl
          generalize ls.getD t 0 = x at *
          go_wp2_with (first
            | (at_builtin; refine wpList_append_own _ rfl _ _ 58 rfl w.heap.size 40 i0 (.int .u64 0) 1 8 Tryz.underlying58 hi hz0 hz1 hz2 rfl (by decide) _ _ _ rfl (hown.alloc _) ⟨wr.heap.size, 0, none⟩ 1 1 [.int .u64 x] rfl rfl ?e1 ?e2 ?e3 ?e4 ?e5 ?_)
            | go_in)
          case e1 =>
            intro j u hj
            match j, hj with
            | 0, hj => simp at hj; subst hj; simp [Addr.add]
          case e2 => intro u hu; simp at hu; subst hu; rfl
          case e3 => unfold maxLen; omega
          case e4 => omega
          case e5 => have := hbe.size; simp; omega
          · intro v' w1 hown' hgrow _
            have R := own_step (os := List.replicate q 0 ++ ls.take t) (r := x) (n := q + t) (by simp; omega) hown hbe (Nat.le_refl _) (by simpa [List.map_append] using hown') hgrow
            rw [List.append_assoc, ← HS.out] at R
            have RL : (List.replicate q 0 ++ ls.take (t + 1)).length = q + (t + 1) := by simp; omega
            rw [RL] at R
            clear hown' hgrow hown
            go_wp2
            go_roundw
            case rel => exact ⟨t + 1, by omega, by simp, R.1, R.2⟩
            case measure => simp [intOf]; omega
        · obtain rfl : t = ls.length := by omega
          rw [List.take_length] at hown
          have hsz := hbe.size
          have HR : Hid (Row wr u5 (List.replicate q 0 ++ ls)) := Row.of_owns (by simpa using hown)
          have HM : Hid (Lim (List.replicate q 0 ++ ls)) := shifted_lim q HL.out
          have hmod : (k : Int).tmod 32 = ((k % 32 : Nat) : Int) := by rw [Int.tmod_eq_emod_of_nonneg (by omega)]; rfl
          have hr : k % 32 < 32 := Nat.mod_lt _ (by omega)
          obtain ⟨s1, s2⟩ := shl_one (k % 32) hr
          have HV : Hid _ := shifted_val k ls
          rw [hq] at HV
          generalize hr2 : k % 32 = r at *
          clear hown
          go_wp2_with (go_at_call 72; refine (l0mul_any (List.replicate q 0 ++ ls) _ (2 ^ r) 0 _ HR.out HM.out s2 (by omega) (by simp; omega)).mono ?_; rintro e w2 ⟨v2, rfl, hb2, hv2⟩)
          go_ret
          exact ⟨_, rfl, hbe.trans (hb2.mono hsz), by rw [← HV.out]; exact hv2⟩
/-- l0shl over a big number. -/
theorem l0shl_big (v : Value) (A n k : Nat) (w : World) (h : Big w v A) (hA : A < 4294967296 ^ n) (hn : n < 500000) (hk : k < 1000000) :
    Calls Tryz.prog 48 #[v, .int .i64 k] w fun e w' => ∃ v', e = .returned v' ∧ Below w.heap.size w w' ∧ Big w' v' (A * 2 ^ k) := by
  obtain ⟨ls, h1, h2, h3, rfl⟩ := h
  exact l0shl_any ls v k w h1 h2 (Nat.lt_of_le_of_lt (trim_len h3 hA) hn) hk
end Go.Proofs.YtoedefjngipeiaaGreatDoor

