import Derived.Test.YtapiifeklimncaaDoorA25
import Derived.Test.YtapiifeklimncaaDoorA22
import Derived.Test.YtapiifeklimncaaDoorA03
import Derived.WalkSmall
/- l4big of the specification: digits as a big number. -/
namespace Go.Proofs.YtapiifeklimncaaDoor
open Go.ChangeShapes Go.WideShapes Go.RowKit

set_option maxHeartbeats 1600000 in
set_option maxRecDepth 100000 in
theorem l4big_any (s : ByteArray) (b : Nat) (w : World) (hs : s.size < 900000) (hb : b ≤ 4000000000) :
    Calls Tryd.prog 20 #[.string s, .int .u64 (b : Int)] w fun e w' => ∃ v', e = .returned v' ∧ Below w.heap.size w w' ∧ Big w' v' (valN b s.data.toList) := by
  have HL : Hid _ := fun k => valN_take_lt b hb s k
  go_enter Tryd.func20, Tryd.ntmps20
  go_wp2
  go_loopw [5, 6] (fun v i wr => ∃ k : Nat, i = .int .i64 (k : Int) ∧ k ≤ s.size ∧ Hid (Big wr v (valN b (s.data.toList.take k))) ∧ Below w.heap.size w wr) (fun _ i _ => (s.size - (intOf i).toNat))
  case atStart => exact ⟨0, rfl, Nat.zero_le _, by show Big _ _ _; rw [List.take_zero]; exact ⟨[], Row.nil w, fun _ h => absurd h (by simp), rfl, by simp [bval, valN, val]⟩, Below.refl _ _⟩
  case round =>
    obtain ⟨k, rfl, hk, HV, hbe⟩ := hrel
    have hsz := hbe.size
    by_cases hlt : k < s.size
    · obtain ⟨d, hd⟩ : ∃ d : Nat, (d : Int) = digN 99 (s[k].toNat : Int) := ⟨(digN 99 (s[k].toNat : Int)).toNat, Int.toNat_of_nonneg (digN_lo 99 _ (by omega))⟩
      have hd99 : (d : Int) ≤ 99 := by rw [hd]; exact digN_hi 99 _ (by omega)
      have HD : Hid (∀ w, Calls Tryd.prog 19 #[.int .u8 (s[k].toNat : Int)] w fun e w' => e = .returned (.int .i64 (d : Int)) ∧ w' = w) := fun w => by
        have h := specDigit_byte s[k] w
        rw [← hd] at h
        exact h
      have HS : Hid _ := valN_step b s k hlt d hd
      have HM : Hid _ := fun v wr (hb' : Big wr v (valN b (s.data.toList.take k))) => l0mul_big v (valN b (s.data.toList.take k)) b d s.size wr hb' (HL.out k) (by omega) (by omega) (by omega)
      clear hd
      go_wp2_with (first
        | (go_at_call 19; refine (HD.out _).mono ?_; rintro e w' ⟨rfl, rfl⟩)
        | (go_at_call 31; refine (HM.out _ _ HV.out).mono ?_; rintro e w3 ⟨v3, rfl, hb3, hv3⟩))
      go_roundw
      case rel => exact ⟨k + 1, by simp, by omega, by show Big _ _ _; rw [HS.out]; exact hv3, hbe.trans (hb3.mono hsz)⟩
      case measure => simp only [intOf]; omega
    · obtain rfl : k = s.size := by omega
      have e : s.data.toList.take s.size = s.data.toList := List.take_of_length_le (by simp)
      have HV' : Hid _ := fun (_ : Unit) => HV.out
      rw [e] at HV'
      go_wp2
      go_ret
      exact ⟨_, rfl, hbe, HV'.out ()⟩
end Go.Proofs.YtapiifeklimncaaDoor

/- l0shl of the specification. -/
namespace Go.Proofs.YtapiifeklimncaaDoor
open Go.ChangeShapes Go.WideShapes Go.RowKit

theorem lim_get {ls : List Nat} (h : Lim ls) (k : Nat) : ls.getD k 0 < 4294967296 := by
  by_cases hk : k < ls.length
  · have : ls.getD k 0 = ls[k] := by simp [List.getElem?_eq_getElem hk]
    rw [this]; exact h _ (List.getElem_mem hk)
  · have : ls.getD k 0 = 0 := by simp [List.getElem?_eq_none (Nat.le_of_not_lt hk)]
    omega
theorem zeros_snoc (i : Nat) : List.replicate i 0 ++ [0] = List.replicate (i + 1) (0 : Nat) := List.replicate_succ'.symm
theorem bval_zeros (i : Nat) : bval (List.replicate i 0) = 0 := by
  induction i with
  | zero => rfl
  | succ i ih => simp [List.replicate_succ, bval, ih]
theorem shifted_lim (q : Nat) {ls : List Nat} (h : Lim ls) : Lim (List.replicate q 0 ++ ls) := by
  intro x hx
  rcases List.mem_append.1 hx with h1 | h1
  · rw [List.eq_of_mem_replicate h1]; omega
  · exact h x h1
theorem shifted_val (k : Nat) (ls : List Nat) : bval (List.replicate (k / 32) 0 ++ ls) * 2 ^ (k % 32) + 0 = bval ls * 2 ^ k := by
  rw [bval_append, bval_zeros, List.length_replicate, pow32, Nat.zero_add, Nat.add_zero]
  conv => rhs; rw [show k = 32 * (k / 32) + k % 32 by omega, Nat.pow_add]
  rw [Nat.mul_comm (2 ^ (32 * (k / 32))) (bval ls), Nat.mul_assoc]
theorem shl_one (r : Nat) (h : r < 32) : IntKind.u64.wrap (2 ^ r) = ((2 ^ r : Nat) : Int) ∧ 2 ^ r < 4294967296 := by
  have h1 : 2 ^ r < 2 ^ 32 := Nat.pow_lt_pow_right (by omega) h
  have e : (2 : Nat) ^ 32 = 4294967296 := rfl
  have c : (2 : Int) ^ r = ((2 ^ r : Nat) : Int) := (Int.natCast_pow 2 r).symm
  rw [c]
  generalize 2 ^ r = z at *
  refine ⟨?_, by omega⟩
  rw [IntKind.wrap_u64]; omega

set_option maxHeartbeats 1600000 in
set_option maxRecDepth 100000 in
theorem l0shl_any (ls : List Nat) (v : Value) (k : Nat) (w : World) (h : Row w v ls) (hL : Lim ls) (hlen : ls.length < 500000) (hk : k < 1000000) :
    Calls Tryd.prog 23 #[v, .int .i64 k] w fun e w' => ∃ v', e = .returned v' ∧ Below w.heap.size w w' ∧ Big w' v' (bval ls * 2 ^ k) := by
  obtain ⟨i0, hi, hz0, hz1, hz2⟩ := info_parts Tryd.infoU
  obtain ⟨ao, cap, rfl, h1, h2, h3⟩ := h
  have H3 : Hid _ := h3
  have HL : Hid (Lim ls) := hL
  have HC : Hid (ls.length ≤ cap) := h1
  clear h1 h2 h3 hL
  go_enter Tryd.func23, Tryd.ntmps23
  go_wp2
  go_loopw [5, 6] (fun v i wr => ∃ j : Nat, j ≤ k / 32 ∧ i = .int .i64 j ∧ wr.ownsRow w.heap.size 52 1 v j ((List.replicate j (0 : Nat)).map fun x => Value.int .u64 (x : Nat)) ∧ Below w.heap.size w wr) (fun _ i _ => k / 32 - (intOf i).toNat)
  case atStart => exact ⟨0, Nat.zero_le _, rfl, World.ownsRow_nil _ _ _ _, Below.refl _ _⟩
  case round =>
    obtain ⟨j, hj, rfl, hown, hbe⟩ := hrel
    have hdiv : (k : Int).tdiv 32 = ((k / 32 : Nat) : Int) := by rw [Int.tdiv_eq_ediv_of_nonneg (by omega)]; rfl
    by_cases hlt : j < k / 32
    · go_wp2_with (first
        | (at_builtin; refine wpList_append_own _ rfl _ _ 50 rfl w.heap.size 52 i0 (.int .u64 0) 1 8 Tryd.underlying50 hi hz0 hz1 hz2 rfl (by decide) _ _ _ rfl (hown.alloc _) ⟨wr.heap.size, 0, none⟩ 1 1 [.int .u64 ((0 : Nat) : Int)] rfl rfl ?c1 ?c2 ?c3 ?c4 ?c5 ?_)
        | go_in)
      case c1 =>
        intro j u hj
        match j, hj with
        | 0, hj => simp at hj; subst hj; simp [Addr.add]
      case c2 => intro u hu; simp at hu; subst hu; rfl
      case c3 => unfold maxLen; omega
      case c4 => omega
      case c5 => have := hbe.size; simp; omega
      · intro v' w1 hown' hgrow _
        have R := own_step (os := List.replicate j 0) (r := 0) (by simp) hown hbe (Nat.le_refl _) (by simpa using hown') hgrow
        rw [zeros_snoc] at R
        clear hown' hgrow hown
        go_wp2
        go_roundw
        case rel => exact ⟨j + 1, by omega, by simp, by simpa using R.1, R.2⟩
        case measure => simp [intOf]; omega
    · obtain rfl : j = k / 32 := by omega
      generalize hq : k / 32 = q at *
      go_wp2
      go_loopw [5, 20] (fun v i wr => ∃ t : Nat, t ≤ ls.length ∧ i = .int .i64 t ∧ wr.ownsRow w.heap.size 52 1 v (q + t) ((List.replicate q (0 : Nat) ++ ls.take t).map fun x => Value.int .u64 (x : Nat)) ∧ Below w.heap.size w wr) (fun _ i _ => ls.length - (intOf i).toNat)
      case atStart => exact ⟨0, Nat.zero_le _, rfl, by simpa using hown, hbe⟩
      case round =>
        clear hown hbe
        obtain ⟨t, ht, rfl, hown, hbe⟩ := hrel
        by_cases hlt2 : t < ls.length
        · obtain ⟨g, rfl, hg, hcl⟩ : ∃ g, ao = some ⟨g, 0, none⟩ ∧ g < w.heap.size ∧ ∀ t, t < ls.length → w.cell? ⟨g, t, none⟩ = some (.int .u64 (ls.getD t 0 : Nat)) := by
            rcases H3.out with ⟨_, h⟩ | h
            · have := HC.out; omega
            · exact h
          have hx : wr.cell? ⟨g, t, none⟩ = some (.int .u64 (ls.getD t 0 : Nat)) := (hbe.cell hg).trans (hcl t hlt2)
          have HS : Hid _ := part_snoc ls t hlt2
          clear hcl
          generalize ls.getD t 0 = x at *
          go_wp2_with (first
            | (at_builtin; refine wpList_append_own _ rfl _ _ 50 rfl w.heap.size 52 i0 (.int .u64 0) 1 8 Tryd.underlying50 hi hz0 hz1 hz2 rfl (by decide) _ _ _ rfl (hown.alloc _) ⟨wr.heap.size, 0, none⟩ 1 1 [.int .u64 x] rfl rfl ?e1 ?e2 ?e3 ?e4 ?e5 ?_)
            | go_in)
          case e1 =>
            intro j u hj
            match j, hj with
            | 0, hj => simp at hj; subst hj; simp [Addr.add]
          case e2 => intro u hu; simp at hu; subst hu; rfl
          case e3 => unfold maxLen; omega
          case e4 => omega
          case e5 => have := hbe.size; simp; omega
          · intro v' w1 hown' hgrow _
            have R := own_step (os := List.replicate q 0 ++ ls.take t) (r := x) (n := q + t) (by simp; omega) hown hbe (Nat.le_refl _) (by simpa [List.map_append] using hown') hgrow
            rw [List.append_assoc, ← HS.out] at R
            have RL : (List.replicate q 0 ++ ls.take (t + 1)).length = q + (t + 1) := by simp; omega
            rw [RL] at R
            clear hown' hgrow hown
            go_wp2
            go_roundw
            case rel => exact ⟨t + 1, by omega, by simp, R.1, R.2⟩
            case measure => simp [intOf]; omega
        · obtain rfl : t = ls.length := by omega
          rw [List.take_length] at hown
          have hsz := hbe.size
          have HR : Hid (Row wr u5 (List.replicate q 0 ++ ls)) := Row.of_owns (by simpa using hown)
          have HM : Hid (Lim (List.replicate q 0 ++ ls)) := shifted_lim q HL.out
          have hmod : (k : Int).tmod 32 = ((k % 32 : Nat) : Int) := by rw [Int.tmod_eq_emod_of_nonneg (by omega)]; rfl
          have hr : k % 32 < 32 := Nat.mod_lt _ (by omega)
          obtain ⟨s1, s2⟩ := shl_one (k % 32) hr
          have HV : Hid _ := shifted_val k ls
          rw [hq] at HV
          generalize hr2 : k % 32 = r at *
          clear hown
          go_wp2_with (go_at_call 31; refine (l0mul_any (List.replicate q 0 ++ ls) _ (2 ^ r) 0 _ HR.out HM.out s2 (by omega) (by simp; omega)).mono ?_; rintro e w2 ⟨v2, rfl, hb2, hv2⟩)
          go_ret
          exact ⟨_, rfl, hbe.trans (hb2.mono hsz), by rw [← HV.out]; exact hv2⟩
/-- l0shl over a big number. -/
theorem l0shl_big (v : Value) (A n k : Nat) (w : World) (h : Big w v A) (hA : A < 4294967296 ^ n) (hn : n < 500000) (hk : k < 1000000) :
    Calls Tryd.prog 23 #[v, .int .i64 k] w fun e w' => ∃ v', e = .returned v' ∧ Below w.heap.size w w' ∧ Big w' v' (A * 2 ^ k) := by
  obtain ⟨ls, h1, h2, h3, rfl⟩ := h
  exact l0shl_any ls v k w h1 h2 (Nat.lt_of_le_of_lt (trim_len h3 hA) hn) hk
end Go.Proofs.YtapiifeklimncaaDoor

/- what l0cmp, l0sub and l0add want. -/
namespace Go.Proofs.YtapiifeklimncaaDoor
open Go.ChangeShapes Go.WideShapes Go.RowKit

/-- Order as a number. -/
def cmpI (a b : Nat) : Int := if a < b then -1 else if b < a then 1 else 0
theorem cmpI_lt {a b : Nat} (h : a < b) : cmpI a b = -1 := if_pos h
theorem cmpI_gt {a b : Nat} (h : b < a) : cmpI a b = 1 := by unfold cmpI; rw [if_neg (by omega), if_pos h]
theorem cmpI_eq {a b : Nat} (h : a = b) : cmpI a b = 0 := by unfold cmpI; rw [if_neg (by omega), if_neg (by omega)]
theorem len_lt {a b : List Nat} (hl : Lim a) (ht : Trim b) (h : a.length < b.length) : bval a < bval b := by
  have h1 := bval_lt hl
  have hb : b ≠ [] := by rintro rfl; simp at h
  have h2 := (trim_last ht hb).1
  have h3 : 4294967296 ^ a.length ≤ 4294967296 ^ (b.length - 1) := Nat.pow_le_pow_right (by omega) (by omega)
  omega
theorem bval_split (a : List Nat) (k : Nat) (h : k ≤ a.length) : bval a = bval (a.take k) + 4294967296 ^ k * bval (a.drop k) := by
  have := bval_append (a.take k) (a.drop k)
  rw [List.take_append_drop, List.length_take, Nat.min_eq_left h] at this
  exact this
theorem take_lt {a : List Nat} (hl : Lim a) (k : Nat) (h : k ≤ a.length) : bval (a.take k) < 4294967296 ^ k := by
  have := bval_lt (a := a.take k) fun x hx => hl x (List.mem_of_mem_take hx)
  rw [List.length_take, Nat.min_eq_left h] at this
  exact this
theorem parts_lt {a b : List Nat} (hl : Lim a) (h : a.length = b.length) (k : Nat) (hk : k < a.length) (hd : a.drop (k + 1) = b.drop (k + 1)) (hx : a.getD k 0 < b.getD k 0) : bval a < bval b := by
  rw [bval_split a (k + 1) (by omega), bval_split b (k + 1) (by omega), hd, take_val a k hk, take_val b k (by omega)]
  have h1 := take_lt hl k (by omega)
  have h2 := Nat.mul_le_mul_left (4294967296 ^ k) (show a.getD k 0 + 1 ≤ b.getD k 0 from hx)
  rw [Nat.mul_add, Nat.mul_one] at h2
  generalize 4294967296 ^ k * a.getD k 0 = p at *
  generalize 4294967296 ^ k * b.getD k 0 = q at *
  omega
theorem drop_eq {a b : List Nat} (h : a.length = b.length) (k : Nat) (hk : k < a.length) (hd : a.drop (k + 1) = b.drop (k + 1)) (hx : a.getD k 0 = b.getD k 0) : a.drop k = b.drop k := by
  rw [List.drop_eq_getElem_cons hk, List.drop_eq_getElem_cons (show k < b.length by omega), hd]
  simp [List.getElem?_eq_getElem hk, List.getElem?_eq_getElem (show k < b.length by omega)] at hx
  rw [hx]
/-- A row of some parts lies in a block. -/
theorem Row.block {w : World} {ao : Option Addr} {cap : Nat} {ls : List Nat} (h1 : ls.length ≤ cap)
    (h : (ao = none ∧ cap = 0) ∨ ∃ g, ao = some ⟨g, 0, none⟩ ∧ g < w.heap.size ∧ ∀ t, t < ls.length → w.cell? ⟨g, t, none⟩ = some (.int .u64 (ls.getD t 0 : Nat))) {t : Nat} (ht : t < ls.length) :
    ∃ g, ao = some ⟨g, 0, none⟩ ∧ g < w.heap.size ∧ ∀ t, t < ls.length → w.cell? ⟨g, t, none⟩ = some (.int .u64 (ls.getD t 0 : Nat)) := by
  rcases h with ⟨_, h⟩ | h
  · omega
  · exact h

end Go.Proofs.YtapiifeklimncaaDoor

