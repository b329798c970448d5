import Derived.Test.YtoedefjngipeiaaGreatDoorA09
import Derived.Test.YtoedefjngipeiaaGreatDoorA06
import Derived.Test.YtoedefjngipeiaaGreatDoorA08
import Derived.Deep.AppendLies
import Derived.Laws.IdiomStrings
/- The rounds of l0digits: plain. -/
namespace Go.Proofs.YtoedefjngipeiaaGreatDoor
open Go.RowKit

/-- Nine digits at a time. -/
theorem nine_round (r k : Nat) (ks : List Nat) (hl : ks.length = k) (ht : Ten ks) (hv : dval ks = r % 10 ^ k) :
    Ten (ks ++ [r / 10 ^ k % 10]) ∧ dval (ks ++ [r / 10 ^ k % 10]) = r % 10 ^ (k + 1) ∧ r / 10 ^ k / 10 = r / 10 ^ (k + 1) := by
  refine ⟨ten_snoc ht (Nat.mod_lt _ (by omega)), ?_, ?_⟩
  · rw [dval_snoc, hv, hl, Nat.mod_pow_succ]
  · rw [Nat.pow_succ, Nat.div_div_eq_div_mul]
/-- A round of the division by 10^9. -/
theorem div_round (ls qs : List Nat) (k rest : Nat) (hk : k < ls.length) (hx : ls.getD k 0 < 4294967296) (hr : rest < 1000000000)
    (hv : bval (ls.drop (k + 1)) = 1000000000 * bval qs + rest) :
    (rest * 4294967296 + ls.getD k 0) / 1000000000 < 4294967296 ∧ (rest * 4294967296 + ls.getD k 0) % 1000000000 < 1000000000
    ∧ bval (ls.drop k) = 1000000000 * bval ((rest * 4294967296 + ls.getD k 0) / 1000000000 :: qs) + (rest * 4294967296 + ls.getD k 0) % 1000000000 := by
  have hd : bval (ls.drop k) = ls.getD k 0 + 4294967296 * bval (ls.drop (k + 1)) := by
    rw [List.drop_eq_getElem_cons hk]
    simp [bval, List.getElem?_eq_getElem hk]
  generalize ls.getD k 0 = x at *
  refine ⟨by omega, by omega, ?_⟩
  rw [hd, hv]
  simp only [bval]
  have := Nat.div_add_mod (rest * 4294967296 + x) 1000000000
  omega
/-- One round of l0digits, and what is left. -/
theorem digits_round (A Aj Q R : Nat) (os ks : List Nat) (hk : ks.length = 9) (hv : dval ks = R % 10 ^ 9) (hR : R < 1000000000) (hA : Aj = 1000000000 * Q + R)
    (h : dval os + 10 ^ os.length * Aj = A) : dval (os ++ ks) + 10 ^ (os ++ ks).length * Q = A := by
  have e : (10 : Nat) ^ 9 = 1000000000 := rfl
  rw [e, Nat.mod_eq_of_lt hR] at hv
  rw [dval_append, hv, List.length_append, hk, Nat.pow_add, e, ← h, hA, Nat.mul_add, Nat.mul_assoc]
  omega
/-- There are not so many digits. -/
theorem digits_few (A Aj n : Nat) (os : List Nat) (h0 : 0 < Aj) (hA : A < 4294967296 ^ n) (h : dval os + 10 ^ os.length * Aj = A) : os.length < 32 * n ∧ os.length < A := by
  have h1 : 10 ^ os.length ≤ A := by
    have : 10 ^ os.length * 1 ≤ 10 ^ os.length * Aj := Nat.mul_le_mul_left _ h0
    omega
  have h2 : 2 ^ os.length ≤ 10 ^ os.length := Nat.pow_le_pow_left (by omega) _
  have e : 4294967296 ^ n = 2 ^ (32 * n) := by rw [Nat.pow_mul]
  rw [e] at hA
  constructor
  · exact (Nat.pow_lt_pow_iff_right (by omega)).1 (Nat.lt_of_le_of_lt h2 (Nat.lt_of_le_of_lt h1 hA))
  · have h3 : os.length < 2 ^ os.length := Nat.lt_two_pow_self
    omega
/-- Zeros at the end are left out. -/
theorem strip_round (os : List Nat) (k : Nat) (h : k < os.length) (hz : os.getD k 0 = 0) (hv : dval os = dval (os.take (k + 1))) : dval os = dval (os.take k) := by
  rw [hv, part_snoc os k h, hz, dval_snoc]; omega
/-- The text of digits, as what is read of it. -/
theorem isDec_of (ds : List Nat) (A : Nat) (s : ByteArray) (ht : Ten ds) (hv : dval ds = A) (hs : s.data.toList = dtxt ds) (hz : ∀ k, ds.length = k + 1 → ds.getD k 0 ≠ 0) : IsDec s A := by
  refine ⟨by rw [hs]; exact good_dtxt ds ht, by rw [hs, valN_dtxt ds ht, hv], ?_⟩
  intro h
  have hl : ds.length = s.size := by rw [← data_len s, hs, dtxt_length]
  obtain ⟨k, hk⟩ : ∃ k, ds.length = k + 1 := ⟨ds.length - 1, by omega⟩
  have e : s[0] = dchr (ds.getD k 0) := by
    have e1 : s[0] = s.data.toList[0]'(by rw [data_len]; exact h) := by simp [ByteArray.getElem_eq_getElem_data]
    rw [e1]
    simp only [hs, dtxt]
    rw [List.getElem_map, List.getElem_reverse]
    congr 1
    simp [hk]
  rw [e, dchr_nat _ (by
    have := ht (ds.getD k 0) (by
      have e2 : ds.getD k 0 = ds[k] := by simp [List.getElem?_eq_getElem (show k < ds.length by omega)]
      rw [e2]
      exact List.getElem_mem _)
    exact this)]
  have := hz k hk
  omega
end Go.Proofs.YtoedefjngipeiaaGreatDoor

/- l0from of the specification; what l0digits wants of memory. -/
namespace Go.Proofs.YtoedefjngipeiaaGreatDoor
open Go.ChangeShapes Go.WideShapes Go.RowKit

theorem Row.two (w : World) (T : Nat) (x y : Nat) : Row (w.alloc (.cells #[.int .u64 x, .int .u64 y] T)) (.slice (some ⟨w.heap.size, 0, none⟩) 2 2) [x, y] := by
  refine ⟨_, 2, rfl, Nat.le_refl _, by unfold maxLen; omega, .inr ⟨w.heap.size, rfl, by simp, fun t ht => ?_⟩⟩
  rw [World.cell?_alloc_mark]
  match t, ht with
  | 0, _ => rfl
  | 1, _ => rfl
set_option maxHeartbeats 400000 in
theorem l0from_any (n : Nat) (hn : n < 18446744073709551616) (w : World) :
    Calls Tryz.prog 29 #[.int .u64 (n : Int)] w fun e w' => ∃ v', e = .returned v' ∧ Below w.heap.size w w' ∧ Big w' v' n := by
  have ha := and32 n hn
  have hq : (n : Int) / 4294967296 = ((n / 4294967296 : Nat) : Int) := by omega
  have HR : Hid _ := fun (w : World) T => Row.two w T (n % 4294967296) (n / 4294967296)
  have HL : Hid (Lim [n % 4294967296, n / 4294967296]) := by
    show Lim _
    intro x hx
    simp at hx
    rcases hx with rfl | rfl <;> omega
  have HV : Hid (bval [n % 4294967296, n / 4294967296] = n) := by show _ = _; simp only [bval]; omega
  clear hn
  generalize n % 4294967296 = a at *
  generalize n / 4294967296 = b at *
  go_enter Tryz.func29, Tryz.ntmps29
  go_wp2_with (go_at_call 53; refine (l0trim_any [a, b] _ _ (HR.out _ _)).mono ?_; rintro e w2 ⟨rfl, v2, rfl, hv2⟩)
  go_ret
  exact ⟨_, rfl, (Below.refl _ _).alloc (Nat.le_refl _) _, Big.of_trim hv2 HL.out HV.out⟩

set_option maxHeartbeats 400000 in
/-- l0trim over a block: what it hands back lies in that block. -/
theorem l0trim_at (ls : List Nat) (g cap : Nat) (w : World) (h1 : ls.length ≤ cap) (h2 : cap ≤ maxLen)
    (hc : ∀ t, t < ls.length → w.cell? ⟨g, t, none⟩ = some (.int .u64 (ls.getD t 0 : Nat))) :
    Calls Tryz.prog 53 #[.slice (some ⟨g, 0, none⟩) ls.length cap] w fun e w' => w' = w ∧ e = .returned (.slice (some ⟨g, 0, none⟩) (btrim ls).length cap) := by
  go_enter Tryz.func53, Tryz.ntmps53
  go_wp2
  go_loop [3] (fun n => ∃ k : Nat, n = .int .i64 k ∧ k ≤ ls.length ∧ Hid (btrim ls = btrim (ls.take k))) (fun n => (intOf n).toNat)
  case atStart => exact ⟨ls.length, rfl, Nat.le_refl _, by show _ = _; rw [List.take_length]⟩
  case round =>
    obtain ⟨k, rfl, hk, HK⟩ := hrel
    have HC : Hid (∀ t, t < ls.length → w.cell? ⟨g, t, none⟩ = some (.int .u64 (ls.getD t 0 : Nat))) := hc
    clear hc
    have hcap : cap ≤ 9223372036854775807 := h2
    cases k with
    | zero =>
      have HE : Hid ((btrim ls).length = 0) := by show _ = _; rw [HK.out]; rfl
      go_wp2
      go_ret
      exact ⟨rfl, by rw [HE.out]; rfl⟩
    | succ k =>
      have hx := HC.out k (by omega)
      by_cases hz : ls.getD k 0 = 0
      · have HK2 : Hid (btrim ls = btrim (ls.take k)) := HK.out.trans (trim_take_zero ls k (by omega) hz)
        rw [hz] at hx
        go_wp2
        exact ⟨⟨k, rfl, by omega, HK2⟩, by simp only [intOf]; omega⟩
      · have HE : Hid ((btrim ls).length = k + 1) := by show _ = _; rw [HK.out, trim_take_some ls k (by omega) hz, List.length_take]; omega
        generalize ls.getD k 0 = x at *
        go_wp2
        go_ret
        exact ⟨rfl, by rw [HE.out]; rfl⟩

theorem Tryz.infoB : (Tryz.prog.info? 5).map (fun i => (i.zero, i.size, i.bytes)) = some (some (.int .u8 0), 1, 1) := by kernel_rfl
/-- A digit's byte, as a cell. -/
def cellD (d : Nat) : Value := .int .u8 ((dchr d).toNat : Int)
/-- Another block than the one that is appended to. -/
def Far (u v : Value) : Prop := ∀ g n c, v = .slice (some ⟨g, 0, none⟩) n c → u.ownBlock ≠ some g
theorem Row.far {w w1 : World} {u v : Value} {ls : List Nat} {o : Obj} (h : Row w v ls) (hf : Far u v) (hg : (w.alloc o).grownBy w1 u.ownBlock) : Row w1 v ls := by
  obtain ⟨ao, cap, hv, h1, h2, h3⟩ := h
  refine ⟨ao, cap, hv, h1, h2, ?_⟩
  rcases h3 with h3 | ⟨g, rfl, hl, hc⟩
  · exact .inl h3
  · have hlt : g < (w.alloc o).heap.size := by simp; omega
    refine .inr ⟨g, rfl, Nat.lt_of_lt_of_le hlt hg.size, fun t ht => ?_⟩
    rw [hg.cell_far ⟨g, t, none⟩ hlt (by intro h; exact hf g _ _ hv h.symm)]
    rw [((Below.refl w.heap.size w).alloc (Nat.le_refl _) o).cell (p := ⟨g, t, none⟩) hl]
    exact hc t ht
theorem Big.far {w w1 : World} {u v : Value} {A : Nat} {o : Obj} (h : Big w v A) (hf : Far u v) (hg : (w.alloc o).grownBy w1 u.ownBlock) : Big w1 v A := by
  obtain ⟨ls, h1, h2⟩ := h
  exact ⟨ls, h1.far hf hg, h2⟩
/-- Behind an append it lies apart still. -/
theorem Far.next {w : World} {u v : Value} {ls : List Nat} {g n c : Nat} (hf : Far u v) (h : Row w v ls) (hg : u.ownBlock = some g ∨ g = w.heap.size + 1) : Far (.slice (some ⟨g, 0, none⟩) n c) v := by
  intro k m d hv hk
  have hk' : g = k := by simpa [Value.ownBlock] using hk
  subst hk'
  rcases hg with hg | hg
  · exact hf g m d hv hg
  · obtain ⟨ao, cap, hv2, _, _, h3⟩ := h
    rw [hv] at hv2
    cases hv2
    rcases h3 with ⟨h3, _⟩ | ⟨g', h3, hl, _⟩
    · cases h3
    · cases h3; omega
theorem own_stepD {B n : Nat} {w wr w1 : World} {e f : Nat} {u v : Value} {os : List Nat} {r : Nat} {o : Obj} (ho : os.length = n) (hown : wr.ownsRow B e 1 u n (os.map cellD)) (hbe : Below B w wr) (hB : B ≤ w.heap.size)
    (h1 : w1.ownsRow B f 1 v (n + 1) ((os.map cellD) ++ [cellD r])) (hg : (wr.alloc o).grownBy w1 u.ownBlock) :
    w1.ownsRow B f 1 v (os ++ [r]).length ((os ++ [r]).map cellD) ∧ Below B w w1 := by
  have hs : B ≤ wr.heap.size := Nat.le_trans hB hbe.size
  refine ⟨by simpa [ho] using h1, (hbe.alloc hs o).grown hg (by simp; omega) ?_⟩
  intro k hk
  obtain ⟨_, h⟩ := hown
  rcases h with ⟨rfl, _⟩ | ⟨g, cap, cur, rfl, hb, _⟩
  · simp [Value.ownBlock] at hk
  · simp [Value.ownBlock] at hk; omega
end Go.Proofs.YtoedefjngipeiaaGreatDoor

/- l0digits of the specification. -/
namespace Go.Proofs.YtoedefjngipeiaaGreatDoor
open Go.ChangeShapes Go.WideShapes Go.RowKit

theorem make_u64 (n : Nat) (hn : n ≤ 1000000) (w : World) : (Instr.makeSlice 58 (.int .i64 (n : Int)) (.int .i64 (n : Int))).run Tryz.prog w = .ok (.slice (some ⟨w.heap.size, 0, none⟩) n n) (w.alloc (.cells (List.replicate n (.int .u64 0)).toArray 40)) := by
  obtain ⟨i0, hi, hz0, hz1, hz2⟩ := info_parts Tryz.infoU
  have h := run_make (P := Tryz.prog) w 58 40 i0 (.int .u64 0) Tryz.underlying58 hi hz0 .i64 .i64 (n : Int) (n : Int) (by omega) (Int.le_refl _) (by rw [hz2]; omega) (by omega)
  rw [hz1, Int.toNat_natCast, Nat.mul_one] at h
  rw [h, show (Value.int .u64 0).cells = #[.int .u64 0] from rfl, made_zeros]
theorem make_u8 (n : Nat) (hn : n ≤ 100000000) (w : World) : (Instr.makeSlice 22 (.int .i64 (n : Int)) (.int .i64 (n : Int))).run Tryz.prog w = .ok (.slice (some ⟨w.heap.size, 0, none⟩) n n) (w.alloc (.cells (List.replicate n (.int .u8 0)).toArray 5)) := by
  obtain ⟨i0, hi, hz0, hz1, hz2⟩ := info_parts Tryz.infoB
  have h := run_make (P := Tryz.prog) w 22 5 i0 (.int .u8 0) Tryz.underlying22 hi hz0 .i64 .i64 (n : Int) (n : Int) (by omega) (Int.le_refl _) (by rw [hz2]; omega) (by omega)
  rw [hz1, Int.toNat_natCast, Nat.mul_one] at h
  rw [h, show (Value.int .u8 0).cells = #[.int .u8 0] from rfl, made_zeros]
/-- The quotient's parts, the lower ones not reckoned yet. -/
def qcells (k : Nat) (qs : List Nat) : List Value := List.replicate k (.int .u64 0) ++ qs.map fun x => .int .u64 (x : Int)
theorem qcells_free (k : Nat) (qs : List Nat) : (qcells (k + 1) qs)[k]? = some (.int .u64 0) := by
  unfold qcells
  rw [List.getElem?_append_left (by simp), List.getElem?_replicate, if_pos (by omega)]
theorem qcells_set (k : Nat) (qs : List Nat) (x : Nat) : (qcells (k + 1) qs).set k (.int .u64 (x : Int)) = qcells k (x :: qs) := by
  unfold qcells
  rw [List.replicate_succ', List.append_assoc, List.set_append_right _ _ (by simp)]
  simp
theorem qcells_nil (k : Nat) : qcells k [] = List.replicate k (.int .u64 0) := by simp [qcells]
theorem qrow (w : World) (qs : List Nat) (T : Nat) (t : Nat) (h : t < qs.length) : (w.alloc (.cells (qcells 0 qs).toArray T)).cell? ⟨w.heap.size, t, none⟩ = some (.int .u64 (qs.getD t 0 : Nat)) := by
  rw [World.cell?_alloc_mark]
  simp [qcells, List.getElem?_eq_getElem h]
/-- The text, its first bytes laid. -/
def tcells (tl : List UInt8) (i : Nat) : List Value := (tl.take i).map (fun c => .int .u8 (c.toNat : Int)) ++ List.replicate (tl.length - i) (.int .u8 0)
theorem tcells_zero (tl : List UInt8) : tcells tl 0 = List.replicate tl.length (.int .u8 0) := by simp [tcells]
theorem tcells_free (tl : List UInt8) (i : Nat) (h : i < tl.length) : (tcells tl i)[i]? = some (.int .u8 0) := by
  unfold tcells
  rw [List.getElem?_append_right (by simp; omega)]
  rw [List.getElem?_replicate, if_pos (by simp; omega)]
theorem tcells_set (tl : List UInt8) (i : Nat) (h : i < tl.length) : (tcells tl i).set i (.int .u8 (tl[i].toNat : Int)) = tcells tl (i + 1) := by
  unfold tcells
  have hl : (List.map (fun c : UInt8 => Value.int .u8 (c.toNat : Int)) (tl.take i)).length = i := by simp; omega
  rw [List.set_append_right _ _ (by omega), hl, Nat.sub_self, show tl.length - i = (tl.length - (i + 1)) + 1 by omega, List.replicate_succ, List.set_cons_zero,
    List.take_succ_eq_append_getElem h, List.map_append, List.append_assoc]
  rfl
theorem tcells_all (tl : List UInt8) : tcells tl tl.length = tl.map fun c => .int .u8 (c.toNat : Int) := by simp [tcells]
theorem text_end (w : World) (tl : List UInt8) (T : Nat) :
    (convert 22 9 (.slice (some ⟨w.heap.size, 0, none⟩) tl.length tl.length)).run Tryz.prog (w.alloc (.cells (tcells tl tl.length).toArray T)) = .ok (.string ⟨tl.toArray⟩) (w.alloc (.cells (tcells tl tl.length).toArray T)) :=
  run_convert_bytes_back _ 22 9 5 ⟨w.heap.size, 0, none⟩ tl.length tl Tryz.underlying22 Tryz.underlying5 Tryz.underlying9 (fun j hj => by
    rw [show (⟨w.heap.size, 0, none⟩ : Addr).add j = ⟨w.heap.size, j, none⟩ by (simp [Addr.add]; try omega), World.cell?_alloc_mark, tcells_all]
    simp [List.getElem?_eq_getElem hj])
/-- What is owned, cell by cell. -/
theorem own_cell {w : World} {B e n : Nat} {v : Value} {os : List Nat} (h : w.ownsRow B e 1 v n (os.map cellD)) (hn : os.length = n) :
    (v = .slice none 0 0 ∧ n = 0) ∨ ∃ g cap, v = .slice (some ⟨g, 0, none⟩) n cap ∧ n ≤ cap ∧ cap ≤ maxLen ∧ g < w.heap.size ∧ ∀ t, t < n → w.cell? ⟨g, t, none⟩ = some (cellD (os.getD t 0)) := by
  obtain ⟨_, h⟩ := h
  rcases h with h | ⟨g, cap, cur, rfl, hb, hh, h1, h2, h3, h4⟩
  · exact .inl h
  · refine .inr ⟨g, cap, rfl, h1, h2, (Array.getElem?_eq_some_iff.1 hh).1, fun t ht => ?_⟩
    have hc : cur[t]? = some (cellD (os.getD t 0)) := by
      rw [Nat.mul_one] at h4
      rw [← Array.getElem?_toList]
      have : (cur.toList.take n)[t]? = cur.toList[t]? := List.getElem?_take_of_lt ht
      rw [← this, h4]
      simp [List.getElem?_eq_getElem (show t < os.length by omega)]
    simp only [World.cell?, hh]
    simpa using hc
theorem own_block_lt {w : World} {B e n : Nat} {v : Value} {xs : List Value} (h : w.ownsRow B e 1 v n xs) (g : Nat) (hg : v.ownBlock = some g) : B ≤ g ∧ g < w.heap.size := by
  obtain ⟨_, h⟩ := h
  rcases h with ⟨rfl, _⟩ | ⟨g', cap, cur, rfl, hb, hh, _⟩
  · simp [Value.ownBlock] at hg
  · have : g' = g := by simpa [Value.ownBlock] using hg
    subst this
    exact ⟨hb, (Array.getElem?_eq_some_iff.1 hh).1⟩
end Go.Proofs.YtoedefjngipeiaaGreatDoor

