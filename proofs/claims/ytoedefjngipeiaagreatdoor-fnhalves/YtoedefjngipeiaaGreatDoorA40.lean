import Derived.Test.YtoedefjngipeiaaGreatDoorA03
import Derived.Laws.MathBits
import Derived.Test.YtoedefjngipeiaaGreatDoorA38
import Derived.Deep.RegionHeld3
/- bits.Len64: the number of digits. -/
namespace Go.Proofs.YtoedefjngipeiaaGreatDoor
open Go.ChangeShapes Go.WideShapes Go.RowKit
open Ieee (double)

theorem len_close (x y : Int) (k b : Nat) (hk : k ≤ 56) (hy : y.toNat = x.toNat / 2 ^ k) (h256 : y.toNat < 256) (hp : k = 0 ∨ 0 < y) (hb : b = bitLen y.toNat) : wrap64 ((k : Int) + wrap64 (b : Int)) = (bitLen x.toNat : Int) := by
  have h8 := bitLen_le8 y.toNat h256
  have e : bitLen x.toNat = k + bitLen y.toNat := by
    rcases hp with rfl | hp
    · rw [hy, Nat.pow_zero, Nat.div_one, Nat.zero_add]
    · rw [hy]; exact bitLen_shift x.toNat k (by omega)
  rw [e, hb]
  generalize bitLen y.toNat = L at *
  unfold wrap64
  omega
theorem len_zero (x : Int) (b : Nat) (h256 : x.toNat < 256) (hb : b = bitLen x.toNat) : wrap64 (b : Int) = (bitLen x.toNat : Int) := by
  have h8 := bitLen_le8 x.toNat h256
  rw [hb]; unfold wrap64; omega
theorem len_zero' (x : Int) (b : Nat) (h256 : x.toNat < 256) (hb : b = bitLen x.toNat) : wrap64 (wrap64 (b : Int)) = (bitLen x.toNat : Int) := by
  have h8 := bitLen_le8 x.toNat h256
  rw [hb]; unfold wrap64; omega
set_option maxHeartbeats 1000000 in
set_option maxRecDepth 100000 in
theorem len64_any (x : Int) (h0 : 0 ≤ x) (h1 : x < 18446744073709551616) (w : World) :
    Calls Tryz.prog 115 #[.int .u64 x] w fun e w' => e = .returned (.int .i64 (bitLen x.toNat)) ∧ w' = w := by
  go_enter Tryz.func115, Tryz.ntmps115
  go_wp2
  all_goals go_ret
  all_goals refine ⟨congrArg (fun t => Ending.returned (.int .i64 t)) ?_, rfl⟩
  · exact len_close x (x / 4294967296 / 65536 / 256) 56 _ (by omega) (by omega) (by omega) (by omega) (len8tab_get _ _)
  · exact len_close x (x / 4294967296 / 65536) 48 _ (by omega) (by omega) (by omega) (by omega) (len8tab_get _ _)
  · exact len_close x (x / 4294967296 / 256) 40 _ (by omega) (by omega) (by omega) (by omega) (len8tab_get _ _)
  · exact len_close x (x / 4294967296) 32 _ (by omega) (by omega) (by omega) (by omega) (len8tab_get _ _)
  · exact len_close x (x / 65536 / 256) 24 _ (by omega) (by omega) (by omega) (by omega) (len8tab_get _ _)
  · exact len_close x (x / 65536) 16 _ (by omega) (by omega) (by omega) (by omega) (len8tab_get _ _)
  · exact len_close x (x / 256) 8 _ (by omega) (by omega) (by omega) (by omega) (len8tab_get _ _)
  · first | exact len_zero x _ (by omega) (len8tab_get _ _) | exact len_zero' x _ (by omega) (len8tab_get _ _)
end Go.Proofs.YtoedefjngipeiaaGreatDoor

/- width, wordAt, multiply of the program's numbers. -/
namespace Go.Proofs.YtoedefjngipeiaaGreatDoor
open Go.ChangeShapes Go.WideShapes Go.RowKit

theorem width_any (v : Value) (w : World) : Calls Tryz.prog 110 #[v] w fun e w' => e = .returned (.int .i64 32) ∧ w' = w := by
  have HL : Hid _ := fun w => len64_any 4294967295 (by omega) (by omega) w
  have hb : bitLen (Int.toNat 4294967295) = 32 := by decide
  rw [hb] at HL
  go_enter Tryz.func110, Tryz.ntmps110
  go_wp2_with (go_at_call 115; refine (HL.out _).mono ?_; rintro e w' ⟨rfl, rfl⟩)
  go_ret
  exact ⟨rfl, rfl⟩
set_option maxRecDepth 100000 in
theorem wordAt_any (B c : Nat) (f : Nat → Nat) (R : List Value) (t : TypeId) (w : World) (h : LB w B c f R t) (i : Int) (hi : i < 151) :
    Calls Tryz.prog 118 #[.pointer (some ⟨B, 0, none⟩), .int .i64 i] w fun e w' => e = .returned (.int .u32 (if i < 0 then 0 else (f i.toNat : Int))) ∧ w' = w := by
  by_cases h0 : i < 0
  · rw [if_pos h0]
    clear h
    go_enter Tryz.func118, Tryz.ntmps118
    go_wp2
    go_ret
    exact ⟨rfl, rfl⟩
  · rw [if_neg h0]
    obtain ⟨k, rfl⟩ : ∃ k : Nat, i = (k : Int) := ⟨i.toNat, by omega⟩
    have hw := h.wrd' k (by omega)
    clear h h0
    go_enter Tryz.func118, Tryz.ntmps118
    go_wp2
    go_ret
    exact ⟨rfl, rfl⟩

/-- The words while a number is multiplied: the first i are done. -/
def wmid (N M i : Nat) : Nat → Nat := fun j => if j < i then dg M j else dg N j
theorem wmid_zero (N M : Nat) : wmid N M 0 = dg N := rfl
theorem wmid_at (N M i : Nat) : wmid N M i i = dg N i := by unfold wmid; rw [if_neg (by omega)]
theorem wmid_step (N M i : Nat) : upd (wmid N M i) i (dg M i) = wmid N M (i + 1) := by
  funext j
  unfold upd wmid
  by_cases h : j = i
  · subst h; rw [if_pos rfl, if_pos (by omega)]
  · rw [if_neg h]
    by_cases h' : j < i
    · rw [if_pos h', if_pos (by omega)]
    · rw [if_neg h', if_neg (by omega)]
theorem wmid_end (N M c : Nat) (hN : N < be ^ c) (hM : M < be ^ c) (j : Nat) : wmid N M c j = dg M j := by
  unfold wmid
  by_cases h : j < c
  · rw [if_pos h]
  · rw [if_neg h, dg_above N j c hN (by omega), dg_above M j c hM (by omega)]
set_option maxHeartbeats 1000000 in
set_option maxRecDepth 100000 in
theorem mul_any (B N F a : Nat) (R : List Value) (t : TypeId) (w : World) (h : Lg w B N R t) (hF1 : 1 ≤ F) (hF : F ≤ 16) (ha : a ≤ 9007199254740992) (hN : N * F + a < be ^ 151) :
    Calls Tryz.prog 107 #[.pointer (some ⟨B, 0, none⟩), .int .u64 (F : Int), .int .u64 (a : Int)] w fun e w' => e = .returned (.tuple #[]) ∧ Mod B w w' ∧ Lg w' B (N * F + a) R t := by
  obtain ⟨c, hc, hk, hl⟩ := h
  obtain ⟨M, hM⟩ : ∃ M, N * F + a = M := ⟨_, rfl⟩
  have HM : Hid (N * F + a = M) := hM
  have HMB : Hid (M < be ^ 151) := by rw [← hM]; exact hN
  rw [hM]
  clear hM hN
  have HW : Hid _ := fun v w => width_any v w
  have HK : Hid (cntOk c N) := hk
  have HL : Hid (LB w B c (dg N) R t) := hl
  have hcnt := hl.cnt
  clear hk hl
  go_enter Tryz.func107, Tryz.ntmps107
  go_wp2
  go_loopw [6, 13] (fun cv iv wl => ∃ (i u : Nat), iv = .int .i64 (i : Int) ∧ cv = .int .u64 (u : Int) ∧ i ≤ c ∧ u ≤ 9007199254741100 ∧ Hid (car N F a i = u) ∧ Hid (LB wl B c (wmid N M i) R t) ∧ Hid (Mod B w wl)) (fun _ iv _ => c - (intOf iv).toNat)
  case atStart => exact ⟨0, a, rfl, rfl, Nat.zero_le _, by omega, car_zero N F a, HL.out, Mod.refl B w⟩
  case round =>
    clear hcnt
    obtain ⟨i, u, rfl, rfl, hi, hu, HU, HB, HMd⟩ := hrel
    by_cases hlt : i < c
    · have hlt' : (i : Int) < (c : Int) := by omega
      obtain ⟨d, hd⟩ : ∃ d, dg N i = d := ⟨_, rfl⟩
      have hd1 : d < 4294967296 := by rw [← hd]; exact dg_lt _ _
      have hw := HB.out.wrd' i (by omega)
      rw [wmid_at, hd] at hw
      have hfr := HB.out.froz (1 + i)
      have HD : Hid (dg N i = d) := hd
      obtain ⟨p, hp⟩ : ∃ p : Int, (d : Int) * (F : Int) = p := ⟨_, rfl⟩
      have hp0 : 0 ≤ p := by rw [← hp]; exact Int.mul_nonneg (by omega) (by omega)
      have hp1 : p ≤ 68719476720 := by
        rw [← hp]
        have : (d : Int) * F ≤ 4294967295 * 16 := Int.mul_le_mul (by omega) (by omega) (by omega) (by omega)
        omega
      clear hd
      go_wp2_with (go_at_call 110; refine (HW.out _ _).mono ?_; rintro e w' ⟨rfl, rfl⟩)
      have ev : ((u : Int) + p) % 4294967296 = ((dg M i : Nat) : Int) := by
        rw [← HM.out, ← car_word, HU.out, HD.out, ← hp, be_eq]; omega
      have ec : ((u : Int) + p) / 4294967296 = ((car N F a (i + 1) : Nat) : Int) := by
        rw [← car_next, HU.out, HD.out, ← hp, be_eq]; omega
      rw [ev, ec]
      refine ⟨⟨i + 1, car N F a (i + 1), rfl, rfl, by omega, by have := car_le N F a (i + 1); omega, rfl, ?_, HMd.out.setCell _ _⟩, ?_⟩
      · have := HB.out.setw' i (dg M i) (by omega)
        rw [wmid_step] at this; exact this
      · show c - ((i : Int) + 1).toNat < c - (i : Int).toNat; omega
    · have hlt' : decide ((i : Int) < (c : Int)) = false := decide_eq_false (by omega)
      obtain rfl : i = c := by omega
      go_wp2
      go_loopw [6] (fun cv wl => ∃ (k v : Nat), cv = .int .u64 (v : Int) ∧ v ≤ 9007199254741100 ∧ Hid (M / be ^ k = v) ∧ k ≤ 151 ∧ Hid (0 < k → be ^ (k - 1) ≤ M) ∧ Hid (N < be ^ k) ∧ Hid (LB wl B k (wmid N M k) R t) ∧ Hid (Mod B w wl)) (fun cv _ => (intOf cv).toNat)
      case atStart => 
        refine ⟨i, u, rfl, hu, ?_, hc, ?_, HK.out.1, HB.out, HMd.out⟩
        · rw [← HM.out, ← car_end N F a i HK.out.1]; exact HU.out
        · intro h0
          have h1 := HK.out.2 h0
          have h2 : N * 1 ≤ N * F := Nat.mul_le_mul_left _ hF1
          rw [← HM.out]; omega
      case round =>
        clear HU HB HMd hi hu hlt hlt'
        obtain ⟨k, v, rfl, hv, HV, hk, HG, HN, HB, HMd⟩ := hrel
        by_cases h0 : 0 < v
        · have h0' : (0 : Int) < (v : Int) := by omega
          have hk1 : k < 151 := by
            rcases Nat.lt_or_ge k 151 with h | h
            · exact h
            · have : M < be ^ k := Nat.lt_of_lt_of_le HMB.out (bpow_le h)
              have := HV.out; rw [Nat.div_eq_of_lt (by assumption)] at this; omega
          have hk2 : (k : Int) < 151 := by omega
          have hcnt := HB.out.cnt
          have hw := HB.out.wrd' k hk1
          have hfr := HB.out.froz (1 + k)
          have hfr0 := HB.out.froz 0
          go_wp2_with (go_at_call 110; refine (HW.out _ _).mono ?_; rintro e w' ⟨rfl, rfl⟩)
          go_region
          all_goals go_wp2_with (go_at_call 110; refine (HW.out _ _).mono ?_; rintro e w' ⟨rfl, rfl⟩)
          all_goals
            have hdv : (v : Int) % 4294967296 = ((dg M k : Nat) : Int) := by unfold dg; rw [HV.out, be_eq]; omega
            have hcar : (v : Int) / 4294967296 = ((v / 4294967296 : Nat) : Int) := by omega
            rw [hdv, hcar]
            refine ⟨⟨k + 1, v / 4294967296, rfl, by omega, ?_, by omega, fun _ => ?_, Nat.lt_of_lt_of_le HN.out (bpow_le (by omega)), ?_, (HMd.out.setCell _ _).setCell _ _⟩, ?_⟩
            · show M / be ^ (k + 1) = v / 4294967296
              rw [Nat.pow_succ, ← Nat.div_div_eq_div_mul, HV.out]
              rfl
            · show be ^ (k + 1 - 1) ≤ M
              rw [Nat.add_sub_cancel]
              rcases Nat.lt_or_ge M (be ^ k) with h | h
              · have := HV.out; rw [Nat.div_eq_of_lt h] at this; omega
              · exact h
            · have h1 := (HB.out.setw' k (dg M k) hk1)
              rw [wmid_step] at h1
              exact h1.setc (k + 1)
            · show ((v / 4294967296 : Nat) : Int).toNat < (v : Int).toNat; omega
        · have h0' : decide ((0 : Int) < (v : Int)) = false := decide_eq_false (by omega)
          go_wp2
          go_end0
          refine ⟨rfl, HMd.out, k, hk, ⟨?_, HG.out⟩, HB.out.congr _ fun j _ => wmid_end N M k HN.out ?_ j⟩
          all_goals
            have hv0 : v = 0 := by omega
            have := HV.out
            rcases Nat.lt_or_ge M (be ^ k) with h | h
            · exact h
            · have := Nat.div_pos h (bpow_pos k); omega
end Go.Proofs.YtoedefjngipeiaaGreatDoor

/- The program's numbers by value: loads, stores, new ones. -/
namespace Go.Proofs.YtoedefjngipeiaaGreatDoor
open Go.ChangeShapes Go.WideShapes Go.RowKit

theorem lgL_one (c : Nat) (f : Nat → Nat) : ∀ v ∈ lgL c f, v.oneCell' = true := by
  intro v hv
  unfold lgL at hv
  rcases List.mem_cons.1 hv with rfl | hv
  · rfl
  · obtain ⟨i, _, rfl⟩ := List.mem_map.1 hv; rfl
theorem lg_desc : ∃ d, Tryz.prog.underlying 156 = some d ∧ d.isRow = true := ⟨_, Tryz.underlying156, rfl⟩
theorem lg_size : (Tryz.prog.info? 156).map (·.size) = some 152 := by kernel_rfl
theorem lg_zero (w : World) : (zeroValue 156).run Tryz.prog w = .ok (.agg (blk 0 (fun _ => 0) [])) w :=
  (zero_of_info (P := Tryz.prog) (t := 156) (v := .agg (blk 0 (fun _ => 0) [])) (n := 152) (by kernel_rfl)).1 w
theorem LB.range {w : World} {B c : Nat} {f : Nat → Nat} {R : List Value} {t : TypeId} (h : LB w B c f R t) : w.rangeAt B 0 (lgL c f) := by
  intro j v hv
  have hj := (List.getElem?_eq_some_iff.1 hv).1
  rw [Nat.zero_add, cell_of_heap h]
  unfold blk
  rw [List.getElem?_toArray, List.getElem?_append_left hj]; exact hv
theorem LB.rangeAll {w : World} {B c : Nat} {f : Nat → Nat} {R : List Value} {t : TypeId} (h : LB w B c f R t) : w.rangeAt B 0 (lgL c f ++ R) := by
  intro j v hv
  rw [Nat.zero_add, cell_of_heap h]
  unfold blk
  rw [List.getElem?_toArray]; exact hv
/-- A number out of memory. -/
theorem LB.load {w : World} {B c : Nat} {f : Nat → Nat} {R : List Value} {t : TypeId} (h : LB w B c f R t) :
    (Instr.loadAt 156 (.pointer (some ⟨B, 0, none⟩))).run Tryz.prog w = .ok (.agg (lgL c f).toArray) w := by
  obtain ⟨d, hd, hr⟩ := lg_desc
  exact run_loadAt_mid w B 0 156 (lgL c f) d h.range hd hr (by rw [lgL_length]; exact lg_size)
/-- A number into memory. -/
theorem store_row {w : World} {g : Nat} {t : TypeId} {old cells : Array Value} (ty : TypeId) (hg : w.heap[g]? = some (.cells old t (0, 0))) (hi : (Tryz.prog.info? ty).map (·.size) = some cells.size) (ho : old.size = cells.size) (h1 : cells.all (·.oneCell') = true) :
    (Instr.storeAt ty (.pointer (some ⟨g, 0, none⟩)) (.agg cells)).run Tryz.prog w = .ok () (w.setRow g cells) := by
  simp only [Instr.storeAt, Instr.sureAddr, Sem.run_bind, Sem.run_pure, Result.andThen_ok, run_storeVar_row w g t ty old cells hg hi ho h1]
theorem LB.store {w : World} {B c c' : Nat} {f f' : Nat → Nat} {t : TypeId} (h : LB w B c f [] t) :
    (Instr.storeAt 156 (.pointer (some ⟨B, 0, none⟩)) (.agg (lgL c' f').toArray)).run Tryz.prog w = .ok () (w.setRow B (lgL c' f').toArray) :=
  store_row _ h (by rw [List.size_toArray, lgL_length]; exact lg_size) (by rw [blk_size, List.size_toArray, lgL_length]; rfl) (all_oneCell_toArray (lgL_one c' f'))
theorem blk_one (c : Nat) (f : Nat → Nat) (x : Value) (hx : x.oneCell' = true) : (blk c f [x]).all (·.oneCell') = true := by
  refine all_oneCell_toArray fun v hv => ?_
  rcases List.mem_append.1 hv with h | h
  · exact lgL_one c f v h
  · rw [List.mem_singleton.1 h]; exact hx
/-- As the walk leaves a store. -/
theorem store_cells {w : World} {g : Nat} {t : TypeId} {old : Array Value} {vs : List Value} (hg : w.heap[g]? = some (.cells old t (0, 0))) (ho : vs.length = old.size) (h1 : ∀ v ∈ vs, v.oneCell' = true) :
    (storeCells ⟨g, 0, none⟩ vs).run Tryz.prog w = .ok () (w.setRow g vs.toArray) := by
  have := run_storeCells_from (P := Tryz.prog) g t vs 0 old w hg (by omega) h1
  simpa using this
theorem LB.cells {w : World} {B c : Nat} {f : Nat → Nat} {t : TypeId} (h : LB w B c f [] t) (c' : Nat) (f' : Nat → Nat) :
    (storeCells ⟨B, 0, none⟩ (lgL c' f')).run Tryz.prog w = .ok () (w.setRow B (lgL c' f').toArray) :=
  store_cells h (by rw [lgL_length, blk_size]; rfl) (lgL_one c' f')
/-- As the walk meets them. -/
theorem LB.wpLoad {w : World} {B c : Nat} {f : Nat → Nat} {R : List Value} {t : TypeId} (h : LB w B c f R t) {op : Oper} {a : Act} {K : Act → World → Prop} {Q : Exit → Act → World → Prop} (x : Operand) (ho : op.op = .load 156 x)
    (hx : a.eval x = .pointer (some ⟨B, 0, none⟩)) (hk : K (a.put op.dst (.agg (lgL c f).toArray)) w) : op.wp Tryz.prog a w K Q := by
  obtain ⟨d, hd, hr⟩ := lg_desc
  exact wp_load_mid 156 x ho B 0 hx (lgL c f) d h.range hd hr (by rw [lgL_length]; exact lg_size) hk
theorem LB.wpStore {w : World} {B c : Nat} {f : Nat → Nat} {t : TypeId} (h : LB w B c f [] t) {op : Oper} {a : Act} {K : Act → World → Prop} {Q : Exit → Act → World → Prop} (x y : Operand) (ho : op.op = .store 156 x y) (c' : Nat) (f' : Nat → Nat)
    (hx : a.eval x = .pointer (some ⟨B, 0, none⟩)) (hy : a.eval y = .agg (lgL c' f').toArray) (hk : K (a.put op.dst undef) (w.setRow B (lgL c' f').toArray)) : op.wp Tryz.prog a w K Q :=
  wp_store_row 156 x y ho B _ hx hy t _ h (by rw [List.size_toArray, lgL_length]; exact lg_size) (by rw [blk_size, List.size_toArray, lgL_length]; rfl) (all_oneCell_toArray (lgL_one c' f')) hk
theorem blk_nil (c : Nat) (f : Nat → Nat) : (lgL c f).toArray = blk c f [] := by unfold blk; rw [List.append_nil]
theorem LB.stored {w : World} {B c c' : Nat} {f f' : Nat → Nat} {t : TypeId} (h : LB w B c f [] t) : LB (w.setRow B (lgL c' f').toArray) B c' f' [] t := by
  unfold LB; rw [blk_nil]; exact setRow_heap w B _ _ t (0, 0) h
theorem LB.storedNum {w : World} {B c c' : Nat} {f f' : Nat → Nat} {R R' : List Value} {t : TypeId} (h : LB w B c f R t) : LB (w.setRow B (blk c' f' R')) B c' f' R' t := setRow_heap w B _ _ t (0, 0) h
theorem Mod.setRow {B : Nat} {a w : World} (h : Mod B a w) (cs : Array Value) : Mod B a (w.setRow B cs) :=
  h.trans ⟨rfl, rfl, rfl, by simp, fun k _ hk => setRow_other w B k cs hk⟩
theorem cnt_same {c c' N : Nat} (h : cntOk c N) (h' : cntOk c' N) : c = c' := Nat.le_antisymm (cnt_le h h'.1) (cnt_le h' h.1)
theorem dg_nil : (fun _ : Nat => 0) = dg 0 := by funext i; unfold dg; rw [Nat.zero_div, Nat.zero_mod]

set_option maxHeartbeats 1000000 in
set_option maxRecDepth 100000 in
theorem largeOf_one (w : World) : Calls Tryz.prog 102 #[.int .u64 1] w fun e w' => e = .returned (lgV 1 1) ∧ Below w.heap.size w w' := by
  have hz := lg_zero
  rw [dg_nil] at hz
  obtain ⟨C, hC⟩ : ∃ C, blk 0 (dg 0) [] = C := ⟨_, rfl⟩
  have HC : Hid (blk 0 (dg 0) [] = C) := hC
  rw [hC] at hz
  clear hC
  obtain ⟨W, hW⟩ : ∃ W, (w.alloc (.cells C 156)).alloc (.cells C 156) = W := ⟨_, rfl⟩
  have HW : Hid ((w.alloc (.cells C 156)).alloc (.cells C 156) = W) := hW
  go_enter Tryz.func102, Tryz.ntmps102
  go_wp2_with fail
  have HA : Hid (LB W w.heap.size 0 (dg 0) [] 156) := by
    have h := ((LB.new w 0 (dg 0) [] 156).alloc (.cells C 156))
    rw [HC.out] at h; rw [← HW.out]; exact h
  have HB : Hid (Lg W (w.heap.size + 1) 0 [] 156) := by
    refine ⟨0, by omega, cnt_zero, ?_⟩
    have h := LB.new (w.alloc (.cells C 156)) 0 (dg 0) [] 156
    rw [HC.out] at h
    rw [← HW.out, show w.heap.size + 1 = (w.alloc (.cells C 156)).heap.size by simp]
    exact h
  have HM : Hid (Below w.heap.size w W) := by rw [← HW.out]; exact ((Below.refl _ w).alloc (Nat.le_refl _) _).alloc (by simp) _
  clear hW hz
  refine (mul_any (w.heap.size + 1) 0 1 1 [] 156 W HB.out (by omega) (by omega) (by omega) (Nat.lt_of_lt_of_le (by rw [be_eq]; omega : 0 * 1 + 1 < be ^ 1) (bpow_le (by omega)))).mono ?_
  rintro e w1 ⟨rfl, hm, hg⟩
  have HA1 : Hid (LB w1 w.heap.size 0 (dg 0) [] 156) := HA.out.other hm (by omega)
  obtain ⟨c, hc, hk, hl⟩ := hg
  obtain rfl : c = 1 := cnt_same hk ⟨by rw [be_eq]; omega, fun _ => by rw [Nat.sub_self, Nat.pow_zero]; omega⟩
  rw [show 0 * 1 + 1 = 1 from rfl] at hl
  have HM1 : Hid (Below w.heap.size w (w1.setRow w.heap.size (lgL 1 (dg 1)).toArray)) := by
    have h1 := (Mod.refl w.heap.size w1).setRow (lgL 1 (dg 1)).toArray
    exact (HM.out.trans (hm.below (by omega) HM.out.size)).trans (h1.below (Nat.le_refl _) (Nat.le_trans HM.out.size hm.size))
  have HS : Hid (LB (w1.setRow w.heap.size (lgL 1 (dg 1)).toArray) w.heap.size 1 (dg 1) [] 156) := HA1.out.stored
  have HL : Hid (LB w1 (w.heap.size + 1) 1 (dg 1) [] 156) := hl
  have hst := HA1.out.cells 1 (dg 1)
  have hln := lgL_length 1 (dg 1)
  clear hm hl hk hc
  go_wp2
  refine HL.out.wpLoad _ rfl rfl ?_
  go_at_K
  go_wp2
  obtain ⟨d, hd, hr⟩ := lg_desc
  have hs := HS.out
  unfold LB at hs
  rw [← blk_nil] at hs
  refine bodyPost_ret (v := lgV 1 1) (results_cell_row (P := Tryz.prog) rfl _ _ w.heap.size _ (lgL 1 (dg 1)).toArray (0, 0) d rfl hs hd (by cases d <;> simp_all [TypeDesc.isRow]) (by rw [List.size_toArray, lgL_length]; exact lg_size)) rfl ?_
  exact ⟨rfl, HM1.out⟩
end Go.Proofs.YtoedefjngipeiaaGreatDoor

