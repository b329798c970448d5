import Derived.Test.YtaoccjaaopmfdaaDoorA30
import Derived.Test.YtaoccjaaopmfdaaDoorA24
/- The program's numbers by value: loads, stores, new ones. -/
namespace Go.Proofs.YtaoccjaaopmfdaaDoor
open Go.ChangeShapes Go.WideShapes Go.RowKit

theorem lgL_one (c : Nat) (f : Nat → Nat) : ∀ v ∈ lgL c f, v.oneCell' = true := by
  intro v hv
  unfold lgL at hv
  rcases List.mem_cons.1 hv with rfl | hv
  · rfl
  · obtain ⟨i, _, rfl⟩ := List.mem_map.1 hv; rfl
theorem lg_desc : ∃ d, Tryd.prog.underlying 74 = some d ∧ d.isRow = true := ⟨_, Tryd.underlying74, rfl⟩
theorem lg_size : (Tryd.prog.info? 74).map (·.size) = some 152 := by kernel_rfl
theorem lg_zero (w : World) : (zeroValue 74).run Tryd.prog w = .ok (.agg (blk 0 (fun _ => 0) [])) w :=
  (zero_of_info (P := Tryd.prog) (t := 74) (v := .agg (blk 0 (fun _ => 0) [])) (n := 152) (by kernel_rfl)).1 w
theorem LB.range {w : World} {B c : Nat} {f : Nat → Nat} {R : List Value} {t : TypeId} (h : LB w B c f R t) : w.rangeAt B 0 (lgL c f) := by
  intro j v hv
  have hj := (List.getElem?_eq_some_iff.1 hv).1
  rw [Nat.zero_add, cell_of_heap h]
  unfold blk
  rw [List.getElem?_toArray, List.getElem?_append_left hj]; exact hv
theorem LB.rangeAll {w : World} {B c : Nat} {f : Nat → Nat} {R : List Value} {t : TypeId} (h : LB w B c f R t) : w.rangeAt B 0 (lgL c f ++ R) := by
  intro j v hv
  rw [Nat.zero_add, cell_of_heap h]
  unfold blk
  rw [List.getElem?_toArray]; exact hv
/-- A number out of memory. -/
theorem LB.load {w : World} {B c : Nat} {f : Nat → Nat} {R : List Value} {t : TypeId} (h : LB w B c f R t) :
    (Instr.loadAt 74 (.pointer (some ⟨B, 0, none⟩))).run Tryd.prog w = .ok (.agg (lgL c f).toArray) w := by
  obtain ⟨d, hd, hr⟩ := lg_desc
  exact run_loadAt_mid w B 0 74 (lgL c f) d h.range hd hr (by rw [lgL_length]; exact lg_size)
/-- A number into memory. -/
theorem store_row {w : World} {g : Nat} {t : TypeId} {old cells : Array Value} (ty : TypeId) (hg : w.heap[g]? = some (.cells old t (0, 0))) (hi : (Tryd.prog.info? ty).map (·.size) = some cells.size) (ho : old.size = cells.size) (h1 : cells.all (·.oneCell') = true) :
    (Instr.storeAt ty (.pointer (some ⟨g, 0, none⟩)) (.agg cells)).run Tryd.prog w = .ok () (w.setRow g cells) := by
  simp only [Instr.storeAt, Instr.sureAddr, Sem.run_bind, Sem.run_pure, Result.andThen_ok, run_storeVar_row w g t ty old cells hg hi ho h1]
theorem LB.store {w : World} {B c c' : Nat} {f f' : Nat → Nat} {t : TypeId} (h : LB w B c f [] t) :
    (Instr.storeAt 74 (.pointer (some ⟨B, 0, none⟩)) (.agg (lgL c' f').toArray)).run Tryd.prog w = .ok () (w.setRow B (lgL c' f').toArray) :=
  store_row _ h (by rw [List.size_toArray, lgL_length]; exact lg_size) (by rw [blk_size, List.size_toArray, lgL_length]; rfl) (all_oneCell_toArray (lgL_one c' f'))
theorem blk_one (c : Nat) (f : Nat → Nat) (x : Value) (hx : x.oneCell' = true) : (blk c f [x]).all (·.oneCell') = true := by
  refine all_oneCell_toArray fun v hv => ?_
  rcases List.mem_append.1 hv with h | h
  · exact lgL_one c f v h
  · rw [List.mem_singleton.1 h]; exact hx
/-- As the walk leaves a store. -/
theorem store_cells {w : World} {g : Nat} {t : TypeId} {old : Array Value} {vs : List Value} (hg : w.heap[g]? = some (.cells old t (0, 0))) (ho : vs.length = old.size) (h1 : ∀ v ∈ vs, v.oneCell' = true) :
    (storeCells ⟨g, 0, none⟩ vs).run Tryd.prog w = .ok () (w.setRow g vs.toArray) := by
  have := run_storeCells_from (P := Tryd.prog) g t vs 0 old w hg (by omega) h1
  simpa using this
theorem LB.cells {w : World} {B c : Nat} {f : Nat → Nat} {t : TypeId} (h : LB w B c f [] t) (c' : Nat) (f' : Nat → Nat) :
    (storeCells ⟨B, 0, none⟩ (lgL c' f')).run Tryd.prog w = .ok () (w.setRow B (lgL c' f').toArray) :=
  store_cells h (by rw [lgL_length, blk_size]; rfl) (lgL_one c' f')
/-- As the walk meets them. -/
theorem LB.wpLoad {w : World} {B c : Nat} {f : Nat → Nat} {R : List Value} {t : TypeId} (h : LB w B c f R t) {op : Oper} {a : Act} {K : Act → World → Prop} {Q : Exit → Act → World → Prop} (x : Operand) (ho : op.op = .load 74 x)
    (hx : a.eval x = .pointer (some ⟨B, 0, none⟩)) (hk : K (a.put op.dst (.agg (lgL c f).toArray)) w) : op.wp Tryd.prog a w K Q := by
  obtain ⟨d, hd, hr⟩ := lg_desc
  exact wp_load_mid 74 x ho B 0 hx (lgL c f) d h.range hd hr (by rw [lgL_length]; exact lg_size) hk
theorem LB.wpStore {w : World} {B c : Nat} {f : Nat → Nat} {t : TypeId} (h : LB w B c f [] t) {op : Oper} {a : Act} {K : Act → World → Prop} {Q : Exit → Act → World → Prop} (x y : Operand) (ho : op.op = .store 74 x y) (c' : Nat) (f' : Nat → Nat)
    (hx : a.eval x = .pointer (some ⟨B, 0, none⟩)) (hy : a.eval y = .agg (lgL c' f').toArray) (hk : K (a.put op.dst undef) (w.setRow B (lgL c' f').toArray)) : op.wp Tryd.prog a w K Q :=
  wp_store_row 74 x y ho B _ hx hy t _ h (by rw [List.size_toArray, lgL_length]; exact lg_size) (by rw [blk_size, List.size_toArray, lgL_length]; rfl) (all_oneCell_toArray (lgL_one c' f')) hk
theorem blk_nil (c : Nat) (f : Nat → Nat) : (lgL c f).toArray = blk c f [] := by unfold blk; rw [List.append_nil]
theorem LB.stored {w : World} {B c c' : Nat} {f f' : Nat → Nat} {t : TypeId} (h : LB w B c f [] t) : LB (w.setRow B (lgL c' f').toArray) B c' f' [] t := by
  unfold LB; rw [blk_nil]; exact setRow_heap w B _ _ t (0, 0) h
theorem LB.storedNum {w : World} {B c c' : Nat} {f f' : Nat → Nat} {R R' : List Value} {t : TypeId} (h : LB w B c f R t) : LB (w.setRow B (blk c' f' R')) B c' f' R' t := setRow_heap w B _ _ t (0, 0) h
theorem Mod.setRow {B : Nat} {a w : World} (h : Mod B a w) (cs : Array Value) : Mod B a (w.setRow B cs) :=
  h.trans ⟨rfl, rfl, rfl, by simp, fun k _ hk => setRow_other w B k cs hk⟩
theorem cnt_same {c c' N : Nat} (h : cntOk c N) (h' : cntOk c' N) : c = c' := Nat.le_antisymm (cnt_le h h'.1) (cnt_le h' h.1)
theorem dg_nil : (fun _ : Nat => 0) = dg 0 := by funext i; unfold dg; rw [Nat.zero_div, Nat.zero_mod]

set_option maxHeartbeats 1000000 in
set_option maxRecDepth 100000 in
theorem largeOf_one (w : World) : Calls Tryd.prog 39 #[.int .u64 1] w fun e w' => e = .returned (lgV 1 1) ∧ Below w.heap.size w w' := by
  have hz := lg_zero
  rw [dg_nil] at hz
  obtain ⟨C, hC⟩ : ∃ C, blk 0 (dg 0) [] = C := ⟨_, rfl⟩
  have HC : Hid (blk 0 (dg 0) [] = C) := hC
  rw [hC] at hz
  clear hC
  obtain ⟨W, hW⟩ : ∃ W, (w.alloc (.cells C 74)).alloc (.cells C 74) = W := ⟨_, rfl⟩
  have HW : Hid ((w.alloc (.cells C 74)).alloc (.cells C 74) = W) := hW
  go_enter Tryd.func39, Tryd.ntmps39
  go_wp2_with fail
  have HA : Hid (LB W w.heap.size 0 (dg 0) [] 74) := by
    have h := ((LB.new w 0 (dg 0) [] 74).alloc (.cells C 74))
    rw [HC.out] at h; rw [← HW.out]; exact h
  have HB : Hid (Lg W (w.heap.size + 1) 0 [] 74) := by
    refine ⟨0, by omega, cnt_zero, ?_⟩
    have h := LB.new (w.alloc (.cells C 74)) 0 (dg 0) [] 74
    rw [HC.out] at h
    rw [← HW.out, show w.heap.size + 1 = (w.alloc (.cells C 74)).heap.size by simp]
    exact h
  have HM : Hid (Below w.heap.size w W) := by rw [← HW.out]; exact ((Below.refl _ w).alloc (Nat.le_refl _) _).alloc (by simp) _
  clear hW hz
  refine (mul_any (w.heap.size + 1) 0 1 1 [] 74 W HB.out (by omega) (by omega) (by omega) (Nat.lt_of_lt_of_le (by rw [be_eq]; omega : 0 * 1 + 1 < be ^ 1) (bpow_le (by omega)))).mono ?_
  rintro e w1 ⟨rfl, hm, hg⟩
  have HA1 : Hid (LB w1 w.heap.size 0 (dg 0) [] 74) := HA.out.other hm (by omega)
  obtain ⟨c, hc, hk, hl⟩ := hg
  obtain rfl : c = 1 := cnt_same hk ⟨by rw [be_eq]; omega, fun _ => by rw [Nat.sub_self, Nat.pow_zero]; omega⟩
  rw [show 0 * 1 + 1 = 1 from rfl] at hl
  have HM1 : Hid (Below w.heap.size w (w1.setRow w.heap.size (lgL 1 (dg 1)).toArray)) := by
    have h1 := (Mod.refl w.heap.size w1).setRow (lgL 1 (dg 1)).toArray
    exact (HM.out.trans (hm.below (by omega) HM.out.size)).trans (h1.below (Nat.le_refl _) (Nat.le_trans HM.out.size hm.size))
  have HS : Hid (LB (w1.setRow w.heap.size (lgL 1 (dg 1)).toArray) w.heap.size 1 (dg 1) [] 74) := HA1.out.stored
  have HL : Hid (LB w1 (w.heap.size + 1) 1 (dg 1) [] 74) := hl
  have hst := HA1.out.cells 1 (dg 1)
  have hln := lgL_length 1 (dg 1)
  clear hm hl hk hc
  go_wp2
  refine HL.out.wpLoad _ rfl rfl ?_
  go_at_K
  go_wp2
  obtain ⟨d, hd, hr⟩ := lg_desc
  have hs := HS.out
  unfold LB at hs
  rw [← blk_nil] at hs
  refine bodyPost_ret (v := lgV 1 1) (results_cell_row (P := Tryd.prog) rfl _ _ w.heap.size _ (lgL 1 (dg 1)).toArray (0, 0) d rfl hs hd (by cases d <;> simp_all [TypeDesc.isRow]) (by rw [List.size_toArray, lgL_length]; exact lg_size)) rfl ?_
  exact ⟨rfl, HM1.out⟩
end Go.Proofs.YtaoccjaaopmfdaaDoor

/- Loads and stores of the program's numbers inside a fence. -/
namespace Go.Proofs.YtaoccjaaopmfdaaDoor
open Go.ChangeShapes Go.WideShapes Go.RowKit Go.Shelf

theorem LB.wpLoadIn {w : World} {B c : Nat} {f : Nat → Nat} {R : List Value} {t : TypeId} (h : LB w B c f R t) {op : Oper} {a : Act} {K : Act → World → Prop} {Q : Exit → Act → World → Prop} (x : Operand) (ho : op.op = .load 74 x)
    (hx : a.eval x = .pointer (some ⟨B, 0, none⟩)) (hk : K (a.put op.dst (.agg (lgL c f).toArray)) w) : op.wpIn Fence.wide 0 Tryd.prog a w K Q := by
  obtain ⟨d, hd, hr⟩ := lg_desc
  refine ⟨fun _ _ => trivial, ?_⟩
  show op.uponIn Fence.wide 0 Tryd.prog a K Q ((execOp a.eval op).run Tryd.prog w)
  unfold execOp
  simp only [ho, hx, Instr.loadAt, Instr.sureAddr, Sem.run_bind, Sem.run_pure, Result.andThen_ok, run_loadVar_mid w B 0 74 (lgL c f) d h.range hd hr (by rw [lgL_length]; exact lg_size)]
  exact hk
theorem LB.wpStoreIn {w : World} {B c : Nat} {f : Nat → Nat} {t : TypeId} (h : LB w B c f [] t) {op : Oper} {a : Act} {K : Act → World → Prop} {Q : Exit → Act → World → Prop} (x y : Operand) (ho : op.op = .store 74 x y) (c' : Nat) (f' : Nat → Nat)
    (hx : a.eval x = .pointer (some ⟨B, 0, none⟩)) (hy : a.eval y = .agg (lgL c' f').toArray) (hk : K (a.put op.dst undef) (w.setRow B (lgL c' f').toArray)) : op.wpIn Fence.wide 0 Tryd.prog a w K Q := by
  refine ⟨fun _ _ => trivial, ?_⟩
  show op.uponIn Fence.wide 0 Tryd.prog a K Q ((execOp a.eval op).run Tryd.prog w)
  unfold execOp
  simp only [ho, hx, hy, Sem.run_bind, Sem.run_pure, Result.andThen_ok, h.store]
  exact hk
end Go.Proofs.YtaoccjaaopmfdaaDoor

/- Decimal digits of a number by chunks; a number's words as its measure: plain but for the cells. -/
namespace Go.Proofs.YtaoccjaaopmfdaaDoor
open Go.RowKit

/-- How many digits. -/
def DigN (n N : Nat) : Prop := N < 10 ^ n ∧ (0 < n → 10 ^ (n - 1) ≤ N)
theorem dig_pos {n N : Nat} (h : DigN n N) (m : Nat) : 0 < N / 10 ^ m ↔ m < n := by
  have hp : 0 < 10 ^ m := Nat.pow_pos (by omega)
  constructor
  · intro h0
    apply Nat.lt_of_not_le
    intro hle
    have : 10 ^ n ≤ 10 ^ m := Nat.pow_le_pow_right (by omega) hle
    rw [Nat.div_eq_of_lt (Nat.lt_of_lt_of_le h.1 this)] at h0
    omega
  · intro hm
    have h1 := h.2 (by omega)
    have : 10 ^ m ≤ 10 ^ (n - 1) := Nat.pow_le_pow_right (by omega) (by omega)
    exact Nat.div_pos (Nat.le_trans this h1) hp
theorem div_ten (N a b : Nat) : N / 10 ^ a / 10 ^ b = N / 10 ^ (a + b) := by rw [Nat.div_div_eq_div_mul, ← Nat.pow_add]
theorem chunk_digit (M i : Nat) (hi : i < 9) : M % 1000000000 / 10 ^ i % 10 = M / 10 ^ i % 10 := by
  have e : (1000000000 : Nat) = 10 ^ i * 10 ^ (9 - i) := by rw [← Nat.pow_add, show i + (9 - i) = 9 by omega]
  rw [e, Nat.mod_mul_right_div_self, Nat.mod_mod_of_dvd]
  exact ⟨10 ^ (9 - i - 1), by rw [← Nat.pow_succ']; congr 1; omega⟩
/-- Whether a chunk has a digit more. -/
theorem chunk_more {n N : Nat} (h : DigN n N) (k i : Nat) (hi : i < 9) : (0 < N / 10 ^ k % 1000000000 / 10 ^ i ∨ 0 < N / 10 ^ k / 1000000000) ↔ k + i < n := by
  have e : N / 10 ^ k / 1000000000 = N / 10 ^ (k + 9) := div_ten N k 9
  by_cases hq : 0 < N / 10 ^ k / 1000000000
  · have := (dig_pos h (k + 9)).1 (by rw [← e]; exact hq)
    exact ⟨fun _ => by omega, fun _ => .inr hq⟩
  · have hlt : N / 10 ^ k < 1000000000 := by
      apply Nat.lt_of_not_le
      intro hle
      exact hq (Nat.div_pos hle (by omega))
    rw [Nat.mod_eq_of_lt hlt, div_ten, dig_pos h]
    constructor
    · rintro (h1 | h1)
      · exact h1
      · exact absurd h1 hq
    · exact .inl
theorem chunk_end {n N : Nat} (h : DigN n N) (k i : Nat) (hi : i ≤ 9) (hk : k + i ≤ n) (he : ¬ (i < 9 ∧ k + i < n)) : N / 10 ^ k / 1000000000 = N / 10 ^ (k + i) := by
  have e : N / 10 ^ k / 1000000000 = N / 10 ^ (k + 9) := div_ten N k 9
  rw [e]
  by_cases h9 : i = 9
  · rw [h9]
  · have h1 : k + i = n := by omega
    have z : ∀ m, n ≤ m → N / 10 ^ m = 0 := fun m hm => Nat.div_eq_of_lt (Nat.lt_of_lt_of_le h.1 (Nat.pow_le_pow_right (by omega) hm))
    rw [z _ (by omega), z _ (by omega)]
theorem div_less_ten (N k j : Nat) (h : 0 < N / 10 ^ k) (hj : k < j) : N / 10 ^ j < N / 10 ^ k := by
  obtain ⟨m, rfl⟩ : ∃ m, j = k + (m + 1) := ⟨j - k - 1, by omega⟩
  rw [← div_ten]
  have hp : 1 < 10 ^ (m + 1) := Nat.one_lt_pow (by omega) (by omega)
  exact Nat.div_lt_self h hp

/-- What a row of words tells. -/
def cellN (v : Value) : Nat := match v with | .int _ n => n.toNat | _ => 0
def wordsN : List Value → Nat
  | [] => 0
  | v :: r => cellN v + be * wordsN r
def lgVal (W : World) (v : Value) : Nat := match v with
  | .pointer (some a) => (match W.heap[a.block]? with | some (.cells c _ _) => wordsN (c.toList.drop 1) | _ => 0)
  | _ => 0
theorem wordsN_dg (M : Nat) : ∀ n s, wordsN ((List.range n).map fun i => .int .u32 (dg M (s + i) : Int)) = M / be ^ s % be ^ n := by
  intro n
  induction n with
  | zero => intro s; simp [wordsN, Nat.mod_one]
  | succ n ih =>
    intro s
    rw [List.range_succ_eq_map, List.map_cons, List.map_map]
    have e : ((fun i => Value.int .u32 (dg M (s + i) : Int)) ∘ Nat.succ) = fun i => .int .u32 (dg M (s + 1 + i) : Int) := by
      funext i
      show Value.int .u32 (dg M (s + (i + 1)) : Int) = _
      rw [show s + (i + 1) = s + 1 + i by omega]
    rw [e]
    show cellN (.int .u32 (dg M (s + 0) : Int)) + be * wordsN _ = _
    rw [ih (s + 1)]
    show ((dg M (s + 0) : Nat) : Int).toNat + _ = _
    rw [Int.toNat_natCast, Nat.add_zero]
    unfold dg
    rw [Nat.pow_succ be s, ← Nat.div_div_eq_div_mul, Nat.pow_succ', Nat.mod_mul]
theorem lgVal_is {W : World} {B M : Nat} {t : TypeId} (h : Lg W B M [] t) : lgVal W (.pointer (some ⟨B, 0, none⟩)) = M := by
  obtain ⟨c, hc, hk, hl⟩ := h
  unfold lgVal
  simp only [show W.heap[B]? = _ from hl]
  have e : (blk c (dg M) []).toList.drop 1 = (List.range 151).map fun i => .int .u32 (dg M (0 + i) : Int) := by
    unfold blk lgL
    simp
  rw [e, wordsN_dg, Nat.pow_zero, Nat.div_one]
  exact Nat.mod_eq_of_lt (Nat.lt_of_lt_of_le hk.1 (bpow_le hc))
end Go.Proofs.YtaoccjaaopmfdaaDoor

