import Derived.Test.YtpmccbkhkaoccaaDoorA31
import Derived.Test.YtpmccbkhkaoccaaDoorA24
/- divide of the program's numbers. -/
namespace Go.Proofs.YtpmccbkhkaoccaaDoor
open Go.ChangeShapes Go.WideShapes Go.RowKit

theorem or_word (a b : Nat) (ha : a < 4294967296) (hb : b < 4294967296) : bits .or .u64 ((a : Int) * 4294967296) (b : Int) = ((a * 4294967296 + b : Nat) : Int) := by
  have e1 : ((a : Int) * 4294967296) = ((a * 4294967296 : Nat) : Int) := by omega
  rw [e1, u64_or_nat _ _ (by omega) (by omega)]
  have := Nat.two_pow_add_eq_or_of_lt (show b < 2 ^ 32 from hb) a
  rw [show 2 ^ 32 * a = a * 4294967296 by omega] at this
  rw [this]
/-- One word more of a quotient by a small number. -/
theorem div_word (N d i : Nat) (hd : 0 < d) : N / be ^ (i + 1) % d * 4294967296 + dg N i < d * 4294967296
    ∧ (N / be ^ (i + 1) % d * 4294967296 + dg N i) / d = dg (N / d) i ∧ (N / be ^ (i + 1) % d * 4294967296 + dg N i) % d = N / be ^ i % d := by
  have h1 : N / be ^ i = be * (N / be ^ (i + 1)) + dg N i := (dg_cmp N N i rfl).1
  obtain ⟨X, hX⟩ : ∃ X, N / be ^ (i + 1) = X := ⟨_, rfl⟩
  rw [hX] at h1 ⊢
  have hg := dg_lt N i
  have hr : X % d < d := Nat.mod_lt _ hd
  have hx := Nat.div_add_mod X d
  have h2 : N / be ^ i = d * (4294967296 * (X / d)) + (X % d * 4294967296 + dg N i) := by
    rw [h1, be_eq]
    have : 4294967296 * X = 4294967296 * (d * (X / d)) + 4294967296 * (X % d) := by rw [← Nat.mul_add, hx]
    rw [Nat.mul_left_comm] at this
    omega
  have h3 : X % d * 4294967296 + dg N i < d * 4294967296 := by
    have : (X % d + 1) * 4294967296 ≤ d * 4294967296 := Nat.mul_le_mul_right _ hr
    omega
  refine ⟨h3, ?_, ?_⟩
  · have h4 : dg (N / d) i = N / be ^ i / d % be := by
      unfold dg
      rw [Nat.div_div_eq_div_mul, Nat.div_div_eq_div_mul, Nat.mul_comm]
    rw [h4, h2, Nat.mul_add_div hd, be_eq, Nat.mul_add_mod]
    refine (Nat.mod_eq_of_lt ?_).symm
    rw [Nat.div_lt_iff_lt_mul hd]
    omega
  · rw [h2, Nat.mul_add_mod]
set_option maxHeartbeats 2000000 in
set_option maxRecDepth 100000 in
theorem divide_any (B N d : Nat) (R : List Value) (t : TypeId) (w : World) (h : Lg w B N R t) (hd : 0 < d) (hd2 : d < 4294967296) :
    Calls Tryd.prog 59 #[.pointer (some ⟨B, 0, none⟩), .int .u64 (d : Int)] w fun e w' => e = .returned (.int .u64 ((N % d : Nat) : Int)) ∧ Mod B w w' ∧ Lg w' B (N / d) R t := by
  have HW : Hid _ := fun v w => width_any v w
  obtain ⟨c, hc, hk, hl⟩ := h
  obtain ⟨M, hM⟩ : ∃ M, N / d = M := ⟨_, rfl⟩
  have HM : Hid (N / d = M) := hM
  rw [hM]
  have HK : Hid (cntOk c N) := hk
  have HL : Hid (LB w B c (dg N) R t) := hl
  have hcnt := hl.cnt
  have HMB : Hid (M < be ^ c) := by rw [← hM]; exact Nat.lt_of_le_of_lt (Nat.div_le_self _ _) hk.1
  clear hk hl hM
  go_enter Tryd.func59, Tryd.ntmps59
  go_wp2
  go_loopw [4, 5] (fun rv iv wl => ∃ (i r : Nat) (x : Int), rv = .int .u64 (r : Int) ∧ iv = .int .i64 x ∧ x = (i : Int) - 1 ∧ i ≤ c ∧ r < d ∧ Hid (N / be ^ i % d = r) ∧ Hid (LB wl B c (wtop N M i) R t) ∧ Hid (Mod B w wl)) (fun _ iv _ => (intOf iv + 1).toNat)
  case atStart =>
    refine ⟨c, 0, _, rfl, rfl, by omega, Nat.le_refl _, hd, ?_, ?_, Mod.refl B w⟩
    · show _ = _
      rw [Nat.div_eq_of_lt HK.out.1, Nat.zero_mod]
    · exact HL.out.congr (wtop N M c) fun j _ => by
        unfold wtop
        split
        · rfl
        · rw [dg_above N j c HK.out.1 (by omega), dg_above M j c HMB.out (by omega)]
  case round =>
    clear hcnt
    obtain ⟨i, r, x, rfl, rfl, hx, hi, hr, HRr, HB, HMd⟩ := hrel
    by_cases h0 : 0 < i
    · obtain ⟨k, rfl⟩ : ∃ k, i = k + 1 := ⟨i - 1, by omega⟩
      obtain rfl : x = (k : Int) := by omega
      have hk0 : (0 : Int) ≤ (k : Int) := by omega
      have hk1 : (k : Int) < 151 := by omega
      obtain ⟨z1, z2, z3⟩ := div_word N d k hd
      rw [HRr.out] at z1 z2 z3
      obtain ⟨g, hg⟩ : ∃ g, dg N k = g := ⟨_, rfl⟩
      have hg1 : g < 4294967296 := by rw [← hg]; exact dg_lt _ _
      have hw := HB.out.wrd' k (by omega)
      rw [wtop_low _ _ _ _ (by omega), hg] at hw
      rw [hg] at z1 z2 z3
      have hor := or_word r g (by omega) hg1
      obtain ⟨T, hT⟩ : ∃ T, r * 4294967296 + g = T := ⟨_, rfl⟩
      rw [hT] at hor z1 z2 z3
      have hT64 : T < 18446744073709551616 := by
        have : d * 4294967296 ≤ 4294967295 * 4294967296 := Nat.mul_le_mul_right _ (by omega)
        omega
      have hsh : (r : Int) * 4294967296 % 18446744073709551616 = (r : Int) * 4294967296 := by omega
      have hfr := HB.out.froz (1 + k)
      have hdI : (0 : Int) < (d : Int) := by omega
      have hqd : (T : Int) / (d : Int) = ((dg M k : Nat) : Int) := by rw [← Int.natCast_ediv, z2, HM.out]
      have hqm : (T : Int) % (d : Int) = ((N / be ^ k % d : Nat) : Int) := by rw [← Int.natCast_emod, z3]
      have hdg := dg_lt M k
      have HZ : Hid (N / be ^ k % d < d) := Nat.mod_lt _ hd
      clear z1 z2 z3 h0 hx hT hg
      generalize hP : N / be ^ k % d = P at *
      have HP : Hid (N / be ^ k % d = P) := hP
      clear hP
      generalize hG : dg M k = G at *
      have HG : Hid (dg M k = G) := hG
      clear hG
      go_wp2
      go_quiet (first | (go_at_call 55; exact Calls.quiet_of_same (HW.out _ _)))
      go_wp2
      go_region
      all_goals
        go_wp2
        rw [hqm]
        refine ⟨⟨k, P, (k : Int) - 1, rfl, rfl, rfl, by omega, HZ.out, HP.out, ?_, (HMd.out.drewN _).setCell _ _⟩, by show ((k : Int) - 1 + 1).toNat < ((k : Int) + 1).toNat; omega⟩
        have h1 := (HB.out.drewN (nq + 1)).setw' k (dg M k) (by omega)
        rw [wtop_step, HG.out] at h1
        exact h1
    · have h0' : decide ((0 : Int) ≤ x) = false := decide_eq_false (by omega)
      obtain rfl : i = 0 := by omega
      have HT : Hid (LB wr B c (dg M) R t) := HB.out.congr _ fun j _ => by unfold wtop; rw [if_neg (by omega)]
      have HRz : Hid (N % d = r) := by
        have := HRr.out
        rw [Nat.pow_zero, Nat.div_one] at this
        exact this
      go_wp2_with (go_at_call 57; refine (trim_any B M c R t _ hc HMB.out HT.out).mono ?_; rintro e w' ⟨rfl, hm1, hg⟩)
      go_ret
      exact ⟨by rw [HRz.out]; rfl, HMd.out.trans hm1, hg⟩
end Go.Proofs.YtpmccbkhkaoccaaDoor

/- The program's numbers by value: loads, stores, new ones. -/
namespace Go.Proofs.YtpmccbkhkaoccaaDoor
open Go.ChangeShapes Go.WideShapes Go.RowKit

theorem lgL_one (c : Nat) (f : Nat → Nat) : ∀ v ∈ lgL c f, v.oneCell' = true := by
  intro v hv
  unfold lgL at hv
  rcases List.mem_cons.1 hv with rfl | hv
  · rfl
  · obtain ⟨i, _, rfl⟩ := List.mem_map.1 hv; rfl
theorem lg_desc : ∃ d, Tryd.prog.underlying 74 = some d ∧ d.isRow = true := ⟨_, Tryd.underlying74, rfl⟩
theorem lg_size : (Tryd.prog.info? 74).map (·.size) = some 152 := by kernel_rfl
theorem lg_zero (w : World) : (zeroValue 74).run Tryd.prog w = .ok (.agg (blk 0 (fun _ => 0) [])) w :=
  (zero_of_info (P := Tryd.prog) (t := 74) (v := .agg (blk 0 (fun _ => 0) [])) (n := 152) (by kernel_rfl)).1 w
theorem LB.range {w : World} {B c : Nat} {f : Nat → Nat} {R : List Value} {t : TypeId} (h : LB w B c f R t) : w.rangeAt B 0 (lgL c f) := by
  intro j v hv
  have hj := (List.getElem?_eq_some_iff.1 hv).1
  rw [Nat.zero_add, cell_of_heap h]
  unfold blk
  rw [List.getElem?_toArray, List.getElem?_append_left hj]; exact hv
theorem LB.rangeAll {w : World} {B c : Nat} {f : Nat → Nat} {R : List Value} {t : TypeId} (h : LB w B c f R t) : w.rangeAt B 0 (lgL c f ++ R) := by
  intro j v hv
  rw [Nat.zero_add, cell_of_heap h]
  unfold blk
  rw [List.getElem?_toArray]; exact hv
/-- A number out of memory. -/
theorem LB.load {w : World} {B c : Nat} {f : Nat → Nat} {R : List Value} {t : TypeId} (h : LB w B c f R t) :
    (Instr.loadAt 74 (.pointer (some ⟨B, 0, none⟩))).run Tryd.prog w = .ok (.agg (lgL c f).toArray) w := by
  obtain ⟨d, hd, hr⟩ := lg_desc
  exact run_loadAt_mid w B 0 74 (lgL c f) d h.range hd hr (by rw [lgL_length]; exact lg_size)
/-- A number into memory. -/
theorem store_row {w : World} {g : Nat} {t : TypeId} {old cells : Array Value} (ty : TypeId) (hg : w.heap[g]? = some (.cells old t (0, 0))) (hi : (Tryd.prog.info? ty).map (·.size) = some cells.size) (ho : old.size = cells.size) (h1 : cells.all (·.oneCell') = true) :
    (Instr.storeAt ty (.pointer (some ⟨g, 0, none⟩)) (.agg cells)).run Tryd.prog w = .ok () (w.setRow g cells) := by
  simp only [Instr.storeAt, Instr.sureAddr, Sem.run_bind, Sem.run_pure, Result.andThen_ok, run_storeVar_row w g t ty old cells hg hi ho h1]
theorem LB.store {w : World} {B c c' : Nat} {f f' : Nat → Nat} {t : TypeId} (h : LB w B c f [] t) :
    (Instr.storeAt 74 (.pointer (some ⟨B, 0, none⟩)) (.agg (lgL c' f').toArray)).run Tryd.prog w = .ok () (w.setRow B (lgL c' f').toArray) :=
  store_row _ h (by rw [List.size_toArray, lgL_length]; exact lg_size) (by rw [blk_size, List.size_toArray, lgL_length]; rfl) (all_oneCell_toArray (lgL_one c' f'))
theorem blk_one (c : Nat) (f : Nat → Nat) (x : Value) (hx : x.oneCell' = true) : (blk c f [x]).all (·.oneCell') = true := by
  refine all_oneCell_toArray fun v hv => ?_
  rcases List.mem_append.1 hv with h | h
  · exact lgL_one c f v h
  · rw [List.mem_singleton.1 h]; exact hx
/-- As the walk leaves a store. -/
theorem store_cells {w : World} {g : Nat} {t : TypeId} {old : Array Value} {vs : List Value} (hg : w.heap[g]? = some (.cells old t (0, 0))) (ho : vs.length = old.size) (h1 : ∀ v ∈ vs, v.oneCell' = true) :
    (storeCells ⟨g, 0, none⟩ vs).run Tryd.prog w = .ok () (w.setRow g vs.toArray) := by
  have := run_storeCells_from (P := Tryd.prog) g t vs 0 old w hg (by omega) h1
  simpa using this
theorem LB.cells {w : World} {B c : Nat} {f : Nat → Nat} {t : TypeId} (h : LB w B c f [] t) (c' : Nat) (f' : Nat → Nat) :
    (storeCells ⟨B, 0, none⟩ (lgL c' f')).run Tryd.prog w = .ok () (w.setRow B (lgL c' f').toArray) :=
  store_cells h (by rw [lgL_length, blk_size]; rfl) (lgL_one c' f')
/-- As the walk meets them. -/
theorem LB.wpLoad {w : World} {B c : Nat} {f : Nat → Nat} {R : List Value} {t : TypeId} (h : LB w B c f R t) {op : Oper} {a : Act} {K : Act → World → Prop} {Q : Exit → Act → World → Prop} (x : Operand) (ho : op.op = .load 74 x)
    (hx : a.eval x = .pointer (some ⟨B, 0, none⟩)) (hk : K (a.put op.dst (.agg (lgL c f).toArray)) w) : op.wp Tryd.prog a w K Q := by
  obtain ⟨d, hd, hr⟩ := lg_desc
  exact wp_load_mid 74 x ho B 0 hx (lgL c f) d h.range hd hr (by rw [lgL_length]; exact lg_size) hk
theorem LB.wpStore {w : World} {B c : Nat} {f : Nat → Nat} {t : TypeId} (h : LB w B c f [] t) {op : Oper} {a : Act} {K : Act → World → Prop} {Q : Exit → Act → World → Prop} (x y : Operand) (ho : op.op = .store 74 x y) (c' : Nat) (f' : Nat → Nat)
    (hx : a.eval x = .pointer (some ⟨B, 0, none⟩)) (hy : a.eval y = .agg (lgL c' f').toArray) (hk : K (a.put op.dst undef) (w.setRow B (lgL c' f').toArray)) : op.wp Tryd.prog a w K Q :=
  wp_store_row 74 x y ho B _ hx hy t _ h (by rw [List.size_toArray, lgL_length]; exact lg_size) (by rw [blk_size, List.size_toArray, lgL_length]; rfl) (all_oneCell_toArray (lgL_one c' f')) hk
theorem blk_nil (c : Nat) (f : Nat → Nat) : (lgL c f).toArray = blk c f [] := by unfold blk; rw [List.append_nil]
theorem LB.stored {w : World} {B c c' : Nat} {f f' : Nat → Nat} {t : TypeId} (h : LB w B c f [] t) : LB (w.setRow B (lgL c' f').toArray) B c' f' [] t := by
  unfold LB; rw [blk_nil]; exact setRow_heap w B _ _ t (0, 0) h
theorem LB.storedNum {w : World} {B c c' : Nat} {f f' : Nat → Nat} {R R' : List Value} {t : TypeId} (h : LB w B c f R t) : LB (w.setRow B (blk c' f' R')) B c' f' R' t := setRow_heap w B _ _ t (0, 0) h
theorem Mod.setRow {B : Nat} {a w : World} (h : Mod B a w) (cs : Array Value) : Mod B a (w.setRow B cs) :=
  h.trans ⟨rfl, rfl, rfl, by simp, fun k _ hk => setRow_other w B k cs hk⟩
theorem cnt_same {c c' N : Nat} (h : cntOk c N) (h' : cntOk c' N) : c = c' := Nat.le_antisymm (cnt_le h h'.1) (cnt_le h' h.1)
theorem dg_nil : (fun _ : Nat => 0) = dg 0 := by funext i; unfold dg; rw [Nat.zero_div, Nat.zero_mod]

set_option maxHeartbeats 1000000 in
set_option maxRecDepth 100000 in
theorem largeOf_one (w : World) : Calls Tryd.prog 39 #[.int .u64 1] w fun e w' => e = .returned (lgV 1 1) ∧ Below w.heap.size w w' := by
  have hz := lg_zero
  rw [dg_nil] at hz
  obtain ⟨C, hC⟩ : ∃ C, blk 0 (dg 0) [] = C := ⟨_, rfl⟩
  have HC : Hid (blk 0 (dg 0) [] = C) := hC
  rw [hC] at hz
  clear hC
  obtain ⟨W, hW⟩ : ∃ W, (w.alloc (.cells C 74)).alloc (.cells C 74) = W := ⟨_, rfl⟩
  have HW : Hid ((w.alloc (.cells C 74)).alloc (.cells C 74) = W) := hW
  go_enter Tryd.func39, Tryd.ntmps39
  go_wp2_with fail
  have HA : Hid (LB W w.heap.size 0 (dg 0) [] 74) := by
    have h := ((LB.new w 0 (dg 0) [] 74).alloc (.cells C 74))
    rw [HC.out] at h; rw [← HW.out]; exact h
  have HB : Hid (Lg W (w.heap.size + 1) 0 [] 74) := by
    refine ⟨0, by omega, cnt_zero, ?_⟩
    have h := LB.new (w.alloc (.cells C 74)) 0 (dg 0) [] 74
    rw [HC.out] at h
    rw [← HW.out, show w.heap.size + 1 = (w.alloc (.cells C 74)).heap.size by simp]
    exact h
  have HM : Hid (Below w.heap.size w W) := by rw [← HW.out]; exact ((Below.refl _ w).alloc (Nat.le_refl _) _).alloc (by simp) _
  clear hW hz
  refine (mul_any (w.heap.size + 1) 0 1 1 [] 74 W HB.out (by omega) (by omega) (by omega) (Nat.lt_of_lt_of_le (by rw [be_eq]; omega : 0 * 1 + 1 < be ^ 1) (bpow_le (by omega)))).mono ?_
  rintro e w1 ⟨rfl, hm, hg⟩
  have HA1 : Hid (LB w1 w.heap.size 0 (dg 0) [] 74) := HA.out.other hm (by omega)
  obtain ⟨c, hc, hk, hl⟩ := hg
  obtain rfl : c = 1 := cnt_same hk ⟨by rw [be_eq]; omega, fun _ => by rw [Nat.sub_self, Nat.pow_zero]; omega⟩
  rw [show 0 * 1 + 1 = 1 from rfl] at hl
  have HM1 : Hid (Below w.heap.size w (w1.setRow w.heap.size (lgL 1 (dg 1)).toArray)) := by
    have h1 := (Mod.refl w.heap.size w1).setRow (lgL 1 (dg 1)).toArray
    exact (HM.out.trans (hm.below (by omega) HM.out.size)).trans (h1.below (Nat.le_refl _) (Nat.le_trans HM.out.size hm.size))
  have HS : Hid (LB (w1.setRow w.heap.size (lgL 1 (dg 1)).toArray) w.heap.size 1 (dg 1) [] 74) := HA1.out.stored
  have HL : Hid (LB w1 (w.heap.size + 1) 1 (dg 1) [] 74) := hl
  have hst := HA1.out.cells 1 (dg 1)
  have hln := lgL_length 1 (dg 1)
  clear hm hl hk hc
  go_wp2
  refine HL.out.wpLoad _ rfl rfl ?_
  go_at_K
  go_wp2
  obtain ⟨d, hd, hr⟩ := lg_desc
  have hs := HS.out
  unfold LB at hs
  rw [← blk_nil] at hs
  refine bodyPost_ret (v := lgV 1 1) (results_cell_row (P := Tryd.prog) rfl _ _ w.heap.size _ (lgL 1 (dg 1)).toArray (0, 0) d rfl hs hd (by cases d <;> simp_all [TypeDesc.isRow]) (by rw [List.size_toArray, lgL_length]; exact lg_size)) rfl ?_
  exact ⟨rfl, HM1.out⟩
end Go.Proofs.YtpmccbkhkaoccaaDoor

/- Loads and stores of the program's numbers inside a fence. -/
namespace Go.Proofs.YtpmccbkhkaoccaaDoor
open Go.ChangeShapes Go.WideShapes Go.RowKit Go.Shelf

theorem LB.wpLoadIn {w : World} {B c : Nat} {f : Nat → Nat} {R : List Value} {t : TypeId} (h : LB w B c f R t) {op : Oper} {a : Act} {K : Act → World → Prop} {Q : Exit → Act → World → Prop} (x : Operand) (ho : op.op = .load 74 x)
    (hx : a.eval x = .pointer (some ⟨B, 0, none⟩)) (hk : K (a.put op.dst (.agg (lgL c f).toArray)) w) : op.wpIn Fence.wide 0 Tryd.prog a w K Q := by
  obtain ⟨d, hd, hr⟩ := lg_desc
  refine ⟨fun _ _ => trivial, ?_⟩
  show op.uponIn Fence.wide 0 Tryd.prog a K Q ((execOp a.eval op).run Tryd.prog w)
  unfold execOp
  simp only [ho, hx, Instr.loadAt, Instr.sureAddr, Sem.run_bind, Sem.run_pure, Result.andThen_ok, run_loadVar_mid w B 0 74 (lgL c f) d h.range hd hr (by rw [lgL_length]; exact lg_size)]
  exact hk
theorem LB.wpStoreIn {w : World} {B c : Nat} {f : Nat → Nat} {t : TypeId} (h : LB w B c f [] t) {op : Oper} {a : Act} {K : Act → World → Prop} {Q : Exit → Act → World → Prop} (x y : Operand) (ho : op.op = .store 74 x y) (c' : Nat) (f' : Nat → Nat)
    (hx : a.eval x = .pointer (some ⟨B, 0, none⟩)) (hy : a.eval y = .agg (lgL c' f').toArray) (hk : K (a.put op.dst undef) (w.setRow B (lgL c' f').toArray)) : op.wpIn Fence.wide 0 Tryd.prog a w K Q := by
  refine ⟨fun _ _ => trivial, ?_⟩
  show op.uponIn Fence.wide 0 Tryd.prog a K Q ((execOp a.eval op).run Tryd.prog w)
  unfold execOp
  simp only [ho, hx, hy, Sem.run_bind, Sem.run_pure, Result.andThen_ok, h.store]
  exact hk
end Go.Proofs.YtpmccbkhkaoccaaDoor

