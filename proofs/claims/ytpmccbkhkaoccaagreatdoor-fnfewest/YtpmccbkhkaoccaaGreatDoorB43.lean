import Derived.Test.YtpmccbkhkaoccaaGreatDoorB42
import Derived.Test.YtpmccbkhkaoccaaGreatDoorB36
import Derived.Test.YtpmccbkhkaoccaaGreatDoorB41
import Derived.Test.YtpmccbkhkaoccaaGreatDoorB35
import Derived.Test.YtpmccbkhkaoccaaGreatDoorB10
/- The form without an exponent is written. -/
namespace Go.Proofs.YtpmccbkhkaoccaaGreatDoor
open Go.ChangeShapes Go.WideShapes Go.RowKit Go.Shelf

attribute [local go_sem] Oper.semAt_some

/-- What the builder holds behind i rounds. -/
def putC (ds : ByteArray) (x fr mark : Int) (i : Nat) : List Value := Lib.byteCells (putL (dAt ds x) fr mark i)
theorem putC_len (ds : ByteArray) (x fr mark : Int) (i : Nat) : (putC ds x fr mark i).length ≤ 2 * i := by
  unfold putC
  rw [Lib.byteCells_length]
  induction i with
  | zero => simp [putL]
  | succ i ih =>
    rw [putL_succ, List.length_append]
    split <;> simp <;> omega
theorem putC_succ (ds : ByteArray) (x fr mark : Int) (i : Nat) : putC ds x fr mark (i + 1) = putC ds x fr mark i ++ (if fr - (i : Int) = mark then [.int .u8 46] else []) ++ [.int .u8 ((dAt ds x (fr - (i : Int))).toNat : Int)] := by
  unfold putC
  rw [putL_succ, Lib.byteCells_append, List.append_assoc]
  split <;> rfl
/-- The worlds in which the digits are gone through: the builder in block H + 1, the iterator's boxes behind it. -/
theorem write_world (H : Nat) (w : World) (hH : w.heap.size = H) (o : Obj) (ds : ByteArray) (x fr lo : Int) : ∃ W, W = ((((w.alloc o).alloc (.cells #[.pointer none, .slice none 0 0] 235)).alloc (.cells #[.string ds, .int .i64 x] 51)).alloc (.cells #[.int .i64 fr] 3)).alloc (.cells #[.int .i64 lo] 3)
    ∧ W.heap.size = H + 5 ∧ Below H w W ∧ SpnB ds x fr lo (H + 2) W ∧ Lib.IsBuilderF 235 5 (H + 1) (H + 1) [] W ∧ W.heap[H]? = some o := by
  subst hH
  refine ⟨_, rfl, by simp, ((((((Below.refl _ w).alloc (Nat.le_refl _) _).alloc (by simp) _).alloc (by simp <;> omega) _).alloc (by simp <;> omega) _).alloc (by simp <;> omega) _), ⟨?_, ?_, ?_⟩, ?_, ?_⟩
  · rw [Below.heap_alloc _ _ _ (by simp), Below.heap_alloc _ _ _ (by simp)]
    have := World.alloc_heap_new ((w.alloc o).alloc (.cells #[.pointer none, .slice none 0 0] 235)) (.cells #[.string ds, .int .i64 x] 51)
    rwa [World.size_alloc, World.size_alloc] at this
  · rw [Below.heap_alloc _ _ _ (by simp)]
    have := World.alloc_heap_new (((w.alloc o).alloc (.cells #[.pointer none, .slice none 0 0] 235)).alloc (.cells #[.string ds, .int .i64 x] 51)) (.cells #[.int .i64 fr] 3)
    rwa [World.size_alloc, World.size_alloc, World.size_alloc] at this
  · have := World.alloc_heap_new ((((w.alloc o).alloc (.cells #[.pointer none, .slice none 0 0] 235)).alloc (.cells #[.string ds, .int .i64 x] 51)).alloc (.cells #[.int .i64 fr] 3)) (.cells #[.int .i64 lo] 3)
    rwa [World.size_alloc, World.size_alloc, World.size_alloc, World.size_alloc] at this
  · have h := Lib.IsBuilderF.of (Lib.fresh_isBuilder 235 5 (w.alloc o))
    rw [World.size_alloc] at h
    exact ((h.alloc _).alloc _).alloc _
  · rw [Below.heap_alloc _ _ _ (by simp; omega), Below.heap_alloc _ _ _ (by simp; omega), Below.heap_alloc _ _ _ (by simp; omega), Below.heap_alloc _ _ _ (by simp)]
    exact World.alloc_heap_new w o
set_option maxHeartbeats 4000000 in
set_option maxRecDepth 100000 in
theorem plainWrite_any (ds : ByteArray) (x : Int) (k : Nat) (hs : ds.size ≤ 2000) (hx : -2000 ≤ x) (hx' : x ≤ 2000) (hk : k ≤ 2000) (w : World) :
    Calls Tryz.prog 167 #[.agg #[.string ds, .int .i64 x, .int .i64 (k : Int)]] w fun e w' => e = .returned (.string (fixB ds (x + 1) k)) ∧ Below w.heap.size w w' := by
  have HSP : Hid _ := fun fr lo (w : World) => span_any ds x fr lo w
  obtain ⟨fr, hfr⟩ : ∃ fr, max x 0 = fr := ⟨_, rfl⟩
  obtain ⟨H, hH⟩ : ∃ H, w.heap.size = H := ⟨_, rfl⟩
  obtain ⟨n, hn⟩ : ∃ n : Nat, n = fr.toNat + 1 + k := ⟨_, rfl⟩
  have HT : Hid (putL (dAt ds x) fr (-1) n = (fixB ds (x + 1) k).data.toList) := by
    have h1 := plain_text ds x k
    have e1 : fxP (x + 1) - 1 = fr := by unfold fxP; split <;> omega
    have e2 : (fxP (x + 1)).toNat + k = n := by omega
    rw [e1, e2] at h1
    exact h1
  obtain ⟨W5, hW5, hz5, hb5, hsp5, hbl5, _⟩ := write_world H w hH (.cells #[.string ds, .int .i64 x, .int .i64 (k : Int)] 62) ds x fr (-(k : Int))
  have HW5 : Hid _ := hW5
  have HG : Hid (Gives 112 (H + 1) 171 #[.pointer (some ⟨H + 2 + 1, 0, none⟩), .pointer (some ⟨H + 2 + 2, 0, none⟩), .pointer (some ⟨H + 2, 0, none⟩)] (spnE ds x fr) n W5) :=
    spn_gives 112 (H + 1) (H + 2) ds x fr (-(k : Int)) n (by omega) (by omega) (by omega) (by omega) (by omega) (by omega) (by omega) (by omega) W5 hsp5 (by omega)
  have HB5 : Hid _ := And.intro hb5 hbl5
  clear hW5 hb5 hsp5 hbl5
  refine (callsIn_wide (n := 0)).1 ?_
  refine callsIn_of_wp_marks Tryz.func167 rfl trivial ?_ rfl
  simp only [Tryz.ntmps167, List.size_toArray, List.length_cons, List.length_nil, Nat.reduceAdd, Nat.reduceSub, Array.replicate_succ, Array.replicate_zero, List.push_toArray, List.append_toArray, List.nil_append, List.cons_append]
  gi_wp2
  refine ⟨trivial, rfl, (callsIn_wide.2 (HSP.out _ _ _)).mono ?_⟩
  rintro e w2 ⟨rfl, rfl⟩
  simp only [World.size_alloc, hH, ← HW5.out]
  gi_wp2
  refine range_all (T := 112) (b := H + 1) (enc := spnE ds x fr) (n := n) rfl (enters_of Tryz.func171 (by kernel_rfl) rfl) HG.out (fun _ => rfl) (by omega)
    (fun i W => Hid (Lib.IsBuilderF 235 5 (H + 1) (H + 1) (putC ds x fr (-1) i) W ∧ Below H w W)) ?hI ?h0 ?a1 ?assign ?body ?done
  case hI =>
    rintro i A A' h hc
    exact ⟨isBuilder_chg h.out.1 hc (by decide) (by decide), below_chg h.out.2 hc (by omega) (by omega)⟩
  case h0 => exact ⟨HB5.out.2, HB5.out.1⟩
  case assign =>
    intro l i W K hK
    gi_wp2
    exact hK
  case body =>
    intro l i hi W hI hsz
    have hl := putC_len ds x fr (-1) i
    have hz : H + 1 ≤ W.heap.size := by omega
    have HE : Hid (putC ds x fr (-1) (i + 1) = putC ds x fr (-1) i ++ (if fr - (i : Int) = -1 then [.int .u8 46] else []) ++ [.int .u8 ((dAt ds x (fr - (i : Int))).toNat : Int)]) := putC_succ ds x fr (-1) i
    unfold spnE
    generalize dAt ds x (fr - (i : Int)) = c at *
    generalize putC ds x fr (-1) i = P at *
    generalize putC ds x fr (-1) (i + 1) = P' at *
    by_cases hm : fr - (i : Int) = -1
    · rw [if_pos hm] at HE
      gi_wp2
      refine ⟨trivial, rfl, (CallsIn.inRound l (callsIn_wide.2 (writeByte_any (H + 1) (H + 1) _ 46 W hI.out.1 (by omega) hz))).mono ?_⟩
      rintro e W1 ⟨rfl, h1, b1, k1⟩
      have HI1 : Hid _ := And.intro (Or.inr h1 : Lib.IsBuilderF 235 5 (H + 1) (H + 1) _ W1) (And.intro b1 k1)
      have hz1 : H + 1 ≤ W1.heap.size := Nat.le_trans hz b1.size
      clear h1 b1 k1
      gi_wp2
      refine ⟨trivial, rfl, (CallsIn.inRound l (callsIn_wide.2 (writeByte_any (H + 1) (H + 1) _ (c.toNat : Int) W1 HI1.out.1 (by simp; omega) hz1))).mono ?_⟩
      rintro e W2 ⟨rfl, h2, b2, k2⟩
      have HI2 : Hid (KeepsFrom W5.heap.size W W2 ∧ Rnd (H + 1) W W2 ∧ Hid (Lib.IsBuilderF 235 5 (H + 1) (H + 1) P' W2 ∧ Below H w W2)) := by
        have hk := HI1.out.2.2.trans k2
        have hz2 : W.heap.size ≤ W2.heap.size := Nat.le_trans HI1.out.2.1.size b2.size
        refine ⟨keeps_of_kept hk hz2 (builder_cells hI.out.1), rnd_of_kept hk (HI1.out.2.1.trans b2), ?_, hI.out.2.trans ((HI1.out.2.1.trans b2).mono (by omega))⟩
        rw [HE.out]
        exact .inr h2
      clear h2 b2 k2
      gi_wp2
      exact HI2.out
    · rw [if_neg hm, List.append_nil] at HE
      gi_wp2
      refine ⟨trivial, rfl, (CallsIn.inRound l (callsIn_wide.2 (writeByte_any (H + 1) (H + 1) _ (c.toNat : Int) W hI.out.1 (by omega) hz))).mono ?_⟩
      rintro e W2 ⟨rfl, h2, b2, k2⟩
      have HI2 : Hid (KeepsFrom W5.heap.size W W2 ∧ Rnd (H + 1) W W2 ∧ Hid (Lib.IsBuilderF 235 5 (H + 1) (H + 1) P' W2 ∧ Below H w W2)) := by
        refine ⟨keeps_of_kept k2 b2.size (builder_cells hI.out.1), rnd_of_kept k2 b2, ?_, hI.out.2.trans (b2.mono (by omega))⟩
        rw [HE.out]
        exact .inr h2
      clear h2 b2 k2
      gi_wp2
      exact HI2.out
  case done =>
    intro W hI hsz hK
    have HK : Hid _ := hK
    clear hK
    gi_wp2
    refine ⟨trivial, rfl, (callsIn_wide.2 (bldString_any (H + 1) (H + 1) (putL (dAt ds x) fr (-1) n) W hI.out.1 (by omega))).mono ?_⟩
    rintro e W2 ⟨rfl, _, b2, k2⟩
    have hK2 : W2.heap[W5.heap.size]? = some (.deferred (some [])) := k2 _ _ HK.out (by rw [hz5]; intro e; have := Option.some.inj e; omega) (fun _ _ e => by cases e)
    rw [hz5] at hK2
    have HB : Hid (Below H w W2) := hI.out.2.trans (b2.mono (by omega))
    have HT2 : Hid ((⟨(putL (dAt ds x) fr (-1) n).toArray⟩ : ByteArray) = fixB ds (x + 1) k) := bytes_ext _ _ HT.out
    clear b2 k2
    generalize putL (dAt ds x) fr (-1) n = L at *
    gi_wp2
    refine ⟨by simp, .inl ⟨_, _, rfl, run_takeDeferred hK2, ?_⟩⟩
    exact ⟨_, results_tmp rfl _ _ _, by rw [HT2.out]; rfl, by rw [hH]; exact below_put HB.out _ (by omega)⟩
end Go.Proofs.YtpmccbkhkaoccaaGreatDoor

/- divide of the program's numbers. -/
namespace Go.Proofs.YtpmccbkhkaoccaaGreatDoor
open Go.ChangeShapes Go.WideShapes Go.RowKit

theorem or_word (a b : Nat) (ha : a < 4294967296) (hb : b < 4294967296) : bits .or .u64 ((a : Int) * 4294967296) (b : Int) = ((a * 4294967296 + b : Nat) : Int) := by
  have e1 : ((a : Int) * 4294967296) = ((a * 4294967296 : Nat) : Int) := by omega
  rw [e1, u64_or_nat _ _ (by omega) (by omega)]
  have := Nat.two_pow_add_eq_or_of_lt (show b < 2 ^ 32 from hb) a
  rw [show 2 ^ 32 * a = a * 4294967296 by omega] at this
  rw [this]
/-- One word more of a quotient by a small number. -/
theorem div_word (N d i : Nat) (hd : 0 < d) : N / be ^ (i + 1) % d * 4294967296 + dg N i < d * 4294967296
    ∧ (N / be ^ (i + 1) % d * 4294967296 + dg N i) / d = dg (N / d) i ∧ (N / be ^ (i + 1) % d * 4294967296 + dg N i) % d = N / be ^ i % d := by
  have h1 : N / be ^ i = be * (N / be ^ (i + 1)) + dg N i := (dg_cmp N N i rfl).1
  obtain ⟨X, hX⟩ : ∃ X, N / be ^ (i + 1) = X := ⟨_, rfl⟩
  rw [hX] at h1 ⊢
  have hg := dg_lt N i
  have hr : X % d < d := Nat.mod_lt _ hd
  have hx := Nat.div_add_mod X d
  have h2 : N / be ^ i = d * (4294967296 * (X / d)) + (X % d * 4294967296 + dg N i) := by
    rw [h1, be_eq]
    have : 4294967296 * X = 4294967296 * (d * (X / d)) + 4294967296 * (X % d) := by rw [← Nat.mul_add, hx]
    rw [Nat.mul_left_comm] at this
    omega
  have h3 : X % d * 4294967296 + dg N i < d * 4294967296 := by
    have : (X % d + 1) * 4294967296 ≤ d * 4294967296 := Nat.mul_le_mul_right _ hr
    omega
  refine ⟨h3, ?_, ?_⟩
  · have h4 : dg (N / d) i = N / be ^ i / d % be := by
      unfold dg
      rw [Nat.div_div_eq_div_mul, Nat.div_div_eq_div_mul, Nat.mul_comm]
    rw [h4, h2, Nat.mul_add_div hd, be_eq, Nat.mul_add_mod]
    refine (Nat.mod_eq_of_lt ?_).symm
    rw [Nat.div_lt_iff_lt_mul hd]
    omega
  · rw [h2, Nat.mul_add_mod]
set_option maxHeartbeats 2000000 in
set_option maxRecDepth 100000 in
theorem divide_any (B N d : Nat) (R : List Value) (t : TypeId) (w : World) (h : Lg w B N R t) (hd : 0 < d) (hd2 : d < 4294967296) :
    Calls Tryz.prog 100 #[.pointer (some ⟨B, 0, none⟩), .int .u64 (d : Int)] w fun e w' => e = .returned (.int .u64 ((N % d : Nat) : Int)) ∧ Mod B w w' ∧ Lg w' B (N / d) R t := by
  have HW : Hid _ := fun v w => width_any v w
  obtain ⟨c, hc, hk, hl⟩ := h
  obtain ⟨M, hM⟩ : ∃ M, N / d = M := ⟨_, rfl⟩
  have HM : Hid (N / d = M) := hM
  rw [hM]
  have HK : Hid (cntOk c N) := hk
  have HL : Hid (LB w B c (dg N) R t) := hl
  have hcnt := hl.cnt
  have HMB : Hid (M < be ^ c) := by rw [← hM]; exact Nat.lt_of_le_of_lt (Nat.div_le_self _ _) hk.1
  clear hk hl hM
  go_enter Tryz.func100, Tryz.ntmps100
  go_wp2
  go_loopw [4, 5] (fun rv iv wl => ∃ (i r : Nat) (x : Int), rv = .int .u64 (r : Int) ∧ iv = .int .i64 x ∧ x = (i : Int) - 1 ∧ i ≤ c ∧ r < d ∧ Hid (N / be ^ i % d = r) ∧ Hid (LB wl B c (wtop N M i) R t) ∧ Hid (Mod B w wl)) (fun _ iv _ => (intOf iv + 1).toNat)
  case atStart =>
    refine ⟨c, 0, _, rfl, rfl, by omega, Nat.le_refl _, hd, ?_, ?_, Mod.refl B w⟩
    · show _ = _
      rw [Nat.div_eq_of_lt HK.out.1, Nat.zero_mod]
    · exact HL.out.congr (wtop N M c) fun j _ => by
        unfold wtop
        split
        · rfl
        · rw [dg_above N j c HK.out.1 (by omega), dg_above M j c HMB.out (by omega)]
  case round =>
    clear hcnt
    obtain ⟨i, r, x, rfl, rfl, hx, hi, hr, HRr, HB, HMd⟩ := hrel
    by_cases h0 : 0 < i
    · obtain ⟨k, rfl⟩ : ∃ k, i = k + 1 := ⟨i - 1, by omega⟩
      obtain rfl : x = (k : Int) := by omega
      have hk0 : (0 : Int) ≤ (k : Int) := by omega
      have hk1 : (k : Int) < 151 := by omega
      obtain ⟨z1, z2, z3⟩ := div_word N d k hd
      rw [HRr.out] at z1 z2 z3
      obtain ⟨g, hg⟩ : ∃ g, dg N k = g := ⟨_, rfl⟩
      have hg1 : g < 4294967296 := by rw [← hg]; exact dg_lt _ _
      have hw := HB.out.wrd' k (by omega)
      rw [wtop_low _ _ _ _ (by omega), hg] at hw
      rw [hg] at z1 z2 z3
      have hor := or_word r g (by omega) hg1
      obtain ⟨T, hT⟩ : ∃ T, r * 4294967296 + g = T := ⟨_, rfl⟩
      rw [hT] at hor z1 z2 z3
      have hT64 : T < 18446744073709551616 := by
        have : d * 4294967296 ≤ 4294967295 * 4294967296 := Nat.mul_le_mul_right _ (by omega)
        omega
      have hsh : (r : Int) * 4294967296 % 18446744073709551616 = (r : Int) * 4294967296 := by omega
      have hfr := HB.out.froz (1 + k)
      have hdI : (0 : Int) < (d : Int) := by omega
      have hqd : (T : Int) / (d : Int) = ((dg M k : Nat) : Int) := by rw [← Int.natCast_ediv, z2, HM.out]
      have hqm : (T : Int) % (d : Int) = ((N / be ^ k % d : Nat) : Int) := by rw [← Int.natCast_emod, z3]
      have hdg := dg_lt M k
      have HZ : Hid (N / be ^ k % d < d) := Nat.mod_lt _ hd
      clear z1 z2 z3 h0 hx hT hg
      generalize hP : N / be ^ k % d = P at *
      have HP : Hid (N / be ^ k % d = P) := hP
      clear hP
      generalize hG : dg M k = G at *
      have HG : Hid (dg M k = G) := hG
      clear hG
      go_wp2
      go_quiet (first | (go_at_call 96; exact Calls.quiet_of_same (HW.out _ _)))
      go_wp2
      go_region
      all_goals
        go_wp2
        rw [hqm]
        refine ⟨⟨k, P, (k : Int) - 1, rfl, rfl, rfl, by omega, HZ.out, HP.out, ?_, (HMd.out.drewN _).setCell _ _⟩, by show ((k : Int) - 1 + 1).toNat < ((k : Int) + 1).toNat; omega⟩
        have h1 := (HB.out.drewN (nq + 1)).setw' k (dg M k) (by omega)
        rw [wtop_step, HG.out] at h1
        exact h1
    · have h0' : decide ((0 : Int) ≤ x) = false := decide_eq_false (by omega)
      obtain rfl : i = 0 := by omega
      have HT : Hid (LB wr B c (dg M) R t) := HB.out.congr _ fun j _ => by unfold wtop; rw [if_neg (by omega)]
      have HRz : Hid (N % d = r) := by
        have := HRr.out
        rw [Nat.pow_zero, Nat.div_one] at this
        exact this
      go_wp2_with (go_at_call 98; refine (trim_any B M c R t _ hc HMB.out HT.out).mono ?_; rintro e w' ⟨rfl, hm1, hg⟩)
      go_ret
      exact ⟨by rw [HRz.out]; rfl, HMd.out.trans hm1, hg⟩
end Go.Proofs.YtpmccbkhkaoccaaGreatDoor

/- Loads and stores of the program's numbers inside a fence. -/
namespace Go.Proofs.YtpmccbkhkaoccaaGreatDoor
open Go.ChangeShapes Go.WideShapes Go.RowKit Go.Shelf

theorem LB.wpLoadIn {w : World} {B c : Nat} {f : Nat → Nat} {R : List Value} {t : TypeId} (h : LB w B c f R t) {op : Oper} {a : Act} {K : Act → World → Prop} {Q : Exit → Act → World → Prop} (x : Operand) (ho : op.op = .load 112 x)
    (hx : a.eval x = .pointer (some ⟨B, 0, none⟩)) (hk : K (a.put op.dst (.agg (lgL c f).toArray)) w) : op.wpIn Fence.wide 0 Tryz.prog a w K Q := by
  obtain ⟨d, hd, hr⟩ := lg_desc
  refine ⟨fun _ _ => trivial, ?_⟩
  show op.uponIn Fence.wide 0 Tryz.prog a K Q ((execOp a.eval op).run Tryz.prog w)
  unfold execOp
  simp only [ho, hx, Instr.loadAt, Instr.sureAddr, Sem.run_bind, Sem.run_pure, Result.andThen_ok, run_loadVar_mid w B 0 112 (lgL c f) d h.range hd hr (by rw [lgL_length]; exact lg_size)]
  exact hk
theorem LB.wpStoreIn {w : World} {B c : Nat} {f : Nat → Nat} {t : TypeId} (h : LB w B c f [] t) {op : Oper} {a : Act} {K : Act → World → Prop} {Q : Exit → Act → World → Prop} (x y : Operand) (ho : op.op = .store 112 x y) (c' : Nat) (f' : Nat → Nat)
    (hx : a.eval x = .pointer (some ⟨B, 0, none⟩)) (hy : a.eval y = .agg (lgL c' f').toArray) (hk : K (a.put op.dst undef) (w.setRow B (lgL c' f').toArray)) : op.wpIn Fence.wide 0 Tryz.prog a w K Q := by
  refine ⟨fun _ _ => trivial, ?_⟩
  show op.uponIn Fence.wide 0 Tryz.prog a K Q ((execOp a.eval op).run Tryz.prog w)
  unfold execOp
  simp only [ho, hx, hy, Sem.run_bind, Sem.run_pure, Result.andThen_ok, h.store]
  exact hk
end Go.Proofs.YtpmccbkhkaoccaaGreatDoor

/- Decimal digits of a number by chunks; a number's words as its measure: plain but for the cells. -/
namespace Go.Proofs.YtpmccbkhkaoccaaGreatDoor
open Go.RowKit

/-- How many digits. -/
def DigN (n N : Nat) : Prop := N < 10 ^ n ∧ (0 < n → 10 ^ (n - 1) ≤ N)
theorem dig_pos {n N : Nat} (h : DigN n N) (m : Nat) : 0 < N / 10 ^ m ↔ m < n := by
  have hp : 0 < 10 ^ m := Nat.pow_pos (by omega)
  constructor
  · intro h0
    apply Nat.lt_of_not_le
    intro hle
    have : 10 ^ n ≤ 10 ^ m := Nat.pow_le_pow_right (by omega) hle
    rw [Nat.div_eq_of_lt (Nat.lt_of_lt_of_le h.1 this)] at h0
    omega
  · intro hm
    have h1 := h.2 (by omega)
    have : 10 ^ m ≤ 10 ^ (n - 1) := Nat.pow_le_pow_right (by omega) (by omega)
    exact Nat.div_pos (Nat.le_trans this h1) hp
theorem div_ten (N a b : Nat) : N / 10 ^ a / 10 ^ b = N / 10 ^ (a + b) := by rw [Nat.div_div_eq_div_mul, ← Nat.pow_add]
theorem chunk_digit (M i : Nat) (hi : i < 9) : M % 1000000000 / 10 ^ i % 10 = M / 10 ^ i % 10 := by
  have e : (1000000000 : Nat) = 10 ^ i * 10 ^ (9 - i) := by rw [← Nat.pow_add, show i + (9 - i) = 9 by omega]
  rw [e, Nat.mod_mul_right_div_self, Nat.mod_mod_of_dvd]
  exact ⟨10 ^ (9 - i - 1), by rw [← Nat.pow_succ']; congr 1; omega⟩
/-- Whether a chunk has a digit more. -/
theorem chunk_more {n N : Nat} (h : DigN n N) (k i : Nat) (hi : i < 9) : (0 < N / 10 ^ k % 1000000000 / 10 ^ i ∨ 0 < N / 10 ^ k / 1000000000) ↔ k + i < n := by
  have e : N / 10 ^ k / 1000000000 = N / 10 ^ (k + 9) := div_ten N k 9
  by_cases hq : 0 < N / 10 ^ k / 1000000000
  · have := (dig_pos h (k + 9)).1 (by rw [← e]; exact hq)
    exact ⟨fun _ => by omega, fun _ => .inr hq⟩
  · have hlt : N / 10 ^ k < 1000000000 := by
      apply Nat.lt_of_not_le
      intro hle
      exact hq (Nat.div_pos hle (by omega))
    rw [Nat.mod_eq_of_lt hlt, div_ten, dig_pos h]
    constructor
    · rintro (h1 | h1)
      · exact h1
      · exact absurd h1 hq
    · exact .inl
theorem chunk_end {n N : Nat} (h : DigN n N) (k i : Nat) (hi : i ≤ 9) (hk : k + i ≤ n) (he : ¬ (i < 9 ∧ k + i < n)) : N / 10 ^ k / 1000000000 = N / 10 ^ (k + i) := by
  have e : N / 10 ^ k / 1000000000 = N / 10 ^ (k + 9) := div_ten N k 9
  rw [e]
  by_cases h9 : i = 9
  · rw [h9]
  · have h1 : k + i = n := by omega
    have z : ∀ m, n ≤ m → N / 10 ^ m = 0 := fun m hm => Nat.div_eq_of_lt (Nat.lt_of_lt_of_le h.1 (Nat.pow_le_pow_right (by omega) hm))
    rw [z _ (by omega), z _ (by omega)]
theorem div_less_ten (N k j : Nat) (h : 0 < N / 10 ^ k) (hj : k < j) : N / 10 ^ j < N / 10 ^ k := by
  obtain ⟨m, rfl⟩ : ∃ m, j = k + (m + 1) := ⟨j - k - 1, by omega⟩
  rw [← div_ten]
  have hp : 1 < 10 ^ (m + 1) := Nat.one_lt_pow (by omega) (by omega)
  exact Nat.div_lt_self h hp

/-- What a row of words tells. -/
def cellN (v : Value) : Nat := match v with | .int _ n => n.toNat | _ => 0
def wordsN : List Value → Nat
  | [] => 0
  | v :: r => cellN v + be * wordsN r
def lgVal (W : World) (v : Value) : Nat := match v with
  | .pointer (some a) => (match W.heap[a.block]? with | some (.cells c _ _) => wordsN (c.toList.drop 1) | _ => 0)
  | _ => 0
theorem wordsN_dg (M : Nat) : ∀ n s, wordsN ((List.range n).map fun i => .int .u32 (dg M (s + i) : Int)) = M / be ^ s % be ^ n := by
  intro n
  induction n with
  | zero => intro s; simp [wordsN, Nat.mod_one]
  | succ n ih =>
    intro s
    rw [List.range_succ_eq_map, List.map_cons, List.map_map]
    have e : ((fun i => Value.int .u32 (dg M (s + i) : Int)) ∘ Nat.succ) = fun i => .int .u32 (dg M (s + 1 + i) : Int) := by
      funext i
      show Value.int .u32 (dg M (s + (i + 1)) : Int) = _
      rw [show s + (i + 1) = s + 1 + i by omega]
    rw [e]
    show cellN (.int .u32 (dg M (s + 0) : Int)) + be * wordsN _ = _
    rw [ih (s + 1)]
    show ((dg M (s + 0) : Nat) : Int).toNat + _ = _
    rw [Int.toNat_natCast, Nat.add_zero]
    unfold dg
    rw [Nat.pow_succ be s, ← Nat.div_div_eq_div_mul, Nat.pow_succ', Nat.mod_mul]
theorem lgVal_is {W : World} {B M : Nat} {t : TypeId} (h : Lg W B M [] t) : lgVal W (.pointer (some ⟨B, 0, none⟩)) = M := by
  obtain ⟨c, hc, hk, hl⟩ := h
  unfold lgVal
  simp only [show W.heap[B]? = _ from hl]
  have e : (blk c (dg M) []).toList.drop 1 = (List.range 151).map fun i => .int .u32 (dg M (0 + i) : Int) := by
    unfold blk lgL
    simp
  rw [e, wordsN_dg, Nat.pow_zero, Nat.div_one]
  exact Nat.mod_eq_of_lt (Nat.lt_of_lt_of_le hk.1 (bpow_le hc))
end Go.Proofs.YtpmccbkhkaoccaaGreatDoor

