import Derived.Test.YtonobdlncjgfhaaDoorN13
import Derived.Deep.CutRange
import Derived.Test.YtonobdlncjgfhaaDoorN10
/- The program's reader of digits. -/
namespace Go.Proofs.YtonobdlncjgfhaaDoor
open Go.ChangeShapes Go.WideShapes Go.RowKit

theorem Mod.late {G B : Nat} {w a b : World} (h : Mod G w a) (k : Mod B a b) (hB : w.heap.size ≤ B) : Mod G w b :=
  ⟨k.1.trans h.1, k.2.1.trans h.2.1, k.2.2.1.trans h.2.2.1, Nat.le_trans h.2.2.2.1 k.2.2.2.1, fun i hi hg => (k.2.2.2.2 i (Nat.lt_of_lt_of_le hi h.2.2.2.1) (by omega)).trans (h.2.2.2.2 i hi hg)⟩
theorem built_num (w : World) : (Instr.build 116 #[]).run Tryd.prog w = .ok (.agg (blk 0 (fun _ => 0) [.int .i64 0])) w :=
  run_build (P := Tryd.prog) w 116 #[] (blk 0 (fun _ => 0) [.int .i64 0]) (by kernel_rfl)
theorem LB.beh {w : World} {B c : Nat} {f : Nat → Nat} {x : Value} {t : TypeId} (h : LB w B c f [x] t) : w.cell? ⟨B, 152, none⟩ = some x := by
  rw [cell_of_heap h]; exact blk_tail c f [x] 0
theorem LB.setb {w : World} {B c : Nat} {f : Nat → Nat} {x : Value} {t : TypeId} (h : LB w B c f [x] t) (y : Value) : LB (w.setCell ⟨B, 152, none⟩ y) B c f [y] t := by
  unfold LB
  rw [setCell_eq_setRow w B 152 _ t (0, 0) _ h, blk_setT]
  exact setRow_heap w B _ _ t (0, 0) h
/-- A number of few enough digits has room. -/
theorem dig_room (b : Nat) (l : List UInt8) (d : Nat) (hb : b ≤ 16) (hg : good (b : Int) l) (hl : l.length < 1200) (hd : d < b) : valN b l * b + d < be ^ 151 := by
  have h1 := valN_good_lt b l hg
  have h2 : valN b l * b + d < b ^ (l.length + 1) := by
    rw [Nat.pow_succ]
    have : (valN b l + 1) * b ≤ b ^ l.length * b := Nat.mul_le_mul_right _ h1
    rw [Nat.succ_mul] at this
    omega
  have h3 : b ^ (l.length + 1) ≤ 16 ^ (l.length + 1) := Nat.pow_le_pow_left hb _
  obtain ⟨n, hn⟩ : ∃ n : Nat, n = 151 := ⟨_, rfl⟩
  have h4 : 16 ^ (l.length + 1) ≤ be ^ n := by
    rw [be_two, show (16 : Nat) = 2 ^ 4 from rfl, ← Nat.pow_mul]
    exact Nat.pow_le_pow_right (by omega) (by omega)
  rw [hn] at h4
  omega
theorem res_dig (tmps : Array Value) (w : World) (R : Nat) (t : TypeId) (cs : Array Value) (v : Value) (hp : tmps.getD 4 undef = .pointer (some ⟨R, 0, none⟩)) (h5 : tmps.getD 5 undef = v) (hg : w.heap[R]? = some (.cells cs t (0, 0))) (hi : cs.size = 153) :
    (results Tryd.f53 tmps).run Tryd.prog w = .ok (.tuple #[.agg cs, v]) w := by
  obtain ⟨d, hd, hr⟩ := num_desc
  have hp' : tmps[4]?.getD undef = .pointer (some ⟨R, 0, none⟩) := by simpa using hp
  have h5' : tmps[5]?.getD undef = v := by simpa using h5
  have hl := run_loadVar_row (P := Tryd.prog) w R t 116 cs (0, 0) d hg hd (by cases d <;> simp_all [TypeDesc.isRow]) (by rw [hi]; exact num_size)
  simp [results, Tryd.results53, hp', h5', asAddr, hl]
theorem zero_is : Tryd.zeroCells116 = blk 0 (dg 0) [.int .i64 0] := by rw [← dg_nil]; kernel_rfl
/-- A store of a whole numeral, as the walk leaves it. -/
theorem LB.cellsNum {w : World} {B c : Nat} {f : Nat → Nat} {x : Value} {t : TypeId} (h : LB w B c f [x] t) (cs : Array Value) (hs : cs.size = 153) (h1 : cs.all (·.oneCell') = true) :
    (storeCells ⟨B, 0, none⟩ cs.toList).run Tryd.prog w = .ok () (w.setRow B cs) := by
  have := store_cells (vs := cs.toList) h (by rw [Array.length_toList, hs, blk_size]; rfl) (fun v hv => (Array.all_eq_true_iff_forall_mem.1 h1) v (by simpa using hv))
  simpa using this
/-- A round's state of memory. -/
structure DS2 (w wl : World) (G R : Nat) (s : ByteArray) (i N beh : Nat) : Prop where
  rr : Rr wl G s i
  num : Lg wl (R + 1) N [.int .i64 (beh : Int)] 116
  res : LB wl R 0 (dg 0) [.int .i64 0] 116
  mod : Mod G w wl
set_option maxHeartbeats 4000000 in
set_option maxRecDepth 100000 in
theorem digits_walk (b G k : Nat) (s : ByteArray) (w : World) (hb : b ≤ 16) (hb1 : 2 ≤ b) (h : Rr w G s k) (hk : k ≤ s.size) (hs : s.size ≤ 1200) :
    Calls Tryd.prog 53 #[.pointer (some ⟨G, 0, none⟩), .int .u64 (b : Int)] w fun e w' => ∃ V beh r j c, DgR b s k V beh r j ∧ j ≤ s.size ∧ cntOk c V ∧ c ≤ 151 ∧ beh ≤ 1200 ∧ V < b ^ (s.size - k) ∧ e = .returned (.tuple #[.agg (blk c (dg V) [.int .i64 (beh : Int)]), errV r]) ∧ Rr w' G s j ∧ Mod G w w' := by
  have hz := num_zero
  rw [dg_nil] at hz
  obtain ⟨C, hC⟩ : ∃ C, blk 0 (dg 0) [.int .i64 0] = C := ⟨_, rfl⟩
  have HC : Hid (blk 0 (dg 0) [.int .i64 0] = C) := hC
  rw [hC] at hz
  obtain ⟨R, hR⟩ : ∃ R, w.heap.size = R := ⟨_, rfl⟩
  have HRR : Hid (w.heap.size = R) := hR
  obtain ⟨W, hW⟩ : ∃ W, (w.alloc (.cells C 116)).alloc (.cells C 116) = W := ⟨_, rfl⟩
  have H0 : Hid (DS2 w W G R s k 0 0) := by
    refine ⟨?_, ⟨0, by omega, cnt_zero, ?_⟩, ?_, ?_⟩
    · rw [← hW]; exact (h.alloc _).alloc _
    · have h := LB.new (w.alloc (.cells C 116)) 0 (dg 0) [.int .i64 0] 116
      rw [hC, hW, show (w.alloc (.cells C 116)).heap.size = R + 1 by simp [hR]] at h; exact h
    · have h := (LB.new w 0 (dg 0) [.int .i64 0] 116).alloc (.cells C 116)
      rw [hC, hW, hR] at h; exact h
    · rw [← hW]; exact ((Mod.refl G w).alloc _).alloc _
  have hGR : G < R := by rw [← hR]; exact h.lt
  clear h hC
  go_enter Tryd.func53, Tryd.ntmps53
  go_wp2_with fail
  go_step3
  go_wp2_with fail
  clear hW hz
  try go_step3
  try go_wp2_with fail
  go_loopw [7, 8] (fun pv lv wl => ∃ (pt lack : Bool) (i beh : Nat) (l : List UInt8), pv = .bool pt ∧ lv = .bool lack ∧ i ≤ s.size ∧ Hid (St2 b s k pt i l beh lack) ∧ Hid (DS2 w wl G R s i (valN b l) beh)) (fun _ _ wl => s.size - rrAt G wl)
  case atStart => exact ⟨false, true, k, 0, [], rfl, rfl, hk, st2_start b s k, by show DS2 w W G R s k (valN b []) 0; rw [valN_nil]; exact H0.out⟩
  case round =>
    obtain ⟨pt, lack, i, beh, l, rfl, rfl, hi, HS, HD⟩ := hrel
    clear H0
    have htx := HD.out.rr.txt
    have hat := HD.out.rr.at_
    have hfr := HD.out.rr.froz 1
    by_cases hlt : i < s.size
    · have hlt' : (i : Int) < (s.size : Int) := by omega
      have HDV : Hid _ := fun w => implDigit_byte s[i] w
      have hd0 := digN_lo 36 (s[i].toNat : Int) (by omega)
      have hd1 := digN_hi 36 (s[i].toNat : Int) (by omega)
      have HDS : Hid _ := fun (_ : Unit) => digN_same 36 99 (s[i].toNat : Int) (b : Int) (by omega) (by omega)
      have HBA : Hid _ := fun (_ : Unit) => bAt_in s i hlt
      obtain ⟨d, hd⟩ : ∃ d : Nat, digN 36 (s[i].toNat : Int) = (d : Int) := ⟨(digN 36 (s[i].toNat : Int)).toNat, by omega⟩
      rw [hd] at HDV hd0 hd1 HDS
      clear hd
      by_cases hdb : d < b
      · have hdb' : (d : Int) < (b : Int) := by omega
        have HDG : Hid (Dig b s i) := ⟨hlt, by rw [HBA.out ()]; exact (HDS.out ()).1.1 (by omega)⟩
        have HDN : Hid ((d : Int) = digN 99 (s[i].toNat : Int)) := (HDS.out ()).2 (by omega)
        obtain ⟨l1, l2, l3, l4⟩ := st2_len HS.out hi
        have HMU : Hid (∀ W' : World, Lg W' (R + 1) (valN b l) [.int .i64 (beh : Int)] 116 → Calls Tryd.prog 60 #[.pointer (some ⟨R + 1, 0, none⟩), .int .u64 (b : Int), .int .u64 (d : Int)] W' fun e w'' => e = .returned (.tuple #[]) ∧ Mod (R + 1) W' w'' ∧ Lg w'' (R + 1) (valN b l * b + d) [.int .i64 (beh : Int)] 116) :=
          fun W' h => mul_any (R + 1) (valN b l) b d _ _ W' h (by omega) (by omega) (by omega) (dig_room b l d hb l4 (by omega) hdb)
        have HVN : Hid (valN b (l ++ [s[i]]) = valN b l * b + d) := valN_snoc b l s[i] d HDN.out
        have HSN : Hid _ := fun (_ : Unit) => st2_digit HS.out hlt HDG.out
        clear l2 l4 hdb
        cases pt
        · go_wp2_with fail
          go_quiet (fail)
          go_wp2_with fail
          go_region_held3 (fun w' => w'.cell? ⟨G, 0, none⟩ = some (.string s) ∧ w'.cell? ⟨G, 1, none⟩ = some (.int .i64 (i : Int))) (go_keep) (first | (go_at_call 59; refine (HDV.out _).mono ?_; rintro e w' ⟨rfl, rfl⟩))
          all_goals go_wp2_with fail
          refine (HMU.out _ (by exact HD.out.num)).mono ?_
          rintro e w2 ⟨rfl, hm, hg⟩
          have HR2 : Hid (Rr w2 G s i) := Rr.other (w := wr) HD.out.rr hm (by omega)
          have HN2 : Hid (Lg w2 (R + 1) (valN b l * b + d) [.int .i64 (beh : Int)] 116) := hg
          have HL2 : Hid (LB w2 R 0 (dg 0) [.int .i64 0] 116) := LB.other (w := wr) HD.out.res hm (by omega)
          have HM2 : Hid (Mod G w w2) := Mod.late (a := wr) HD.out.mod hm (by rw [HRR.out]; omega)
          have hat2 := HR2.out.at_
          have hfr2 := HR2.out.froz 1
          clear hm hg htx hat hfr
          go_wp2_with fail
          have h1 := HR2.out.set (i + 1)
          rw [show ((i + 1 : Nat) : Int) = (i : Int) + 1 by omega] at h1
          refine ⟨⟨_, _, i + 1, _, l ++ [s[i]], rfl, rfl, by omega, HSN.out (), ?_⟩, ?_⟩
          · have hm3 := (Mod.refl G w2).setCell 1 (.int .i64 ((i : Int) + 1))
            refine ⟨h1, ?_, HL2.out.other hm3 (by omega), HM2.out.setCell _ _⟩
            rw [HVN.out]
            exact HN2.out.other hm3 (by omega)
          · rw [rrAt_is HD.out.rr]
            exact Nat.lt_of_le_of_lt (Nat.le_of_eq (congrArg (s.size - ·) (rrAt_is h1))) (show s.size - (i + 1) < s.size - i by omega)
        · go_wp2_with fail
          go_quiet (fail)
          go_wp2_with fail
          go_region_held3 (fun w' => w'.cell? ⟨G, 0, none⟩ = some (.string s) ∧ w'.cell? ⟨G, 1, none⟩ = some (.int .i64 (i : Int))) (go_keep) (first | (go_at_call 59; refine (HDV.out _).mono ?_; rintro e w' ⟨rfl, rfl⟩))
          all_goals go_wp2_with fail
          refine (HMU.out _ (by exact HD.out.num)).mono ?_
          rintro e w2 ⟨rfl, hm, hg⟩
          have HR2 : Hid (Rr w2 G s i) := Rr.other (w := wr) HD.out.rr hm (by omega)
          obtain ⟨c2, hc2, hk2, hl2⟩ := hg
          have HK2 : Hid (cntOk c2 (valN b l * b + d)) := hk2
          have HN2 : Hid (LB w2 (R + 1) c2 (dg (valN b l * b + d)) [.int .i64 (beh : Int)] 116) := hl2
          have HL2 : Hid (LB w2 R 0 (dg 0) [.int .i64 0] 116) := LB.other (w := wr) HD.out.res hm (by omega)
          have HM2 : Hid (Mod G w w2) := Mod.late (a := wr) HD.out.mod hm (by rw [HRR.out]; omega)
          have hat2 := HR2.out.at_
          have hfr2 := HR2.out.froz 1
          have hbe2 := hl2.beh
          have hfb2 := hl2.froz 152
          have hne1 : G ≠ R + 1 := by omega
          have hne2 : R + 1 ≠ G := by omega
          have hbl : (beh : Int) ≤ 1200 := by omega
          clear hm hl2 hk2 htx hat hfr
          go_wp2_with fail
          have h0 := HN2.out.setb (.int .i64 (((beh + 1 : Nat) : Int)))
          have hm0 := (Mod.refl (R + 1) w2).setCell 152 (.int .i64 (((beh + 1 : Nat) : Int)))
          rw [show ((beh + 1 : Nat) : Int) = (beh : Int) + 1 by omega] at h0 hm0
          have h1 := (HR2.out.other hm0 hne1).set (i + 1)
          rw [show ((i + 1 : Nat) : Int) = (i : Int) + 1 by omega] at h1
          have hm3 := (Mod.refl G (w2.setCell ⟨R + 1, 152, none⟩ (.int .i64 ((beh : Int) + 1)))).setCell 1 (.int .i64 ((i : Int) + 1))
          refine ⟨⟨_, _, i + 1, beh + 1, l ++ [s[i]], rfl, rfl, by omega, HSN.out (), ?_⟩, ?_⟩
          · refine ⟨h1, ?_, (HL2.out.other hm0 (by omega)).other hm3 (by omega), (HM2.out.late hm0 (by rw [HRR.out]; omega)).setCell _ _⟩
            rw [HVN.out]
            exact ⟨c2, hc2, HK2.out, by rw [show ((beh + 1 : Nat) : Int) = (beh : Int) + 1 by omega]; exact h0.other hm3 (by omega)⟩
          · rw [rrAt_is HD.out.rr]
            exact Nat.lt_of_le_of_lt (Nat.le_of_eq (congrArg (s.size - ·) (rrAt_is h1))) (show s.size - (i + 1) < s.size - i by omega)
      · have hdb' : decide (d < b) = false := decide_eq_false (by omega)
        have HND : Hid (¬ Dig b s i) := fun h => by have h1 := h.2; rw [HBA.out ()] at h1; have h2 := (HDS.out ()).1.2 h1; omega
        have HSE : Hid (∀ W' : World, Rr W' G s i → Calls Tryd.prog 44 #[.pointer (some ⟨G, 0, none⟩), .string ⟨#[46]⟩] W' fun e w'' => e = .returned (.bool (decide (bAt s i = 46))) ∧ ∃ n, w'' = W'.drewN n) := fun W' h => by
          have h2 := pre_one s i 46 (by decide)
          have h3 := sees_any G i s ⟨#[46]⟩ W' h hi
          rw [h2] at h3; exact h3
        clear hdb
        by_cases hdot : bAt s i = 46
        · rw [decide_eq_true hdot] at HSE
          have HDT : Hid (bAt s i = 46) := hdot
          clear hdot
          cases pt
          · cases lack
            · have HSP : Hid _ := fun (_ : Unit) => st2_point HS.out hlt (by omega) HDT.out
              go_wp2_with fail
              go_quiet (fail)
              go_wp2_with fail
              go_region_held3 (fun w' => w'.cell? ⟨G, 0, none⟩ = some (.string s) ∧ w'.cell? ⟨G, 1, none⟩ = some (.int .i64 (i : Int))) (go_keep) (first | (go_at_call 59; refine (HDV.out _).mono ?_; rintro e w' ⟨rfl, rfl⟩))
              all_goals go_wp2_with fail
              refine (HSE.out _ (by exact HD.out.rr)).mono ?_
              rintro e w' ⟨rfl, n, rfl⟩
              go_wp2_with fail
              have hbe : beh = 0 := by
                rcases HS.out with ⟨_, _, _, _, h, _⟩ | ⟨h, _⟩
                · exact h
                · cases h
              have h1 := Rr.set (w := wr.drewN (nq + 1 + n)) (show Rr _ G s i from HD.out.rr) (i + 1)
              rw [show ((i + 1 : Nat) : Int) = (i : Int) + 1 by omega] at h1
              have hm3 := (Mod.refl G (wr.drewN (nq + 1 + n))).setCell 1 (.int .i64 ((i : Int) + 1))
              refine ⟨⟨true, true, i + 1, 0, l, rfl, rfl, by omega, HSP.out (), ?_⟩, ?_⟩
              · refine ⟨h1, ?_, LB.other (w := wr.drewN (nq + 1 + n)) (show LB _ R _ _ _ _ from HD.out.res) hm3 (by omega), Mod.setCell (w := wr.drewN (nq + 1 + n)) (show Mod G w _ from HD.out.mod) _ _⟩
                have h4 := HD.out.num
                rw [hbe] at h4
                exact Lg.other (w := wr.drewN (nq + 1 + n)) (show Lg _ (R + 1) _ _ _ from h4) hm3 (by omega)
              · rw [rrAt_is HD.out.rr]
                exact Nat.lt_of_le_of_lt (Nat.le_of_eq (congrArg (s.size - ·) (rrAt_is h1))) (show s.size - (i + 1) < s.size - i by omega)
            · -- lacking, a point: an end
              go_wp2_with fail
              go_quiet (fail)
              go_wp2_with fail
              go_region_held3 (fun w' => w'.cell? ⟨G, 0, none⟩ = some (.string s) ∧ w'.cell? ⟨G, 1, none⟩ = some (.int .i64 (i : Int))) (go_keep) (first | (go_at_call 59; refine (HDV.out _).mono ?_; rintro e w' ⟨rfl, rfl⟩))
              all_goals go_wp2_with fail
              refine (HSE.out _ (by exact HD.out.rr)).mono ?_
              rintro e w' ⟨rfl, n, rfl⟩
              go_wp2_with fail
              have HEN : Hid (DgR b s k 0 0 (some i) i) := (st2_end HS.out hi HND.out (fun x => nomatch x.2.2)).1 rfl 0 0
              have HD5 : Hid (DS2 w (wr.drewN (nq + 1 + n)) G R s i (valN b l) beh) := ⟨HD.out.rr, HD.out.num, HD.out.res, HD.out.mod⟩
              generalize wr.drewN (nq + 1 + n) = w5 at *
              have hat5 := HD5.out.rr.at_
              have hat6 : (w5.drew.setRow R Tryd.zeroCells116).cell? ⟨G, 1, none⟩ = some (.int .i64 (i : Int)) := (cell_setRow_other _ R _ ⟨G, 1, none⟩ (show G ≠ R by omega)).trans hat5
              have hst5 := LB.cellsNum (w := w5.drew) HD5.out.res Tryd.zeroCells116 (by rw [zero_is, blk_size]; rfl) (by rw [zero_is]; exact blk_one _ _ _ rfl)
              have hsz5 : (Tryd.zeroCells116).size = 153 := by rw [zero_is, blk_size]; rfl
              clear htx hat hfr
              go_region
              all_goals go_wp2_with fail
              all_goals
                try rw [Exit.noGoto_ret]
                have hm6 := (Mod.refl R w5).setRow Tryd.zeroCells116
                refine bodyPost_ret (v := .tuple #[.agg (blk 0 (dg 0) [.int .i64 0]), errV (some i)]) (res_dig _ _ R 116 _ _ rfl rfl (by rw [← zero_is]; exact setRow_heap w5 R _ _ _ (0, 0) HD5.out.res) (by rw [blk_size]; rfl)) rfl ?_
                exact ⟨0, 0, some i, i, 0, HEN.out, hi, cnt_zero, by omega, by omega, Nat.pow_pos (by omega), rfl, HD5.out.rr.other hm6 (by omega), HD5.out.mod.late hm6 (by rw [HRR.out]; exact Nat.le_refl _)⟩
          · cases lack
            · go_wp2_with fail
              go_quiet (fail)
              go_wp2_with fail
              go_region_held3 (fun w' => w'.cell? ⟨G, 0, none⟩ = some (.string s) ∧ w'.cell? ⟨G, 1, none⟩ = some (.int .i64 (i : Int))) (go_keep) (first | (go_at_call 59; refine (HDV.out _).mono ?_; rintro e w' ⟨rfl, rfl⟩))
              all_goals go_wp2_with fail
              refine (HSE.out _ (by exact HD.out.rr)).mono ?_
              rintro e w' ⟨rfl, n, rfl⟩
              go_wp2_with fail
              have HEN : Hid (DgR b s k (valN b l) beh none i) := (st2_end HS.out hi HND.out (fun x => nomatch x.2.1)).2 rfl
              have HD5 : Hid (DS2 w (wr.drewN (nq + 1 + n)) G R s i (valN b l) beh) := ⟨HD.out.rr, HD.out.num, HD.out.res, HD.out.mod⟩
              generalize wr.drewN (nq + 1 + n) = w5 at *
              obtain ⟨c5, hc5, hk5, hl5⟩ := HD5.out.num
              have HK5 : Hid (cntOk c5 (valN b l)) := hk5
              have HL5 : Hid (LB w5 (R + 1) c5 (dg (valN b l)) [.int .i64 (beh : Int)] 116) := hl5
              have hst5 := LB.cellsNum (w := w5) HD5.out.res (blk c5 (dg (valN b l)) [.int .i64 (beh : Int)]) (by rw [blk_size]; rfl) (blk_one _ _ _ rfl)
              have hsz5 : (blk c5 (dg (valN b l)) [.int .i64 (beh : Int)]).size = 153 := by rw [blk_size]; rfl
              clear htx hat hfr hk5 hl5
              refine HL5.out.wpLoadNum _ rfl rfl ?_
              go_at_K
              go_wp2_with fail
              try rw [Exit.noGoto_ret]
              have hm6 := (Mod.refl R w5).setRow (blk c5 (dg (valN b l)) [.int .i64 (beh : Int)])
              refine bodyPost_ret (v := .tuple #[.agg (blk c5 (dg (valN b l)) [.int .i64 (beh : Int)]), errV none]) (res_dig _ _ R 116 _ _ rfl rfl (setRow_heap w5 R _ _ _ (0, 0) HD5.out.res) hsz5) rfl ?_
              obtain ⟨l1, l2, l3, l4⟩ := st2_len HS.out hi
              exact ⟨valN b l, beh, none, i, c5, HEN.out, hi, HK5.out, hc5, by omega, Nat.lt_of_lt_of_le (valN_good_lt b l l4) (Nat.pow_le_pow_right (by omega) (by omega)), rfl, HD5.out.rr.other hm6 (by omega), HD5.out.mod.late hm6 (by rw [HRR.out]; exact Nat.le_refl _)⟩
            · go_wp2_with fail
              go_quiet (fail)
              go_wp2_with fail
              go_region_held3 (fun w' => w'.cell? ⟨G, 0, none⟩ = some (.string s) ∧ w'.cell? ⟨G, 1, none⟩ = some (.int .i64 (i : Int))) (go_keep) (first | (go_at_call 59; refine (HDV.out _).mono ?_; rintro e w' ⟨rfl, rfl⟩))
              all_goals go_wp2_with fail
              refine (HSE.out _ (by exact HD.out.rr)).mono ?_
              rintro e w' ⟨rfl, n, rfl⟩
              go_wp2_with fail
              have HEN : Hid (DgR b s k 0 0 (some i) i) := (st2_end HS.out hi HND.out (fun x => nomatch x.2.1)).1 rfl 0 0
              have HD5 : Hid (DS2 w (wr.drewN (nq + 1 + n)) G R s i (valN b l) beh) := ⟨HD.out.rr, HD.out.num, HD.out.res, HD.out.mod⟩
              generalize wr.drewN (nq + 1 + n) = w5 at *
              have hat5 := HD5.out.rr.at_
              have hat6 : (w5.drew.setRow R Tryd.zeroCells116).cell? ⟨G, 1, none⟩ = some (.int .i64 (i : Int)) := (cell_setRow_other _ R _ ⟨G, 1, none⟩ (show G ≠ R by omega)).trans hat5
              have hst5 := LB.cellsNum (w := w5.drew) HD5.out.res Tryd.zeroCells116 (by rw [zero_is, blk_size]; rfl) (by rw [zero_is]; exact blk_one _ _ _ rfl)
              have hsz5 : (Tryd.zeroCells116).size = 153 := by rw [zero_is, blk_size]; rfl
              clear htx hat hfr
              go_region
              all_goals go_wp2_with fail
              all_goals
                try rw [Exit.noGoto_ret]
                have hm6 := (Mod.refl R w5).setRow Tryd.zeroCells116
                refine bodyPost_ret (v := .tuple #[.agg (blk 0 (dg 0) [.int .i64 0]), errV (some i)]) (res_dig _ _ R 116 _ _ rfl rfl (by rw [← zero_is]; exact setRow_heap w5 R _ _ _ (0, 0) HD5.out.res) (by rw [blk_size]; rfl)) rfl ?_
                exact ⟨0, 0, some i, i, 0, HEN.out, hi, cnt_zero, by omega, by omega, Nat.pow_pos (by omega), rfl, HD5.out.rr.other hm6 (by omega), HD5.out.mod.late hm6 (by rw [HRR.out]; exact Nat.le_refl _)⟩
        · rw [decide_eq_false hdot] at HSE
          have HDT : Hid (¬ bAt s i = 46) := hdot
          clear hdot
          cases lack
          · go_wp2_with fail
            go_quiet (fail)
            go_wp2_with fail
            go_region_held3 (fun w' => w'.cell? ⟨G, 0, none⟩ = some (.string s) ∧ w'.cell? ⟨G, 1, none⟩ = some (.int .i64 (i : Int))) (go_keep) (first | (go_at_call 59; refine (HDV.out _).mono ?_; rintro e w' ⟨rfl, rfl⟩))
            all_goals go_wp2_with fail
            refine (HSE.out _ (by exact HD.out.rr)).mono ?_
            rintro e w' ⟨rfl, n, rfl⟩
            go_wp2_with fail
            have HEN : Hid (DgR b s k (valN b l) beh none i) := (st2_end HS.out hi HND.out (fun x => HDT.out x.1)).2 rfl
            have HD5 : Hid (DS2 w (wr.drewN (nq + 1 + n)) G R s i (valN b l) beh) := ⟨HD.out.rr, HD.out.num, HD.out.res, HD.out.mod⟩
            generalize wr.drewN (nq + 1 + n) = w5 at *
            obtain ⟨c5, hc5, hk5, hl5⟩ := HD5.out.num
            have HK5 : Hid (cntOk c5 (valN b l)) := hk5
            have HL5 : Hid (LB w5 (R + 1) c5 (dg (valN b l)) [.int .i64 (beh : Int)] 116) := hl5
            have hst5 := LB.cellsNum (w := w5) HD5.out.res (blk c5 (dg (valN b l)) [.int .i64 (beh : Int)]) (by rw [blk_size]; rfl) (blk_one _ _ _ rfl)
            have hsz5 : (blk c5 (dg (valN b l)) [.int .i64 (beh : Int)]).size = 153 := by rw [blk_size]; rfl
            clear htx hat hfr hk5 hl5
            refine HL5.out.wpLoadNum _ rfl rfl ?_
            go_at_K
            go_wp2_with fail
            try rw [Exit.noGoto_ret]
            have hm6 := (Mod.refl R w5).setRow (blk c5 (dg (valN b l)) [.int .i64 (beh : Int)])
            refine bodyPost_ret (v := .tuple #[.agg (blk c5 (dg (valN b l)) [.int .i64 (beh : Int)]), errV none]) (res_dig _ _ R 116 _ _ rfl rfl (setRow_heap w5 R _ _ _ (0, 0) HD5.out.res) hsz5) rfl ?_
            obtain ⟨l1, l2, l3, l4⟩ := st2_len HS.out hi
            exact ⟨valN b l, beh, none, i, c5, HEN.out, hi, HK5.out, hc5, by omega, Nat.lt_of_lt_of_le (valN_good_lt b l l4) (Nat.pow_le_pow_right (by omega) (by omega)), rfl, HD5.out.rr.other hm6 (by omega), HD5.out.mod.late hm6 (by rw [HRR.out]; exact Nat.le_refl _)⟩
          · go_wp2_with fail
            go_quiet (fail)
            go_wp2_with fail
            go_region_held3 (fun w' => w'.cell? ⟨G, 0, none⟩ = some (.string s) ∧ w'.cell? ⟨G, 1, none⟩ = some (.int .i64 (i : Int))) (go_keep) (first | (go_at_call 59; refine (HDV.out _).mono ?_; rintro e w' ⟨rfl, rfl⟩))
            all_goals go_wp2_with fail
            refine (HSE.out _ (by exact HD.out.rr)).mono ?_
            rintro e w' ⟨rfl, n, rfl⟩
            go_wp2_with fail
            have HEN : Hid (DgR b s k 0 0 (some i) i) := (st2_end HS.out hi HND.out (fun x => HDT.out x.1)).1 rfl 0 0
            have HD5 : Hid (DS2 w (wr.drewN (nq + 1 + n)) G R s i (valN b l) beh) := ⟨HD.out.rr, HD.out.num, HD.out.res, HD.out.mod⟩
            generalize wr.drewN (nq + 1 + n) = w5 at *
            have hat5 := HD5.out.rr.at_
            have hat6 : (w5.drew.setRow R Tryd.zeroCells116).cell? ⟨G, 1, none⟩ = some (.int .i64 (i : Int)) := (cell_setRow_other _ R _ ⟨G, 1, none⟩ (show G ≠ R by omega)).trans hat5
            have hst5 := LB.cellsNum (w := w5.drew) HD5.out.res Tryd.zeroCells116 (by rw [zero_is, blk_size]; rfl) (by rw [zero_is]; exact blk_one _ _ _ rfl)
            have hsz5 : (Tryd.zeroCells116).size = 153 := by rw [zero_is, blk_size]; rfl
            clear htx hat hfr
            go_region
            all_goals go_wp2_with fail
            all_goals
              try rw [Exit.noGoto_ret]
              have hm6 := (Mod.refl R w5).setRow Tryd.zeroCells116
              refine bodyPost_ret (v := .tuple #[.agg (blk 0 (dg 0) [.int .i64 0]), errV (some i)]) (res_dig _ _ R 116 _ _ rfl rfl (by rw [← zero_is]; exact setRow_heap w5 R _ _ _ (0, 0) HD5.out.res) (by rw [blk_size]; rfl)) rfl ?_
              exact ⟨0, 0, some i, i, 0, HEN.out, hi, cnt_zero, by omega, by omega, Nat.pow_pos (by omega), rfl, HD5.out.rr.other hm6 (by omega), HD5.out.mod.late hm6 (by rw [HRR.out]; exact Nat.le_refl _)⟩
    · have hlt' : decide ((i : Int) < (s.size : Int)) = false := decide_eq_false (by omega)
      have HND : Hid (¬ Dig b s i) := fun h => hlt h.1
      have HDT : Hid (¬ bAt s i = 46) := fun h => by rw [bAt_out s i hlt] at h; omega
      cases lack
      · go_wp2_with fail
        go_quiet (fail)
        go_wp2_with fail
        have HEN : Hid (DgR b s k (valN b l) beh none i) := (st2_end HS.out hi HND.out (fun x => HDT.out x.1)).2 rfl
        have HD5 : Hid (DS2 w (wr.drewN nq) G R s i (valN b l) beh) := ⟨HD.out.rr, HD.out.num, HD.out.res, HD.out.mod⟩
        generalize wr.drewN nq = w5 at *
        obtain ⟨c5, hc5, hk5, hl5⟩ := HD5.out.num
        have HK5 : Hid (cntOk c5 (valN b l)) := hk5
        have HL5 : Hid (LB w5 (R + 1) c5 (dg (valN b l)) [.int .i64 (beh : Int)] 116) := hl5
        have hst5 := LB.cellsNum (w := w5) HD5.out.res (blk c5 (dg (valN b l)) [.int .i64 (beh : Int)]) (by rw [blk_size]; rfl) (blk_one _ _ _ rfl)
        have hsz5 : (blk c5 (dg (valN b l)) [.int .i64 (beh : Int)]).size = 153 := by rw [blk_size]; rfl
        clear htx hat hfr hk5 hl5
        refine HL5.out.wpLoadNum _ rfl rfl ?_
        go_at_K
        go_wp2_with fail
        try rw [Exit.noGoto_ret]
        have hm6 := (Mod.refl R w5).setRow (blk c5 (dg (valN b l)) [.int .i64 (beh : Int)])
        refine bodyPost_ret (v := .tuple #[.agg (blk c5 (dg (valN b l)) [.int .i64 (beh : Int)]), errV none]) (res_dig _ _ R 116 _ _ rfl rfl (setRow_heap w5 R _ _ _ (0, 0) HD5.out.res) hsz5) rfl ?_
        obtain ⟨l1, l2, l3, l4⟩ := st2_len HS.out hi
        exact ⟨valN b l, beh, none, i, c5, HEN.out, hi, HK5.out, hc5, by omega, Nat.lt_of_lt_of_le (valN_good_lt b l l4) (Nat.pow_le_pow_right (by omega) (by omega)), rfl, HD5.out.rr.other hm6 (by omega), HD5.out.mod.late hm6 (by rw [HRR.out]; exact Nat.le_refl _)⟩
      · go_wp2_with fail
        go_quiet (fail)
        go_wp2_with fail
        have HEN : Hid (DgR b s k 0 0 (some i) i) := (st2_end HS.out hi HND.out (fun x => HDT.out x.1)).1 rfl 0 0
        have HD5 : Hid (DS2 w (wr.drewN nq) G R s i (valN b l) beh) := ⟨HD.out.rr, HD.out.num, HD.out.res, HD.out.mod⟩
        generalize wr.drewN nq = w5 at *
        have hat5 := HD5.out.rr.at_
        have hat6 : (w5.drew.setRow R Tryd.zeroCells116).cell? ⟨G, 1, none⟩ = some (.int .i64 (i : Int)) := (cell_setRow_other _ R _ ⟨G, 1, none⟩ (show G ≠ R by omega)).trans hat5
        have hst5 := LB.cellsNum (w := w5.drew) HD5.out.res Tryd.zeroCells116 (by rw [zero_is, blk_size]; rfl) (by rw [zero_is]; exact blk_one _ _ _ rfl)
        have hsz5 : (Tryd.zeroCells116).size = 153 := by rw [zero_is, blk_size]; rfl
        clear htx hat hfr
        go_region
        all_goals go_wp2_with fail
        all_goals
          try rw [Exit.noGoto_ret]
          have hm6 := (Mod.refl R w5).setRow Tryd.zeroCells116
          refine bodyPost_ret (v := .tuple #[.agg (blk 0 (dg 0) [.int .i64 0]), errV (some i)]) (res_dig _ _ R 116 _ _ rfl rfl (by rw [← zero_is]; exact setRow_heap w5 R _ _ _ (0, 0) HD5.out.res) (by rw [blk_size]; rfl)) rfl ?_
          exact ⟨0, 0, some i, i, 0, HEN.out, hi, cnt_zero, by omega, by omega, Nat.pow_pos (by omega), rfl, HD5.out.rr.other hm6 (by omega), HD5.out.mod.late hm6 (by rw [HRR.out]; exact Nat.le_refl _)⟩
end Go.Proofs.YtonobdlncjgfhaaDoor

/- trim of the program's numbers. -/
namespace Go.Proofs.YtonobdlncjgfhaaDoor
open Go.ChangeShapes Go.WideShapes Go.RowKit

set_option maxHeartbeats 1000000 in
set_option maxRecDepth 100000 in
theorem trim_any (B N c : Nat) (R : List Value) (t : TypeId) (w : World) (hc : c ≤ 151) (hN : N < be ^ c) (h : LB w B c (dg N) R t) :
    Calls Tryd.prog 68 #[.pointer (some ⟨B, 0, none⟩)] w fun e w' => e = .returned (.tuple #[]) ∧ Mod B w w' ∧ Lg w' B N R t := by
  have HL : Hid (LB w B c (dg N) R t) := h
  have HN : Hid (N < be ^ c) := hN
  clear h hN
  go_enter Tryd.func68, Tryd.ntmps68
  go_wp2
  go_loopw [2] (fun _ wl => ∃ k : Nat, k ≤ 151 ∧ Hid (N < be ^ k) ∧ Hid (LB wl B k (dg N) R t) ∧ Hid (Mod B w wl)) (fun _ wl => (intOf ((wl.cell? ⟨B, 0, none⟩).getD (.int .i64 0))).toNat)
  case atStart => exact ⟨c, hc, HN.out, HL.out, Mod.refl B w⟩
  case round =>
    obtain ⟨k, hk, HK, HB, HMd⟩ := hrel
    have hcnt := HB.out.cnt
    by_cases h0 : 0 < k
    · have hd : decide ((0 : Int) < (k : Int)) = true := decide_eq_true (by omega)
      obtain ⟨j, rfl⟩ : ∃ j, k = j + 1 := ⟨k - 1, by omega⟩
      have hk1 : (j : Int) < 151 := by omega
      have hw := HB.out.wrd' j (by omega)
      have hfr0 := HB.out.froz 0
      obtain ⟨d, hd'⟩ : ∃ d, dg N j = d := ⟨_, rfl⟩
      have HD : Hid (dg N j = d) := hd'
      have e1 : ((j + 1 : Nat) : Int) = (j : Int) + 1 := by omega
      rw [e1] at hcnt hd
      rw [hd'] at hw
      clear hd' e1
      by_cases hz : d = 0
      · have hb : ((d : Int) == 0) = true := by rw [hz]; rfl
        go_wp2
        go_quiet (fail)
        go_wp2
        have hl : LB ((wr.drewN nq).setCell ⟨B, 0, none⟩ (.int .i64 (j : Int))) B j (dg N) R t := (HB.out.drewN nq).setc j
        refine ⟨⟨j, by omega, ?_, hl, (HMd.out.drewN _).setCell _ _⟩, ?_⟩
        · show N < be ^ j
          have h1 := HD.out
          have h2 := HK.out
          rw [hz] at h1
          have h3 : N / be ^ j < be := by rw [Nat.div_lt_iff_lt_mul (bpow_pos j), Nat.mul_comm, ← Nat.pow_succ]; exact h2
          unfold dg at h1
          rw [Nat.mod_eq_of_lt h3] at h1
          rcases Nat.lt_or_ge N (be ^ j) with h | h
          · exact h
          · have := Nat.div_pos h (bpow_pos j); omega
        · rw [hl.cnt, hcnt]
          show (j : Int).toNat < ((j : Int) + 1).toNat; omega
      · have hb : ((d : Int) == 0) = false := beq_eq_false_iff_ne.2 (by omega)
        go_wp2
        go_quiet (fail)
        go_wp2
        go_end0
        refine ⟨rfl, HMd.out.drewN _, j + 1, by omega, ⟨HK.out, fun _ => ?_⟩, HB.out.drewN nq⟩
        rw [Nat.add_sub_cancel]
        rcases Nat.lt_or_ge N (be ^ j) with h | h
        · have h1 := HD.out; rw [dg_big N j h] at h1; omega
        · exact h
    · have hd : decide ((0 : Int) < (k : Int)) = false := decide_eq_false (by omega)
      go_wp2
      go_quiet (fail)
      go_wp2
      go_end0
      exact ⟨rfl, HMd.out.drewN _, k, by omega, ⟨HK.out, fun h => by omega⟩, HB.out.drewN nq⟩
end Go.Proofs.YtonobdlncjgfhaaDoor

/- shift of the program's numbers. -/
namespace Go.Proofs.YtonobdlncjgfhaaDoor
open Go.ChangeShapes Go.WideShapes Go.RowKit

/-- The two halves of a shifted word. -/
theorem or_sh (a1 a2 m n : Nat) (hm : m < 32) (hn : n = 32 - m) (hb2 : a2 < 4294967296) : bits .or .u32 ((a1 : Int) * 2 ^ m % 4294967296) ((a2 : Int) / 2 ^ n) = ((a1 * 2 ^ m % be + a2 / 2 ^ n : Nat) : Int) := by
  have hb : be = 2 ^ n * 2 ^ m := by rw [← Nat.pow_add, show n + m = 32 by omega]; rfl
  have e1 : (a1 : Int) * 2 ^ m % 4294967296 = ((a1 * 2 ^ m % be : Nat) : Int) := by
    rw [Int.natCast_emod, Int.natCast_mul, Int.natCast_pow]; rfl
  have e2 : (a2 : Int) / 2 ^ n = ((a2 / 2 ^ n : Nat) : Int) := by rw [Int.natCast_ediv, Int.natCast_pow]; rfl
  rw [e1, e2]
  have h1 : a2 / 2 ^ n < 2 ^ m := by rw [Nat.div_lt_iff_lt_mul (Nat.two_pow_pos n), Nat.mul_comm, ← hb]; exact hb2
  have h2 : a1 * 2 ^ m % be = 2 ^ m * (a1 % 2 ^ n) := by rw [hb, Nat.mul_mod_mul_right, Nat.mul_comm]
  have h3 : a2 / 2 ^ n < 4294967296 := Nat.lt_of_le_of_lt (Nat.div_le_self _ _) hb2
  rw [u32_or_nat (a1 * 2 ^ m % be) (a2 / 2 ^ n) (Nat.mod_lt _ be_pos) h3, h2, ← Nat.two_pow_add_eq_or_of_lt h1]
/-- The words while a number is shifted: from the i-th on they are done. -/
def wtop (N M i : Nat) : Nat → Nat := fun j => if j < i then dg N j else dg M j
theorem wtop_step (N M i : Nat) : upd (wtop N M (i + 1)) i (dg M i) = wtop N M i := by
  funext j
  unfold upd wtop
  by_cases h : j = i
  · subst h; rw [if_pos rfl, if_neg (by omega)]
  · rw [if_neg h]
    by_cases h' : j < i
    · rw [if_pos h', if_pos (by omega)]
    · rw [if_neg h', if_neg (by omega)]
theorem wtop_low (N M i j : Nat) (h : j < i) : wtop N M i j = dg N j := by unfold wtop; rw [if_pos h]
set_option maxHeartbeats 2000000 in
set_option maxRecDepth 100000 in
theorem shift_any (B N s : Nat) (R : List Value) (t : TypeId) (w : World) (c : Nat) (hk : cntOk c N) (h : LB w B c (dg N) R t) (hs : c + s / 32 + 1 ≤ 151) :
    Calls Tryd.prog 64 #[.pointer (some ⟨B, 0, none⟩), .int .i64 (s : Int)] w fun e w' => e = .returned (.tuple #[]) ∧ Mod B w w' ∧ Lg w' B (N * 2 ^ s) R t := by
  have HW : Hid _ := fun v w => width_any v w
  have HK : Hid (cntOk c N) := hk
  have HL : Hid (LB w B c (dg N) R t) := h
  obtain ⟨q, hq⟩ : ∃ q, s / 32 = q := ⟨_, rfl⟩
  obtain ⟨m, hm⟩ : ∃ m, s % 32 = m := ⟨_, rfl⟩
  obtain ⟨M, hM⟩ : ∃ M, N * 2 ^ s = M := ⟨_, rfl⟩
  have HQ : Hid (s / 32 = q) := hq
  have HR : Hid (s % 32 = m) := hm
  have HM : Hid (N * 2 ^ s = M) := hM
  have hm1 : m < 32 := by omega
  have hs1 : (s : Int) / 32 = (q : Int) := by omega
  have hs2 : (s : Int) % 32 = (m : Int) := by omega
  have hs0 : (s : Int) ≤ 4831 := by omega
  rw [hM]
  rw [hq] at hs
  have hcnt := h.cnt
  have hfr := h.froz 0
  clear hk h hM hq hm
  go_enter Tryd.func64, Tryd.ntmps64
  go_wp2
  go_quiet (first | (go_at_call 62; exact Calls.quiet_of_same (HW.out _ _)))
  go_wp2
  simp only [hs2]
  have HMB : Hid (M < be ^ (c + q + 1)) := by
    show M < be ^ (c + q + 1)
    have h1 : N * 2 ^ s < be ^ c * 2 ^ s := Nat.mul_lt_mul_of_pos_right HK.out.1 (Nat.two_pow_pos s)
    have h2 : be ^ c * 2 ^ s ≤ be ^ (c + q + 1) := by
      rw [be_two, be_two, ← Nat.pow_add]
      exact Nat.pow_le_pow_right (by omega) (by have := HQ.out; have := HR.out; omega)
    rw [← HM.out]; omega
  go_loopw [6] (fun iv wl => ∃ (i : Nat) (x : Int), iv = .int .i64 x ∧ x = (i : Int) - 1 ∧ i ≤ c + q + 1 ∧ Hid (LB wl B (c + q + 1) (wtop N M i) R t) ∧ Hid (Mod B w wl)) (fun iv _ => (intOf iv + 1).toNat)
  case atStart =>
    refine ⟨c + q + 1, _, rfl, by omega, Nat.le_refl _, ?_, (Mod.refl B w).drewN _ |>.setCell _ _⟩
    have h1 := ((HL.out.drewN nq).setc (c + q + 1)).congr (wtop N M (c + q + 1)) fun j _ => by
      unfold wtop
      split
      · rfl
      · rw [dg_above N j (c + q + 1) (Nat.lt_of_lt_of_le HK.out.1 (bpow_le (by omega))) (by omega), dg_above M j (c + q + 1) HMB.out (by omega)]
    rw [show ((c + q + 1 : Nat) : Int) = (c : Int) + ((q : Int) + 1) by omega] at h1
    exact h1
  case round =>
    clear hcnt hfr
    obtain ⟨i, x, rfl, hx, hi, HB, HMd⟩ := hrel
    by_cases h0 : 0 < i
    · obtain ⟨k, rfl⟩ : ∃ k, i = k + 1 := ⟨i - 1, by omega⟩
      obtain rfl : x = (k : Int) := by omega
      have hk0 : (0 : Int) ≤ (k : Int) := by omega
      have hk1 : (k : Int) < 151 := by omega
      obtain ⟨a1, ha1⟩ : ∃ a1 : Nat, a1 = (if (k : Int) - (q : Int) < 0 then 0 else dg N (k - q)) := ⟨_, rfl⟩
      obtain ⟨a2, ha2⟩ : ∃ a2 : Nat, a2 = (if (k : Int) - (q : Int) - 1 < 0 then 0 else dg N (k - q - 1)) := ⟨_, rfl⟩
      have hb1 : a1 < 4294967296 := by rw [ha1]; split; · omega
                                       · exact dg_lt _ _
      have hb2 : a2 < 4294967296 := by rw [ha2]; split; · omega
                                       · exact dg_lt _ _
      have HA1 : Hid (∀ W : World, LB W B (c + q + 1) (wtop N M (k + 1)) R t → Calls Tryd.prog 67 #[.pointer (some ⟨B, 0, none⟩), .int .i64 ((k : Int) - (q : Int))] W fun e w' => e = .returned (.int .u32 (a1 : Int)) ∧ w' = W) := fun W h => by
        refine (wordAt_any B _ _ R t W h _ (by omega)).mono ?_
        rintro e w' ⟨rfl, rfl⟩
        refine ⟨?_, rfl⟩
        rw [ha1]
        split
        · rfl
        · rw [wtop_low _ _ _ _ (by omega), show ((k : Int) - (q : Int)).toNat = k - q by omega]
      have HA2 : Hid (∀ W : World, LB W B (c + q + 1) (wtop N M (k + 1)) R t → Calls Tryd.prog 67 #[.pointer (some ⟨B, 0, none⟩), .int .i64 ((k : Int) - (q : Int) - 1)] W fun e w' => e = .returned (.int .u32 (a2 : Int)) ∧ w' = W) := fun W h => by
        refine (wordAt_any B _ _ R t W h _ (by omega)).mono ?_
        rintro e w' ⟨rfl, rfl⟩
        refine ⟨?_, rfl⟩
        rw [ha2]
        split
        · rfl
        · rw [wtop_low _ _ _ _ (by omega), show ((k : Int) - (q : Int) - 1).toNat = k - q - 1 by omega]
      have w1 : IntKind.i64.wrap ((k : Int) - (q : Int)) = (k : Int) - (q : Int) := by rw [IntKind.wrap_i64]; omega
      have w2 : IntKind.i64.wrap (IntKind.i64.wrap ((k : Int) - (q : Int)) - 1) = (k : Int) - (q : Int) - 1 := by rw [w1, IntKind.wrap_i64]; omega
      rw [← w1] at HA1
      rw [← w2] at HA2
      clear w1 w2
      have HV1 : Hid (a1 = (if (k : Int) - (q : Int) < 0 then 0 else dg N (k - q))) := ha1
      have HV2 : Hid (a2 = (if (k : Int) - (q : Int) - 1 < 0 then 0 else dg N (k - q - 1))) := ha2
      have hw := HB.out.wrd' k (by omega)
      obtain ⟨n, hn⟩ : ∃ n : Nat, n = 32 - m := ⟨_, rfl⟩
      have HNn : Hid (n = 32 - m) := hn
      have hsh : IntKind.i64.wrap (32 - (m : Int)) = (n : Int) := by rw [IntKind.wrap_i64]; omega
      have hn1 : n ≤ 32 := by omega
      clear hn
      have hfr := HB.out.froz (1 + k)
      clear ha1 ha2 h0 hx
      go_wp2
      go_region_with (first | (go_at_call 62; refine (HW.out _ _).mono ?_; rintro e w' ⟨rfl, rfl⟩) | (go_at_call_of 67 (Value.int .i64 (IntKind.i64.wrap ((k : Int) - (q : Int)))); refine (HA1.out _ (by exact HB.out)).mono ?_; rintro e w' ⟨rfl, rfl⟩) | (go_at_call 67; refine (HA2.out _ (by exact HB.out)).mono ?_; rintro e w' ⟨rfl, rfl⟩))
      go_wp2
      have ev : bits .or .u32 ((a1 : Int) * 2 ^ m % 4294967296) ((a2 : Int) / 2 ^ n) = ((dg M k : Nat) : Int) := by
        rw [or_sh a1 a2 m n hm1 HNn.out hb2, ← HM.out, dg_shift, HQ.out, HR.out, ← HNn.out, HV1.out, HV2.out]
        congr 2
        · by_cases hq : k < q
          · rw [if_pos (by omega), if_pos hq]
          · rw [if_neg (by omega), if_neg hq]
        · by_cases hq : k < q + 1
          · rw [if_pos (by omega), if_pos hq]
          · rw [if_neg (by omega), if_neg hq]
      rw [ev]
      refine ⟨⟨k, (k : Int) - 1, rfl, rfl, by omega, ?_, (HMd.out.setCell _ _).drewN 1⟩, ?_⟩
      · have h1 := HB.out.setw' k (dg M k) (by omega)
        rw [wtop_step] at h1
        exact h1.drewN 1
      · show ((k : Int) - 1 + 1).toNat < ((k : Int) + 1).toNat; omega
    · have h0' : decide ((0 : Int) ≤ x) = false := decide_eq_false (by omega)
      obtain rfl : i = 0 := by omega
      have HT : Hid (LB wr B (c + q + 1) (dg M) R t) := HB.out.congr _ fun j _ => by unfold wtop; rw [if_neg (by omega)]
      go_wp2_with (go_at_call 68; refine (trim_any B M (c + q + 1) R t _ hs HMB.out HT.out).mono ?_; rintro e w' ⟨rfl, hm1, hg⟩)
      go_end0
      exact ⟨rfl, HMd.out.trans hm1, hg⟩
end Go.Proofs.YtonobdlncjgfhaaDoor

/- length, order of the program's numbers. -/
namespace Go.Proofs.YtonobdlncjgfhaaDoor
open Go.ChangeShapes Go.WideShapes Go.RowKit

theorem length_any (B N c : Nat) (R : List Value) (t : TypeId) (w : World) (hc : c ≤ 151) (hk : cntOk c N) (h : LB w B c (dg N) R t) :
    Calls Tryd.prog 63 #[.pointer (some ⟨B, 0, none⟩)] w fun e w' => e = .returned (.int .i64 (bitLen N : Int)) ∧ ∃ n, w' = w.drewN n := by
  have HW : Hid _ := fun v w => width_any v w
  have hcnt := h.cnt
  by_cases h0 : c = 0
  · subst h0
    have h1 : N = 0 := by have := hk.1; rw [Nat.pow_zero] at this; omega
    subst h1
    rw [show bitLen 0 = 0 from rfl]
    clear hk h
    go_enter Tryd.func63, Tryd.ntmps63
    go_wp2
    go_ret
    exact ⟨rfl, 0, rfl⟩
  · obtain ⟨j, rfl⟩ : ∃ j, c = j + 1 := ⟨c - 1, by omega⟩
    have hl := len_words hk (by omega)
    rw [Nat.add_sub_cancel] at hl
    have hw := h.wrd' j (by omega)
    have hj : (j : Int) < 151 := by omega
    have hb : ((j : Int) + 1 == 0) = false := beq_eq_false_iff_ne.2 (by omega)
    rw [show ((j + 1 : Nat) : Int) = (j : Int) + 1 by omega] at hcnt
    have hd := dg_lt N j
    generalize dg N j = d at *
    have HL : Hid _ := fun w => len64_any (d : Int) (by omega) (by omega) w
    rw [Int.toNat_natCast] at HL
    have h64 : bitLen d ≤ 64 := by
      have := bitLen_spec d
      rcases Nat.lt_or_ge 64 (bitLen d) with h | h
      · have h1 : d ≠ 0 := by rintro rfl; simp [bitLen] at h
        have h2 := this.2 h1
        have h3 : (2 : Nat) ^ 64 ≤ 2 ^ (bitLen d - 1) := Nat.pow_le_pow_right (by omega) (by omega)
        have h4 : (2 : Nat) ^ 64 = 18446744073709551616 := rfl
        omega
      · exact h
    rw [← hl]
    generalize bitLen d = L at *
    clear hk h hl h0
    go_enter Tryd.func63, Tryd.ntmps63
    go_wp2
    go_quiet (first | (go_at_call 62; exact Calls.quiet_of_same (HW.out _ _)) | (go_at_call 14; exact Calls.quiet_of_same (HL.out _)))
    go_wp2
    go_ret
    exact ⟨by congr 2, _, rfl⟩

/-- What is said of two numbers' order. -/
def ordN (N M : Nat) : Int := if N < M then -1 else if M < N then 1 else 0
theorem isNaN32_any (x : Int) (w : World) :
    Calls Tryd.prog 70 #[.int .u32 x] w fun e w' => e = .returned (.bool false) ∧ w' = w := by
  go_enter Tryd.func70, Tryd.ntmps70
  go_wp2
  go_ret
  exact ⟨rfl, rfl⟩
theorem cmp32_any (a b : Nat) (w : World) (hne : a ≠ b) :
    Calls Tryd.prog 69 #[.int .u32 (a : Int), .int .u32 (b : Int)] w fun e w' => e = .returned (.int .i64 (if a < b then -1 else 1)) ∧ w' = w := by
  have HN : Hid _ := fun x w => isNaN32_any x w
  by_cases h1 : a < b
  · rw [if_pos h1]
    have h1' : (a : Int) < (b : Int) := by omega
    go_enter Tryd.func69, Tryd.ntmps69
    go_wp2_with (go_at_call 70; refine (HN.out _ _).mono ?_; rintro e w' ⟨rfl, rfl⟩)
    go_ret
    exact ⟨rfl, rfl⟩
  · rw [if_neg h1]
    have h2 : (b : Int) < (a : Int) := by omega
    go_enter Tryd.func69, Tryd.ntmps69
    go_wp2_with (go_at_call 70; refine (HN.out _ _).mono ?_; rintro e w' ⟨rfl, rfl⟩)
    go_ret
    exact ⟨rfl, rfl⟩
set_option maxHeartbeats 1000000 in
set_option maxRecDepth 100000 in
theorem order_any (B N M c k : Nat) (R : List Value) (t : TypeId) (w : World) (hc : c ≤ 151) (hk : k ≤ 151) (hN : cntOk c N) (hM : cntOk k M) (h : LB w B c (dg N) R t) :
    Calls Tryd.prog 65 #[.pointer (some ⟨B, 0, none⟩), lgV k M] w fun e w' => e = .returned (.int .i64 (ordN N M)) ∧ Below w.heap.size w w' := by
  have HN : Hid (cntOk c N) := hN
  have HM : Hid (cntOk k M) := hM
  have HL : Hid (LB w B c (dg N) R t) := h
  have hlt := h.lt
  have h0 : (lgL k (dg M)).toArray = blk k (dg M) [] := by unfold blk; rw [List.append_nil]
  unfold lgV
  rw [h0]
  have HB1 : Hid (LB (w.alloc (.cells (blk k (dg M) []) 114)) B c (dg N) R t) := h.alloc _
  have HB2 : Hid (LB (w.alloc (.cells (blk k (dg M) []) 114)) w.heap.size k (dg M) [] 114) := LB.new w k (dg M) [] _
  obtain ⟨C, hC⟩ : ∃ C, blk k (dg M) [] = C := ⟨_, rfl⟩
  rw [hC] at HB1 HB2 ⊢
  clear hN hM h h0 hC
  obtain ⟨W, hW⟩ : ∃ W, w.alloc (.cells C 114) = W := ⟨_, rfl⟩
  rw [hW] at HB1 HB2
  have HBW : Hid (Below w.heap.size w W) := by rw [← hW]; exact (Below.refl _ w).alloc (Nat.le_refl _) _
  have hc1 := HB1.out.cnt
  have hc2 := HB2.out.cnt
  obtain ⟨D, hD⟩ : ∃ D, w.heap.size = D := ⟨_, rfl⟩
  have HD : Hid (w.heap.size = D) := hD
  go_enter Tryd.func65, Tryd.ntmps65
  go_wp2
  rw [hD] at hc2 HB2 hlt
  clear hW hD HL
  go_region_held3 (fun w' => w'.cell? ⟨B, 0, none⟩ = some (.int .i64 (c : Int)) ∧ w'.cell? ⟨D, 0, none⟩ = some (.int .i64 (k : Int))) (go_keep) (fail)
  all_goals go_wp2
  all_goals
    have HST : Hid (∃ j : Nat, j ≤ 151 ∧ c ≤ j ∧ k ≤ j ∧ (if c < k then IntKind.i64.wrap ((k : Int) - 1) else IntKind.i64.wrap ((c : Int) - 1)) = (j : Int) - 1) := by
      by_cases hck : c < k
      · refine ⟨k, hk, by omega, by omega, ?_⟩
        rw [if_pos hck, IntKind.wrap_i64]; omega
      · refine ⟨c, hc, by omega, by omega, ?_⟩
        rw [if_neg hck, IntKind.wrap_i64]; omega
    first
      | rw [if_pos (show c < k by assumption)] at HST
      | rw [if_neg (show ¬ c < k by assumption)] at HST
    clear hc1 hc2
    go_loopw [5] (fun iv wl => ∃ (j : Nat) (x : Int), iv = .int .i64 x ∧ x = (j : Int) - 1 ∧ j ≤ 151 ∧ Hid (N / be ^ j = M / be ^ j) ∧ Hid (LB wl B c (dg N) R t) ∧ Hid (LB wl D k (dg M) [] 114) ∧ Hid (Below w.heap.size w wl)) (fun iv _ => (intOf iv + 1).toNat)
    case atStart =>
      obtain ⟨j, h1, h2, h3, h4⟩ := HST.out
      refine ⟨j, _, rfl, h4, h1, ?_, HB1.out.drewN 1, HB2.out.drewN 1, HBW.out.drew⟩
      show N / be ^ j = M / be ^ j
      rw [Nat.div_eq_of_lt (Nat.lt_of_lt_of_le HN.out.1 (bpow_le h2)), Nat.div_eq_of_lt (Nat.lt_of_lt_of_le HM.out.1 (bpow_le h3))]
    case round =>
      clear HST HBW HB1 HB2
      obtain ⟨j, x, rfl, hx, hj, HE, HB1, HB2, HBW⟩ := hrel
      by_cases h0 : 0 < j
      · obtain ⟨i, rfl⟩ : ∃ i, j = i + 1 := ⟨j - 1, by omega⟩
        obtain rfl : x = (i : Int) := by omega
        have hi0 : (0 : Int) ≤ (i : Int) := by omega
        have hi1 : (i : Int) < 151 := by omega
        have hw1 := HB1.out.wrd' i (by omega)
        have hw2 := HB2.out.wrd' i (by omega)
        obtain ⟨e1, e2⟩ := dg_cmp N M i HE.out
        have HE1 : Hid _ := fun (_ : Unit) => e1
        have HE2 : Hid _ := fun (_ : Unit) => e2
        generalize dg N i = d1 at *
        generalize dg M i = d2 at *
        clear h0 hx e1 e2
        by_cases hd : d1 = d2
        · subst hd
          go_wp2
          go_quiet (fail)
          go_wp2
          refine ⟨⟨i, _, rfl, rfl, by omega, ?_, HB1.out.drewN _, HB2.out.drewN _, below_drewN HBW.out _⟩, ?_⟩
          · show N / be ^ i = M / be ^ i
            rw [HE1.out (), HE2.out ()]
          · show ((i : Int) - 1 + 1).toNat < ((i : Int) + 1).toNat; omega
        · have hb : ((d1 : Int) == (d2 : Int)) = false := beq_eq_false_iff_ne.2 (by omega)
          have HR : Hid ((if d1 < d2 then (-1 : Int) else 1) = ordN N M) := by
            show _ = ordN N M
            unfold ordN
            by_cases hl : d1 < d2
            · rw [if_pos hl, if_pos (div_lt_of N M i (by rw [HE1.out (), HE2.out ()]; omega))]
            · have : M < N := div_lt_of M N i (by rw [HE1.out (), HE2.out ()]; omega)
              rw [if_neg hl, if_neg (by omega), if_pos this]
          have HC : Hid (∀ w, Calls Tryd.prog 69 #[.int .u32 (d1 : Int), .int .u32 (d2 : Int)] w fun e w' => e = .returned (.int .i64 (ordN N M)) ∧ w' = w) := fun w => by rw [← HR.out]; exact cmp32_any d1 d2 w hd
          clear hd
          go_wp2
          go_quiet (fail)
          go_wp2
          go_region_held3 (fun w' => w'.cell? ⟨B, 1 + i, none⟩ = some (.int .u32 (d1 : Int)) ∧ w'.cell? ⟨D, 1 + i, none⟩ = some (.int .u32 (d2 : Int))) (go_keep) (first | (go_at_call 69; refine (HC.out _).mono ?_; rintro e w' ⟨rfl, rfl⟩))
          all_goals go_wp2
          go_ret
          exact ⟨rfl, (below_drewN HBW.out _).drew⟩
      · have h0' : decide ((0 : Int) ≤ x) = false := decide_eq_false (by omega)
        obtain rfl : j = 0 := by omega
        have HR : Hid (ordN N M = 0) := by
          show ordN N M = 0
          have h := HE.out
          rw [Nat.pow_zero, Nat.div_one, Nat.div_one] at h
          unfold ordN; rw [h, if_neg (by omega), if_neg (by omega)]
        go_wp2
        go_ret
        exact ⟨by rw [HR.out]; rfl, HBW.out⟩
end Go.Proofs.YtonobdlncjgfhaaDoor

/- subtract of the program's numbers. -/
namespace Go.Proofs.YtonobdlncjgfhaaDoor
open Go.ChangeShapes Go.WideShapes Go.RowKit

set_option maxHeartbeats 1000000 in
set_option maxRecDepth 100000 in
theorem sub_any (B N M c k : Nat) (R : List Value) (t : TypeId) (w : World) (hc : c ≤ 151) (hle : M ≤ N) (hN : cntOk c N) (h : LB w B c (dg N) R t) :
    Calls Tryd.prog 66 #[.pointer (some ⟨B, 0, none⟩), lgV k M] w fun e w' => e = .returned (.tuple #[]) ∧ Mod B w w' ∧ Lg w' B (N - M) R t := by
  have HN : Hid (cntOk c N) := hN
  have HLE : Hid (M ≤ N) := hle
  have hlt := h.lt
  have h0 : (lgL k (dg M)).toArray = blk k (dg M) [] := by unfold blk; rw [List.append_nil]
  unfold lgV
  rw [h0]
  have HB1 : Hid (LB (w.alloc (.cells (blk k (dg M) []) 114)) B c (dg N) R t) := h.alloc _
  have HB2 : Hid (LB (w.alloc (.cells (blk k (dg M) []) 114)) w.heap.size k (dg M) [] 114) := LB.new w k (dg M) [] _
  obtain ⟨C, hC⟩ : ∃ C, blk k (dg M) [] = C := ⟨_, rfl⟩
  rw [hC] at HB1 HB2 ⊢
  clear hN h h0 hC hle
  obtain ⟨W, hW⟩ : ∃ W, w.alloc (.cells C 114) = W := ⟨_, rfl⟩
  rw [hW] at HB1 HB2
  have HBW : Hid (Mod B w W) := by rw [← hW]; exact (Mod.refl _ w).alloc _
  have hc1 := HB1.out.cnt
  obtain ⟨D, hD⟩ : ∃ D, w.heap.size = D := ⟨_, rfl⟩
  have HD : Hid (w.heap.size = D) := hD
  go_enter Tryd.func66, Tryd.ntmps66
  go_wp2
  rw [hD] at HB2 hlt
  clear hW hD
  go_loopw [4, 11] (fun bv iv wl => ∃ (i b : Nat), iv = .int .i64 (i : Int) ∧ bv = .int .u64 (b : Int) ∧ i ≤ c ∧ b ≤ 1 ∧ Hid (bor N M i = b) ∧ Hid (LB wl B c (wmid N (N - M) i) R t) ∧ Hid (LB wl D k (dg M) [] 114) ∧ Hid (Mod B w wl)) (fun _ iv _ => c - (intOf iv).toNat)
  case atStart => exact ⟨0, 0, rfl, rfl, Nat.zero_le _, by omega, bor_zero N M, HB1.out, HB2.out, HBW.out⟩
  case round =>
    clear hc1 HB1 HB2 HBW
    obtain ⟨i, b, rfl, rfl, hi, hb, HBo, HB1, HB2, HBW⟩ := hrel
    by_cases hic : i < c
    · have hic' : (i : Int) < (c : Int) := by omega
      have hi1 : (i : Int) < 151 := by omega
      have hw1 := HB1.out.wrd' i (by omega)
      rw [wmid_at] at hw1
      have hw2 := HB2.out.wrd' i (by omega)
      have hfr := HB1.out.froz (1 + i)
      have n2 := dg_lt N i
      have m2 := dg_lt M i
      have HS1 : Hid _ := fun (_ : Unit) => bor_step N M i
      have HS2 : Hid _ := fun (_ : Unit) => bor_word N M i HLE.out
      rw [HBo.out] at HS1 HS2
      generalize dg N i = d1 at *
      generalize dg M i = d2 at *
      go_wp2
      go_quiet (fail)
      go_wp2
      have ev : IntKind.u64.wrap (IntKind.u64.wrap ((d1 : Int) - d2) - b) % 4294967296 = ((dg (N - M) i : Nat) : Int) := by
        rw [HS2.out (), IntKind.wrap_u64, IntKind.wrap_u64, be_eq]
        by_cases hq : d1 < d2 + b
        · rw [if_pos hq]; omega
        · rw [if_neg hq]; omega
      have eb : IntKind.u64.wrap (IntKind.u64.wrap ((d1 : Int) - d2) - b) / 9223372036854775808 = ((bor N M (i + 1) : Nat) : Int) := by
        rw [HS1.out (), IntKind.wrap_u64, IntKind.wrap_u64]
        by_cases hq : d1 < d2 + b
        · rw [if_pos hq]; omega
        · rw [if_neg hq]; omega
      rw [ev, eb]
      have h1 := HB1.out.setw' i (dg (N - M) i) (by omega)
      rw [wmid_step] at h1
      have hne : D ≠ B := by have := hlt; omega
      refine ⟨⟨i + 1, bor N M (i + 1), rfl, rfl, by omega, bor_le _ _ _, rfl, (HB1.out.drewN nq).setw' i (dg (N - M) i) (by omega) |>.congr _ (fun j _ => by rw [wmid_step]), ?_, (HBW.out.drewN _).setCell _ _⟩, ?_⟩
      · exact (HB2.out.drewN nq).other ((Mod.refl B _).setCell _ _) hne
      · show c - ((i : Int) + 1).toNat < c - (i : Int).toNat; omega
    · have hic' : decide ((i : Int) < (c : Int)) = false := decide_eq_false (by omega)
      obtain rfl : i = c := by omega
      have hlt2 : Hid (N - M < be ^ i) := Nat.lt_of_le_of_lt (Nat.sub_le _ _) HN.out.1
      have HT : Hid (LB wr B i (dg (N - M)) R t) := HB1.out.congr _ fun j _ => wmid_end N (N - M) i HN.out.1 hlt2.out j
      go_wp2_with (go_at_call 68; refine (trim_any B (N - M) i R t _ hc hlt2.out HT.out).mono ?_; rintro e w' ⟨rfl, hm1, hg⟩)
      go_end0
      exact ⟨rfl, HBW.out.trans hm1, hg⟩
end Go.Proofs.YtonobdlncjgfhaaDoor

/- The program's long division, and the float that comes of it: plain. -/
namespace Go.Proofs.YtonobdlncjgfhaaDoor
open Ieee (double)

/-- After k rounds: the bits so far, and what is left, doubled. -/
def Lng (A B k q t : Nat) : Prop := A * 2 ^ k = 2 * q * B + t ∧ t < 2 * B ∧ q < 2 ^ k
theorem lng_start (A B : Nat) (h : A < 2 * B) : Lng A B 0 0 A := ⟨by simp, h, by simp⟩
theorem lng_no {A B k q t : Nat} (h : Lng A B k q t) (ht : t < B) : Lng A B (k + 1) (2 * q) (2 * t) := by
  obtain ⟨h1, h2, h3⟩ := h
  refine ⟨?_, by omega, by rw [Nat.pow_succ]; omega⟩
  rw [Nat.pow_succ, ← Nat.mul_assoc, h1, Nat.mul_comm _ 2, Nat.mul_add, ← Nat.mul_assoc, ← Nat.mul_assoc]
theorem lng_yes {A B k q t : Nat} (h : Lng A B k q t) (ht : B ≤ t) : Lng A B (k + 1) (2 * q + 1) (2 * (t - B)) := by
  obtain ⟨h1, h2, h3⟩ := h
  refine ⟨?_, by omega, by rw [Nat.pow_succ]; omega⟩
  rw [Nat.pow_succ, ← Nat.mul_assoc, h1, Nat.mul_comm _ 2, Nat.mul_add, show 2 * (2 * q + 1) * B = 2 * (2 * q * B) + 2 * B by rw [Nat.mul_add, Nat.add_mul, Nat.mul_one, Nat.mul_assoc 2 (2 * q) B]]
  omega
theorem lng_end {A B k q t : Nat} (hB : 0 < B) (h : Lng A B (k + 1) q t) : A * 2 ^ k / B = q ∧ (A * 2 ^ k % B = 0 ↔ t = 0) := by
  obtain ⟨h1, h2, h3⟩ := h
  rw [Nat.pow_succ, ← Nat.mul_assoc, Nat.mul_assoc 2 q B] at h1
  generalize A * 2 ^ k = X at *
  have e : X = B * q + t / 2 := by rw [Nat.mul_comm B q]; omega
  have h4 : t / 2 < B := by omega
  have h5 : t % 2 = 0 := by omega
  constructor
  · rw [e, Nat.mul_add_div hB, Nat.div_eq_of_lt h4, Nat.add_zero]
  · rw [e, Nat.mul_add_mod, Nat.mod_eq_of_lt h4]; omega
/-- The lowest bit is 1 too where something is left. -/
def stk (q t : Nat) : Nat := if t = 0 then q else oddOf q
theorem stk_at (A B q t : Nat) (E : Int) (hB : 0 < B) (h : Lng A B 64 q t) (hq : 18014398509481984 ≤ q) : fw false (stk q t) E = ratioAt (A * 2 ^ 63) B E := by
  obtain ⟨h1, h2⟩ := lng_end (k := 63) hB h
  unfold stk ratioAt
  rw [h1]
  by_cases ht : t = 0
  · rw [if_pos ht, if_pos (h2.2 ht)]
  · rw [if_neg ht, if_neg (fun x => ht (h2.1 x)), fw_stick false q E hq]
/-- Equal lengths: the quotient has 63 digits at least. -/
theorem lng_long {A B k q t L : Nat} (hB : 0 < B) (h : Lng A B (k + 1) q t) (hA1 : 2 ^ L ≤ A) (hB1 : B < 2 ^ (L + 1)) (hk : 1 ≤ k) : 2 ^ (k - 1) ≤ q := by
  obtain ⟨h1, _⟩ := lng_end hB h
  rw [← h1, Nat.le_div_iff_mul_le hB]
  have a : 2 ^ (k - 1) * B ≤ 2 ^ (k - 1) * 2 ^ (L + 1) := Nat.mul_le_mul_left _ (Nat.le_of_lt hB1)
  have b : 2 ^ L * 2 ^ k ≤ A * 2 ^ k := Nat.mul_le_mul_right _ hA1
  rw [← Nat.pow_add] at a b
  rw [show k - 1 + (L + 1) = L + k by omega] at a
  omega
/-- A power of two beside. -/
theorem ratioW_pow (A C a c x y : Nat) (E : Int) (hA : 0 < A) (hC : 0 < C) (h : 9007199254740992 ≤ A * 2 ^ a / (C * 2 ^ c)) (hE : E = (c : Int) - a + ((x : Int) - y)) :
    ratioAt (A * 2 ^ a) (C * 2 ^ c) E = ratioW (A * 2 ^ x) (C * 2 ^ y) := by
  have e1 : A * 2 ^ x * 2 ^ (a + y) = A * 2 ^ a * 2 ^ (x + y) := by rw [Nat.mul_assoc, ← Nat.pow_add, Nat.mul_assoc, ← Nat.pow_add]; congr 2; omega
  have e2 : C * 2 ^ y * 2 ^ (c + x) = C * 2 ^ c * 2 ^ (x + y) := by rw [Nat.mul_assoc, ← Nat.pow_add, Nat.mul_assoc, ← Nat.pow_add]; congr 2; omega
  have hq : 9007199254740992 ≤ A * 2 ^ x * 2 ^ (a + y) / (C * 2 ^ y * 2 ^ (c + x)) := by rw [e1, e2, Nat.mul_div_mul_right _ _ (Nat.two_pow_pos _)]; exact h
  rw [← ratioW_at (A * 2 ^ x) (C * 2 ^ y) (a + y) (c + x) (Nat.mul_pos hA (Nat.two_pow_pos _)) (Nat.mul_pos hC (Nat.two_pow_pos _)) hq, e1, e2, ratio_scale _ _ _ _ (Nat.two_pow_pos _)]
  congr 1
  omega
/-- What the program's division answers: A' = A * 2^a, C' = C * 2^c of equal length. -/
theorem quo_word (A C a c q t x y L : Nat) (E : Int) (hA : 0 < A) (hC : 0 < C) (h : Lng (A * 2 ^ a) (C * 2 ^ c) 64 q t) (hL : 2 ^ L ≤ A * 2 ^ a) (hL' : C * 2 ^ c < 2 ^ (L + 1)) (hE : E = (c : Int) - a - 63 + ((x : Int) - y)) :
    fw false (stk q t) E = ratioW (A * 2 ^ x) (C * 2 ^ y) := by
  have hB : 0 < C * 2 ^ c := Nat.mul_pos hC (Nat.two_pow_pos _)
  have hq : 2 ^ (63 - 1) ≤ q := lng_long hB h hL hL' (by omega)
  have hq' : 18014398509481984 ≤ q := Nat.le_trans (by decide) hq
  rw [stk_at _ _ q t E hB h hq', Nat.mul_assoc, ← Nat.pow_add]
  refine ratioW_pow A C (a + 63) c x y E hA hC ?_ (by omega)
  rw [Nat.pow_add, ← Nat.mul_assoc, (lng_end hB h).1]
  omega
/-- Powers of ten by those of five and two. -/
theorem dec_five (V K : Nat) (hV : 0 < V) : decW 10 V K = ratioW (V * 5 ^ K * 2 ^ K) (1 * 2 ^ 0) := by
  unfold decW
  rw [if_neg (by omega), Int.toNat_natCast, show (-(K : Int)).toNat = 0 by omega, Nat.pow_zero, Nat.mul_assoc, ← Nat.mul_pow]
theorem dec_fifth (V K : Nat) (hV : 0 < V) : decW 10 V (-(K : Int)) = ratioW (V * 2 ^ 0) (5 ^ K * 2 ^ K) := by
  unfold decW
  rw [if_neg (by omega), show (-(-(K : Int))).toNat = K by omega, show (-(K : Int)).toNat = 0 by omega, Nat.pow_zero, ← Nat.mul_pow]
theorem dec_nil (e : Int) : decW 10 0 e = 0 := by unfold decW; rw [if_pos rfl]
/-- Beyond both ends the power no longer counts. -/
theorem dec_clamp (V : Nat) (e : Int) (len : Nat) (hV : V < 10 ^ len) (hl : len ≤ 1200) : decW 10 V e = decW 10 V (min (max e (-1530)) 310) := by
  by_cases h0 : V = 0
  · subst h0; rw [dec_nil, dec_nil]
  · by_cases h1 : e < -1530
    · rw [show min (max e (-1530)) 310 = -1530 by omega]
      have hk : ∀ e : Int, e ≤ -1530 → decW 10 V e = 0 := by
        intro e he
        unfold decW
        rw [if_neg h0]
        obtain ⟨k, hk⟩ : ∃ k : Nat, (k : Int) = -e - 1200 := ⟨(-e - 1200).toNat, by omega⟩
        have h1 : V * 10 ^ e.toNat = V := by rw [show e.toNat = 0 by omega, Nat.pow_zero, Nat.mul_one]
        rw [h1]
        obtain ⟨t, ht⟩ : ∃ t : Nat, t = 10 := ⟨_, rfl⟩
        obtain ⟨b, hb⟩ : ∃ b, b = 109 * t + 3 * (k - 33 * t) := ⟨_, rfl⟩
        refine ratio_under _ _ b (by omega) (by omega) ?_
        have h3 : 2 ^ b ≤ 10 ^ k := by
          rw [hb, Nat.pow_add]
          obtain ⟨j, hj⟩ : ∃ j, k = 33 * t + j := ⟨k - 33 * t, by omega⟩
          rw [hj, Nat.add_sub_cancel_left, Nat.pow_add, Nat.pow_mul 2 109 t, Nat.pow_mul 10 33 t]
          exact Nat.mul_le_mul (Nat.pow_le_pow_left (by decide) t) (ten_lo j)
        obtain ⟨l, hl'⟩ : ∃ l : Nat, l = 1200 := ⟨_, rfl⟩
        have h2 : V * 2 ^ b ≤ 10 ^ l * 10 ^ k := Nat.mul_le_mul (Nat.le_of_lt (Nat.lt_of_lt_of_le hV (Nat.pow_le_pow_right (by omega) (by omega)))) h3
        rw [← Nat.pow_add, show l + k = (-e).toNat by omega] at h2
        exact h2
      rw [hk e (by omega), hk (-1530) (by omega)]
    · by_cases h2 : 310 < e
      · rw [show min (max e (-1530)) 310 = 310 by omega]
        have hk : ∀ e : Int, 310 ≤ e → decW 10 V e = iw false := by
          intro e he
          unfold decW
          rw [if_neg h0]
          obtain ⟨k, hk⟩ : ∃ k : Nat, e = 310 + (k : Int) := ⟨(e - 310).toNat, by omega⟩
          obtain ⟨t, ht⟩ : ∃ t : Nat, t = 5 := ⟨_, rfl⟩
          refine ratio_over _ _ (205 * t) (Nat.pow_pos (by omega)) (by omega) ?_
          rw [show (-e).toNat = 0 by omega, show e.toNat = 62 * t + k by omega, Nat.pow_zero, Nat.one_mul, Nat.pow_add]
          have c1 : 2 ^ (205 * t) ≤ 10 ^ (62 * t) := by rw [Nat.pow_mul, Nat.pow_mul]; exact Nat.pow_le_pow_left (by decide) t
          have a : 2 ^ (205 * t) * 1 ≤ 10 ^ (62 * t) * 10 ^ k := Nat.mul_le_mul c1 (Nat.pow_pos (by omega))
          have b : 1 * (10 ^ (62 * t) * 10 ^ k) ≤ V * (10 ^ (62 * t) * 10 ^ k) := Nat.mul_le_mul_right _ (by omega)
          omega
        rw [hk e (by omega), hk 310 (by omega)]
      · rw [show min (max e (-1530)) 310 = e by omega]
/-- The sign beside the word. -/
theorem fw_sgn (s : Bool) (m : Nat) (p : Int) : fw s m p = signBit s + fw false m p := by
  by_cases h0 : m = 0
  · subst h0; rw [fw_zero, fw_zero]; rfl
  · rw [fw_place s m p (by omega), fw_place false m p (by omega)]
    show _ = signBit s + (0 + _)
    rw [Nat.zero_add]
end Go.Proofs.YtonobdlncjgfhaaDoor

