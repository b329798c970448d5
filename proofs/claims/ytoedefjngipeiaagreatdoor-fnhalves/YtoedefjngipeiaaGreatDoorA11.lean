import Derived.Test.YtoedefjngipeiaaGreatDoorA10
import Derived.Test.YtoedefjngipeiaaGreatDoorA09
import Derived.Test.YtoedefjngipeiaaGreatDoorA06
import Derived.Lib.Strings
/- l0digits of the specification, walked. -/
namespace Go.Proofs.YtoedefjngipeiaaGreatDoor
open Go.ChangeShapes Go.WideShapes Go.RowKit

def lenOf : Value → Nat
  | .slice _ n _ => n
  | _ => 0
theorem digit_u8 (r : Nat) : ∃ z : Int, (48 + ((r % 10 : Nat) : Int)) = z ∧ z = ((dchr (r % 10)).toNat : Int) ∧ 0 ≤ z ∧ z ≤ 57 := by
  refine ⟨_, rfl, ?_, by omega, by omega⟩
  rw [dchr_nat _ (Nat.mod_lt _ (by omega))]; omega

theorem own_len {w : World} {B e n : Nat} {v : Value} {xs : List Value} (h : w.ownsRow B e 1 v n xs) : lenOf v = n := by
  obtain ⟨_, h⟩ := h
  rcases h with ⟨rfl, rfl⟩ | ⟨g', cap, cur, rfl, _⟩ <;> rfl

set_option maxHeartbeats 4000000 in
set_option maxRecDepth 100000 in
theorem l0digits_any (v : Value) (A n : Nat) (w : World) (h : Big w v A) (hA : A < 4294967296 ^ n) (hn : n < 100000) :
    Calls Tryz.prog 51 #[v] w fun e w' => ∃ s : ByteArray, e = .returned (.string s) ∧ IsDec s A ∧ Below w.heap.size w w' := by
  obtain ⟨i1, hi, hz0, hz1, hz2⟩ := info_parts Tryz.infoB
  have HA : Hid (A < 4294967296 ^ n) := hA
  have HB : Hid (Big w v A) := h
  have hv0 : ∃ ao len cap, v = .slice ao len cap := by
    obtain ⟨ls, ⟨ao, cap, hv, _⟩, _⟩ := h
    exact ⟨ao, _, cap, hv⟩
  clear hA h
  obtain ⟨ao0, len0, cap0, rfl⟩ := hv0
  go_enter Tryz.func51, Tryz.ntmps51
  go_wp2
  go_loopw [0, 3] (fun va vo wr => ∃ (Aj : Nat) (os : List Nat), Hid (Big wr va Aj) ∧ Hid (Ten os) ∧ Hid (dval os + 10 ^ os.length * Aj = A) ∧ os.length ≤ 32 * n + 9 ∧ Hid (os.length ≤ A + 9) ∧
      wr.ownsRow w.heap.size 5 1 vo os.length (os.map cellD) ∧ Below w.heap.size w wr ∧ Hid (Far vo va)) (fun _ vo _ => A + 10 - lenOf vo)
  case atStart => exact ⟨A, [], HB.out, fun _ h => absurd h (by simp), by show dval [] + 10 ^ 0 * A = A; simp [dval], by simp, by show _ ≤ _; simp, World.ownsRow_nil _ _ _ _, Below.refl _ _, fun g n c _ h => by simp [Value.ownBlock] at h⟩
  case round =>
    obtain ⟨Aj, os, HBj, HT, HV, ho, HoA, hown, hbe, HF⟩ := hrel
    obtain ⟨ls, r1, r2, r3, r4⟩ := HBj.out
    have R1 : Hid (Row wr _ ls) := r1
    obtain ⟨ao, cap, hva, hc1, hc2, hrow⟩ := r1
    subst hva
    have HL : Hid (Lim ls) := r2
    have HE : Hid (bval ls = Aj) := r4
    have hsz := hbe.size
    have HLO : Hid (lenOf u3 = os.length) := own_len hown
    by_cases hlt : 0 < ls.length
    · obtain ⟨g, rfl, hg, hcl⟩ := Row.block hc1 hrow (t := 0) hlt
      have HC : Hid (∀ t, t < ls.length → wr.cell? ⟨g, t, none⟩ = some (.int .u64 (ls.getD t 0 : Nat))) := hcl
      have hAj : 0 < Aj := by
        have := (trim_last r3 (by intro h; rw [h] at hlt; simp at hlt)).1
        have h1 : 0 < 4294967296 ^ (ls.length - 1) := Nat.pow_pos (by omega)
        omega
      have hfew := digits_few A Aj n os hAj HA.out HV.out
      have hlen : ls.length ≤ n := trim_len r3 (Nat.lt_of_le_of_lt (by
        have h1 := HV.out
        have h2 : 1 * Aj ≤ 10 ^ os.length * Aj := Nat.mul_le_mul_right _ (Nat.pow_pos (by omega))
        omega) HA.out)
      have HLA : Hid (os.length < A) := hfew.2
      have hlo := hfew.1
      have hcap : cap ≤ 9223372036854775807 := hc2
      have hmk := make_u64 ls.length (by omega)
      clear hcl hrow r2 r3 r4 hfew hAj hc2
      go_wp2
      go_loopw [4, 6] (fun vr vi wl => ∃ (k R : Nat) (qs : List Nat), vr = .int .u64 (R : Int) ∧ vi = .int .i64 ((k : Int) - 1) ∧ k + qs.length = ls.length ∧ (R : Int) < 1000000000 ∧ Hid (Lim qs) ∧ Hid (bval (ls.drop k) = 1000000000 * bval qs + R) ∧ wl = wr.alloc (.cells (qcells k qs).toArray 40)) (fun _ vi _ => (intOf vi + 1).toNat)
      case atStart => exact ⟨ls.length, 0, [], rfl, rfl, by simp, by omega, fun _ h => absurd h (by simp), by show bval (ls.drop ls.length) = 1000000000 * bval [] + 0; rw [List.drop_length]; rfl, by rw [qcells_nil]; simp⟩
      case round =>
        obtain ⟨k, R, qs, rfl, rfl, hk, hR, HLQ, HQ, rfl⟩ := hrel
        cases k with
        | zero =>
          have hql : qs.length = ls.length := by omega
          have HTR : Hid (Calls Tryz.prog 53 #[.slice (some ⟨wr.heap.size, 0, none⟩) ls.length ls.length] (wr.alloc (.cells (qcells 0 qs).toArray 40)) fun e w' => w' = wr.alloc (.cells (qcells 0 qs).toArray 40) ∧ e = .returned (.slice (some ⟨wr.heap.size, 0, none⟩) (btrim qs).length ls.length)) := by
            have := l0trim_at qs wr.heap.size ls.length (wr.alloc (.cells (qcells 0 qs).toArray 40)) (by omega) (by unfold maxLen; omega) (fun t ht => qrow wr qs _ t ht)
            rw [hql] at this
            exact this
          have hbl := btrim_length qs
          have HBQ : Hid (Big (wr.alloc (.cells (qcells 0 qs).toArray 40)) (.slice (some ⟨wr.heap.size, 0, none⟩) (btrim qs).length ls.length) (bval qs)) := by
            refine Big.of_trim ?_ HLQ.out rfl
            have h1 := Row.cut (w := wr.alloc (.cells (qcells 0 qs).toArray 40)) (g := wr.heap.size) (cap := ls.length) (k := (btrim qs).length) (ls := qs) (by omega) (by unfold maxLen; omega) (by simp) (fun t ht => qrow wr qs _ t ht) hbl
            rw [← btrim_prefix] at h1
            exact h1
          have HDR : Hid (bval (ls.drop 0) = 1000000000 * bval qs + R) := HQ.out
          generalize bval qs = Q at *
          generalize (btrim qs).length = lq at *
          have hbe2 : Below w.heap.size w (wr.alloc (.cells (qcells 0 qs).toArray 40)) := hbe.alloc hsz _
          have hown2 : (wr.alloc (.cells (qcells 0 qs).toArray 40)).ownsRow w.heap.size 5 1 u3 os.length (os.map cellD) := hown.alloc _
          have HFQ : Hid (Far u3 (.slice (some ⟨wr.heap.size, 0, none⟩) lq ls.length)) := by
            intro g' n' c' he hb
            cases he
            have := (own_block_lt hown _ hb).2
            omega
          clear hown hmk HQ
          generalize wr.alloc (.cells (qcells 0 qs).toArray 40) = wq at *
          generalize wr.heap.size = gq at *
          go_wp2_with (go_at_call 53; refine HTR.out.mono ?_; rintro e w2 ⟨rfl, rfl⟩)
          go_loopw [3, 4, 7] (fun vo vr vk wl => ∃ (k : Nat) (ks : List Nat), vk = .int .i64 (k : Int) ∧ k ≤ 9 ∧ ks.length = k ∧ vr = .int .u64 ((R / 10 ^ k : Nat) : Int) ∧ Hid (Ten ks) ∧ Hid (dval ks = R % 10 ^ k) ∧ wl.ownsRow w.heap.size 5 1 vo (os ++ ks).length ((os ++ ks).map cellD) ∧ Below w.heap.size w wl ∧ Hid (Big wl (.slice (some ⟨gq, 0, none⟩) lq ls.length) Q) ∧ Hid (Far vo (.slice (some ⟨gq, 0, none⟩) lq ls.length))) (fun _ _ vk _ => 9 - (intOf vk).toNat)
          case atStart => exact ⟨0, [], rfl, by omega, rfl, by simp, fun _ h => absurd h (by simp), by show dval [] = R % 10 ^ 0; rw [Nat.pow_zero, Nat.mod_one]; rfl, by simpa using hown2, hbe2, HBQ.out, HFQ.out⟩
          case round =>
            clear hown2 hbe2 HBQ HFQ
            obtain ⟨k, ks, rfl, hk9, hkl, rfl, HTk, HVk, hown, hbe3, HBk, HFk⟩ := hrel
            have hsz3 := hbe3.size
            by_cases hk : k < 9
            · have HN : Hid _ := nine_round R k ks hkl HTk.out HVk.out
              obtain ⟨z, ez, ez2, ez0, ez1⟩ := digit_u8 (R / 10 ^ k)
              have hrl : ((R / 10 ^ k : Nat) : Int) < 1000000000 := by have := Nat.div_le_self R (10 ^ k); omega
              have hdiv : ((R / 10 ^ k : Nat) : Int) / 10 = ((R / 10 ^ (k + 1) : Nat) : Int) := by have := HN.out.2.2; omega
              have hmod : ((R / 10 ^ k : Nat) : Int) % 10 = ((R / 10 ^ k % 10 : Nat) : Int) := by omega
              have HZ : Hid (Value.int .u8 z = cellD (R / 10 ^ k % 10)) := by show _ = _; unfold cellD; rw [ez2]
              obtain ⟨Y, hY⟩ : ∃ Y : Int, Y = ((R / 10 ^ k : Nat) : Int) := ⟨_, rfl⟩
              obtain ⟨Y2, hY2⟩ : ∃ Y2 : Int, Y2 = ((R / 10 ^ (k + 1) : Nat) : Int) := ⟨_, rfl⟩
              have hY0 : 0 ≤ Y := by rw [hY]; exact Int.natCast_nonneg _
              rw [← hY] at hrl hdiv hmod ⊢
              rw [← hY2] at hdiv
              have HY2 : Hid (Y2 = ((R / 10 ^ (k + 1) : Nat) : Int)) := hY2
              clear hY hY2
              rw [← hmod] at ez
              generalize hD : R / 10 ^ k % 10 = D at *
              clear ez2 hD HTk HVk hmod hR
              have hol : (os ++ ks).length = os.length + k := by rw [List.length_append, hkl]
              go_wp2_with (first
                | (at_builtin; refine wpList_append_lies _ rfl _ _ 22 rfl w.heap.size 5 i1 (.int .u8 0) 1 1 Tryz.underlying22 hi hz0 hz1 hz2 rfl (by decide) _ _ _ rfl (hown.alloc _) ⟨wr.heap.size, 0, none⟩ 1 1 [.int .u8 z] rfl rfl ?c1 ?c2 (by decide) ?c3 ?c4 ?c5 (wr.heap.size + 1) ?c6 ?_)
                | go_in)
              case c1 =>
                intro j u hj
                match j, hj with
                | 0, hj => simp at hj; subst hj; simp [Addr.add]
              case c2 => intro u hu; simp at hu; subst hu; rfl
              case c3 => unfold maxLen; omega
              case c4 => omega
              case c5 => simp; omega
              case c6 => simp
              · intro g1 cap1 w1 hown' hgrow hwhere hlt1
                have HOW : Hid (w1.ownsRow w.heap.size 5 1 (.slice (some ⟨g1, 0, none⟩) ((os ++ ks).length + 1) cap1) ((os ++ ks).length + 1) ((os ++ ks).map cellD ++ [cellD D])) := by
                  rw [HZ.out] at hown'
                  rw [hol, List.map_append, List.append_assoc]
                  exact hown'
                have R := own_stepD (r := D) rfl hown hbe3 (Nat.le_refl _) HOW.out hgrow
                have HB2 : Hid _ := HBk.out.far HFk.out hgrow
                have HF2 : Hid (Far (.slice (some ⟨g1, 0, none⟩) (os.length + k + 1) cap1) (.slice (some ⟨gq, 0, none⟩) lq ls.length)) := by
                  obtain ⟨ls', hr', _⟩ := HBk.out
                  exact Far.next HFk.out hr' hwhere
                have HR1 : Hid (w1.ownsRow w.heap.size 5 1 (.slice (some ⟨g1, 0, none⟩) (os.length + k + 1) cap1) (os ++ (ks ++ [D])).length ((os ++ (ks ++ [D])).map cellD)) := by
                  rw [← List.append_assoc, ← hol]
                  exact R.1
                have HR2 : Hid _ := R.2
                clear hown' hgrow hown hwhere hlt1 R HOW HBk HFk hbe3
                go_wp2
                go_roundw
                case rel => exact ⟨k + 1, ks ++ [D], by simp, by omega, by simp [hkl], by rw [hdiv, HY2.out], HN.out.1, HN.out.2.1, HR1.out, HR2.out, HB2.out, HF2.out⟩
                case measure => simp [intOf]; omega
            · obtain rfl : k = 9 := by omega
              have HE1 : Hid (dval (os ++ ks) + 10 ^ (os ++ ks).length * Q = A) := digits_round A Aj Q R os ks hkl HVk.out (by omega) (by have := HDR.out; have h2 := HE.out; rw [List.drop_zero] at this; omega) HV.out
              have HE2 : Hid (Ten (os ++ ks)) := fun d hd => by
                rcases List.mem_append.1 hd with h | h
                · exact HT.out d h
                · exact HTk.out d h
              have hol : (os ++ ks).length = os.length + 9 := by rw [List.length_append, hkl]
              have HLE : Hid (lenOf u3 = (os ++ ks).length) := own_len hown
              clear HVk HV HTk HT
              go_wp2
              exact ⟨⟨Q, os ++ ks, HBk.out, HE2.out, HE1.out, by omega, by show _ ≤ _; have := HLA.out; omega, hown, hbe3, HFk.out⟩, by rw [HLE.out, HLO.out]; have := HLA.out; omega⟩
        | succ k =>
          have hx : (wr.alloc (.cells (qcells (k + 1) qs).toArray 40)).cell? ⟨g, k, none⟩ = some (.int .u64 (ls.getD k 0 : Nat)) := (((Below.refl wr.heap.size wr).alloc (Nat.le_refl _) _).cell (p := ⟨g, k, none⟩) hg).trans (HC.out k (by omega))
          have hxl : ((ls.getD k 0 : Nat) : Int) < 4294967296 := by have := lim_get HL.out k; omega
          have HRD : Hid _ := div_round ls qs k R (by omega) (lim_get HL.out k) (by omega) HQ.out
          have hfree := qcells_free k qs
          have HSET : Hid _ := fun x => qcells_set k qs x
          generalize ls.getD k 0 = x at *
          have eq1 : ((R : Int) * 4294967296 + (x : Int)) / 1000000000 = (((R * 4294967296 + x) / 1000000000 : Nat) : Int) := by omega
          have eq2 : ((R : Int) * 4294967296 + (x : Int)) % 1000000000 = (((R * 4294967296 + x) % 1000000000 : Nat) : Int) := by omega
          generalize hq : (R * 4294967296 + x) / 1000000000 = q at *
          generalize hr : (R * 4294967296 + x) % 1000000000 = r at *
          clear hq hr HQ
          go_wp2
          rw [HSET.out q, eq2]
          exact ⟨⟨k, r, q :: qs, rfl, rfl, by simp; omega, by have := HRD.out.2.1; omega, fun y hy => by
            rcases List.mem_cons.1 hy with rfl | hy
            · exact HRD.out.1
            · exact HLQ.out y hy, HRD.out.2.2, rfl⟩, by simp only [intOf]; omega⟩
    · obtain rfl : ls = [] := List.length_eq_zero_iff.1 (by omega)
      have HD : Hid (dval os = A) := by
        show _ = _
        have h1 := HV.out
        rw [← HE.out] at h1
        simpa [bval] using h1
      obtain ⟨aoo, capo, hu, hco, hcap, hcell⟩ : ∃ aoo capo, u3 = .slice aoo os.length capo ∧ os.length ≤ capo ∧ (capo : Int) ≤ 9223372036854775807 ∧ ∀ t, t < os.length → ∃ g, aoo = some ⟨g, 0, none⟩ ∧ g < wr.heap.size ∧ wr.cell? ⟨g, t, none⟩ = some (cellD (os.getD t 0)) := by
        rcases own_cell hown rfl with ⟨hu, h0⟩ | ⟨g, capo, hu, h1, h2, h3, h4⟩
        · exact ⟨none, 0, by rw [hu, h0], by omega, by omega, fun t ht => by omega⟩
        · exact ⟨_, capo, hu, h1, by unfold maxLen at h2; omega, fun t ht => ⟨g, rfl, h3, h4 t ht⟩⟩
      have HCL : Hid _ := hcell
      subst hu
      clear hown hcell hrow HV HE HBj HF HLO HoA r2 r3 r4 R1
      go_wp2
      go_loop [8] (fun v8 => ∃ k : Nat, v8 = .int .i64 (k : Int) ∧ k ≤ os.length ∧ Hid (dval os = dval (os.take k))) (fun v8 => (intOf v8).toNat)
      case atStart => exact ⟨os.length, rfl, Nat.le_refl _, by show _ = _; rw [List.take_length]⟩
      case round =>
        obtain ⟨k, rfl, hk, HK⟩ := hrel
        by_cases hz : 0 < k ∧ os.getD (k - 1) 0 = 0
        · obtain ⟨hk0, hz⟩ := hz
          obtain ⟨j, rfl⟩ : ∃ j, k = j + 1 := ⟨k - 1, by omega⟩
          rw [Nat.add_sub_cancel] at hz
          obtain ⟨g, rfl, hg, hx⟩ := HCL.out j (by omega)
          rw [hz, show cellD 0 = .int .u8 48 from rfl] at hx
          have HK2 : Hid (dval os = dval (os.take j)) := strip_round os j (by omega) hz HK.out
          go_wp2
          exact ⟨⟨j, rfl, by omega, HK2⟩, by simp only [intOf]; omega⟩
        · have HZ : Hid (¬ (0 < k ∧ os.getD (k - 1) 0 = 0)) := hz
          have HTk : Hid (Ten (os.take k)) := fun d hd => HT.out d (List.mem_of_mem_take hd)
          have hmk := make_u8 k (by omega)
          have hkl : (os.take k).length = k := by rw [List.length_take]; omega
          obtain ⟨tl, htl⟩ : ∃ tl, tl = dtxt (os.take k) := ⟨_, rfl⟩
          have htk : tl.length = k := by rw [htl, dtxt_length, hkl]
          have HAT : Hid (∀ i j, i + 1 + j = k → ∃ (h : i < tl.length) (g : Nat), aoo = some ⟨g, 0, none⟩ ∧ g < wr.heap.size ∧ wr.cell? ⟨g, j, none⟩ = some (.int .u8 (tl[i].toNat : Int))) := by
            intro i j hij
            obtain ⟨g, h1, h2, h3⟩ := HCL.out j (by omega)
            refine ⟨by omega, g, h1, h2, ?_⟩
            rw [h3]
            have e : tl[i]'(by omega) = dchr (os.getD j 0) := by
              subst htl
              simp only [dtxt]
              rw [List.getElem_map, List.getElem_reverse]
              congr 1
              rw [List.getElem_take]
              have hj' : (os.take k).length - 1 - i = j := by omega
              simp only [hj']
              simp [List.getElem?_eq_getElem (show j < os.length by omega)]
            rw [e]; rfl
          have HTX : Hid (IsDec ⟨tl.toArray⟩ A) := by
            refine isDec_of (os.take k) A _ HTk.out (HK.out.symm.trans HD.out) ?_ ?_
            · rw [htl]
            · intro j hj
              rw [hkl] at hj
              subst hj
              have := HZ.out
              intro h0
              apply this
              refine ⟨by omega, ?_⟩
              rw [Nat.add_sub_cancel]
              have e3 : (os.take (j + 1)).getD j 0 = os.getD j 0 := by simp [List.getElem?_take_of_lt (show j < j + 1 by omega)]
              rw [← e3]; exact h0
          have hcv := text_end wr tl 5
          have HFR : Hid (∀ i, i < tl.length → (tcells tl i)[i]? = some (.int .u8 0)) := fun i h => tcells_free tl i h
          have HST : Hid (∀ i (h : i < tl.length), (tcells tl i).set i (.int .u8 (tl[i].toNat : Int)) = tcells tl (i + 1)) := fun i h => tcells_set tl i h
          have HZR : Hid (List.replicate k (Value.int .u8 0) = tcells tl 0) := by show _ = _; rw [tcells_zero, htk]
          have hcase : k = 0 ∨ ∃ j g d, k = j + 1 ∧ aoo = some ⟨g, 0, none⟩ ∧ wr.cell? ⟨g, j, none⟩ = some (.int .u8 d) ∧ (d == 48) = false := by
            by_cases h0 : k = 0
            · exact .inl h0
            · obtain ⟨j, rfl⟩ : ∃ j, k = j + 1 := ⟨k - 1, by omega⟩
              obtain ⟨g, h1, h2, h3⟩ := HCL.out j (by omega)
              refine .inr ⟨j, g, _, rfl, h1, h3, ?_⟩
              have hd : os.getD j 0 < 10 := by
                have e2 : os.getD j 0 = os[j] := by simp [List.getElem?_eq_getElem (show j < os.length by omega)]
                rw [e2]
                exact HT.out _ (List.getElem_mem _)
              rw [dchr_nat _ hd]
              have := HZ.out
              rw [Nat.add_sub_cancel] at this
              exact beq_eq_false_iff_ne.2 (by omega)
          rw [htk] at hcv
          clear HK HCL HD HTk hkl htl hz HZ
          rcases hcase with rfl | ⟨j0, g0, d0, rfl, hao, hx, hd⟩
          · rw [show ((0 : Nat) : Int) = 0 from rfl, show List.replicate 0 (Value.int .u8 0) = [] from rfl] at hmk
            obtain rfl : tl = [] := List.length_eq_zero_iff.1 htk
            rw [show tcells [] 0 = [] from rfl] at hcv
            go_wp2
            go_loopw [71] (fun vi wl => vi = .int .i64 0 ∧ wl = wr.alloc (.cells #[] 5)) (fun _ _ => 0)
            case atStart => exact ⟨rfl, rfl⟩
            case round =>
              obtain ⟨rfl, rfl⟩ := hrel
              go_wp2
              go_ret
              exact ⟨_, rfl, HTX.out, hbe.alloc hsz _⟩
          · subst hao
            rw [show ((j0 + 1 : Nat) : Int) = (j0 : Int) + 1 from rfl, HZR.out] at hmk
            go_wp2
            go_loopw [71] (fun vi wl => ∃ i : Nat, vi = .int .i64 (i : Int) ∧ i ≤ j0 + 1 ∧ wl = wr.alloc (.cells (tcells tl i).toArray 5)) (fun vi _ => j0 + 1 - (intOf vi).toNat)
            case atStart => exact ⟨0, rfl, by omega, rfl⟩
            case round =>
              obtain ⟨i, rfl, hi1, rfl⟩ := hrel
              by_cases hij : i < j0 + 1
              · obtain ⟨j, hj⟩ : ∃ j, i + 1 + j = j0 + 1 := ⟨j0 - i, by omega⟩
                obtain ⟨hit, g, hgg, hgl, hcx⟩ := HAT.out i j hj
                cases hgg
                have hx2 : (wr.alloc (.cells (tcells tl i).toArray 5)).cell? ⟨g0, j, none⟩ = some (.int .u8 (tl[i].toNat : Int)) := (((Below.refl wr.heap.size wr).alloc (Nat.le_refl _) _).cell (p := ⟨g0, j, none⟩) hgl).trans hcx
                have hfr := HFR.out i hit
                have HST2 : Hid _ := HST.out i hit
                obtain ⟨c, hc⟩ : ∃ c : Int, c = (tl[i].toNat : Int) := ⟨_, rfl⟩
                rw [← hc] at hx2 HST2
                have hjj : (j0 : Int) - (i : Int) = (j : Int) := by omega
                clear hcx hc hx hd hcv HAT
                go_wp2
                rw [HST2.out]
                exact ⟨⟨i + 1, rfl, by omega, rfl⟩, by simp only [intOf]; omega⟩
              · obtain rfl : i = j0 + 1 := by omega
                clear hx hd HAT
                go_wp2
                go_ret
                exact ⟨_, rfl, HTX.out, hbe.alloc hsz _⟩
end Go.Proofs.YtoedefjngipeiaaGreatDoor

/- A number times a power of two, written out with a point: plain. -/
namespace Go.Proofs.YtoedefjngipeiaaGreatDoor
open Go.RowKit

def dotB : ByteArray := ⟨#[46]⟩
/-- Digits, a point, digits: the number A times 2 to the e, exactly. -/
def Pointed (t : ByteArray) (A : Nat) (e : Int) : Prop := ∃ a b : ByteArray, t = a ++ dotB ++ b ∧ 0 < a.size ∧ b.size = (if 0 ≤ e ∨ A = 0 then 1 else (-e).toNat) ∧ good 10 (a ++ b).data.toList
  ∧ valN 10 (a ++ b).data.toList * 2 ^ (-e).toNat = A * 2 ^ e.toNat * 10 ^ b.size ∧ (a.size = 1 ∨ 10 ^ (a.size - 1) * 10 ^ b.size ≤ valN 10 (a ++ b).data.toList)
theorem valN_append (l m : List UInt8) : valN 10 (l ++ m) = valN 10 l * 10 ^ m.length + valN 10 m := by
  have h := fold_split 10 m (val 10 l)
  have e : val 10 (l ++ m) = val 10 l * 10 ^ m.length + val 10 m := by
    unfold val at h ⊢
    rw [List.foldl_append]
    exact h
  have h1 := valN_cast 10 (l ++ m)
  have h2 := valN_cast 10 l
  have h3 := valN_cast 10 m
  rw [show ((10 : Nat) : Int) = 10 from rfl] at h1 h2 h3
  rw [e, ← h2, ← h3] at h1
  have h4 : ((valN 10 l * 10 ^ m.length + valN 10 m : Nat) : Int) = (valN 10 l : Int) * 10 ^ m.length + (valN 10 m : Int) := by
    rw [Int.natCast_add, Int.natCast_mul, Int.natCast_pow]; rfl
  omega
theorem append_list (a b : ByteArray) : (a ++ b).data.toList = a.data.toList ++ b.data.toList := by simp [ByteArray.data_append]
theorem append_size (a b : ByteArray) : (a ++ b).size = a.size + b.size := by simp
theorem extract_join (s : ByteArray) (k : Nat) : (s.extract 0 k ++ s.extract k s.size).data.toList = s.data.toList := by
  rw [append_list, Lib.extract_eq, Lib.extract_eq]
  simp
  have h1 : (s.data.toList.drop k).take (s.size - k) = s.data.toList.drop k := List.take_of_length_le (by rw [List.length_drop, data_len]; omega)
  rw [h1, List.take_append_drop]
theorem good_append (l m : List UInt8) (h : good 10 l) (h' : good 10 m) : good 10 (l ++ m) := fun c hc => by
  rcases List.mem_append.1 hc with h1 | h1
  · exact h c h1
  · exact h' c h1
theorem good_zeros (n : Nat) : good 10 (List.replicate n (48 : UInt8)) := fun c hc => by rw [List.eq_of_mem_replicate hc]; decide
theorem valN_zeros (n : Nat) : valN 10 (List.replicate n (48 : UInt8)) = 0 := by
  induction n with
  | zero => exact valN_nil 10
  | succ n ih => rw [List.replicate_succ, valN_zero 10 48 _ rfl]; exact ih
theorem dec_pos (ds : ByteArray) (A : Nat) (h : IsDec ds A) (hp : 0 < A) : 0 < ds.size := by
  apply Nat.pos_of_ne_zero
  intro h0
  have e : ds.data.toList = [] := List.length_eq_zero_iff.1 (by rw [data_len]; exact h0)
  have := h.2.1
  rw [e, valN_nil] at this
  omega
/-- Above: nothing is behind the point but a zero. -/
theorem pointed_up (ds : ByteArray) (A E : Nat) (hA : 0 < A) (h : IsDec ds (A * 2 ^ E)) : Pointed (ds ++ dotB ++ ⟨#[48]⟩) A (E : Int) := by
  have hp : 0 < A * 2 ^ E := Nat.mul_pos hA (Nat.two_pow_pos E)
  have h0 : 0 < ds.size := dec_pos ds _ h hp
  have hv : valN 10 (ds ++ (⟨#[48]⟩ : ByteArray)).data.toList = A * 2 ^ E * 10 := by
    rw [append_list, valN_append, h.2.1]; rfl
  refine ⟨ds, ⟨#[48]⟩, rfl, h0, ?_, ?_, ?_, ?_⟩
  · rw [if_pos (.inl (by omega))]; rfl
  · rw [append_list]; exact good_append _ _ h.1 (good_zeros 1)
  · rw [hv, show (-(E : Int)).toNat = 0 by omega, show ((E : Int)).toNat = E by omega]
    show A * 2 ^ E * 10 * 2 ^ 0 = A * 2 ^ E * 10 ^ 1
    omega
  · right
    rw [hv]
    have := (dec_bounds ds _ h h0).1
    show 10 ^ (ds.size - 1) * 10 ^ 1 ≤ A * 2 ^ E * 10
    omega
/-- Below: as many digits behind the point as the power asks. -/
theorem pointed_down (ds : ByteArray) (A s k : Nat) (z : Nat) (hA : 0 < A) (hs : 0 < s) (l : List UInt8) (hl : ds.data.toList = List.replicate z 48 ++ l) (hg : good 10 l) (hv : valN 10 l = A * 5 ^ s) (hk : ds.size = k + s) (hk0 : 0 < k)
    (hz : k = 1 ∨ 10 ^ (ds.size - 1) ≤ A * 5 ^ s) : Pointed (ds.extract 0 k ++ dotB ++ ds.extract k ds.size) A (-(s : Int)) := by
  have hj := extract_join ds k
  have hvd : valN 10 ds.data.toList = A * 5 ^ s := by rw [hl, valN_append, valN_zeros, Nat.zero_mul, Nat.zero_add, hv]
  have sa : (ds.extract 0 k).size = k := by simp; omega
  have sb : (ds.extract k ds.size).size = s := by simp; omega
  refine ⟨_, _, rfl, by omega, ?_, ?_, ?_, ?_⟩
  · rw [sb, if_neg (by omega)]; omega
  · rw [hj, hl]; exact good_append _ _ (good_zeros z) hg
  · rw [hj, hvd, sb, show (-(-(s : Int))).toNat = s by omega, show (-(s : Int)).toNat = 0 by omega, Nat.pow_zero, Nat.mul_one, show (10 : Nat) = 5 * 2 from rfl, Nat.mul_pow, Nat.mul_assoc]
  · rw [hj, hvd, sa, sb]
    rcases hz with h | h
    · exact .inl h
    · right
      rw [← Nat.pow_add, show k - 1 + s = ds.size - 1 by omega]
      exact h
theorem pointed_zero (e : Int) : Pointed ⟨#[48, 46, 48]⟩ 0 e := by
  refine ⟨⟨#[48]⟩, ⟨#[48]⟩, rfl, by decide, by rw [if_pos (.inr rfl)]; rfl, good_zeros 2, ?_, .inl rfl⟩
  rw [show valN 10 ((⟨#[48]⟩ : ByteArray) ++ ⟨#[48]⟩).data.toList = 0 from valN_zeros 2]
  omega
theorem dec_few (s : ByteArray) (A n : Nat) (h : IsDec s A) (hA : A < 4294967296 ^ n) : s.size ≤ 32 * n + 1 := by
  by_cases h0 : s.size = 0
  · omega
  · have h1 := (dec_bounds s A h (by omega)).1
    have h2 : 2 ^ (s.size - 1) ≤ 10 ^ (s.size - 1) := Nat.pow_le_pow_left (by omega) _
    have e : 4294967296 ^ n = 2 ^ (32 * n) := by rw [Nat.pow_mul]
    rw [e] at hA
    have := (Nat.pow_lt_pow_iff_right (a := 2) (by omega)).1 (Nat.lt_of_le_of_lt h2 (Nat.lt_of_le_of_lt h1 hA))
    omega
/-- How long such a text is. -/
theorem pointed_size (t : ByteArray) (A : Nat) (e : Int) (h : Pointed t A e) (hA : A < 18446744073709551616) : t.size ≤ 2 + (64 + e.toNat - (-e).toNat) / 3 + (if 0 ≤ e ∨ A = 0 then 1 else (-e).toNat) := by
  obtain ⟨a, b, rfl, h0, hb, _, hv, hz⟩ := h
  rw [← hb, append_size, append_size, show dotB.size = 1 from rfl]
  have key : a.size - 1 ≤ (64 + e.toNat - (-e).toNat) / 3 := by
    rcases hz with hz | hz
    · omega
    · have h1 : 10 ^ (a.size - 1) * 10 ^ b.size * 2 ^ (-e).toNat ≤ A * 2 ^ e.toNat * 10 ^ b.size := by
        rw [← hv]; exact Nat.mul_le_mul_right _ hz
      have h2 : 10 ^ (a.size - 1) * 2 ^ (-e).toNat ≤ A * 2 ^ e.toNat := by
        apply Nat.le_of_mul_le_mul_right _ (Nat.pow_pos (show 0 < 10 by omega) (n := b.size))
        rw [Nat.mul_right_comm]; exact h1
      have h3 : 2 ^ (3 * (a.size - 1)) ≤ 10 ^ (a.size - 1) := by rw [Nat.pow_mul]; exact Nat.pow_le_pow_left (by omega) _
      have h4 : 2 ^ (3 * (a.size - 1) + (-e).toNat) ≤ A * 2 ^ e.toNat := by
        rw [Nat.pow_add]; exact Nat.le_trans (Nat.mul_le_mul_right _ h3) h2
      have h5 : A * 2 ^ e.toNat < 2 ^ (64 + e.toNat) := by
        rw [Nat.pow_add]
        exact Nat.mul_lt_mul_of_pos_right (show A < 2 ^ 64 from hA) (Nat.two_pow_pos _)
      have h6 := (Nat.pow_lt_pow_iff_right (a := 2) (by omega)).1 (Nat.lt_of_le_of_lt h4 h5)
      omega
  omega
end Go.Proofs.YtoedefjngipeiaaGreatDoor

/- All digits of a number: plain. -/
namespace Go.Proofs.YtoedefjngipeiaaGreatDoor
open Go.RowKit

/-- 0.DIGITS times 10 to the pow is M times 2 to the E; the first and the last digit are not 0. -/
def ExD (ds : ByteArray) (pow : Int) (M : Nat) (E : Int) : Prop := 0 < ds.size ∧ good 10 ds.data.toList ∧ (∀ h : 0 < ds.size, ds[0].toNat ≠ 48) ∧ (∀ h : ds.size - 1 < ds.size, ds[ds.size - 1].toNat ≠ 48)
  ∧ valN 10 ds.data.toList * 10 ^ (pow - (ds.size : Int)).toNat * 2 ^ (-E).toNat = M * 2 ^ E.toNat * 10 ^ ((ds.size : Int) - pow).toNat
/-- While zeros at the end are left out. -/
def Stp (d0 t : ByteArray) (j : Nat) : Prop := 0 < t.size ∧ good 10 t.data.toList ∧ (∀ h : 0 < t.size, t[0].toNat ≠ 48) ∧ valN 10 d0.data.toList = valN 10 t.data.toList * 10 ^ j ∧ t.size + j = d0.size
theorem stp_start (d0 : ByteArray) (A : Nat) (h : IsDec d0 A) (hA : 0 < A) : Stp d0 d0 0 := ⟨dec_pos d0 A h hA, h.1, h.2.2, by rw [Nat.pow_zero, Nat.mul_one], rfl⟩
theorem last_cut (t : ByteArray) (h : 0 < t.size) : t.data.toList = (t.extract 0 (t.size - 1)).data.toList ++ [t[t.size - 1]] := by
  have e : (t.extract 0 (t.size - 1)).data.toList = t.data.toList.take (t.size - 1) := by rw [Lib.extract_eq]; simp
  rw [e]
  have := List.take_append_getLast t.data.toList
  have h1 : t.data.toList.take (t.size - 1 + 1) = t.data.toList.take (t.size - 1) ++ [t.data.toList[t.size - 1]'(by rw [data_len]; omega)] := List.take_succ_eq_append_getElem (by rw [data_len]; omega)
  rw [show t.size - 1 + 1 = t.size by omega, List.take_of_length_le (by rw [data_len]; omega)] at h1
  exact h1
theorem valN_last (t : ByteArray) (h : 0 < t.size) (hz : t[t.size - 1].toNat = 48) : valN 10 t.data.toList = valN 10 (t.extract 0 (t.size - 1)).data.toList * 10 := by
  have e := last_cut t h
  have h1 : valN 10 [t[t.size - 1]] = 0 := by rw [valN_zero 10 _ _ hz, valN_nil]
  rw [e, valN_append, h1]
  rfl
theorem stp_next (d0 t : ByteArray) (j : Nat) (hp : 0 < valN 10 d0.data.toList) (h : Stp d0 t j) (hz : ∀ h : t.size - 1 < t.size, t[t.size - 1].toNat = 48) : Stp d0 (t.extract 0 (t.size - 1)) (j + 1) := by
  obtain ⟨h1, h2, h3, h4, h5⟩ := h
  have hv := valN_last t h1 (hz (by omega))
  have hs : (t.extract 0 (t.size - 1)).size = t.size - 1 := by simp
  have h0 : 0 < t.size - 1 := by
    apply Nat.pos_of_ne_zero
    intro h0
    have e : (t.extract 0 (t.size - 1)).data.toList = [] := List.length_eq_zero_iff.1 (by rw [data_len, hs]; exact h0)
    rw [hv, e, valN_nil] at h4
    omega
  refine ⟨by omega, ?_, ?_, ?_, by omega⟩
  · intro c hc
    exact h2 c (by rw [last_cut t h1]; exact List.mem_append_left _ hc)
  · intro h
    have := h3 h1
    rw [ByteArray.getElem_extract]
    simpa using this
  · rw [h4, hv, Nat.pow_succ, Nat.mul_assoc, Nat.mul_comm 10]
theorem stp_end (d0 t : ByteArray) (j M s : Nat) (E : Int) (h : Stp d0 t j) (hz : ∀ h : t.size - 1 < t.size, t[t.size - 1].toNat ≠ 48) (hA : valN 10 d0.data.toList = M * 2 ^ E.toNat * 5 ^ s) (hs : s = (-E).toNat) : ExD t ((d0.size : Int) - (s : Int)) M E := by
  obtain ⟨h1, h2, h3, h4, h5⟩ := h
  refine ⟨h1, h2, h3, hz, ?_⟩
  rw [show ((d0.size : Int) - (s : Int) - (t.size : Int)).toNat = j - s by omega, show ((t.size : Int) - ((d0.size : Int) - (s : Int))).toNat = s - j by omega, ← hs]
  apply Nat.eq_of_mul_eq_mul_right (Nat.pow_pos (show 0 < 10 by omega) (n := min j s))
  have e1 : 10 ^ (j - s) * 10 ^ min j s = 10 ^ j := by rw [← Nat.pow_add]; congr 1; omega
  have e2 : 10 ^ (s - j) * 10 ^ min j s = 10 ^ s := by rw [← Nat.pow_add]; congr 1; omega
  have e3 : (10 : Nat) ^ s = 5 ^ s * 2 ^ s := by rw [← Nat.mul_pow]
  rw [Nat.mul_assoc (M * 2 ^ E.toNat), e2, e3, ← Nat.mul_assoc, ← hA, h4]
  rw [Nat.mul_right_comm, Nat.mul_assoc (valN 10 t.data.toList), e1]
end Go.Proofs.YtoedefjngipeiaaGreatDoor

