import Derived.Test.YtoedefjngipeiaaGreatDoorA39
import Derived.Deep.RegionWith
/- ReadFlt of the specification: from the exponent on, base 10. -/
namespace Go.Proofs.YtoedefjngipeiaaGreatDoor
open Go.ChangeShapes Go.WideShapes Go.RowKit

attribute [local go_sem] run_store_float
set_option maxHeartbeats 8000000 in
set_option maxRecDepth 1000000 in
theorem readEnd_10 (s : ByteArray) (w : World) (neg : Bool) (k k1 j : Nat) (ds : ByteArray) (e : Int) (i : Nat) (v1 v5 v6 v7 v11 v12 v13 v14 v15 v16 v17 v18 v19 v20 v21 v22 v23 v24 v25 v26 v27 v28 v29 v30 v31 v32 v33 v34 v35 v36 v37 v38 v39 v40 v41 v42 v43 v44 v45 v46 v47 v48 v49 v50 v51 v52 v53 v54 v55 v56 v57 v58 v59 v60 v61 v62 v63 v64 v65 v66 v67 v68 v69 v70 v71 v72 v73 v74 v75 v76 v77 v78 v79 v80 v81 v82 v83 v84 v85 v86 v87 v88 v89 v90 v91 v92 v93 v94 v95 v96 v97 v98 v99 v100 v101 v102 v103 v104 v105 v106 v107 v108 v109 v110 v111 v112 v113 v114 v115 v116 v117 v118 v119 v120 v121 v122 v123 v124 v125 v126 v127 v128 v129 v130 v131 v132 v133 v134 v135 v136 v137 v138 v139 v140 v141 v142 v143 v144 v145 v146 v147 v148 v149 v150 v151 v152 v153 v154 v155 v156 v157 v158 v159 v160 v161 v162 v163 v164 v165 v166 v167 v168 v169 v170 v171 v172 v173 v174 v175 v176 v177 v178 v179 v180 v181 v182 v183 v184 v185 v186 v187 v188 v189 v190 v191 : Value) (wc : World) (hbig : ¬ 1200 < s.size) (hs : s.size ≤ 1300) (HG : Hid (Sgn s 0 neg k)) (HNW : Hid (bAt s k ≠ 105 ∧ bAt s k ≠ 110)) (HBs : Hid (Bas s k 10 k1)) (HRun : Hid (Run 10 s k1 j)) (hkj' : k1 < j)
    (he1 : -1200 ≤ e) (he2 : e ≤ 0) (hds : ds.size ≤ 1200) (his : i ≤ s.size) (hgd : good 10 ds.data.toList) (HFr : Hid (Frac 10 s k1 j (some (ds, e, i)))) (H8 : Hid (St w wc s i)) :
    Code.wp Tryz.prog (dropSeq 12 (Tryz.f16.body.getD .skip)) (bodyPost Tryz.prog Tryz.f16 (ReadQ s w)) ⟨#[.string s, v1, .pointer (some ⟨w.heap.size, 0, none⟩), .pointer (some ⟨w.heap.size + 1, 0, none⟩), .bool neg, v5, v6, v7, .int .i64 10, .string ds, .int .i64 e, v11, v12, v13, v14, v15, v16, v17, v18, v19, v20, v21, v22, v23, v24, v25, v26, v27, v28, v29, v30, v31, v32, v33, v34, v35, v36, v37, v38, v39, v40, v41, v42, v43, v44, v45, v46, v47, v48, v49, v50, v51, v52, v53, v54, v55, v56, v57, v58, v59, v60, v61, v62, v63, v64, v65, v66, v67, v68, v69, v70, v71, v72, v73, v74, v75, v76, v77, v78, v79, v80, v81, v82, v83, v84, v85, v86, v87, v88, v89, v90, v91, v92, v93, v94, v95, v96, v97, v98, v99, v100, v101, v102, v103, v104, v105, v106, v107, v108, v109, v110, v111, v112, v113, v114, v115, v116, v117, v118, v119, v120, v121, v122, v123, v124, v125, v126, v127, v128, v129, v130, v131, v132, v133, v134, v135, v136, v137, v138, v139, v140, v141, v142, v143, v144, v145, v146, v147, v148, v149, v150, v151, v152, v153, v154, v155, v156, v157, v158, v159, v160, v161, v162, v163, v164, v165, v166, v167, v168, v169, v170, v171, v172, v173, v174, v175, v176, v177, v178, v179, v180, v181, v182, v183, v184, v185, v186, v187, v188, v189, v190, v191], []⟩ wc := by
  have hs0 : (s.size : Int) ≤ 1200 := by omega
  conv => arg 2; whnf
  have HGD : Hid _ := fun (_ : Unit) => hgd
  clear hgd
  go_upto_region 41 with fail
  go_cut [150] from 15 (fun s150 wc => ∃ t : Bool, s150 = .bool t ∧ Hid ((t = true ∧ bAt s i = 101 ∧ i < s.size ∧ St w wc s (i + 1)) ∨ (t = false ∧ bAt s i ≠ 101 ∧ St w wc s i)))
  case first =>
    have H9 : Hid _ := fun (_ : Unit) => is_any (w.heap.size + 1) _ s i 101 H8.out.2.1 hs (by omega)
    go_wp2_with fail
    refine (H9.out ()).mono ?_
    rintro x w9 ⟨t, j9, ht9, rfl, hr9, ho9⟩
    have H10 : Hid (St w w9 s j9) := H8.out.only ho9 hr9
    clear hr9 ho9 H9
    go_wp2
    go_meet
    case rel =>
      refine ⟨t, rfl, ?_⟩
      rcases ht9 with ⟨rfl, h91, h92, rfl⟩ | ⟨rfl, h91, rfl⟩
      · exact .inl ⟨rfl, h92, h91, H10.out⟩
      · exact .inr ⟨rfl, h91, H10.out⟩
  case rest =>
    obtain ⟨t, rfl, HT9⟩ := hcut
    clear H8
    go_upto_if 150 with fail
    go_cut [10] from 15 (fun s10 wc => ∃ (n : Int) (a : Nat), s10 = .int .i64 (e + n) ∧ -100000 ≤ n ∧ n ≤ 100000 ∧ Hid (Expo (markOf 10) s i (.inl (n, a))) ∧ Hid (St w wc s a))
    case first =>
      cases t
      · obtain ⟨h91, h92⟩ := (HT9.out.resolve_left (by rintro ⟨h, _⟩; cases h)).2
        have H10 : Hid _ := fun (_ : Unit) => h92
        have HEX : Hid (Expo (markOf 10) s i (.inl (0, i))) := .inl ⟨h91, rfl⟩
        clear h91 h92
        go_wp2
        go_meet
        case rel => exact ⟨0, i, by rw [Int.add_zero], by omega, by omega, HEX.out, H10.out ()⟩
      · obtain ⟨h91, h92, h93⟩ := (HT9.out.resolve_right (by rintro ⟨h, _⟩; cases h)).2
        have H10 : Hid _ := fun (_ : Unit) => h93
        have H91 : Hid (bAt s i = 101) := h91
        obtain ⟨ng, kk, hsg⟩ := sgn_any s (i + 1)
        have HSG : Hid (Sgn s (i + 1) ng kk) := hsg
        have H11 : Hid _ := fun (_ : Unit) => exponent_any (w.heap.size + 1) _ s (i + 1) h93.2.1 hs (by omega) ng kk hsg
        clear h91 h92 h93 hsg
        go_wp2_with fail
        refine (H11.out ()).mono ?_
        rintro x w11 ⟨j3, hrun3, rfl, hr11, ho11⟩
        have H12 : Hid (St w w11 s j3) := (H10.out ()).only ho11 hr11
        have HR3 : Hid (Run 10 s kk j3) := hrun3
        clear hr11 ho11 H11 hrun3
        by_cases hj3 : kk < j3
        · have hj3' : decide (kk < j3) = true := decide_eq_true hj3
          have hex : -100000 ≤ expV ng (runV 10 s kk j3) ∧ expV ng (runV 10 s kk j3) ≤ 100000 := by unfold expV cap; split <;> omega
          have HEX : Hid (Expo (markOf 10) s i (.inl (expV ng (runV 10 s kk j3), j3))) := .inr ⟨H91.out, ng, kk, j3, HSG.out, HR3.out, .inr ⟨hj3, rfl⟩⟩
          obtain ⟨x1, x2⟩ := hex
          generalize expV ng (runV 10 s kk j3) = n at *
          rw [hj3']
          clear hj3 hj3'
          go_wp2
          go_meet
          case rel => exact ⟨n, j3, rfl, x1, x2, HEX.out, H12.out⟩
        · have hj3' : decide (kk < j3) = false := decide_eq_false hj3
          have hjk : j3 = kk := by have := HR3.out.1; omega
          have HX : Hid (ReadA s false ((j3 : Nat) : Int) (· = 0)) := .inr ⟨by omega, neg, k, HG.out, .inr ⟨HNW.out.1, HNW.out.2, 10, k1, j, HBs.out, HRun.out, .inr ⟨by omega, _, HFr.out, .inr ⟨ds, e, i, _, rfl, .inr ⟨H91.out, ng, kk, j3, HSG.out, HR3.out, .inl ⟨hjk, rfl⟩⟩, .inl ⟨j3, rfl, rfl, rfl, rfl⟩⟩⟩⟩⟩
          obtain ⟨hB, ⟨e0, e1, _⟩, hz, r0, r1, r2, f0, f1, f2⟩ := H12.out
          rw [hj3']
          clear hj3 hj3' hjk
          generalize expV ng (runV 10 s kk j3) = n at *
          go_wp2
          exact bodyPost_ret (v := .agg #[.bool false, .int .i64 ((j3 : Nat) : Int), .float .f64 0]) (by simp [results, Tryz.results16, go_sem, r0, r1, r2]) rfl ⟨false, _, _, 0, HX.out, rfl, by omega, rfl, (by repeat (first | exact hB | refine Below.drew ?_ | refine below_drewN ?_ _ | refine Below.setCell ?_ (by simp) _ | refine Below.alloc ?_ (by simp <;> omega) _))⟩
    case rest =>
      clear HT9
      obtain ⟨n, a, rfl, n1, n2, HEX, H13⟩ := hcut
      obtain ⟨hB, ⟨e0, e1, _⟩, hz, r0, r1, r2, f0, f1, f2⟩ := H13.out
      by_cases ha : a < s.size
      · have ha' : (a : Int) < (s.size : Int) := by omega
        have HX : Hid (ReadA s false ((a : Nat) : Int) (· = 0)) := .inr ⟨by omega, neg, k, HG.out, .inr ⟨HNW.out.1, HNW.out.2, 10, k1, j, HBs.out, HRun.out, .inr ⟨by omega, _, HFr.out, .inr ⟨ds, e, i, _, rfl, HEX.out, .inr ⟨n, a, rfl, .inl ⟨ha, rfl, rfl, rfl⟩⟩⟩⟩⟩⟩
        clear ha
        go_wp2
        exact bodyPost_ret (v := .agg #[.bool false, .int .i64 ((a : Nat) : Int), .float .f64 0]) (by simp [results, Tryz.results16, go_sem, r0, r1, r2]) rfl ⟨false, _, _, 0, HX.out, rfl, by omega, rfl, (by repeat (first | exact hB | refine Below.drew ?_ | refine below_drewN ?_ _ | refine Below.setCell ?_ (by simp) _ | refine Below.alloc ?_ (by simp <;> omega) _))⟩
      · have ha' : decide (a < s.size) = false := decide_eq_false ha
        have ha2 : (s.size : Int) ≤ (a : Int) := by omega
        have HX : Hid (ReadA s true 0 (· = flW neg 10 ds (expOf 10 e + n))) := .inr ⟨by omega, neg, k, HG.out, .inr ⟨HNW.out.1, HNW.out.2, 10, k1, j, HBs.out, HRun.out, .inr ⟨by omega, _, HFr.out, .inr ⟨ds, e, i, _, rfl, HEX.out, .inr ⟨n, a, rfl, .inr ⟨ha, rfl, rfl, rfl⟩⟩⟩⟩⟩⟩
        clear ha
        have HCV : Hid _ := fun w => l4decimal_any ds (e + n) w (by omega) (HGD.out ()) (by omega) (by omega)
        go_wp2_with fail
        refine (HCV.out _).mono ?_
        rintro x w14 ⟨rfl, hb14⟩
        have H15 : Hid (St w w14 s a) := H13.out.below hb14
        clear HCV hb14 hB e0 e1 hz r0 r1 r2 f0 f1 f2
        obtain ⟨hB, ⟨e0, e1, _⟩, hz, r0, r1, r2, f0, f1, f2⟩ := H15.out
        have HSW : Hid _ := fun w => signed_word neg _ (decW_half 10 (valN 10 ds.data.toList) (e + n)) w
        have HFL : Hid (signBit neg + decW 10 (valN 10 ds.data.toList) (e + n) = flW neg 10 ds (expOf 10 e + n)) := by
            show _ = _
            unfold flW expOf
            rw [if_neg (by decide), if_neg (by decide)]
        rw [HFL.out] at HSW
        generalize decW 10 (valN 10 ds.data.toList) (e + n) = xw at *
        have HLT : Hid (flW neg 10 ds (expOf 10 e + n) < 18446744073709551616) := flW_lt _ _ _ _
        generalize flW neg 10 ds (expOf 10 e + n) = yw at *
        go_wp2_with (go_at_call 38; refine (HSW.out _).mono ?_; rintro x w' ⟨rfl, rfl⟩)
        exact bodyPost_ret (v := .agg #[.bool true, .int .i64 0, .float .f64 yw]) (by simp [results, Tryz.results16, go_sem, r0, r1, r2]) rfl ⟨true, _, _, yw, HX.out, rfl, HLT.out, rfl, (by repeat (first | exact hB | refine Below.drew ?_ | refine below_drewN ?_ _ | refine Below.setCell ?_ (by simp) _ | refine Below.alloc ?_ (by simp <;> omega) _))⟩
end Go.Proofs.YtoedefjngipeiaaGreatDoor

/- ReadFlt of the specification: from the exponent on, base 16. -/
namespace Go.Proofs.YtoedefjngipeiaaGreatDoor
open Go.ChangeShapes Go.WideShapes Go.RowKit

attribute [local go_sem] run_store_float
set_option maxHeartbeats 8000000 in
set_option maxRecDepth 1000000 in
theorem readEnd_16 (s : ByteArray) (w : World) (neg : Bool) (k k1 j : Nat) (ds : ByteArray) (e : Int) (i : Nat) (v1 v5 v6 v7 v11 v12 v13 v14 v15 v16 v17 v18 v19 v20 v21 v22 v23 v24 v25 v26 v27 v28 v29 v30 v31 v32 v33 v34 v35 v36 v37 v38 v39 v40 v41 v42 v43 v44 v45 v46 v47 v48 v49 v50 v51 v52 v53 v54 v55 v56 v57 v58 v59 v60 v61 v62 v63 v64 v65 v66 v67 v68 v69 v70 v71 v72 v73 v74 v75 v76 v77 v78 v79 v80 v81 v82 v83 v84 v85 v86 v87 v88 v89 v90 v91 v92 v93 v94 v95 v96 v97 v98 v99 v100 v101 v102 v103 v104 v105 v106 v107 v108 v109 v110 v111 v112 v113 v114 v115 v116 v117 v118 v119 v120 v121 v122 v123 v124 v125 v126 v127 v128 v129 v130 v131 v132 v133 v134 v135 v136 v137 v138 v139 v140 v141 v142 v143 v144 v145 v146 v147 v148 v149 v150 v151 v152 v153 v154 v155 v156 v157 v158 v159 v160 v161 v162 v163 v164 v165 v166 v167 v168 v169 v170 v171 v172 v173 v174 v175 v176 v177 v178 v179 v180 v181 v182 v183 v184 v185 v186 v187 v188 v189 v190 v191 : Value) (wc : World) (hbig : ¬ 1200 < s.size) (hs : s.size ≤ 1300) (HG : Hid (Sgn s 0 neg k)) (HNW : Hid (bAt s k ≠ 105 ∧ bAt s k ≠ 110)) (HBs : Hid (Bas s k 16 k1)) (HRun : Hid (Run 16 s k1 j)) (hkj' : k1 < j)
    (he1 : -1200 ≤ e) (he2 : e ≤ 0) (hds : ds.size ≤ 1200) (his : i ≤ s.size) (hgd : good 16 ds.data.toList) (HFr : Hid (Frac 16 s k1 j (some (ds, e, i)))) (H8 : Hid (St w wc s i)) :
    Code.wp Tryz.prog (dropSeq 12 (Tryz.f16.body.getD .skip)) (bodyPost Tryz.prog Tryz.f16 (ReadQ s w)) ⟨#[.string s, v1, .pointer (some ⟨w.heap.size, 0, none⟩), .pointer (some ⟨w.heap.size + 1, 0, none⟩), .bool neg, v5, v6, v7, .int .i64 16, .string ds, .int .i64 e, v11, v12, v13, v14, v15, v16, v17, v18, v19, v20, v21, v22, v23, v24, v25, v26, v27, v28, v29, v30, v31, v32, v33, v34, v35, v36, v37, v38, v39, v40, v41, v42, v43, v44, v45, v46, v47, v48, v49, v50, v51, v52, v53, v54, v55, v56, v57, v58, v59, v60, v61, v62, v63, v64, v65, v66, v67, v68, v69, v70, v71, v72, v73, v74, v75, v76, v77, v78, v79, v80, v81, v82, v83, v84, v85, v86, v87, v88, v89, v90, v91, v92, v93, v94, v95, v96, v97, v98, v99, v100, v101, v102, v103, v104, v105, v106, v107, v108, v109, v110, v111, v112, v113, v114, v115, v116, v117, v118, v119, v120, v121, v122, v123, v124, v125, v126, v127, v128, v129, v130, v131, v132, v133, v134, v135, v136, v137, v138, v139, v140, v141, v142, v143, v144, v145, v146, v147, v148, v149, v150, v151, v152, v153, v154, v155, v156, v157, v158, v159, v160, v161, v162, v163, v164, v165, v166, v167, v168, v169, v170, v171, v172, v173, v174, v175, v176, v177, v178, v179, v180, v181, v182, v183, v184, v185, v186, v187, v188, v189, v190, v191], []⟩ wc := by
  have hs0 : (s.size : Int) ≤ 1200 := by omega
  conv => arg 2; whnf
  have HGD : Hid _ := fun (_ : Unit) => hgd
  clear hgd
  go_upto_region 41 with fail
  go_cut [150] from 15 (fun s150 wc => ∃ t : Bool, s150 = .bool t ∧ Hid ((t = true ∧ bAt s i = 112 ∧ i < s.size ∧ St w wc s (i + 1)) ∨ (t = false ∧ bAt s i ≠ 112 ∧ St w wc s i)))
  case first =>
    have H9 : Hid _ := fun (_ : Unit) => is_any (w.heap.size + 1) _ s i 112 H8.out.2.1 hs (by omega)
    go_wp2_with fail
    refine (H9.out ()).mono ?_
    rintro x w9 ⟨t, j9, ht9, rfl, hr9, ho9⟩
    have H10 : Hid (St w w9 s j9) := H8.out.only ho9 hr9
    clear hr9 ho9 H9
    go_wp2
    go_meet
    case rel =>
      refine ⟨t, rfl, ?_⟩
      rcases ht9 with ⟨rfl, h91, h92, rfl⟩ | ⟨rfl, h91, rfl⟩
      · exact .inl ⟨rfl, h92, h91, H10.out⟩
      · exact .inr ⟨rfl, h91, H10.out⟩
  case rest =>
    obtain ⟨t, rfl, HT9⟩ := hcut
    clear H8
    go_upto_if 150 with fail
    go_cut [10] from 15 (fun s10 wc => ∃ (n : Int) (a : Nat), s10 = .int .i64 (4 * e + n) ∧ -100000 ≤ n ∧ n ≤ 100000 ∧ Hid (Expo (markOf 16) s i (.inl (n, a))) ∧ Hid (St w wc s a))
    case first =>
      cases t
      · obtain ⟨h91, h92⟩ := (HT9.out.resolve_left (by rintro ⟨h, _⟩; cases h)).2
        have H10 : Hid _ := fun (_ : Unit) => h92
        have HEX : Hid (Expo (markOf 16) s i (.inl (0, i))) := .inl ⟨h91, rfl⟩
        clear h91 h92
        go_wp2
        go_meet
        case rel => exact ⟨0, i, by rw [Int.add_zero], by omega, by omega, HEX.out, H10.out ()⟩
      · obtain ⟨h91, h92, h93⟩ := (HT9.out.resolve_right (by rintro ⟨h, _⟩; cases h)).2
        have H10 : Hid _ := fun (_ : Unit) => h93
        have H91 : Hid (bAt s i = 112) := h91
        obtain ⟨ng, kk, hsg⟩ := sgn_any s (i + 1)
        have HSG : Hid (Sgn s (i + 1) ng kk) := hsg
        have H11 : Hid _ := fun (_ : Unit) => exponent_any (w.heap.size + 1) _ s (i + 1) h93.2.1 hs (by omega) ng kk hsg
        clear h91 h92 h93 hsg
        go_wp2_with fail
        refine (H11.out ()).mono ?_
        rintro x w11 ⟨j3, hrun3, rfl, hr11, ho11⟩
        have H12 : Hid (St w w11 s j3) := (H10.out ()).only ho11 hr11
        have HR3 : Hid (Run 10 s kk j3) := hrun3
        clear hr11 ho11 H11 hrun3
        by_cases hj3 : kk < j3
        · have hj3' : decide (kk < j3) = true := decide_eq_true hj3
          have hex : -100000 ≤ expV ng (runV 10 s kk j3) ∧ expV ng (runV 10 s kk j3) ≤ 100000 := by unfold expV cap; split <;> omega
          have HEX : Hid (Expo (markOf 16) s i (.inl (expV ng (runV 10 s kk j3), j3))) := .inr ⟨H91.out, ng, kk, j3, HSG.out, HR3.out, .inr ⟨hj3, rfl⟩⟩
          obtain ⟨x1, x2⟩ := hex
          generalize expV ng (runV 10 s kk j3) = n at *
          rw [hj3']
          clear hj3 hj3'
          go_wp2
          go_meet
          case rel => exact ⟨n, j3, rfl, x1, x2, HEX.out, H12.out⟩
        · have hj3' : decide (kk < j3) = false := decide_eq_false hj3
          have hjk : j3 = kk := by have := HR3.out.1; omega
          have HX : Hid (ReadA s false ((j3 : Nat) : Int) (· = 0)) := .inr ⟨by omega, neg, k, HG.out, .inr ⟨HNW.out.1, HNW.out.2, 16, k1, j, HBs.out, HRun.out, .inr ⟨by omega, _, HFr.out, .inr ⟨ds, e, i, _, rfl, .inr ⟨H91.out, ng, kk, j3, HSG.out, HR3.out, .inl ⟨hjk, rfl⟩⟩, .inl ⟨j3, rfl, rfl, rfl, rfl⟩⟩⟩⟩⟩
          obtain ⟨hB, ⟨e0, e1, _⟩, hz, r0, r1, r2, f0, f1, f2⟩ := H12.out
          rw [hj3']
          clear hj3 hj3' hjk
          generalize expV ng (runV 10 s kk j3) = n at *
          go_wp2
          exact bodyPost_ret (v := .agg #[.bool false, .int .i64 ((j3 : Nat) : Int), .float .f64 0]) (by simp [results, Tryz.results16, go_sem, r0, r1, r2]) rfl ⟨false, _, _, 0, HX.out, rfl, by omega, rfl, (by repeat (first | exact hB | refine Below.drew ?_ | refine below_drewN ?_ _ | refine Below.setCell ?_ (by simp) _ | refine Below.alloc ?_ (by simp <;> omega) _))⟩
    case rest =>
      clear HT9
      obtain ⟨n, a, rfl, n1, n2, HEX, H13⟩ := hcut
      obtain ⟨hB, ⟨e0, e1, _⟩, hz, r0, r1, r2, f0, f1, f2⟩ := H13.out
      by_cases ha : a < s.size
      · have ha' : (a : Int) < (s.size : Int) := by omega
        have HX : Hid (ReadA s false ((a : Nat) : Int) (· = 0)) := .inr ⟨by omega, neg, k, HG.out, .inr ⟨HNW.out.1, HNW.out.2, 16, k1, j, HBs.out, HRun.out, .inr ⟨by omega, _, HFr.out, .inr ⟨ds, e, i, _, rfl, HEX.out, .inr ⟨n, a, rfl, .inl ⟨ha, rfl, rfl, rfl⟩⟩⟩⟩⟩⟩
        clear ha
        go_wp2
        exact bodyPost_ret (v := .agg #[.bool false, .int .i64 ((a : Nat) : Int), .float .f64 0]) (by simp [results, Tryz.results16, go_sem, r0, r1, r2]) rfl ⟨false, _, _, 0, HX.out, rfl, by omega, rfl, (by repeat (first | exact hB | refine Below.drew ?_ | refine below_drewN ?_ _ | refine Below.setCell ?_ (by simp) _ | refine Below.alloc ?_ (by simp <;> omega) _))⟩
      · have ha' : decide (a < s.size) = false := decide_eq_false ha
        have ha2 : (s.size : Int) ≤ (a : Int) := by omega
        have HX : Hid (ReadA s true 0 (· = flW neg 16 ds (expOf 16 e + n))) := .inr ⟨by omega, neg, k, HG.out, .inr ⟨HNW.out.1, HNW.out.2, 16, k1, j, HBs.out, HRun.out, .inr ⟨by omega, _, HFr.out, .inr ⟨ds, e, i, _, rfl, HEX.out, .inr ⟨n, a, rfl, .inr ⟨ha, rfl, rfl, rfl⟩⟩⟩⟩⟩⟩
        clear ha
        have HCV : Hid _ := fun w => l4hexed_any ds (4 * e + n) w (by omega) (by omega) (by omega)
        go_wp2_with fail
        refine (HCV.out _).mono ?_
        rintro x w14 ⟨rfl, hb14⟩
        have H15 : Hid (St w w14 s a) := H13.out.below hb14
        clear HCV hb14 hB e0 e1 hz r0 r1 r2 f0 f1 f2
        obtain ⟨hB, ⟨e0, e1, _⟩, hz, r0, r1, r2, f0, f1, f2⟩ := H15.out
        have HSW : Hid _ := fun w => signed_word neg _ (fw_half (valN 16 ds.data.toList) (4 * e + n)) w
        have HFL : Hid (signBit neg + fw false (valN 16 ds.data.toList) (4 * e + n) = flW neg 16 ds (expOf 16 e + n)) := by
            show _ = _
            unfold flW expOf
            rw [if_pos rfl, if_pos rfl]
        rw [HFL.out] at HSW
        generalize fw false (valN 16 ds.data.toList) (4 * e + n) = xw at *
        have HLT : Hid (flW neg 16 ds (expOf 16 e + n) < 18446744073709551616) := flW_lt _ _ _ _
        generalize flW neg 16 ds (expOf 16 e + n) = yw at *
        go_wp2_with (go_at_call 38; refine (HSW.out _).mono ?_; rintro x w' ⟨rfl, rfl⟩)
        exact bodyPost_ret (v := .agg #[.bool true, .int .i64 0, .float .f64 yw]) (by simp [results, Tryz.results16, go_sem, r0, r1, r2]) rfl ⟨true, _, _, yw, HX.out, rfl, HLT.out, rfl, (by repeat (first | exact hB | refine Below.drew ?_ | refine below_drewN ?_ _ | refine Below.setCell ?_ (by simp) _ | refine Below.alloc ?_ (by simp <;> omega) _))⟩
end Go.Proofs.YtoedefjngipeiaaGreatDoor

/- ReadFlt of the specification: from the base on. -/
namespace Go.Proofs.YtoedefjngipeiaaGreatDoor
open Go.ChangeShapes Go.WideShapes Go.RowKit

attribute [local go_sem] run_store_float
set_option maxHeartbeats 8000000 in
set_option maxRecDepth 1000000 in
theorem readMid (s : ByteArray) (w : World) (neg : Bool) (k : Nat) (v1 v5 v6 v7 v8 v9 v10 v11 v12 v13 v14 v15 v16 v17 v18 v19 v20 v21 v22 v23 v24 v25 v26 v27 v28 v29 v30 v31 v32 v33 v34 v35 v36 v37 v38 v39 v40 v41 v42 v43 v44 v45 v46 v47 v48 v49 v50 v51 v52 v53 v54 v55 v56 v57 v58 v59 v60 v61 v62 v63 v64 v65 v66 v67 v68 v69 v70 v71 v72 v73 v74 v75 v76 v77 v78 v79 v80 v81 v82 v83 v84 v85 v86 v87 v88 v89 v90 v91 v92 v93 v94 v95 v96 v97 v98 v99 v100 v101 v102 v103 v104 v105 v106 v107 v108 v109 v110 v111 v112 v113 v114 v115 v116 v117 v118 v119 v120 v121 v122 v123 v124 v125 v126 v127 v128 v129 v130 v131 v132 v133 v134 v135 v136 v137 v138 v139 v140 v141 v142 v143 v144 v145 v146 v147 v148 v149 v150 v151 v152 v153 v154 v155 v156 v157 v158 v159 v160 v161 v162 v163 v164 v165 v166 v167 v168 v169 v170 v171 v172 v173 v174 v175 v176 v177 v178 v179 v180 v181 v182 v183 v184 v185 v186 v187 v188 v189 v190 v191 : Value) (wc : World) (hbig : ¬ 1200 < s.size) (hs : s.size ≤ 1300) (HG : Hid (Sgn s 0 neg k)) (H3 : Hid (St w wc s k)) (HNW : Hid (bAt s k ≠ 105 ∧ bAt s k ≠ 110)) :
    Code.wp Tryz.prog (dropSeq 6 (Tryz.f16.body.getD .skip)) (bodyPost Tryz.prog Tryz.f16 (ReadQ s w)) ⟨#[.string s, v1, .pointer (some ⟨w.heap.size, 0, none⟩), .pointer (some ⟨w.heap.size + 1, 0, none⟩), .bool neg, v5, v6, v7, v8, v9, v10, v11, v12, v13, v14, v15, v16, v17, v18, v19, v20, v21, v22, v23, v24, v25, v26, v27, v28, v29, v30, v31, v32, v33, v34, v35, v36, v37, v38, v39, v40, v41, v42, v43, v44, v45, v46, v47, v48, v49, v50, v51, v52, v53, v54, v55, v56, v57, v58, v59, v60, v61, v62, v63, v64, v65, v66, v67, v68, v69, v70, v71, v72, v73, v74, v75, v76, v77, v78, v79, v80, v81, v82, v83, v84, v85, v86, v87, v88, v89, v90, v91, v92, v93, v94, v95, v96, v97, v98, v99, v100, v101, v102, v103, v104, v105, v106, v107, v108, v109, v110, v111, v112, v113, v114, v115, v116, v117, v118, v119, v120, v121, v122, v123, v124, v125, v126, v127, v128, v129, v130, v131, v132, v133, v134, v135, v136, v137, v138, v139, v140, v141, v142, v143, v144, v145, v146, v147, v148, v149, v150, v151, v152, v153, v154, v155, v156, v157, v158, v159, v160, v161, v162, v163, v164, v165, v166, v167, v168, v169, v170, v171, v172, v173, v174, v175, v176, v177, v178, v179, v180, v181, v182, v183, v184, v185, v186, v187, v188, v189, v190, v191], []⟩ wc := by
  have hs0 : (s.size : Int) ≤ 1200 := by omega
  conv => arg 2; whnf
  have hk : k ≤ s.size := sgn_le s 0 neg k HG.out (by omega)
  go_upto_region 23 with fail
  go_cut [106] from 15 (fun s106 wc => ∃ t : Bool, s106 = .bool t ∧ Hid ((t = true ∧ bAt s k = 48 ∧ k + 1 < s.size ∧ bAt s (k + 1) = 120) ∨ (t = false ∧ ¬ (bAt s k = 48 ∧ k + 1 < s.size ∧ bAt s (k + 1) = 120))) ∧ Hid (St w wc s k))
  case first =>
    have HK : Hid _ := fun (_ : Unit) => look_any (w.heap.size + 1) _ s k H3.out.2.1
    obtain ⟨c0, c1, _⟩ := H3.out.2.1
    by_cases h48 : bAt s k = 48
    · rw [h48] at HK
      by_cases hlt : k + 1 < s.size
      · have hb := bAt_in s (k + 1) hlt
        have hlt' : (k : Int) + 1 < (s.size : Int) := by omega
        by_cases h120 : bAt s (k + 1) = 120
        · have b120 : ((s[k + 1].toNat : Int) == 120) = true := beq_iff_eq.2 (by rw [← hb]; exact h120)
          have HF : Hid _ := fun (_ : Unit) => And.intro h48 (And.intro hlt h120)
          clear h48 h120 hb
          go_wp2_with fail
          refine (HK.out ()).mono ?_
          rintro x w1 ⟨rfl, m, rfl⟩
          go_wp2
          go_meet
          case rel => exact ⟨true, rfl, .inl ⟨rfl, HF.out ()⟩, H3.out.drewN m⟩
        · have b120 : ((s[k + 1].toNat : Int) == 120) = false := beq_eq_false_iff_ne.2 (by rw [← hb]; exact h120)
          have HF : Hid (¬ (bAt s k = 48 ∧ k + 1 < s.size ∧ bAt s (k + 1) = 120)) := fun h => h120 h.2.2
          clear h48 h120 hb
          go_wp2_with fail
          refine (HK.out ()).mono ?_
          rintro x w1 ⟨rfl, m, rfl⟩
          go_wp2
          go_meet
          case rel => exact ⟨false, rfl, .inr ⟨rfl, HF.out⟩, H3.out.drewN m⟩
      · have hlt' : decide ((k : Int) + 1 < (s.size : Int)) = false := decide_eq_false (by omega)
        have HF : Hid (¬ (bAt s k = 48 ∧ k + 1 < s.size ∧ bAt s (k + 1) = 120)) := fun h => hlt h.2.1
        clear h48 hlt
        go_wp2_with fail
        refine (HK.out ()).mono ?_
        rintro x w1 ⟨rfl, m, rfl⟩
        go_wp2
        go_meet
        case rel => exact ⟨false, rfl, .inr ⟨rfl, HF.out⟩, H3.out.drewN m⟩
    · have b48 : (bAt s k == 48) = false := beq_eq_false_iff_ne.2 h48
      have HF : Hid (¬ (bAt s k = 48 ∧ k + 1 < s.size ∧ bAt s (k + 1) = 120)) := fun h => h48 h.1
      clear h48
      go_wp2_with fail
      refine (HK.out ()).mono ?_
      rintro x w1 ⟨rfl, m, rfl⟩
      go_wp2
      go_meet
      case rel => exact ⟨false, rfl, .inr ⟨rfl, HF.out⟩, H3.out.drewN m⟩
  case rest =>
    obtain ⟨t, rfl, HT1, H4⟩ := hcut
    clear H3
    go_upto_if 106 with fail
    go_cut [8] from 15 (fun s8 wc => ∃ b k1 : Nat, s8 = .int .i64 (b : Int) ∧ (b = 10 ∨ b = 16) ∧ k1 ≤ s.size ∧ Hid (Bas s k b k1) ∧ Hid (St w wc s k1))
    case first =>
      cases t
      · have HF := (HT1.out.resolve_left (by rintro ⟨h, _⟩; cases h)).2
        have HB : Hid (Bas s k 10 k) := .inr ⟨HF, rfl, rfl⟩
        clear HF
        go_wp2
        go_meet
        case rel => exact ⟨10, k, rfl, .inl rfl, hk, HB.out, H4.out⟩
      · have HF := (HT1.out.resolve_right (by rintro ⟨h, _⟩; cases h)).2
        have HB : Hid (Bas s k 16 (k + 2)) := .inl ⟨HF.1, HF.2.1, HF.2.2, rfl, rfl⟩
        have hk2 : k + 2 ≤ s.size := by have := HF.2.1; omega
        obtain ⟨c0, c1, f1⟩ := H4.out.2.1
        clear HF
        go_wp2
        go_meet
        case rel => exact ⟨16, k + 2, rfl, .inr rfl, hk2, HB.out, H4.out.only ((Only.refl _ _).setCell _ _) ⟨by simp [go_sem, c0], by simp [go_sem, c1], by simp [go_sem, f1]⟩⟩
    case rest =>
      obtain ⟨b, k1, rfl, hb, hk1, HBs, H5⟩ := hcut
      clear H4 HT1 hk
      have HD : Hid _ := fun (_ : Unit) => digits_any (w.heap.size + 1) _ s k1 (b : Int) H5.out.2.1 hs hk1
      go_wp2_with fail
      refine (HD.out ()).mono ?_
      rintro x w6 ⟨j, hrun, rfl, hr6, ho6⟩
      have HRun : Hid (Run b s k1 j) := hrun
      have H6 : Hid (St w w6 s j) := H5.out.only ho6 hr6
      have hz1 : (s.extract k1 j).size = j - k1 := by rw [ByteArray.size_extract]; have := hrun.2.1; omega
      have hjs : j ≤ s.size := hrun.2.1
      have hkj : k1 ≤ j := hrun.1
      have HG1 : Hid _ := fun (_ : Unit) => run_good b s k1 j hrun
      clear hr6 ho6 hrun HD H5
      obtain ⟨d1, hd1⟩ : ∃ d1, s.extract k1 j = d1 := ⟨_, rfl⟩
      have HD1 : Hid (s.extract k1 j = d1) := hd1
      rw [hd1] at hz1 HG1
      rw [hd1]
      clear hd1
      by_cases hj : j = k1
      · have hbE := isEmpty_yes d1 (by omega)
        have HX : Hid (ReadA s false ((j : Nat) : Int) (· = 0)) := .inr ⟨by omega, neg, k, HG.out, .inr ⟨HNW.out.1, HNW.out.2, b, k1, j, HBs.out, HRun.out, .inl ⟨hj, rfl, by rw [hj], rfl⟩⟩⟩
        obtain ⟨hB, ⟨e0, e1, _⟩, hz, r0, r1, r2, f0, f1, f2⟩ := H6.out
        clear hj
        go_wp2
        exact bodyPost_ret (v := .agg #[.bool false, .int .i64 ((j : Nat) : Int), .float .f64 0]) (by simp [results, Tryz.results16, go_sem, r0, r1, r2]) rfl ⟨false, _, _, 0, HX.out, rfl, by omega, rfl, (by repeat (first | exact hB | refine Below.drew ?_ | refine below_drewN ?_ _ | refine Below.setCell ?_ (by simp) _ | refine Below.alloc ?_ (by simp <;> omega) _))⟩
      · have hbE := isEmpty_no d1 (by omega)
        have hkj' : k1 < j := by omega
        clear hj hkj
        go_upto_region 30 with fail
        go_cut [125] from 15 (fun s125 wc => ∃ t : Bool, s125 = .bool t ∧ Hid ((t = true ∧ bAt s j = 46 ∧ j < s.size ∧ St w wc s (j + 1)) ∨ (t = false ∧ bAt s j ≠ 46 ∧ St w wc s j)))
        case first =>
          have H7 : Hid _ := fun (_ : Unit) => is_any (w.heap.size + 1) _ s j 46 H6.out.2.1 hs (by omega)
          go_wp2_with fail
          refine (H7.out ()).mono ?_
          rintro x w7 ⟨t, j7, ht7, rfl, hr7, ho7⟩
          have H8 : Hid (St w w7 s j7) := H6.out.only ho7 hr7
          clear hr7 ho7 H7
          go_wp2
          go_meet
          case rel =>
            refine ⟨t, rfl, ?_⟩
            rcases ht7 with ⟨rfl, h71, h72, rfl⟩ | ⟨rfl, h71, rfl⟩
            · exact .inl ⟨rfl, h72, h71, H8.out⟩
            · exact .inr ⟨rfl, h71, H8.out⟩
        case rest =>
          obtain ⟨t, rfl, HT7⟩ := hcut
          clear H6
          go_upto_if 125 with fail
          go_cut [9, 10] from 15 (fun s9 s10 wc => ∃ (ds : ByteArray) (e : Int) (i : Nat), s9 = .string ds ∧ s10 = .int .i64 e ∧ -1200 ≤ e ∧ e ≤ 0 ∧ ds.size ≤ 1200 ∧ i ≤ s.size ∧ Hid (good b ds.data.toList) ∧ Hid (Frac b s k1 j (some (ds, e, i))) ∧ Hid (St w wc s i))
          case first =>
            cases t
            · obtain ⟨h71, h72⟩ := (HT7.out.resolve_left (by rintro ⟨h, _⟩; cases h)).2
              have H8 : Hid _ := fun (_ : Unit) => h72
              have HFr : Hid (Frac b s k1 j (some (d1, 0, j))) := .inl ⟨h71, by rw [HD1.out]⟩
              clear h71 h72
              go_wp2
              go_meet
              case rel => exact ⟨d1, 0, j, rfl, rfl, by omega, by omega, by omega, hjs, HG1.out (), HFr.out, H8.out ()⟩
            · obtain ⟨h71, h72, h73⟩ := (HT7.out.resolve_right (by rintro ⟨h, _⟩; cases h)).2
              have H8 : Hid _ := fun (_ : Unit) => h73
              have H71 : Hid (bAt s j = 46) := h71
              have HDD : Hid _ := fun (_ : Unit) => digits_any (w.heap.size + 1) _ s (j + 1) (b : Int) h73.2.1 hs (by omega)
              clear h71 h73
              go_wp2_with fail
              refine (HDD.out ()).mono ?_
              rintro x w8 ⟨i, hrun2, rfl, hr8, ho8⟩
              have H9 : Hid (St w w8 s i) := (H8.out ()).only ho8 hr8
              have HRn2 : Hid (Run b s (j + 1) i) := hrun2
              have hz2 : (s.extract (j + 1) i).size = i - (j + 1) := by rw [ByteArray.size_extract]; have := hrun2.2.1; omega
              have his : i ≤ s.size := hrun2.2.1
              have hji : j + 1 ≤ i := hrun2.1
              have HG2 : Hid _ := fun (_ : Unit) => run_good b s (j + 1) i hrun2
              clear hr8 ho8 hrun2 HDD
              obtain ⟨d2, hd2⟩ : ∃ d2, s.extract (j + 1) i = d2 := ⟨_, rfl⟩
              have HD2 : Hid (s.extract (j + 1) i = d2) := hd2
              rw [hd2] at hz2 HG2
              rw [hd2]
              clear hd2
              by_cases hi : i = j + 1
              · have hbE2 := isEmpty_yes d2 (by omega)
                have HX : Hid (ReadA s false ((i : Nat) : Int) (· = 0)) := .inr ⟨by omega, neg, k, HG.out, .inr ⟨HNW.out.1, HNW.out.2, b, k1, j, HBs.out, HRun.out, .inr ⟨hkj', none, .inr ⟨H71.out, i, HRn2.out, .inl ⟨hi, rfl⟩⟩, .inl ⟨rfl, rfl, by rw [hi], rfl⟩⟩⟩⟩
                obtain ⟨hB, ⟨e0, e1, _⟩, hz, r0, r1, r2, f0, f1, f2⟩ := H9.out
                clear hi
                go_wp2
                exact bodyPost_ret (v := .agg #[.bool false, .int .i64 ((i : Nat) : Int), .float .f64 0]) (by simp [results, Tryz.results16, go_sem, r0, r1, r2]) rfl ⟨false, _, _, 0, HX.out, rfl, by omega, rfl, (by repeat (first | exact hB | refine Below.drew ?_ | refine below_drewN ?_ _ | refine Below.setCell ?_ (by simp) _ | refine Below.alloc ?_ (by simp <;> omega) _))⟩
              · have hbE2 := isEmpty_no d2 (by omega)
                have HFr : Hid (Frac b s k1 j (some (d1 ++ d2, -(d2.size : Int), i))) := .inr ⟨H71.out, i, HRn2.out, .inr ⟨by omega, by rw [HD1.out, HD2.out, hz2]⟩⟩
                have HGG : Hid (good b (d1 ++ d2).data.toList) := fun c hc => by
                  rw [ByteArray.data_append, Array.toList_append, List.mem_append] at hc
                  rcases hc with h | h
                  · exact HG1.out () c h
                  · exact HG2.out () c h
                have hsz : (d1 ++ d2).size = d1.size + d2.size := ByteArray.size_append
                clear hi
                go_wp2
                go_meet
                case rel => exact ⟨d1 ++ d2, -(d2.size : Int), i, rfl, by rw [hz2], by omega, by omega, by omega, his, HGG.out, HFr.out, H9.out⟩
          case rest =>
          clear HT7 hbE hz1 HG1
          obtain ⟨ds, e, i, rfl, rfl, he1, he2, hds, his, HGd, HFr, H8⟩ := hcut
          rcases hb with rfl | rfl
          · refine (‹∀ (a : Act) (w : World), Code.wp Tryz.prog _ _ a w → _› _ _ ?_)
            exact readEnd_10 s w neg k k1 j ds e i _ _ _ _ _ _ _ _ _ _ _ _ _ _ _ _ _ _ _ _ _ _ _ _ _ _ _ _ _ _ _ _ _ _ _ _ _ _ _ _ _ _ _ _ _ _ _ _ _ _ _ _ _ _ _ _ _ _ _ _ _ _ _ _ _ _ _ _ _ _ _ _ _ _ _ _ _ _ _ _ _ _ _ _ _ _ _ _ _ _ _ _ _ _ _ _ _ _ _ _ _ _ _ _ _ _ _ _ _ _ _ _ _ _ _ _ _ _ _ _ _ _ _ _ _ _ _ _ _ _ _ _ _ _ _ _ _ _ _ _ _ _ _ _ _ _ _ _ _ _ _ _ _ _ _ _ _ _ _ _ _ _ _ _ _ _ _ _ _ _ _ _ _ _ _ _ _ _ _ _ _ _ _ _ _ _ hbig hs HG HNW HBs HRun hkj' he1 he2 hds his HGd.out HFr H8
          · refine (‹∀ (a : Act) (w : World), Code.wp Tryz.prog _ _ a w → _› _ _ ?_)
            exact readEnd_16 s w neg k k1 j ds e i _ _ _ _ _ _ _ _ _ _ _ _ _ _ _ _ _ _ _ _ _ _ _ _ _ _ _ _ _ _ _ _ _ _ _ _ _ _ _ _ _ _ _ _ _ _ _ _ _ _ _ _ _ _ _ _ _ _ _ _ _ _ _ _ _ _ _ _ _ _ _ _ _ _ _ _ _ _ _ _ _ _ _ _ _ _ _ _ _ _ _ _ _ _ _ _ _ _ _ _ _ _ _ _ _ _ _ _ _ _ _ _ _ _ _ _ _ _ _ _ _ _ _ _ _ _ _ _ _ _ _ _ _ _ _ _ _ _ _ _ _ _ _ _ _ _ _ _ _ _ _ _ _ _ _ _ _ _ _ _ _ _ _ _ _ _ _ _ _ _ _ _ _ _ _ _ _ _ _ _ _ _ _ _ _ _ hbig hs HG HNW HBs HRun hkj' he1 he2 hds his HGd.out HFr H8
end Go.Proofs.YtoedefjngipeiaaGreatDoor

/- ReadFlt of the specification. -/
namespace Go.Proofs.YtoedefjngipeiaaGreatDoor
open Go.ChangeShapes Go.WideShapes Go.RowKit

attribute [local go_sem] run_store_float
set_option maxHeartbeats 8000000 in
set_option maxRecDepth 100000 in
theorem specRead_any (s : ByteArray) (w : World) (hl : s.size ≤ 9223372036854775807) :
    Calls Tryz.prog 16 #[.string s] w fun e w' => ReadQ s w e w' := by
  by_cases hbig : 1200 < s.size
  · have hbig' : (1200 : Int) < (s.size : Int) := by omega
    have HX : Hid (ReadA s false 1200 (· = 0)) := .inl ⟨hbig, rfl, rfl, rfl⟩
    have hB : Below w.heap.size w w := Below.refl _ _
    clear hbig
    go_enter Tryz.func16, Tryz.ntmps16
    go_wp2
    exact bodyPost_ret (v := .agg #[.bool false, .int .i64 1200, .float .f64 0]) (by simp [results, Tryz.results16, go_sem]) rfl ⟨false, _, _, 0, HX.out, rfl, by omega, rfl, (by repeat (first | exact hB | refine Below.drew ?_ | refine below_drewN ?_ _ | refine Below.setCell ?_ (by simp) _ | refine Below.alloc ?_ (by simp <;> omega) _))⟩
  · have hs : s.size ≤ 1300 := by omega
    have hs' : (s.size : Int) ≤ 1200 := by omega
    have hbig' : decide (1200 < (s.size : Int)) = false := decide_eq_false (by omega)
    go_enter Tryz.func16, Tryz.ntmps16
    go_upto_region 4 with fail
    have H0 : Hid _ := fun (_ : Unit) => St.start w s 37 72
    go_cut [4] from 15 (fun s4 wc => ∃ (t : Bool) (k : Nat), s4 = .bool t ∧ ((t = true ∧ Hid (Sgn s 0 true k)) ∨ (t = false ∧ k = 0 ∧ Hid (bAt s 0 ≠ 45))) ∧ Hid (St w wc s k))
    case first =>
      go_wp2_with fail
      refine (is_any _ _ s 0 45 (H0.out ()).2.1 hs (by omega)).mono ?_
      rintro x w1 ⟨t, k, ht, rfl, hr, ho⟩
      have H1 : Hid _ := fun (_ : Unit) => (H0.out ()).only ho hr
      clear hr ho
      go_wp2
      go_meet
      case rel =>
        refine ⟨t, k, rfl, ?_, H1.out ()⟩
        rcases ht with ⟨rfl, h1, h2, rfl⟩ | ⟨rfl, h1, rfl⟩
        · exact .inl ⟨rfl, .inl ⟨h1, h2, rfl, rfl⟩⟩
        · exact .inr ⟨rfl, rfl, h1⟩
    case rest =>
      obtain ⟨t, k, rfl, ht, H1⟩ := hcut
      clear H0
      go_upto_if 25 with fail
      go_cut [4] from 15 (fun s4 wc => ∃ (t : Bool) (k : Nat), s4 = .bool t ∧ Hid (Sgn s 0 t k) ∧ Hid (St w wc s k))
      case first =>
        rcases ht with ⟨rfl, HS⟩ | ⟨rfl, rfl, HS⟩
        · go_wp2
          go_meet
          case rel => exact ⟨true, k, rfl, HS.out, H1.out⟩
        · go_wp2_with fail
          refine (is_any _ _ s 0 43 H1.out.2.1 hs (by omega)).mono ?_
          rintro x w1 ⟨t, k, ht, rfl, hr, ho⟩
          have H2 : Hid _ := fun (_ : Unit) => H1.out.only ho hr
          have HG : Hid (Sgn s 0 false k) := by
            rcases ht with ⟨rfl, h1, h2, rfl⟩ | ⟨rfl, h1, rfl⟩
            · exact .inr (.inl ⟨h1, h2, rfl, rfl⟩)
            · exact .inr (.inr ⟨HS.out, h1, rfl, rfl⟩)
          clear hr ho ht
          go_wp2
          go_meet
          case rel => exact ⟨false, k, rfl, HG.out, H2.out ()⟩
      case rest =>
        clear H1 ht
        obtain ⟨neg, k, rfl, HG, H1⟩ := hcut
        go_upto_block 0 with fail
        have H2 : Hid _ := fun (_ : Unit) => H1.out.below ((Below.refl _ wc).alloc (Nat.le_refl _) (.cells #[.string ⟨#[105, 110, 102]⟩, .string ⟨#[110, 97, 110]⟩] 9))
        obtain ⟨V, hV⟩ : ∃ V : Nat, V = wc.heap.size := ⟨_, rfl⟩
        have HVR : Hid (w.heap.size + 1 < V) := by show _ < V; have := H1.out.2.2.1; omega
        have HWD : Hid _ := fun (_ : Unit) => And.intro (show (wc.alloc (.cells #[.string ⟨#[105, 110, 102]⟩, .string ⟨#[110, 97, 110]⟩] 9)).cell? ⟨V, 0, none⟩ = some (.string ⟨#[105, 110, 102]⟩) by rw [hV]; simp [go_sem]) (show (wc.alloc (.cells #[.string ⟨#[105, 110, 102]⟩, .string ⟨#[110, 97, 110]⟩] 9)).cell? ⟨V, 1, none⟩ = some (.string ⟨#[110, 97, 110]⟩) by rw [hV]; simp [go_sem])
        rw [← hV]
        clear hV
        generalize wc.alloc (.cells #[.string ⟨#[105, 110, 102]⟩, .string ⟨#[110, 97, 110]⟩] 9) = wd at *
        clear H1
        go_cut [6] from 15 (fun _ wx => Hid (St w wx s k) ∧ Hid (bAt s k ≠ 105 ∧ bAt s k ≠ 110))
        case first =>
          go_wp2_with fail
          go_loopw [30] (fun i wl => ∃ n : Nat, i = .int .i64 (n : Int) ∧ n ≤ 2 ∧ Hid (St w wl s k) ∧ Hid (wl.cell? ⟨V, 0, none⟩ = some (.string ⟨#[105, 110, 102]⟩) ∧ wl.cell? ⟨V, 1, none⟩ = some (.string ⟨#[110, 97, 110]⟩)) ∧ Hid ((1 ≤ n → bAt s k ≠ 105) ∧ (2 ≤ n → bAt s k ≠ 110))) (fun i _ => 2 - (intOf i).toNat)
          case atStart => exact ⟨0, rfl, by omega, H2.out (), HWD.out (), fun h => absurd h (by omega), fun h => absurd h (by omega)⟩
          case round =>
          obtain ⟨n, rfl, hn, HS, HC, HN⟩ := hrel
          rcases (show n = 0 ∨ n = 1 ∨ n = 2 by omega) with rfl | rfl | rfl
          · obtain ⟨q0, q1⟩ := HC.out
            obtain ⟨c0, c1, _⟩ := HS.out.2.1
            have HK : Hid _ := fun m => look_any (w.heap.size + 1) (World.drewN _ m) s k (HS.out.2.1.drewN m)
            by_cases hm : bAt s k = 105
            · have hk : (k : Int) < (s.size : Int) := by
                by_cases hk : k < s.size
                · omega
                · rw [bAt_out s k hk] at hm; omega
              rw [hm] at HK
              have HM : Hid (bAt s k = wordC false 0) := hm
              clear hm
              go_wp2
              go_quiet (first | (go_at_call 36; exact Calls.quiet_of (HK.out _)))
              go_wp2_with fail
              have hq : (((⟨#[105, 110, 102]⟩ : ByteArray)[0].toNat : Nat) : Int) = 105 := rfl
              simp only [hq, beq_self_eq_true]
              go_loopw [7] (fun i wl => ∃ n : Nat, i = .int .i64 (n : Int) ∧ n ≤ 3 ∧ Hid (St w wl s (k + n)) ∧ Hid (∀ t, t < n → bAt s (k + t) = wordC false t)) (fun i _ => 3 - (intOf i).toNat)
              case atStart => exact ⟨0, rfl, by omega, HS.out.drewN _, fun t ht => absurd ht (by omega)⟩
              case round =>
                clear c0 c1 q0 q1 HK
                obtain ⟨n, rfl, hn3, HT, HW1⟩ := hrel
                rcases (show n = 0 ∨ n = 1 ∨ n = 2 ∨ n = 3 by omega) with rfl | rfl | rfl | rfl
                · have H5 : Hid _ := fun (_ : Unit) => is_any (w.heap.size + 1) _ s (k + 0) 105 HT.out.2.1 hs (by omega)
                  go_wp2_with fail
                  refine (H5.out ()).mono ?_
                  rintro x w5 ⟨t, j5, ht5, rfl, hr5, ho5⟩
                  have H6 : Hid _ := fun (_ : Unit) => HT.out.only ho5 hr5
                  clear H5 hr5 ho5
                  rcases ht5 with ⟨rfl, h51, h52, hj5⟩ | ⟨rfl, h51, hj5⟩
                  · rw [hj5] at H6
                    clear hj5
                    have HW2 : Hid (∀ t, t < 0 + 1 → bAt s (k + t) = wordC false t) := fun t ht => by
                      rcases (show t < 0 ∨ t = 0 by omega) with h | rfl
                      · exact HW1.out t h
                      · exact h52
                    clear h52
                    go_wp2
                    go_roundw
                    case rel => exact ⟨1, rfl, by omega, H6.out (), HW2.out⟩
                    case measure => simp only [intOf]; omega
                  · rw [hj5] at H6
                    clear hj5
                    have HX : Hid (ReadA s false ((k + 0 : Nat) : Int) (· = 0)) := .inr ⟨by omega, neg, k, HG.out, .inl ⟨false, HM.out, 0, by omega, HW1.out, .inl ⟨by omega, h51, rfl, rfl, rfl⟩⟩⟩
                    obtain ⟨hB, ⟨e0, e1, _⟩, hz, r0, r1, r2, f0, f1, f2⟩ := H6.out ()
                    clear h51
                    go_wp2
                    exact bodyPost_ret (v := .agg #[.bool false, .int .i64 ((k + 0 : Nat) : Int), .float .f64 0]) (by simp [results, Tryz.results16, go_sem, r0, r1, r2]) rfl ⟨false, _, _, 0, HX.out, rfl, by omega, rfl, (by repeat (first | exact hB | refine Below.drew ?_ | refine below_drewN ?_ _ | refine Below.setCell ?_ (by simp) _ | refine Below.alloc ?_ (by simp <;> omega) _))⟩
                · have H5 : Hid _ := fun (_ : Unit) => is_any (w.heap.size + 1) _ s (k + 1) 110 HT.out.2.1 hs (by omega)
                  go_wp2_with fail
                  refine (H5.out ()).mono ?_
                  rintro x w5 ⟨t, j5, ht5, rfl, hr5, ho5⟩
                  have H6 : Hid _ := fun (_ : Unit) => HT.out.only ho5 hr5
                  clear H5 hr5 ho5
                  rcases ht5 with ⟨rfl, h51, h52, hj5⟩ | ⟨rfl, h51, hj5⟩
                  · rw [hj5] at H6
                    clear hj5
                    have HW2 : Hid (∀ t, t < 1 + 1 → bAt s (k + t) = wordC false t) := fun t ht => by
                      rcases (show t < 1 ∨ t = 1 by omega) with h | rfl
                      · exact HW1.out t h
                      · exact h52
                    clear h52
                    go_wp2
                    go_roundw
                    case rel => exact ⟨2, rfl, by omega, H6.out (), HW2.out⟩
                    case measure => simp only [intOf]; omega
                  · rw [hj5] at H6
                    clear hj5
                    have HX : Hid (ReadA s false ((k + 1 : Nat) : Int) (· = 0)) := .inr ⟨by omega, neg, k, HG.out, .inl ⟨false, HM.out, 1, by omega, HW1.out, .inl ⟨by omega, h51, rfl, rfl, rfl⟩⟩⟩
                    obtain ⟨hB, ⟨e0, e1, _⟩, hz, r0, r1, r2, f0, f1, f2⟩ := H6.out ()
                    clear h51
                    go_wp2
                    exact bodyPost_ret (v := .agg #[.bool false, .int .i64 ((k + 1 : Nat) : Int), .float .f64 0]) (by simp [results, Tryz.results16, go_sem, r0, r1, r2]) rfl ⟨false, _, _, 0, HX.out, rfl, by omega, rfl, (by repeat (first | exact hB | refine Below.drew ?_ | refine below_drewN ?_ _ | refine Below.setCell ?_ (by simp) _ | refine Below.alloc ?_ (by simp <;> omega) _))⟩
                · have H5 : Hid _ := fun (_ : Unit) => is_any (w.heap.size + 1) _ s (k + 2) 102 HT.out.2.1 hs (by omega)
                  go_wp2_with fail
                  refine (H5.out ()).mono ?_
                  rintro x w5 ⟨t, j5, ht5, rfl, hr5, ho5⟩
                  have H6 : Hid _ := fun (_ : Unit) => HT.out.only ho5 hr5
                  clear H5 hr5 ho5
                  rcases ht5 with ⟨rfl, h51, h52, hj5⟩ | ⟨rfl, h51, hj5⟩
                  · rw [hj5] at H6
                    clear hj5
                    have HW2 : Hid (∀ t, t < 2 + 1 → bAt s (k + t) = wordC false t) := fun t ht => by
                      rcases (show t < 2 ∨ t = 2 by omega) with h | rfl
                      · exact HW1.out t h
                      · exact h52
                    clear h52
                    go_wp2
                    go_roundw
                    case rel => exact ⟨3, rfl, by omega, H6.out (), HW2.out⟩
                    case measure => simp only [intOf]; omega
                  · rw [hj5] at H6
                    clear hj5
                    have HX : Hid (ReadA s false ((k + 2 : Nat) : Int) (· = 0)) := .inr ⟨by omega, neg, k, HG.out, .inl ⟨false, HM.out, 2, by omega, HW1.out, .inl ⟨by omega, h51, rfl, rfl, rfl⟩⟩⟩
                    obtain ⟨hB, ⟨e0, e1, _⟩, hz, r0, r1, r2, f0, f1, f2⟩ := H6.out ()
                    clear h51
                    go_wp2
                    exact bodyPost_ret (v := .agg #[.bool false, .int .i64 ((k + 2 : Nat) : Int), .float .f64 0]) (by simp [results, Tryz.results16, go_sem, r0, r1, r2]) rfl ⟨false, _, _, 0, HX.out, rfl, by omega, rfl, (by repeat (first | exact hB | refine Below.drew ?_ | refine below_drewN ?_ _ | refine Below.setCell ?_ (by simp) _ | refine Below.alloc ?_ (by simp <;> omega) _))⟩
                · obtain ⟨hB, ⟨e0, e1, _⟩, hz, r0, r1, r2, f0, f1, f2⟩ := HT.out
                  by_cases hend : k + 3 < s.size
                  · have hend' : (k : Int) + 3 < (s.size : Int) := by omega
                    have HX : Hid (ReadA s false ((k + 3 : Nat) : Int) (· = 0)) := .inr ⟨by omega, neg, k, HG.out, .inl ⟨false, HM.out, 3, by omega, HW1.out, .inr (.inl ⟨rfl, hend, rfl, rfl, rfl⟩)⟩⟩
                    clear hend
                    go_wp2
                    exact bodyPost_ret (v := .agg #[.bool false, .int .i64 ((k + 3 : Nat) : Int), .float .f64 0]) (by simp [results, Tryz.results16, go_sem, r0, r1, r2]) rfl ⟨false, _, _, 0, HX.out, rfl, by omega, rfl, (by repeat (first | exact hB | refine Below.drew ?_ | refine below_drewN ?_ _ | refine Below.setCell ?_ (by simp) _ | refine Below.alloc ?_ (by simp <;> omega) _))⟩
                  · have hend' : decide ((k : Int) + 3 < (s.size : Int)) = false := decide_eq_false (by omega)
                    have HX : Hid (ReadA s true 0 (· = iw neg)) := .inr ⟨by omega, neg, k, HG.out, .inl ⟨false, HM.out, 3, by omega, HW1.out, .inr (.inr ⟨rfl, hend, rfl, rfl, rfl⟩)⟩⟩
                    clear hend
                    go_wp2_with (first | (go_at_call 39; refine (l2inf_any _).mono ?_; rintro e w' ⟨rfl, rfl⟩) | (go_at_call 38; refine (l2signed_iw _ _).mono ?_; rintro e w' ⟨rfl, rfl⟩))
                    exact bodyPost_ret (v := .agg #[.bool true, .int .i64 0, .float .f64 (iw neg)]) (by simp [results, Tryz.results16, go_sem, r0, r1, r2]) rfl ⟨true, _, _, iw neg, HX.out, rfl, by cases neg <;> decide, rfl, (by repeat (first | exact hB | refine Below.drew ?_ | refine below_drewN ?_ _ | refine Below.setCell ?_ (by simp) _ | refine Below.alloc ?_ (by simp <;> omega) _))⟩
            · have hmb : (bAt s k == (((⟨#[105, 110, 102]⟩ : ByteArray)[0].toNat : Nat) : Int)) = false := beq_eq_false_iff_ne.2 hm
              have HM : Hid (bAt s k ≠ 105) := hm
              clear hm
              go_wp2
              go_quiet (first | (go_at_call 36; exact Calls.quiet_of (HK.out _)))
              go_wp2
              go_roundw
              case rel => exact ⟨1, rfl, by omega, HS.out.drewN _, HC.out, fun _ => HM.out, fun h => absurd h (by omega)⟩
              case measure => simp only [intOf]; omega
          · obtain ⟨q0, q1⟩ := HC.out
            obtain ⟨c0, c1, _⟩ := HS.out.2.1
            have HK : Hid _ := fun m => look_any (w.heap.size + 1) (World.drewN _ m) s k (HS.out.2.1.drewN m)
            by_cases hm : bAt s k = 110
            · have hk : (k : Int) < (s.size : Int) := by
                by_cases hk : k < s.size
                · omega
                · rw [bAt_out s k hk] at hm; omega
              rw [hm] at HK
              have HM : Hid (bAt s k = wordC true 0) := hm
              clear hm
              go_wp2
              go_quiet (first | (go_at_call 36; exact Calls.quiet_of (HK.out _)))
              go_wp2_with fail
              have hq : (((⟨#[110, 97, 110]⟩ : ByteArray)[0].toNat : Nat) : Int) = 110 := rfl
              simp only [hq, beq_self_eq_true]
              go_loopw [7] (fun i wl => ∃ n : Nat, i = .int .i64 (n : Int) ∧ n ≤ 3 ∧ Hid (St w wl s (k + n)) ∧ Hid (∀ t, t < n → bAt s (k + t) = wordC true t)) (fun i _ => 3 - (intOf i).toNat)
              case atStart => exact ⟨0, rfl, by omega, HS.out.drewN _, fun t ht => absurd ht (by omega)⟩
              case round =>
                clear c0 c1 q0 q1 HK
                obtain ⟨n, rfl, hn3, HT, HW1⟩ := hrel
                rcases (show n = 0 ∨ n = 1 ∨ n = 2 ∨ n = 3 by omega) with rfl | rfl | rfl | rfl
                · have H5 : Hid _ := fun (_ : Unit) => is_any (w.heap.size + 1) _ s (k + 0) 110 HT.out.2.1 hs (by omega)
                  go_wp2_with fail
                  refine (H5.out ()).mono ?_
                  rintro x w5 ⟨t, j5, ht5, rfl, hr5, ho5⟩
                  have H6 : Hid _ := fun (_ : Unit) => HT.out.only ho5 hr5
                  clear H5 hr5 ho5
                  rcases ht5 with ⟨rfl, h51, h52, hj5⟩ | ⟨rfl, h51, hj5⟩
                  · rw [hj5] at H6
                    clear hj5
                    have HW2 : Hid (∀ t, t < 0 + 1 → bAt s (k + t) = wordC true t) := fun t ht => by
                      rcases (show t < 0 ∨ t = 0 by omega) with h | rfl
                      · exact HW1.out t h
                      · exact h52
                    clear h52
                    go_wp2
                    go_roundw
                    case rel => exact ⟨1, rfl, by omega, H6.out (), HW2.out⟩
                    case measure => simp only [intOf]; omega
                  · rw [hj5] at H6
                    clear hj5
                    have HX : Hid (ReadA s false ((k + 0 : Nat) : Int) (· = 0)) := .inr ⟨by omega, neg, k, HG.out, .inl ⟨true, HM.out, 0, by omega, HW1.out, .inl ⟨by omega, h51, rfl, rfl, rfl⟩⟩⟩
                    obtain ⟨hB, ⟨e0, e1, _⟩, hz, r0, r1, r2, f0, f1, f2⟩ := H6.out ()
                    clear h51
                    go_wp2
                    exact bodyPost_ret (v := .agg #[.bool false, .int .i64 ((k + 0 : Nat) : Int), .float .f64 0]) (by simp [results, Tryz.results16, go_sem, r0, r1, r2]) rfl ⟨false, _, _, 0, HX.out, rfl, by omega, rfl, (by repeat (first | exact hB | refine Below.drew ?_ | refine below_drewN ?_ _ | refine Below.setCell ?_ (by simp) _ | refine Below.alloc ?_ (by simp <;> omega) _))⟩
                · have H5 : Hid _ := fun (_ : Unit) => is_any (w.heap.size + 1) _ s (k + 1) 97 HT.out.2.1 hs (by omega)
                  go_wp2_with fail
                  refine (H5.out ()).mono ?_
                  rintro x w5 ⟨t, j5, ht5, rfl, hr5, ho5⟩
                  have H6 : Hid _ := fun (_ : Unit) => HT.out.only ho5 hr5
                  clear H5 hr5 ho5
                  rcases ht5 with ⟨rfl, h51, h52, hj5⟩ | ⟨rfl, h51, hj5⟩
                  · rw [hj5] at H6
                    clear hj5
                    have HW2 : Hid (∀ t, t < 1 + 1 → bAt s (k + t) = wordC true t) := fun t ht => by
                      rcases (show t < 1 ∨ t = 1 by omega) with h | rfl
                      · exact HW1.out t h
                      · exact h52
                    clear h52
                    go_wp2
                    go_roundw
                    case rel => exact ⟨2, rfl, by omega, H6.out (), HW2.out⟩
                    case measure => simp only [intOf]; omega
                  · rw [hj5] at H6
                    clear hj5
                    have HX : Hid (ReadA s false ((k + 1 : Nat) : Int) (· = 0)) := .inr ⟨by omega, neg, k, HG.out, .inl ⟨true, HM.out, 1, by omega, HW1.out, .inl ⟨by omega, h51, rfl, rfl, rfl⟩⟩⟩
                    obtain ⟨hB, ⟨e0, e1, _⟩, hz, r0, r1, r2, f0, f1, f2⟩ := H6.out ()
                    clear h51
                    go_wp2
                    exact bodyPost_ret (v := .agg #[.bool false, .int .i64 ((k + 1 : Nat) : Int), .float .f64 0]) (by simp [results, Tryz.results16, go_sem, r0, r1, r2]) rfl ⟨false, _, _, 0, HX.out, rfl, by omega, rfl, (by repeat (first | exact hB | refine Below.drew ?_ | refine below_drewN ?_ _ | refine Below.setCell ?_ (by simp) _ | refine Below.alloc ?_ (by simp <;> omega) _))⟩
                · have H5 : Hid _ := fun (_ : Unit) => is_any (w.heap.size + 1) _ s (k + 2) 110 HT.out.2.1 hs (by omega)
                  go_wp2_with fail
                  refine (H5.out ()).mono ?_
                  rintro x w5 ⟨t, j5, ht5, rfl, hr5, ho5⟩
                  have H6 : Hid _ := fun (_ : Unit) => HT.out.only ho5 hr5
                  clear H5 hr5 ho5
                  rcases ht5 with ⟨rfl, h51, h52, hj5⟩ | ⟨rfl, h51, hj5⟩
                  · rw [hj5] at H6
                    clear hj5
                    have HW2 : Hid (∀ t, t < 2 + 1 → bAt s (k + t) = wordC true t) := fun t ht => by
                      rcases (show t < 2 ∨ t = 2 by omega) with h | rfl
                      · exact HW1.out t h
                      · exact h52
                    clear h52
                    go_wp2
                    go_roundw
                    case rel => exact ⟨3, rfl, by omega, H6.out (), HW2.out⟩
                    case measure => simp only [intOf]; omega
                  · rw [hj5] at H6
                    clear hj5
                    have HX : Hid (ReadA s false ((k + 2 : Nat) : Int) (· = 0)) := .inr ⟨by omega, neg, k, HG.out, .inl ⟨true, HM.out, 2, by omega, HW1.out, .inl ⟨by omega, h51, rfl, rfl, rfl⟩⟩⟩
                    obtain ⟨hB, ⟨e0, e1, _⟩, hz, r0, r1, r2, f0, f1, f2⟩ := H6.out ()
                    clear h51
                    go_wp2
                    exact bodyPost_ret (v := .agg #[.bool false, .int .i64 ((k + 2 : Nat) : Int), .float .f64 0]) (by simp [results, Tryz.results16, go_sem, r0, r1, r2]) rfl ⟨false, _, _, 0, HX.out, rfl, by omega, rfl, (by repeat (first | exact hB | refine Below.drew ?_ | refine below_drewN ?_ _ | refine Below.setCell ?_ (by simp) _ | refine Below.alloc ?_ (by simp <;> omega) _))⟩
                · obtain ⟨hB, ⟨e0, e1, _⟩, hz, r0, r1, r2, f0, f1, f2⟩ := HT.out
                  by_cases hend : k + 3 < s.size
                  · have hend' : (k : Int) + 3 < (s.size : Int) := by omega
                    have HX : Hid (ReadA s false ((k + 3 : Nat) : Int) (· = 0)) := .inr ⟨by omega, neg, k, HG.out, .inl ⟨true, HM.out, 3, by omega, HW1.out, .inr (.inl ⟨rfl, hend, rfl, rfl, rfl⟩)⟩⟩
                    clear hend
                    go_wp2
                    exact bodyPost_ret (v := .agg #[.bool false, .int .i64 ((k + 3 : Nat) : Int), .float .f64 0]) (by simp [results, Tryz.results16, go_sem, r0, r1, r2]) rfl ⟨false, _, _, 0, HX.out, rfl, by omega, rfl, (by repeat (first | exact hB | refine Below.drew ?_ | refine below_drewN ?_ _ | refine Below.setCell ?_ (by simp) _ | refine Below.alloc ?_ (by simp <;> omega) _))⟩
                  · have hend' : decide ((k : Int) + 3 < (s.size : Int)) = false := decide_eq_false (by omega)
                    have HX : Hid (ReadA s true 0 IsNan) := .inr ⟨by omega, neg, k, HG.out, .inl ⟨true, HM.out, 3, by omega, HW1.out, .inr (.inr ⟨rfl, hend, rfl, rfl, rfl⟩)⟩⟩
                    clear hend
                    go_wp2_with (go_at_call 37; refine (l2nan_any _).mono ?_; rintro e w' ⟨nb, hnb, hbl, rfl, rfl⟩)
                    exact bodyPost_ret (v := .agg #[.bool true, .int .i64 0, .float .f64 nb]) (by simp [results, Tryz.results16, go_sem, r0, r1, r2]) rfl ⟨true, _, _, nb, HX.out, hnb, hbl, rfl, (by repeat (first | exact hB | refine Below.drew ?_ | refine below_drewN ?_ _ | refine Below.setCell ?_ (by simp) _ | refine Below.alloc ?_ (by simp <;> omega) _))⟩
            · have hmb : (bAt s k == (((⟨#[110, 97, 110]⟩ : ByteArray)[0].toNat : Nat) : Int)) = false := beq_eq_false_iff_ne.2 hm
              have HM : Hid (bAt s k ≠ 110) := hm
              clear hm
              go_wp2
              go_quiet (first | (go_at_call 36; exact Calls.quiet_of (HK.out _)))
              go_wp2
              go_roundw
              case rel => exact ⟨2, rfl, by omega, HS.out.drewN _, HC.out, HN.out.1 ∘ (fun _ => by omega), fun _ => HM.out⟩
              case measure => simp only [intOf]; omega
          · go_wp2
            go_meet
            case rel => exact ⟨HS.out, HN.out.1 (by omega), HN.out.2 (by omega)⟩
        case rest =>
          obtain ⟨H3, HNW⟩ := hcut
          refine (‹∀ (a : Act) (w : World), Code.wp Tryz.prog _ _ a w → _› _ _ ?_)
          exact readMid s w neg k _ _ _ _ _ _ _ _ _ _ _ _ _ _ _ _ _ _ _ _ _ _ _ _ _ _ _ _ _ _ _ _ _ _ _ _ _ _ _ _ _ _ _ _ _ _ _ _ _ _ _ _ _ _ _ _ _ _ _ _ _ _ _ _ _ _ _ _ _ _ _ _ _ _ _ _ _ _ _ _ _ _ _ _ _ _ _ _ _ _ _ _ _ _ _ _ _ _ _ _ _ _ _ _ _ _ _ _ _ _ _ _ _ _ _ _ _ _ _ _ _ _ _ _ _ _ _ _ _ _ _ _ _ _ _ _ _ _ _ _ _ _ _ _ _ _ _ _ _ _ _ _ _ _ _ _ _ _ _ _ _ _ _ _ _ _ _ _ _ _ _ _ _ _ _ _ _ _ _ _ _ _ _ _ _ _ _ _ _ hbig hs HG H3 HNW
end Go.Proofs.YtoedefjngipeiaaGreatDoor

