import Derived.Test.YtdhcomkgofbphaaDoorR15
import Derived.Deep.RegionWith
import Derived.Test.YtdhcomkgofbphaaDoorR04
import Derived.Test.YtdhcomkgofbphaaDoorR05
/- ReadFlt of the specification: from the exponent on, base 16. -/
namespace Go.Proofs.YtdhcomkgofbphaaDoor
open Go.ChangeShapes Go.WideShapes Go.RowKit

attribute [local go_sem] run_store_float
set_option maxHeartbeats 8000000 in
set_option maxRecDepth 1000000 in
theorem readEnd_16 (s : ByteArray) (w : World) (neg : Bool) (k k1 j : Nat) (ds : ByteArray) (e : Int) (i : Nat) (v1 v5 v6 v7 v11 v12 v13 v14 v15 v16 v17 v18 v19 v20 v21 v22 v23 v24 v25 v26 v27 v28 v29 v30 v31 v32 v33 v34 v35 v36 v37 v38 v39 v40 v41 v42 v43 v44 v45 v46 v47 v48 v49 v50 v51 v52 v53 v54 v55 v56 v57 v58 v59 v60 v61 v62 v63 v64 v65 v66 v67 v68 v69 v70 v71 v72 v73 v74 v75 v76 v77 v78 v79 v80 v81 v82 v83 v84 v85 v86 v87 v88 v89 v90 v91 v92 v93 v94 v95 v96 v97 v98 v99 v100 v101 v102 v103 v104 v105 v106 v107 v108 v109 v110 v111 v112 v113 v114 v115 v116 v117 v118 v119 v120 v121 v122 v123 v124 v125 v126 v127 v128 v129 v130 v131 v132 v133 v134 v135 v136 v137 v138 v139 v140 v141 v142 v143 v144 v145 v146 v147 v148 v149 v150 v151 v152 v153 v154 v155 v156 v157 v158 v159 v160 v161 v162 v163 v164 v165 v166 v167 v168 v169 v170 v171 v172 v173 v174 v175 v176 v177 v178 v179 v180 v181 v182 v183 v184 v185 v186 v187 v188 v189 v190 v191 : Value) (wc : World) (hbig : ¬ 1200 < s.size) (hs : s.size ≤ 1300) (HG : Hid (Sgn s 0 neg k)) (HNW : Hid (bAt s k ≠ 105 ∧ bAt s k ≠ 110)) (HBs : Hid (Bas s k 16 k1)) (HRun : Hid (Run 16 s k1 j)) (hkj' : k1 < j)
    (he1 : -1200 ≤ e) (he2 : e ≤ 0) (hds : ds.size ≤ 1200) (his : i ≤ s.size) (hgd : good 16 ds.data.toList) (HFr : Hid (Frac 16 s k1 j (some (ds, e, i)))) (H8 : Hid (St w wc s i)) :
    Code.wp Tryd.prog (dropSeq 12 (Tryd.f4.body.getD .skip)) (bodyPost Tryd.prog Tryd.f4 (ReadQ s w)) ⟨#[.string s, v1, .pointer (some ⟨w.heap.size, 0, none⟩), .pointer (some ⟨w.heap.size + 1, 0, none⟩), .bool neg, v5, v6, v7, .int .i64 16, .string ds, .int .i64 e, v11, v12, v13, v14, v15, v16, v17, v18, v19, v20, v21, v22, v23, v24, v25, v26, v27, v28, v29, v30, v31, v32, v33, v34, v35, v36, v37, v38, v39, v40, v41, v42, v43, v44, v45, v46, v47, v48, v49, v50, v51, v52, v53, v54, v55, v56, v57, v58, v59, v60, v61, v62, v63, v64, v65, v66, v67, v68, v69, v70, v71, v72, v73, v74, v75, v76, v77, v78, v79, v80, v81, v82, v83, v84, v85, v86, v87, v88, v89, v90, v91, v92, v93, v94, v95, v96, v97, v98, v99, v100, v101, v102, v103, v104, v105, v106, v107, v108, v109, v110, v111, v112, v113, v114, v115, v116, v117, v118, v119, v120, v121, v122, v123, v124, v125, v126, v127, v128, v129, v130, v131, v132, v133, v134, v135, v136, v137, v138, v139, v140, v141, v142, v143, v144, v145, v146, v147, v148, v149, v150, v151, v152, v153, v154, v155, v156, v157, v158, v159, v160, v161, v162, v163, v164, v165, v166, v167, v168, v169, v170, v171, v172, v173, v174, v175, v176, v177, v178, v179, v180, v181, v182, v183, v184, v185, v186, v187, v188, v189, v190, v191], []⟩ wc := by
  have hs0 : (s.size : Int) ≤ 1200 := by omega
  conv => arg 2; whnf
  have HGD : Hid _ := fun (_ : Unit) => hgd
  clear hgd
  go_upto_region 41 with fail
  go_cut [150] from 15 (fun s150 wc => ∃ t : Bool, s150 = .bool t ∧ Hid ((t = true ∧ bAt s i = 112 ∧ i < s.size ∧ St w wc s (i + 1)) ∨ (t = false ∧ bAt s i ≠ 112 ∧ St w wc s i)))
  case first =>
    have H9 : Hid _ := fun (_ : Unit) => is_any (w.heap.size + 1) _ s i 112 H8.out.2.1 hs (by omega)
    go_wp2_with fail
    refine (H9.out ()).mono ?_
    rintro x w9 ⟨t, j9, ht9, rfl, hr9, ho9⟩
    have H10 : Hid (St w w9 s j9) := H8.out.only ho9 hr9
    clear hr9 ho9 H9
    go_wp2
    go_meet
    case rel =>
      refine ⟨t, rfl, ?_⟩
      rcases ht9 with ⟨rfl, h91, h92, rfl⟩ | ⟨rfl, h91, rfl⟩
      · exact .inl ⟨rfl, h92, h91, H10.out⟩
      · exact .inr ⟨rfl, h91, H10.out⟩
  case rest =>
    obtain ⟨t, rfl, HT9⟩ := hcut
    clear H8
    go_upto_if 150 with fail
    go_cut [10] from 15 (fun s10 wc => ∃ (n : Int) (a : Nat), s10 = .int .i64 (4 * e + n) ∧ -100000 ≤ n ∧ n ≤ 100000 ∧ Hid (Expo (markOf 16) s i (.inl (n, a))) ∧ Hid (St w wc s a))
    case first =>
      cases t
      · obtain ⟨h91, h92⟩ := (HT9.out.resolve_left (by rintro ⟨h, _⟩; cases h)).2
        have H10 : Hid _ := fun (_ : Unit) => h92
        have HEX : Hid (Expo (markOf 16) s i (.inl (0, i))) := .inl ⟨h91, rfl⟩
        clear h91 h92
        go_wp2
        go_meet
        case rel => exact ⟨0, i, by rw [Int.add_zero], by omega, by omega, HEX.out, H10.out ()⟩
      · obtain ⟨h91, h92, h93⟩ := (HT9.out.resolve_right (by rintro ⟨h, _⟩; cases h)).2
        have H10 : Hid _ := fun (_ : Unit) => h93
        have H91 : Hid (bAt s i = 112) := h91
        obtain ⟨ng, kk, hsg⟩ := sgn_any s (i + 1)
        have HSG : Hid (Sgn s (i + 1) ng kk) := hsg
        have H11 : Hid _ := fun (_ : Unit) => exponent_any (w.heap.size + 1) _ s (i + 1) h93.2.1 hs (by omega) ng kk hsg
        clear h91 h92 h93 hsg
        go_wp2_with fail
        refine (H11.out ()).mono ?_
        rintro x w11 ⟨j3, hrun3, rfl, hr11, ho11⟩
        have H12 : Hid (St w w11 s j3) := (H10.out ()).only ho11 hr11
        have HR3 : Hid (Run 10 s kk j3) := hrun3
        clear hr11 ho11 H11 hrun3
        by_cases hj3 : kk < j3
        · have hj3' : decide (kk < j3) = true := decide_eq_true hj3
          have hex : -100000 ≤ expV ng (runV 10 s kk j3) ∧ expV ng (runV 10 s kk j3) ≤ 100000 := by unfold expV cap; split <;> omega
          have HEX : Hid (Expo (markOf 16) s i (.inl (expV ng (runV 10 s kk j3), j3))) := .inr ⟨H91.out, ng, kk, j3, HSG.out, HR3.out, .inr ⟨hj3, rfl⟩⟩
          obtain ⟨x1, x2⟩ := hex
          generalize expV ng (runV 10 s kk j3) = n at *
          rw [hj3']
          clear hj3 hj3'
          go_wp2
          go_meet
          case rel => exact ⟨n, j3, rfl, x1, x2, HEX.out, H12.out⟩
        · have hj3' : decide (kk < j3) = false := decide_eq_false hj3
          have hjk : j3 = kk := by have := HR3.out.1; omega
          have HX : Hid (ReadA s false ((j3 : Nat) : Int) (· = 0)) := .inr ⟨by omega, neg, k, HG.out, .inr ⟨HNW.out.1, HNW.out.2, 16, k1, j, HBs.out, HRun.out, .inr ⟨by omega, _, HFr.out, .inr ⟨ds, e, i, _, rfl, .inr ⟨H91.out, ng, kk, j3, HSG.out, HR3.out, .inl ⟨hjk, rfl⟩⟩, .inl ⟨j3, rfl, rfl, rfl, rfl⟩⟩⟩⟩⟩
          obtain ⟨hB, ⟨e0, e1, _⟩, hz, r0, r1, r2, f0, f1, f2⟩ := H12.out
          rw [hj3']
          clear hj3 hj3' hjk
          generalize expV ng (runV 10 s kk j3) = n at *
          go_wp2
          exact bodyPost_ret (v := .agg #[.bool false, .int .i64 ((j3 : Nat) : Int), .float .f64 0]) (by simp [results, Tryd.results4, go_sem, r0, r1, r2]) rfl ⟨false, _, _, 0, HX.out, rfl, by omega, rfl, (by repeat (first | exact hB | refine Below.drew ?_ | refine below_drewN ?_ _ | refine Below.setCell ?_ (by simp) _ | refine Below.alloc ?_ (by simp <;> omega) _))⟩
    case rest =>
      clear HT9
      obtain ⟨n, a, rfl, n1, n2, HEX, H13⟩ := hcut
      obtain ⟨hB, ⟨e0, e1, _⟩, hz, r0, r1, r2, f0, f1, f2⟩ := H13.out
      by_cases ha : a < s.size
      · have ha' : (a : Int) < (s.size : Int) := by omega
        have HX : Hid (ReadA s false ((a : Nat) : Int) (· = 0)) := .inr ⟨by omega, neg, k, HG.out, .inr ⟨HNW.out.1, HNW.out.2, 16, k1, j, HBs.out, HRun.out, .inr ⟨by omega, _, HFr.out, .inr ⟨ds, e, i, _, rfl, HEX.out, .inr ⟨n, a, rfl, .inl ⟨ha, rfl, rfl, rfl⟩⟩⟩⟩⟩⟩
        clear ha
        go_wp2
        exact bodyPost_ret (v := .agg #[.bool false, .int .i64 ((a : Nat) : Int), .float .f64 0]) (by simp [results, Tryd.results4, go_sem, r0, r1, r2]) rfl ⟨false, _, _, 0, HX.out, rfl, by omega, rfl, (by repeat (first | exact hB | refine Below.drew ?_ | refine below_drewN ?_ _ | refine Below.setCell ?_ (by simp) _ | refine Below.alloc ?_ (by simp <;> omega) _))⟩
      · have ha' : decide (a < s.size) = false := decide_eq_false ha
        have ha2 : (s.size : Int) ≤ (a : Int) := by omega
        have HX : Hid (ReadA s true 0 (· = flW neg 16 ds (expOf 16 e + n))) := .inr ⟨by omega, neg, k, HG.out, .inr ⟨HNW.out.1, HNW.out.2, 16, k1, j, HBs.out, HRun.out, .inr ⟨by omega, _, HFr.out, .inr ⟨ds, e, i, _, rfl, HEX.out, .inr ⟨n, a, rfl, .inr ⟨ha, rfl, rfl, rfl⟩⟩⟩⟩⟩⟩
        clear ha
        have HCV : Hid _ := fun w => l4hexed_any ds (4 * e + n) w (by omega) (by omega) (by omega)
        go_wp2_with fail
        refine (HCV.out _).mono ?_
        rintro x w14 ⟨rfl, hb14⟩
        have H15 : Hid (St w w14 s a) := H13.out.below hb14
        clear HCV hb14 hB e0 e1 hz r0 r1 r2 f0 f1 f2
        obtain ⟨hB, ⟨e0, e1, _⟩, hz, r0, r1, r2, f0, f1, f2⟩ := H15.out
        have HSW : Hid _ := fun w => signed_word neg _ (fw_half (valN 16 ds.data.toList) (4 * e + n)) w
        have HFL : Hid (signBit neg + fw false (valN 16 ds.data.toList) (4 * e + n) = flW neg 16 ds (expOf 16 e + n)) := by
            show _ = _
            unfold flW expOf
            rw [if_pos rfl, if_pos rfl]
        rw [HFL.out] at HSW
        generalize fw false (valN 16 ds.data.toList) (4 * e + n) = xw at *
        have HLT : Hid (flW neg 16 ds (expOf 16 e + n) < 18446744073709551616) := flW_lt _ _ _ _
        generalize flW neg 16 ds (expOf 16 e + n) = yw at *
        go_wp2_with (go_at_call 10; refine (HSW.out _).mono ?_; rintro x w' ⟨rfl, rfl⟩)
        exact bodyPost_ret (v := .agg #[.bool true, .int .i64 0, .float .f64 yw]) (by simp [results, Tryd.results4, go_sem, r0, r1, r2]) rfl ⟨true, _, _, yw, HX.out, rfl, HLT.out, rfl, (by repeat (first | exact hB | refine Below.drew ?_ | refine below_drewN ?_ _ | refine Below.setCell ?_ (by simp) _ | refine Below.alloc ?_ (by simp <;> omega) _))⟩
end Go.Proofs.YtdhcomkgofbphaaDoor

/- ReadFlt of the specification: from the base on. -/
namespace Go.Proofs.YtdhcomkgofbphaaDoor
open Go.ChangeShapes Go.WideShapes Go.RowKit

attribute [local go_sem] run_store_float
set_option maxHeartbeats 8000000 in
set_option maxRecDepth 1000000 in
theorem readMid (s : ByteArray) (w : World) (neg : Bool) (k : Nat) (v1 v5 v6 v7 v8 v9 v10 v11 v12 v13 v14 v15 v16 v17 v18 v19 v20 v21 v22 v23 v24 v25 v26 v27 v28 v29 v30 v31 v32 v33 v34 v35 v36 v37 v38 v39 v40 v41 v42 v43 v44 v45 v46 v47 v48 v49 v50 v51 v52 v53 v54 v55 v56 v57 v58 v59 v60 v61 v62 v63 v64 v65 v66 v67 v68 v69 v70 v71 v72 v73 v74 v75 v76 v77 v78 v79 v80 v81 v82 v83 v84 v85 v86 v87 v88 v89 v90 v91 v92 v93 v94 v95 v96 v97 v98 v99 v100 v101 v102 v103 v104 v105 v106 v107 v108 v109 v110 v111 v112 v113 v114 v115 v116 v117 v118 v119 v120 v121 v122 v123 v124 v125 v126 v127 v128 v129 v130 v131 v132 v133 v134 v135 v136 v137 v138 v139 v140 v141 v142 v143 v144 v145 v146 v147 v148 v149 v150 v151 v152 v153 v154 v155 v156 v157 v158 v159 v160 v161 v162 v163 v164 v165 v166 v167 v168 v169 v170 v171 v172 v173 v174 v175 v176 v177 v178 v179 v180 v181 v182 v183 v184 v185 v186 v187 v188 v189 v190 v191 : Value) (wc : World) (hbig : ¬ 1200 < s.size) (hs : s.size ≤ 1300) (HG : Hid (Sgn s 0 neg k)) (H3 : Hid (St w wc s k)) (HNW : Hid (bAt s k ≠ 105 ∧ bAt s k ≠ 110)) :
    Code.wp Tryd.prog (dropSeq 6 (Tryd.f4.body.getD .skip)) (bodyPost Tryd.prog Tryd.f4 (ReadQ s w)) ⟨#[.string s, v1, .pointer (some ⟨w.heap.size, 0, none⟩), .pointer (some ⟨w.heap.size + 1, 0, none⟩), .bool neg, v5, v6, v7, v8, v9, v10, v11, v12, v13, v14, v15, v16, v17, v18, v19, v20, v21, v22, v23, v24, v25, v26, v27, v28, v29, v30, v31, v32, v33, v34, v35, v36, v37, v38, v39, v40, v41, v42, v43, v44, v45, v46, v47, v48, v49, v50, v51, v52, v53, v54, v55, v56, v57, v58, v59, v60, v61, v62, v63, v64, v65, v66, v67, v68, v69, v70, v71, v72, v73, v74, v75, v76, v77, v78, v79, v80, v81, v82, v83, v84, v85, v86, v87, v88, v89, v90, v91, v92, v93, v94, v95, v96, v97, v98, v99, v100, v101, v102, v103, v104, v105, v106, v107, v108, v109, v110, v111, v112, v113, v114, v115, v116, v117, v118, v119, v120, v121, v122, v123, v124, v125, v126, v127, v128, v129, v130, v131, v132, v133, v134, v135, v136, v137, v138, v139, v140, v141, v142, v143, v144, v145, v146, v147, v148, v149, v150, v151, v152, v153, v154, v155, v156, v157, v158, v159, v160, v161, v162, v163, v164, v165, v166, v167, v168, v169, v170, v171, v172, v173, v174, v175, v176, v177, v178, v179, v180, v181, v182, v183, v184, v185, v186, v187, v188, v189, v190, v191], []⟩ wc := by
  have hs0 : (s.size : Int) ≤ 1200 := by omega
  conv => arg 2; whnf
  have hk : k ≤ s.size := sgn_le s 0 neg k HG.out (by omega)
  go_upto_region 23 with fail
  go_cut [106] from 15 (fun s106 wc => ∃ t : Bool, s106 = .bool t ∧ Hid ((t = true ∧ bAt s k = 48 ∧ k + 1 < s.size ∧ bAt s (k + 1) = 120) ∨ (t = false ∧ ¬ (bAt s k = 48 ∧ k + 1 < s.size ∧ bAt s (k + 1) = 120))) ∧ Hid (St w wc s k))
  case first =>
    have HK : Hid _ := fun (_ : Unit) => look_any (w.heap.size + 1) _ s k H3.out.2.1
    obtain ⟨c0, c1, _⟩ := H3.out.2.1
    by_cases h48 : bAt s k = 48
    · rw [h48] at HK
      by_cases hlt : k + 1 < s.size
      · have hb := bAt_in s (k + 1) hlt
        have hlt' : (k : Int) + 1 < (s.size : Int) := by omega
        by_cases h120 : bAt s (k + 1) = 120
        · have b120 : ((s[k + 1].toNat : Int) == 120) = true := beq_iff_eq.2 (by rw [← hb]; exact h120)
          have HF : Hid _ := fun (_ : Unit) => And.intro h48 (And.intro hlt h120)
          clear h48 h120 hb
          go_wp2_with fail
          refine (HK.out ()).mono ?_
          rintro x w1 ⟨rfl, m, rfl⟩
          go_wp2
          go_meet
          case rel => exact ⟨true, rfl, .inl ⟨rfl, HF.out ()⟩, H3.out.drewN m⟩
        · have b120 : ((s[k + 1].toNat : Int) == 120) = false := beq_eq_false_iff_ne.2 (by rw [← hb]; exact h120)
          have HF : Hid (¬ (bAt s k = 48 ∧ k + 1 < s.size ∧ bAt s (k + 1) = 120)) := fun h => h120 h.2.2
          clear h48 h120 hb
          go_wp2_with fail
          refine (HK.out ()).mono ?_
          rintro x w1 ⟨rfl, m, rfl⟩
          go_wp2
          go_meet
          case rel => exact ⟨false, rfl, .inr ⟨rfl, HF.out⟩, H3.out.drewN m⟩
      · have hlt' : decide ((k : Int) + 1 < (s.size : Int)) = false := decide_eq_false (by omega)
        have HF : Hid (¬ (bAt s k = 48 ∧ k + 1 < s.size ∧ bAt s (k + 1) = 120)) := fun h => hlt h.2.1
        clear h48 hlt
        go_wp2_with fail
        refine (HK.out ()).mono ?_
        rintro x w1 ⟨rfl, m, rfl⟩
        go_wp2
        go_meet
        case rel => exact ⟨false, rfl, .inr ⟨rfl, HF.out⟩, H3.out.drewN m⟩
    · have b48 : (bAt s k == 48) = false := beq_eq_false_iff_ne.2 h48
      have HF : Hid (¬ (bAt s k = 48 ∧ k + 1 < s.size ∧ bAt s (k + 1) = 120)) := fun h => h48 h.1
      clear h48
      go_wp2_with fail
      refine (HK.out ()).mono ?_
      rintro x w1 ⟨rfl, m, rfl⟩
      go_wp2
      go_meet
      case rel => exact ⟨false, rfl, .inr ⟨rfl, HF.out⟩, H3.out.drewN m⟩
  case rest =>
    obtain ⟨t, rfl, HT1, H4⟩ := hcut
    clear H3
    go_upto_if 106 with fail
    go_cut [8] from 15 (fun s8 wc => ∃ b k1 : Nat, s8 = .int .i64 (b : Int) ∧ (b = 10 ∨ b = 16) ∧ k1 ≤ s.size ∧ Hid (Bas s k b k1) ∧ Hid (St w wc s k1))
    case first =>
      cases t
      · have HF := (HT1.out.resolve_left (by rintro ⟨h, _⟩; cases h)).2
        have HB : Hid (Bas s k 10 k) := .inr ⟨HF, rfl, rfl⟩
        clear HF
        go_wp2
        go_meet
        case rel => exact ⟨10, k, rfl, .inl rfl, hk, HB.out, H4.out⟩
      · have HF := (HT1.out.resolve_right (by rintro ⟨h, _⟩; cases h)).2
        have HB : Hid (Bas s k 16 (k + 2)) := .inl ⟨HF.1, HF.2.1, HF.2.2, rfl, rfl⟩
        have hk2 : k + 2 ≤ s.size := by have := HF.2.1; omega
        obtain ⟨c0, c1, f1⟩ := H4.out.2.1
        clear HF
        go_wp2
        go_meet
        case rel => exact ⟨16, k + 2, rfl, .inr rfl, hk2, HB.out, H4.out.only ((Only.refl _ _).setCell _ _) ⟨by simp [go_sem, c0], by simp [go_sem, c1], by simp [go_sem, f1]⟩⟩
    case rest =>
      obtain ⟨b, k1, rfl, hb, hk1, HBs, H5⟩ := hcut
      clear H4 HT1 hk
      have HD : Hid _ := fun (_ : Unit) => digits_any (w.heap.size + 1) _ s k1 (b : Int) H5.out.2.1 hs hk1
      go_wp2_with fail
      refine (HD.out ()).mono ?_
      rintro x w6 ⟨j, hrun, rfl, hr6, ho6⟩
      have HRun : Hid (Run b s k1 j) := hrun
      have H6 : Hid (St w w6 s j) := H5.out.only ho6 hr6
      have hz1 : (s.extract k1 j).size = j - k1 := by rw [ByteArray.size_extract]; have := hrun.2.1; omega
      have hjs : j ≤ s.size := hrun.2.1
      have hkj : k1 ≤ j := hrun.1
      have HG1 : Hid _ := fun (_ : Unit) => run_good b s k1 j hrun
      clear hr6 ho6 hrun HD H5
      obtain ⟨d1, hd1⟩ : ∃ d1, s.extract k1 j = d1 := ⟨_, rfl⟩
      have HD1 : Hid (s.extract k1 j = d1) := hd1
      rw [hd1] at hz1 HG1
      rw [hd1]
      clear hd1
      by_cases hj : j = k1
      · have hbE := isEmpty_yes d1 (by omega)
        have HX : Hid (ReadA s false ((j : Nat) : Int) (· = 0)) := .inr ⟨by omega, neg, k, HG.out, .inr ⟨HNW.out.1, HNW.out.2, b, k1, j, HBs.out, HRun.out, .inl ⟨hj, rfl, by rw [hj], rfl⟩⟩⟩
        obtain ⟨hB, ⟨e0, e1, _⟩, hz, r0, r1, r2, f0, f1, f2⟩ := H6.out
        clear hj
        go_wp2
        exact bodyPost_ret (v := .agg #[.bool false, .int .i64 ((j : Nat) : Int), .float .f64 0]) (by simp [results, Tryd.results4, go_sem, r0, r1, r2]) rfl ⟨false, _, _, 0, HX.out, rfl, by omega, rfl, (by repeat (first | exact hB | refine Below.drew ?_ | refine below_drewN ?_ _ | refine Below.setCell ?_ (by simp) _ | refine Below.alloc ?_ (by simp <;> omega) _))⟩
      · have hbE := isEmpty_no d1 (by omega)
        have hkj' : k1 < j := by omega
        clear hj hkj
        go_upto_region 30 with fail
        go_cut [125] from 15 (fun s125 wc => ∃ t : Bool, s125 = .bool t ∧ Hid ((t = true ∧ bAt s j = 46 ∧ j < s.size ∧ St w wc s (j + 1)) ∨ (t = false ∧ bAt s j ≠ 46 ∧ St w wc s j)))
        case first =>
          have H7 : Hid _ := fun (_ : Unit) => is_any (w.heap.size + 1) _ s j 46 H6.out.2.1 hs (by omega)
          go_wp2_with fail
          refine (H7.out ()).mono ?_
          rintro x w7 ⟨t, j7, ht7, rfl, hr7, ho7⟩
          have H8 : Hid (St w w7 s j7) := H6.out.only ho7 hr7
          clear hr7 ho7 H7
          go_wp2
          go_meet
          case rel =>
            refine ⟨t, rfl, ?_⟩
            rcases ht7 with ⟨rfl, h71, h72, rfl⟩ | ⟨rfl, h71, rfl⟩
            · exact .inl ⟨rfl, h72, h71, H8.out⟩
            · exact .inr ⟨rfl, h71, H8.out⟩
        case rest =>
          obtain ⟨t, rfl, HT7⟩ := hcut
          clear H6
          go_upto_if 125 with fail
          go_cut [9, 10] from 15 (fun s9 s10 wc => ∃ (ds : ByteArray) (e : Int) (i : Nat), s9 = .string ds ∧ s10 = .int .i64 e ∧ -1200 ≤ e ∧ e ≤ 0 ∧ ds.size ≤ 1200 ∧ i ≤ s.size ∧ Hid (good b ds.data.toList) ∧ Hid (Frac b s k1 j (some (ds, e, i))) ∧ Hid (St w wc s i))
          case first =>
            cases t
            · obtain ⟨h71, h72⟩ := (HT7.out.resolve_left (by rintro ⟨h, _⟩; cases h)).2
              have H8 : Hid _ := fun (_ : Unit) => h72
              have HFr : Hid (Frac b s k1 j (some (d1, 0, j))) := .inl ⟨h71, by rw [HD1.out]⟩
              clear h71 h72
              go_wp2
              go_meet
              case rel => exact ⟨d1, 0, j, rfl, rfl, by omega, by omega, by omega, hjs, HG1.out (), HFr.out, H8.out ()⟩
            · obtain ⟨h71, h72, h73⟩ := (HT7.out.resolve_right (by rintro ⟨h, _⟩; cases h)).2
              have H8 : Hid _ := fun (_ : Unit) => h73
              have H71 : Hid (bAt s j = 46) := h71
              have HDD : Hid _ := fun (_ : Unit) => digits_any (w.heap.size + 1) _ s (j + 1) (b : Int) h73.2.1 hs (by omega)
              clear h71 h73
              go_wp2_with fail
              refine (HDD.out ()).mono ?_
              rintro x w8 ⟨i, hrun2, rfl, hr8, ho8⟩
              have H9 : Hid (St w w8 s i) := (H8.out ()).only ho8 hr8
              have HRn2 : Hid (Run b s (j + 1) i) := hrun2
              have hz2 : (s.extract (j + 1) i).size = i - (j + 1) := by rw [ByteArray.size_extract]; have := hrun2.2.1; omega
              have his : i ≤ s.size := hrun2.2.1
              have hji : j + 1 ≤ i := hrun2.1
              have HG2 : Hid _ := fun (_ : Unit) => run_good b s (j + 1) i hrun2
              clear hr8 ho8 hrun2 HDD
              obtain ⟨d2, hd2⟩ : ∃ d2, s.extract (j + 1) i = d2 := ⟨_, rfl⟩
              have HD2 : Hid (s.extract (j + 1) i = d2) := hd2
              rw [hd2] at hz2 HG2
              rw [hd2]
              clear hd2
              by_cases hi : i = j + 1
              · have hbE2 := isEmpty_yes d2 (by omega)
                have HX : Hid (ReadA s false ((i : Nat) : Int) (· = 0)) := .inr ⟨by omega, neg, k, HG.out, .inr ⟨HNW.out.1, HNW.out.2, b, k1, j, HBs.out, HRun.out, .inr ⟨hkj', none, .inr ⟨H71.out, i, HRn2.out, .inl ⟨hi, rfl⟩⟩, .inl ⟨rfl, rfl, by rw [hi], rfl⟩⟩⟩⟩
                obtain ⟨hB, ⟨e0, e1, _⟩, hz, r0, r1, r2, f0, f1, f2⟩ := H9.out
                clear hi
                go_wp2
                exact bodyPost_ret (v := .agg #[.bool false, .int .i64 ((i : Nat) : Int), .float .f64 0]) (by simp [results, Tryd.results4, go_sem, r0, r1, r2]) rfl ⟨false, _, _, 0, HX.out, rfl, by omega, rfl, (by repeat (first | exact hB | refine Below.drew ?_ | refine below_drewN ?_ _ | refine Below.setCell ?_ (by simp) _ | refine Below.alloc ?_ (by simp <;> omega) _))⟩
              · have hbE2 := isEmpty_no d2 (by omega)
                have HFr : Hid (Frac b s k1 j (some (d1 ++ d2, -(d2.size : Int), i))) := .inr ⟨H71.out, i, HRn2.out, .inr ⟨by omega, by rw [HD1.out, HD2.out, hz2]⟩⟩
                have HGG : Hid (good b (d1 ++ d2).data.toList) := fun c hc => by
                  rw [ByteArray.data_append, Array.toList_append, List.mem_append] at hc
                  rcases hc with h | h
                  · exact HG1.out () c h
                  · exact HG2.out () c h
                have hsz : (d1 ++ d2).size = d1.size + d2.size := ByteArray.size_append
                clear hi
                go_wp2
                go_meet
                case rel => exact ⟨d1 ++ d2, -(d2.size : Int), i, rfl, by rw [hz2], by omega, by omega, by omega, his, HGG.out, HFr.out, H9.out⟩
          case rest =>
          clear HT7 hbE hz1 HG1
          obtain ⟨ds, e, i, rfl, rfl, he1, he2, hds, his, HGd, HFr, H8⟩ := hcut
          rcases hb with rfl | rfl
          · refine (‹∀ (a : Act) (w : World), Code.wp Tryd.prog _ _ a w → _› _ _ ?_)
            exact readEnd_10 s w neg k k1 j ds e i _ _ _ _ _ _ _ _ _ _ _ _ _ _ _ _ _ _ _ _ _ _ _ _ _ _ _ _ _ _ _ _ _ _ _ _ _ _ _ _ _ _ _ _ _ _ _ _ _ _ _ _ _ _ _ _ _ _ _ _ _ _ _ _ _ _ _ _ _ _ _ _ _ _ _ _ _ _ _ _ _ _ _ _ _ _ _ _ _ _ _ _ _ _ _ _ _ _ _ _ _ _ _ _ _ _ _ _ _ _ _ _ _ _ _ _ _ _ _ _ _ _ _ _ _ _ _ _ _ _ _ _ _ _ _ _ _ _ _ _ _ _ _ _ _ _ _ _ _ _ _ _ _ _ _ _ _ _ _ _ _ _ _ _ _ _ _ _ _ _ _ _ _ _ _ _ _ _ _ _ _ _ _ _ _ _ hbig hs HG HNW HBs HRun hkj' he1 he2 hds his HGd.out HFr H8
          · refine (‹∀ (a : Act) (w : World), Code.wp Tryd.prog _ _ a w → _› _ _ ?_)
            exact readEnd_16 s w neg k k1 j ds e i _ _ _ _ _ _ _ _ _ _ _ _ _ _ _ _ _ _ _ _ _ _ _ _ _ _ _ _ _ _ _ _ _ _ _ _ _ _ _ _ _ _ _ _ _ _ _ _ _ _ _ _ _ _ _ _ _ _ _ _ _ _ _ _ _ _ _ _ _ _ _ _ _ _ _ _ _ _ _ _ _ _ _ _ _ _ _ _ _ _ _ _ _ _ _ _ _ _ _ _ _ _ _ _ _ _ _ _ _ _ _ _ _ _ _ _ _ _ _ _ _ _ _ _ _ _ _ _ _ _ _ _ _ _ _ _ _ _ _ _ _ _ _ _ _ _ _ _ _ _ _ _ _ _ _ _ _ _ _ _ _ _ _ _ _ _ _ _ _ _ _ _ _ _ _ _ _ _ _ _ _ _ _ _ _ _ hbig hs HG HNW HBs HRun hkj' he1 he2 hds his HGd.out HFr H8
end Go.Proofs.YtdhcomkgofbphaaDoor

/- ReadFlt of the specification. -/
namespace Go.Proofs.YtdhcomkgofbphaaDoor
open Go.ChangeShapes Go.WideShapes Go.RowKit

attribute [local go_sem] run_store_float
set_option maxHeartbeats 8000000 in
set_option maxRecDepth 100000 in
theorem specRead_any (s : ByteArray) (w : World) (hl : s.size ≤ 9223372036854775807) :
    Calls Tryd.prog 4 #[.string s] w fun e w' => ReadQ s w e w' := by
  by_cases hbig : 1200 < s.size
  · have hbig' : (1200 : Int) < (s.size : Int) := by omega
    have HX : Hid (ReadA s false 1200 (· = 0)) := .inl ⟨hbig, rfl, rfl, rfl⟩
    have hB : Below w.heap.size w w := Below.refl _ _
    clear hbig
    go_enter Tryd.func4, Tryd.ntmps4
    go_wp2
    exact bodyPost_ret (v := .agg #[.bool false, .int .i64 1200, .float .f64 0]) (by simp [results, Tryd.results4, go_sem]) rfl ⟨false, _, _, 0, HX.out, rfl, by omega, rfl, (by repeat (first | exact hB | refine Below.drew ?_ | refine below_drewN ?_ _ | refine Below.setCell ?_ (by simp) _ | refine Below.alloc ?_ (by simp <;> omega) _))⟩
  · have hs : s.size ≤ 1300 := by omega
    have hs' : (s.size : Int) ≤ 1200 := by omega
    have hbig' : decide (1200 < (s.size : Int)) = false := decide_eq_false (by omega)
    go_enter Tryd.func4, Tryd.ntmps4
    go_upto_region 4 with fail
    have H0 : Hid _ := fun (_ : Unit) => St.start w s 24 30
    go_cut [4] from 15 (fun s4 wc => ∃ (t : Bool) (k : Nat), s4 = .bool t ∧ ((t = true ∧ Hid (Sgn s 0 true k)) ∨ (t = false ∧ k = 0 ∧ Hid (bAt s 0 ≠ 45))) ∧ Hid (St w wc s k))
    case first =>
      go_wp2_with fail
      refine (is_any _ _ s 0 45 (H0.out ()).2.1 hs (by omega)).mono ?_
      rintro x w1 ⟨t, k, ht, rfl, hr, ho⟩
      have H1 : Hid _ := fun (_ : Unit) => (H0.out ()).only ho hr
      clear hr ho
      go_wp2
      go_meet
      case rel =>
        refine ⟨t, k, rfl, ?_, H1.out ()⟩
        rcases ht with ⟨rfl, h1, h2, rfl⟩ | ⟨rfl, h1, rfl⟩
        · exact .inl ⟨rfl, .inl ⟨h1, h2, rfl, rfl⟩⟩
        · exact .inr ⟨rfl, rfl, h1⟩
    case rest =>
      obtain ⟨t, k, rfl, ht, H1⟩ := hcut
      clear H0
      go_upto_if 25 with fail
      go_cut [4] from 15 (fun s4 wc => ∃ (t : Bool) (k : Nat), s4 = .bool t ∧ Hid (Sgn s 0 t k) ∧ Hid (St w wc s k))
      case first =>
        rcases ht with ⟨rfl, HS⟩ | ⟨rfl, rfl, HS⟩
        · go_wp2
          go_meet
          case rel => exact ⟨true, k, rfl, HS.out, H1.out⟩
        · go_wp2_with fail
          refine (is_any _ _ s 0 43 H1.out.2.1 hs (by omega)).mono ?_
          rintro x w1 ⟨t, k, ht, rfl, hr, ho⟩
          have H2 : Hid _ := fun (_ : Unit) => H1.out.only ho hr
          have HG : Hid (Sgn s 0 false k) := by
            rcases ht with ⟨rfl, h1, h2, rfl⟩ | ⟨rfl, h1, rfl⟩
            · exact .inr (.inl ⟨h1, h2, rfl, rfl⟩)
            · exact .inr (.inr ⟨HS.out, h1, rfl, rfl⟩)
          clear hr ho ht
          go_wp2
          go_meet
          case rel => exact ⟨false, k, rfl, HG.out, H2.out ()⟩
      case rest =>
        clear H1 ht
        obtain ⟨neg, k, rfl, HG, H1⟩ := hcut
        go_upto_block 0 with fail
        have H2 : Hid _ := fun (_ : Unit) => H1.out.below ((Below.refl _ wc).alloc (Nat.le_refl _) (.cells #[.string ⟨#[105, 110, 102]⟩, .string ⟨#[110, 97, 110]⟩] 9))
        obtain ⟨V, hV⟩ : ∃ V : Nat, V = wc.heap.size := ⟨_, rfl⟩
        have HVR : Hid (w.heap.size + 1 < V) := by show _ < V; have := H1.out.2.2.1; omega
        have HWD : Hid _ := fun (_ : Unit) => And.intro (show (wc.alloc (.cells #[.string ⟨#[105, 110, 102]⟩, .string ⟨#[110, 97, 110]⟩] 9)).cell? ⟨V, 0, none⟩ = some (.string ⟨#[105, 110, 102]⟩) by rw [hV]; simp [go_sem]) (show (wc.alloc (.cells #[.string ⟨#[105, 110, 102]⟩, .string ⟨#[110, 97, 110]⟩] 9)).cell? ⟨V, 1, none⟩ = some (.string ⟨#[110, 97, 110]⟩) by rw [hV]; simp [go_sem])
        rw [← hV]
        clear hV
        generalize wc.alloc (.cells #[.string ⟨#[105, 110, 102]⟩, .string ⟨#[110, 97, 110]⟩] 9) = wd at *
        clear H1
        go_cut [6] from 15 (fun _ wx => Hid (St w wx s k) ∧ Hid (bAt s k ≠ 105 ∧ bAt s k ≠ 110))
        case first =>
          go_wp2_with fail
          go_loopw [30] (fun i wl => ∃ n : Nat, i = .int .i64 (n : Int) ∧ n ≤ 2 ∧ Hid (St w wl s k) ∧ Hid (wl.cell? ⟨V, 0, none⟩ = some (.string ⟨#[105, 110, 102]⟩) ∧ wl.cell? ⟨V, 1, none⟩ = some (.string ⟨#[110, 97, 110]⟩)) ∧ Hid ((1 ≤ n → bAt s k ≠ 105) ∧ (2 ≤ n → bAt s k ≠ 110))) (fun i _ => 2 - (intOf i).toNat)
          case atStart => exact ⟨0, rfl, by omega, H2.out (), HWD.out (), fun h => absurd h (by omega), fun h => absurd h (by omega)⟩
          case round =>
          obtain ⟨n, rfl, hn, HS, HC, HN⟩ := hrel
          rcases (show n = 0 ∨ n = 1 ∨ n = 2 by omega) with rfl | rfl | rfl
          · obtain ⟨q0, q1⟩ := HC.out
            obtain ⟨c0, c1, _⟩ := HS.out.2.1
            have HK : Hid _ := fun m => look_any (w.heap.size + 1) (World.drewN _ m) s k (HS.out.2.1.drewN m)
            by_cases hm : bAt s k = 105
            · have hk : (k : Int) < (s.size : Int) := by
                by_cases hk : k < s.size
                · omega
                · rw [bAt_out s k hk] at hm; omega
              rw [hm] at HK
              have HM : Hid (bAt s k = wordC false 0) := hm
              clear hm
              go_wp2
              go_quiet (first | (go_at_call 8; exact Calls.quiet_of (HK.out _)))
              go_wp2_with fail
              have hq : (((⟨#[105, 110, 102]⟩ : ByteArray)[0].toNat : Nat) : Int) = 105 := rfl
              simp only [hq, beq_self_eq_true]
              go_loopw [7] (fun i wl => ∃ n : Nat, i = .int .i64 (n : Int) ∧ n ≤ 3 ∧ Hid (St w wl s (k + n)) ∧ Hid (∀ t, t < n → bAt s (k + t) = wordC false t)) (fun i _ => 3 - (intOf i).toNat)
              case atStart => exact ⟨0, rfl, by omega, HS.out.drewN _, fun t ht => absurd ht (by omega)⟩
              case round =>
                clear c0 c1 q0 q1 HK
                obtain ⟨n, rfl, hn3, HT, HW1⟩ := hrel
                rcases (show n = 0 ∨ n = 1 ∨ n = 2 ∨ n = 3 by omega) with rfl | rfl | rfl | rfl
                · have H5 : Hid _ := fun (_ : Unit) => is_any (w.heap.size + 1) _ s (k + 0) 105 HT.out.2.1 hs (by omega)
                  go_wp2_with fail
                  refine (H5.out ()).mono ?_
                  rintro x w5 ⟨t, j5, ht5, rfl, hr5, ho5⟩
                  have H6 : Hid _ := fun (_ : Unit) => HT.out.only ho5 hr5
                  clear H5 hr5 ho5
                  rcases ht5 with ⟨rfl, h51, h52, hj5⟩ | ⟨rfl, h51, hj5⟩
                  · rw [hj5] at H6
                    clear hj5
                    have HW2 : Hid (∀ t, t < 0 + 1 → bAt s (k + t) = wordC false t) := fun t ht => by
                      rcases (show t < 0 ∨ t = 0 by omega) with h | rfl
                      · exact HW1.out t h
                      · exact h52
                    clear h52
                    go_wp2
                    go_roundw
                    case rel => exact ⟨1, rfl, by omega, H6.out (), HW2.out⟩
                    case measure => simp only [intOf]; omega
                  · rw [hj5] at H6
                    clear hj5
                    have HX : Hid (ReadA s false ((k + 0 : Nat) : Int) (· = 0)) := .inr ⟨by omega, neg, k, HG.out, .inl ⟨false, HM.out, 0, by omega, HW1.out, .inl ⟨by omega, h51, rfl, rfl, rfl⟩⟩⟩
                    obtain ⟨hB, ⟨e0, e1, _⟩, hz, r0, r1, r2, f0, f1, f2⟩ := H6.out ()
                    clear h51
                    go_wp2
                    exact bodyPost_ret (v := .agg #[.bool false, .int .i64 ((k + 0 : Nat) : Int), .float .f64 0]) (by simp [results, Tryd.results4, go_sem, r0, r1, r2]) rfl ⟨false, _, _, 0, HX.out, rfl, by omega, rfl, (by repeat (first | exact hB | refine Below.drew ?_ | refine below_drewN ?_ _ | refine Below.setCell ?_ (by simp) _ | refine Below.alloc ?_ (by simp <;> omega) _))⟩
                · have H5 : Hid _ := fun (_ : Unit) => is_any (w.heap.size + 1) _ s (k + 1) 110 HT.out.2.1 hs (by omega)
                  go_wp2_with fail
                  refine (H5.out ()).mono ?_
                  rintro x w5 ⟨t, j5, ht5, rfl, hr5, ho5⟩
                  have H6 : Hid _ := fun (_ : Unit) => HT.out.only ho5 hr5
                  clear H5 hr5 ho5
                  rcases ht5 with ⟨rfl, h51, h52, hj5⟩ | ⟨rfl, h51, hj5⟩
                  · rw [hj5] at H6
                    clear hj5
                    have HW2 : Hid (∀ t, t < 1 + 1 → bAt s (k + t) = wordC false t) := fun t ht => by
                      rcases (show t < 1 ∨ t = 1 by omega) with h | rfl
                      · exact HW1.out t h
                      · exact h52
                    clear h52
                    go_wp2
                    go_roundw
                    case rel => exact ⟨2, rfl, by omega, H6.out (), HW2.out⟩
                    case measure => simp only [intOf]; omega
                  · rw [hj5] at H6
                    clear hj5
                    have HX : Hid (ReadA s false ((k + 1 : Nat) : Int) (· = 0)) := .inr ⟨by omega, neg, k, HG.out, .inl ⟨false, HM.out, 1, by omega, HW1.out, .inl ⟨by omega, h51, rfl, rfl, rfl⟩⟩⟩
                    obtain ⟨hB, ⟨e0, e1, _⟩, hz, r0, r1, r2, f0, f1, f2⟩ := H6.out ()
                    clear h51
                    go_wp2
                    exact bodyPost_ret (v := .agg #[.bool false, .int .i64 ((k + 1 : Nat) : Int), .float .f64 0]) (by simp [results, Tryd.results4, go_sem, r0, r1, r2]) rfl ⟨false, _, _, 0, HX.out, rfl, by omega, rfl, (by repeat (first | exact hB | refine Below.drew ?_ | refine below_drewN ?_ _ | refine Below.setCell ?_ (by simp) _ | refine Below.alloc ?_ (by simp <;> omega) _))⟩
                · have H5 : Hid _ := fun (_ : Unit) => is_any (w.heap.size + 1) _ s (k + 2) 102 HT.out.2.1 hs (by omega)
                  go_wp2_with fail
                  refine (H5.out ()).mono ?_
                  rintro x w5 ⟨t, j5, ht5, rfl, hr5, ho5⟩
                  have H6 : Hid _ := fun (_ : Unit) => HT.out.only ho5 hr5
                  clear H5 hr5 ho5
                  rcases ht5 with ⟨rfl, h51, h52, hj5⟩ | ⟨rfl, h51, hj5⟩
                  · rw [hj5] at H6
                    clear hj5
                    have HW2 : Hid (∀ t, t < 2 + 1 → bAt s (k + t) = wordC false t) := fun t ht => by
                      rcases (show t < 2 ∨ t = 2 by omega) with h | rfl
                      · exact HW1.out t h
                      · exact h52
                    clear h52
                    go_wp2
                    go_roundw
                    case rel => exact ⟨3, rfl, by omega, H6.out (), HW2.out⟩
                    case measure => simp only [intOf]; omega
                  · rw [hj5] at H6
                    clear hj5
                    have HX : Hid (ReadA s false ((k + 2 : Nat) : Int) (· = 0)) := .inr ⟨by omega, neg, k, HG.out, .inl ⟨false, HM.out, 2, by omega, HW1.out, .inl ⟨by omega, h51, rfl, rfl, rfl⟩⟩⟩
                    obtain ⟨hB, ⟨e0, e1, _⟩, hz, r0, r1, r2, f0, f1, f2⟩ := H6.out ()
                    clear h51
                    go_wp2
                    exact bodyPost_ret (v := .agg #[.bool false, .int .i64 ((k + 2 : Nat) : Int), .float .f64 0]) (by simp [results, Tryd.results4, go_sem, r0, r1, r2]) rfl ⟨false, _, _, 0, HX.out, rfl, by omega, rfl, (by repeat (first | exact hB | refine Below.drew ?_ | refine below_drewN ?_ _ | refine Below.setCell ?_ (by simp) _ | refine Below.alloc ?_ (by simp <;> omega) _))⟩
                · obtain ⟨hB, ⟨e0, e1, _⟩, hz, r0, r1, r2, f0, f1, f2⟩ := HT.out
                  by_cases hend : k + 3 < s.size
                  · have hend' : (k : Int) + 3 < (s.size : Int) := by omega
                    have HX : Hid (ReadA s false ((k + 3 : Nat) : Int) (· = 0)) := .inr ⟨by omega, neg, k, HG.out, .inl ⟨false, HM.out, 3, by omega, HW1.out, .inr (.inl ⟨rfl, hend, rfl, rfl, rfl⟩)⟩⟩
                    clear hend
                    go_wp2
                    exact bodyPost_ret (v := .agg #[.bool false, .int .i64 ((k + 3 : Nat) : Int), .float .f64 0]) (by simp [results, Tryd.results4, go_sem, r0, r1, r2]) rfl ⟨false, _, _, 0, HX.out, rfl, by omega, rfl, (by repeat (first | exact hB | refine Below.drew ?_ | refine below_drewN ?_ _ | refine Below.setCell ?_ (by simp) _ | refine Below.alloc ?_ (by simp <;> omega) _))⟩
                  · have hend' : decide ((k : Int) + 3 < (s.size : Int)) = false := decide_eq_false (by omega)
                    have HX : Hid (ReadA s true 0 (· = iw neg)) := .inr ⟨by omega, neg, k, HG.out, .inl ⟨false, HM.out, 3, by omega, HW1.out, .inr (.inr ⟨rfl, hend, rfl, rfl, rfl⟩)⟩⟩
                    clear hend
                    go_wp2_with (first | (go_at_call 11; refine (l2inf_any _).mono ?_; rintro e w' ⟨rfl, rfl⟩) | (go_at_call 10; refine (l2signed_iw _ _).mono ?_; rintro e w' ⟨rfl, rfl⟩))
                    exact bodyPost_ret (v := .agg #[.bool true, .int .i64 0, .float .f64 (iw neg)]) (by simp [results, Tryd.results4, go_sem, r0, r1, r2]) rfl ⟨true, _, _, iw neg, HX.out, rfl, by cases neg <;> decide, rfl, (by repeat (first | exact hB | refine Below.drew ?_ | refine below_drewN ?_ _ | refine Below.setCell ?_ (by simp) _ | refine Below.alloc ?_ (by simp <;> omega) _))⟩
            · have hmb : (bAt s k == (((⟨#[105, 110, 102]⟩ : ByteArray)[0].toNat : Nat) : Int)) = false := beq_eq_false_iff_ne.2 hm
              have HM : Hid (bAt s k ≠ 105) := hm
              clear hm
              go_wp2
              go_quiet (first | (go_at_call 8; exact Calls.quiet_of (HK.out _)))
              go_wp2
              go_roundw
              case rel => exact ⟨1, rfl, by omega, HS.out.drewN _, HC.out, fun _ => HM.out, fun h => absurd h (by omega)⟩
              case measure => simp only [intOf]; omega
          · obtain ⟨q0, q1⟩ := HC.out
            obtain ⟨c0, c1, _⟩ := HS.out.2.1
            have HK : Hid _ := fun m => look_any (w.heap.size + 1) (World.drewN _ m) s k (HS.out.2.1.drewN m)
            by_cases hm : bAt s k = 110
            · have hk : (k : Int) < (s.size : Int) := by
                by_cases hk : k < s.size
                · omega
                · rw [bAt_out s k hk] at hm; omega
              rw [hm] at HK
              have HM : Hid (bAt s k = wordC true 0) := hm
              clear hm
              go_wp2
              go_quiet (first | (go_at_call 8; exact Calls.quiet_of (HK.out _)))
              go_wp2_with fail
              have hq : (((⟨#[110, 97, 110]⟩ : ByteArray)[0].toNat : Nat) : Int) = 110 := rfl
              simp only [hq, beq_self_eq_true]
              go_loopw [7] (fun i wl => ∃ n : Nat, i = .int .i64 (n : Int) ∧ n ≤ 3 ∧ Hid (St w wl s (k + n)) ∧ Hid (∀ t, t < n → bAt s (k + t) = wordC true t)) (fun i _ => 3 - (intOf i).toNat)
              case atStart => exact ⟨0, rfl, by omega, HS.out.drewN _, fun t ht => absurd ht (by omega)⟩
              case round =>
                clear c0 c1 q0 q1 HK
                obtain ⟨n, rfl, hn3, HT, HW1⟩ := hrel
                rcases (show n = 0 ∨ n = 1 ∨ n = 2 ∨ n = 3 by omega) with rfl | rfl | rfl | rfl
                · have H5 : Hid _ := fun (_ : Unit) => is_any (w.heap.size + 1) _ s (k + 0) 110 HT.out.2.1 hs (by omega)
                  go_wp2_with fail
                  refine (H5.out ()).mono ?_
                  rintro x w5 ⟨t, j5, ht5, rfl, hr5, ho5⟩
                  have H6 : Hid _ := fun (_ : Unit) => HT.out.only ho5 hr5
                  clear H5 hr5 ho5
                  rcases ht5 with ⟨rfl, h51, h52, hj5⟩ | ⟨rfl, h51, hj5⟩
                  · rw [hj5] at H6
                    clear hj5
                    have HW2 : Hid (∀ t, t < 0 + 1 → bAt s (k + t) = wordC true t) := fun t ht => by
                      rcases (show t < 0 ∨ t = 0 by omega) with h | rfl
                      · exact HW1.out t h
                      · exact h52
                    clear h52
                    go_wp2
                    go_roundw
                    case rel => exact ⟨1, rfl, by omega, H6.out (), HW2.out⟩
                    case measure => simp only [intOf]; omega
                  · rw [hj5] at H6
                    clear hj5
                    have HX : Hid (ReadA s false ((k + 0 : Nat) : Int) (· = 0)) := .inr ⟨by omega, neg, k, HG.out, .inl ⟨true, HM.out, 0, by omega, HW1.out, .inl ⟨by omega, h51, rfl, rfl, rfl⟩⟩⟩
                    obtain ⟨hB, ⟨e0, e1, _⟩, hz, r0, r1, r2, f0, f1, f2⟩ := H6.out ()
                    clear h51
                    go_wp2
                    exact bodyPost_ret (v := .agg #[.bool false, .int .i64 ((k + 0 : Nat) : Int), .float .f64 0]) (by simp [results, Tryd.results4, go_sem, r0, r1, r2]) rfl ⟨false, _, _, 0, HX.out, rfl, by omega, rfl, (by repeat (first | exact hB | refine Below.drew ?_ | refine below_drewN ?_ _ | refine Below.setCell ?_ (by simp) _ | refine Below.alloc ?_ (by simp <;> omega) _))⟩
                · have H5 : Hid _ := fun (_ : Unit) => is_any (w.heap.size + 1) _ s (k + 1) 97 HT.out.2.1 hs (by omega)
                  go_wp2_with fail
                  refine (H5.out ()).mono ?_
                  rintro x w5 ⟨t, j5, ht5, rfl, hr5, ho5⟩
                  have H6 : Hid _ := fun (_ : Unit) => HT.out.only ho5 hr5
                  clear H5 hr5 ho5
                  rcases ht5 with ⟨rfl, h51, h52, hj5⟩ | ⟨rfl, h51, hj5⟩
                  · rw [hj5] at H6
                    clear hj5
                    have HW2 : Hid (∀ t, t < 1 + 1 → bAt s (k + t) = wordC true t) := fun t ht => by
                      rcases (show t < 1 ∨ t = 1 by omega) with h | rfl
                      · exact HW1.out t h
                      · exact h52
                    clear h52
                    go_wp2
                    go_roundw
                    case rel => exact ⟨2, rfl, by omega, H6.out (), HW2.out⟩
                    case measure => simp only [intOf]; omega
                  · rw [hj5] at H6
                    clear hj5
                    have HX : Hid (ReadA s false ((k + 1 : Nat) : Int) (· = 0)) := .inr ⟨by omega, neg, k, HG.out, .inl ⟨true, HM.out, 1, by omega, HW1.out, .inl ⟨by omega, h51, rfl, rfl, rfl⟩⟩⟩
                    obtain ⟨hB, ⟨e0, e1, _⟩, hz, r0, r1, r2, f0, f1, f2⟩ := H6.out ()
                    clear h51
                    go_wp2
                    exact bodyPost_ret (v := .agg #[.bool false, .int .i64 ((k + 1 : Nat) : Int), .float .f64 0]) (by simp [results, Tryd.results4, go_sem, r0, r1, r2]) rfl ⟨false, _, _, 0, HX.out, rfl, by omega, rfl, (by repeat (first | exact hB | refine Below.drew ?_ | refine below_drewN ?_ _ | refine Below.setCell ?_ (by simp) _ | refine Below.alloc ?_ (by simp <;> omega) _))⟩
                · have H5 : Hid _ := fun (_ : Unit) => is_any (w.heap.size + 1) _ s (k + 2) 110 HT.out.2.1 hs (by omega)
                  go_wp2_with fail
                  refine (H5.out ()).mono ?_
                  rintro x w5 ⟨t, j5, ht5, rfl, hr5, ho5⟩
                  have H6 : Hid _ := fun (_ : Unit) => HT.out.only ho5 hr5
                  clear H5 hr5 ho5
                  rcases ht5 with ⟨rfl, h51, h52, hj5⟩ | ⟨rfl, h51, hj5⟩
                  · rw [hj5] at H6
                    clear hj5
                    have HW2 : Hid (∀ t, t < 2 + 1 → bAt s (k + t) = wordC true t) := fun t ht => by
                      rcases (show t < 2 ∨ t = 2 by omega) with h | rfl
                      · exact HW1.out t h
                      · exact h52
                    clear h52
                    go_wp2
                    go_roundw
                    case rel => exact ⟨3, rfl, by omega, H6.out (), HW2.out⟩
                    case measure => simp only [intOf]; omega
                  · rw [hj5] at H6
                    clear hj5
                    have HX : Hid (ReadA s false ((k + 2 : Nat) : Int) (· = 0)) := .inr ⟨by omega, neg, k, HG.out, .inl ⟨true, HM.out, 2, by omega, HW1.out, .inl ⟨by omega, h51, rfl, rfl, rfl⟩⟩⟩
                    obtain ⟨hB, ⟨e0, e1, _⟩, hz, r0, r1, r2, f0, f1, f2⟩ := H6.out ()
                    clear h51
                    go_wp2
                    exact bodyPost_ret (v := .agg #[.bool false, .int .i64 ((k + 2 : Nat) : Int), .float .f64 0]) (by simp [results, Tryd.results4, go_sem, r0, r1, r2]) rfl ⟨false, _, _, 0, HX.out, rfl, by omega, rfl, (by repeat (first | exact hB | refine Below.drew ?_ | refine below_drewN ?_ _ | refine Below.setCell ?_ (by simp) _ | refine Below.alloc ?_ (by simp <;> omega) _))⟩
                · obtain ⟨hB, ⟨e0, e1, _⟩, hz, r0, r1, r2, f0, f1, f2⟩ := HT.out
                  by_cases hend : k + 3 < s.size
                  · have hend' : (k : Int) + 3 < (s.size : Int) := by omega
                    have HX : Hid (ReadA s false ((k + 3 : Nat) : Int) (· = 0)) := .inr ⟨by omega, neg, k, HG.out, .inl ⟨true, HM.out, 3, by omega, HW1.out, .inr (.inl ⟨rfl, hend, rfl, rfl, rfl⟩)⟩⟩
                    clear hend
                    go_wp2
                    exact bodyPost_ret (v := .agg #[.bool false, .int .i64 ((k + 3 : Nat) : Int), .float .f64 0]) (by simp [results, Tryd.results4, go_sem, r0, r1, r2]) rfl ⟨false, _, _, 0, HX.out, rfl, by omega, rfl, (by repeat (first | exact hB | refine Below.drew ?_ | refine below_drewN ?_ _ | refine Below.setCell ?_ (by simp) _ | refine Below.alloc ?_ (by simp <;> omega) _))⟩
                  · have hend' : decide ((k : Int) + 3 < (s.size : Int)) = false := decide_eq_false (by omega)
                    have HX : Hid (ReadA s true 0 IsNan) := .inr ⟨by omega, neg, k, HG.out, .inl ⟨true, HM.out, 3, by omega, HW1.out, .inr (.inr ⟨rfl, hend, rfl, rfl, rfl⟩)⟩⟩
                    clear hend
                    go_wp2_with (go_at_call 9; refine (l2nan_any _).mono ?_; rintro e w' ⟨nb, hnb, hbl, rfl, rfl⟩)
                    exact bodyPost_ret (v := .agg #[.bool true, .int .i64 0, .float .f64 nb]) (by simp [results, Tryd.results4, go_sem, r0, r1, r2]) rfl ⟨true, _, _, nb, HX.out, hnb, hbl, rfl, (by repeat (first | exact hB | refine Below.drew ?_ | refine below_drewN ?_ _ | refine Below.setCell ?_ (by simp) _ | refine Below.alloc ?_ (by simp <;> omega) _))⟩
            · have hmb : (bAt s k == (((⟨#[110, 97, 110]⟩ : ByteArray)[0].toNat : Nat) : Int)) = false := beq_eq_false_iff_ne.2 hm
              have HM : Hid (bAt s k ≠ 110) := hm
              clear hm
              go_wp2
              go_quiet (first | (go_at_call 8; exact Calls.quiet_of (HK.out _)))
              go_wp2
              go_roundw
              case rel => exact ⟨2, rfl, by omega, HS.out.drewN _, HC.out, HN.out.1 ∘ (fun _ => by omega), fun _ => HM.out⟩
              case measure => simp only [intOf]; omega
          · go_wp2
            go_meet
            case rel => exact ⟨HS.out, HN.out.1 (by omega), HN.out.2 (by omega)⟩
        case rest =>
          obtain ⟨H3, HNW⟩ := hcut
          refine (‹∀ (a : Act) (w : World), Code.wp Tryd.prog _ _ a w → _› _ _ ?_)
          exact readMid s w neg k _ _ _ _ _ _ _ _ _ _ _ _ _ _ _ _ _ _ _ _ _ _ _ _ _ _ _ _ _ _ _ _ _ _ _ _ _ _ _ _ _ _ _ _ _ _ _ _ _ _ _ _ _ _ _ _ _ _ _ _ _ _ _ _ _ _ _ _ _ _ _ _ _ _ _ _ _ _ _ _ _ _ _ _ _ _ _ _ _ _ _ _ _ _ _ _ _ _ _ _ _ _ _ _ _ _ _ _ _ _ _ _ _ _ _ _ _ _ _ _ _ _ _ _ _ _ _ _ _ _ _ _ _ _ _ _ _ _ _ _ _ _ _ _ _ _ _ _ _ _ _ _ _ _ _ _ _ _ _ _ _ _ _ _ _ _ _ _ _ _ _ _ _ _ _ _ _ _ _ _ _ _ _ _ _ _ _ _ _ hbig hs HG H3 HNW
end Go.Proofs.YtdhcomkgofbphaaDoor

/- What reading answers is one thing alone: plain. -/
namespace Go.Proofs.YtdhcomkgofbphaaDoor
open Go.RowKit

theorem sgn_one {s : ByteArray} {k j j' : Nat} {n n' : Bool} (h : Sgn s k n j) (h' : Sgn s k n' j') : n = n' ∧ j = j' := by
  rcases h with ⟨_, a, rfl, rfl⟩ | ⟨_, a, rfl, rfl⟩ | ⟨a, b, rfl, rfl⟩ <;> rcases h' with ⟨_, c, rfl, rfl⟩ | ⟨_, c, rfl, rfl⟩ | ⟨c, d, rfl, rfl⟩ <;> first | exact ⟨rfl, rfl⟩ | (exfalso; omega)
theorem bas_one {s : ByteArray} {k b j b' j' : Nat} (h : Bas s k b j) (h' : Bas s k b' j') : b = b' ∧ j = j' := by
  rcases h with ⟨a1, a2, a3, rfl, rfl⟩ | ⟨a, rfl, rfl⟩ <;> rcases h' with ⟨c1, c2, c3, rfl, rfl⟩ | ⟨c, rfl, rfl⟩
  · exact ⟨rfl, rfl⟩
  · exact absurd ⟨a1, a2, a3⟩ c
  · exact absurd ⟨c1, c2, c3⟩ a
  · exact ⟨rfl, rfl⟩
theorem frac_one {b : Nat} {s : ByteArray} {k j : Nat} {r r' : Option (ByteArray × Int × Nat)} (h : Frac b s k j r) (h' : Frac b s k j r') : r = r' := by
  rcases h with ⟨a, rfl⟩ | ⟨a, i, hi, h⟩ <;> rcases h' with ⟨c, rfl⟩ | ⟨c, i', hi', h'⟩
  · rfl
  · exact absurd c a
  · exact absurd a c
  · obtain rfl := run_one _ _ _ _ _ hi hi'
    rcases h with ⟨e, rfl⟩ | ⟨e, rfl⟩ <;> rcases h' with ⟨e', rfl⟩ | ⟨e', rfl⟩ <;> first | rfl | (exfalso; omega)
theorem expo_one {m : Int} {s : ByteArray} {j : Nat} {r r' : Sum (Int × Nat) Nat} (h : Expo m s j r) (h' : Expo m s j r') : r = r' := by
  rcases h with ⟨a, rfl⟩ | ⟨a, n, k, i, hs, hi, h⟩ <;> rcases h' with ⟨c, rfl⟩ | ⟨c, n', k', i', hs', hi', h'⟩
  · rfl
  · exact absurd c a
  · exact absurd a c
  · obtain ⟨rfl, rfl⟩ := sgn_one hs hs'
    obtain rfl := run_one _ _ _ _ _ hi hi'
    rcases h with ⟨e, rfl⟩ | ⟨e, rfl⟩ <;> rcases h' with ⟨e', rfl⟩ | ⟨e', rfl⟩ <;> first | rfl | (exfalso; omega)
theorem word_two (x : Int) (n n' : Bool) (h : x = wordC n 0) (h' : x = wordC n' 0) : n = n' := by
  cases n <;> cases n' <;> first | rfl | (exfalso; simp [wordC] at h h'; omega)
theorem word_not (x : Int) (n : Bool) (h : x = wordC n 0) (h1 : x ≠ 105) (h2 : x ≠ 110) : False := by
  cases n <;> simp [wordC] at h <;> omega
theorem readA_one {s : ByteArray} {ok ok' : Bool} {pl pl' : Int} {fl fl' : Nat → Prop} (h : ReadA s ok pl fl) (h' : ReadA s ok' pl' fl') : ok = ok' ∧ pl = pl' ∧ fl = fl' := by
  rcases h with ⟨hs, rfl, rfl, rfl⟩ | ⟨hs, neg, k, hg, h⟩ <;> rcases h' with ⟨hs', rfl, rfl, rfl⟩ | ⟨hs', neg', k', hg', h'⟩
  · exact ⟨rfl, rfl, rfl⟩
  · omega
  · omega
  obtain ⟨rfl, rfl⟩ := sgn_one hg hg'
  rcases h with ⟨nan, hw, i, hi, hm, h⟩ | ⟨n1, n2, b, k1, j, hb, hr, h⟩ <;> rcases h' with ⟨nan', hw', i', hi', hm', h'⟩ | ⟨n1', n2', b', k1', j', hb', hr', h'⟩
  · obtain rfl := word_two _ _ _ hw hw'
    have e : i = i' := by
      rcases Nat.lt_trichotomy i i' with hl | e | hl
      · exfalso
        have := hm' i hl
        rcases h with ⟨_, h, _⟩ | ⟨h, _⟩ | ⟨h, _⟩
        · exact h this
        · omega
        · omega
      · exact e
      · exfalso
        have := hm i' hl
        rcases h' with ⟨_, h, _⟩ | ⟨h, _⟩ | ⟨h, _⟩
        · exact h this
        · omega
        · omega
    subst e
    rcases h with ⟨a, _, rfl, rfl, rfl⟩ | ⟨a, c, rfl, rfl, rfl⟩ | ⟨a, c, rfl, rfl, rfl⟩ <;> rcases h' with ⟨a', _, rfl, rfl, rfl⟩ | ⟨a', c', rfl, rfl, rfl⟩ | ⟨a', c', rfl, rfl, rfl⟩ <;> first | exact ⟨rfl, rfl, rfl⟩ | (exfalso; omega)
  · exact (word_not _ _ hw n1' n2').elim
  · exact (word_not _ _ hw' n1 n2).elim
  · obtain ⟨rfl, rfl⟩ := bas_one hb hb'
    obtain rfl := run_one _ _ _ _ _ hr hr'
    rcases h with ⟨e, rfl, rfl, rfl⟩ | ⟨e, r, hf, h⟩ <;> rcases h' with ⟨e', rfl, rfl, rfl⟩ | ⟨e', r', hf', h'⟩
    · exact ⟨rfl, rfl, rfl⟩
    · omega
    · omega
    obtain rfl := frac_one hf hf'
    rcases h with ⟨rfl, rfl, rfl, rfl⟩ | ⟨ds, ex, i, x, hr1, hx, h⟩ <;> rcases h' with ⟨h2, rfl, rfl, rfl⟩ | ⟨ds', ex', i', x', hr2, hx', h'⟩
    · exact ⟨rfl, rfl, rfl⟩
    · cases hr2
    · rw [hr1] at h2; cases h2
    rw [hr1] at hr2
    obtain ⟨rfl, rfl, rfl⟩ : ds = ds' ∧ ex = ex' ∧ i = i' := by simpa using hr2
    obtain rfl := expo_one hx hx'
    rcases h with ⟨a, rfl, rfl, rfl, rfl⟩ | ⟨n, a, rfl, h⟩ <;> rcases h' with ⟨a', e', rfl, rfl, rfl⟩ | ⟨n', a', e', h'⟩
    · cases e'; exact ⟨rfl, rfl, rfl⟩
    · cases e'
    · cases e'
    · cases e'
      rcases h with ⟨a1, rfl, rfl, rfl⟩ | ⟨a1, rfl, rfl, rfl⟩ <;> rcases h' with ⟨a2, rfl, rfl, rfl⟩ | ⟨a2, rfl, rfl, rfl⟩ <;> first | exact ⟨rfl, rfl, rfl⟩ | exact absurd a1 a2 | exact absurd a2 a1
end Go.Proofs.YtdhcomkgofbphaaDoor

/- Floats held against each other, as the laws do it. -/
namespace Go.Proofs.YtdhcomkgofbphaaDoor
open Go.ChangeShapes Go.WideShapes Go.RowKit
open Ieee (double)

set_option maxHeartbeats 400000 in
theorem same_nan (x y : Nat) (hx : IsNan x) (hy : IsNan y) (w : World) :
    Calls Tryd.prog 18 #[.float .f64 x, .float .f64 y] w fun e w' => e = .returned (.bool true) ∧ w' = w := by
  have h1 : (FloatKind.f64.format.order x x != some .eq) = true := nan_neq x hx
  have h2 : (FloatKind.f64.format.order y y != some .eq) = true := nan_neq y hy
  go_enter Tryd.func18, Tryd.ntmps18
  go_wp2
  go_ret
  exact ⟨rfl, rfl⟩
set_option maxHeartbeats 400000 in
theorem same_inf (s : Bool) (w : World) :
    Calls Tryd.prog 18 #[.float .f64 (iw s), .float .f64 (iw s)] w fun e w' => e = .returned (.bool true) ∧ w' = w := by
  have hn : FloatKind.f64.format.order (iw s) (iw s) = some .eq := order_self_iw s
  have hz : FloatKind.f64.format.order (iw s) 0 = some (if s then .lt else .gt) := ord_inf_zero s
  cases s
  all_goals
    go_enter Tryd.func18, Tryd.ntmps18
    go_wp2
    go_ret
    exact ⟨rfl, rfl⟩
set_option maxHeartbeats 400000 in
theorem same_zero (s : Bool) (w : World) :
    Calls Tryd.prog 18 #[.float .f64 (signBit s), .float .f64 (signBit s)] w fun e w' => e = .returned (.bool true) ∧ w' = w := by
  have hn : FloatKind.f64.format.order (signBit s) (signBit s) = some .eq := by
    have := order_self_fw s 0 (-1074) canon_zero
    rw [fw_zero] at this
    exact this
  have hz : FloatKind.f64.format.order (signBit s) 0 = some .eq := ord_zeros s
  have hd := run_valid (P := Tryd.prog) .quo 22 _ _ _ (one_by_zero s)
  have hi : FloatKind.f64.format.order (iw s) 0 = some (if s then .lt else .gt) := ord_inf_zero s
  cases s
  all_goals
    go_enter Tryd.func18, Tryd.ntmps18
    go_wp2
    go_ret
    exact ⟨rfl, rfl⟩
set_option maxHeartbeats 400000 in
theorem same_number (s : Bool) (m : Nat) (p : Int) (hc : Canon m p) (h0 : 0 < m) (w : World) :
    Calls Tryd.prog 18 #[.float .f64 (fw s m p), .float .f64 (fw s m p)] w fun e w' => e = .returned (.bool true) ∧ w' = w := by
  have hn : FloatKind.f64.format.order (fw s m p) (fw s m p) = some .eq := order_self_fw s m p hc
  have hz : FloatKind.f64.format.order (fw s m p) 0 = some (if s then .lt else .gt) := ord_zero s m p (canon_rep m p hc) h0
  clear hc
  cases s
  all_goals
    go_enter Tryd.func18, Tryd.ntmps18
    go_wp2
    go_ret
    exact ⟨rfl, rfl⟩
/-- One float is the same as itself. -/
theorem same_self (x : Nat) (hx : x < 18446744073709551616) (w : World) :
    Calls Tryd.prog 18 #[.float .f64 x, .float .f64 x] w fun e w' => e = .returned (.bool true) ∧ w' = w := by
  rcases float_cases x hx with h | ⟨s, rfl⟩ | ⟨s, n, p, hc, rfl⟩
  · exact same_nan x x h h w
  · exact same_inf s w
  · by_cases h0 : n = 0
    · subst h0; rw [fw_zero]; exact same_zero s w
    · exact same_number s n p hc (by omega) w
end Go.Proofs.YtdhcomkgofbphaaDoor

/- The exact law of reading. -/
namespace Go.Proofs.YtdhcomkgofbphaaDoor
open Go.ChangeShapes Go.WideShapes Go.RowKit

attribute [local go_sem] run_store_float

theorem readA_fl {s : ByteArray} {ok : Bool} {pl : Int} {fl : Nat → Prop} (h : ReadA s ok pl fl) : fl = IsNan ∨ ∃ v, fl = (· = v) := by
  rcases h with ⟨_, _, _, rfl⟩ | ⟨_, neg, k, _, ⟨nan, _, i, _, _, ⟨_, _, _, _, rfl⟩ | ⟨_, _, _, _, rfl⟩ | ⟨_, _, _, _, rfl⟩⟩ | ⟨_, _, b, k1, j, _, _, ⟨_, _, _, rfl⟩ | ⟨_, r, _, ⟨_, _, _, rfl⟩ | ⟨ds, e, i, x, _, _, ⟨a, _, _, _, rfl⟩ | ⟨n, a, _, ⟨_, _, _, rfl⟩ | ⟨_, _, _, rfl⟩⟩⟩⟩⟩⟩
  · exact .inr ⟨_, rfl⟩
  · exact .inr ⟨_, rfl⟩
  · exact .inr ⟨_, rfl⟩
  · cases nan
    · exact .inr ⟨_, rfl⟩
    · exact .inl rfl
  · exact .inr ⟨_, rfl⟩
  · exact .inr ⟨_, rfl⟩
  · exact .inr ⟨_, rfl⟩
  · exact .inr ⟨_, rfl⟩
  · exact .inr ⟨_, rfl⟩
theorem same_fl {fl : Nat → Prop} (h : fl = IsNan ∨ ∃ v, fl = (· = v)) {x y : Nat} (hx : fl x) (hy : fl y) (hlx : x < 18446744073709551616) (w : World) :
    Calls Tryd.prog 18 #[.float .f64 x, .float .f64 y] w fun e w' => e = .returned (.bool true) ∧ w' = w := by
  rcases h with rfl | ⟨v, rfl⟩
  · exact same_nan x y hx hy w
  · have h1 : x = v := hx
    have h2 : y = v := hy
    rw [h2, ← h1]
    exact same_self x hlx w
set_option maxHeartbeats 400000 in
theorem eqRead_any (ok : Bool) (pl : Int) (x y : Nat) (w : World) (HS0 : ∀ w, Calls Tryd.prog 18 #[.float .f64 x, .float .f64 y] w fun e w' => e = .returned (.bool true) ∧ w' = w) :
    Calls Tryd.prog 6 #[.agg #[.bool ok, .int .i64 pl, .float .f64 x], .agg #[.bool ok, .int .i64 pl, .float .f64 y]] w fun e w' => e = .returned (.bool true) ∧ Below w.heap.size w w' := by
  have HS : Hid _ := HS0
  clear HS0
  cases ok
  all_goals
    go_enter Tryd.func6, Tryd.ntmps6
    go_wp2_with fail
    refine (HS.out _).mono ?_
    rintro e w2 ⟨rfl, rfl⟩
    go_wp2
    go_ret
    exact ⟨rfl, (by repeat (first | exact Below.refl _ _ | refine Below.drew ?_ | refine below_drewN ?_ _ | refine Below.alloc ?_ (by simp <;> omega) _))⟩
set_option maxHeartbeats 1000000 in
theorem lawRead_any (s : ByteArray) (w : World) (hg : Handle w) (hlt : 0 < w.heap.size) :
    Calls Tryd.prog 3 #[.string s] w fun e w' => e = .returned (.bool true) ∧ Below w.heap.size w w' := by
  by_cases hs : 1048576 < s.size
  · have hs' : (1048576 : Int) < (s.size : Int) := by omega
    go_enter Tryd.func3, Tryd.ntmps3
    go_wp2
    go_ret
    exact ⟨rfl, Below.refl _ _⟩
  · have hs' : (s.size : Int) ≤ 1048576 := by omega
    have HG : Hid (Handle w ∧ 0 < w.heap.size) := ⟨hg, hlt⟩
    have H1 : Hid _ := fun (_ : Unit) => specRead_any s w (by omega)
    clear hs hg hlt
    go_enter Tryd.func3, Tryd.ntmps3
    go_wp2_with fail
    refine (H1.out ()).mono ?_
    rintro e w1 ⟨ok, pl, fl, x, hra, hx, hlx, rfl, hb1⟩
    have hz := hb1.size
    have HG2 : Hid (Handle (w1.alloc (.cells #[.bool ok, .int .i64 pl, .float .f64 x] 24)) ∧ 0 < (w1.alloc (.cells #[.bool ok, .int .i64 pl, .float .f64 x] 24)).heap.size) := by
      obtain ⟨h1, h2⟩ := HG.out
      exact ⟨(h1.below h2 hb1).alloc (by omega) _, by simp <;> omega⟩
    have H2 : Hid _ := fun (_ : Unit) => implRead_of s _ (.inl HG2.out)
    have HB1 : Hid (Below w.heap.size w w1) := hb1
    have HQ : Hid (ReadA s ok pl fl ∧ fl x ∧ x < 18446744073709551616) := ⟨hra, hx, hlx⟩
    clear H1 HG hb1 hra hx hlx HG2
    go_wp2_with fail
    refine (H2.out ()).mono ?_
    rintro e w2 ⟨ok', pl', fl', y, hra, hy, hly, rfl, hb2⟩
    obtain ⟨hra1, hx, hlx⟩ := HQ.out
    obtain ⟨rfl, rfl, rfl⟩ := readA_one hra hra1
    have HE : Hid _ := fun (w : World) => eqRead_any ok' pl' y x w (fun w => same_fl (readA_fl hra) hy hx hly w)
    have hz2 : w1.heap.size < w2.heap.size := by have := hb2.size; simp at this; omega
    have c0 : w2.cell? ⟨w1.heap.size, 0, none⟩ = some (.bool ok') := by rw [hb2.cell (by simp)]; simp
    have c1 : w2.cell? ⟨w1.heap.size, 1, none⟩ = some (.int .i64 pl') := by rw [hb2.cell (by simp)]; simp
    have c2 : w2.cell? ⟨w1.heap.size, 2, none⟩ = some (.float .f64 x) := by rw [hb2.cell (by simp)]; simp
    have HB2 : Hid (Below w.heap.size w w2) := (HB1.out.alloc (by omega) _).trans (hb2.mono (by simp; omega))
    clear hra hra1 hx hlx hy hly hb2 HQ H2 HB1
    go_wp2_with fail
    refine (HE.out _).mono ?_
    rintro e w3 ⟨rfl, hb3⟩
    have HB3 : Hid (Below w.heap.size w w3) := (HB2.out.alloc (by omega) _).trans (hb3.mono (by simp; omega))
    clear hb3 HE
    go_wp2
    go_ret
    exact ⟨rfl, HB3.out⟩
end Go.Proofs.YtdhcomkgofbphaaDoor

