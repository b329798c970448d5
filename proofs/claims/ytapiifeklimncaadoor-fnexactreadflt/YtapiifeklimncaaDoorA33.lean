import Derived.Test.YtapiifeklimncaaDoorA32
import Derived.Deep.RegionWith
import Derived.Test.YtapiifeklimncaaDoorA08
import Derived.Test.YtapiifeklimncaaDoorA10
/- ReadFlt of the specification. -/
namespace Go.Proofs.YtapiifeklimncaaDoor
open Go.ChangeShapes Go.WideShapes Go.RowKit

attribute [local go_sem] run_store_float
set_option maxHeartbeats 8000000 in
set_option maxRecDepth 100000 in
theorem specRead_any (s : ByteArray) (w : World) (hl : s.size ≤ 9223372036854775807) :
    Calls Tryd.prog 4 #[.string s] w fun e w' => ReadQ s w e w' := by
  by_cases hbig : 1200 < s.size
  · have hbig' : (1200 : Int) < (s.size : Int) := by omega
    have HX : Hid (ReadA s false 1200 (· = 0)) := .inl ⟨hbig, rfl, rfl, rfl⟩
    have hB : Below w.heap.size w w := Below.refl _ _
    clear hbig
    go_enter Tryd.func4, Tryd.ntmps4
    go_wp2
    exact bodyPost_ret (v := .agg #[.bool false, .int .i64 1200, .float .f64 0]) (by simp [results, Tryd.results4, go_sem]) rfl ⟨false, _, _, 0, HX.out, rfl, by omega, rfl, (by repeat (first | exact hB | refine Below.drew ?_ | refine below_drewN ?_ _ | refine Below.setCell ?_ (by simp) _ | refine Below.alloc ?_ (by simp <;> omega) _))⟩
  · have hs : s.size ≤ 1300 := by omega
    have hs' : (s.size : Int) ≤ 1200 := by omega
    have hbig' : decide (1200 < (s.size : Int)) = false := decide_eq_false (by omega)
    go_enter Tryd.func4, Tryd.ntmps4
    go_upto_region 4 with fail
    have H0 : Hid _ := fun (_ : Unit) => St.start w s 24 30
    go_cut [4] from 15 (fun s4 wc => ∃ (t : Bool) (k : Nat), s4 = .bool t ∧ ((t = true ∧ Hid (Sgn s 0 true k)) ∨ (t = false ∧ k = 0 ∧ Hid (bAt s 0 ≠ 45))) ∧ Hid (St w wc s k))
    case first =>
      go_wp2_with fail
      refine (is_any _ _ s 0 45 (H0.out ()).2.1 hs (by omega)).mono ?_
      rintro x w1 ⟨t, k, ht, rfl, hr, ho⟩
      have H1 : Hid _ := fun (_ : Unit) => (H0.out ()).only ho hr
      clear hr ho
      go_wp2
      go_meet
      case rel =>
        refine ⟨t, k, rfl, ?_, H1.out ()⟩
        rcases ht with ⟨rfl, h1, h2, rfl⟩ | ⟨rfl, h1, rfl⟩
        · exact .inl ⟨rfl, .inl ⟨h1, h2, rfl, rfl⟩⟩
        · exact .inr ⟨rfl, rfl, h1⟩
    case rest =>
      obtain ⟨t, k, rfl, ht, H1⟩ := hcut
      clear H0
      go_upto_if 25 with fail
      go_cut [4] from 15 (fun s4 wc => ∃ (t : Bool) (k : Nat), s4 = .bool t ∧ Hid (Sgn s 0 t k) ∧ Hid (St w wc s k))
      case first =>
        rcases ht with ⟨rfl, HS⟩ | ⟨rfl, rfl, HS⟩
        · go_wp2
          go_meet
          case rel => exact ⟨true, k, rfl, HS.out, H1.out⟩
        · go_wp2_with fail
          refine (is_any _ _ s 0 43 H1.out.2.1 hs (by omega)).mono ?_
          rintro x w1 ⟨t, k, ht, rfl, hr, ho⟩
          have H2 : Hid _ := fun (_ : Unit) => H1.out.only ho hr
          have HG : Hid (Sgn s 0 false k) := by
            rcases ht with ⟨rfl, h1, h2, rfl⟩ | ⟨rfl, h1, rfl⟩
            · exact .inr (.inl ⟨h1, h2, rfl, rfl⟩)
            · exact .inr (.inr ⟨HS.out, h1, rfl, rfl⟩)
          clear hr ho ht
          go_wp2
          go_meet
          case rel => exact ⟨false, k, rfl, HG.out, H2.out ()⟩
      case rest =>
        clear H1 ht
        obtain ⟨neg, k, rfl, HG, H1⟩ := hcut
        go_upto_block 0 with fail
        have H2 : Hid _ := fun (_ : Unit) => H1.out.below ((Below.refl _ wc).alloc (Nat.le_refl _) (.cells #[.string ⟨#[105, 110, 102]⟩, .string ⟨#[110, 97, 110]⟩] 9))
        obtain ⟨V, hV⟩ : ∃ V : Nat, V = wc.heap.size := ⟨_, rfl⟩
        have HVR : Hid (w.heap.size + 1 < V) := by show _ < V; have := H1.out.2.2.1; omega
        have HWD : Hid _ := fun (_ : Unit) => And.intro (show (wc.alloc (.cells #[.string ⟨#[105, 110, 102]⟩, .string ⟨#[110, 97, 110]⟩] 9)).cell? ⟨V, 0, none⟩ = some (.string ⟨#[105, 110, 102]⟩) by rw [hV]; simp [go_sem]) (show (wc.alloc (.cells #[.string ⟨#[105, 110, 102]⟩, .string ⟨#[110, 97, 110]⟩] 9)).cell? ⟨V, 1, none⟩ = some (.string ⟨#[110, 97, 110]⟩) by rw [hV]; simp [go_sem])
        rw [← hV]
        clear hV
        generalize wc.alloc (.cells #[.string ⟨#[105, 110, 102]⟩, .string ⟨#[110, 97, 110]⟩] 9) = wd at *
        clear H1
        go_cut [6] from 15 (fun _ wx => Hid (St w wx s k) ∧ Hid (bAt s k ≠ 105 ∧ bAt s k ≠ 110))
        case first =>
          go_wp2_with fail
          go_loopw [30] (fun i wl => ∃ n : Nat, i = .int .i64 (n : Int) ∧ n ≤ 2 ∧ Hid (St w wl s k) ∧ Hid (wl.cell? ⟨V, 0, none⟩ = some (.string ⟨#[105, 110, 102]⟩) ∧ wl.cell? ⟨V, 1, none⟩ = some (.string ⟨#[110, 97, 110]⟩)) ∧ Hid ((1 ≤ n → bAt s k ≠ 105) ∧ (2 ≤ n → bAt s k ≠ 110))) (fun i _ => 2 - (intOf i).toNat)
          case atStart => exact ⟨0, rfl, by omega, H2.out (), HWD.out (), fun h => absurd h (by omega), fun h => absurd h (by omega)⟩
          case round =>
          obtain ⟨n, rfl, hn, HS, HC, HN⟩ := hrel
          rcases (show n = 0 ∨ n = 1 ∨ n = 2 by omega) with rfl | rfl | rfl
          · obtain ⟨q0, q1⟩ := HC.out
            obtain ⟨c0, c1, _⟩ := HS.out.2.1
            have HK : Hid _ := fun m => look_any (w.heap.size + 1) (World.drewN _ m) s k (HS.out.2.1.drewN m)
            by_cases hm : bAt s k = 105
            · have hk : (k : Int) < (s.size : Int) := by
                by_cases hk : k < s.size
                · omega
                · rw [bAt_out s k hk] at hm; omega
              rw [hm] at HK
              have HM : Hid (bAt s k = wordC false 0) := hm
              clear hm
              go_wp2
              go_quiet (first | (go_at_call 8; exact Calls.quiet_of (HK.out _)))
              go_wp2_with fail
              have hq : (((⟨#[105, 110, 102]⟩ : ByteArray)[0].toNat : Nat) : Int) = 105 := rfl
              simp only [hq, beq_self_eq_true]
              go_loopw [7] (fun i wl => ∃ n : Nat, i = .int .i64 (n : Int) ∧ n ≤ 3 ∧ Hid (St w wl s (k + n)) ∧ Hid (∀ t, t < n → bAt s (k + t) = wordC false t)) (fun i _ => 3 - (intOf i).toNat)
              case atStart => exact ⟨0, rfl, by omega, HS.out.drewN _, fun t ht => absurd ht (by omega)⟩
              case round =>
                clear c0 c1 q0 q1 HK
                obtain ⟨n, rfl, hn3, HT, HW1⟩ := hrel
                rcases (show n = 0 ∨ n = 1 ∨ n = 2 ∨ n = 3 by omega) with rfl | rfl | rfl | rfl
                · have H5 : Hid _ := fun (_ : Unit) => is_any (w.heap.size + 1) _ s (k + 0) 105 HT.out.2.1 hs (by omega)
                  go_wp2_with fail
                  refine (H5.out ()).mono ?_
                  rintro x w5 ⟨t, j5, ht5, rfl, hr5, ho5⟩
                  have H6 : Hid _ := fun (_ : Unit) => HT.out.only ho5 hr5
                  clear H5 hr5 ho5
                  rcases ht5 with ⟨rfl, h51, h52, hj5⟩ | ⟨rfl, h51, hj5⟩
                  · rw [hj5] at H6
                    clear hj5
                    have HW2 : Hid (∀ t, t < 0 + 1 → bAt s (k + t) = wordC false t) := fun t ht => by
                      rcases (show t < 0 ∨ t = 0 by omega) with h | rfl
                      · exact HW1.out t h
                      · exact h52
                    clear h52
                    go_wp2
                    go_roundw
                    case rel => exact ⟨1, rfl, by omega, H6.out (), HW2.out⟩
                    case measure => simp only [intOf]; omega
                  · rw [hj5] at H6
                    clear hj5
                    have HX : Hid (ReadA s false ((k + 0 : Nat) : Int) (· = 0)) := .inr ⟨by omega, neg, k, HG.out, .inl ⟨false, HM.out, 0, by omega, HW1.out, .inl ⟨by omega, h51, rfl, rfl, rfl⟩⟩⟩
                    obtain ⟨hB, ⟨e0, e1, _⟩, hz, r0, r1, r2, f0, f1, f2⟩ := H6.out ()
                    clear h51
                    go_wp2
                    exact bodyPost_ret (v := .agg #[.bool false, .int .i64 ((k + 0 : Nat) : Int), .float .f64 0]) (by simp [results, Tryd.results4, go_sem, r0, r1, r2]) rfl ⟨false, _, _, 0, HX.out, rfl, by omega, rfl, (by repeat (first | exact hB | refine Below.drew ?_ | refine below_drewN ?_ _ | refine Below.setCell ?_ (by simp) _ | refine Below.alloc ?_ (by simp <;> omega) _))⟩
                · have H5 : Hid _ := fun (_ : Unit) => is_any (w.heap.size + 1) _ s (k + 1) 110 HT.out.2.1 hs (by omega)
                  go_wp2_with fail
                  refine (H5.out ()).mono ?_
                  rintro x w5 ⟨t, j5, ht5, rfl, hr5, ho5⟩
                  have H6 : Hid _ := fun (_ : Unit) => HT.out.only ho5 hr5
                  clear H5 hr5 ho5
                  rcases ht5 with ⟨rfl, h51, h52, hj5⟩ | ⟨rfl, h51, hj5⟩
                  · rw [hj5] at H6
                    clear hj5
                    have HW2 : Hid (∀ t, t < 1 + 1 → bAt s (k + t) = wordC false t) := fun t ht => by
                      rcases (show t < 1 ∨ t = 1 by omega) with h | rfl
                      · exact HW1.out t h
                      · exact h52
                    clear h52
                    go_wp2
                    go_roundw
                    case rel => exact ⟨2, rfl, by omega, H6.out (), HW2.out⟩
                    case measure => simp only [intOf]; omega
                  · rw [hj5] at H6
                    clear hj5
                    have HX : Hid (ReadA s false ((k + 1 : Nat) : Int) (· = 0)) := .inr ⟨by omega, neg, k, HG.out, .inl ⟨false, HM.out, 1, by omega, HW1.out, .inl ⟨by omega, h51, rfl, rfl, rfl⟩⟩⟩
                    obtain ⟨hB, ⟨e0, e1, _⟩, hz, r0, r1, r2, f0, f1, f2⟩ := H6.out ()
                    clear h51
                    go_wp2
                    exact bodyPost_ret (v := .agg #[.bool false, .int .i64 ((k + 1 : Nat) : Int), .float .f64 0]) (by simp [results, Tryd.results4, go_sem, r0, r1, r2]) rfl ⟨false, _, _, 0, HX.out, rfl, by omega, rfl, (by repeat (first | exact hB | refine Below.drew ?_ | refine below_drewN ?_ _ | refine Below.setCell ?_ (by simp) _ | refine Below.alloc ?_ (by simp <;> omega) _))⟩
                · have H5 : Hid _ := fun (_ : Unit) => is_any (w.heap.size + 1) _ s (k + 2) 102 HT.out.2.1 hs (by omega)
                  go_wp2_with fail
                  refine (H5.out ()).mono ?_
                  rintro x w5 ⟨t, j5, ht5, rfl, hr5, ho5⟩
                  have H6 : Hid _ := fun (_ : Unit) => HT.out.only ho5 hr5
                  clear H5 hr5 ho5
                  rcases ht5 with ⟨rfl, h51, h52, hj5⟩ | ⟨rfl, h51, hj5⟩
                  · rw [hj5] at H6
                    clear hj5
                    have HW2 : Hid (∀ t, t < 2 + 1 → bAt s (k + t) = wordC false t) := fun t ht => by
                      rcases (show t < 2 ∨ t = 2 by omega) with h | rfl
                      · exact HW1.out t h
                      · exact h52
                    clear h52
                    go_wp2
                    go_roundw
                    case rel => exact ⟨3, rfl, by omega, H6.out (), HW2.out⟩
                    case measure => simp only [intOf]; omega
                  · rw [hj5] at H6
                    clear hj5
                    have HX : Hid (ReadA s false ((k + 2 : Nat) : Int) (· = 0)) := .inr ⟨by omega, neg, k, HG.out, .inl ⟨false, HM.out, 2, by omega, HW1.out, .inl ⟨by omega, h51, rfl, rfl, rfl⟩⟩⟩
                    obtain ⟨hB, ⟨e0, e1, _⟩, hz, r0, r1, r2, f0, f1, f2⟩ := H6.out ()
                    clear h51
                    go_wp2
                    exact bodyPost_ret (v := .agg #[.bool false, .int .i64 ((k + 2 : Nat) : Int), .float .f64 0]) (by simp [results, Tryd.results4, go_sem, r0, r1, r2]) rfl ⟨false, _, _, 0, HX.out, rfl, by omega, rfl, (by repeat (first | exact hB | refine Below.drew ?_ | refine below_drewN ?_ _ | refine Below.setCell ?_ (by simp) _ | refine Below.alloc ?_ (by simp <;> omega) _))⟩
                · obtain ⟨hB, ⟨e0, e1, _⟩, hz, r0, r1, r2, f0, f1, f2⟩ := HT.out
                  by_cases hend : k + 3 < s.size
                  · have hend' : (k : Int) + 3 < (s.size : Int) := by omega
                    have HX : Hid (ReadA s false ((k + 3 : Nat) : Int) (· = 0)) := .inr ⟨by omega, neg, k, HG.out, .inl ⟨false, HM.out, 3, by omega, HW1.out, .inr (.inl ⟨rfl, hend, rfl, rfl, rfl⟩)⟩⟩
                    clear hend
                    go_wp2
                    exact bodyPost_ret (v := .agg #[.bool false, .int .i64 ((k + 3 : Nat) : Int), .float .f64 0]) (by simp [results, Tryd.results4, go_sem, r0, r1, r2]) rfl ⟨false, _, _, 0, HX.out, rfl, by omega, rfl, (by repeat (first | exact hB | refine Below.drew ?_ | refine below_drewN ?_ _ | refine Below.setCell ?_ (by simp) _ | refine Below.alloc ?_ (by simp <;> omega) _))⟩
                  · have hend' : decide ((k : Int) + 3 < (s.size : Int)) = false := decide_eq_false (by omega)
                    have HX : Hid (ReadA s true 0 (· = iw neg)) := .inr ⟨by omega, neg, k, HG.out, .inl ⟨false, HM.out, 3, by omega, HW1.out, .inr (.inr ⟨rfl, hend, rfl, rfl, rfl⟩)⟩⟩
                    clear hend
                    go_wp2_with (first | (go_at_call 11; refine (l2inf_any _).mono ?_; rintro e w' ⟨rfl, rfl⟩) | (go_at_call 10; refine (l2signed_iw _ _).mono ?_; rintro e w' ⟨rfl, rfl⟩))
                    exact bodyPost_ret (v := .agg #[.bool true, .int .i64 0, .float .f64 (iw neg)]) (by simp [results, Tryd.results4, go_sem, r0, r1, r2]) rfl ⟨true, _, _, iw neg, HX.out, rfl, by cases neg <;> decide, rfl, (by repeat (first | exact hB | refine Below.drew ?_ | refine below_drewN ?_ _ | refine Below.setCell ?_ (by simp) _ | refine Below.alloc ?_ (by simp <;> omega) _))⟩
            · have hmb : (bAt s k == (((⟨#[105, 110, 102]⟩ : ByteArray)[0].toNat : Nat) : Int)) = false := beq_eq_false_iff_ne.2 hm
              have HM : Hid (bAt s k ≠ 105) := hm
              clear hm
              go_wp2
              go_quiet (first | (go_at_call 8; exact Calls.quiet_of (HK.out _)))
              go_wp2
              go_roundw
              case rel => exact ⟨1, rfl, by omega, HS.out.drewN _, HC.out, fun _ => HM.out, fun h => absurd h (by omega)⟩
              case measure => simp only [intOf]; omega
          · obtain ⟨q0, q1⟩ := HC.out
            obtain ⟨c0, c1, _⟩ := HS.out.2.1
            have HK : Hid _ := fun m => look_any (w.heap.size + 1) (World.drewN _ m) s k (HS.out.2.1.drewN m)
            by_cases hm : bAt s k = 110
            · have hk : (k : Int) < (s.size : Int) := by
                by_cases hk : k < s.size
                · omega
                · rw [bAt_out s k hk] at hm; omega
              rw [hm] at HK
              have HM : Hid (bAt s k = wordC true 0) := hm
              clear hm
              go_wp2
              go_quiet (first | (go_at_call 8; exact Calls.quiet_of (HK.out _)))
              go_wp2_with fail
              have hq : (((⟨#[110, 97, 110]⟩ : ByteArray)[0].toNat : Nat) : Int) = 110 := rfl
              simp only [hq, beq_self_eq_true]
              go_loopw [7] (fun i wl => ∃ n : Nat, i = .int .i64 (n : Int) ∧ n ≤ 3 ∧ Hid (St w wl s (k + n)) ∧ Hid (∀ t, t < n → bAt s (k + t) = wordC true t)) (fun i _ => 3 - (intOf i).toNat)
              case atStart => exact ⟨0, rfl, by omega, HS.out.drewN _, fun t ht => absurd ht (by omega)⟩
              case round =>
                clear c0 c1 q0 q1 HK
                obtain ⟨n, rfl, hn3, HT, HW1⟩ := hrel
                rcases (show n = 0 ∨ n = 1 ∨ n = 2 ∨ n = 3 by omega) with rfl | rfl | rfl | rfl
                · have H5 : Hid _ := fun (_ : Unit) => is_any (w.heap.size + 1) _ s (k + 0) 110 HT.out.2.1 hs (by omega)
                  go_wp2_with fail
                  refine (H5.out ()).mono ?_
                  rintro x w5 ⟨t, j5, ht5, rfl, hr5, ho5⟩
                  have H6 : Hid _ := fun (_ : Unit) => HT.out.only ho5 hr5
                  clear H5 hr5 ho5
                  rcases ht5 with ⟨rfl, h51, h52, hj5⟩ | ⟨rfl, h51, hj5⟩
                  · rw [hj5] at H6
                    clear hj5
                    have HW2 : Hid (∀ t, t < 0 + 1 → bAt s (k + t) = wordC true t) := fun t ht => by
                      rcases (show t < 0 ∨ t = 0 by omega) with h | rfl
                      · exact HW1.out t h
                      · exact h52
                    clear h52
                    go_wp2
                    go_roundw
                    case rel => exact ⟨1, rfl, by omega, H6.out (), HW2.out⟩
                    case measure => simp only [intOf]; omega
                  · rw [hj5] at H6
                    clear hj5
                    have HX : Hid (ReadA s false ((k + 0 : Nat) : Int) (· = 0)) := .inr ⟨by omega, neg, k, HG.out, .inl ⟨true, HM.out, 0, by omega, HW1.out, .inl ⟨by omega, h51, rfl, rfl, rfl⟩⟩⟩
                    obtain ⟨hB, ⟨e0, e1, _⟩, hz, r0, r1, r2, f0, f1, f2⟩ := H6.out ()
                    clear h51
                    go_wp2
                    exact bodyPost_ret (v := .agg #[.bool false, .int .i64 ((k + 0 : Nat) : Int), .float .f64 0]) (by simp [results, Tryd.results4, go_sem, r0, r1, r2]) rfl ⟨false, _, _, 0, HX.out, rfl, by omega, rfl, (by repeat (first | exact hB | refine Below.drew ?_ | refine below_drewN ?_ _ | refine Below.setCell ?_ (by simp) _ | refine Below.alloc ?_ (by simp <;> omega) _))⟩
                · have H5 : Hid _ := fun (_ : Unit) => is_any (w.heap.size + 1) _ s (k + 1) 97 HT.out.2.1 hs (by omega)
                  go_wp2_with fail
                  refine (H5.out ()).mono ?_
                  rintro x w5 ⟨t, j5, ht5, rfl, hr5, ho5⟩
                  have H6 : Hid _ := fun (_ : Unit) => HT.out.only ho5 hr5
                  clear H5 hr5 ho5
                  rcases ht5 with ⟨rfl, h51, h52, hj5⟩ | ⟨rfl, h51, hj5⟩
                  · rw [hj5] at H6
                    clear hj5
                    have HW2 : Hid (∀ t, t < 1 + 1 → bAt s (k + t) = wordC true t) := fun t ht => by
                      rcases (show t < 1 ∨ t = 1 by omega) with h | rfl
                      · exact HW1.out t h
                      · exact h52
                    clear h52
                    go_wp2
                    go_roundw
                    case rel => exact ⟨2, rfl, by omega, H6.out (), HW2.out⟩
                    case measure => simp only [intOf]; omega
                  · rw [hj5] at H6
                    clear hj5
                    have HX : Hid (ReadA s false ((k + 1 : Nat) : Int) (· = 0)) := .inr ⟨by omega, neg, k, HG.out, .inl ⟨true, HM.out, 1, by omega, HW1.out, .inl ⟨by omega, h51, rfl, rfl, rfl⟩⟩⟩
                    obtain ⟨hB, ⟨e0, e1, _⟩, hz, r0, r1, r2, f0, f1, f2⟩ := H6.out ()
                    clear h51
                    go_wp2
                    exact bodyPost_ret (v := .agg #[.bool false, .int .i64 ((k + 1 : Nat) : Int), .float .f64 0]) (by simp [results, Tryd.results4, go_sem, r0, r1, r2]) rfl ⟨false, _, _, 0, HX.out, rfl, by omega, rfl, (by repeat (first | exact hB | refine Below.drew ?_ | refine below_drewN ?_ _ | refine Below.setCell ?_ (by simp) _ | refine Below.alloc ?_ (by simp <;> omega) _))⟩
                · have H5 : Hid _ := fun (_ : Unit) => is_any (w.heap.size + 1) _ s (k + 2) 110 HT.out.2.1 hs (by omega)
                  go_wp2_with fail
                  refine (H5.out ()).mono ?_
                  rintro x w5 ⟨t, j5, ht5, rfl, hr5, ho5⟩
                  have H6 : Hid _ := fun (_ : Unit) => HT.out.only ho5 hr5
                  clear H5 hr5 ho5
                  rcases ht5 with ⟨rfl, h51, h52, hj5⟩ | ⟨rfl, h51, hj5⟩
                  · rw [hj5] at H6
                    clear hj5
                    have HW2 : Hid (∀ t, t < 2 + 1 → bAt s (k + t) = wordC true t) := fun t ht => by
                      rcases (show t < 2 ∨ t = 2 by omega) with h | rfl
                      · exact HW1.out t h
                      · exact h52
                    clear h52
                    go_wp2
                    go_roundw
                    case rel => exact ⟨3, rfl, by omega, H6.out (), HW2.out⟩
                    case measure => simp only [intOf]; omega
                  · rw [hj5] at H6
                    clear hj5
                    have HX : Hid (ReadA s false ((k + 2 : Nat) : Int) (· = 0)) := .inr ⟨by omega, neg, k, HG.out, .inl ⟨true, HM.out, 2, by omega, HW1.out, .inl ⟨by omega, h51, rfl, rfl, rfl⟩⟩⟩
                    obtain ⟨hB, ⟨e0, e1, _⟩, hz, r0, r1, r2, f0, f1, f2⟩ := H6.out ()
                    clear h51
                    go_wp2
                    exact bodyPost_ret (v := .agg #[.bool false, .int .i64 ((k + 2 : Nat) : Int), .float .f64 0]) (by simp [results, Tryd.results4, go_sem, r0, r1, r2]) rfl ⟨false, _, _, 0, HX.out, rfl, by omega, rfl, (by repeat (first | exact hB | refine Below.drew ?_ | refine below_drewN ?_ _ | refine Below.setCell ?_ (by simp) _ | refine Below.alloc ?_ (by simp <;> omega) _))⟩
                · obtain ⟨hB, ⟨e0, e1, _⟩, hz, r0, r1, r2, f0, f1, f2⟩ := HT.out
                  by_cases hend : k + 3 < s.size
                  · have hend' : (k : Int) + 3 < (s.size : Int) := by omega
                    have HX : Hid (ReadA s false ((k + 3 : Nat) : Int) (· = 0)) := .inr ⟨by omega, neg, k, HG.out, .inl ⟨true, HM.out, 3, by omega, HW1.out, .inr (.inl ⟨rfl, hend, rfl, rfl, rfl⟩)⟩⟩
                    clear hend
                    go_wp2
                    exact bodyPost_ret (v := .agg #[.bool false, .int .i64 ((k + 3 : Nat) : Int), .float .f64 0]) (by simp [results, Tryd.results4, go_sem, r0, r1, r2]) rfl ⟨false, _, _, 0, HX.out, rfl, by omega, rfl, (by repeat (first | exact hB | refine Below.drew ?_ | refine below_drewN ?_ _ | refine Below.setCell ?_ (by simp) _ | refine Below.alloc ?_ (by simp <;> omega) _))⟩
                  · have hend' : decide ((k : Int) + 3 < (s.size : Int)) = false := decide_eq_false (by omega)
                    have HX : Hid (ReadA s true 0 IsNan) := .inr ⟨by omega, neg, k, HG.out, .inl ⟨true, HM.out, 3, by omega, HW1.out, .inr (.inr ⟨rfl, hend, rfl, rfl, rfl⟩)⟩⟩
                    clear hend
                    go_wp2_with (go_at_call 9; refine (l2nan_any _).mono ?_; rintro e w' ⟨nb, hnb, hbl, rfl, rfl⟩)
                    exact bodyPost_ret (v := .agg #[.bool true, .int .i64 0, .float .f64 nb]) (by simp [results, Tryd.results4, go_sem, r0, r1, r2]) rfl ⟨true, _, _, nb, HX.out, hnb, hbl, rfl, (by repeat (first | exact hB | refine Below.drew ?_ | refine below_drewN ?_ _ | refine Below.setCell ?_ (by simp) _ | refine Below.alloc ?_ (by simp <;> omega) _))⟩
            · have hmb : (bAt s k == (((⟨#[110, 97, 110]⟩ : ByteArray)[0].toNat : Nat) : Int)) = false := beq_eq_false_iff_ne.2 hm
              have HM : Hid (bAt s k ≠ 110) := hm
              clear hm
              go_wp2
              go_quiet (first | (go_at_call 8; exact Calls.quiet_of (HK.out _)))
              go_wp2
              go_roundw
              case rel => exact ⟨2, rfl, by omega, HS.out.drewN _, HC.out, HN.out.1 ∘ (fun _ => by omega), fun _ => HM.out⟩
              case measure => simp only [intOf]; omega
          · go_wp2
            go_meet
            case rel => exact ⟨HS.out, HN.out.1 (by omega), HN.out.2 (by omega)⟩
        case rest =>
          obtain ⟨H3, HNW⟩ := hcut
          refine (‹∀ (a : Act) (w : World), Code.wp Tryd.prog _ _ a w → _› _ _ ?_)
          exact readMid s w neg k _ _ _ _ _ _ _ _ _ _ _ _ _ _ _ _ _ _ _ _ _ _ _ _ _ _ _ _ _ _ _ _ _ _ _ _ _ _ _ _ _ _ _ _ _ _ _ _ _ _ _ _ _ _ _ _ _ _ _ _ _ _ _ _ _ _ _ _ _ _ _ _ _ _ _ _ _ _ _ _ _ _ _ _ _ _ _ _ _ _ _ _ _ _ _ _ _ _ _ _ _ _ _ _ _ _ _ _ _ _ _ _ _ _ _ _ _ _ _ _ _ _ _ _ _ _ _ _ _ _ _ _ _ _ _ _ _ _ _ _ _ _ _ _ _ _ _ _ _ _ _ _ _ _ _ _ _ _ _ _ _ _ _ _ _ _ _ _ _ _ _ _ _ _ _ _ _ _ _ _ _ _ _ _ _ _ _ _ _ hbig hs HG H3 HNW
end Go.Proofs.YtapiifeklimncaaDoor

/- What reading answers is one thing alone: plain. -/
namespace Go.Proofs.YtapiifeklimncaaDoor
open Go.RowKit

theorem sgn_one {s : ByteArray} {k j j' : Nat} {n n' : Bool} (h : Sgn s k n j) (h' : Sgn s k n' j') : n = n' ∧ j = j' := by
  rcases h with ⟨_, a, rfl, rfl⟩ | ⟨_, a, rfl, rfl⟩ | ⟨a, b, rfl, rfl⟩ <;> rcases h' with ⟨_, c, rfl, rfl⟩ | ⟨_, c, rfl, rfl⟩ | ⟨c, d, rfl, rfl⟩ <;> first | exact ⟨rfl, rfl⟩ | (exfalso; omega)
theorem bas_one {s : ByteArray} {k b j b' j' : Nat} (h : Bas s k b j) (h' : Bas s k b' j') : b = b' ∧ j = j' := by
  rcases h with ⟨a1, a2, a3, rfl, rfl⟩ | ⟨a, rfl, rfl⟩ <;> rcases h' with ⟨c1, c2, c3, rfl, rfl⟩ | ⟨c, rfl, rfl⟩
  · exact ⟨rfl, rfl⟩
  · exact absurd ⟨a1, a2, a3⟩ c
  · exact absurd ⟨c1, c2, c3⟩ a
  · exact ⟨rfl, rfl⟩
theorem frac_one {b : Nat} {s : ByteArray} {k j : Nat} {r r' : Option (ByteArray × Int × Nat)} (h : Frac b s k j r) (h' : Frac b s k j r') : r = r' := by
  rcases h with ⟨a, rfl⟩ | ⟨a, i, hi, h⟩ <;> rcases h' with ⟨c, rfl⟩ | ⟨c, i', hi', h'⟩
  · rfl
  · exact absurd c a
  · exact absurd a c
  · obtain rfl := run_one _ _ _ _ _ hi hi'
    rcases h with ⟨e, rfl⟩ | ⟨e, rfl⟩ <;> rcases h' with ⟨e', rfl⟩ | ⟨e', rfl⟩ <;> first | rfl | (exfalso; omega)
theorem expo_one {m : Int} {s : ByteArray} {j : Nat} {r r' : Sum (Int × Nat) Nat} (h : Expo m s j r) (h' : Expo m s j r') : r = r' := by
  rcases h with ⟨a, rfl⟩ | ⟨a, n, k, i, hs, hi, h⟩ <;> rcases h' with ⟨c, rfl⟩ | ⟨c, n', k', i', hs', hi', h'⟩
  · rfl
  · exact absurd c a
  · exact absurd a c
  · obtain ⟨rfl, rfl⟩ := sgn_one hs hs'
    obtain rfl := run_one _ _ _ _ _ hi hi'
    rcases h with ⟨e, rfl⟩ | ⟨e, rfl⟩ <;> rcases h' with ⟨e', rfl⟩ | ⟨e', rfl⟩ <;> first | rfl | (exfalso; omega)
theorem word_two (x : Int) (n n' : Bool) (h : x = wordC n 0) (h' : x = wordC n' 0) : n = n' := by
  cases n <;> cases n' <;> first | rfl | (exfalso; simp [wordC] at h h'; omega)
theorem word_not (x : Int) (n : Bool) (h : x = wordC n 0) (h1 : x ≠ 105) (h2 : x ≠ 110) : False := by
  cases n <;> simp [wordC] at h <;> omega
theorem readA_one {s : ByteArray} {ok ok' : Bool} {pl pl' : Int} {fl fl' : Nat → Prop} (h : ReadA s ok pl fl) (h' : ReadA s ok' pl' fl') : ok = ok' ∧ pl = pl' ∧ fl = fl' := by
  rcases h with ⟨hs, rfl, rfl, rfl⟩ | ⟨hs, neg, k, hg, h⟩ <;> rcases h' with ⟨hs', rfl, rfl, rfl⟩ | ⟨hs', neg', k', hg', h'⟩
  · exact ⟨rfl, rfl, rfl⟩
  · omega
  · omega
  obtain ⟨rfl, rfl⟩ := sgn_one hg hg'
  rcases h with ⟨nan, hw, i, hi, hm, h⟩ | ⟨n1, n2, b, k1, j, hb, hr, h⟩ <;> rcases h' with ⟨nan', hw', i', hi', hm', h'⟩ | ⟨n1', n2', b', k1', j', hb', hr', h'⟩
  · obtain rfl := word_two _ _ _ hw hw'
    have e : i = i' := by
      rcases Nat.lt_trichotomy i i' with hl | e | hl
      · exfalso
        have := hm' i hl
        rcases h with ⟨_, h, _⟩ | ⟨h, _⟩ | ⟨h, _⟩
        · exact h this
        · omega
        · omega
      · exact e
      · exfalso
        have := hm i' hl
        rcases h' with ⟨_, h, _⟩ | ⟨h, _⟩ | ⟨h, _⟩
        · exact h this
        · omega
        · omega
    subst e
    rcases h with ⟨a, _, rfl, rfl, rfl⟩ | ⟨a, c, rfl, rfl, rfl⟩ | ⟨a, c, rfl, rfl, rfl⟩ <;> rcases h' with ⟨a', _, rfl, rfl, rfl⟩ | ⟨a', c', rfl, rfl, rfl⟩ | ⟨a', c', rfl, rfl, rfl⟩ <;> first | exact ⟨rfl, rfl, rfl⟩ | (exfalso; omega)
  · exact (word_not _ _ hw n1' n2').elim
  · exact (word_not _ _ hw' n1 n2).elim
  · obtain ⟨rfl, rfl⟩ := bas_one hb hb'
    obtain rfl := run_one _ _ _ _ _ hr hr'
    rcases h with ⟨e, rfl, rfl, rfl⟩ | ⟨e, r, hf, h⟩ <;> rcases h' with ⟨e', rfl, rfl, rfl⟩ | ⟨e', r', hf', h'⟩
    · exact ⟨rfl, rfl, rfl⟩
    · omega
    · omega
    obtain rfl := frac_one hf hf'
    rcases h with ⟨rfl, rfl, rfl, rfl⟩ | ⟨ds, ex, i, x, hr1, hx, h⟩ <;> rcases h' with ⟨h2, rfl, rfl, rfl⟩ | ⟨ds', ex', i', x', hr2, hx', h'⟩
    · exact ⟨rfl, rfl, rfl⟩
    · cases hr2
    · rw [hr1] at h2; cases h2
    rw [hr1] at hr2
    obtain ⟨rfl, rfl, rfl⟩ : ds = ds' ∧ ex = ex' ∧ i = i' := by simpa using hr2
    obtain rfl := expo_one hx hx'
    rcases h with ⟨a, rfl, rfl, rfl, rfl⟩ | ⟨n, a, rfl, h⟩ <;> rcases h' with ⟨a', e', rfl, rfl, rfl⟩ | ⟨n', a', e', h'⟩
    · cases e'; exact ⟨rfl, rfl, rfl⟩
    · cases e'
    · cases e'
    · cases e'
      rcases h with ⟨a1, rfl, rfl, rfl⟩ | ⟨a1, rfl, rfl, rfl⟩ <;> rcases h' with ⟨a2, rfl, rfl, rfl⟩ | ⟨a2, rfl, rfl, rfl⟩ <;> first | exact ⟨rfl, rfl, rfl⟩ | exact absurd a1 a2 | exact absurd a2 a1
end Go.Proofs.YtapiifeklimncaaDoor

/- Floats held against each other, as the laws do it. -/
namespace Go.Proofs.YtapiifeklimncaaDoor
open Go.ChangeShapes Go.WideShapes Go.RowKit
open Ieee (double)

set_option maxHeartbeats 400000 in
theorem same_nan (x y : Nat) (hx : IsNan x) (hy : IsNan y) (w : World) :
    Calls Tryd.prog 18 #[.float .f64 x, .float .f64 y] w fun e w' => e = .returned (.bool true) ∧ w' = w := by
  have h1 : (FloatKind.f64.format.order x x != some .eq) = true := nan_neq x hx
  have h2 : (FloatKind.f64.format.order y y != some .eq) = true := nan_neq y hy
  go_enter Tryd.func18, Tryd.ntmps18
  go_wp2
  go_ret
  exact ⟨rfl, rfl⟩
set_option maxHeartbeats 400000 in
theorem same_inf (s : Bool) (w : World) :
    Calls Tryd.prog 18 #[.float .f64 (iw s), .float .f64 (iw s)] w fun e w' => e = .returned (.bool true) ∧ w' = w := by
  have hn : FloatKind.f64.format.order (iw s) (iw s) = some .eq := order_self_iw s
  have hz : FloatKind.f64.format.order (iw s) 0 = some (if s then .lt else .gt) := ord_inf_zero s
  cases s
  all_goals
    go_enter Tryd.func18, Tryd.ntmps18
    go_wp2
    go_ret
    exact ⟨rfl, rfl⟩
set_option maxHeartbeats 400000 in
theorem same_zero (s : Bool) (w : World) :
    Calls Tryd.prog 18 #[.float .f64 (signBit s), .float .f64 (signBit s)] w fun e w' => e = .returned (.bool true) ∧ w' = w := by
  have hn : FloatKind.f64.format.order (signBit s) (signBit s) = some .eq := by
    have := order_self_fw s 0 (-1074) canon_zero
    rw [fw_zero] at this
    exact this
  have hz : FloatKind.f64.format.order (signBit s) 0 = some .eq := ord_zeros s
  have hd := run_valid (P := Tryd.prog) .quo 22 _ _ _ (one_by_zero s)
  have hi : FloatKind.f64.format.order (iw s) 0 = some (if s then .lt else .gt) := ord_inf_zero s
  cases s
  all_goals
    go_enter Tryd.func18, Tryd.ntmps18
    go_wp2
    go_ret
    exact ⟨rfl, rfl⟩
set_option maxHeartbeats 400000 in
theorem same_number (s : Bool) (m : Nat) (p : Int) (hc : Canon m p) (h0 : 0 < m) (w : World) :
    Calls Tryd.prog 18 #[.float .f64 (fw s m p), .float .f64 (fw s m p)] w fun e w' => e = .returned (.bool true) ∧ w' = w := by
  have hn : FloatKind.f64.format.order (fw s m p) (fw s m p) = some .eq := order_self_fw s m p hc
  have hz : FloatKind.f64.format.order (fw s m p) 0 = some (if s then .lt else .gt) := ord_zero s m p (canon_rep m p hc) h0
  clear hc
  cases s
  all_goals
    go_enter Tryd.func18, Tryd.ntmps18
    go_wp2
    go_ret
    exact ⟨rfl, rfl⟩
/-- One float is the same as itself. -/
theorem same_self (x : Nat) (hx : x < 18446744073709551616) (w : World) :
    Calls Tryd.prog 18 #[.float .f64 x, .float .f64 x] w fun e w' => e = .returned (.bool true) ∧ w' = w := by
  rcases float_cases x hx with h | ⟨s, rfl⟩ | ⟨s, n, p, hc, rfl⟩
  · exact same_nan x x h h w
  · exact same_inf s w
  · by_cases h0 : n = 0
    · subst h0; rw [fw_zero]; exact same_zero s w
    · exact same_number s n p hc (by omega) w
end Go.Proofs.YtapiifeklimncaaDoor

