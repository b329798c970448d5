import Derived.Test.YtoedefjngipeiaaGreatDoorA40
import Derived.Test.YtoedefjngipeiaaGreatDoorA36
import Derived.Test.YtoedefjngipeiaaGreatDoorA41
import Derived.Test.YtoedefjngipeiaaGreatDoorA44
/- largeOf, raise of the program's numbers. -/
namespace Go.Proofs.YtoedefjngipeiaaGreatDoor
open Go.ChangeShapes Go.WideShapes Go.RowKit

set_option maxHeartbeats 1000000 in
set_option maxRecDepth 100000 in
theorem raise_any (B N F T : Nat) (R : List Value) (t : TypeId) (w : World) (h : Lg w B N R t) (hF1 : 1 ≤ F) (hF : F ≤ 16) (hT : T ≤ 4000) (hN : N * F ^ T < be ^ 151) :
    Calls Tryz.prog 103 #[.pointer (some ⟨B, 0, none⟩), .int .u64 (F : Int), .int .i64 (T : Int)] w fun e w' => e = .returned (.tuple #[]) ∧ Mod B w w' ∧ Lg w' B (N * F ^ T) R t := by
  have HL : Hid (Lg w B N R t) := h
  have HN : Hid (N * F ^ T < be ^ 151) := hN
  clear h hN
  go_enter Tryz.func103, Tryz.ntmps103
  go_wp2
  go_loopw [7] (fun iv wl => ∃ i : Nat, iv = .int .i64 (i : Int) ∧ i ≤ T ∧ Hid (Lg wl B (N * F ^ i) R t) ∧ Hid (Mod B w wl)) (fun iv _ => T - (intOf iv).toNat)
  case atStart => exact ⟨0, rfl, Nat.zero_le _, by show Lg w B (N * F ^ 0) R t; rw [Nat.pow_zero, Nat.mul_one]; exact HL.out, Mod.refl B w⟩
  case round =>
    obtain ⟨i, rfl, hi, HG, HMd⟩ := hrel
    by_cases hlt : i < T
    · have hlt' : (i : Int) < (T : Int) := by omega
      have hbd : N * F ^ i * F + 0 < be ^ 151 := by
        have h1 : F ^ (i + 1) ≤ F ^ T := Nat.pow_le_pow_right hF1 (by omega)
        have h2 : N * F ^ (i + 1) ≤ N * F ^ T := Nat.mul_le_mul_left _ h1
        rw [Nat.add_zero, Nat.mul_assoc, ← Nat.pow_succ]
        exact Nat.lt_of_le_of_lt h2 HN.out
      have HC : Hid (Calls Tryz.prog 107 #[.pointer (some ⟨B, 0, none⟩), .int .u64 (F : Int), .int .u64 0] wr fun e w' => e = .returned (.tuple #[]) ∧ Mod B wr w' ∧ Lg w' B (N * F ^ (i + 1)) R t) := by
        have h := mul_any B (N * F ^ i) F 0 R t wr HG.out hF1 hF (by omega) hbd
        rw [Nat.add_zero, Nat.mul_assoc, ← Nat.pow_succ] at h
        exact h
      clear hbd
      go_wp2_with (go_at_call 107; refine HC.out.mono ?_; rintro e w' ⟨rfl, hm, hg⟩)
      exact ⟨⟨i + 1, rfl, by omega, hg, HMd.out.trans hm⟩, by show T - ((i : Int) + 1).toNat < T - (i : Int).toNat; omega⟩
    · have hlt' : decide ((i : Int) < (T : Int)) = false := decide_eq_false (by omega)
      obtain rfl : i = T := by omega
      go_wp2
      go_end0
      exact ⟨rfl, HMd.out, HG.out⟩
end Go.Proofs.YtoedefjngipeiaaGreatDoor

/- Hexes of the program. -/
namespace Go.Proofs.YtoedefjngipeiaaGreatDoor
open Go.ChangeShapes Go.WideShapes Go.RowKit

/-- What a decimal or a hex is read as: a word and the end, or the place where it breaks off. -/
def Fin (b : Nat) (m : Int) (s : ByteArray) (k : Nat) (neg : Bool) (x : Nat) (r : Option Nat) (j : Nat) : Prop :=
  ∃ V beh r1 j1, DgR b s k V beh r1 j1 ∧ ((∃ a, r1 = some a ∧ r = some a ∧ j = j1) ∨ (r1 = none ∧ ∃ P r2, Pow m s j1 P r2 j ∧ ((∃ a, r2 = some a ∧ r = some a) ∨
    (r2 = none ∧ r = none ∧ x = signBit neg + (if b = 16 then quoW V 1 (P - 4 * (beh : Int)).toNat (-(P - 4 * (beh : Int))).toNat else decW 10 V (P - (beh : Int)))))))
theorem err_none : errV none = .nilIface := rfl
theorem err_some (k : Nat) : errV (some k) = .iface 67 (.agg #[.int .i64 (k : Int)]) := rfl
theorem pow_range {m : Int} {s : ByteArray} {j i : Nat} {P : Int} {r : Option Nat} (h : Pow m s j P r i) : -10000000 < P ∧ P < 10000000 := by
  rcases h with ⟨_, rfl, _, _⟩ | ⟨_, neg, k, _, _, ⟨_, rfl, _⟩ | ⟨_, _, N, hc, rfl⟩⟩
  · omega
  · omega
  · have := capM_lt hc
    split <;> omega
/-- As the walk leaves a load. -/
theorem LB.cellsFrom {w : World} {B c : Nat} {f : Nat → Nat} {R : List Value} {t : TypeId} (h : LB w B c f R t) : (loadCellsFrom ⟨B, 0, none⟩ 0 152 #[]).run Tryz.prog w = .ok (lgL c f).toArray w := by
  have := run_loadCells_list (P := Tryz.prog) w ⟨B, 0, none⟩ (lgL c f) (fun j v hv => by rw [Addr.add_mid]; exact h.range j v hv)
  rw [lgL_length] at this
  exact this
theorem cnt_one1 : cntOk 1 1 := ⟨by rw [be_eq]; omega, fun _ => by rw [Nat.sub_self, Nat.pow_zero]; omega⟩
theorem len_of {V n : Nat} (h : V < 2 ^ n) : bitLen V ≤ n := by
  rcases Nat.lt_or_ge n (bitLen V) with hlt | hge
  · have h0 : V ≠ 0 := by rintro rfl; simp [bitLen] at hlt
    have h1 := (bitLen_spec V).2 h0
    have h2 : 2 ^ n ≤ 2 ^ (bitLen V - 1) := Nat.pow_le_pow_right (by omega) (by omega)
    omega
  · exact hge
set_option maxHeartbeats 2000000 in
set_option maxRecDepth 100000 in
theorem hex_any (neg : Bool) (G k : Nat) (s : ByteArray) (w : World) (h : Rr w G s k) (hk : k ≤ s.size) (hs : s.size ≤ 1200) (hk2 : 2 ≤ k) :
    Calls Tryz.prog 86 #[.pointer (some ⟨G, 0, none⟩), .bool neg] w fun e w' => ∃ x r j, Fin 16 112 s k neg x r j ∧ j ≤ s.size ∧ e = .returned (.tuple #[.float .f64 (if r = none then x else 0), errV r]) ∧ Rr w' G s j ∧ Mod G w w' := by
  have HDG : Hid _ := fun (_ : Unit) => digits_walk 16 G k s w (by omega) (by omega) h hk hs
  have hGw := h.lt
  have hz := num_zero
  rw [dg_nil] at hz
  obtain ⟨C, hC⟩ : ∃ C, blk 0 (dg 0) [.int .i64 0] = C := ⟨_, rfl⟩
  have HC : Hid (blk 0 (dg 0) [.int .i64 0] = C) := hC
  rw [hC] at hz
  clear hC h
  go_enter Tryz.func86, Tryz.ntmps86
  go_wp2_with fail
  refine (HDG.out ()).mono ?_
  rintro e w1 ⟨V, beh, r1, j1, c, hdg, hj1, hcn, hc, hbe, hV, rfl, hr1, hm1⟩
  have HDR : Hid (DgR 16 s k V beh r1 j1) := hdg
  have HR1 : Hid (Rr w1 G s j1) := hr1
  have HM1 : Hid (Mod G w w1) := hm1
  have HCN : Hid (cntOk c V) := hcn
  have HV : Hid (V < 16 ^ (s.size - k)) := hV
  have HN2 : Hid (LB (w1.alloc (.cells C 158)) w1.heap.size 0 (dg 0) [.int .i64 0] 158) := by
    have h := LB.new w1 0 (dg 0) [.int .i64 0] 158
    rw [HC.out] at h; exact h
  have hst := LB.cellsNum HN2.out (blk c (dg V) [.int .i64 (beh : Int)]) (by rw [blk_size]; rfl) (blk_one _ _ _ rfl)
  have hsz : (blk c (dg V) [.int .i64 (beh : Int)]).size = 153 := by rw [blk_size]; rfl
  have HX2 : Hid _ := fun (_ : Unit) => LB.storedNum (c' := c) (f' := dg V) (R' := [.int .i64 (beh : Int)]) HN2.out
  clear hdg hr1 hm1 hcn hV HDG
  cases r1 with
  | some a =>
    rw [err_some]
    go_wp2_with fail
    go_ret2
    have hma := (Mod.refl w1.heap.size (w1.alloc (.cells C 158))).setRow (blk c (dg V) [.int .i64 (beh : Int)])
    exact ⟨0, some a, j1, ⟨V, beh, some a, j1, HDR.out, .inl ⟨a, rfl, rfl, rfl⟩⟩, hj1, rfl, (HR1.out.alloc _).other hma (by have := HR1.out.lt; omega), (HM1.out.alloc _).late hma HM1.out.size⟩
  | none =>
    rw [err_none]
    obtain ⟨N, hN⟩ : ∃ N, w1.heap.size = N := ⟨_, rfl⟩
    have HNN : Hid (w1.heap.size = N) := hN
    obtain ⟨w2, hw2⟩ : ∃ w2, (w1.alloc (.cells C 158)).setRow N (blk c (dg V) [.int .i64 (beh : Int)]) = w2 := ⟨_, rfl⟩
    have HX : Hid (LB w2 N c (dg V) [.int .i64 (beh : Int)] 158) := by
      have h := HX2.out (); rw [hN, hw2] at h; exact h
    have HR2 : Hid (Rr w2 G s j1) := by
      have hma := (Mod.refl w1.heap.size (w1.alloc (.cells C 158))).setRow (blk c (dg V) [.int .i64 (beh : Int)])
      have h := (HR1.out.alloc (.cells C 158)).other hma (by have := HR1.out.lt; omega)
      rw [hN, hw2] at h; exact h
    have HM2 : Hid (Mod G w w2) := by
      have hma := (Mod.refl w1.heap.size (w1.alloc (.cells C 158))).setRow (blk c (dg V) [.int .i64 (beh : Int)])
      have h := (HM1.out.alloc (.cells C 158)).late hma HM1.out.size
      rw [hN, hw2] at h; exact h
    have hGN : G < N := by rw [← hN]; exact HR1.out.lt
    have HNW : Hid (w.heap.size ≤ N) := by rw [← hN]; exact HM1.out.size
    rw [hN] at hst
    have HPW : Hid _ := fun (_ : Unit) => power_any 112 (by decide) G j1 s w2 HR2.out hj1 hs
    clear HX2 HN2 HR1 HM1
    go_wp2_with fail
    clear hw2 hN hst
    refine (HPW.out ()).mono ?_
    rintro e w3 ⟨P, r2, j2, hpw, hj2, rfl, hr3, hm3⟩
    have HPW2 : Hid (Pow 112 s j1 P r2 j2) := hpw
    obtain ⟨p1, p2⟩ := pow_range hpw
    have HR3 : Hid (Rr w3 G s j2) := hr3
    have HM3 : Hid (Mod G w w3) := HM2.out.trans hm3
    have HX3 : Hid (LB w3 N c (dg V) [.int .i64 (beh : Int)] 158) := HX.out.other hm3 (by omega)
    clear hpw hr3 hm3 HPW HX HR2 HM2
    cases r2 with
    | some a =>
      rw [err_some]
      go_wp2_with fail
      go_ret2
      exact ⟨0, some a, j2, ⟨V, beh, none, j1, HDR.out, .inr ⟨rfl, P, some a, HPW2.out, .inl ⟨a, rfl, rfl⟩⟩⟩, hj2, rfl, HR3.out, HM3.out⟩
    | none =>
      rw [err_none]
      obtain ⟨Q, hQ⟩ : ∃ Q : Int, P - 4 * (beh : Int) = Q := ⟨_, rfl⟩
      have w1' : IntKind.i64.wrap (P - IntKind.i64.wrap (4 * (beh : Int))) = Q := by
        rw [show IntKind.i64.wrap (4 * (beh : Int)) = 4 * (beh : Int) by rw [IntKind.wrap_i64]; omega, IntKind.wrap_i64]; omega
      have hbl : bitLen V ≤ 4798 := by
        have h1 := HV.out
        rw [show (16 : Nat) = 2 ^ 4 from rfl, ← Nat.pow_mul] at h1
        have := len_of h1
        omega
      have HNE : Hid (∀ W', Calls Tryz.prog 101 #[.bool neg, .agg (lgL c (dg V)).toArray, lgV 1 1, .int .i64 (IntKind.i64.wrap (P - IntKind.i64.wrap (4 * (beh : Int))))] W' fun e w'' => e = .returned (.float .f64 (signBit neg + quoW V 1 Q.toNat (-Q).toNat)) ∧ Below W'.heap.size W' w'') := fun W' => by
        rw [w1']
        exact nearest_any neg V 1 c 1 Q.toNat (-Q).toNat Q W' HCN.out hc cnt_one1 (by omega) (by omega) hbl (by decide) (by omega) (by omega) (by omega)
      have HQ : Hid (P - 4 * (beh : Int) = Q) := hQ
      have hN3 := HX3.out.lt
      have hbh := HX3.out.beh
      obtain ⟨d9, hd9, hr9⟩ := lg_desc
      have hi9 : (Tryz.prog.info? 156).map (·.size) = some (lgL c (dg V)).length := by rw [lgL_length]; exact lg_size
      clear hQ w1' hbl
      go_wp2_with fail
      refine wp_region_held_drew (S := fun w' => LB w' N c (dg V) [.int .i64 (beh : Int)] 158 ∧ Below w3.heap.size w3 w') (by kernel_rfl) ⟨HX3.out, (Below.refl _ w3).drew⟩ (fun hHeld => ?_)
      refine tkH 0 ?v0 rfl ?_ ?y0
      case y0 => (intro w hSw; go_simp; first | done | with_reducible rfl)
      refine tkH 1 ?v1 rfl ?_ ?y1
      case y1 => (intro w hSw; go_simp; first | done | with_reducible rfl)
      refine wpAnyH_take (i := 2) (oi := _) (v := _) rfl (by kernel_rfl) (by kernel_rfl) (by kernel_rfl) (fun _ _ _ h => h) (yieldsIf_load_mid (by rfl) _ _ rfl _ _ rfl (lgL c (dg V)) d9 (fun w h => h.1.range) hd9 hr9 hi9) (by assumption) ?_
      refine nmH ?_
      refine tkH 4 ?v4 rfl ?_ ?y4
      case y4 => (intro w hSw; go_simp; first | done | with_reducible rfl)
      refine tkH 5 ?v5 rfl ?_ ?y5
      case y5 => (intro w hSw; go_simp; first | done | with_reducible rfl)
      refine tkH 6 ?v6 rfl ?_ ?y6
      case y6 => (intro w hSw; have hbw := hSw.1.beh; clear hSw; go_simp; first | done | with_reducible rfl)
      refine tkH 7 ?v7 rfl ?_ ?y7
      case y7 => (intro w hSw; go_simp; first | done | with_reducible rfl)
      refine tkH 8 ?v8 rfl ?_ ?y8
      case y8 => (intro w hSw; go_simp; first | done | with_reducible rfl)
      refine rdH 3 rfl (fun K hK => ?_)
      go_simp
      refine (largeOf_one _).mono ?_
      rintro e w7 ⟨rfl, hb7⟩
      have HX7 : LB w7 N c (dg V) [.int .i64 (beh : Int)] 158 := (hb7.block N hN3).trans HX3.out
      have HB7 : Below w3.heap.size w3 w7 := ((Below.refl _ w3).drew).trans hb7
      dsimp only
      refine hK.out _ _ ⟨HX7, HB7⟩ (fun hHeld => ?_)
      clear hK K hb7
      refine nmH ?_
      refine rdH 9 rfl (fun K hK => ?_)
      go_simp
      refine (HNE.out _).mono ?_
      rintro e w8 ⟨rfl, hb8⟩
      have HX8 : LB w8 N c (dg V) [.int .i64 (beh : Int)] 158 := (hb8.block N HX7.lt).trans HX7
      have HB8 : Below w3.heap.size w3 w8 := HB7.trans (hb8.mono HB7.size)
      dsimp only
      refine hK.out _ _ ⟨HX8, HB8⟩ (fun hHeld => ?_)
      clear hK K hb8
      refine nmH ?_
      refine rdH 10 rfl (fun K hK => ?_)
      go_simp
      refine hK.out _ _ ⟨HX8, HB8⟩ (fun hHeld => ?_)
      clear hK K
      refine nmH ?_
      refine rdH 11 rfl (fun K hK => ?_)
      go_simp
      refine hK.out _ _ ⟨HX8, HB8⟩ (fun hHeld => ?_)
      clear hK K
      refine nmH ?_
      refine wpAnyH_done (by kernel_rfl) ?_ _
      have HR8 : Hid (Rr w8 G s j2) := HR3.out.below HB8
      have HM8 : Hid (Mod G w w8) := HM3.out.trans (Mod.of_below HB8)
      clear hHeld HX8 HB8 HX7 HB7
      go_wp2
      go_ret2
      exact ⟨_, none, j2, ⟨V, beh, none, j1, HDR.out, .inr ⟨rfl, P, none, HPW2.out, .inr ⟨rfl, rfl, by rw [if_pos rfl, HQ.out]⟩⟩⟩, hj2, rfl, HR8.out, HM8.out⟩
end Go.Proofs.YtoedefjngipeiaaGreatDoor

/- Decimals of the program. -/
namespace Go.Proofs.YtoedefjngipeiaaGreatDoor
open Go.ChangeShapes Go.WideShapes Go.RowKit

/-- The words of decimals, by powers of five. -/
theorem quo_dec_lo (V K n : Nat) (e Q : Int) (hV : V < 10 ^ n) (hn : n ≤ 1200) (hQ : min (max e (-1530)) 310 = Q) (hK : -Q = (K : Int)) : quoW V (1 * 5 ^ K) 0 K = decW 10 V e := by
  rw [dec_clamp V e n hV hn, hQ, show Q = -(K : Int) by omega]
  unfold quoW
  by_cases h : V = 0
  · subst h; rw [if_pos rfl, dec_nil]
  · rw [if_neg h, dec_fifth V K (by omega), Nat.one_mul]
theorem quo_dec_hi (V K n : Nat) (e Q : Int) (hV : V < 10 ^ n) (hn : n ≤ 1200) (hQ : min (max e (-1530)) 310 = Q) (hK : Q = (K : Int)) : quoW (V * 5 ^ K) 1 K 0 = decW 10 V e := by
  rw [dec_clamp V e n hV hn, hQ, hK]
  unfold quoW
  by_cases h : V = 0
  · subst h; rw [Nat.zero_mul, if_pos rfl, dec_nil]
  · rw [if_neg (Nat.ne_of_gt (Nat.mul_pos (by omega) (Nat.pow_pos (by omega)))), dec_five V K (by omega)]
theorem five_len (K : Nat) (h : K ≤ 1530) : 1 * 5 ^ K < 2 ^ (7 * 510 + 1) := by
  obtain ⟨n, hn⟩ : ∃ n : Nat, n = 510 := ⟨_, rfl⟩
  have h1 : 5 ^ K ≤ 5 ^ (3 * n) := Nat.pow_le_pow_right (by omega) (by omega)
  have h2 : 5 ^ (3 * n) ≤ 2 ^ (7 * n) := by rw [Nat.pow_mul, Nat.pow_mul]; exact Nat.pow_le_pow_left (by decide) n
  have h3 : 2 ^ (7 * n) < 2 ^ (7 * n + 1) := Nat.pow_lt_pow_right (by omega) (by omega)
  rw [← hn]; omega
theorem ten_len (V K n : Nat) (hV : V < 10 ^ n) (hn : n ≤ 1200) (hK : K ≤ 310) : V * 5 ^ K < 2 ^ (10 * 400 + 7 * 104) := by
  obtain ⟨a, ha⟩ : ∃ a : Nat, a = 400 := ⟨_, rfl⟩
  obtain ⟨b, hb⟩ : ∃ b : Nat, b = 104 := ⟨_, rfl⟩
  have h1 : 10 ^ n ≤ 10 ^ (3 * a) := Nat.pow_le_pow_right (by omega) (by omega)
  have h2 : 10 ^ (3 * a) ≤ 2 ^ (10 * a) := by rw [Nat.pow_mul, Nat.pow_mul]; exact Nat.pow_le_pow_left (by decide) a
  have h3 : 5 ^ K ≤ 5 ^ (3 * b) := Nat.pow_le_pow_right (by omega) (by omega)
  have h4 : 5 ^ (3 * b) ≤ 2 ^ (7 * b) := by rw [Nat.pow_mul, Nat.pow_mul]; exact Nat.pow_le_pow_left (by decide) b
  have h5 : V * 5 ^ K < 2 ^ (10 * a) * 5 ^ K := Nat.mul_lt_mul_of_pos_right (by omega) (Nat.pow_pos (by omega))
  have h6 : 2 ^ (10 * a) * 5 ^ K ≤ 2 ^ (10 * a) * 2 ^ (7 * b) := Nat.mul_le_mul_left _ (by omega)
  rw [← Nat.pow_add] at h6
  rw [← ha, ← hb]; omega
theorem five_facts (K : Nat) (h : K ≤ 1530) : 1 * 5 ^ K < be ^ 151 ∧ bitLen (1 * 5 ^ K) ≤ 4798 := by
  have h1 := five_len K h
  obtain ⟨a, ha⟩ : ∃ a : Nat, a = 7 * 510 + 1 := ⟨_, rfl⟩
  rw [← ha] at h1
  obtain ⟨n, hn⟩ : ∃ n : Nat, n = 151 := ⟨_, rfl⟩
  rw [← hn, be_two]
  exact ⟨Nat.lt_of_lt_of_le h1 (Nat.pow_le_pow_right (by omega) (by omega)), by have := len_of h1; omega⟩
theorem ten_facts (V K n : Nat) (hV : V < 10 ^ n) (hn : n ≤ 1200) (hK : K ≤ 310) : V * 5 ^ K < be ^ 151 ∧ bitLen (V * 5 ^ K) ≤ 4798 := by
  have h1 := ten_len V K n hV hn hK
  obtain ⟨a, ha⟩ : ∃ a : Nat, a = 10 * 400 + 7 * 104 := ⟨_, rfl⟩
  rw [← ha] at h1
  obtain ⟨n, hn⟩ : ∃ n : Nat, n = 151 := ⟨_, rfl⟩
  rw [← hn, be_two]
  exact ⟨Nat.lt_of_lt_of_le h1 (Nat.pow_le_pow_right (by omega) (by omega)), by have := len_of h1; omega⟩
theorem ten_own (V n : Nat) (hV : V < 10 ^ n) (hn : n ≤ 1200) : bitLen V ≤ 4798 := by
  have h := (ten_facts V 0 n hV hn (by omega)).2
  rw [Nat.pow_zero, Nat.mul_one] at h
  exact h
set_option maxHeartbeats 2000000 in
set_option maxRecDepth 100000 in
theorem decimal_any (neg : Bool) (G k : Nat) (s : ByteArray) (w : World) (h : Rr w G s k) (hk : k ≤ s.size) (hs : s.size ≤ 1200) :
    Calls Tryz.prog 87 #[.pointer (some ⟨G, 0, none⟩), .bool neg] w fun e w' => ∃ x r j, Fin 10 101 s k neg x r j ∧ j ≤ s.size ∧ e = .returned (.tuple #[.float .f64 (if r = none then x else 0), errV r]) ∧ Rr w' G s j ∧ Mod G w w' := by
  have HDG : Hid _ := fun (_ : Unit) => digits_walk 10 G k s w (by omega) (by omega) h hk hs
  have hGw := h.lt
  have hz := num_zero
  rw [dg_nil] at hz
  obtain ⟨C, hC⟩ : ∃ C, blk 0 (dg 0) [.int .i64 0] = C := ⟨_, rfl⟩
  have HC : Hid (blk 0 (dg 0) [.int .i64 0] = C) := hC
  rw [hC] at hz
  clear hC h
  go_enter Tryz.func87, Tryz.ntmps87
  go_wp2_with fail
  refine (HDG.out ()).mono ?_
  rintro e w1 ⟨V, beh, r1, j1, c, hdg, hj1, hcn, hc, hbe, hV, rfl, hr1, hm1⟩
  have HDR : Hid (DgR 10 s k V beh r1 j1) := hdg
  have HR1 : Hid (Rr w1 G s j1) := hr1
  have HM1 : Hid (Mod G w w1) := hm1
  have HCN : Hid (cntOk c V) := hcn
  have HV : Hid (V < 10 ^ (s.size - k)) := hV
  have HN2 : Hid (LB (w1.alloc (.cells C 158)) w1.heap.size 0 (dg 0) [.int .i64 0] 158) := by
    have h := LB.new w1 0 (dg 0) [.int .i64 0] 158
    rw [HC.out] at h; exact h
  have hst := LB.cellsNum HN2.out (blk c (dg V) [.int .i64 (beh : Int)]) (by rw [blk_size]; rfl) (blk_one _ _ _ rfl)
  have hsz : (blk c (dg V) [.int .i64 (beh : Int)]).size = 153 := by rw [blk_size]; rfl
  have HX2 : Hid _ := fun (_ : Unit) => LB.storedNum (c' := c) (f' := dg V) (R' := [.int .i64 (beh : Int)]) HN2.out
  clear hdg hr1 hm1 hcn hV HDG
  cases r1 with
  | some a =>
    rw [err_some]
    go_wp2_with fail
    go_ret2
    have hma := (Mod.refl w1.heap.size (w1.alloc (.cells C 158))).setRow (blk c (dg V) [.int .i64 (beh : Int)])
    exact ⟨0, some a, j1, ⟨V, beh, some a, j1, HDR.out, .inl ⟨a, rfl, rfl, rfl⟩⟩, hj1, rfl, (HR1.out.alloc _).other hma (by have := HR1.out.lt; omega), (HM1.out.alloc _).late hma HM1.out.size⟩
  | none =>
    rw [err_none]
    obtain ⟨N, hN⟩ : ∃ N, w1.heap.size = N := ⟨_, rfl⟩
    have HNN : Hid (w1.heap.size = N) := hN
    obtain ⟨w2, hw2⟩ : ∃ w2, (w1.alloc (.cells C 158)).setRow N (blk c (dg V) [.int .i64 (beh : Int)]) = w2 := ⟨_, rfl⟩
    have HX : Hid (LB w2 N c (dg V) [.int .i64 (beh : Int)] 158) := by
      have h := HX2.out (); rw [hN, hw2] at h; exact h
    have HR2 : Hid (Rr w2 G s j1) := by
      have hma := (Mod.refl w1.heap.size (w1.alloc (.cells C 158))).setRow (blk c (dg V) [.int .i64 (beh : Int)])
      have h := (HR1.out.alloc (.cells C 158)).other hma (by have := HR1.out.lt; omega)
      rw [hN, hw2] at h; exact h
    have HM2 : Hid (Mod G w w2) := by
      have hma := (Mod.refl w1.heap.size (w1.alloc (.cells C 158))).setRow (blk c (dg V) [.int .i64 (beh : Int)])
      have h := (HM1.out.alloc (.cells C 158)).late hma HM1.out.size
      rw [hN, hw2] at h; exact h
    have hGN : G < N := by rw [← hN]; exact HR1.out.lt
    have HNW : Hid (w.heap.size ≤ N) := by rw [← hN]; exact HM1.out.size
    rw [hN] at hst
    have HPW : Hid _ := fun (_ : Unit) => power_any 101 (by decide) G j1 s w2 HR2.out hj1 hs
    clear HX2 HN2 HR1 HM1
    go_wp2_with fail
    clear hw2 hN hst
    refine (HPW.out ()).mono ?_
    rintro e w3 ⟨P, r2, j2, hpw, hj2, rfl, hr3, hm3⟩
    have HPW2 : Hid (Pow 101 s j1 P r2 j2) := hpw
    obtain ⟨p1, p2⟩ := pow_range hpw
    have HR3 : Hid (Rr w3 G s j2) := hr3
    have HM3 : Hid (Mod G w w3) := HM2.out.trans hm3
    have HX3 : Hid (LB w3 N c (dg V) [.int .i64 (beh : Int)] 158) := HX.out.other hm3 (by omega)
    clear hpw hr3 hm3 HPW HX HR2 HM2
    cases r2 with
    | some a =>
      rw [err_some]
      go_wp2_with fail
      go_ret2
      exact ⟨0, some a, j2, ⟨V, beh, none, j1, HDR.out, .inr ⟨rfl, P, some a, HPW2.out, .inl ⟨a, rfl, rfl⟩⟩⟩, hj2, rfl, HR3.out, HM3.out⟩
    | none =>
      rw [err_none]
      obtain ⟨Q, hQ⟩ : ∃ Q : Int, min (max (P - (beh : Int)) (-1530)) 310 = Q := ⟨_, rfl⟩
      have HQ : Hid (min (max (P - (beh : Int)) (-1530)) 310 = Q) := hQ
      have hcs : (P - (beh : Int) < -1530 ∧ Q = -1530) ∨ (310 < P - (beh : Int) ∧ Q = 310) ∨ (-1530 ≤ P - (beh : Int) ∧ P - (beh : Int) ≤ 310 ∧ Q = P - (beh : Int)) := by omega
      have hbh := HX3.out.beh
      clear hQ
      go_upto_region 7 with fail
      go_cut [8] from 27 to 32 (fun s8 wc => s8 = .int .i64 Q ∧ wc = w3)
      case first =>
        rcases hcs with ⟨x1, x2⟩ | ⟨x1, x2⟩ | ⟨x1, x2, x3⟩
        · go_wp2
          go_meet
          case rel => exact ⟨by rw [x2], rfl⟩
        · go_wp2
          go_meet
          case rel => exact ⟨by rw [x2], rfl⟩
        · go_wp2
          go_meet
          case rel => exact ⟨by rw [x3], rfl⟩
      case rest =>
        obtain ⟨rfl, hwc⟩ := hcut
        have hwc' := hwc.symm
        subst hwc'
        have hz8 := lg_zero
        rw [dg_nil] at hz8
        obtain ⟨D, hD⟩ : ∃ D, blk 0 (dg 0) [] = D := ⟨_, rfl⟩
        have HDD : Hid (blk 0 (dg 0) [] = D) := hD
        rw [hD] at hz8
        have HNEW : Hid (∀ w' : World, LB (w'.alloc (.cells D 156)) w'.heap.size 0 (dg 0) [] 156) := fun w' => by rw [← hD]; exact LB.new w' 0 (dg 0) [] _
        obtain ⟨H3, hH3⟩ : ∃ H3, w3.heap.size = H3 := ⟨_, rfl⟩
        have hNH : N < H3 := by rw [← hH3]; exact HX3.out.lt
        obtain ⟨d9, hd9, hr9⟩ := lg_desc
        have hi9 : (Tryz.prog.info? 156).map (·.size) = some (lgL c (dg V)).length := by rw [lgL_length]; exact lg_size
        clear hcs hbh hD
        go_wp2_with fail
        go_cut [9, 10] from 33 to 35 (fun s9 s10 wd => ∃ A B : Nat, s9 = .pointer (some ⟨A, 0, none⟩) ∧ s10 = .pointer (some ⟨B, 0, none⟩) ∧ A ≠ B ∧ H3 ≤ A ∧ H3 ≤ B ∧ Hid (LB wd A c (dg V) [] 156) ∧ Hid (LB wd B 1 (dg 1) [] 156) ∧ Hid (Below H3 w3 wd ∧ H3 ≤ wd.heap.size))
        case first =>
          refine wp_region_held_drew (S := fun w' => LB w' N c (dg V) [.int .i64 (beh : Int)] 158 ∧ Below H3 w3 w') (by kernel_rfl) ⟨HX3.out, (Below.refl _ w3).drew⟩ (fun hHeld => ?_)
          have HS0 : Hid (LB w3.drew N c (dg V) [.int .i64 (beh : Int)] 158 ∧ Below H3 w3 w3.drew ∧ H3 ≤ w3.drew.heap.size) := ⟨HX3.out, (Below.refl _ w3).drew, by rw [← hH3]; exact Nat.le_refl _⟩
          generalize w3.drew = wa at *
          refine tkH 0 ?v0 rfl ?_ ?y0
          case y0 => (intro w hSw; go_simp; first | done | with_reducible rfl)
          refine wpAnyH_take (i := 1) (oi := _) (v := _) rfl (by kernel_rfl) (by kernel_rfl) (by kernel_rfl) (fun _ _ _ h => h) (yieldsIf_load_mid (by rfl) _ _ rfl _ _ rfl (lgL c (dg V)) d9 (fun w h => h.1.range) hd9 hr9 hi9) (by assumption) ?_
          refine nmH ?_
          refine wpAnyH_ready (rs := [2, 3, 4]) (by kernel_rfl) (by simp) ?_
          refine AllReadyH.cons (o := _) rfl (fun K hK => ?_) ?_
          · go_simp
            refine (largeOf_one _).mono ?_
            rintro e w1x ⟨rfl, hb7⟩
            have HSw1x : Hid (LB w1x N c (dg V) [.int .i64 (beh : Int)] 158 ∧ Below H3 w3 w1x ∧ H3 ≤ w1x.heap.size) := ⟨(hb7.block N HS0.out.1.lt).trans HS0.out.1, HS0.out.2.1.trans (hb7.mono HS0.out.2.2), Nat.le_trans HS0.out.2.2 hb7.size⟩
            clear hb7
            dsimp only
            refine hK.out _ _ ⟨HSw1x.out.1, HSw1x.out.2.1⟩ (fun hHeld => ?_)
            clear hK K
            refine nmH ?_
            refine wpAnyH_ready (rs := [3, 4]) (by kernel_rfl) (by simp) ?_
            refine AllReadyH.cons (o := _) rfl (fun K hK => ?_) ?_
            · go_simp
              obtain ⟨A, hA⟩ : ∃ A, w1x.heap.size = A := ⟨_, rfl⟩
              obtain ⟨w2x, hw2x⟩ : ∃ w2x, w1x.alloc (.cells D 156) = w2x := ⟨_, rfl⟩
              rw [hA, hw2x]
              have HSw2x : Hid (LB w2x N c (dg V) [.int .i64 (beh : Int)] 158 ∧ Below H3 w3 w2x ∧ H3 ≤ w2x.heap.size) := by rw [← hw2x]; exact ⟨HSw1x.out.1.alloc _, HSw1x.out.2.1.alloc HSw1x.out.2.2 _, by have := HSw1x.out.2.2; simp; omega⟩
              have HLAw2x : Hid (LB w2x A 0 (dg 0) [] 156) := by rw [← hw2x, ← hA]; exact HNEW.out _
              have hgeA : H3 ≤ A := by rw [← hA]; exact HSw1x.out.2.2
              clear hA hw2x
              refine hK.out _ _ ⟨HSw2x.out.1, HSw2x.out.2.1⟩ (fun hHeld => ?_)
              clear hK K
              refine nmH ?_
              refine rdH 4 rfl (fun K hK => ?_)
              go_simp
              obtain ⟨B, hB⟩ : ∃ B, w2x.heap.size = B := ⟨_, rfl⟩
              obtain ⟨wf, hwf⟩ : ∃ wf, w2x.alloc (.cells D 156) = wf := ⟨_, rfl⟩
              rw [hB, hwf]
              have HSwf : Hid (LB wf N c (dg V) [.int .i64 (beh : Int)] 158 ∧ Below H3 w3 wf ∧ H3 ≤ wf.heap.size) := by rw [← hwf]; exact ⟨HSw2x.out.1.alloc _, HSw2x.out.2.1.alloc HSw2x.out.2.2 _, by have := HSw2x.out.2.2; simp; omega⟩
              have HLBwf : Hid (LB wf B 0 (dg 0) [] 156) := by rw [← hwf, ← hB]; exact HNEW.out _
              have hgeB : H3 ≤ B := by rw [← hB]; exact HSw2x.out.2.2
              have HLAwf : Hid (LB wf A 0 (dg 0) [] 156) := by rw [← hwf]; exact HLAw2x.out.alloc _
              have hneAB : A < B := by rw [← hB]; exact HLAw2x.out.lt
              clear hB hwf
              refine hK.out _ _ ⟨HSwf.out.1, HSwf.out.2.1⟩ (fun hHeld => ?_)
              clear hK K
              try simp only [Act.put]
              try simp only [List.setIfInBounds_toArray]
              try simp only [List.set_cons_succ]
              try simp only [List.set_cons_zero]
              have hab : A ≠ B := by omega
              refine rdH 5 rfl (fun K hK => ?_)
              have hs5 := HLAwf.out.cells c (dg V)
              have hln5 := lgL_length c (dg V)
              go_simp
              obtain ⟨wg, hwg⟩ : ∃ wg, wf.setRow A (lgL c (dg V)).toArray = wg := ⟨_, rfl⟩
              rw [hwg]
              have hmg : Mod A wf wg := by rw [← hwg]; exact (Mod.refl A wf).setRow _
              have HAg : Hid (LB wg A c (dg V) [] 156) := by rw [← hwg]; exact HLAwf.out.stored
              have HBg : Hid (LB wg B 0 (dg 0) [] 156) := HLBwf.out.other hmg (Ne.symm hab)
              have HXg : Hid (LB wg N c (dg V) [.int .i64 (beh : Int)] 158) := HSwf.out.1.other hmg (by omega)
              have HBWg : Hid (Below H3 w3 wg ∧ H3 ≤ wg.heap.size) := ⟨HSwf.out.2.1.trans (hmg.below hgeA HSwf.out.2.2), Nat.le_trans HSwf.out.2.2 hmg.size⟩
              clear hs5 hln5 hwg hmg
              refine hK.out _ _ ⟨HXg.out, HBWg.out.1⟩ (fun hHeld => ?_)
              clear hK K
              unfold lgV
              refine rdH 6 rfl (fun K hK => ?_)
              have hs6 := HBg.out.cells 1 (dg 1)
              have hln6 := lgL_length 1 (dg 1)
              go_simp
              obtain ⟨wh, hwh⟩ : ∃ wh, wg.setRow B (lgL 1 (dg 1)).toArray = wh := ⟨_, rfl⟩
              rw [hwh]
              have hmh : Mod B wg wh := by rw [← hwh]; exact (Mod.refl B wg).setRow _
              have HAh : Hid (LB wh A c (dg V) [] 156) := HAg.out.other hmh hab
              have HBh : Hid (LB wh B 1 (dg 1) [] 156) := by rw [← hwh]; exact HBg.out.stored
              have HXh : Hid (LB wh N c (dg V) [.int .i64 (beh : Int)] 158) := HXg.out.other hmh (by omega)
              have HBWh : Hid (Below H3 w3 wh ∧ H3 ≤ wh.heap.size) := ⟨HBWg.out.1.trans (hmh.below hgeB HBWg.out.2), Nat.le_trans HBWg.out.2 hmh.size⟩
              clear hs6 hln6 hwh hmh
              refine hK.out _ _ ⟨HXh.out, HBWh.out.1⟩ (fun hHeld => ?_)
              clear hK K
              refine wpAnyH_done (by kernel_rfl) ?_ _
              go_wp2
              go_meet
              case rel => exact ⟨A, B, rfl, rfl, hab, hgeA, hgeB, HAh.out, HBh.out, HBWh.out⟩
            refine AllReadyH.cons (o := _) rfl (fun K hK => ?_) AllReadyH.nil
            go_simp
            obtain ⟨B, hB⟩ : ∃ B, w1x.heap.size = B := ⟨_, rfl⟩
            obtain ⟨w2x, hw2x⟩ : ∃ w2x, w1x.alloc (.cells D 156) = w2x := ⟨_, rfl⟩
            rw [hB, hw2x]
            have HSw2x : Hid (LB w2x N c (dg V) [.int .i64 (beh : Int)] 158 ∧ Below H3 w3 w2x ∧ H3 ≤ w2x.heap.size) := by rw [← hw2x]; exact ⟨HSw1x.out.1.alloc _, HSw1x.out.2.1.alloc HSw1x.out.2.2 _, by have := HSw1x.out.2.2; simp; omega⟩
            have HLBw2x : Hid (LB w2x B 0 (dg 0) [] 156) := by rw [← hw2x, ← hB]; exact HNEW.out _
            have hgeB : H3 ≤ B := by rw [← hB]; exact HSw1x.out.2.2
            clear hB hw2x
            refine hK.out _ _ ⟨HSw2x.out.1, HSw2x.out.2.1⟩ (fun hHeld => ?_)
            clear hK K
            refine nmH ?_
            refine rdH 3 rfl (fun K hK => ?_)
            go_simp
            obtain ⟨A, hA⟩ : ∃ A, w2x.heap.size = A := ⟨_, rfl⟩
            obtain ⟨wf, hwf⟩ : ∃ wf, w2x.alloc (.cells D 156) = wf := ⟨_, rfl⟩
            rw [hA, hwf]
            have HSwf : Hid (LB wf N c (dg V) [.int .i64 (beh : Int)] 158 ∧ Below H3 w3 wf ∧ H3 ≤ wf.heap.size) := by rw [← hwf]; exact ⟨HSw2x.out.1.alloc _, HSw2x.out.2.1.alloc HSw2x.out.2.2 _, by have := HSw2x.out.2.2; simp; omega⟩
            have HLAwf : Hid (LB wf A 0 (dg 0) [] 156) := by rw [← hwf, ← hA]; exact HNEW.out _
            have hgeA : H3 ≤ A := by rw [← hA]; exact HSw2x.out.2.2
            have HLBwf : Hid (LB wf B 0 (dg 0) [] 156) := by rw [← hwf]; exact HLBw2x.out.alloc _
            have hneBA : B < A := by rw [← hA]; exact HLBw2x.out.lt
            clear hA hwf
            refine hK.out _ _ ⟨HSwf.out.1, HSwf.out.2.1⟩ (fun hHeld => ?_)
            clear hK K
            try simp only [Act.put]
            try simp only [List.setIfInBounds_toArray]
            try simp only [List.set_cons_succ]
            try simp only [List.set_cons_zero]
            have hab : A ≠ B := by omega
            refine rdH 5 rfl (fun K hK => ?_)
            have hs5 := HLAwf.out.cells c (dg V)
            have hln5 := lgL_length c (dg V)
            go_simp
            obtain ⟨wg, hwg⟩ : ∃ wg, wf.setRow A (lgL c (dg V)).toArray = wg := ⟨_, rfl⟩
            rw [hwg]
            have hmg : Mod A wf wg := by rw [← hwg]; exact (Mod.refl A wf).setRow _
            have HAg : Hid (LB wg A c (dg V) [] 156) := by rw [← hwg]; exact HLAwf.out.stored
            have HBg : Hid (LB wg B 0 (dg 0) [] 156) := HLBwf.out.other hmg (Ne.symm hab)
            have HXg : Hid (LB wg N c (dg V) [.int .i64 (beh : Int)] 158) := HSwf.out.1.other hmg (by omega)
            have HBWg : Hid (Below H3 w3 wg ∧ H3 ≤ wg.heap.size) := ⟨HSwf.out.2.1.trans (hmg.below hgeA HSwf.out.2.2), Nat.le_trans HSwf.out.2.2 hmg.size⟩
            clear hs5 hln5 hwg hmg
            refine hK.out _ _ ⟨HXg.out, HBWg.out.1⟩ (fun hHeld => ?_)
            clear hK K
            unfold lgV
            refine rdH 6 rfl (fun K hK => ?_)
            have hs6 := HBg.out.cells 1 (dg 1)
            have hln6 := lgL_length 1 (dg 1)
            go_simp
            obtain ⟨wh, hwh⟩ : ∃ wh, wg.setRow B (lgL 1 (dg 1)).toArray = wh := ⟨_, rfl⟩
            rw [hwh]
            have hmh : Mod B wg wh := by rw [← hwh]; exact (Mod.refl B wg).setRow _
            have HAh : Hid (LB wh A c (dg V) [] 156) := HAg.out.other hmh hab
            have HBh : Hid (LB wh B 1 (dg 1) [] 156) := by rw [← hwh]; exact HBg.out.stored
            have HXh : Hid (LB wh N c (dg V) [.int .i64 (beh : Int)] 158) := HXg.out.other hmh (by omega)
            have HBWh : Hid (Below H3 w3 wh ∧ H3 ≤ wh.heap.size) := ⟨HBWg.out.1.trans (hmh.below hgeB HBWg.out.2), Nat.le_trans HBWg.out.2 hmh.size⟩
            clear hs6 hln6 hwh hmh
            refine hK.out _ _ ⟨HXh.out, HBWh.out.1⟩ (fun hHeld => ?_)
            clear hK K
            refine wpAnyH_done (by kernel_rfl) ?_ _
            go_wp2
            go_meet
            case rel => exact ⟨A, B, rfl, rfl, hab, hgeA, hgeB, HAh.out, HBh.out, HBWh.out⟩
          refine AllReadyH.cons (o := _) rfl (fun K hK => ?_) ?_
          · go_simp
            obtain ⟨A, hA⟩ : ∃ A, wa.heap.size = A := ⟨_, rfl⟩
            obtain ⟨w1x, hw1x⟩ : ∃ w1x, wa.alloc (.cells D 156) = w1x := ⟨_, rfl⟩
            rw [hA, hw1x]
            have HSw1x : Hid (LB w1x N c (dg V) [.int .i64 (beh : Int)] 158 ∧ Below H3 w3 w1x ∧ H3 ≤ w1x.heap.size) := by rw [← hw1x]; exact ⟨HS0.out.1.alloc _, HS0.out.2.1.alloc HS0.out.2.2 _, by have := HS0.out.2.2; simp; omega⟩
            have HLAw1x : Hid (LB w1x A 0 (dg 0) [] 156) := by rw [← hw1x, ← hA]; exact HNEW.out _
            have hgeA : H3 ≤ A := by rw [← hA]; exact HS0.out.2.2
            clear hA hw1x
            refine hK.out _ _ ⟨HSw1x.out.1, HSw1x.out.2.1⟩ (fun hHeld => ?_)
            clear hK K
            refine nmH ?_
            refine wpAnyH_ready (rs := [2, 4]) (by kernel_rfl) (by simp) ?_
            refine AllReadyH.cons (o := _) rfl (fun K hK => ?_) ?_
            · go_simp
              refine (largeOf_one _).mono ?_
              rintro e w2x ⟨rfl, hb7⟩
              have HSw2x : Hid (LB w2x N c (dg V) [.int .i64 (beh : Int)] 158 ∧ Below H3 w3 w2x ∧ H3 ≤ w2x.heap.size) := ⟨(hb7.block N HSw1x.out.1.lt).trans HSw1x.out.1, HSw1x.out.2.1.trans (hb7.mono HSw1x.out.2.2), Nat.le_trans HSw1x.out.2.2 hb7.size⟩
              have HLAw2x : Hid (LB w2x A 0 (dg 0) [] 156) := (hb7.block A HLAw1x.out.lt).trans HLAw1x.out
              clear hb7
              dsimp only
              refine hK.out _ _ ⟨HSw2x.out.1, HSw2x.out.2.1⟩ (fun hHeld => ?_)
              clear hK K
              refine nmH ?_
              refine rdH 4 rfl (fun K hK => ?_)
              go_simp
              obtain ⟨B, hB⟩ : ∃ B, w2x.heap.size = B := ⟨_, rfl⟩
              obtain ⟨wf, hwf⟩ : ∃ wf, w2x.alloc (.cells D 156) = wf := ⟨_, rfl⟩
              rw [hB, hwf]
              have HSwf : Hid (LB wf N c (dg V) [.int .i64 (beh : Int)] 158 ∧ Below H3 w3 wf ∧ H3 ≤ wf.heap.size) := by rw [← hwf]; exact ⟨HSw2x.out.1.alloc _, HSw2x.out.2.1.alloc HSw2x.out.2.2 _, by have := HSw2x.out.2.2; simp; omega⟩
              have HLBwf : Hid (LB wf B 0 (dg 0) [] 156) := by rw [← hwf, ← hB]; exact HNEW.out _
              have hgeB : H3 ≤ B := by rw [← hB]; exact HSw2x.out.2.2
              have HLAwf : Hid (LB wf A 0 (dg 0) [] 156) := by rw [← hwf]; exact HLAw2x.out.alloc _
              have hneAB : A < B := by rw [← hB]; exact HLAw2x.out.lt
              clear hB hwf
              refine hK.out _ _ ⟨HSwf.out.1, HSwf.out.2.1⟩ (fun hHeld => ?_)
              clear hK K
              try simp only [Act.put]
              try simp only [List.setIfInBounds_toArray]
              try simp only [List.set_cons_succ]
              try simp only [List.set_cons_zero]
              have hab : A ≠ B := by omega
              refine rdH 5 rfl (fun K hK => ?_)
              have hs5 := HLAwf.out.cells c (dg V)
              have hln5 := lgL_length c (dg V)
              go_simp
              obtain ⟨wg, hwg⟩ : ∃ wg, wf.setRow A (lgL c (dg V)).toArray = wg := ⟨_, rfl⟩
              rw [hwg]
              have hmg : Mod A wf wg := by rw [← hwg]; exact (Mod.refl A wf).setRow _
              have HAg : Hid (LB wg A c (dg V) [] 156) := by rw [← hwg]; exact HLAwf.out.stored
              have HBg : Hid (LB wg B 0 (dg 0) [] 156) := HLBwf.out.other hmg (Ne.symm hab)
              have HXg : Hid (LB wg N c (dg V) [.int .i64 (beh : Int)] 158) := HSwf.out.1.other hmg (by omega)
              have HBWg : Hid (Below H3 w3 wg ∧ H3 ≤ wg.heap.size) := ⟨HSwf.out.2.1.trans (hmg.below hgeA HSwf.out.2.2), Nat.le_trans HSwf.out.2.2 hmg.size⟩
              clear hs5 hln5 hwg hmg
              refine hK.out _ _ ⟨HXg.out, HBWg.out.1⟩ (fun hHeld => ?_)
              clear hK K
              unfold lgV
              refine rdH 6 rfl (fun K hK => ?_)
              have hs6 := HBg.out.cells 1 (dg 1)
              have hln6 := lgL_length 1 (dg 1)
              go_simp
              obtain ⟨wh, hwh⟩ : ∃ wh, wg.setRow B (lgL 1 (dg 1)).toArray = wh := ⟨_, rfl⟩
              rw [hwh]
              have hmh : Mod B wg wh := by rw [← hwh]; exact (Mod.refl B wg).setRow _
              have HAh : Hid (LB wh A c (dg V) [] 156) := HAg.out.other hmh hab
              have HBh : Hid (LB wh B 1 (dg 1) [] 156) := by rw [← hwh]; exact HBg.out.stored
              have HXh : Hid (LB wh N c (dg V) [.int .i64 (beh : Int)] 158) := HXg.out.other hmh (by omega)
              have HBWh : Hid (Below H3 w3 wh ∧ H3 ≤ wh.heap.size) := ⟨HBWg.out.1.trans (hmh.below hgeB HBWg.out.2), Nat.le_trans HBWg.out.2 hmh.size⟩
              clear hs6 hln6 hwh hmh
              refine hK.out _ _ ⟨HXh.out, HBWh.out.1⟩ (fun hHeld => ?_)
              clear hK K
              refine wpAnyH_done (by kernel_rfl) ?_ _
              go_wp2
              go_meet
              case rel => exact ⟨A, B, rfl, rfl, hab, hgeA, hgeB, HAh.out, HBh.out, HBWh.out⟩
            refine AllReadyH.cons (o := _) rfl (fun K hK => ?_) AllReadyH.nil
            go_simp
            obtain ⟨B, hB⟩ : ∃ B, w1x.heap.size = B := ⟨_, rfl⟩
            obtain ⟨w2x, hw2x⟩ : ∃ w2x, w1x.alloc (.cells D 156) = w2x := ⟨_, rfl⟩
            rw [hB, hw2x]
            have HSw2x : Hid (LB w2x N c (dg V) [.int .i64 (beh : Int)] 158 ∧ Below H3 w3 w2x ∧ H3 ≤ w2x.heap.size) := by rw [← hw2x]; exact ⟨HSw1x.out.1.alloc _, HSw1x.out.2.1.alloc HSw1x.out.2.2 _, by have := HSw1x.out.2.2; simp; omega⟩
            have HLBw2x : Hid (LB w2x B 0 (dg 0) [] 156) := by rw [← hw2x, ← hB]; exact HNEW.out _
            have hgeB : H3 ≤ B := by rw [← hB]; exact HSw1x.out.2.2
            have HLAw2x : Hid (LB w2x A 0 (dg 0) [] 156) := by rw [← hw2x]; exact HLAw1x.out.alloc _
            have hneAB : A < B := by rw [← hB]; exact HLAw1x.out.lt
            clear hB hw2x
            refine hK.out _ _ ⟨HSw2x.out.1, HSw2x.out.2.1⟩ (fun hHeld => ?_)
            clear hK K
            refine nmH ?_
            refine rdH 2 rfl (fun K hK => ?_)
            go_simp
            refine (largeOf_one _).mono ?_
            rintro e wf ⟨rfl, hb7⟩
            have HSwf : Hid (LB wf N c (dg V) [.int .i64 (beh : Int)] 158 ∧ Below H3 w3 wf ∧ H3 ≤ wf.heap.size) := ⟨(hb7.block N HSw2x.out.1.lt).trans HSw2x.out.1, HSw2x.out.2.1.trans (hb7.mono HSw2x.out.2.2), Nat.le_trans HSw2x.out.2.2 hb7.size⟩
            have HLAwf : Hid (LB wf A 0 (dg 0) [] 156) := (hb7.block A HLAw2x.out.lt).trans HLAw2x.out
            have HLBwf : Hid (LB wf B 0 (dg 0) [] 156) := (hb7.block B HLBw2x.out.lt).trans HLBw2x.out
            clear hb7
            dsimp only
            refine hK.out _ _ ⟨HSwf.out.1, HSwf.out.2.1⟩ (fun hHeld => ?_)
            clear hK K
            try simp only [Act.put]
            try simp only [List.setIfInBounds_toArray]
            try simp only [List.set_cons_succ]
            try simp only [List.set_cons_zero]
            have hab : A ≠ B := by omega
            refine rdH 5 rfl (fun K hK => ?_)
            have hs5 := HLAwf.out.cells c (dg V)
            have hln5 := lgL_length c (dg V)
            go_simp
            obtain ⟨wg, hwg⟩ : ∃ wg, wf.setRow A (lgL c (dg V)).toArray = wg := ⟨_, rfl⟩
            rw [hwg]
            have hmg : Mod A wf wg := by rw [← hwg]; exact (Mod.refl A wf).setRow _
            have HAg : Hid (LB wg A c (dg V) [] 156) := by rw [← hwg]; exact HLAwf.out.stored
            have HBg : Hid (LB wg B 0 (dg 0) [] 156) := HLBwf.out.other hmg (Ne.symm hab)
            have HXg : Hid (LB wg N c (dg V) [.int .i64 (beh : Int)] 158) := HSwf.out.1.other hmg (by omega)
            have HBWg : Hid (Below H3 w3 wg ∧ H3 ≤ wg.heap.size) := ⟨HSwf.out.2.1.trans (hmg.below hgeA HSwf.out.2.2), Nat.le_trans HSwf.out.2.2 hmg.size⟩
            clear hs5 hln5 hwg hmg
            refine hK.out _ _ ⟨HXg.out, HBWg.out.1⟩ (fun hHeld => ?_)
            clear hK K
            unfold lgV
            refine rdH 6 rfl (fun K hK => ?_)
            have hs6 := HBg.out.cells 1 (dg 1)
            have hln6 := lgL_length 1 (dg 1)
            go_simp
            obtain ⟨wh, hwh⟩ : ∃ wh, wg.setRow B (lgL 1 (dg 1)).toArray = wh := ⟨_, rfl⟩
            rw [hwh]
            have hmh : Mod B wg wh := by rw [← hwh]; exact (Mod.refl B wg).setRow _
            have HAh : Hid (LB wh A c (dg V) [] 156) := HAg.out.other hmh hab
            have HBh : Hid (LB wh B 1 (dg 1) [] 156) := by rw [← hwh]; exact HBg.out.stored
            have HXh : Hid (LB wh N c (dg V) [.int .i64 (beh : Int)] 158) := HXg.out.other hmh (by omega)
            have HBWh : Hid (Below H3 w3 wh ∧ H3 ≤ wh.heap.size) := ⟨HBWg.out.1.trans (hmh.below hgeB HBWg.out.2), Nat.le_trans HBWg.out.2 hmh.size⟩
            clear hs6 hln6 hwh hmh
            refine hK.out _ _ ⟨HXh.out, HBWh.out.1⟩ (fun hHeld => ?_)
            clear hK K
            refine wpAnyH_done (by kernel_rfl) ?_ _
            go_wp2
            go_meet
            case rel => exact ⟨A, B, rfl, rfl, hab, hgeA, hgeB, HAh.out, HBh.out, HBWh.out⟩
          refine AllReadyH.cons (o := _) rfl (fun K hK => ?_) AllReadyH.nil
          go_simp
          obtain ⟨B, hB⟩ : ∃ B, wa.heap.size = B := ⟨_, rfl⟩
          obtain ⟨w1x, hw1x⟩ : ∃ w1x, wa.alloc (.cells D 156) = w1x := ⟨_, rfl⟩
          rw [hB, hw1x]
          have HSw1x : Hid (LB w1x N c (dg V) [.int .i64 (beh : Int)] 158 ∧ Below H3 w3 w1x ∧ H3 ≤ w1x.heap.size) := by rw [← hw1x]; exact ⟨HS0.out.1.alloc _, HS0.out.2.1.alloc HS0.out.2.2 _, by have := HS0.out.2.2; simp; omega⟩
          have HLBw1x : Hid (LB w1x B 0 (dg 0) [] 156) := by rw [← hw1x, ← hB]; exact HNEW.out _
          have hgeB : H3 ≤ B := by rw [← hB]; exact HS0.out.2.2
          clear hB hw1x
          refine hK.out _ _ ⟨HSw1x.out.1, HSw1x.out.2.1⟩ (fun hHeld => ?_)
          clear hK K
          refine nmH ?_
          refine wpAnyH_ready (rs := [2, 3]) (by kernel_rfl) (by simp) ?_
          refine AllReadyH.cons (o := _) rfl (fun K hK => ?_) ?_
          · go_simp
            refine (largeOf_one _).mono ?_
            rintro e w2x ⟨rfl, hb7⟩
            have HSw2x : Hid (LB w2x N c (dg V) [.int .i64 (beh : Int)] 158 ∧ Below H3 w3 w2x ∧ H3 ≤ w2x.heap.size) := ⟨(hb7.block N HSw1x.out.1.lt).trans HSw1x.out.1, HSw1x.out.2.1.trans (hb7.mono HSw1x.out.2.2), Nat.le_trans HSw1x.out.2.2 hb7.size⟩
            have HLBw2x : Hid (LB w2x B 0 (dg 0) [] 156) := (hb7.block B HLBw1x.out.lt).trans HLBw1x.out
            clear hb7
            dsimp only
            refine hK.out _ _ ⟨HSw2x.out.1, HSw2x.out.2.1⟩ (fun hHeld => ?_)
            clear hK K
            refine nmH ?_
            refine rdH 3 rfl (fun K hK => ?_)
            go_simp
            obtain ⟨A, hA⟩ : ∃ A, w2x.heap.size = A := ⟨_, rfl⟩
            obtain ⟨wf, hwf⟩ : ∃ wf, w2x.alloc (.cells D 156) = wf := ⟨_, rfl⟩
            rw [hA, hwf]
            have HSwf : Hid (LB wf N c (dg V) [.int .i64 (beh : Int)] 158 ∧ Below H3 w3 wf ∧ H3 ≤ wf.heap.size) := by rw [← hwf]; exact ⟨HSw2x.out.1.alloc _, HSw2x.out.2.1.alloc HSw2x.out.2.2 _, by have := HSw2x.out.2.2; simp; omega⟩
            have HLAwf : Hid (LB wf A 0 (dg 0) [] 156) := by rw [← hwf, ← hA]; exact HNEW.out _
            have hgeA : H3 ≤ A := by rw [← hA]; exact HSw2x.out.2.2
            have HLBwf : Hid (LB wf B 0 (dg 0) [] 156) := by rw [← hwf]; exact HLBw2x.out.alloc _
            have hneBA : B < A := by rw [← hA]; exact HLBw2x.out.lt
            clear hA hwf
            refine hK.out _ _ ⟨HSwf.out.1, HSwf.out.2.1⟩ (fun hHeld => ?_)
            clear hK K
            try simp only [Act.put]
            try simp only [List.setIfInBounds_toArray]
            try simp only [List.set_cons_succ]
            try simp only [List.set_cons_zero]
            have hab : A ≠ B := by omega
            refine rdH 5 rfl (fun K hK => ?_)
            have hs5 := HLAwf.out.cells c (dg V)
            have hln5 := lgL_length c (dg V)
            go_simp
            obtain ⟨wg, hwg⟩ : ∃ wg, wf.setRow A (lgL c (dg V)).toArray = wg := ⟨_, rfl⟩
            rw [hwg]
            have hmg : Mod A wf wg := by rw [← hwg]; exact (Mod.refl A wf).setRow _
            have HAg : Hid (LB wg A c (dg V) [] 156) := by rw [← hwg]; exact HLAwf.out.stored
            have HBg : Hid (LB wg B 0 (dg 0) [] 156) := HLBwf.out.other hmg (Ne.symm hab)
            have HXg : Hid (LB wg N c (dg V) [.int .i64 (beh : Int)] 158) := HSwf.out.1.other hmg (by omega)
            have HBWg : Hid (Below H3 w3 wg ∧ H3 ≤ wg.heap.size) := ⟨HSwf.out.2.1.trans (hmg.below hgeA HSwf.out.2.2), Nat.le_trans HSwf.out.2.2 hmg.size⟩
            clear hs5 hln5 hwg hmg
            refine hK.out _ _ ⟨HXg.out, HBWg.out.1⟩ (fun hHeld => ?_)
            clear hK K
            unfold lgV
            refine rdH 6 rfl (fun K hK => ?_)
            have hs6 := HBg.out.cells 1 (dg 1)
            have hln6 := lgL_length 1 (dg 1)
            go_simp
            obtain ⟨wh, hwh⟩ : ∃ wh, wg.setRow B (lgL 1 (dg 1)).toArray = wh := ⟨_, rfl⟩
            rw [hwh]
            have hmh : Mod B wg wh := by rw [← hwh]; exact (Mod.refl B wg).setRow _
            have HAh : Hid (LB wh A c (dg V) [] 156) := HAg.out.other hmh hab
            have HBh : Hid (LB wh B 1 (dg 1) [] 156) := by rw [← hwh]; exact HBg.out.stored
            have HXh : Hid (LB wh N c (dg V) [.int .i64 (beh : Int)] 158) := HXg.out.other hmh (by omega)
            have HBWh : Hid (Below H3 w3 wh ∧ H3 ≤ wh.heap.size) := ⟨HBWg.out.1.trans (hmh.below hgeB HBWg.out.2), Nat.le_trans HBWg.out.2 hmh.size⟩
            clear hs6 hln6 hwh hmh
            refine hK.out _ _ ⟨HXh.out, HBWh.out.1⟩ (fun hHeld => ?_)
            clear hK K
            refine wpAnyH_done (by kernel_rfl) ?_ _
            go_wp2
            go_meet
            case rel => exact ⟨A, B, rfl, rfl, hab, hgeA, hgeB, HAh.out, HBh.out, HBWh.out⟩
          refine AllReadyH.cons (o := _) rfl (fun K hK => ?_) AllReadyH.nil
          go_simp
          obtain ⟨A, hA⟩ : ∃ A, w1x.heap.size = A := ⟨_, rfl⟩
          obtain ⟨w2x, hw2x⟩ : ∃ w2x, w1x.alloc (.cells D 156) = w2x := ⟨_, rfl⟩
          rw [hA, hw2x]
          have HSw2x : Hid (LB w2x N c (dg V) [.int .i64 (beh : Int)] 158 ∧ Below H3 w3 w2x ∧ H3 ≤ w2x.heap.size) := by rw [← hw2x]; exact ⟨HSw1x.out.1.alloc _, HSw1x.out.2.1.alloc HSw1x.out.2.2 _, by have := HSw1x.out.2.2; simp; omega⟩
          have HLAw2x : Hid (LB w2x A 0 (dg 0) [] 156) := by rw [← hw2x, ← hA]; exact HNEW.out _
          have hgeA : H3 ≤ A := by rw [← hA]; exact HSw1x.out.2.2
          have HLBw2x : Hid (LB w2x B 0 (dg 0) [] 156) := by rw [← hw2x]; exact HLBw1x.out.alloc _
          have hneBA : B < A := by rw [← hA]; exact HLBw1x.out.lt
          clear hA hw2x
          refine hK.out _ _ ⟨HSw2x.out.1, HSw2x.out.2.1⟩ (fun hHeld => ?_)
          clear hK K
          refine nmH ?_
          refine rdH 2 rfl (fun K hK => ?_)
          go_simp
          refine (largeOf_one _).mono ?_
          rintro e wf ⟨rfl, hb7⟩
          have HSwf : Hid (LB wf N c (dg V) [.int .i64 (beh : Int)] 158 ∧ Below H3 w3 wf ∧ H3 ≤ wf.heap.size) := ⟨(hb7.block N HSw2x.out.1.lt).trans HSw2x.out.1, HSw2x.out.2.1.trans (hb7.mono HSw2x.out.2.2), Nat.le_trans HSw2x.out.2.2 hb7.size⟩
          have HLBwf : Hid (LB wf B 0 (dg 0) [] 156) := (hb7.block B HLBw2x.out.lt).trans HLBw2x.out
          have HLAwf : Hid (LB wf A 0 (dg 0) [] 156) := (hb7.block A HLAw2x.out.lt).trans HLAw2x.out
          clear hb7
          dsimp only
          refine hK.out _ _ ⟨HSwf.out.1, HSwf.out.2.1⟩ (fun hHeld => ?_)
          clear hK K
          try simp only [Act.put]
          try simp only [List.setIfInBounds_toArray]
          try simp only [List.set_cons_succ]
          try simp only [List.set_cons_zero]
          have hab : A ≠ B := by omega
          refine rdH 5 rfl (fun K hK => ?_)
          have hs5 := HLAwf.out.cells c (dg V)
          have hln5 := lgL_length c (dg V)
          go_simp
          obtain ⟨wg, hwg⟩ : ∃ wg, wf.setRow A (lgL c (dg V)).toArray = wg := ⟨_, rfl⟩
          rw [hwg]
          have hmg : Mod A wf wg := by rw [← hwg]; exact (Mod.refl A wf).setRow _
          have HAg : Hid (LB wg A c (dg V) [] 156) := by rw [← hwg]; exact HLAwf.out.stored
          have HBg : Hid (LB wg B 0 (dg 0) [] 156) := HLBwf.out.other hmg (Ne.symm hab)
          have HXg : Hid (LB wg N c (dg V) [.int .i64 (beh : Int)] 158) := HSwf.out.1.other hmg (by omega)
          have HBWg : Hid (Below H3 w3 wg ∧ H3 ≤ wg.heap.size) := ⟨HSwf.out.2.1.trans (hmg.below hgeA HSwf.out.2.2), Nat.le_trans HSwf.out.2.2 hmg.size⟩
          clear hs5 hln5 hwg hmg
          refine hK.out _ _ ⟨HXg.out, HBWg.out.1⟩ (fun hHeld => ?_)
          clear hK K
          unfold lgV
          refine rdH 6 rfl (fun K hK => ?_)
          have hs6 := HBg.out.cells 1 (dg 1)
          have hln6 := lgL_length 1 (dg 1)
          go_simp
          obtain ⟨wh, hwh⟩ : ∃ wh, wg.setRow B (lgL 1 (dg 1)).toArray = wh := ⟨_, rfl⟩
          rw [hwh]
          have hmh : Mod B wg wh := by rw [← hwh]; exact (Mod.refl B wg).setRow _
          have HAh : Hid (LB wh A c (dg V) [] 156) := HAg.out.other hmh hab
          have HBh : Hid (LB wh B 1 (dg 1) [] 156) := by rw [← hwh]; exact HBg.out.stored
          have HXh : Hid (LB wh N c (dg V) [.int .i64 (beh : Int)] 158) := HXg.out.other hmh (by omega)
          have HBWh : Hid (Below H3 w3 wh ∧ H3 ≤ wh.heap.size) := ⟨HBWg.out.1.trans (hmh.below hgeB HBWg.out.2), Nat.le_trans HBWg.out.2 hmh.size⟩
          clear hs6 hln6 hwh hmh
          refine hK.out _ _ ⟨HXh.out, HBWh.out.1⟩ (fun hHeld => ?_)
          clear hK K
          refine wpAnyH_done (by kernel_rfl) ?_ _
          go_wp2
          go_meet
          case rel => exact ⟨A, B, rfl, rfl, hab, hgeA, hgeB, HAh.out, HBh.out, HBWh.out⟩
        case rest =>
          obtain ⟨A, B, rfl, rfl, hab, hgeA, hgeB, HAh, HBh, HBWh⟩ := hcut
          by_cases hq : Q < 0
          · obtain ⟨K5, hK5⟩ : ∃ K5 : Nat, -Q = (K5 : Int) := ⟨(-Q).toNat, by omega⟩
            have hK6 : K5 ≤ 1530 := by have := HQ.out; omega
            have HF5 : Hid (1 * 5 ^ K5 < be ^ 151 ∧ bitLen (1 * 5 ^ K5) ≤ 4798) := five_facts K5 hK6
            have HFV : Hid (bitLen V ≤ 4798) := ten_own V _ HV.out (by omega)
            have HPS : Hid (0 < 1 * 5 ^ K5) := Nat.mul_pos (by omega) (Nat.pow_pos (by omega))
            have HRS : Hid _ := fun (_ : Unit) => raise_any B 1 5 K5 [] 156 wc ⟨1, by omega, cnt_one1, HBh.out⟩ (by omega) (by omega) (by omega) HF5.out.1
            have HWX : Hid (quoW V (1 * 5 ^ K5) 0 K5 = decW 10 V (P - (beh : Int))) := quo_dec_lo V K5 _ _ Q HV.out (by omega) HQ.out hK5
            obtain ⟨F, hF⟩ : ∃ F, 1 * 5 ^ K5 = F := ⟨_, rfl⟩
            rw [hF] at HF5 HPS HRS HWX
            clear hF
            rw [show ((5 : Nat) : Int) = 5 from rfl] at HRS
            go_wp2_with fail
            refine (HRS.out ()).mono ?_
            rintro e wi ⟨rfl, hmi, hgi⟩
            obtain ⟨c2, hc2, hk2, hl2⟩ := hgi
            have HAi : Hid (LB wi A c (dg V) [] 156) := HAh.out.other hmi hab
            have HBi : Hid (LB wi B c2 (dg F) [] 156) := hl2
            have HBWi : Hid (Below H3 w3 wi ∧ H3 ≤ wi.heap.size) := ⟨HBWh.out.1.trans (hmi.below hgeB HBWh.out.2), Nat.le_trans HBWh.out.2 hmi.size⟩
            have HNE : Hid (∀ W', Calls Tryz.prog 101 #[.bool neg, .agg (lgL c (dg V)).toArray, .agg (lgL c2 (dg F)).toArray, .int .i64 Q] W' fun e w'' => e = .returned (.float .f64 (signBit neg + decW 10 V (P - (beh : Int)))) ∧ Below W'.heap.size W' w'') := fun W' => by
              rw [← HWX.out]
              exact nearest_any neg V F c c2 0 K5 Q W' HCN.out hc hk2 hc2 HPS.out HFV.out HF5.out.2 (by omega) (by omega) (by omega)
            clear hmi hk2 hl2
            go_upto_region 12 with fail
            refine wp_region_list ?_
            refine wpList_plain rfl fun K hK => ?_
            go_simp
            refine hK _ _ ?_
            clear hK K
            refine wpList_load_mid rfl _ _ rfl A 0 rfl _ d9 HAi.out.range hd9 hr9 (by rw [lgL_length]; exact lg_size) ?_
            refine wpList_load_mid rfl _ _ rfl B 0 rfl _ d9 HBi.out.range hd9 hr9 (by rw [lgL_length]; exact lg_size) ?_
            try simp only [Act.put]
            try simp only [List.setIfInBounds_toArray]
            try simp only [List.set_cons_succ]
            try simp only [List.set_cons_zero]
            go_wp2_with fail
            refine (HNE.out _).mono ?_
            rintro e wj ⟨rfl, hbj⟩
            have HBj : Hid (Below w3.heap.size w3 wj) := by rw [hH3]; exact HBWi.out.1.trans (hbj.mono HBWi.out.2)
            clear hbj
            go_wp2
            go_ret2
            exact ⟨_, none, j2, ⟨V, beh, none, j1, HDR.out, .inr ⟨rfl, P, none, HPW2.out, .inr ⟨rfl, rfl, by rw [if_neg (by decide)]⟩⟩⟩, hj2, rfl, HR3.out.below HBj.out, HM3.out.trans (Mod.of_below HBj.out)⟩
          · obtain ⟨K5, hK5⟩ : ∃ K5 : Nat, Q = (K5 : Int) := ⟨Q.toNat, by omega⟩
            have hq' : decide (Q < 0) = false := decide_eq_false hq
            have hK6 : K5 ≤ 310 := by have := HQ.out; omega
            subst hK5
            have HF5 : Hid (V * 5 ^ K5 < be ^ 151 ∧ bitLen (V * 5 ^ K5) ≤ 4798) := ten_facts V K5 _ HV.out (by omega) hK6
            have HRS : Hid _ := fun (_ : Unit) => raise_any A V 5 K5 [] 156 wc ⟨c, hc, HCN.out, HAh.out⟩ (by omega) (by omega) (by omega) HF5.out.1
            have HWX : Hid (quoW (V * 5 ^ K5) 1 K5 0 = decW 10 V (P - (beh : Int))) := quo_dec_hi V K5 _ _ (K5 : Int) HV.out (by omega) HQ.out rfl
            obtain ⟨F, hF⟩ : ∃ F, V * 5 ^ K5 = F := ⟨_, rfl⟩
            rw [hF] at HF5 HRS HWX
            clear hF
            rw [show ((5 : Nat) : Int) = 5 from rfl] at HRS
            go_wp2_with fail
            refine (HRS.out ()).mono ?_
            rintro e wi ⟨rfl, hmi, hgi⟩
            obtain ⟨c2, hc2, hk2, hl2⟩ := hgi
            have HAi : Hid (LB wi A c2 (dg F) [] 156) := hl2
            have HBi : Hid (LB wi B 1 (dg 1) [] 156) := HBh.out.other hmi (Ne.symm hab)
            have HBWi : Hid (Below H3 w3 wi ∧ H3 ≤ wi.heap.size) := ⟨HBWh.out.1.trans (hmi.below hgeA HBWh.out.2), Nat.le_trans HBWh.out.2 hmi.size⟩
            have HNE : Hid (∀ W', Calls Tryz.prog 101 #[.bool neg, .agg (lgL c2 (dg F)).toArray, .agg (lgL 1 (dg 1)).toArray, .int .i64 (K5 : Int)] W' fun e w'' => e = .returned (.float .f64 (signBit neg + decW 10 V (P - (beh : Int)))) ∧ Below W'.heap.size W' w'') := fun W' => by
              rw [← HWX.out]
              exact nearest_any neg F 1 c2 1 K5 0 (K5 : Int) W' hk2 hc2 cnt_one1 (by omega) (by omega) HF5.out.2 (by decide) (by omega) (by omega) (by omega)
            clear hmi hk2 hl2
            go_upto_region 12 with fail
            refine wp_region_list ?_
            refine wpList_plain rfl fun K hK => ?_
            go_simp
            refine hK _ _ ?_
            clear hK K
            refine wpList_load_mid rfl _ _ rfl A 0 rfl _ d9 HAi.out.range hd9 hr9 (by rw [lgL_length]; exact lg_size) ?_
            refine wpList_load_mid rfl _ _ rfl B 0 rfl _ d9 HBi.out.range hd9 hr9 (by rw [lgL_length]; exact lg_size) ?_
            try simp only [Act.put]
            try simp only [List.setIfInBounds_toArray]
            try simp only [List.set_cons_succ]
            try simp only [List.set_cons_zero]
            go_wp2_with fail
            refine (HNE.out _).mono ?_
            rintro e wj ⟨rfl, hbj⟩
            have HBj : Hid (Below w3.heap.size w3 wj) := by rw [hH3]; exact HBWi.out.1.trans (hbj.mono HBWi.out.2)
            clear hbj
            go_wp2
            go_ret2
            exact ⟨_, none, j2, ⟨V, beh, none, j1, HDR.out, .inr ⟨rfl, P, none, HPW2.out, .inr ⟨rfl, rfl, by rw [if_neg (by decide)]⟩⟩⟩, hj2, rfl, HR3.out.below HBj.out, HM3.out.trans (Mod.of_below HBj.out)⟩
end Go.Proofs.YtoedefjngipeiaaGreatDoor

