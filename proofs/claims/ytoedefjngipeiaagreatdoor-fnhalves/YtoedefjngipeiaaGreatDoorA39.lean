import Derived.Test.YtoedefjngipeiaaGreatDoorRows
import Derived.Test.YtoedefjngipeiaaGreatDoorA08
import Derived.WalkKit
import Derived.WalkSpells
import Derived.WalkLawsBesides
import Derived.Outline
import Derived.BigQuiet
import Derived.Deep.QuietTactic
import Derived.Test.YtoedefjngipeiaaGreatDoorA38
import Derived.Deep.RegionHeld3
import Derived.Test.YtoedefjngipeiaaGreatDoorA14
/- The digit of a byte, of the program. -/
namespace Go.Proofs.YtoedefjngipeiaaGreatDoor
open Go.ChangeShapes Go.WideShapes Go.RowKit

set_option maxHeartbeats 400000 in
theorem implDigit_any (c : Int) (w : World) (h0 : 0 ≤ c) (h1 : c ≤ 255) :
    Calls Tryz.prog 106 #[.int .u8 c] w fun e w' => e = .returned (.int .u64 (digN 36 c)) ∧ w' = w := by
  by_cases ha : 48 ≤ c ∧ c ≤ 57
  · have hv : digN 36 c = c - 48 := by unfold digN; rw [if_pos ha]
    rw [hv]; clear hv
    obtain ⟨ha, hb⟩ := ha
    go_enter Tryz.func106, Tryz.ntmps106
    go_wp2
    go_ret
    exact ⟨rfl, rfl⟩
  · by_cases hb : 97 ≤ c ∧ c ≤ 122
    · have hv : digN 36 c = c - 97 + 10 := by unfold digN; rw [if_neg ha, if_pos hb]
      rw [hv]; clear hv
      obtain ⟨hb, hc⟩ := hb
      have hd : 57 < c := by omega
      clear ha
      go_enter Tryz.func106, Tryz.ntmps106
      go_wp2
      go_ret
      exact ⟨rfl, rfl⟩
    · have hv : digN 36 c = 36 := by unfold digN; rw [if_neg ha, if_neg hb]
      rw [hv]; clear hv
      go_enter Tryz.func106, Tryz.ntmps106
      go_wp2
      all_goals (try (exfalso; omega))
      all_goals
        go_ret
        exact ⟨rfl, rfl⟩
theorem implDigit_byte (c : UInt8) (w : World) :
    Calls Tryz.prog 106 #[.int .u8 c.toNat] w fun e w' => e = .returned (.int .u64 (digN 36 c.toNat)) ∧ w' = w :=
  implDigit_any _ w (by omega) (by have := c.toNat_lt; omega)
end Go.Proofs.YtoedefjngipeiaaGreatDoor

/- The program's reader: a power behind a mark. -/
namespace Go.Proofs.YtoedefjngipeiaaGreatDoor
open Go.ChangeShapes Go.WideShapes Go.RowKit

/-- The number that a run of digits tells, but no further digits from a million on. -/
def capM (V P : Nat) : Prop := (V < 1000000 ∧ P = V) ∨ (1000000 ≤ V ∧ 1000000 ≤ P ∧ P < 10000000)
theorem capM_zero : capM 0 0 := .inl ⟨by omega, rfl⟩
theorem capM_step {V P d : Nat} (h : capM V P) (hd : d < 10) (hP : P < 1000000) : capM (V * 10 + d) (P * 10 + d) := by
  rcases h with ⟨h1, rfl⟩ | ⟨h1, h2, h3⟩
  · by_cases h : P * 10 + d < 1000000
    · exact .inl ⟨h, rfl⟩
    · exact .inr ⟨by omega, by omega, by omega⟩
  · omega
theorem capM_stay {V P d : Nat} (h : capM V P) (hP : ¬ P < 1000000) : capM (V * 10 + d) P := by
  rcases h with ⟨h1, rfl⟩ | ⟨h1, h2, h3⟩
  · omega
  · exact .inr ⟨by omega, h2, h3⟩
theorem capM_lt {V P : Nat} (h : capM V P) : P < 10000000 := by rcases h with ⟨h1, rfl⟩ | ⟨h1, h2, h3⟩ <;> omega
/-- What is read behind a mark: the power and the end, or the place where digits lack. -/
def Pow (m : Int) (s : ByteArray) (j : Nat) (P : Int) (r : Option Nat) (i : Nat) : Prop :=
  (bAt s j ≠ m ∧ P = 0 ∧ r = none ∧ i = j) ∨
  (bAt s j = m ∧ ∃ neg k, Sgn s (j + 1) neg k ∧ Run 10 s k i ∧ ((i = k ∧ P = 0 ∧ r = some i) ∨ (k < i ∧ r = none ∧ ∃ N, capM (runV 10 s k i) N ∧ P = if neg then -(N : Int) else (N : Int))))
/-- A run's number grows by its digits. -/
theorem runV_zero (b : Nat) (s : ByteArray) (k : Nat) : runV b s k k = 0 := by
  unfold runV
  have : (s.extract k k).data.toList = [] := by
    apply List.eq_nil_of_length_eq_zero
    have : (s.extract k k).data.toList.length = (s.extract k k).size := by simp
    rw [this, ByteArray.size_extract]; omega
  rw [this]; exact valN_nil b
theorem valN_snoc (b : Nat) (l : List UInt8) (c : UInt8) (d : Nat) (hd : (d : Int) = digN 99 (c.toNat : Int)) : valN b (l ++ [c]) = valN b l * b + d := by
  have h1 := valN_cast b (l ++ [c])
  rw [val_snoc, ← valN_cast b l, ← hd, ← Int.natCast_mul, ← Int.natCast_add] at h1
  exact Int.ofNat_inj.1 h1
theorem runV_step (b : Nat) (s : ByteArray) (k j : Nat) (hk : k ≤ j) (hj : j < s.size) (d : Nat) (hd : (d : Int) = digN 99 (bAt s j)) : runV b s k (j + 1) = runV b s k j * b + d := by
  have e : (s.extract k (j + 1)).data.toList = (s.extract k j).data.toList ++ [s[j]] := by
    have g : ∀ i, i ≤ s.size → (s.extract k i).data.toList = (s.data.toList.drop k).take (i - k) := by intro i _; simp
    rw [g (j + 1) hj, g j (by omega), show j + 1 - k = (j - k) + 1 by omega, List.take_succ_eq_append_getElem (by simp; omega)]
    congr 2
    rw [List.getElem_drop]
    have : k + (j - k) = j := by omega
    simp only [this]
    rfl
  unfold runV
  rw [e]
  exact valN_snoc b _ s[j] d (by rw [hd, bAt_in s j hj])
/-- Where the reader stands. -/
def rrAt (G : Nat) (w : World) : Nat := match w.cell? ⟨G, 1, none⟩ with | some (.int _ j) => j.toNat | _ => 0
theorem rrAt_is {G k : Nat} {w : World} {s : ByteArray} (h : Rr w G s k) : rrAt G w = k := by
  unfold rrAt
  rw [h.at_]
  exact Int.toNat_natCast k
set_option maxHeartbeats 2000000 in
set_option maxRecDepth 100000 in
theorem power_any (m : UInt8) (hm : m.toNat ≠ 0) (G j : Nat) (s : ByteArray) (w : World) (h : Rr w G s j) (hj : j ≤ s.size) (hs : s.size ≤ 1200) :
    Calls Tryz.prog 100 #[.pointer (some ⟨G, 0, none⟩), .string ⟨#[m]⟩] w fun e w' => ∃ P r i, Pow (m.toNat : Int) s j P r i ∧ i ≤ s.size ∧ e = .returned (.tuple #[.int .i64 P, errV r]) ∧ Rr w' G s i ∧ Mod G w w' := by
  have HR : Hid (Rr w G s j) := h
  have HS : Hid (Calls Tryz.prog 84 #[.pointer (some ⟨G, 0, none⟩), .string ⟨#[m]⟩] w fun e w' => e = .returned (.bool (decide (bAt s j = (m.toNat : Int)))) ∧ ∃ n, w' = w.drewN n) := by
    rw [← pre_one s j m hm]
    exact sees_any G j s ⟨#[m]⟩ w h hj
  have hz : (⟨#[m]⟩ : ByteArray).size = 1 := rfl
  clear h
  by_cases hq : bAt s j = (m.toNat : Int)
  · rw [decide_eq_true hq] at HS
    have hin : j < s.size := by
      rcases Nat.lt_or_ge j s.size with h | h
      · exact h
      · rw [bAt_out s j (by omega)] at hq; omega
    have HQ : Hid (bAt s j = (m.toNat : Int)) := hq
    have hat := HR.out.at_
    have hfr := HR.out.froz 1
    obtain ⟨M, hM⟩ : ∃ M : ByteArray, (⟨#[m]⟩ : ByteArray) = M := ⟨_, rfl⟩
    rw [hM] at HS hz ⊢
    obtain ⟨neg, k, hsg⟩ := sgn_any s (j + 1)
    have HSG : Hid (Sgn s (j + 1) neg k) := hsg
    have hk1 := sgn_le s (j + 1) neg k hsg (by omega)
    have hjj : (j : Int) ≤ 1200 := by omega
    clear hq hM hm hsg
    go_enter Tryz.func100, Tryz.ntmps100
    go_wp2_with fail
    go_step3
    go_wp2_with fail
    refine HS.out.mono ?_
    rintro e w' ⟨rfl, n, rfl⟩
    have HR1 : Hid (Rr ((w.drewN n).setCell ⟨G, 1, none⟩ (.int .i64 ((j : Int) + 1))) G s (j + 1)) := by
      have h := (HR.out.drewN n).set (j + 1)
      rw [show ((j + 1 : Nat) : Int) = (j : Int) + 1 by omega] at h
      exact h
    have HM1 : Hid (Mod G w ((w.drewN n).setCell ⟨G, 1, none⟩ (.int .i64 ((j : Int) + 1)))) := ((Mod.refl G w).drewN n).setCell _ _
    have HSN : Hid _ := fun (_ : Unit) => rsign_any G (j + 1) s _ HR1.out (by omega) hs neg k HSG.out
    go_wp2_with fail
    refine (HSN.out ()).mono ?_
    rintro e w1 ⟨rfl, hr2, hm2⟩
    have HR2 : Hid (Rr w1 G s k) := hr2
    have HM2 : Hid (Mod G w w1) := HM1.out.trans hm2
    have hat2 := hr2.at_
    clear hr2 hm2 HR HR1 HM1 HSN hat hfr HS
    go_wp2_with fail
    go_quiet (fail)
    go_wp2_with fail
    have HR3 : Hid (Rr (w1.drewN nq) G s k) := HR2.out.drewN nq
    have HM3 : Hid (Mod G w (w1.drewN nq)) := HM2.out.drewN nq
    try go_step3
    try go_wp2_with fail
    go_loopw [7] (fun pv wl => ∃ (i N : Nat), pv = .int .i64 (N : Int) ∧ k ≤ i ∧ i ≤ s.size ∧ N < 10000000 ∧ Hid (capM (runV 10 s k i) N) ∧ Hid (∀ i', k ≤ i' → i' < i → Dig 10 s i') ∧ Hid (Rr wl G s i) ∧ Hid (Mod G w wl)) (fun _ wl => s.size - rrAt G wl)
    case atStart => exact ⟨k, 0, rfl, Nat.le_refl _, hk1, by omega, by show capM (runV 10 s k k) 0; rw [runV_zero]; exact capM_zero, fun i' h1 h2 => by omega, HR3.out, HM3.out⟩
    case round =>
      clear HR3 HM3 HR2 HM2 hat2
      obtain ⟨i, N, rfl, hki, his, hN, HC, HI, HR, HM⟩ := hrel
      have htx := HR.out.txt
      have hat := HR.out.at_
      have hfr := HR.out.froz 1
      by_cases hlt : i < s.size
      · have hlt' : (i : Int) < (s.size : Int) := by omega
        have HD : Hid _ := fun w => implDigit_byte s[i] w
        have hd0 := digN_lo 36 (s[i].toNat : Int) (by omega)
        have hd1 := digN_hi 36 (s[i].toNat : Int) (by omega)
        have HDS : Hid _ := fun (_ : Unit) => digN_same 36 99 (s[i].toNat : Int) 10 (by omega) (by omega)
        have HBA : Hid _ := fun (_ : Unit) => bAt_in s i hlt
        obtain ⟨d, hd⟩ : ∃ d : Int, digN 36 (s[i].toNat : Int) = d := ⟨_, rfl⟩
        rw [hd] at HD hd0 hd1 HDS
        clear hd
        by_cases hten : 10 ≤ d
        · have HEND : Hid (¬ Dig 10 s i) := fun h => by have h1 := h.2; rw [HBA.out ()] at h1; have h2 := (HDS.out ()).1.2 h1; omega
          by_cases hik : i = k
          · subst hik
            go_wp2_with fail
            go_quiet (fail)
            go_wp2_with fail
            go_region_held3 (fun w' => w'.cell? ⟨G, 0, none⟩ = some (.string s) ∧ w'.cell? ⟨G, 1, none⟩ = some (.int .i64 (i : Int))) (go_keep) (first | (go_at_call 106; refine (HD.out _).mono ?_; rintro e w' ⟨rfl, rfl⟩))
            all_goals go_wp2_with fail
            go_quiet (fail)
            go_wp2_with fail
            try rw [Exit.noGoto_ret]
            go_ret2
            exact ⟨0, some i, i, .inr ⟨HQ.out, neg, i, HSG.out, ⟨Nat.le_refl _, his, HI.out, HEND.out⟩, .inl ⟨rfl, rfl, rfl⟩⟩, his, rfl, HR.out, HM.out⟩
          · have hb : ((i : Int) == (k : Int)) = false := beq_eq_false_iff_ne.2 (by omega)
            cases neg
            all_goals
              go_wp2_with fail
              go_quiet (fail)
              go_wp2_with fail
              go_region_held3 (fun w' => w'.cell? ⟨G, 0, none⟩ = some (.string s) ∧ w'.cell? ⟨G, 1, none⟩ = some (.int .i64 (i : Int))) (go_keep) (first | (go_at_call 106; refine (HD.out _).mono ?_; rintro e w' ⟨rfl, rfl⟩))
              all_goals go_wp2_with fail
              try rw [Exit.noGoto_ret]
              go_ret2
              exact ⟨_, none, i, .inr ⟨HQ.out, _, k, HSG.out, ⟨hki, his, HI.out, HEND.out⟩, .inr ⟨by omega, rfl, N, HC.out, rfl⟩⟩, his, rfl, HR.out, HM.out⟩
        · have hten' : decide (10 ≤ d) = false := decide_eq_false hten
          have hten2 : d < 10 := by omega
          have HDG : Hid (Dig 10 s i) := ⟨hlt, by rw [HBA.out ()]; exact (HDS.out ()).1.1 (by omega)⟩
          by_cases hsm : (N : Int) < 1000000
          · clear hten
            go_wp2_with fail
            go_quiet (fail)
            go_wp2_with fail
            go_region_held3 (fun w' => w'.cell? ⟨G, 0, none⟩ = some (.string s) ∧ w'.cell? ⟨G, 1, none⟩ = some (.int .i64 (i : Int))) (go_keep) (first | (go_at_call 106; refine (HD.out _).mono ?_; rintro e w' ⟨rfl, rfl⟩))
            all_goals go_wp2_with fail
            refine ⟨⟨i + 1, N * 10 + d.toNat, by first | rfl | (congr 1; omega), by omega, by omega, by omega, ?_, ?_, ?_, (HM.out.drewN _).setCell _ _⟩, ?_⟩
            · show capM (runV 10 s k (i + 1)) _
              rw [runV_step 10 s k i hki hlt d.toNat (by rw [HBA.out (), ← (HDS.out ()).2 (by omega)]; omega)]
              exact capM_step HC.out (by omega) (by omega)
            · intro i' h1 h2
              by_cases e : i' = i
              · subst e; exact HDG.out
              · exact HI.out i' h1 (by omega)
            · have h := Rr.set (w := _) (show Rr _ G s i from HR.out) (i + 1)
              rw [show ((i + 1 : Nat) : Int) = (i : Int) + 1 by omega] at h
              exact h
            · rw [rrAt_is HR.out]
              refine Nat.lt_of_le_of_lt (Nat.le_of_eq (congrArg (s.size - ·) (rrAt_is (s := s) (k := i + 1) ?_))) (show s.size - (i + 1) < s.size - i by omega)
              have h := Rr.set (w := _) (show Rr _ G s i from HR.out) (i + 1)
              rw [show ((i + 1 : Nat) : Int) = (i : Int) + 1 by omega] at h
              exact h
          · have hsm' : decide ((N : Int) < 1000000) = false := decide_eq_false hsm
            clear hten
            go_wp2_with fail
            go_quiet (fail)
            go_wp2_with fail
            go_region_held3 (fun w' => w'.cell? ⟨G, 0, none⟩ = some (.string s) ∧ w'.cell? ⟨G, 1, none⟩ = some (.int .i64 (i : Int))) (go_keep) (first | (go_at_call 106; refine (HD.out _).mono ?_; rintro e w' ⟨rfl, rfl⟩))
            all_goals go_wp2_with fail
            refine ⟨⟨i + 1, N, by first | rfl | (congr 1; omega), by omega, by omega, by omega, ?_, ?_, ?_, (HM.out.drewN _).setCell _ _⟩, ?_⟩
            · show capM (runV 10 s k (i + 1)) _
              rw [runV_step 10 s k i hki hlt d.toNat (by rw [HBA.out (), ← (HDS.out ()).2 (by omega)]; omega)]
              exact capM_stay HC.out (by omega)
            · intro i' h1 h2
              by_cases e : i' = i
              · subst e; exact HDG.out
              · exact HI.out i' h1 (by omega)
            · have h := Rr.set (w := _) (show Rr _ G s i from HR.out) (i + 1)
              rw [show ((i + 1 : Nat) : Int) = (i : Int) + 1 by omega] at h
              exact h
            · rw [rrAt_is HR.out]
              refine Nat.lt_of_le_of_lt (Nat.le_of_eq (congrArg (s.size - ·) (rrAt_is (s := s) (k := i + 1) ?_))) (show s.size - (i + 1) < s.size - i by omega)
              have h := Rr.set (w := _) (show Rr _ G s i from HR.out) (i + 1)
              rw [show ((i + 1 : Nat) : Int) = (i : Int) + 1 by omega] at h
              exact h
      · have hlt' : decide ((i : Int) < (s.size : Int)) = false := decide_eq_false (by omega)
        have HEND : Hid (¬ Dig 10 s i) := fun h => hlt h.1
        by_cases hik : i = k
        · subst hik
          go_wp2_with fail
          go_quiet (fail)
          go_wp2_with fail
          go_quiet (fail)
          go_wp2_with fail
          try rw [Exit.noGoto_ret]
          go_ret2
          exact ⟨0, some i, i, .inr ⟨HQ.out, neg, i, HSG.out, ⟨Nat.le_refl _, his, HI.out, HEND.out⟩, .inl ⟨rfl, rfl, rfl⟩⟩, his, rfl, HR.out, HM.out⟩
        · have hb : ((i : Int) == (k : Int)) = false := beq_eq_false_iff_ne.2 (by omega)
          cases neg
          all_goals
            go_wp2_with fail
            go_quiet (fail)
            go_wp2_with fail
            try rw [Exit.noGoto_ret]
            go_ret2
            exact ⟨_, none, i, .inr ⟨HQ.out, _, k, HSG.out, ⟨hki, his, HI.out, HEND.out⟩, .inr ⟨by omega, rfl, N, HC.out, rfl⟩⟩, his, rfl, HR.out, HM.out⟩
  · rw [decide_eq_false hq] at HS
    have HQ : Hid (bAt s j ≠ (m.toNat : Int)) := hq
    clear hq
    go_enter Tryz.func100, Tryz.ntmps100
    go_wp2_with fail
    go_step3
    go_wp2_with fail
    refine HS.out.mono ?_
    rintro e w' ⟨rfl, n, rfl⟩
    go_wp2_with fail
    try rw [Exit.noGoto_ret]
    go_ret2
    exact ⟨0, none, j, .inl ⟨HQ.out, rfl, rfl, rfl⟩, hj, rfl, HR.out.drewN n, (Mod.refl G w).drewN n⟩
end Go.Proofs.YtoedefjngipeiaaGreatDoor

/- Digits with a point among them: plain. -/
namespace Go.Proofs.YtoedefjngipeiaaGreatDoor
open Go.RowKit

/-- Where the program's reader of digits stands: digits so far, how many behind the point, whether one is lacking. -/
def St2 (b : Nat) (s : ByteArray) (k : Nat) (pt : Bool) (i : Nat) (l : List UInt8) (beh : Nat) (lack : Bool) : Prop :=
  (pt = false ∧ k ≤ i ∧ (∀ i', k ≤ i' → i' < i → Dig b s i') ∧ l = (s.extract k i).data.toList ∧ beh = 0 ∧ lack = decide (i = k)) ∨
  (pt = true ∧ ∃ p, k < p ∧ Run b s k p ∧ bAt s p = 46 ∧ p + 1 ≤ i ∧ (∀ i', p + 1 ≤ i' → i' < i → Dig b s i') ∧ l = (s.extract k p).data.toList ++ (s.extract (p + 1) i).data.toList ∧ beh = i - (p + 1) ∧ lack = decide (i = p + 1))
/-- What it answers. -/
def DgR (b : Nat) (s : ByteArray) (k : Nat) (V beh : Nat) (r : Option Nat) (j : Nat) : Prop :=
  ∃ p, Run b s k p ∧ ((p = k ∧ r = some k ∧ j = k) ∨ (k < p ∧ (
    (bAt s p ≠ 46 ∧ r = none ∧ V = valN b (s.extract k p).data.toList ∧ beh = 0 ∧ j = p) ∨
    (bAt s p = 46 ∧ ∃ i, Run b s (p + 1) i ∧ ((i = p + 1 ∧ r = some i ∧ j = i) ∨ (p + 1 < i ∧ r = none ∧ V = valN b (s.extract k p ++ s.extract (p + 1) i).data.toList ∧ beh = i - (p + 1) ∧ j = i))))))
theorem extract_nil (s : ByteArray) (k : Nat) : (s.extract k k).data.toList = [] := by
  apply List.eq_nil_of_length_eq_zero
  have : (s.extract k k).data.toList.length = (s.extract k k).size := by simp
  rw [this, ByteArray.size_extract]; omega
theorem extract_snoc (s : ByteArray) (k j : Nat) (hk : k ≤ j) (hj : j < s.size) : (s.extract k (j + 1)).data.toList = (s.extract k j).data.toList ++ [s[j]] := by
  have g : ∀ i, i ≤ s.size → (s.extract k i).data.toList = (s.data.toList.drop k).take (i - k) := by intro i _; simp
  rw [g (j + 1) hj, g j (by omega), show j + 1 - k = (j - k) + 1 by omega, List.take_succ_eq_append_getElem (by simp; omega)]
  congr 2
  rw [List.getElem_drop]
  have : k + (j - k) = j := by omega
  simp only [this]
  rfl
theorem extract_len (s : ByteArray) (k j : Nat) (hj : j ≤ s.size) : (s.extract k j).data.toList.length = j - k := by
  simp; omega
theorem st2_start (b : Nat) (s : ByteArray) (k : Nat) : St2 b s k false k [] 0 true :=
  .inl ⟨rfl, Nat.le_refl _, fun i' h1 h2 => by omega, (extract_nil s k).symm, rfl, by simp⟩
theorem st2_digit {b : Nat} {s : ByteArray} {k i beh : Nat} {pt lack : Bool} {l : List UInt8} (h : St2 b s k pt i l beh lack) (hi : i < s.size) (hd : Dig b s i) :
    St2 b s k pt (i + 1) (l ++ [s[i]]) (if pt then beh + 1 else beh) false := by
  rcases h with ⟨rfl, h1, h2, rfl, rfl, rfl⟩ | ⟨rfl, p, h1, h2, h3, h4, h5, rfl, rfl, rfl⟩
  · refine .inl ⟨rfl, by omega, fun i' a c => ?_, (extract_snoc s k i h1 hi).symm, rfl, by rw [decide_eq_false (by omega)]⟩
    by_cases e : i' = i
    · subst e; exact hd
    · exact h2 i' a (by omega)
  · refine .inr ⟨rfl, p, h1, h2, h3, by omega, fun i' a c => ?_, by rw [extract_snoc s (p + 1) i h4 hi, List.append_assoc], by rw [if_pos rfl]; omega, by rw [decide_eq_false (by omega)]⟩
    by_cases e : i' = i
    · subst e; exact hd
    · exact h5 i' a (by omega)
theorem no_dig (b : Nat) (s : ByteArray) (i : Nat) (hb : b ≤ 36) (h : bAt s i = 46) : ¬ Dig b s i := by
  intro hd
  have := hd.2
  rw [h] at this
  unfold digN at this
  rw [if_neg (by omega), if_neg (by omega)] at this
  omega
theorem st2_point {b : Nat} {s : ByteArray} {k i beh : Nat} {l : List UInt8} (h : St2 b s k false i l beh false) (hi : i < s.size) (hb : b ≤ 36) (hp : bAt s i = 46) : St2 b s k true (i + 1) l 0 true := by
  rcases h with ⟨_, h1, h2, rfl, _, h3⟩ | ⟨h, _⟩
  · have hne : ¬ i = k := by intro e; rw [decide_eq_true e] at h3; cases h3
    refine .inr ⟨rfl, i, by omega, ⟨h1, by omega, h2, no_dig b s i hb hp⟩, hp, Nat.le_refl _, fun i' a c => by omega, by rw [extract_nil, List.append_nil], by omega, by simp⟩
  · cases h
theorem st2_len {b : Nat} {s : ByteArray} {k i beh : Nat} {pt lack : Bool} {l : List UInt8} (h : St2 b s k pt i l beh lack) (hi : i ≤ s.size) : k ≤ i ∧ l.length ≤ i - k ∧ beh ≤ i - k ∧ good (b : Int) l := by
  have hg : ∀ k i, i ≤ s.size → (∀ i', k ≤ i' → i' < i → Dig b s i') → good (b : Int) (s.extract k i).data.toList := by
    intro k i hi h2
    by_cases hki : k ≤ i
    · refine good_of b _ fun x hx => ?_
      have hz : (s.extract k i).size = i - k := by rw [ByteArray.size_extract]; omega
      obtain ⟨h', e⟩ := run_get s k i x hi hx
      rw [e, ← bAt_in s (k + x) h']
      exact (h2 (k + x) (by omega) (by omega)).2
    · intro c hc
      have : (s.extract k i).data.toList = [] := by
        apply List.eq_nil_of_length_eq_zero
        rw [extract_len s k i hi]; omega
      rw [this] at hc; cases hc
  rcases h with ⟨rfl, h1, h2, rfl, rfl, rfl⟩ | ⟨rfl, p, h1, h2, h3, h4, h5, rfl, rfl, rfl⟩
  · exact ⟨h1, by rw [extract_len s k i hi]; exact Nat.le_refl _, by omega, hg k i hi h2⟩
  · refine ⟨by omega, ?_, by omega, ?_⟩
    · rw [List.length_append, extract_len s k p h2.2.1, extract_len s (p + 1) i hi]; omega
    · intro c hc
      rcases List.mem_append.1 hc with hc | hc
      · exact hg k p h2.2.1 h2.2.2.1 c hc
      · exact hg (p + 1) i hi h5 c hc
theorem st2_end {b : Nat} {s : ByteArray} {k i beh : Nat} {pt lack : Bool} {l : List UInt8} (h : St2 b s k pt i l beh lack) (hi : i ≤ s.size) (hd : ¬ Dig b s i) (hn : ¬ (bAt s i = 46 ∧ pt = false ∧ lack = false)) :
    (lack = true → ∀ V beh', DgR b s k V beh' (some i) i) ∧ (lack = false → DgR b s k (valN b l) beh none i) := by
  rcases h with ⟨rfl, h1, h2, rfl, rfl, rfl⟩ | ⟨rfl, p, h1, h2, h3, h4, h5, rfl, rfl, rfl⟩
  · constructor
    · intro hl V beh'
      have e : i = k := of_decide_eq_true hl
      subst e
      exact ⟨i, ⟨h1, hi, h2, hd⟩, .inl ⟨rfl, rfl, rfl⟩⟩
    · intro hl
      have e : ¬ i = k := of_decide_eq_false hl
      exact ⟨i, ⟨h1, hi, h2, hd⟩, .inr ⟨by omega, .inl ⟨fun x => hn ⟨x, rfl, hl⟩, rfl, rfl, rfl, rfl⟩⟩⟩
  · constructor
    · intro hl V beh'
      have e : i = p + 1 := of_decide_eq_true hl
      exact ⟨p, h2, .inr ⟨h1, .inr ⟨h3, i, ⟨h4, hi, h5, hd⟩, .inl ⟨e, rfl, rfl⟩⟩⟩⟩
    · intro hl
      have e : ¬ i = p + 1 := of_decide_eq_false hl
      refine ⟨p, h2, .inr ⟨h1, .inr ⟨h3, i, ⟨h4, hi, h5, hd⟩, .inr ⟨by omega, rfl, ?_, rfl, rfl⟩⟩⟩⟩
      congr 1
end Go.Proofs.YtoedefjngipeiaaGreatDoor

