import Derived.Test.YtcbhcdaedchmlaaDoorA24
import Derived.Test.YtcbhcdaedchmlaaDoorRows
import Derived.Test.YtcbhcdaedchmlaaDoorA15
import Derived.WalkKit
import Derived.WalkSpells
import Derived.WalkLawsBesides
import Derived.Outline
import Derived.BigQuiet
import Derived.Deep.QuietTactic
import Derived.Deep.RegionHeld3
/- The program's reader: words that are expected. -/
namespace Go.Proofs.YtcbhcdaedchmlaaDoor
open Go.ChangeShapes Go.WideShapes Go.RowKit

/-- An error that tells a place, or none. -/
def errV : Option Nat → Value
  | none => .nilIface
  | some k => .iface 64 (.agg #[.int .i64 (k : Int)])
/-- How far a word of three bytes is met: nothing where it is met whole. -/
def Wrd (nan : Bool) (s : ByteArray) (k : Nat) (r : Option Nat) (j : Nat) : Prop :=
  ∃ i, i ≤ 3 ∧ (∀ t, t < i → bAt s (k + t) = wordC nan t) ∧ j = k + i ∧ ((i < 3 ∧ bAt s (k + i) ≠ wordC nan i ∧ r = some (k + i)) ∨ (i = 3 ∧ r = none))
def wordS (nan : Bool) : ByteArray := if nan then ⟨#[110, 97, 110]⟩ else ⟨#[105, 110, 102]⟩
set_option maxHeartbeats 1000000 in
theorem expect_any (nan : Bool) (G k : Nat) (s : ByteArray) (w : World) (h : Rr w G s k) (hk : k ≤ s.size) (hs : s.size ≤ 1200) :
    Calls Tryd.prog 45 #[.pointer (some ⟨G, 0, none⟩), .string (wordS nan)] w fun e w' => ∃ r j, Wrd nan s k r j ∧ e = .returned (errV r) ∧ Rr w' G s j ∧ Mod G w w' := by
  have HR : Hid (Rr w G s k) := h
  have hz : (wordS nan).size = 3 := by cases nan <;> rfl
  have HE : Hid (∀ i, i < 3 → ∃ c : UInt8, c.toNat ≠ 0 ∧ (c.toNat : Int) = wordC nan i ∧ (wordS nan).extract i (i + 1) = ⟨#[c]⟩) := by
    intro i hi
    have : i = 0 ∨ i = 1 ∨ i = 2 := by omega
    rcases this with rfl | rfl | rfl <;> cases nan
    · exact ⟨105, by decide, by decide, by decide⟩
    · exact ⟨110, by decide, by decide, by decide⟩
    · exact ⟨110, by decide, by decide, by decide⟩
    · exact ⟨97, by decide, by decide, by decide⟩
    · exact ⟨102, by decide, by decide, by decide⟩
    · exact ⟨110, by decide, by decide, by decide⟩
  obtain ⟨t, ht⟩ : ∃ t, wordS nan = t := ⟨_, rfl⟩
  rw [ht] at hz HE ⊢
  clear h ht
  go_enter Tryd.func45, Tryd.ntmps45
  go_wp2
  go_loopw [8] (fun iv wl => ∃ i : Nat, iv = .int .i64 (i : Int) ∧ i ≤ 3 ∧ k + i ≤ s.size ∧ Hid (∀ t, t < i → bAt s (k + t) = wordC nan t) ∧ Hid (Rr wl G s (k + i)) ∧ Hid (Mod G w wl)) (fun iv _ => 3 - (intOf iv).toNat)
  case atStart => exact ⟨0, rfl, by omega, by omega, fun t ht => by omega, HR.out, Mod.refl G w⟩
  case round =>
    clear HR
    obtain ⟨i, rfl, hi, hki, HI, HR, HM⟩ := hrel
    by_cases hlt : i < 3
    · have hlt' : (i : Int) < 3 := by omega
      obtain ⟨c, hc0, hc1, hc2⟩ := HE.out i hlt
      have HS : Hid (Calls Tryd.prog 44 #[.pointer (some ⟨G, 0, none⟩), .string (t.extract i (i + 1))] wr fun e w' => e = .returned (.bool (decide (bAt s (k + i) = wordC nan i))) ∧ ∃ n, w' = wr.drewN n) := by
        rw [hc2, ← hc1, ← pre_one s (k + i) c hc0]
        exact sees_any G (k + i) s ⟨#[c]⟩ wr HR.out hki
      clear hc0 hc1 hc2
      by_cases hm : bAt s (k + i) = wordC nan i
      · rw [decide_eq_true hm] at HS
        have HM' : Hid (bAt s (k + i) = wordC nan i) := hm
        have hin : k + i < s.size := by
          rcases Nat.lt_or_ge (k + i) s.size with h | h
          · exact h
          · rw [bAt_out s (k + i) (by omega)] at hm
            exfalso
            unfold wordC at hm
            have : i = 0 ∨ i = 1 ∨ i = 2 := by omega
            rcases this with rfl | rfl | rfl <;> cases nan <;> simp at hm
        have hat := HR.out.at_
        have hfr := HR.out.froz 1
        rw [show ((k + i : Nat) : Int) = (k : Int) + (i : Int) by omega] at hat
        clear hm
        go_wp2_with (go_at_call 44; refine HS.out.mono ?_; rintro e w' ⟨rfl, n, rfl⟩)
        refine ⟨⟨i + 1, rfl, by omega, by omega, ?_, ?_, (HM.out.drewN _).setCell _ _⟩, ?_⟩
        · intro t' ht'
          by_cases e : t' = i
          · subst e; exact HM'.out
          · exact HI.out t' (by omega)
        · have h1 := (HR.out.drewN n).set (k + (i + 1))
          rw [show ((k + (i + 1) : Nat) : Int) = (k : Int) + (i : Int) + 1 by omega] at h1
          exact h1
        · show 3 - ((i : Int) + 1).toNat < 3 - (i : Int).toNat; omega
      · rw [decide_eq_false hm] at HS
        have HM' : Hid (bAt s (k + i) ≠ wordC nan i) := hm
        have hat := HR.out.at_
        clear hm
        go_wp2_with (go_at_call 44; refine HS.out.mono ?_; rintro e w' ⟨rfl, n, rfl⟩)
        go_ret
        exact ⟨some (k + i), k + i, ⟨i, hi, HI.out, rfl, .inl ⟨hlt, HM'.out, rfl⟩⟩, rfl, HR.out.drewN n, HM.out.drewN n⟩
    · obtain rfl : i = 3 := by omega
      go_wp2
      go_ret
      exact ⟨none, k + 3, ⟨3, hi, HI.out, rfl, .inr ⟨rfl, rfl⟩⟩, rfl, HR.out, HM.out⟩
end Go.Proofs.YtcbhcdaedchmlaaDoor

/- The digit of a byte, of the program. -/
namespace Go.Proofs.YtcbhcdaedchmlaaDoor
open Go.ChangeShapes Go.WideShapes Go.RowKit

set_option maxHeartbeats 400000 in
theorem implDigit_any (c : Int) (w : World) (h0 : 0 ≤ c) (h1 : c ≤ 255) :
    Calls Tryd.prog 59 #[.int .u8 c] w fun e w' => e = .returned (.int .u64 (digN 36 c)) ∧ w' = w := by
  by_cases ha : 48 ≤ c ∧ c ≤ 57
  · have hv : digN 36 c = c - 48 := by unfold digN; rw [if_pos ha]
    rw [hv]; clear hv
    obtain ⟨ha, hb⟩ := ha
    go_enter Tryd.func59, Tryd.ntmps59
    go_wp2
    go_ret
    exact ⟨rfl, rfl⟩
  · by_cases hb : 97 ≤ c ∧ c ≤ 122
    · have hv : digN 36 c = c - 97 + 10 := by unfold digN; rw [if_neg ha, if_pos hb]
      rw [hv]; clear hv
      obtain ⟨hb, hc⟩ := hb
      have hd : 57 < c := by omega
      clear ha
      go_enter Tryd.func59, Tryd.ntmps59
      go_wp2
      go_ret
      exact ⟨rfl, rfl⟩
    · have hv : digN 36 c = 36 := by unfold digN; rw [if_neg ha, if_neg hb]
      rw [hv]; clear hv
      go_enter Tryd.func59, Tryd.ntmps59
      go_wp2
      all_goals (try (exfalso; omega))
      all_goals
        go_ret
        exact ⟨rfl, rfl⟩
theorem implDigit_byte (c : UInt8) (w : World) :
    Calls Tryd.prog 59 #[.int .u8 c.toNat] w fun e w' => e = .returned (.int .u64 (digN 36 c.toNat)) ∧ w' = w :=
  implDigit_any _ w (by omega) (by have := c.toNat_lt; omega)
end Go.Proofs.YtcbhcdaedchmlaaDoor

/- The program's reader: a power behind a mark. -/
namespace Go.Proofs.YtcbhcdaedchmlaaDoor
open Go.ChangeShapes Go.WideShapes Go.RowKit

/-- The number that a run of digits tells, but no further digits from a million on. -/
def capM (V P : Nat) : Prop := (V < 1000000 ∧ P = V) ∨ (1000000 ≤ V ∧ 1000000 ≤ P ∧ P < 10000000)
theorem capM_zero : capM 0 0 := .inl ⟨by omega, rfl⟩
theorem capM_step {V P d : Nat} (h : capM V P) (hd : d < 10) (hP : P < 1000000) : capM (V * 10 + d) (P * 10 + d) := by
  rcases h with ⟨h1, rfl⟩ | ⟨h1, h2, h3⟩
  · by_cases h : P * 10 + d < 1000000
    · exact .inl ⟨h, rfl⟩
    · exact .inr ⟨by omega, by omega, by omega⟩
  · omega
theorem capM_stay {V P d : Nat} (h : capM V P) (hP : ¬ P < 1000000) : capM (V * 10 + d) P := by
  rcases h with ⟨h1, rfl⟩ | ⟨h1, h2, h3⟩
  · omega
  · exact .inr ⟨by omega, h2, h3⟩
theorem capM_lt {V P : Nat} (h : capM V P) : P < 10000000 := by rcases h with ⟨h1, rfl⟩ | ⟨h1, h2, h3⟩ <;> omega
/-- What is read behind a mark: the power and the end, or the place where digits lack. -/
def Pow (m : Int) (s : ByteArray) (j : Nat) (P : Int) (r : Option Nat) (i : Nat) : Prop :=
  (bAt s j ≠ m ∧ P = 0 ∧ r = none ∧ i = j) ∨
  (bAt s j = m ∧ ∃ neg k, Sgn s (j + 1) neg k ∧ Run 10 s k i ∧ ((i = k ∧ P = 0 ∧ r = some i) ∨ (k < i ∧ r = none ∧ ∃ N, capM (runV 10 s k i) N ∧ P = if neg then -(N : Int) else (N : Int))))
/-- A run's number grows by its digits. -/
theorem runV_zero (b : Nat) (s : ByteArray) (k : Nat) : runV b s k k = 0 := by
  unfold runV
  have : (s.extract k k).data.toList = [] := by
    apply List.eq_nil_of_length_eq_zero
    have : (s.extract k k).data.toList.length = (s.extract k k).size := by simp
    rw [this, ByteArray.size_extract]; omega
  rw [this]; exact valN_nil b
theorem valN_snoc (b : Nat) (l : List UInt8) (c : UInt8) (d : Nat) (hd : (d : Int) = digN 99 (c.toNat : Int)) : valN b (l ++ [c]) = valN b l * b + d := by
  have h1 := valN_cast b (l ++ [c])
  rw [val_snoc, ← valN_cast b l, ← hd, ← Int.natCast_mul, ← Int.natCast_add] at h1
  exact Int.ofNat_inj.1 h1
theorem runV_step (b : Nat) (s : ByteArray) (k j : Nat) (hk : k ≤ j) (hj : j < s.size) (d : Nat) (hd : (d : Int) = digN 99 (bAt s j)) : runV b s k (j + 1) = runV b s k j * b + d := by
  have e : (s.extract k (j + 1)).data.toList = (s.extract k j).data.toList ++ [s[j]] := by
    have g : ∀ i, i ≤ s.size → (s.extract k i).data.toList = (s.data.toList.drop k).take (i - k) := by intro i _; simp
    rw [g (j + 1) hj, g j (by omega), show j + 1 - k = (j - k) + 1 by omega, List.take_succ_eq_append_getElem (by simp; omega)]
    congr 2
    rw [List.getElem_drop]
    have : k + (j - k) = j := by omega
    simp only [this]
    rfl
  unfold runV
  rw [e]
  exact valN_snoc b _ s[j] d (by rw [hd, bAt_in s j hj])
/-- Where the reader stands. -/
def rrAt (G : Nat) (w : World) : Nat := match w.cell? ⟨G, 1, none⟩ with | some (.int _ j) => j.toNat | _ => 0
theorem rrAt_is {G k : Nat} {w : World} {s : ByteArray} (h : Rr w G s k) : rrAt G w = k := by
  unfold rrAt
  rw [h.at_]
  exact Int.toNat_natCast k
set_option maxHeartbeats 2000000 in
set_option maxRecDepth 100000 in
theorem power_any (m : UInt8) (hm : m.toNat ≠ 0) (G j : Nat) (s : ByteArray) (w : World) (h : Rr w G s j) (hj : j ≤ s.size) (hs : s.size ≤ 1200) :
    Calls Tryd.prog 54 #[.pointer (some ⟨G, 0, none⟩), .string ⟨#[m]⟩] w fun e w' => ∃ P r i, Pow (m.toNat : Int) s j P r i ∧ i ≤ s.size ∧ e = .returned (.tuple #[.int .i64 P, errV r]) ∧ Rr w' G s i ∧ Mod G w w' := by
  have HR : Hid (Rr w G s j) := h
  have HS : Hid (Calls Tryd.prog 44 #[.pointer (some ⟨G, 0, none⟩), .string ⟨#[m]⟩] w fun e w' => e = .returned (.bool (decide (bAt s j = (m.toNat : Int)))) ∧ ∃ n, w' = w.drewN n) := by
    rw [← pre_one s j m hm]
    exact sees_any G j s ⟨#[m]⟩ w h hj
  have hz : (⟨#[m]⟩ : ByteArray).size = 1 := rfl
  clear h
  by_cases hq : bAt s j = (m.toNat : Int)
  · rw [decide_eq_true hq] at HS
    have hin : j < s.size := by
      rcases Nat.lt_or_ge j s.size with h | h
      · exact h
      · rw [bAt_out s j (by omega)] at hq; omega
    have HQ : Hid (bAt s j = (m.toNat : Int)) := hq
    have hat := HR.out.at_
    have hfr := HR.out.froz 1
    obtain ⟨M, hM⟩ : ∃ M : ByteArray, (⟨#[m]⟩ : ByteArray) = M := ⟨_, rfl⟩
    rw [hM] at HS hz ⊢
    obtain ⟨neg, k, hsg⟩ := sgn_any s (j + 1)
    have HSG : Hid (Sgn s (j + 1) neg k) := hsg
    have hk1 := sgn_le s (j + 1) neg k hsg (by omega)
    have hjj : (j : Int) ≤ 1200 := by omega
    clear hq hM hm hsg
    go_enter Tryd.func54, Tryd.ntmps54
    go_wp2_with fail
    go_step3
    go_wp2_with fail
    refine HS.out.mono ?_
    rintro e w' ⟨rfl, n, rfl⟩
    have HR1 : Hid (Rr ((w.drewN n).setCell ⟨G, 1, none⟩ (.int .i64 ((j : Int) + 1))) G s (j + 1)) := by
      have h := (HR.out.drewN n).set (j + 1)
      rw [show ((j + 1 : Nat) : Int) = (j : Int) + 1 by omega] at h
      exact h
    have HM1 : Hid (Mod G w ((w.drewN n).setCell ⟨G, 1, none⟩ (.int .i64 ((j : Int) + 1)))) := ((Mod.refl G w).drewN n).setCell _ _
    have HSN : Hid _ := fun (_ : Unit) => rsign_any G (j + 1) s _ HR1.out (by omega) hs neg k HSG.out
    go_wp2_with fail
    refine (HSN.out ()).mono ?_
    rintro e w1 ⟨rfl, hr2, hm2⟩
    have HR2 : Hid (Rr w1 G s k) := hr2
    have HM2 : Hid (Mod G w w1) := HM1.out.trans hm2
    have hat2 := hr2.at_
    clear hr2 hm2 HR HR1 HM1 HSN hat hfr HS
    go_wp2_with fail
    go_quiet (fail)
    go_wp2_with fail
    have HR3 : Hid (Rr (w1.drewN nq) G s k) := HR2.out.drewN nq
    have HM3 : Hid (Mod G w (w1.drewN nq)) := HM2.out.drewN nq
    try go_step3
    try go_wp2_with fail
    go_loopw [7] (fun pv wl => ∃ (i N : Nat), pv = .int .i64 (N : Int) ∧ k ≤ i ∧ i ≤ s.size ∧ N < 10000000 ∧ Hid (capM (runV 10 s k i) N) ∧ Hid (∀ i', k ≤ i' → i' < i → Dig 10 s i') ∧ Hid (Rr wl G s i) ∧ Hid (Mod G w wl)) (fun _ wl => s.size - rrAt G wl)
    case atStart => exact ⟨k, 0, rfl, Nat.le_refl _, hk1, by omega, by show capM (runV 10 s k k) 0; rw [runV_zero]; exact capM_zero, fun i' h1 h2 => by omega, HR3.out, HM3.out⟩
    case round =>
      clear HR3 HM3 HR2 HM2 hat2
      obtain ⟨i, N, rfl, hki, his, hN, HC, HI, HR, HM⟩ := hrel
      have htx := HR.out.txt
      have hat := HR.out.at_
      have hfr := HR.out.froz 1
      by_cases hlt : i < s.size
      · have hlt' : (i : Int) < (s.size : Int) := by omega
        have HD : Hid _ := fun w => implDigit_byte s[i] w
        have hd0 := digN_lo 36 (s[i].toNat : Int) (by omega)
        have hd1 := digN_hi 36 (s[i].toNat : Int) (by omega)
        have HDS : Hid _ := fun (_ : Unit) => digN_same 36 99 (s[i].toNat : Int) 10 (by omega) (by omega)
        have HBA : Hid _ := fun (_ : Unit) => bAt_in s i hlt
        obtain ⟨d, hd⟩ : ∃ d : Int, digN 36 (s[i].toNat : Int) = d := ⟨_, rfl⟩
        rw [hd] at HD hd0 hd1 HDS
        clear hd
        by_cases hten : 10 ≤ d
        · have HEND : Hid (¬ Dig 10 s i) := fun h => by have h1 := h.2; rw [HBA.out ()] at h1; have h2 := (HDS.out ()).1.2 h1; omega
          by_cases hik : i = k
          · subst hik
            go_wp2_with fail
            go_quiet (fail)
            go_wp2_with fail
            go_region_held3 (fun w' => w'.cell? ⟨G, 0, none⟩ = some (.string s) ∧ w'.cell? ⟨G, 1, none⟩ = some (.int .i64 (i : Int))) (go_keep) (first | (go_at_call 59; refine (HD.out _).mono ?_; rintro e w' ⟨rfl, rfl⟩))
            all_goals go_wp2_with fail
            go_quiet (fail)
            go_wp2_with fail
            try rw [Exit.noGoto_ret]
            go_ret2
            exact ⟨0, some i, i, .inr ⟨HQ.out, neg, i, HSG.out, ⟨Nat.le_refl _, his, HI.out, HEND.out⟩, .inl ⟨rfl, rfl, rfl⟩⟩, his, rfl, HR.out, HM.out⟩
          · have hb : ((i : Int) == (k : Int)) = false := beq_eq_false_iff_ne.2 (by omega)
            cases neg
            all_goals
              go_wp2_with fail
              go_quiet (fail)
              go_wp2_with fail
              go_region_held3 (fun w' => w'.cell? ⟨G, 0, none⟩ = some (.string s) ∧ w'.cell? ⟨G, 1, none⟩ = some (.int .i64 (i : Int))) (go_keep) (first | (go_at_call 59; refine (HD.out _).mono ?_; rintro e w' ⟨rfl, rfl⟩))
              all_goals go_wp2_with fail
              try rw [Exit.noGoto_ret]
              go_ret2
              exact ⟨_, none, i, .inr ⟨HQ.out, _, k, HSG.out, ⟨hki, his, HI.out, HEND.out⟩, .inr ⟨by omega, rfl, N, HC.out, rfl⟩⟩, his, rfl, HR.out, HM.out⟩
        · have hten' : decide (10 ≤ d) = false := decide_eq_false hten
          have hten2 : d < 10 := by omega
          have HDG : Hid (Dig 10 s i) := ⟨hlt, by rw [HBA.out ()]; exact (HDS.out ()).1.1 (by omega)⟩
          by_cases hsm : (N : Int) < 1000000
          · clear hten
            go_wp2_with fail
            go_quiet (fail)
            go_wp2_with fail
            go_region_held3 (fun w' => w'.cell? ⟨G, 0, none⟩ = some (.string s) ∧ w'.cell? ⟨G, 1, none⟩ = some (.int .i64 (i : Int))) (go_keep) (first | (go_at_call 59; refine (HD.out _).mono ?_; rintro e w' ⟨rfl, rfl⟩))
            all_goals go_wp2_with fail
            refine ⟨⟨i + 1, N * 10 + d.toNat, by first | rfl | (congr 1; omega), by omega, by omega, by omega, ?_, ?_, ?_, (HM.out.drewN _).setCell _ _⟩, ?_⟩
            · show capM (runV 10 s k (i + 1)) _
              rw [runV_step 10 s k i hki hlt d.toNat (by rw [HBA.out (), ← (HDS.out ()).2 (by omega)]; omega)]
              exact capM_step HC.out (by omega) (by omega)
            · intro i' h1 h2
              by_cases e : i' = i
              · subst e; exact HDG.out
              · exact HI.out i' h1 (by omega)
            · have h := Rr.set (w := _) (show Rr _ G s i from HR.out) (i + 1)
              rw [show ((i + 1 : Nat) : Int) = (i : Int) + 1 by omega] at h
              exact h
            · rw [rrAt_is HR.out]
              refine Nat.lt_of_le_of_lt (Nat.le_of_eq (congrArg (s.size - ·) (rrAt_is (s := s) (k := i + 1) ?_))) (show s.size - (i + 1) < s.size - i by omega)
              have h := Rr.set (w := _) (show Rr _ G s i from HR.out) (i + 1)
              rw [show ((i + 1 : Nat) : Int) = (i : Int) + 1 by omega] at h
              exact h
          · have hsm' : decide ((N : Int) < 1000000) = false := decide_eq_false hsm
            clear hten
            go_wp2_with fail
            go_quiet (fail)
            go_wp2_with fail
            go_region_held3 (fun w' => w'.cell? ⟨G, 0, none⟩ = some (.string s) ∧ w'.cell? ⟨G, 1, none⟩ = some (.int .i64 (i : Int))) (go_keep) (first | (go_at_call 59; refine (HD.out _).mono ?_; rintro e w' ⟨rfl, rfl⟩))
            all_goals go_wp2_with fail
            refine ⟨⟨i + 1, N, by first | rfl | (congr 1; omega), by omega, by omega, by omega, ?_, ?_, ?_, (HM.out.drewN _).setCell _ _⟩, ?_⟩
            · show capM (runV 10 s k (i + 1)) _
              rw [runV_step 10 s k i hki hlt d.toNat (by rw [HBA.out (), ← (HDS.out ()).2 (by omega)]; omega)]
              exact capM_stay HC.out (by omega)
            · intro i' h1 h2
              by_cases e : i' = i
              · subst e; exact HDG.out
              · exact HI.out i' h1 (by omega)
            · have h := Rr.set (w := _) (show Rr _ G s i from HR.out) (i + 1)
              rw [show ((i + 1 : Nat) : Int) = (i : Int) + 1 by omega] at h
              exact h
            · rw [rrAt_is HR.out]
              refine Nat.lt_of_le_of_lt (Nat.le_of_eq (congrArg (s.size - ·) (rrAt_is (s := s) (k := i + 1) ?_))) (show s.size - (i + 1) < s.size - i by omega)
              have h := Rr.set (w := _) (show Rr _ G s i from HR.out) (i + 1)
              rw [show ((i + 1 : Nat) : Int) = (i : Int) + 1 by omega] at h
              exact h
      · have hlt' : decide ((i : Int) < (s.size : Int)) = false := decide_eq_false (by omega)
        have HEND : Hid (¬ Dig 10 s i) := fun h => hlt h.1
        by_cases hik : i = k
        · subst hik
          go_wp2_with fail
          go_quiet (fail)
          go_wp2_with fail
          go_quiet (fail)
          go_wp2_with fail
          try rw [Exit.noGoto_ret]
          go_ret2
          exact ⟨0, some i, i, .inr ⟨HQ.out, neg, i, HSG.out, ⟨Nat.le_refl _, his, HI.out, HEND.out⟩, .inl ⟨rfl, rfl, rfl⟩⟩, his, rfl, HR.out, HM.out⟩
        · have hb : ((i : Int) == (k : Int)) = false := beq_eq_false_iff_ne.2 (by omega)
          cases neg
          all_goals
            go_wp2_with fail
            go_quiet (fail)
            go_wp2_with fail
            try rw [Exit.noGoto_ret]
            go_ret2
            exact ⟨_, none, i, .inr ⟨HQ.out, _, k, HSG.out, ⟨hki, his, HI.out, HEND.out⟩, .inr ⟨by omega, rfl, N, HC.out, rfl⟩⟩, his, rfl, HR.out, HM.out⟩
  · rw [decide_eq_false hq] at HS
    have HQ : Hid (bAt s j ≠ (m.toNat : Int)) := hq
    clear hq
    go_enter Tryd.func54, Tryd.ntmps54
    go_wp2_with fail
    go_step3
    go_wp2_with fail
    refine HS.out.mono ?_
    rintro e w' ⟨rfl, n, rfl⟩
    go_wp2_with fail
    try rw [Exit.noGoto_ret]
    go_ret2
    exact ⟨0, none, j, .inl ⟨HQ.out, rfl, rfl, rfl⟩, hj, rfl, HR.out.drewN n, (Mod.refl G w).drewN n⟩
end Go.Proofs.YtcbhcdaedchmlaaDoor

