import Derived.Test.YtcbhcdaedchmlaaDoorA19
import Derived.Test.YtcbhcdaedchmlaaDoorA24
import Derived.Test.YtcbhcdaedchmlaaDoorA08
import Derived.Deep.RegionHeld3
/- Digits with a point among them: plain. -/
namespace Go.Proofs.YtcbhcdaedchmlaaDoor
open Go.RowKit

/-- Where the program's reader of digits stands: digits so far, how many behind the point, whether one is lacking. -/
def St2 (b : Nat) (s : ByteArray) (k : Nat) (pt : Bool) (i : Nat) (l : List UInt8) (beh : Nat) (lack : Bool) : Prop :=
  (pt = false ∧ k ≤ i ∧ (∀ i', k ≤ i' → i' < i → Dig b s i') ∧ l = (s.extract k i).data.toList ∧ beh = 0 ∧ lack = decide (i = k)) ∨
  (pt = true ∧ ∃ p, k < p ∧ Run b s k p ∧ bAt s p = 46 ∧ p + 1 ≤ i ∧ (∀ i', p + 1 ≤ i' → i' < i → Dig b s i') ∧ l = (s.extract k p).data.toList ++ (s.extract (p + 1) i).data.toList ∧ beh = i - (p + 1) ∧ lack = decide (i = p + 1))
/-- What it answers. -/
def DgR (b : Nat) (s : ByteArray) (k : Nat) (V beh : Nat) (r : Option Nat) (j : Nat) : Prop :=
  ∃ p, Run b s k p ∧ ((p = k ∧ r = some k ∧ j = k) ∨ (k < p ∧ (
    (bAt s p ≠ 46 ∧ r = none ∧ V = valN b (s.extract k p).data.toList ∧ beh = 0 ∧ j = p) ∨
    (bAt s p = 46 ∧ ∃ i, Run b s (p + 1) i ∧ ((i = p + 1 ∧ r = some i ∧ j = i) ∨ (p + 1 < i ∧ r = none ∧ V = valN b (s.extract k p ++ s.extract (p + 1) i).data.toList ∧ beh = i - (p + 1) ∧ j = i))))))
theorem extract_nil (s : ByteArray) (k : Nat) : (s.extract k k).data.toList = [] := by
  apply List.eq_nil_of_length_eq_zero
  have : (s.extract k k).data.toList.length = (s.extract k k).size := by simp
  rw [this, ByteArray.size_extract]; omega
theorem extract_snoc (s : ByteArray) (k j : Nat) (hk : k ≤ j) (hj : j < s.size) : (s.extract k (j + 1)).data.toList = (s.extract k j).data.toList ++ [s[j]] := by
  have g : ∀ i, i ≤ s.size → (s.extract k i).data.toList = (s.data.toList.drop k).take (i - k) := by intro i _; simp
  rw [g (j + 1) hj, g j (by omega), show j + 1 - k = (j - k) + 1 by omega, List.take_succ_eq_append_getElem (by simp; omega)]
  congr 2
  rw [List.getElem_drop]
  have : k + (j - k) = j := by omega
  simp only [this]
  rfl
theorem extract_len (s : ByteArray) (k j : Nat) (hj : j ≤ s.size) : (s.extract k j).data.toList.length = j - k := by
  simp; omega
theorem st2_start (b : Nat) (s : ByteArray) (k : Nat) : St2 b s k false k [] 0 true :=
  .inl ⟨rfl, Nat.le_refl _, fun i' h1 h2 => by omega, (extract_nil s k).symm, rfl, by simp⟩
theorem st2_digit {b : Nat} {s : ByteArray} {k i beh : Nat} {pt lack : Bool} {l : List UInt8} (h : St2 b s k pt i l beh lack) (hi : i < s.size) (hd : Dig b s i) :
    St2 b s k pt (i + 1) (l ++ [s[i]]) (if pt then beh + 1 else beh) false := by
  rcases h with ⟨rfl, h1, h2, rfl, rfl, rfl⟩ | ⟨rfl, p, h1, h2, h3, h4, h5, rfl, rfl, rfl⟩
  · refine .inl ⟨rfl, by omega, fun i' a c => ?_, (extract_snoc s k i h1 hi).symm, rfl, by rw [decide_eq_false (by omega)]⟩
    by_cases e : i' = i
    · subst e; exact hd
    · exact h2 i' a (by omega)
  · refine .inr ⟨rfl, p, h1, h2, h3, by omega, fun i' a c => ?_, by rw [extract_snoc s (p + 1) i h4 hi, List.append_assoc], by rw [if_pos rfl]; omega, by rw [decide_eq_false (by omega)]⟩
    by_cases e : i' = i
    · subst e; exact hd
    · exact h5 i' a (by omega)
theorem no_dig (b : Nat) (s : ByteArray) (i : Nat) (hb : b ≤ 36) (h : bAt s i = 46) : ¬ Dig b s i := by
  intro hd
  have := hd.2
  rw [h] at this
  unfold digN at this
  rw [if_neg (by omega), if_neg (by omega)] at this
  omega
theorem st2_point {b : Nat} {s : ByteArray} {k i beh : Nat} {l : List UInt8} (h : St2 b s k false i l beh false) (hi : i < s.size) (hb : b ≤ 36) (hp : bAt s i = 46) : St2 b s k true (i + 1) l 0 true := by
  rcases h with ⟨_, h1, h2, rfl, _, h3⟩ | ⟨h, _⟩
  · have hne : ¬ i = k := by intro e; rw [decide_eq_true e] at h3; cases h3
    refine .inr ⟨rfl, i, by omega, ⟨h1, by omega, h2, no_dig b s i hb hp⟩, hp, Nat.le_refl _, fun i' a c => by omega, by rw [extract_nil, List.append_nil], by omega, by simp⟩
  · cases h
theorem st2_len {b : Nat} {s : ByteArray} {k i beh : Nat} {pt lack : Bool} {l : List UInt8} (h : St2 b s k pt i l beh lack) (hi : i ≤ s.size) : k ≤ i ∧ l.length ≤ i - k ∧ beh ≤ i - k ∧ good (b : Int) l := by
  have hg : ∀ k i, i ≤ s.size → (∀ i', k ≤ i' → i' < i → Dig b s i') → good (b : Int) (s.extract k i).data.toList := by
    intro k i hi h2
    by_cases hki : k ≤ i
    · refine good_of b _ fun x hx => ?_
      have hz : (s.extract k i).size = i - k := by rw [ByteArray.size_extract]; omega
      obtain ⟨h', e⟩ := run_get s k i x hi hx
      rw [e, ← bAt_in s (k + x) h']
      exact (h2 (k + x) (by omega) (by omega)).2
    · intro c hc
      have : (s.extract k i).data.toList = [] := by
        apply List.eq_nil_of_length_eq_zero
        rw [extract_len s k i hi]; omega
      rw [this] at hc; cases hc
  rcases h with ⟨rfl, h1, h2, rfl, rfl, rfl⟩ | ⟨rfl, p, h1, h2, h3, h4, h5, rfl, rfl, rfl⟩
  · exact ⟨h1, by rw [extract_len s k i hi]; exact Nat.le_refl _, by omega, hg k i hi h2⟩
  · refine ⟨by omega, ?_, by omega, ?_⟩
    · rw [List.length_append, extract_len s k p h2.2.1, extract_len s (p + 1) i hi]; omega
    · intro c hc
      rcases List.mem_append.1 hc with hc | hc
      · exact hg k p h2.2.1 h2.2.2.1 c hc
      · exact hg (p + 1) i hi h5 c hc
theorem st2_end {b : Nat} {s : ByteArray} {k i beh : Nat} {pt lack : Bool} {l : List UInt8} (h : St2 b s k pt i l beh lack) (hi : i ≤ s.size) (hd : ¬ Dig b s i) (hn : ¬ (bAt s i = 46 ∧ pt = false ∧ lack = false)) :
    (lack = true → ∀ V beh', DgR b s k V beh' (some i) i) ∧ (lack = false → DgR b s k (valN b l) beh none i) := by
  rcases h with ⟨rfl, h1, h2, rfl, rfl, rfl⟩ | ⟨rfl, p, h1, h2, h3, h4, h5, rfl, rfl, rfl⟩
  · constructor
    · intro hl V beh'
      have e : i = k := of_decide_eq_true hl
      subst e
      exact ⟨i, ⟨h1, hi, h2, hd⟩, .inl ⟨rfl, rfl, rfl⟩⟩
    · intro hl
      have e : ¬ i = k := of_decide_eq_false hl
      exact ⟨i, ⟨h1, hi, h2, hd⟩, .inr ⟨by omega, .inl ⟨fun x => hn ⟨x, rfl, hl⟩, rfl, rfl, rfl, rfl⟩⟩⟩
  · constructor
    · intro hl V beh'
      have e : i = p + 1 := of_decide_eq_true hl
      exact ⟨p, h2, .inr ⟨h1, .inr ⟨h3, i, ⟨h4, hi, h5, hd⟩, .inl ⟨e, rfl, rfl⟩⟩⟩⟩
    · intro hl
      have e : ¬ i = p + 1 := of_decide_eq_false hl
      refine ⟨p, h2, .inr ⟨h1, .inr ⟨h3, i, ⟨h4, hi, h5, hd⟩, .inr ⟨by omega, rfl, ?_, rfl, rfl⟩⟩⟩⟩
      congr 1
end Go.Proofs.YtcbhcdaedchmlaaDoor

/- width, wordAt, multiply of the program's numbers. -/
namespace Go.Proofs.YtcbhcdaedchmlaaDoor
open Go.ChangeShapes Go.WideShapes Go.RowKit

theorem width_any (v : Value) (w : World) : Calls Tryd.prog 62 #[v] w fun e w' => e = .returned (.int .i64 32) ∧ w' = w := by
  have HL : Hid _ := fun w => len64_any 4294967295 (by omega) (by omega) w
  have hb : bitLen (Int.toNat 4294967295) = 32 := by decide
  rw [hb] at HL
  go_enter Tryd.func62, Tryd.ntmps62
  go_wp2_with (go_at_call 14; refine (HL.out _).mono ?_; rintro e w' ⟨rfl, rfl⟩)
  go_ret
  exact ⟨rfl, rfl⟩
set_option maxRecDepth 100000 in
theorem wordAt_any (B c : Nat) (f : Nat → Nat) (R : List Value) (t : TypeId) (w : World) (h : LB w B c f R t) (i : Int) (hi : i < 151) :
    Calls Tryd.prog 67 #[.pointer (some ⟨B, 0, none⟩), .int .i64 i] w fun e w' => e = .returned (.int .u32 (if i < 0 then 0 else (f i.toNat : Int))) ∧ w' = w := by
  by_cases h0 : i < 0
  · rw [if_pos h0]
    clear h
    go_enter Tryd.func67, Tryd.ntmps67
    go_wp2
    go_ret
    exact ⟨rfl, rfl⟩
  · rw [if_neg h0]
    obtain ⟨k, rfl⟩ : ∃ k : Nat, i = (k : Int) := ⟨i.toNat, by omega⟩
    have hw := h.wrd' k (by omega)
    clear h h0
    go_enter Tryd.func67, Tryd.ntmps67
    go_wp2
    go_ret
    exact ⟨rfl, rfl⟩

/-- The words while a number is multiplied: the first i are done. -/
def wmid (N M i : Nat) : Nat → Nat := fun j => if j < i then dg M j else dg N j
theorem wmid_zero (N M : Nat) : wmid N M 0 = dg N := rfl
theorem wmid_at (N M i : Nat) : wmid N M i i = dg N i := by unfold wmid; rw [if_neg (by omega)]
theorem wmid_step (N M i : Nat) : upd (wmid N M i) i (dg M i) = wmid N M (i + 1) := by
  funext j
  unfold upd wmid
  by_cases h : j = i
  · subst h; rw [if_pos rfl, if_pos (by omega)]
  · rw [if_neg h]
    by_cases h' : j < i
    · rw [if_pos h', if_pos (by omega)]
    · rw [if_neg h', if_neg (by omega)]
theorem wmid_end (N M c : Nat) (hN : N < be ^ c) (hM : M < be ^ c) (j : Nat) : wmid N M c j = dg M j := by
  unfold wmid
  by_cases h : j < c
  · rw [if_pos h]
  · rw [if_neg h, dg_above N j c hN (by omega), dg_above M j c hM (by omega)]
set_option maxHeartbeats 1000000 in
set_option maxRecDepth 100000 in
theorem mul_any (B N F a : Nat) (R : List Value) (t : TypeId) (w : World) (h : Lg w B N R t) (hF1 : 1 ≤ F) (hF : F ≤ 16) (ha : a ≤ 9007199254740992) (hN : N * F + a < be ^ 151) :
    Calls Tryd.prog 60 #[.pointer (some ⟨B, 0, none⟩), .int .u64 (F : Int), .int .u64 (a : Int)] w fun e w' => e = .returned (.tuple #[]) ∧ Mod B w w' ∧ Lg w' B (N * F + a) R t := by
  obtain ⟨c, hc, hk, hl⟩ := h
  obtain ⟨M, hM⟩ : ∃ M, N * F + a = M := ⟨_, rfl⟩
  have HM : Hid (N * F + a = M) := hM
  have HMB : Hid (M < be ^ 151) := by rw [← hM]; exact hN
  rw [hM]
  clear hM hN
  have HW : Hid _ := fun v w => width_any v w
  have HK : Hid (cntOk c N) := hk
  have HL : Hid (LB w B c (dg N) R t) := hl
  have hcnt := hl.cnt
  clear hk hl
  go_enter Tryd.func60, Tryd.ntmps60
  go_wp2
  go_loopw [6, 13] (fun cv iv wl => ∃ (i u : Nat), iv = .int .i64 (i : Int) ∧ cv = .int .u64 (u : Int) ∧ i ≤ c ∧ u ≤ 9007199254741100 ∧ Hid (car N F a i = u) ∧ Hid (LB wl B c (wmid N M i) R t) ∧ Hid (Mod B w wl)) (fun _ iv _ => c - (intOf iv).toNat)
  case atStart => exact ⟨0, a, rfl, rfl, Nat.zero_le _, by omega, car_zero N F a, HL.out, Mod.refl B w⟩
  case round =>
    clear hcnt
    obtain ⟨i, u, rfl, rfl, hi, hu, HU, HB, HMd⟩ := hrel
    by_cases hlt : i < c
    · have hlt' : (i : Int) < (c : Int) := by omega
      obtain ⟨d, hd⟩ : ∃ d, dg N i = d := ⟨_, rfl⟩
      have hd1 : d < 4294967296 := by rw [← hd]; exact dg_lt _ _
      have hw := HB.out.wrd' i (by omega)
      rw [wmid_at, hd] at hw
      have hfr := HB.out.froz (1 + i)
      have HD : Hid (dg N i = d) := hd
      obtain ⟨p, hp⟩ : ∃ p : Int, (d : Int) * (F : Int) = p := ⟨_, rfl⟩
      have hp0 : 0 ≤ p := by rw [← hp]; exact Int.mul_nonneg (by omega) (by omega)
      have hp1 : p ≤ 68719476720 := by
        rw [← hp]
        have : (d : Int) * F ≤ 4294967295 * 16 := Int.mul_le_mul (by omega) (by omega) (by omega) (by omega)
        omega
      clear hd
      go_wp2_with (go_at_call 62; refine (HW.out _ _).mono ?_; rintro e w' ⟨rfl, rfl⟩)
      have ev : ((u : Int) + p) % 4294967296 = ((dg M i : Nat) : Int) := by
        rw [← HM.out, ← car_word, HU.out, HD.out, ← hp, be_eq]; omega
      have ec : ((u : Int) + p) / 4294967296 = ((car N F a (i + 1) : Nat) : Int) := by
        rw [← car_next, HU.out, HD.out, ← hp, be_eq]; omega
      rw [ev, ec]
      refine ⟨⟨i + 1, car N F a (i + 1), rfl, rfl, by omega, by have := car_le N F a (i + 1); omega, rfl, ?_, HMd.out.setCell _ _⟩, ?_⟩
      · have := HB.out.setw' i (dg M i) (by omega)
        rw [wmid_step] at this; exact this
      · show c - ((i : Int) + 1).toNat < c - (i : Int).toNat; omega
    · have hlt' : decide ((i : Int) < (c : Int)) = false := decide_eq_false (by omega)
      obtain rfl : i = c := by omega
      go_wp2
      go_loopw [6] (fun cv wl => ∃ (k v : Nat), cv = .int .u64 (v : Int) ∧ v ≤ 9007199254741100 ∧ Hid (M / be ^ k = v) ∧ k ≤ 151 ∧ Hid (0 < k → be ^ (k - 1) ≤ M) ∧ Hid (N < be ^ k) ∧ Hid (LB wl B k (wmid N M k) R t) ∧ Hid (Mod B w wl)) (fun cv _ => (intOf cv).toNat)
      case atStart => 
        refine ⟨i, u, rfl, hu, ?_, hc, ?_, HK.out.1, HB.out, HMd.out⟩
        · rw [← HM.out, ← car_end N F a i HK.out.1]; exact HU.out
        · intro h0
          have h1 := HK.out.2 h0
          have h2 : N * 1 ≤ N * F := Nat.mul_le_mul_left _ hF1
          rw [← HM.out]; omega
      case round =>
        clear HU HB HMd hi hu hlt hlt'
        obtain ⟨k, v, rfl, hv, HV, hk, HG, HN, HB, HMd⟩ := hrel
        by_cases h0 : 0 < v
        · have h0' : (0 : Int) < (v : Int) := by omega
          have hk1 : k < 151 := by
            rcases Nat.lt_or_ge k 151 with h | h
            · exact h
            · have : M < be ^ k := Nat.lt_of_lt_of_le HMB.out (bpow_le h)
              have := HV.out; rw [Nat.div_eq_of_lt (by assumption)] at this; omega
          have hk2 : (k : Int) < 151 := by omega
          have hcnt := HB.out.cnt
          have hw := HB.out.wrd' k hk1
          have hfr := HB.out.froz (1 + k)
          have hfr0 := HB.out.froz 0
          go_wp2_with (go_at_call 62; refine (HW.out _ _).mono ?_; rintro e w' ⟨rfl, rfl⟩)
          go_region
          all_goals go_wp2_with (go_at_call 62; refine (HW.out _ _).mono ?_; rintro e w' ⟨rfl, rfl⟩)
          all_goals
            have hdv : (v : Int) % 4294967296 = ((dg M k : Nat) : Int) := by unfold dg; rw [HV.out, be_eq]; omega
            have hcar : (v : Int) / 4294967296 = ((v / 4294967296 : Nat) : Int) := by omega
            rw [hdv, hcar]
            refine ⟨⟨k + 1, v / 4294967296, rfl, by omega, ?_, by omega, fun _ => ?_, Nat.lt_of_lt_of_le HN.out (bpow_le (by omega)), ?_, (HMd.out.setCell _ _).setCell _ _⟩, ?_⟩
            · show M / be ^ (k + 1) = v / 4294967296
              rw [Nat.pow_succ, ← Nat.div_div_eq_div_mul, HV.out]
              rfl
            · show be ^ (k + 1 - 1) ≤ M
              rw [Nat.add_sub_cancel]
              rcases Nat.lt_or_ge M (be ^ k) with h | h
              · have := HV.out; rw [Nat.div_eq_of_lt h] at this; omega
              · exact h
            · have h1 := (HB.out.setw' k (dg M k) hk1)
              rw [wmid_step] at h1
              exact h1.setc (k + 1)
            · show ((v / 4294967296 : Nat) : Int).toNat < (v : Int).toNat; omega
        · have h0' : decide ((0 : Int) < (v : Int)) = false := decide_eq_false (by omega)
          go_wp2
          go_end0
          refine ⟨rfl, HMd.out, k, hk, ⟨?_, HG.out⟩, HB.out.congr _ fun j _ => wmid_end N M k HN.out ?_ j⟩
          all_goals
            have hv0 : v = 0 := by omega
            have := HV.out
            rcases Nat.lt_or_ge M (be ^ k) with h | h
            · exact h
            · have := Nat.div_pos h (bpow_pos k); omega
end Go.Proofs.YtcbhcdaedchmlaaDoor

/- The program's numbers by value: loads, stores, new ones. -/
namespace Go.Proofs.YtcbhcdaedchmlaaDoor
open Go.ChangeShapes Go.WideShapes Go.RowKit

theorem lgL_one (c : Nat) (f : Nat → Nat) : ∀ v ∈ lgL c f, v.oneCell' = true := by
  intro v hv
  unfold lgL at hv
  rcases List.mem_cons.1 hv with rfl | hv
  · rfl
  · obtain ⟨i, _, rfl⟩ := List.mem_map.1 hv; rfl
theorem lg_desc : ∃ d, Tryd.prog.underlying 114 = some d ∧ d.isRow = true := ⟨_, Tryd.underlying114, rfl⟩
theorem lg_size : (Tryd.prog.info? 114).map (·.size) = some 152 := by kernel_rfl
theorem lg_zero (w : World) : (zeroValue 114).run Tryd.prog w = .ok (.agg (blk 0 (fun _ => 0) [])) w :=
  (zero_of_info (P := Tryd.prog) (t := 114) (v := .agg (blk 0 (fun _ => 0) [])) (n := 152) (by kernel_rfl)).1 w
theorem LB.range {w : World} {B c : Nat} {f : Nat → Nat} {R : List Value} {t : TypeId} (h : LB w B c f R t) : w.rangeAt B 0 (lgL c f) := by
  intro j v hv
  have hj := (List.getElem?_eq_some_iff.1 hv).1
  rw [Nat.zero_add, cell_of_heap h]
  unfold blk
  rw [List.getElem?_toArray, List.getElem?_append_left hj]; exact hv
theorem LB.rangeAll {w : World} {B c : Nat} {f : Nat → Nat} {R : List Value} {t : TypeId} (h : LB w B c f R t) : w.rangeAt B 0 (lgL c f ++ R) := by
  intro j v hv
  rw [Nat.zero_add, cell_of_heap h]
  unfold blk
  rw [List.getElem?_toArray]; exact hv
/-- A number out of memory. -/
theorem LB.load {w : World} {B c : Nat} {f : Nat → Nat} {R : List Value} {t : TypeId} (h : LB w B c f R t) :
    (Instr.loadAt 114 (.pointer (some ⟨B, 0, none⟩))).run Tryd.prog w = .ok (.agg (lgL c f).toArray) w := by
  obtain ⟨d, hd, hr⟩ := lg_desc
  exact run_loadAt_mid w B 0 114 (lgL c f) d h.range hd hr (by rw [lgL_length]; exact lg_size)
/-- A number into memory. -/
theorem store_row {w : World} {g : Nat} {t : TypeId} {old cells : Array Value} (ty : TypeId) (hg : w.heap[g]? = some (.cells old t (0, 0))) (hi : (Tryd.prog.info? ty).map (·.size) = some cells.size) (ho : old.size = cells.size) (h1 : cells.all (·.oneCell') = true) :
    (Instr.storeAt ty (.pointer (some ⟨g, 0, none⟩)) (.agg cells)).run Tryd.prog w = .ok () (w.setRow g cells) := by
  simp only [Instr.storeAt, Instr.sureAddr, Sem.run_bind, Sem.run_pure, Result.andThen_ok, run_storeVar_row w g t ty old cells hg hi ho h1]
theorem LB.store {w : World} {B c c' : Nat} {f f' : Nat → Nat} {t : TypeId} (h : LB w B c f [] t) :
    (Instr.storeAt 114 (.pointer (some ⟨B, 0, none⟩)) (.agg (lgL c' f').toArray)).run Tryd.prog w = .ok () (w.setRow B (lgL c' f').toArray) :=
  store_row _ h (by rw [List.size_toArray, lgL_length]; exact lg_size) (by rw [blk_size, List.size_toArray, lgL_length]; rfl) (all_oneCell_toArray (lgL_one c' f'))
theorem blk_one (c : Nat) (f : Nat → Nat) (x : Value) (hx : x.oneCell' = true) : (blk c f [x]).all (·.oneCell') = true := by
  refine all_oneCell_toArray fun v hv => ?_
  rcases List.mem_append.1 hv with h | h
  · exact lgL_one c f v h
  · rw [List.mem_singleton.1 h]; exact hx
/-- As the walk leaves a store. -/
theorem store_cells {w : World} {g : Nat} {t : TypeId} {old : Array Value} {vs : List Value} (hg : w.heap[g]? = some (.cells old t (0, 0))) (ho : vs.length = old.size) (h1 : ∀ v ∈ vs, v.oneCell' = true) :
    (storeCells ⟨g, 0, none⟩ vs).run Tryd.prog w = .ok () (w.setRow g vs.toArray) := by
  have := run_storeCells_from (P := Tryd.prog) g t vs 0 old w hg (by omega) h1
  simpa using this
theorem LB.cells {w : World} {B c : Nat} {f : Nat → Nat} {t : TypeId} (h : LB w B c f [] t) (c' : Nat) (f' : Nat → Nat) :
    (storeCells ⟨B, 0, none⟩ (lgL c' f')).run Tryd.prog w = .ok () (w.setRow B (lgL c' f').toArray) :=
  store_cells h (by rw [lgL_length, blk_size]; rfl) (lgL_one c' f')
/-- As the walk meets them. -/
theorem LB.wpLoad {w : World} {B c : Nat} {f : Nat → Nat} {R : List Value} {t : TypeId} (h : LB w B c f R t) {op : Oper} {a : Act} {K : Act → World → Prop} {Q : Exit → Act → World → Prop} (x : Operand) (ho : op.op = .load 114 x)
    (hx : a.eval x = .pointer (some ⟨B, 0, none⟩)) (hk : K (a.put op.dst (.agg (lgL c f).toArray)) w) : op.wp Tryd.prog a w K Q := by
  obtain ⟨d, hd, hr⟩ := lg_desc
  exact wp_load_mid 114 x ho B 0 hx (lgL c f) d h.range hd hr (by rw [lgL_length]; exact lg_size) hk
theorem LB.wpStore {w : World} {B c : Nat} {f : Nat → Nat} {t : TypeId} (h : LB w B c f [] t) {op : Oper} {a : Act} {K : Act → World → Prop} {Q : Exit → Act → World → Prop} (x y : Operand) (ho : op.op = .store 114 x y) (c' : Nat) (f' : Nat → Nat)
    (hx : a.eval x = .pointer (some ⟨B, 0, none⟩)) (hy : a.eval y = .agg (lgL c' f').toArray) (hk : K (a.put op.dst undef) (w.setRow B (lgL c' f').toArray)) : op.wp Tryd.prog a w K Q :=
  wp_store_row 114 x y ho B _ hx hy t _ h (by rw [List.size_toArray, lgL_length]; exact lg_size) (by rw [blk_size, List.size_toArray, lgL_length]; rfl) (all_oneCell_toArray (lgL_one c' f')) hk
theorem blk_nil (c : Nat) (f : Nat → Nat) : (lgL c f).toArray = blk c f [] := by unfold blk; rw [List.append_nil]
theorem LB.stored {w : World} {B c c' : Nat} {f f' : Nat → Nat} {t : TypeId} (h : LB w B c f [] t) : LB (w.setRow B (lgL c' f').toArray) B c' f' [] t := by
  unfold LB; rw [blk_nil]; exact setRow_heap w B _ _ t (0, 0) h
theorem LB.storedNum {w : World} {B c c' : Nat} {f f' : Nat → Nat} {R R' : List Value} {t : TypeId} (h : LB w B c f R t) : LB (w.setRow B (blk c' f' R')) B c' f' R' t := setRow_heap w B _ _ t (0, 0) h
theorem Mod.setRow {B : Nat} {a w : World} (h : Mod B a w) (cs : Array Value) : Mod B a (w.setRow B cs) :=
  h.trans ⟨rfl, rfl, rfl, by simp, fun k _ hk => setRow_other w B k cs hk⟩
theorem cnt_same {c c' N : Nat} (h : cntOk c N) (h' : cntOk c' N) : c = c' := Nat.le_antisymm (cnt_le h h'.1) (cnt_le h' h.1)
theorem dg_nil : (fun _ : Nat => 0) = dg 0 := by funext i; unfold dg; rw [Nat.zero_div, Nat.zero_mod]

set_option maxHeartbeats 1000000 in
set_option maxRecDepth 100000 in
theorem largeOf_one (w : World) : Calls Tryd.prog 56 #[.int .u64 1] w fun e w' => e = .returned (lgV 1 1) ∧ Below w.heap.size w w' := by
  have hz := lg_zero
  rw [dg_nil] at hz
  obtain ⟨C, hC⟩ : ∃ C, blk 0 (dg 0) [] = C := ⟨_, rfl⟩
  have HC : Hid (blk 0 (dg 0) [] = C) := hC
  rw [hC] at hz
  clear hC
  obtain ⟨W, hW⟩ : ∃ W, (w.alloc (.cells C 114)).alloc (.cells C 114) = W := ⟨_, rfl⟩
  have HW : Hid ((w.alloc (.cells C 114)).alloc (.cells C 114) = W) := hW
  go_enter Tryd.func56, Tryd.ntmps56
  go_wp2_with fail
  have HA : Hid (LB W w.heap.size 0 (dg 0) [] 114) := by
    have h := ((LB.new w 0 (dg 0) [] 114).alloc (.cells C 114))
    rw [HC.out] at h; rw [← HW.out]; exact h
  have HB : Hid (Lg W (w.heap.size + 1) 0 [] 114) := by
    refine ⟨0, by omega, cnt_zero, ?_⟩
    have h := LB.new (w.alloc (.cells C 114)) 0 (dg 0) [] 114
    rw [HC.out] at h
    rw [← HW.out, show w.heap.size + 1 = (w.alloc (.cells C 114)).heap.size by simp]
    exact h
  have HM : Hid (Below w.heap.size w W) := by rw [← HW.out]; exact ((Below.refl _ w).alloc (Nat.le_refl _) _).alloc (by simp) _
  clear hW hz
  refine (mul_any (w.heap.size + 1) 0 1 1 [] 114 W HB.out (by omega) (by omega) (by omega) (Nat.lt_of_lt_of_le (by rw [be_eq]; omega : 0 * 1 + 1 < be ^ 1) (bpow_le (by omega)))).mono ?_
  rintro e w1 ⟨rfl, hm, hg⟩
  have HA1 : Hid (LB w1 w.heap.size 0 (dg 0) [] 114) := HA.out.other hm (by omega)
  obtain ⟨c, hc, hk, hl⟩ := hg
  obtain rfl : c = 1 := cnt_same hk ⟨by rw [be_eq]; omega, fun _ => by rw [Nat.sub_self, Nat.pow_zero]; omega⟩
  rw [show 0 * 1 + 1 = 1 from rfl] at hl
  have HM1 : Hid (Below w.heap.size w (w1.setRow w.heap.size (lgL 1 (dg 1)).toArray)) := by
    have h1 := (Mod.refl w.heap.size w1).setRow (lgL 1 (dg 1)).toArray
    exact (HM.out.trans (hm.below (by omega) HM.out.size)).trans (h1.below (Nat.le_refl _) (Nat.le_trans HM.out.size hm.size))
  have HS : Hid (LB (w1.setRow w.heap.size (lgL 1 (dg 1)).toArray) w.heap.size 1 (dg 1) [] 114) := HA1.out.stored
  have HL : Hid (LB w1 (w.heap.size + 1) 1 (dg 1) [] 114) := hl
  have hst := HA1.out.cells 1 (dg 1)
  have hln := lgL_length 1 (dg 1)
  clear hm hl hk hc
  go_wp2
  refine HL.out.wpLoad _ rfl rfl ?_
  go_at_K
  go_wp2
  obtain ⟨d, hd, hr⟩ := lg_desc
  have hs := HS.out
  unfold LB at hs
  rw [← blk_nil] at hs
  refine bodyPost_ret (v := lgV 1 1) (results_cell_row (P := Tryd.prog) rfl _ _ w.heap.size _ (lgL 1 (dg 1)).toArray (0, 0) d rfl hs hd (by cases d <;> simp_all [TypeDesc.isRow]) (by rw [List.size_toArray, lgL_length]; exact lg_size)) rfl ?_
  exact ⟨rfl, HM1.out⟩
end Go.Proofs.YtcbhcdaedchmlaaDoor

