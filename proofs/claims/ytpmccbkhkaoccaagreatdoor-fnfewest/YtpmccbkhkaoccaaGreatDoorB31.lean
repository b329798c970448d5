import Derived.Test.YtpmccbkhkaoccaaGreatDoorB19
import Derived.Test.YtpmccbkhkaoccaaGreatDoorB24
import Derived.Test.YtpmccbkhkaoccaaGreatDoorB30
import Derived.Test.YtpmccbkhkaoccaaGreatDoorB17
import Derived.Test.YtpmccbkhkaoccaaGreatDoorB14
import Derived.Test.YtpmccbkhkaoccaaGreatDoorB25
import Derived.Test.YtpmccbkhkaoccaaGreatDoorB15
import Derived.Test.YtpmccbkhkaoccaaGreatDoorB23
import Derived.Deep.RegionWith
import Derived.Deep.Cut
import Derived.Deep.CutRange
/- What is written of a float is read as it: plain. -/
namespace Go.Proofs.YtpmccbkhkaoccaaGreatDoor
open Go.RowKit
open Ieee (double)

/-- A text is read as a float. -/
def Reads (t : ByteArray) (x : Nat) : Prop := ∃ fl, ReadA t true 0 fl ∧ fl x ∧ (fl = IsNan ∨ fl = (· = x))
theorem fw_le (m : Nat) (e : Int) : fw false m e ≤ 9218868437227405312 := by
  by_cases h0 : m = 0
  · subst h0; rw [fw_zero]; decide
  · rw [fw_place false m e (by omega)]
    have : min ((max (e + (m.log2 : Int) - 52) (-1074) + 1074).toNat * 4503599627370496 + roundN m (max (e + (m.log2 : Int) - 52) (-1074) - e)) 9218868437227405312 ≤ 9218868437227405312 := Nat.min_le_right _ _
    show 0 + _ ≤ _
    omega
theorem decW_le (b V : Nat) (e : Int) : decW b V e ≤ 9218868437227405312 := by
  unfold decW
  split
  · omega
  · unfold ratioW ratioAt
    split <;> exact fw_le _ _
theorem order_same (r q : Nat) (hr : r ≤ 9218868437227405312) (hq : q ≤ 9218868437227405312) : (double.order r q == some .eq) = decide (r = q) := by
  have h := order_rank false false r q hr hq
  have s0 : ∀ k, signBit false + k = k := fun k => Nat.zero_add k
  rw [s0, s0] at h
  rw [h]
  unfold rankI
  simp only [compare, compareOfLessAndEq]
  by_cases e : r = q
  · subst e
    simp
  · rw [decide_eq_false e]
    simp
    split
    · simp
    · split
      · omega
      · simp
theorem rds_is (x : Nat) (hx : x ≤ 9218868437227405312) (t : ByteArray) (p : Int) : Rds x t p = decide (decW 10 (valN 10 t.data.toList) (p - (t.size : Int)) = x) := by
  unfold Rds
  exact order_same _ _ (decW_le _ _ _) hx
/-- The size and the sign of a number's word. -/
theorem word_odd (s : Bool) (n : Nat) (p : Int) (q k : Nat) (hq : n = q * 2 ^ k) : signBit s + fw false q (p + k) = fw s n p := by
  have := fw_scale false q k (p + k)
  rw [show p + (k : Int) - (k : Int) = p by omega, ← hq] at this
  rw [← this, ← fw_sign]
theorem reads_exact (x : Nat) (t : ByteArray) (h : exactV x t) : Reads t x := by
  rcases h with ⟨hn, rfl⟩ | ⟨s, rfl, rfl⟩ | ⟨s, rfl, rfl⟩ | ⟨s, n, p, q, k, ds, pow, hc, hn, rfl, hq, _, hd, rfl⟩
  · exact ⟨_, read_nan, hn, .inl rfl⟩
  · exact ⟨_, read_inf s, rfl, .inr rfl⟩
  · exact ⟨_, read_naught s, rfl, .inr rfl⟩
  · obtain ⟨a1, a2, a3, a4⟩ := exact_sizes n p q k ds pow hc hn hq hd
    have hz := plain_len ds pow a1 a2 a3
    have hq0 : 0 < q := by
      apply Nat.pos_of_ne_zero
      intro h
      rw [h, Nat.zero_mul] at hq
      omega
    have hr := read_plain s ds pow hd.1 hd.2.1 (by rw [append_size]; have := sgnB_size s; omega)
    rw [exD_reads ds pow q (p + k) hq0 hd, word_odd s n p q k hq] at hr
    exact ⟨_, hr, rfl, .inr rfl⟩
theorem least_reads (ds : ByteArray) (pow : Int) (x : Nat) (hx : x ≤ 9218868437227405312) (t : ByteArray) (p' : Int) (h : LeastD ds pow x t p') : decW 10 (valN 10 t.data.toList) (p' - (t.size : Int)) = x := by
  obtain ⟨n, t2, p2, _, _, _, _, ⟨h, _, rfl, rfl⟩ | ⟨h, _, rfl, rfl⟩⟩ := h
  · rw [rds_is x hx] at h
    exact of_decide_eq_true h
  · rw [rds_is x hx] at h
    exact of_decide_eq_true h
theorem reads_short (x : Nat) (t : ByteArray) (h : shortV x t) : Reads t x := by
  rcases h with ⟨hn, rfl⟩ | ⟨s, rfl, rfl⟩ | ⟨s, rfl, rfl⟩ | ⟨s, n, p, q, k, ds, pow, d, p', u, hc, hn, rfl, hq, _, hd, hle, htu, rfl⟩
  · exact ⟨_, read_nan, hn, .inl rfl⟩
  · exact ⟨_, read_inf s, rfl, .inr rfl⟩
  · exact ⟨_, read_naught s, rfl, .inr rfl⟩
  · obtain ⟨a1, a2, a3, a4⟩ := exact_sizes n p q k ds pow hc hn hq hd
    obtain ⟨t0, ts, tg, q1, q2⟩ := least_facts ds pow _ d p' hd.2.1 (by omega) hle
    have hval := least_reads ds pow _ (fw_le n p) d p' hle
    obtain ⟨u0, ug, j, ue, uj, uv, _⟩ := htu
    have hu : decW 10 (valN 10 u.data.toList) (p' - (u.size : Int)) = fw false n p := by
      rw [← hval, uv, dec_zeros]
      congr 1
      omega
    have hsgn : signBit s + fw false n p = fw s n p := (fw_sign s n p).symm
    have hsz := sgnB_size s
    have hds : d.size ≤ 1091 := by
      obtain ⟨n', t2, p2, _, hn', hcut, _, ⟨_, _, rfl, _⟩ | ⟨_, _, rfl, _⟩⟩ := hle
      · rw [padB_size]; omega
      · have := cut5_size _ _ _ _ _ _ hcut
        omega
    unfold shortB
    by_cases hp : -5 ≤ p' ∧ p' ≤ 21
    · rw [if_pos hp]
      have hpl : (plainB u p').size ≤ 1150 := by
        have e2 : (⟨#[48, 46]⟩ : ByteArray).size = 2 := rfl
        have e3 : dotB.size = 1 := rfl
        unfold plainB
        split
        · rw [append_size, append_size, zerosB_size, e2]; omega
        · split
          · rw [append_size, zerosB_size]; omega
          · rw [append_size, append_size, e3, ByteArray.size_extract, ByteArray.size_extract]; omega
      have hr := read_plain s u p' u0 ug (by rw [append_size]; omega)
      rw [hu, hsgn] at hr
      exact ⟨_, hr, rfl, .inr rfl⟩
    · rw [if_neg hp]
      have hsc := sciB_size u p'
      have hr := read_sci s u p' u0 ug (by omega) (by omega) (by rw [append_size]; omega)
      rw [hu, hsgn] at hr
      exact ⟨_, hr, rfl, .inr rfl⟩
theorem reads_hex (x : Nat) (t : ByteArray) (h : hexV x t) : Reads t x := by
  rcases h with ⟨hn, rfl⟩ | ⟨s, rfl, rfl⟩ | ⟨s, rfl, rfl⟩ | ⟨s, n, p, q, k, hc, hn, rfl, hq, _, rfl⟩
  · exact ⟨_, read_nan, hn, .inl rfl⟩
  · exact ⟨_, read_inf s, rfl, .inr rfl⟩
  · have hr := read_hexB s 0 0 (by omega) (by omega) (by omega)
    rw [fw_zero] at hr
    exact ⟨_, hr, rfl, .inr rfl⟩
  · obtain ⟨h1, h2, h3, _⟩ := odd_bounds n p q k hc hn hq
    have hr := read_hexB s q (p + k) (by omega) (by omega) (by omega)
    rw [word_odd s n p q k hq] at hr
    exact ⟨_, hr, rfl, .inr rfl⟩
end Go.Proofs.YtpmccbkhkaoccaaGreatDoor

/- Seventeen digits are enough, and with fewer than the fewest nothing is read back: plain. -/
namespace Go.Proofs.YtpmccbkhkaoccaaGreatDoor
open Go.RowKit
open Ieee (double)

theorem dig_ex (k : Nat) : ∀ W : Nat, W < 10 ^ k → ∃ l : List UInt8, l.length = k ∧ good 10 l ∧ valN 10 l = W := by
  induction k with
  | zero =>
    intro W h
    rw [Nat.pow_zero] at h
    exact ⟨[], rfl, (fun c hc => by cases hc), by rw [valN_nil]; omega⟩
  | succ k ih =>
    intro W h
    obtain ⟨l, h1, h2, h3⟩ := ih (W / 10) (by rw [Nat.pow_succ] at h; omega)
    have hc : W % 10 < 10 := Nat.mod_lt _ (by omega)
    obtain ⟨c, hcv⟩ : ∃ c : UInt8, c.toNat = 48 + W % 10 := ⟨(48 + W % 10).toUInt8, by rw [Nat.toUInt8_eq, UInt8.toNat_ofNat']; omega⟩
    have hd : digN 99 (c.toNat : Int) = ((W % 10 : Nat) : Int) := by
      unfold digN
      rw [if_pos (by omega), hcv]
      omega
    refine ⟨l ++ [c], by rw [List.length_append, h1]; rfl, good_app h2 (fun d hd' => ?_), ?_⟩
    · have : d = c := by simpa using hd'
      rw [this, hd]; omega
    · rw [valN_append, h3]
      have e : valN 10 [c] = W % 10 := by
        rw [valN_cons, hd, valN_nil, List.length_nil, Nat.pow_zero, Nat.mul_one, Nat.add_zero]
        exact Int.toNat_natCast _
      rw [e]
      show W / 10 * 10 ^ 1 + W % 10 = W
      omega
theorem upD_ex (ds : ByteArray) (hg : good 10 ds.data.toList) : ∃ t more, UpD ds t more := by
  have hlt := valN_good_lt 10 ds.data.toList hg
  rw [data_len] at hlt
  by_cases h : valN 10 ds.data.toList + 1 = 10 ^ ds.size
  · obtain ⟨l, h1, h2, h3⟩ := dig_ex (ds.size + 1) (10 ^ ds.size) (by rw [Nat.pow_succ]; have : 0 < 10 ^ ds.size := Nat.pow_pos (by omega); omega)
    exact ⟨⟨l.toArray⟩, true, h2, by rw [h]; exact h3, by rw [← data_len]; exact h1, fun _ => h⟩
  · obtain ⟨l, h1, h2, h3⟩ := dig_ex ds.size (valN 10 ds.data.toList + 1) (by omega)
    exact ⟨⟨l.toArray⟩, false, h2, h3, by rw [← data_len]; exact h1, (fun h => by cases h)⟩
/-- The first digits, and what is behind them. -/
theorem pad_val (ds : ByteArray) (k : Nat) (hk : k < ds.size) (hg : good 10 ds.data.toList) : good 10 (padB ds k).data.toList ∧ ∃ R, R < 10 ^ (ds.size - k) ∧ valN 10 ds.data.toList = valN 10 (padB ds k).data.toList * 10 ^ (ds.size - k) + R := by
  have hl : ds.data.toList.length = ds.size := data_len ds
  have e : (padB ds k).data.toList = ds.data.toList.take k := by
    unfold padB
    rw [if_pos hk, append_list, show k - ds.size = 0 by omega, Lib.extract_eq]
    show _ ++ List.replicate 0 48 = _
    simp
  have hs : ds.data.toList = ds.data.toList.take k ++ ds.data.toList.drop k := (List.take_append_drop k _).symm
  have hg2 : good 10 (ds.data.toList.take k) := fun c hc => hg c (List.mem_of_mem_take hc)
  have hg3 : good 10 (ds.data.toList.drop k) := fun c hc => hg c (List.mem_of_mem_drop hc)
  rw [e]
  refine ⟨hg2, valN 10 (ds.data.toList.drop k), ?_, ?_⟩
  · have := valN_good_lt 10 _ hg3
    rwa [List.length_drop, hl] at this
  · have h1 := valN_append (ds.data.toList.take k) (ds.data.toList.drop k)
    rw [← hs, List.length_drop, hl] at h1
    exact h1
theorem pad_pos (ds : ByteArray) (k : Nat) (hk : k < ds.size) (h1 : 1 ≤ k) (hg : good 10 ds.data.toList) (hf : ∀ h : 0 < ds.size, ds[0].toNat ≠ 48) : 0 < valN 10 (padB ds k).data.toList := by
  obtain ⟨_, R, hR, hv⟩ := pad_val ds k hk hg
  have hge := first_ge ds (by omega) hf
  apply Nat.pos_of_ne_zero
  intro h0
  rw [h0, Nat.zero_mul, Nat.zero_add] at hv
  have : 10 ^ (ds.size - k) ≤ 10 ^ (ds.size - 1) := Nat.pow_le_pow_right (by omega) (by omega)
  omega
/-- The fewest digits are no more than seventeen. -/
theorem least_17 (n : Nat) (p : Int) (q k : Nat) (ds : ByteArray) (pow : Int) (hc : Canon n p) (hn : 0 < n) (hq : n = q * 2 ^ k) (hd : ExD ds pow q (p + k)) (N : Nat) (hNs : N ≤ ds.size)
    (h : ∀ j, 1 ≤ j → j < N → Rds (fw false n p) (padB ds j) pow = false ∧ ∀ u r, cutV ds pow j (decide (j < ds.size)) u r → Rds (fw false n p) u r = false) : N ≤ 17 := by
  apply Nat.le_of_not_lt
  intro hlt
  obtain ⟨h1, h2⟩ := h 17 (by omega) hlt
  have hs : 17 < ds.size := by omega
  obtain ⟨gp, R, hR, hv⟩ := pad_val ds 17 hs hd.2.1
  have hW := pad_pos ds 17 hs (by omega) hd.2.1 hd.2.2.1
  have hz := padB_size ds 17
  by_cases hr : 2 * R ≤ 10 ^ (ds.size - 17)
  · have := digits_near n p q k ds pow hc hn hq hd 17 (valN 10 (padB ds 17).data.toList) (by omega) (by omega) hW (.inl ⟨by omega, by omega⟩)
    rw [rds_is _ (fw_le _ _), hz] at h1
    exact of_decide_eq_false h1 this
  · obtain ⟨t, more, hup⟩ := upD_ex (padB ds 17) gp
    have hcut : cutV ds pow 17 (decide (17 < ds.size)) t (pow + (if more then 1 else 0)) := by
      rw [decide_eq_true hs]
      exact .inr ⟨rfl, more, hup, rfl⟩
    have h3 := h2 _ _ hcut
    obtain ⟨_, uv, us, _⟩ := hup
    have em : (valN 10 (padB ds 17).data.toList + 1) * 10 ^ (ds.size - 17) = valN 10 (padB ds 17).data.toList * 10 ^ (ds.size - 17) + 10 ^ (ds.size - 17) := by rw [Nat.add_mul, Nat.one_mul]
    have := digits_near n p q k ds pow hc hn hq hd 17 (valN 10 (padB ds 17).data.toList + 1) (by omega) (by omega) (by omega) (.inr ⟨by omega, by omega⟩)
    rw [rds_is _ (fw_le _ _), uv, us, hz] at h3
    refine of_decide_eq_false h3 ?_
    rw [← this]
    congr 1
    cases more <;> simp <;> omega
/-- What the law on the fewest digits asks. -/
theorem few_facts (n : Nat) (p : Int) (q k : Nat) (ds : ByteArray) (pow : Int) (d : ByteArray) (p' : Int) (u : ByteArray) (hc : Canon n p) (hn : 0 < n) (hq : n = q * 2 ^ k) (hd : ExD ds pow q (p + k)) (hle : LeastD ds pow (fw false n p) d p') (htu : TrimD d u) :
    u.size ≤ 17 ∧ ∀ j, 1 ≤ j → j < u.size → j < ds.size ∧ Rds (fw false n p) (padB ds j) pow = false ∧ ∀ t r, cutV ds pow j true t r → Rds (fw false n p) t r = false := by
  obtain ⟨N, t2, p2, hN1, hN2, hcut, hfew, hbest⟩ := hle
  have h17 := least_17 n p q k ds pow hc hn hq hd N hN2 hfew
  obtain ⟨u0, ug, i, ue, ui, uv, ul⟩ := htu
  have hkey : u.size ≤ N := by
    by_cases hsz : d.size ≤ N
    · omega
    · rcases hbest with ⟨_, _, rfl, _⟩ | ⟨_, _, rfl, _⟩
      · rw [padB_size] at hsz; omega
      · rcases hcut with ⟨_, rfl, _⟩ | ⟨_, more, ⟨_, hv, hs, hm⟩, _⟩
        · rw [padB_size] at hsz; omega
        · rw [padB_size] at hs hm
          cases more
          · simp at hs; omega
          · simp at hs
            have hpow := hm rfl
            rw [hpow] at hv
            rcases ul with h1 | h1
            · omega
            · apply Classical.byContradiction
              intro hbad
              have hlast := last_some u u0 ug h1
              rw [uv] at hv
              have hi : 10 ^ N = 10 ^ (u.size - 1) * 10 ^ i := by rw [← Nat.pow_add]; congr 1; omega
              rw [hi] at hv
              have h10 : 0 < 10 ^ i := Nat.pow_pos (by omega)
              have hu := Nat.eq_of_mul_eq_mul_right h10 hv
              apply hlast
              rw [hu, show u.size - 1 = (u.size - 2) + 1 by omega, Nat.pow_succ]
              exact Nat.mul_mod_left _ _
  refine ⟨by omega, fun j h1 h2 => ?_⟩
  obtain ⟨a1, a2⟩ := hfew j h1 (by omega)
  have hj : j < ds.size := by omega
  rw [decide_eq_true hj] at a2
  exact ⟨hj, a1, a2⟩
end Go.Proofs.YtpmccbkhkaoccaaGreatDoor

/- What Fixed answers: plain. -/
namespace Go.Proofs.YtpmccbkhkaoccaaGreatDoor
open Go.RowKit

/-- Zeros ahead of digits whose point stands ahead of them. -/
def fxD (ds : ByteArray) (p : Int) : ByteArray := if p < 1 then zerosB (1 - p).toNat ++ ds else ds
def fxP (p : Int) : Int := if p < 1 then 1 else p
/-- Zeros behind. -/
def fxE (ds : ByteArray) (p : Int) (k : Nat) : ByteArray := if (ds.size : Int) < p + k then ds ++ zerosB (p + k - (ds.size : Int)).toNat else ds
/-- The digits with so many places behind the point. -/
def fixB (ds : ByteArray) (p : Int) (k : Nat) : ByteArray :=
  if k = 0 then (fxE (fxD ds p) (fxP p) k).extract 0 (fxP p).toNat
  else (fxE (fxD ds p) (fxP p) k).extract 0 (fxP p).toNat ++ ⟨#[46]⟩ ++ (fxE (fxD ds p) (fxP p) k).extract (fxP p).toNat ((fxP p).toNat + k)
/-- The digits of a number, cut so far behind the point. -/
def FixD (ds : ByteArray) (pow : Int) (k : Nat) (t : ByteArray) (p : Int) : Prop :=
  (pow + k < 0 ∧ t = ⟨#[]⟩ ∧ p = 1) ∨ (0 ≤ pow + k ∧ cutV ds pow (pow + k).toNat (roundsB ds (pow + k)) t p)
theorem fixD_one {ds : ByteArray} {pow : Int} {k : Nat} {t t' : ByteArray} {p p' : Int} (h : FixD ds pow k t p) (h' : FixD ds pow k t' p') : t = t' ∧ p = p' := by
  rcases h with ⟨a, rfl, rfl⟩ | ⟨a, c⟩ <;> rcases h' with ⟨b, rfl, rfl⟩ | ⟨b, c'⟩
  · exact ⟨rfl, rfl⟩
  · omega
  · omega
  · exact cutV_one _ _ _ _ _ _ _ _ c c'
theorem fxD_size (ds : ByteArray) (p : Int) : (fxD ds p).size = (if p < 1 then (1 - p).toNat + ds.size else ds.size) := by
  unfold fxD
  split
  · rw [append_size, zerosB_size]
  · rfl
theorem fxE_size (ds : ByteArray) (p : Int) (k : Nat) : p + k ≤ ((fxE ds p k).size : Int) ∧ (fxE ds p k).size ≤ ds.size + (p + k).toNat := by
  unfold fxE
  split
  · rw [append_size, zerosB_size]; omega
  · omega
end Go.Proofs.YtpmccbkhkaoccaaGreatDoor

/- Fixed of the specification. -/
namespace Go.Proofs.YtpmccbkhkaoccaaGreatDoor
open Go.ChangeShapes Go.WideShapes Go.RowKit
open Ieee (double)

/-- A pair of digits and their point in block D. -/
def Pair (w : World) (D : Nat) (ds : ByteArray) (p : Int) : Prop := w.cell? ⟨D, 0, none⟩ = some (.string ds) ∧ w.cell? ⟨D, 1, none⟩ = some (.int .i64 p) ∧ w.frozen? ⟨D, 0, none⟩ = false ∧ w.frozen? ⟨D, 1, none⟩ = false
theorem Pair.below {w w' : World} {D : Nat} {ds : ByteArray} {p : Int} (h : Pair w D ds p) (hb : Below w.heap.size w w') : Pair w' D ds p := by
  obtain ⟨a, b, c, d⟩ := h
  have hl := cell_lt a
  exact ⟨by rw [hb.cell hl]; exact a, by rw [hb.cell (p := ⟨D, 1, none⟩) hl]; exact b, by rw [hb.frozen (p := ⟨D, 0, none⟩) hl]; exact c, by rw [hb.frozen (p := ⟨D, 1, none⟩) hl]; exact d⟩
theorem Pair.set {w : World} {D : Nat} {ds ds' : ByteArray} {p p' : Int} (h : Pair w D ds p) : Pair ((w.setCell ⟨D, 0, none⟩ (.string ds')).setCell ⟨D, 1, none⟩ (.int .i64 p')) D ds' p' := by
  obtain ⟨a, b, c, d⟩ := h
  refine ⟨?_, ?_, ?_, ?_⟩
  · rw [World.cell?_setCell_other _ _ _ _ (by intro e; cases e)]
    exact World.cell?_setCell_same _ _ _ a
  · refine World.cell?_setCell_same _ _ _ (u := .int .i64 p) ?_
    rw [World.cell?_setCell_other _ _ _ _ (by intro e; cases e)]
    exact b
  · rw [set_frozen_at, set_frozen_at]; exact c
  · rw [set_frozen_at, set_frozen_at]; exact d
theorem Pair.set0 {w : World} {D : Nat} {ds ds' : ByteArray} {p : Int} (h : Pair w D ds p) : Pair (w.setCell ⟨D, 0, none⟩ (.string ds')) D ds' p := by
  obtain ⟨a, b, c, d⟩ := h
  exact ⟨World.cell?_setCell_same _ _ _ a, by rw [World.cell?_setCell_other _ _ _ _ (by intro e; cases e)]; exact b, by rw [set_frozen_at]; exact c, by rw [set_frozen_at]; exact d⟩
theorem Pair.drewN {w : World} {D : Nat} {ds : ByteArray} {p : Int} (h : Pair w D ds p) (n : Nat) : Pair (w.drewN n) D ds p := h
theorem Pair.drew {w : World} {D : Nat} {ds : ByteArray} {p : Int} (h : Pair w D ds p) : Pair w.drew D ds p := h
theorem Pair.alloc {w : World} {D : Nat} {ds : ByteArray} {p : Int} (h : Pair w D ds p) (o : Obj) : Pair (w.alloc o) D ds p := h.below ((Below.refl _ _).alloc (Nat.le_refl _) o)

/-- What the digits are, ahead of the writing. -/
def FixR (yes : Bool) (q : Nat) (E : Int) (k : Nat) (t : ByteArray) (p : Int) : Prop := (yes = true ∧ t = ⟨#[]⟩ ∧ p = 1) ∨ (yes = false ∧ ∃ ds pow, ExD ds pow q E ∧ FixD ds pow k t p)
set_option maxHeartbeats 8000000 in
set_option maxRecDepth 100000 in
theorem fixed_go (s : Bool) (r : Nat) (yes : Bool) (q : Nat) (E : Int) (k : Nat) (hk : k ≤ 400) (hr : r ≤ 9218868437227405312) (hO : ∀ w, Calls Tryz.prog 37 #[.float .f64 r] w fun e w' => e = .returned (.tuple #[.string ⟨#[48]⟩, .bool yes]) ∧ w' = w)
    (hX : yes = false → ∀ w, Calls Tryz.prog 42 #[.float .f64 r] w fun e w' => ∃ ds pow, ExD ds pow q E ∧ ds.size ≤ 1100 ∧ -1100 ≤ pow ∧ pow ≤ 1100 ∧ e = .returned (.agg #[.string ds, .int .i64 pow]) ∧ Below w.heap.size w w') (w : World) :
    Calls Tryz.prog 25 #[.float .f64 (signBit s + r), .int .i64 (k : Int)] w fun e w' => ∃ t p, FixR yes q E k t p ∧ (sgnB s ++ fixB t p k).size ≤ 5000 ∧ e = .returned (.string (sgnB s ++ fixB t p k)) ∧ Below w.heap.size w w' := by
  have H1 : Hid _ := fun w => l5size_any s r hr w
  have H2 : Hid _ := hO
  have H3 : Hid _ := hX
  have z3 := sgnB_size s
  generalize sgnB s = S at *
  generalize signBit s + r = X at *
  clear hX hr hO
  have hk' : (k : Int) ≤ 400 := by omega
  go_enter Tryz.func25, Tryz.ntmps25
  go_wp2_with fail
  refine (H1.out _).mono ?_
  rintro e w1 ⟨rfl, rfl⟩
  go_wp2_with fail
  refine (H2.out _).mono ?_
  rintro e w2 ⟨rfl, rfl⟩
  go_upto_region 5 with fail
  go_cut [31] from 27 (fun s31 wc => s31 = .bool false ∧ wc = w2)
  case first =>
    cases yes
    all_goals
      go_wp2
      go_meet
      case rel => exact ⟨rfl, rfl⟩
  case rest =>
  obtain ⟨rfl, hwc⟩ := hcut
  have hwc' := hwc.symm
  subst hwc'
  have HP0 : Hid (Pair (w2.alloc (.cells #[.string ⟨#[]⟩, .int .i64 1] 70)) w2.heap.size ⟨#[]⟩ 1) := ⟨by simp [go_sem], by simp [go_sem], by simp [go_sem], by simp [go_sem]⟩
  have HB0 : Hid (Below w2.heap.size w2 (w2.alloc (.cells #[.string ⟨#[]⟩, .int .i64 1] 70))) := (Below.refl _ _).alloc (Nat.le_refl _) _
  obtain ⟨D, hD⟩ : ∃ D, D = w2.heap.size := ⟨_, rfl⟩
  go_upto_if 37 with fail
  go_cut [10] from 36 (fun _ wd => ∃ t p, Hid (FixR yes q E k t p) ∧ t.size ≤ 1700 ∧ -1100 ≤ p ∧ p ≤ 1102 ∧ Hid (Pair wd w2.heap.size t p) ∧ Hid (Below w2.heap.size w2 wd))
  case first =>
    cases yes
    · have H3' : Hid _ := H3.out rfl
      clear H3
      go_wp2_with fail
      refine (H3'.out _).mono ?_
      rintro e w3 ⟨ds, pow, hd, hs, hp1, hp2, rfl, hb3⟩
      have HP3 : Hid (Pair w3 w2.heap.size ⟨#[]⟩ 1) := HP0.out.below hb3
      have HB3 : Hid (Below w2.heap.size w2 w3) := HB0.out.trans (hb3.mono HB0.out.size)
      have HD : Hid (ExD ds pow q E) := hd
      obtain ⟨a0, a1, a2, a3⟩ := HP3.out
      have HP4 : Hid (Pair ((w3.setCell ⟨w2.heap.size, 0, none⟩ (.string ds)).setCell ⟨w2.heap.size, 1, none⟩ (.int .i64 pow)) w2.heap.size ds pow) := HP3.out.set
      have HB4 : Hid (Below w2.heap.size w2 ((w3.setCell ⟨w2.heap.size, 0, none⟩ (.string ds)).setCell ⟨w2.heap.size, 1, none⟩ (.int .i64 pow))) := (HB3.out.setCell (p := ⟨w2.heap.size, 0, none⟩) (Nat.le_refl _) _).setCell (p := ⟨w2.heap.size, 1, none⟩) (Nat.le_refl _) _
      clear hd hb3 HP0 HB0 H3'
      go_upto_region 10 with fail
      generalize (w3.setCell ⟨w2.heap.size, 0, none⟩ (.string ds)).setCell ⟨w2.heap.size, 1, none⟩ (.int .i64 pow) = w4 at *
      clear a0 a1 a2 a3 HP3 HB3
      obtain ⟨a0, a1, a2, a3⟩ := HP4.out
      have hz4 : w2.heap.size < w4.heap.size := cell_lt a0
      by_cases hn : pow + (k : Int) < 0
      · have hn' : decide (pow + (k : Int) < 0) = true := decide_eq_true hn
        have HF : Hid (FixR false q E k ⟨#[]⟩ 1) := .inr ⟨rfl, ds, pow, HD.out, .inl ⟨hn, rfl, rfl⟩⟩
        have HP5 : Hid (Pair ((w4.setCell ⟨w2.heap.size, 0, none⟩ (.string ⟨#[]⟩)).setCell ⟨w2.heap.size, 1, none⟩ (.int .i64 1)) w2.heap.size ⟨#[]⟩ 1) := HP4.out.set
        have HB5 : Hid (Below w2.heap.size w2 ((w4.setCell ⟨w2.heap.size, 0, none⟩ (.string ⟨#[]⟩)).setCell ⟨w2.heap.size, 1, none⟩ (.int .i64 1))) := (HB4.out.setCell (p := ⟨w2.heap.size, 0, none⟩) (Nat.le_refl _) _).setCell (p := ⟨w2.heap.size, 1, none⟩) (Nat.le_refl _) _
        go_wp2
        go_meet
        case rel => exact ⟨⟨#[]⟩, 1, HF, by decide, by omega, by omega, HP5, HB5⟩
      · obtain ⟨N, hN⟩ : ∃ N : Nat, pow + (k : Int) = (N : Int) := ⟨(pow + (k : Int)).toNat, by omega⟩
        have hN1 : N ≤ 1500 := by omega
        have hN0 : decide ((N : Int) < 0) = false := decide_eq_false (by omega)
        have HR : Hid _ := fun w => l5rounds_any ds pow (N : Int) (by omega) HD.out.2.1 w
        have HC : Hid _ := fun up w => l5cut_any ds pow N up hs HD.out.2.1 (by omega) (by omega) (by omega) w
        obtain ⟨up, hup⟩ : ∃ up, up = roundsB ds (N : Int) := ⟨_, rfl⟩
        rw [← hup] at HR
        have HF : Hid (∀ t p, cutV ds pow N up t p → FixR false q E k t p) := fun t p hc => .inr ⟨rfl, ds, pow, HD.out, .inr ⟨by omega, by rw [hN, Int.toNat_natCast, ← hup]; exact hc⟩⟩
        clear hup HD hn
        go_wp2
        go_region_with (first | (go_at_call 53; refine (HR.out _).mono ?_; rintro e w' ⟨rfl, rfl⟩) | (go_at_call 51; refine (HC.out _ _).mono ?_; rintro e w5 ⟨t, p', hc, rfl, hb5⟩; have HF5 : Hid (FixR false q E k t p') := HF.out t p' hc; have hcs := cut5_size _ _ _ _ _ _ hc; have HP5 : Hid (Pair w5 w2.heap.size ds pow) := (by refine Pair.below ?_ hb5; repeat (first | with_reducible exact HP4.out | with_reducible refine Pair.alloc ?_ _ | with_reducible refine Pair.drew ?_ | with_reducible refine Pair.drewN ?_ _)); have HB5 : Hid (Below w2.heap.size w2 w5) := (by refine Below.trans ?_ (hb5.mono (by simp <;> omega)); repeat (first | with_reducible exact HB4.out | with_reducible refine Below.alloc ?_ (by first | omega | (simp <;> omega)) _ | with_reducible refine Below.drew ?_ | with_reducible refine below_drewN ?_ _)); obtain ⟨b0, b1, b2, b3⟩ := HP5.out; clear hc hb5))
        all_goals
          have HP6 : Hid (Pair ((w5.setCell ⟨w2.heap.size, 0, none⟩ (.string t)).setCell ⟨w2.heap.size, 1, none⟩ (.int .i64 p')) w2.heap.size t p') := HP5.out.set
          have HB6 : Hid (Below w2.heap.size w2 ((w5.setCell ⟨w2.heap.size, 0, none⟩ (.string t)).setCell ⟨w2.heap.size, 1, none⟩ (.int .i64 p'))) := (HB5.out.setCell (p := ⟨w2.heap.size, 0, none⟩) (Nat.le_refl _) _).setCell (p := ⟨w2.heap.size, 1, none⟩) (Nat.le_refl _) _
          go_wp2
          go_meet
          case rel => exact ⟨t, p', HF5, by omega, by omega, by omega, HP6, HB6⟩
    · have HF : Hid (FixR true q E k ⟨#[]⟩ 1) := .inl ⟨rfl, rfl, rfl⟩
      go_wp2
      go_meet
      case rel => exact ⟨⟨#[]⟩, 1, HF, by decide, by omega, by omega, HP0, HB0⟩
  case rest =>
    obtain ⟨t, p, HF, ht, hp1, hp2, HP, HB⟩ := hcut
    generalize wc = wd at *
    clear HP0 HB0 H1 H2 H3 hD
    obtain ⟨T2, hT2⟩ : ∃ T2, T2 = fxD t p := ⟨_, rfl⟩
    obtain ⟨P2, hP2⟩ : ∃ P2, P2 = fxP p := ⟨_, rfl⟩
    have HT2 : Hid (T2 = fxD t p) := hT2
    have HP2 : Hid (P2 = fxP p) := hP2
    have hz2 : T2.size ≤ 3000 := by rw [hT2, fxD_size]; split <;> omega
    have hP2a : 1 ≤ P2 := by rw [hP2]; unfold fxP; split <;> omega
    have hP2b : P2 ≤ 1102 := by rw [hP2]; unfold fxP; split <;> omega
    clear hT2 hP2
    obtain ⟨a0, a1, a2, a3⟩ := HP.out
    have hzd : w2.heap.size < wd.heap.size := cell_lt a0
    go_upto_if 55 with fail
    go_cut [10] from 53 (fun _ we => Hid (Pair we w2.heap.size T2 P2) ∧ Hid (Below w2.heap.size w2 we))
    case first =>
      by_cases hp : p < 1
      · have hp' : decide (p < 1) = true := decide_eq_true hp
        have hE2 : T2 = zerosB (1 - p).toNat ++ t := by rw [HT2.out]; unfold fxD; rw [if_pos hp]
        have hE3 : P2 = 1 := by rw [HP2.out]; unfold fxP; rw [if_pos hp]
        have HZ : Hid (∀ w, Calls Tryz.prog 54 #[.int .i64 (IntKind.i64.wrap (1 - p))] w fun e w' => e = .returned (.string (zerosB (1 - p).toNat)) ∧ w' = w.alloc (.cells (tcells (zerosL (1 - p).toNat) (1 - p).toNat).toArray 5)) := fun w => by
          rw [show IntKind.i64.wrap (1 - p) = 1 - p by rw [IntKind.wrap_i64]; omega]
          exact zeros_int (1 - p) (by omega) (by omega) w
        have hzs : ((zerosB (1 - p).toNat).size : Int) ≤ 1200 := by rw [zerosB_size]; omega
        have hts : (t.size : Int) ≤ 1700 := by omega
        generalize zerosB (1 - p).toNat = Z at *
        generalize (tcells (zerosL (1 - p).toNat) (1 - p).toNat).toArray = C at *
        subst hE2 hE3
        have HPX : Hid (Pair ((wd.setCell ⟨w2.heap.size, 0, none⟩ (.string (Z ++ t))).setCell ⟨w2.heap.size, 1, none⟩ (.int .i64 1)) w2.heap.size (Z ++ t) 1) := HP.out.set
        have HBX : Hid (Below w2.heap.size w2 ((wd.setCell ⟨w2.heap.size, 0, none⟩ (.string (Z ++ t))).setCell ⟨w2.heap.size, 1, none⟩ (.int .i64 1))) := (HB.out.setCell (p := ⟨w2.heap.size, 0, none⟩) (Nat.le_refl _) _).setCell (p := ⟨w2.heap.size, 1, none⟩) (Nat.le_refl _) _
        clear HF HT2 HP2
        go_wp2
        go_region_with (go_at_call 54; refine (HZ.out _).mono ?_; rintro e w' ⟨rfl, rfl⟩)
        all_goals
          go_wp2
          go_meet
          case rel => exact ⟨(HPX.out.alloc _).drew, Below.drew (HBX.out.alloc HBX.out.size _)⟩
      · have hp' : decide (p < 1) = false := decide_eq_false hp
        have hE2 : T2 = t := by rw [HT2.out]; unfold fxD; rw [if_neg hp]
        have hE3 : P2 = p := by rw [HP2.out]; unfold fxP; rw [if_neg hp]
        subst hE2 hE3
        go_wp2
        go_meet
        case rel => exact ⟨HP, HB⟩
    case rest =>
      obtain ⟨HPe, HBe⟩ := hcut
      generalize wc = we at *
      clear a0 a1 a2 a3 HP HB hzd hp1 hp2 ht
      obtain ⟨a0, a1, a2, a3⟩ := HPe.out
      have hze : w2.heap.size < we.heap.size := cell_lt a0
      obtain ⟨T3, hT3⟩ : ∃ T3, T3 = fxE T2 P2 k := ⟨_, rfl⟩
      have HT3 : Hid (T3 = fxE T2 P2 k) := hT3
      obtain ⟨hz3a, hz3b⟩ := fxE_size T2 P2 k
      rw [← hT3] at hz3a hz3b
      have hz3 : T3.size ≤ 4600 := by omega
      obtain ⟨L2, hL2⟩ : ∃ L2 : Int, (T2.size : Int) = L2 := ⟨_, rfl⟩
      have hL2a : 0 ≤ L2 := by omega
      have hL2c : L2 ≤ 3000 := by omega
      clear hT3
      go_upto_if 72 with fail
      go_cut [10] from 65 (fun _ wf => Hid (Pair wf w2.heap.size T3 P2) ∧ Hid (Below w2.heap.size w2 wf))
      case first =>
        by_cases hp : L2 < P2 + (k : Int)
        · have hp' : decide (L2 < P2 + (k : Int)) = true := decide_eq_true hp
          have hE2 : T3 = T2 ++ zerosB (P2 + (k : Int) - L2).toNat := by rw [HT3.out]; unfold fxE; rw [if_pos (by omega), hL2]
          have hzs : ((zerosB (P2 + (k : Int) - L2).toNat).size : Int) ≤ 1600 := by rw [zerosB_size]; omega
          have HZ : Hid (∀ w, Calls Tryz.prog 54 #[.int .i64 (IntKind.i64.wrap (IntKind.i64.wrap (P2 + (k : Int)) - L2))] w fun e w' => e = .returned (.string (zerosB (P2 + (k : Int) - L2).toNat)) ∧ w' = w.alloc (.cells (tcells (zerosL (P2 + (k : Int) - L2).toNat) (P2 + (k : Int) - L2).toNat).toArray 5)) := fun w => by
            rw [show IntKind.i64.wrap (P2 + (k : Int)) = P2 + (k : Int) by rw [IntKind.wrap_i64]; omega, show IntKind.i64.wrap (P2 + (k : Int) - L2) = P2 + (k : Int) - L2 by rw [IntKind.wrap_i64]; omega]
            exact zeros_int _ (by omega) (by omega) w
          generalize zerosB (P2 + (k : Int) - L2).toNat = Z at *
          generalize (tcells (zerosL (P2 + (k : Int) - L2).toNat) (P2 + (k : Int) - L2).toNat).toArray = C at *
          subst hE2
          have HPX : Hid (Pair (we.setCell ⟨w2.heap.size, 0, none⟩ (.string (T2 ++ Z))) w2.heap.size (T2 ++ Z) P2) := HPe.out.set0
          have HBX : Hid (Below w2.heap.size w2 (we.setCell ⟨w2.heap.size, 0, none⟩ (.string (T2 ++ Z)))) := HBe.out.setCell (p := ⟨w2.heap.size, 0, none⟩) (Nat.le_refl _) _
          clear HT3 HF HT2 HP2
          go_wp2
          go_region_with (go_at_call 54; refine (HZ.out _).mono ?_; rintro e w' ⟨rfl, rfl⟩)
          all_goals
            go_wp2
            go_meet
            case rel => exact ⟨(HPX.out.alloc _).drew, Below.drew (HBX.out.alloc HBX.out.size _)⟩
        · have hp' : decide (L2 < P2 + (k : Int)) = false := decide_eq_false hp
          have hE2 : T3 = T2 := by rw [HT3.out]; unfold fxE; rw [if_neg (by omega)]
          subst hE2
          go_wp2
          go_meet
          case rel => exact ⟨HPe, HBe⟩
      case rest =>
        obtain ⟨HPf, HBf⟩ := hcut
        generalize wc = wf at *
        clear a0 a1 a2 a3 HPe HBe
        obtain ⟨a0, a1, a2, a3⟩ := HPf.out
        obtain ⟨M, hM⟩ : ∃ M : Nat, P2 = (M : Int) := ⟨P2.toNat, by omega⟩
        have HFX : Hid (fixB t p k = if k = 0 then T3.extract 0 M else T3.extract 0 M ++ ⟨#[46]⟩ ++ T3.extract M (M + k)) := by
          show _ = _
          unfold fixB
          rw [← HT2.out, ← HP2.out, ← HT3.out, hM, Int.toNat_natCast]
        subst hM
        have hMz : M ≤ T3.size := by omega
        have hex1 : (T3.extract 0 M).size = M := by rw [ByteArray.size_extract]; omega
        have hT3i : (T3.size : Int) ≤ 4600 := by omega
        by_cases hk0 : k = 0
        · subst hk0
          rw [if_pos rfl] at HFX
          have HSZ : Hid ((S ++ fixB t p 0).size ≤ 5000) := by show _ ≤ _; rw [HFX.out, append_size]; omega
          go_wp2
          go_ret
          exact ⟨t, p, HF.out, (by have := HSZ.out; first | exact this | (rw [append_size] at this; exact this)), by rw [HFX.out]; rfl, HBf.out⟩
        · rw [if_neg hk0] at HFX
          have hkb : ((k : Int) == 0) = false := beq_eq_false_iff_ne.2 (by omega)
          have hMk : M + k ≤ T3.size := by omega
          have hex2 : (T3.extract M (M + k)).size = k := by rw [ByteArray.size_extract]; omega
          have HSZ : Hid ((S ++ fixB t p k).size ≤ 5000) := by
            show _ ≤ _
            rw [HFX.out, append_size, append_size, append_size]
            have e1 : (⟨#[46]⟩ : ByteArray).size = 1 := rfl
            omega
          go_wp2
          go_quiet (fail)
          go_wp2
          go_ret
          exact ⟨t, p, HF.out, (by have := HSZ.out; first | exact this | (rw [append_size] at this; exact this)), (by rw [HFX.out]; show Ending.returned (.string (S ++ T3.extract 0 M ++ ⟨#[46]⟩ ++ T3.extract M (M + k))) = _; simp only [ByteArray.append_assoc]), below_drewN HBf.out _⟩
end Go.Proofs.YtpmccbkhkaoccaaGreatDoor

