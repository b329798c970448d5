import Derived.Test.YtoedefjngipeiaaGreatDoorA25
import Derived.Test.YtoedefjngipeiaaGreatDoorA27
import Derived.Test.YtoedefjngipeiaaGreatDoorA28
import Derived.Test.YtoedefjngipeiaaGreatDoorA31
import Derived.Test.YtoedefjngipeiaaGreatDoorA32
import Derived.Test.YtoedefjngipeiaaGreatDoorA33
import Derived.Test.YtoedefjngipeiaaGreatDoorA34
import Derived.Test.YtoedefjngipeiaaGreatDoorA35
import Derived.Test.YtoedefjngipeiaaGreatDoorRows
import Derived.OrdersHeld
import Derived.Deep.RegionHeld
import Derived.WalkKit
import Derived.WalkSpells
import Derived.BigQuiet
/- The law on what is read around the midst between two floats: what its walk wants. -/
namespace Go.Proofs.YtoedefjngipeiaaGreatDoor
open Go.ChangeShapes Go.WideShapes Go.RowKit
open Ieee (double)

theorem size_canon (r : Nat) (hr : r < 9218868437227405312) : ∃ m p, Canon m p ∧ r = fw false m p ∧ r = rung m p := by
  obtain ⟨m, p, hc, he, _⟩ := canon_parts (r / 4503599627370496) (r % 4503599627370496) (by omega) (by omega)
  have e : rung m p = r := by omega
  exact ⟨m, p, hc, by rw [fw_canon _ _ _ hc, e]; exact (Nat.zero_add r).symm, e.symm⟩
theorem up_size (r : Nat) (hr : r < 9218868437227405312) : upV r (r + 1) := by
  obtain ⟨m, p, hc, h1, h2⟩ := size_canon r hr
  have s0 : signBit false = 0 := rfl
  refine ⟨by omega, ?_⟩
  by_cases h0 : m = 0
  · subst h0
    have e : r = signBit false := by rw [h1, fw_zero]
    exact .inr (.inr (.inl ⟨false, e, by omega⟩))
  · exact .inr (.inr (.inr (.inl ⟨m, p, hc, by omega, h1, rfl⟩)))
theorem up_only (r b : Nat) (hr : r < 9218868437227405312) (h : upV r b) : b = r + 1 := by
  have s0 : signBit false = 0 := rfl
  have s1 : signBit true = 9223372036854775808 := rfl
  rcases h.2 with ⟨hn, e⟩ | ⟨e, _⟩ | ⟨s, e, e'⟩ | ⟨m, p, hc, h0, e, e'⟩ | ⟨m, p, hc, h0, e, e'⟩ | ⟨e, _⟩
  · have := not_nan false r (by omega)
    rw [s0, Nat.zero_add] at this
    exact absurd hn this
  · rw [e] at hr; exact absurd hr (by decide)
  · cases s <;> omega
  · exact e'
  · rw [fw_canon _ _ _ hc] at e; omega
  · rw [e] at hr; exact absurd hr (by decide)
theorem parts_size (r : Nat) (hr : r < 9218868437227405311) : ∃ s m e, partsV (r + 1) 1 s m e := by
  obtain ⟨m, p, hc, h1, h2⟩ := size_canon (r + 1) (by omega)
  have h0 : 0 < m := by
    apply Nat.pos_of_ne_zero
    rintro rfl
    have e : r + 1 = signBit false := by rw [h1, fw_zero]
    have s0 : signBit false = 0 := rfl
    omega
  obtain ⟨q, t, hq, ho⟩ := odd_some m h0
  exact ⟨false, q, p + t, .inr (.inr (.inr ⟨m, p, q, t, hc, h0, h1, hq, ho, rfl, rfl, rfl⟩))⟩
theorem kind_size (r : Nat) (hr : r < 9218868437227405312) (w : World) (hT : DTab w) (hz : 1 < w.heap.size) :
    Calls Tryz.prog 9 #[.float .f64 (r + 1)] w fun e w' => ∃ (k : Int) (s : Bool) (m x : Int), (k = 2 ∨ k = 1) ∧ e = .returned (.agg #[.int .i64 k, .bool s, .int .i64 m, .int .i64 x]) ∧ Below w.heap.size w w' := by
  by_cases h : r = 9218868437227405311
  · subst h
    refine (implParts_of _ (by omega) 2 false 0 0 (.inr (.inl ⟨by decide, rfl, rfl, rfl⟩)) w hT hz).mono ?_
    rintro e w' ⟨rfl, hb⟩
    exact ⟨2, _, _, _, .inl rfl, rfl, hb⟩
  · obtain ⟨s, m, x, h1⟩ := parts_size r (by omega)
    refine (implParts_of _ (by omega) 1 s m x h1 w hT hz).mono ?_
    rintro e w' ⟨rfl, hb⟩
    exact ⟨1, _, _, _, .inr rfl, rfl, hb⟩
theorem ibits_size (r : Nat) (hr : r < 9218868437227405312) (w : World) :
    Calls Tryz.prog 11 #[.float .f64 r] w fun e w' => e = .returned (.int .i64 (r : Int)) ∧ Below w.heap.size w w' := by
  refine (implBitsOf_any r (by omega) w).mono ?_
  rintro e w' ⟨v, hv, rfl, hb⟩
  have hn : ¬ IsNan r := by
    have := not_nan false r (by omega)
    rw [show signBit false + r = r from Nat.zero_add r] at this
    exact this
  rcases hv with ⟨h, _⟩ | ⟨_, rfl⟩
  · exact absurd h hn
  · exact ⟨by rw [show wrap64 (r : Int) = (r : Int) by unfold wrap64; omega], hb⟩
theorem sup_size (r : Nat) (hr : r < 9218868437227405312) (w : World) :
    Calls Tryz.prog 8 #[.float .f64 r] w fun e w' => e = .returned (.float .f64 (r + 1)) ∧ Below w.heap.size w w' := by
  refine (specUp_any r (by omega) w).mono ?_
  rintro e w' ⟨b, hb, rfl, k, rfl⟩
  rw [up_only r b hr hb]
  exact ⟨rfl, below_drewN (Below.refl _ _) k⟩
theorem digit_low (c : UInt8) (h : digN 99 (c.toNat : Int) < 10) : 1 ≤ c.toNat := by
  unfold digN at h
  split at h <;> omega
theorem pointed_less (t : ByteArray) (m : Nat) (p : Int) (h : Pointed t (2 * m + 1) (p - 1)) : t.data.toList.any nz = true ∧ ∀ j (h : j < t.size), 1 ≤ t[j].toNat := by
  obtain ⟨a, b, ht, ha0, hb, hg, hv, _⟩ := h
  obtain ⟨_, _, _, hV⟩ := midst_key m _ b.size p hb hv
  have hany : (a.data.toList ++ b.data.toList).any nz = true := by
    apply Classical.byContradiction
    intro hn
    have hn' : (a.data.toList ++ b.data.toList).any nz = false := by simpa using hn
    have := zeros_of _ (by rw [← append_list]; exact hg) hn'
    rw [append_list, this, valN_zeros] at hV
    omega
  have hlt : t.data.toList = a.data.toList ++ [46] ++ b.data.toList := by rw [ht, append_list, append_list]; rfl
  constructor
  · rw [hlt, List.any_append, List.any_append]
    rw [List.any_append] at hany
    rcases Bool.or_eq_true_iff.1 hany with h | h
    · rw [h]; rfl
    · rw [h]; simp
  · intro j hj
    have hm : t[j] ∈ t.data.toList := by
      have hj' : j < t.data.toList.length := by rw [data_len]; exact hj
      have : t[j] = t.data.toList[j] := rfl
      rw [this]; exact List.getElem_mem hj'
    rw [hlt] at hm
    rw [append_list] at hg
    rcases List.mem_append.1 hm with hm | hm
    · rcases List.mem_append.1 hm with hm | hm
      · exact digit_low _ (hg _ (List.mem_append_left _ hm))
      · rw [List.mem_singleton.1 hm]; decide
    · exact digit_low _ (hg _ (List.mem_append_right _ hm))
end Go.Proofs.YtoedefjngipeiaaGreatDoor

/- The law on what is read around the midst between two floats, walked: over whatever ReadFlt that answers as it should. -/
namespace Go.Proofs.YtoedefjngipeiaaGreatDoor
open Go.ChangeShapes Go.WideShapes Go.RowKit
open Ieee (double)

theorem rung_even (m : Nat) (p : Int) : rung m p % 2 = m % 2 := by unfold rung; omega
theorem midst_size (t : ByteArray) (m : Nat) (p : Int) (hc : Canon m p) (h : Pointed t (2 * m + 1) (p - 1)) : t.size ≤ 1150 := by
  have hm2 : m < 9007199254740992 := by rcases hc with h | h <;> omega
  have hp1 : -1074 ≤ p := by rcases hc with h | h <;> omega
  have hp2 : p ≤ 971 := by rcases hc with h | h <;> omega
  have := pointed_size t _ _ h (by omega)
  split at this <;> omega
theorem reads_as (HREAD : ∀ (s : ByteArray), s.size ≤ 1200 → (∀ ok pl fl, ReadA s ok pl fl → ok = true) → ∀ w, Calls Tryz.prog 15 #[.string s] w fun e w' => ReadQ s w e w') (t : ByteArray) (f : Nat) (hs : t.size ≤ 1200) (hf : f < 18446744073709551616)
    (h : ∀ ok pl fl, ReadA t ok pl fl → ok = true ∧ pl = 0 ∧ fl = (· = f)) (w : World) :
    Calls Tryz.prog 12 #[.string t, .float .f64 f] w fun e w' => e = .returned (.bool true) ∧ Below w.heap.size w w' := by
  refine wRead_is t f hf (fun w => ?_) w
  refine (HREAD _ hs (fun ok pl fl hr => (h ok pl fl hr).1) w).mono ?_
  rintro e' w' ⟨ok, pl, fl, x, hr, hx, _, rfl, hb⟩
  obtain ⟨rfl, rfl, rfl⟩ := h ok pl fl hr
  cases hx
  exact ⟨0, rfl, hb⟩
theorem les_size (t : ByteArray) : (⟨(les t.data.toList).toArray⟩ ++ ninesB : ByteArray).size = t.size + 10 := by
  rw [append_size]
  have : (⟨(les t.data.toList).toArray⟩ : ByteArray).size = t.size := by
    rw [← data_len]
    show (les t.data.toList).length = _
    rw [les_length, data_len]
  rw [this]; rfl

set_option maxHeartbeats 1000000 in
set_option maxRecDepth 100000 in
theorem lawFnHalves_small (HREAD0 : ∀ (s : ByteArray), s.size ≤ 1200 → (∀ ok pl fl, ReadA s ok pl fl → ok = true) → ∀ w, Calls Tryz.prog 15 #[.string s] w fun e w' => ReadQ s w e w') (w : World) (a : Option Addr) (len cap : Nat) (k0 : Bts w a len) (hT : DTab w) (hz : 1 < w.heap.size) :
    Calls Tryz.prog 3 #[.slice a len cap] w fun e w' => e = .returned (.bool true) ∧ Below w.heap.size w w' := by
  have hl : len ≤ 1048576 := k0.1
  have HW : Hid _ := fun (_ : Unit) => k0.code
  have HT : Hid _ := fun w' (hb : Below w.heap.size w w') => And.intro (DTab.below hT hz hb) (Nat.lt_of_lt_of_le hz hb.size)
  have HREAD : Hid _ := HREAD0
  clear k0 HREAD0 hT hz
  go_enter Tryz.func3, Tryz.ntmps3
  go_wp2_with fail
  refine (sized_any w a len cap (HW.out ())).mono ?_
  rintro e w1 ⟨r, hr, rfl, hb1⟩
  have H1 : Hid (Below w.heap.size w w1) := hb1
  obtain ⟨m, p, hc, hfw, hrg⟩ := size_canon r hr
  have HU : Hid _ := fun w => implUp_of r (r + 1) (by omega) (up_size r hr) w
  have HS : Hid _ := fun w => sup_size r hr w
  have HF : Hid _ := fun w => wflt_self (r + 1) (by omega) w
  have HK : Hid _ := fun w' (hb : Below w.heap.size w w') => kind_size r hr w' (HT.out w' hb).1 (HT.out w' hb).2
  have HB : Hid _ := fun w => ibits_size r hr w
  have HM : Hid _ := fun w => midst_any m p hc w
  have hpar : (r : Int) % 2 = ((m % 2 : Nat) : Int) := by have := rung_even m p; omega
  have HR1 : Hid (∀ t, Pointed t (2 * m + 1) (p - 1) → ∀ f, (m % 2 = 0 ∧ f = r ∨ m % 2 = 1 ∧ f = r + 1) → ∀ w, Calls Tryz.prog 12 #[.string t, .float .f64 f] w fun e w' => e = .returned (.bool true) ∧ Below w.heap.size w w') := fun t ht f hf w => by
    have hs := midst_size t m p hc ht
    have hf' : f = rung m p + m % 2 := by omega
    exact reads_as HREAD.out t f (by omega) (by omega) (fun ok pl fl h => by rw [hf']; exact read_midst t m p hc ht (by omega) ok pl fl h) w
  have HR2 : Hid (∀ t, Pointed t (2 * m + 1) (p - 1) → ∀ w, Calls Tryz.prog 12 #[.string (t ++ oneB), .float .f64 (r + 1)] w fun e w' => e = .returned (.bool true) ∧ Below w.heap.size w w') := fun t ht w => by
    have hs := midst_size t m p hc ht
    exact reads_as HREAD.out _ _ (by rw [append_size, one_facts.2.2]; omega) (by omega) (fun ok pl fl h => by rw [hrg]; exact read_more t m p hc ht (by omega) ok pl fl h) w
  have HR3 : Hid (∀ t, Pointed t (2 * m + 1) (p - 1) → ∀ w, Calls Tryz.prog 12 #[.string (⟨(les t.data.toList).toArray⟩ ++ ninesB), .float .f64 r] w fun e w' => e = .returned (.bool true) ∧ Below w.heap.size w w') := fun t ht w => by
    have hs := midst_size t m p hc ht
    exact reads_as HREAD.out _ _ (by rw [les_size]; omega) (by omega) (fun ok pl fl h => by rw [hrg]; exact read_less t m p hc ht (by omega) ok pl fl h) w
  have HL : Hid (∀ t, Pointed t (2 * m + 1) (p - 1) → t.size ≤ 1150 ∧ ∀ w, Calls Tryz.prog 13 #[.string t] w fun e w' => e = .returned (.string (⟨(les t.data.toList).toArray⟩ ++ ninesB)) ∧ Below w.heap.size w w') := fun t ht => by
    have hs := midst_size t m p hc ht
    obtain ⟨g1, g2⟩ := pointed_less t m p ht
    exact ⟨hs, fun w => less_any t (by omega) g1 g2 w⟩
  have hR0 : 0 ≤ (r : Int) := by omega
  have hR1 : (r : Int) < 9223372036854775808 := by omega
  rw [← hfw] at HM
  clear hfw hrg hc hr hb1 HW HREAD HT
  generalize hRi : (r : Int) = R at *
  generalize r + 1 = g at *
  clear hRi
  go_wp2_with fail
  refine (HU.out _).mono ?_
  rintro e w2 ⟨rfl, hb2⟩
  have H2 : Hid (Below w.heap.size w w2) := H1.out.trans (hb2.mono H1.out.size)
  clear hb2 H1 HU
  go_wp2_with fail
  refine (HS.out _).mono ?_
  rintro e w3 ⟨rfl, hb3⟩
  have H3 : Hid (Below w.heap.size w w3) := H2.out.trans (hb3.mono H2.out.size)
  clear hb3 H2 HS
  go_wp2_with fail
  refine (HF.out _).mono ?_
  rintro e w4 ⟨rfl, hw4⟩
  subst hw4
  clear HF
  go_wp2_with fail
  refine (HK.out _ H3.out).mono ?_
  rintro e w5 ⟨k, s, x, y, hk, rfl, hb5⟩
  have H5 : Hid (Below w.heap.size w w5) := H3.out.trans (hb5.mono H3.out.size)
  clear hb5 H3 HK
  have hfd : ∀ w : World, (Instr.field 28 (.agg #[.int .i64 k, .bool s, .int .i64 x, .int .i64 y]) 0).run Tryz.prog w = .ok (.int .i64 k) w := fun _ => by kernel_rfl
  rcases hk with rfl | rfl
  · go_wp2
    go_ret
    exact ⟨rfl, H5.out⟩
  go_wp2_with fail
  refine (HM.out _).mono ?_
  rintro e w6 ⟨t, ht, rfl, hb6⟩
  have H6 : Hid (Below w.heap.size w w6) := H5.out.trans (hb6.mono H5.out.size)
  obtain ⟨hts, hless⟩ := HL.out t ht
  have HL2 : Hid _ := hless
  have HA : Hid _ := HR1.out t ht
  have HC : Hid _ := HR2.out t ht
  have HD : Hid _ := HR3.out t ht
  clear hb6 H5 HM ht hless HL HR1 HR2 HR3
  go_wp2_with fail
  refine (HB.out _).mono ?_
  rintro e w7 ⟨rfl, hb7⟩
  have H7 : Hid (Below w.heap.size w w7) := H6.out.trans (hb7.mono H6.out.size)
  clear hb7 H6 HB
  have hm01 : m % 2 = 0 ∨ m % 2 = 1 := by omega
  rcases hm01 with hm | hm
  · have hq : R % 2 = 0 := by omega
    have HA1 : Hid _ := HA.out r (.inl ⟨hm, rfl⟩)
    clear HA hpar hm
    go_wp2_with fail
    refine (HA1.out _).mono ?_
    rintro e w8 ⟨rfl, hb8⟩
    have H8 : Hid (Below w.heap.size w w8) := H7.out.trans (hb8.mono H7.out.size)
    clear hb8 H7 HA1
    go_wp2_with fail
    refine (HC.out _).mono ?_
    rintro e w9 ⟨rfl, hb9⟩
    have H9 : Hid (Below w.heap.size w w9) := H8.out.trans (hb9.mono H8.out.size)
    clear hb9 H8 HC
    go_wp2_with fail
    refine (HL2.out _).mono ?_
    rintro e wA ⟨rfl, hbA⟩
    have HA' : Hid (Below w.heap.size w wA) := H9.out.trans (hbA.mono H9.out.size)
    clear hbA H9 HL2
    go_wp2_with fail
    refine (HD.out _).mono ?_
    rintro e wB ⟨rfl, hbB⟩
    have HB' : Hid (Below w.heap.size w wB) := HA'.out.trans (hbB.mono HA'.out.size)
    clear hbB HA' HD
    go_wp2
    go_ret
    exact ⟨rfl, HB'.out⟩
  · have hq : R % 2 = 1 := by omega
    have HA1 : Hid _ := HA.out g (.inr ⟨hm, rfl⟩)
    clear HA hpar hm
    go_wp2_with fail
    refine (HA1.out _).mono ?_
    rintro e w8 ⟨rfl, hb8⟩
    have H8 : Hid (Below w.heap.size w w8) := H7.out.trans (hb8.mono H7.out.size)
    clear hb8 H7 HA1
    go_wp2_with fail
    refine (HC.out _).mono ?_
    rintro e w9 ⟨rfl, hb9⟩
    have H9 : Hid (Below w.heap.size w w9) := H8.out.trans (hb9.mono H8.out.size)
    clear hb9 H8 HC
    go_wp2_with fail
    refine (HL2.out _).mono ?_
    rintro e wA ⟨rfl, hbA⟩
    have HA' : Hid (Below w.heap.size w wA) := H9.out.trans (hbA.mono H9.out.size)
    clear hbA H9 HL2
    go_wp2_with fail
    refine (HD.out _).mono ?_
    rintro e wB ⟨rfl, hbB⟩
    have HB' : Hid (Below w.heap.size w wB) := HA'.out.trans (hbB.mono HA'.out.size)
    clear hbB HA' HD
    go_wp2
    go_ret
    exact ⟨rfl, HB'.out⟩
set_option maxHeartbeats 400000 in
theorem lawFnHalves_any (HREAD : ∀ (s : ByteArray), s.size ≤ 1200 → (∀ ok pl fl, ReadA s ok pl fl → ok = true) → ∀ w, Calls Tryz.prog 15 #[.string s] w fun e w' => ReadQ s w e w') (w : World) (a : Option Addr) (len cap : Nat) (z : List Int) (k : IsRow w a len cap z) (hT : DTab w) (hz : 1 < w.heap.size) :
    Calls Tryz.prog 3 #[.slice a len cap] w fun e w' => e = .returned (.bool true) ∧ Below w.heap.size w w' := by
  have m0 := k.len
  by_cases h0 : len ≤ 1048576
  · exact lawFnHalves_small HREAD w a len cap (k.bts h0) hT hz
  · unfold maxLen at m0
    have h0' : 1048576 < len := by omega
    clear k h0 HREAD hT hz
    go_enter Tryz.func3, Tryz.ntmps3
    go_wp2
    go_ret
    exact ⟨rfl, Below.refl _ _⟩
end Go.Proofs.YtoedefjngipeiaaGreatDoor

/- A load or an operation of a region that is taken first, said shortly. -/
namespace Go.Proofs.YtoedefjngipeiaaGreatDoor

theorem tkH {P : Program} {ops : Array Oper} {Q : Exit → Act → World → Prop} {md : Region.Mode} {S : World → Prop} {oi : Oper} {fuel : Nat} {listed : Array Bool} {a a' : Act} {w : World} (i : Nat) (v : Value) (hi : ops[i]? = some oi)
    (h : wpAnyH P md ops Q S fuel (listed.setIfInBounds i true) a' w)
    (hy : ∀ w', S w' → (execOp a.eval oi).run P w' = .ok (.value v) w' := by (intro w' hSw; go_simp; first | done | with_reducible rfl))
    (ha : a.put oi.dst v = a' := by ((try simp only [Act.put, List.setIfInBounds_toArray, List.set_cons_succ, List.set_cons_zero]); first | done | rfl))
    (hg : Region.wanted oi (yielded ops a.tmps) = true := by rfl) (hs : Region.noSelect ops = true := by kernel_rfl) (hf : Region.free md ops listed i = true := by kernel_rfl) (hr : (Region.ready md ops listed).contains i = true := by kernel_rfl)
    (hQ : ∀ c a w, Q (.panic c) (a.put oi.dst v) w → Q (.panic c) a w := by exact fun _ _ _ h => h) (hS : S w := by assumption) : wpAnyH P md ops Q S (fuel + 1) listed a w :=
  wpAnyH_take hi hs hf hr hQ (.inl ⟨hg, hy⟩) hS (ha ▸ h)
theorem tkU {P : Program} {ops : Array Oper} {Q : Exit → Act → World → Prop} {md : Region.Mode} {S : World → Prop} {oi : Oper} {fuel : Nat} {listed : Array Bool} {a a' : Act} {w : World} (i : Nat) (hi : ops[i]? = some oi)
    (h : wpAnyH P md ops Q S fuel (listed.setIfInBounds i true) a' w)
    (ha : a.put oi.dst undef = a' := by ((try simp only [Act.put, List.setIfInBounds_toArray, List.set_cons_succ, List.set_cons_zero]); first | done | rfl))
    (hg : Region.wanted oi (yielded ops a.tmps) = false := by rfl) (hs : Region.noSelect ops = true := by kernel_rfl) (hf : Region.free md ops listed i = true := by kernel_rfl) (hr : (Region.ready md ops listed).contains i = true := by kernel_rfl)
    (hQ : ∀ c a w, Q (.panic c) (a.put oi.dst undef) w → Q (.panic c) a w := by exact fun _ _ _ h => h) (hS : S w := by assumption) : wpAnyH P md ops Q S (fuel + 1) listed a w :=
  wpAnyH_take hi hs hf hr hQ (.inr ⟨hg, rfl⟩) hS (ha ▸ h)
theorem rdH {P : Program} {ops : Array Oper} {Q : Exit → Act → World → Prop} {md : Region.Mode} {S : World → Prop} {o : Oper} {fuel : Nat} {listed : Array Bool} {a : Act} {w : World} (i : Nat) (ho : ops[i]? = some o)
    (h : ∀ K' : Act → World → Prop, Shut (∀ a w, S w → (S w → wpAnyH P md ops Q S fuel (listed.setIfInBounds i true) a w) → K' a w) → if Region.wanted o (yielded ops a.tmps) = true then Oper.wp P o a w K' Q else K' (a.put o.dst undef) w)
    (hr : Region.ready md ops listed = [i] := by kernel_rfl) : wpAnyH P md ops Q S (fuel + 1) listed a w :=
  wpAnyH_ready hr (by simp) (AllReadyH.cons ho h AllReadyH.nil)
theorem nmH {P : Program} {ops : Array Oper} {Q : Exit → Act → World → Prop} {md : Region.Mode} {S : World → Prop} {fuel : Nat} {listed : Array Bool} {a a' : Act} {w : World} (h : wpAnyH P md ops Q S fuel listed a' w)
    (ha : a = a' := by ((try simp only [Act.put, List.setIfInBounds_toArray, List.set_cons_succ, List.set_cons_zero]); first | done | rfl)) : wpAnyH P md ops Q S fuel listed a w := ha ▸ h
end Go.Proofs.YtoedefjngipeiaaGreatDoor

