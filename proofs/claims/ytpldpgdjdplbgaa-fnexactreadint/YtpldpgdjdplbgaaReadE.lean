/- ReadInt of the specification, by the four ways in which a text may begin. -/
import Derived.Test.YtpldpgdjdplbgaaReadD
namespace Go.Proofs.Ytpldpgdjdplbgaa
open Go.ChangeShapes Go.WideShapes Go.RowKit

set_option maxHeartbeats 1000000 in
theorem specRead_none (s r : ByteArray) (b : Int) (w : World) (hs : s.size ≤ 1200) (hrs : r.size ≤ 1200) (h2 : 2 ≤ b) (h36 : b ≤ 36) (hz : s.size = 0) (hr : r = s) :
    Calls Try.prog 4 #[.string s, .int .i64 b] w fun e w' => ∃ c n, ReadV b false r.data.toList c n ∧ e = .returned (.agg #[.int .i64 c, .int .i64 n]) ∧ Below w.heap.size w w' := by
  subst hr
  go_enter Try.func4, Try.ntmps4
  go_wp2
  clear hz hs
  go_loop [7] (fun i => ∃ k : Nat, k ≤ r.size ∧ i = .int .i64 k ∧ Hid (∀ j (hj : j < r.size), j < k → digN 99 (r[j].toNat : Int) < b)) (fun i => r.size - (intOf i).toNat)
  case atStart => exact ⟨0, Nat.zero_le _, rfl, fun _ _ h => absurd h (Nat.not_lt_zero _)⟩
  case round =>
    obtain ⟨k, hk, rfl, HA⟩ := hrel
    by_cases hlt : k < r.size
    · have HC : Hid _ := specDigit_byte r[k]
      have HB : Hid _ := bad_at b r k hlt
      have hd9 := digN_lo 99 (r[k].toNat : Int) (by omega)
      have hd1 := digN_hi 99 (r[k].toNat : Int) (by omega)
      have HN : Hid _ := fun (h : digN 99 (r[k].toNat : Int) < b) j (hj : j < r.size) (hjk : j < k + 1) => (if e : j = k then (by subst e; exact h) else HA.out j hj (by omega) : digN 99 (r[j].toNat : Int) < b)
      generalize digN 99 (r[k].toNat : Int) = D at *
      by_cases hbad : b ≤ D
      · have HF : Hid (ReadV b false r.data.toList 2 0) := readV_bad b false r.data.toList (.inr (HB.out hbad))
        go_wp2_with (go_at_call 7; refine (HC.out _).mono ?_; rintro e w' ⟨rfl, rfl⟩)
        exact bodyPost_ret (v := .agg #[.int .i64 2, .int .i64 0]) (by simp [results, Try.results4, go_sem]) rfl ⟨2, 0, HF.out, rfl, (Below.refl _ _).alloc (Nat.le_refl _) _⟩
      · have hdb : D < b := by omega
        have HG : Hid _ := HN.out hdb
        clear hbad
        go_wp2_with (go_at_call 7; refine (HC.out _).mono ?_; rintro e w' ⟨rfl, rfl⟩)
        exact ⟨⟨k + 1, by omega, by go_num, HG⟩, by simp [intOf]; omega⟩
    · have hgood : good b r.data.toList := good_of b r (fun j hj => HA.out j hj (by omega))
      by_cases hn : r.size = 0
      · have he := isEmpty_yes r hn
        have HF : Hid (ReadV b false r.data.toList 2 0) := readV_bad b false r.data.toList (.inl ((empty_iff r).2 hn))
        clear hn hgood hk
        go_wp2
        exact bodyPost_ret (v := .agg #[.int .i64 2, .int .i64 0]) (by simp [results, Try.results4, go_sem]) rfl ⟨2, 0, HF.out, rfl, (Below.refl _ _).alloc (Nat.le_refl _) _⟩
      · have he := isEmpty_no r hn
        have hne : r.data.toList ≠ [] := fun h => hn ((empty_iff r).1 h)
        have hv0 := val_nonneg b (by omega) r.data.toList
        have HW : Hid _ := fun w => specWhole_any r b w hrs (by omega) h2 h36 hgood
        have HO : Hid (lim false < val b r.data.toList → ReadV b false r.data.toList 3 0) := readV_over b false r.data.toList hne hgood
        have HP : Hid (val b r.data.toList ≤ 9223372036854775807 → ReadV b false r.data.toList 0 (val b r.data.toList)) := readV_plus b r.data.toList hne hgood
        have HX : Hid _ := wholeV_over b r.data.toList
        have HY : Hid _ := wholeV_fits b r.data.toList
        generalize val b r.data.toList = V at *
        generalize wholeV b r.data.toList = U at *
        clear hn hgood hk hne
        by_cases hov : 18446744073709551615 < V
        · have HU := HX.out hov
          have HF : Hid (ReadV b false r.data.toList 3 0) := HO.out (by simp only [lim]; first | omega | (simp; omega))
          subst HU
          clear HX HY HO HP
          go_wp2_with (go_at_call 8; refine (HW.out _).mono ?_; rintro e w' ⟨rfl, rfl⟩)
          exact bodyPost_ret (v := .agg #[.int .i64 3, .int .i64 0]) (by simp [results, Try.results4, go_sem]) rfl ⟨3, 0, HF.out, rfl, (Below.refl _ _).alloc (Nat.le_refl _) _⟩
        · have HU := HY.out (by omega)
          subst HU
          clear HX HY
          have hov' : V ≤ 18446744073709551615 := by omega
          clear hov
          by_cases hb : 9223372036854775808 < V
          · have HF : Hid (ReadV b false r.data.toList 3 0) := HO.out (by simp only [lim]; first | omega | (simp; omega))
            clear HO HP
            go_wp2_with (go_at_call 8; refine (HW.out _).mono ?_; rintro e w' ⟨rfl, rfl⟩)
            exact bodyPost_ret (v := .agg #[.int .i64 3, .int .i64 0]) (by simp [results, Try.results4, go_sem]) rfl ⟨3, 0, HF.out, rfl, (Below.refl _ _).alloc (Nat.le_refl _) _⟩
          · by_cases hm : V = 9223372036854775808
            · have hm' : (V == 9223372036854775808) = true := by rw [hm]; rfl
              have hlo : 9223372036854775808 ≤ V := by omega
              have hhi : V ≤ 9223372036854775808 := by omega
              clear hm hb
              have HF : Hid (ReadV b false r.data.toList 3 0) := HO.out (by simp only [lim]; first | omega | (simp; omega))
              clear HO HP
              go_wp2_with (go_at_call 8; refine (HW.out _).mono ?_; rintro e w' ⟨rfl, rfl⟩)
              exact bodyPost_ret (v := .agg #[.int .i64 3, .int .i64 0]) (by simp [results, Try.results4, go_sem]) rfl ⟨3, _, HF.out, rfl, (Below.refl _ _).alloc (Nat.le_refl _) _⟩
            · have hm' : (V == 9223372036854775808) = false := beq_eq_false_iff_ne.2 hm
              have hhi : V ≤ 9223372036854775807 := by omega
              clear hm hb
              have HF : Hid (ReadV b false r.data.toList 0 V) := HP.out hhi
              clear HO HP
              go_wp2_with (go_at_call 8; refine (HW.out _).mono ?_; rintro e w' ⟨rfl, rfl⟩)
              exact bodyPost_ret (v := .agg #[.int .i64 0, .int .i64 V]) (by simp [results, Try.results4, go_sem]) rfl ⟨0, _, HF.out, rfl, (Below.refl _ _).alloc (Nat.le_refl _) _⟩

set_option maxHeartbeats 1000000 in
theorem specRead_minus (s r : ByteArray) (b : Int) (w : World) (hs : s.size ≤ 1200) (hrs : r.size ≤ 1200) (h2 : 2 ≤ b) (h36 : b ≤ 36) (hz : 0 < s.size) (h45 : s[0].toNat = 45) (hr : r = s.extract 1 s.size) :
    Calls Try.prog 4 #[.string s, .int .i64 b] w fun e w' => ∃ c n, ReadV b true r.data.toList c n ∧ e = .returned (.agg #[.int .i64 c, .int .i64 n]) ∧ Below w.heap.size w w' := by
  have e1 : ((s[0].toNat : Int) == 45) = true := by simp [h45]
  have HR : Hid (s.extract 1 s.size = r) := hr.symm
  clear hr h45
  go_enter Try.func4, Try.ntmps4
  go_wp2
  rw [HR.out]
  clear HR e1
  go_loop [7] (fun i => ∃ k : Nat, k ≤ r.size ∧ i = .int .i64 k ∧ Hid (∀ j (hj : j < r.size), j < k → digN 99 (r[j].toNat : Int) < b)) (fun i => r.size - (intOf i).toNat)
  case atStart => exact ⟨0, Nat.zero_le _, rfl, fun _ _ h => absurd h (Nat.not_lt_zero _)⟩
  case round =>
    obtain ⟨k, hk, rfl, HA⟩ := hrel
    by_cases hlt : k < r.size
    · have HC : Hid _ := specDigit_byte r[k]
      have HB : Hid _ := bad_at b r k hlt
      have hd9 := digN_lo 99 (r[k].toNat : Int) (by omega)
      have hd1 := digN_hi 99 (r[k].toNat : Int) (by omega)
      have HN : Hid _ := fun (h : digN 99 (r[k].toNat : Int) < b) j (hj : j < r.size) (hjk : j < k + 1) => (if e : j = k then (by subst e; exact h) else HA.out j hj (by omega) : digN 99 (r[j].toNat : Int) < b)
      generalize digN 99 (r[k].toNat : Int) = D at *
      by_cases hbad : b ≤ D
      · have HF : Hid (ReadV b true r.data.toList 2 0) := readV_bad b true r.data.toList (.inr (HB.out hbad))
        go_wp2_with (go_at_call 7; refine (HC.out _).mono ?_; rintro e w' ⟨rfl, rfl⟩)
        exact bodyPost_ret (v := .agg #[.int .i64 2, .int .i64 0]) (by simp [results, Try.results4, go_sem]) rfl ⟨2, 0, HF.out, rfl, (Below.refl _ _).alloc (Nat.le_refl _) _⟩
      · have hdb : D < b := by omega
        have HG : Hid _ := HN.out hdb
        clear hbad
        go_wp2_with (go_at_call 7; refine (HC.out _).mono ?_; rintro e w' ⟨rfl, rfl⟩)
        exact ⟨⟨k + 1, by omega, by go_num, HG⟩, by simp [intOf]; omega⟩
    · have hgood : good b r.data.toList := good_of b r (fun j hj => HA.out j hj (by omega))
      by_cases hn : r.size = 0
      · have he := isEmpty_yes r hn
        have HF : Hid (ReadV b true r.data.toList 2 0) := readV_bad b true r.data.toList (.inl ((empty_iff r).2 hn))
        clear hn hgood hk
        go_wp2
        exact bodyPost_ret (v := .agg #[.int .i64 2, .int .i64 0]) (by simp [results, Try.results4, go_sem]) rfl ⟨2, 0, HF.out, rfl, (Below.refl _ _).alloc (Nat.le_refl _) _⟩
      · have he := isEmpty_no r hn
        have hne : r.data.toList ≠ [] := fun h => hn ((empty_iff r).1 h)
        have hv0 := val_nonneg b (by omega) r.data.toList
        have HW : Hid _ := fun w => specWhole_any r b w hrs (by omega) h2 h36 hgood
        have HO : Hid (lim true < val b r.data.toList → ReadV b true r.data.toList 3 0) := readV_over b true r.data.toList hne hgood
        have HP : Hid (∀ n, val b r.data.toList ≤ 9223372036854775808 → n = - val b r.data.toList → ReadV b true r.data.toList 0 n) := fun n => readV_minus b n r.data.toList hne hgood
        have HX : Hid _ := wholeV_over b r.data.toList
        have HY : Hid _ := wholeV_fits b r.data.toList
        generalize val b r.data.toList = V at *
        generalize wholeV b r.data.toList = U at *
        clear hn hgood hk hne
        by_cases hov : 18446744073709551615 < V
        · have HU := HX.out hov
          have HF : Hid (ReadV b true r.data.toList 3 0) := HO.out (by simp only [lim]; first | omega | (simp; omega))
          subst HU
          clear HX HY HO HP
          go_wp2_with (go_at_call 8; refine (HW.out _).mono ?_; rintro e w' ⟨rfl, rfl⟩)
          exact bodyPost_ret (v := .agg #[.int .i64 3, .int .i64 0]) (by simp [results, Try.results4, go_sem]) rfl ⟨3, 0, HF.out, rfl, (Below.refl _ _).alloc (Nat.le_refl _) _⟩
        · have HU := HY.out (by omega)
          subst HU
          clear HX HY
          have hov' : V ≤ 18446744073709551615 := by omega
          clear hov
          by_cases hb : 9223372036854775808 < V
          · have HF : Hid (ReadV b true r.data.toList 3 0) := HO.out (by simp only [lim]; first | omega | (simp; omega))
            clear HO HP
            go_wp2_with (go_at_call 8; refine (HW.out _).mono ?_; rintro e w' ⟨rfl, rfl⟩)
            exact bodyPost_ret (v := .agg #[.int .i64 3, .int .i64 0]) (by simp [results, Try.results4, go_sem]) rfl ⟨3, 0, HF.out, rfl, (Below.refl _ _).alloc (Nat.le_refl _) _⟩
          · by_cases hm : V = 9223372036854775808
            · have hm' : (V == 9223372036854775808) = true := by rw [hm]; rfl
              have hlo : 9223372036854775808 ≤ V := by omega
              have hhi : V ≤ 9223372036854775808 := by omega
              clear hm hb
              have HF : Hid (ReadV b true r.data.toList 0 (wrap64 (-(wrap64 V)))) := HP.out _ hhi (wrap_least V hlo hhi)
              clear HO HP
              go_wp2_with (go_at_call 8; refine (HW.out _).mono ?_; rintro e w' ⟨rfl, rfl⟩)
              exact bodyPost_ret (v := .agg #[.int .i64 0, .int .i64 (wrap64 (-(wrap64 V)))]) (by simp [results, Try.results4, go_sem]) rfl ⟨0, _, HF.out, rfl, (Below.refl _ _).alloc (Nat.le_refl _) _⟩
            · have hm' : (V == 9223372036854775808) = false := beq_eq_false_iff_ne.2 hm
              have hhi : V ≤ 9223372036854775807 := by omega
              clear hm hb
              have HF : Hid (ReadV b true r.data.toList 0 (-V)) := HP.out _ (by omega) rfl
              clear HO HP
              go_wp2_with (go_at_call 8; refine (HW.out _).mono ?_; rintro e w' ⟨rfl, rfl⟩)
              exact bodyPost_ret (v := .agg #[.int .i64 0, .int .i64 (-V)]) (by simp [results, Try.results4, go_sem]) rfl ⟨0, _, HF.out, rfl, (Below.refl _ _).alloc (Nat.le_refl _) _⟩

set_option maxHeartbeats 1000000 in
theorem specRead_plus (s r : ByteArray) (b : Int) (w : World) (hs : s.size ≤ 1200) (hrs : r.size ≤ 1200) (h2 : 2 ≤ b) (h36 : b ≤ 36) (hz : 0 < s.size) (h43 : s[0].toNat = 43) (hr : r = s.extract 1 s.size) :
    Calls Try.prog 4 #[.string s, .int .i64 b] w fun e w' => ∃ c n, ReadV b false r.data.toList c n ∧ e = .returned (.agg #[.int .i64 c, .int .i64 n]) ∧ Below w.heap.size w w' := by
  have e1 : ((s[0].toNat : Int) == 45) = false := by simp [h43]
  have e2 : ((s[0].toNat : Int) == 43) = true := by simp [h43]
  have HR : Hid (s.extract 1 s.size = r) := hr.symm
  clear hr h43
  go_enter Try.func4, Try.ntmps4
  go_wp2
  rw [HR.out]
  clear HR e1 e2
  go_loop [7] (fun i => ∃ k : Nat, k ≤ r.size ∧ i = .int .i64 k ∧ Hid (∀ j (hj : j < r.size), j < k → digN 99 (r[j].toNat : Int) < b)) (fun i => r.size - (intOf i).toNat)
  case atStart => exact ⟨0, Nat.zero_le _, rfl, fun _ _ h => absurd h (Nat.not_lt_zero _)⟩
  case round =>
    obtain ⟨k, hk, rfl, HA⟩ := hrel
    by_cases hlt : k < r.size
    · have HC : Hid _ := specDigit_byte r[k]
      have HB : Hid _ := bad_at b r k hlt
      have hd9 := digN_lo 99 (r[k].toNat : Int) (by omega)
      have hd1 := digN_hi 99 (r[k].toNat : Int) (by omega)
      have HN : Hid _ := fun (h : digN 99 (r[k].toNat : Int) < b) j (hj : j < r.size) (hjk : j < k + 1) => (if e : j = k then (by subst e; exact h) else HA.out j hj (by omega) : digN 99 (r[j].toNat : Int) < b)
      generalize digN 99 (r[k].toNat : Int) = D at *
      by_cases hbad : b ≤ D
      · have HF : Hid (ReadV b false r.data.toList 2 0) := readV_bad b false r.data.toList (.inr (HB.out hbad))
        go_wp2_with (go_at_call 7; refine (HC.out _).mono ?_; rintro e w' ⟨rfl, rfl⟩)
        exact bodyPost_ret (v := .agg #[.int .i64 2, .int .i64 0]) (by simp [results, Try.results4, go_sem]) rfl ⟨2, 0, HF.out, rfl, (Below.refl _ _).alloc (Nat.le_refl _) _⟩
      · have hdb : D < b := by omega
        have HG : Hid _ := HN.out hdb
        clear hbad
        go_wp2_with (go_at_call 7; refine (HC.out _).mono ?_; rintro e w' ⟨rfl, rfl⟩)
        exact ⟨⟨k + 1, by omega, by go_num, HG⟩, by simp [intOf]; omega⟩
    · have hgood : good b r.data.toList := good_of b r (fun j hj => HA.out j hj (by omega))
      by_cases hn : r.size = 0
      · have he := isEmpty_yes r hn
        have HF : Hid (ReadV b false r.data.toList 2 0) := readV_bad b false r.data.toList (.inl ((empty_iff r).2 hn))
        clear hn hgood hk
        go_wp2
        exact bodyPost_ret (v := .agg #[.int .i64 2, .int .i64 0]) (by simp [results, Try.results4, go_sem]) rfl ⟨2, 0, HF.out, rfl, (Below.refl _ _).alloc (Nat.le_refl _) _⟩
      · have he := isEmpty_no r hn
        have hne : r.data.toList ≠ [] := fun h => hn ((empty_iff r).1 h)
        have hv0 := val_nonneg b (by omega) r.data.toList
        have HW : Hid _ := fun w => specWhole_any r b w hrs (by omega) h2 h36 hgood
        have HO : Hid (lim false < val b r.data.toList → ReadV b false r.data.toList 3 0) := readV_over b false r.data.toList hne hgood
        have HP : Hid (val b r.data.toList ≤ 9223372036854775807 → ReadV b false r.data.toList 0 (val b r.data.toList)) := readV_plus b r.data.toList hne hgood
        have HX : Hid _ := wholeV_over b r.data.toList
        have HY : Hid _ := wholeV_fits b r.data.toList
        generalize val b r.data.toList = V at *
        generalize wholeV b r.data.toList = U at *
        clear hn hgood hk hne
        by_cases hov : 18446744073709551615 < V
        · have HU := HX.out hov
          have HF : Hid (ReadV b false r.data.toList 3 0) := HO.out (by simp only [lim]; first | omega | (simp; omega))
          subst HU
          clear HX HY HO HP
          go_wp2_with (go_at_call 8; refine (HW.out _).mono ?_; rintro e w' ⟨rfl, rfl⟩)
          exact bodyPost_ret (v := .agg #[.int .i64 3, .int .i64 0]) (by simp [results, Try.results4, go_sem]) rfl ⟨3, 0, HF.out, rfl, (Below.refl _ _).alloc (Nat.le_refl _) _⟩
        · have HU := HY.out (by omega)
          subst HU
          clear HX HY
          have hov' : V ≤ 18446744073709551615 := by omega
          clear hov
          by_cases hb : 9223372036854775808 < V
          · have HF : Hid (ReadV b false r.data.toList 3 0) := HO.out (by simp only [lim]; first | omega | (simp; omega))
            clear HO HP
            go_wp2_with (go_at_call 8; refine (HW.out _).mono ?_; rintro e w' ⟨rfl, rfl⟩)
            exact bodyPost_ret (v := .agg #[.int .i64 3, .int .i64 0]) (by simp [results, Try.results4, go_sem]) rfl ⟨3, 0, HF.out, rfl, (Below.refl _ _).alloc (Nat.le_refl _) _⟩
          · by_cases hm : V = 9223372036854775808
            · have hm' : (V == 9223372036854775808) = true := by rw [hm]; rfl
              have hlo : 9223372036854775808 ≤ V := by omega
              have hhi : V ≤ 9223372036854775808 := by omega
              clear hm hb
              have HF : Hid (ReadV b false r.data.toList 3 0) := HO.out (by simp only [lim]; first | omega | (simp; omega))
              clear HO HP
              go_wp2_with (go_at_call 8; refine (HW.out _).mono ?_; rintro e w' ⟨rfl, rfl⟩)
              exact bodyPost_ret (v := .agg #[.int .i64 3, .int .i64 0]) (by simp [results, Try.results4, go_sem]) rfl ⟨3, _, HF.out, rfl, (Below.refl _ _).alloc (Nat.le_refl _) _⟩
            · have hm' : (V == 9223372036854775808) = false := beq_eq_false_iff_ne.2 hm
              have hhi : V ≤ 9223372036854775807 := by omega
              clear hm hb
              have HF : Hid (ReadV b false r.data.toList 0 V) := HP.out hhi
              clear HO HP
              go_wp2_with (go_at_call 8; refine (HW.out _).mono ?_; rintro e w' ⟨rfl, rfl⟩)
              exact bodyPost_ret (v := .agg #[.int .i64 0, .int .i64 V]) (by simp [results, Try.results4, go_sem]) rfl ⟨0, _, HF.out, rfl, (Below.refl _ _).alloc (Nat.le_refl _) _⟩

set_option maxHeartbeats 1000000 in
theorem specRead_bare (s r : ByteArray) (b : Int) (w : World) (hs : s.size ≤ 1200) (hrs : r.size ≤ 1200) (h2 : 2 ≤ b) (h36 : b ≤ 36) (hz : 0 < s.size) (h45 : s[0].toNat ≠ 45) (h43 : s[0].toNat ≠ 43) (hr : r = s) :
    Calls Try.prog 4 #[.string s, .int .i64 b] w fun e w' => ∃ c n, ReadV b false r.data.toList c n ∧ e = .returned (.agg #[.int .i64 c, .int .i64 n]) ∧ Below w.heap.size w w' := by
  have e1 : ((s[0].toNat : Int) == 45) = false := beq_eq_false_iff_ne.2 (by omega)
  have e2 : ((s[0].toNat : Int) == 43) = false := beq_eq_false_iff_ne.2 (by omega)
  subst hr
  clear h45 h43
  go_enter Try.func4, Try.ntmps4
  go_wp2
  clear hs e1 e2
  go_loop [7] (fun i => ∃ k : Nat, k ≤ r.size ∧ i = .int .i64 k ∧ Hid (∀ j (hj : j < r.size), j < k → digN 99 (r[j].toNat : Int) < b)) (fun i => r.size - (intOf i).toNat)
  case atStart => exact ⟨0, Nat.zero_le _, rfl, fun _ _ h => absurd h (Nat.not_lt_zero _)⟩
  case round =>
    obtain ⟨k, hk, rfl, HA⟩ := hrel
    by_cases hlt : k < r.size
    · have HC : Hid _ := specDigit_byte r[k]
      have HB : Hid _ := bad_at b r k hlt
      have hd9 := digN_lo 99 (r[k].toNat : Int) (by omega)
      have hd1 := digN_hi 99 (r[k].toNat : Int) (by omega)
      have HN : Hid _ := fun (h : digN 99 (r[k].toNat : Int) < b) j (hj : j < r.size) (hjk : j < k + 1) => (if e : j = k then (by subst e; exact h) else HA.out j hj (by omega) : digN 99 (r[j].toNat : Int) < b)
      generalize digN 99 (r[k].toNat : Int) = D at *
      by_cases hbad : b ≤ D
      · have HF : Hid (ReadV b false r.data.toList 2 0) := readV_bad b false r.data.toList (.inr (HB.out hbad))
        go_wp2_with (go_at_call 7; refine (HC.out _).mono ?_; rintro e w' ⟨rfl, rfl⟩)
        exact bodyPost_ret (v := .agg #[.int .i64 2, .int .i64 0]) (by simp [results, Try.results4, go_sem]) rfl ⟨2, 0, HF.out, rfl, (Below.refl _ _).alloc (Nat.le_refl _) _⟩
      · have hdb : D < b := by omega
        have HG : Hid _ := HN.out hdb
        clear hbad
        go_wp2_with (go_at_call 7; refine (HC.out _).mono ?_; rintro e w' ⟨rfl, rfl⟩)
        exact ⟨⟨k + 1, by omega, by go_num, HG⟩, by simp [intOf]; omega⟩
    · have hgood : good b r.data.toList := good_of b r (fun j hj => HA.out j hj (by omega))
      by_cases hn : r.size = 0
      · have he := isEmpty_yes r hn
        have HF : Hid (ReadV b false r.data.toList 2 0) := readV_bad b false r.data.toList (.inl ((empty_iff r).2 hn))
        clear hn hgood hk
        go_wp2
        exact bodyPost_ret (v := .agg #[.int .i64 2, .int .i64 0]) (by simp [results, Try.results4, go_sem]) rfl ⟨2, 0, HF.out, rfl, (Below.refl _ _).alloc (Nat.le_refl _) _⟩
      · have he := isEmpty_no r hn
        have hne : r.data.toList ≠ [] := fun h => hn ((empty_iff r).1 h)
        have hv0 := val_nonneg b (by omega) r.data.toList
        have HW : Hid _ := fun w => specWhole_any r b w hrs (by omega) h2 h36 hgood
        have HO : Hid (lim false < val b r.data.toList → ReadV b false r.data.toList 3 0) := readV_over b false r.data.toList hne hgood
        have HP : Hid (val b r.data.toList ≤ 9223372036854775807 → ReadV b false r.data.toList 0 (val b r.data.toList)) := readV_plus b r.data.toList hne hgood
        have HX : Hid _ := wholeV_over b r.data.toList
        have HY : Hid _ := wholeV_fits b r.data.toList
        generalize val b r.data.toList = V at *
        generalize wholeV b r.data.toList = U at *
        clear hn hgood hk hne
        by_cases hov : 18446744073709551615 < V
        · have HU := HX.out hov
          have HF : Hid (ReadV b false r.data.toList 3 0) := HO.out (by simp only [lim]; first | omega | (simp; omega))
          subst HU
          clear HX HY HO HP
          go_wp2_with (go_at_call 8; refine (HW.out _).mono ?_; rintro e w' ⟨rfl, rfl⟩)
          exact bodyPost_ret (v := .agg #[.int .i64 3, .int .i64 0]) (by simp [results, Try.results4, go_sem]) rfl ⟨3, 0, HF.out, rfl, (Below.refl _ _).alloc (Nat.le_refl _) _⟩
        · have HU := HY.out (by omega)
          subst HU
          clear HX HY
          have hov' : V ≤ 18446744073709551615 := by omega
          clear hov
          by_cases hb : 9223372036854775808 < V
          · have HF : Hid (ReadV b false r.data.toList 3 0) := HO.out (by simp only [lim]; first | omega | (simp; omega))
            clear HO HP
            go_wp2_with (go_at_call 8; refine (HW.out _).mono ?_; rintro e w' ⟨rfl, rfl⟩)
            exact bodyPost_ret (v := .agg #[.int .i64 3, .int .i64 0]) (by simp [results, Try.results4, go_sem]) rfl ⟨3, 0, HF.out, rfl, (Below.refl _ _).alloc (Nat.le_refl _) _⟩
          · by_cases hm : V = 9223372036854775808
            · have hm' : (V == 9223372036854775808) = true := by rw [hm]; rfl
              have hlo : 9223372036854775808 ≤ V := by omega
              have hhi : V ≤ 9223372036854775808 := by omega
              clear hm hb
              have HF : Hid (ReadV b false r.data.toList 3 0) := HO.out (by simp only [lim]; first | omega | (simp; omega))
              clear HO HP
              go_wp2_with (go_at_call 8; refine (HW.out _).mono ?_; rintro e w' ⟨rfl, rfl⟩)
              exact bodyPost_ret (v := .agg #[.int .i64 3, .int .i64 0]) (by simp [results, Try.results4, go_sem]) rfl ⟨3, _, HF.out, rfl, (Below.refl _ _).alloc (Nat.le_refl _) _⟩
            · have hm' : (V == 9223372036854775808) = false := beq_eq_false_iff_ne.2 hm
              have hhi : V ≤ 9223372036854775807 := by omega
              clear hm hb
              have HF : Hid (ReadV b false r.data.toList 0 V) := HP.out hhi
              clear HO HP
              go_wp2_with (go_at_call 8; refine (HW.out _).mono ?_; rintro e w' ⟨rfl, rfl⟩)
              exact bodyPost_ret (v := .agg #[.int .i64 0, .int .i64 V]) (by simp [results, Try.results4, go_sem]) rfl ⟨0, _, HF.out, rfl, (Below.refl _ _).alloc (Nat.le_refl _) _⟩

theorem specRead_any (s : ByteArray) (b : Int) (w : World) (hs : s.size ≤ 1200) (h2 : 2 ≤ b) (h36 : b ≤ 36) (neg : Bool) (r : ByteArray) (hc : Cut s neg r) :
    Calls Try.prog 4 #[.string s, .int .i64 b] w fun e w' => ∃ c n, ReadV b neg r.data.toList c n ∧ e = .returned (.agg #[.int .i64 c, .int .i64 n]) ∧ Below w.heap.size w w' := by
  have hrs : r.size ≤ 1200 := by
    rcases hc with ⟨_, _, rfl⟩ | ⟨_, _, _, rfl⟩ | ⟨_, _, _, rfl⟩ | ⟨_, _, _, _, rfl⟩
    · exact hs
    · exact extract_size s hs
    · exact extract_size s hs
    · exact hs
  rcases hc with ⟨hz, rfl, hr⟩ | ⟨hz, h45, rfl, hr⟩ | ⟨hz, h43, rfl, hr⟩ | ⟨hz, h45, h43, rfl, hr⟩
  · exact specRead_none s r b w hs hrs h2 h36 hz hr
  · exact specRead_minus s r b w hs hrs h2 h36 hz h45 hr
  · exact specRead_plus s r b w hs hrs h2 h36 hz h43 hr
  · exact specRead_bare s r b w hs hrs h2 h36 hz h45 h43 hr
end Go.Proofs.Ytpldpgdjdplbgaa
