/- The program's reader of digits: no digits, a number that passes the limit, or the number. -/
import Derived.Test.YtpldpgdjdplbgaaDoorDigitI
import Derived.Test.YtpldpgdjdplbgaaDoorReadP
namespace Go.Proofs.YtpldpgdjdplbgaaDoor
open Go.ChangeShapes Go.WideShapes Go.RowKit

/-- What the program's reader of digits answers. -/
def SizeV (b L : Int) (l : List UInt8) (n c : Int) : Prop :=
  ((l = [] ∨ ¬ good b l) ∧ n = 0 ∧ c = 2) ∨ (l ≠ [] ∧ good b l ∧ L < val b l ∧ n = 0 ∧ c = 3) ∨ (l ≠ [] ∧ good b l ∧ val b l ≤ L ∧ n = val b l ∧ c = 0)

set_option maxHeartbeats 400000 in
theorem implSize_any (s : ByteArray) (b L : Int) (w : World) (hs : s.size ≤ 1200) (h2 : 2 ≤ b) (h36 : b ≤ 36) (hL : 1000 ≤ L) (hL' : L ≤ 9223372036854775808) :
    Calls Tryd.prog 21 #[.string s, .int .u64 b, .int .u64 L] w fun e w' => (∃ n c, SizeV b L s.data.toList n c ∧ e = .returned (.tuple #[.int .u64 n, .int .i64 c])) ∧ w' = w := by
  by_cases hn : s.size = 0
  · have he := isEmpty_yes s hn
    have HF : Hid (SizeV b L s.data.toList 0 2) := .inl ⟨.inl ((empty_iff s).2 hn), rfl, rfl⟩
    clear hn
    go_enter Tryd.func21, Tryd.ntmps21
    go_wp2
    go_ret2
    exact ⟨⟨0, 2, HF.out, rfl⟩, rfl⟩
  · have he := isEmpty_no s hn
    have HE : Hid _ := fun h => hn ((empty_iff s).1 h)
    have hpos : 0 < s.size := by omega
    clear hn
    go_enter Tryd.func21, Tryd.ntmps21
    go_wp2
    go_loop [6, 7, 14] (fun n c i => ∃ k : Nat, k ≤ s.size ∧ i = .int .i64 k ∧ Hid (∀ j (hj : j < s.size), j < k → digN 99 (s[j].toNat : Int) < b) ∧ ((n = .int .u64 (val b (s.data.toList.take k)) ∧ c = .int .i64 0 ∧ val b (s.data.toList.take k) ≤ L) ∨ (n = .int .u64 0 ∧ c = .int .i64 3 ∧ L < val b (s.data.toList.take k)))) (fun _ _ i => s.size - (intOf i).toNat)
    case atStart => exact ⟨0, Nat.zero_le _, rfl, fun _ _ h => absurd h (Nat.not_lt_zero _), .inl ⟨rfl, rfl, by simp [val]; omega⟩⟩
    case round =>
      obtain ⟨k, hk, rfl, HA, hcase⟩ := hrel
      have hv0 := val_nonneg b (by omega) (s.data.toList.take k)
      by_cases hlt : k < s.size
      · have HS : Hid _ := val_step b s k hlt
        have HC : Hid _ := implDigit_byte s[k]
        have HB : Hid _ := bad_at b s k hlt
        have hd0 := digN_lo 36 (s[k].toNat : Int) (by omega)
        have hd9 := digN_lo 99 (s[k].toNat : Int) (by omega)
        have hd1 := digN_hi 36 (s[k].toNat : Int) (by omega)
        have HQ : Hid _ := digN_same 36 99 (s[k].toNat : Int) b (by omega) (by omega)
        have HN : Hid _ := fun (h : digN 99 (s[k].toNat : Int) < b) j (hj : j < s.size) (hjk : j < k + 1) => (if e : j = k then (by subst e; exact h) else HA.out j hj (by omega) : digN 99 (s[j].toNat : Int) < b)
        generalize val b (s.data.toList.take k) = N at *
        generalize digN 36 (s[k].toNat : Int) = D at *
        generalize digN 99 (s[k].toNat : Int) = E at *
        by_cases hbad : b ≤ D
        · have HF : Hid (SizeV b L s.data.toList 0 2) := .inl ⟨.inr (HB.out (by have := HQ.out.1; omega)), rfl, rfl⟩
          rcases hcase with ⟨rfl, rfl, hv⟩ | ⟨rfl, rfl, hv⟩
          all_goals
            go_wp2_with (go_at_call 24; refine (HC.out _).mono ?_; rintro e w' ⟨rfl, rfl⟩)
            go_ret2
            exact ⟨⟨0, 2, HF.out, rfl⟩, rfl⟩
        · have hdb : D < b := by omega
          have HE2 : Hid _ := HQ.out.2 hdb
          have HG : Hid _ := HN.out (HQ.out.1.1 hdb)
          have hm0 : N ≤ N * b := le_mul N b hv0 (by omega)
          clear hbad
          rcases hcase with ⟨rfl, rfl, hv⟩ | ⟨rfl, rfl, hv⟩
          · have HP : Hid _ := passes N b D L (by omega)
            by_cases hfit : N * b + D ≤ L
            · have hq : N ≤ (L - D) / b := by have := HP.out; omega
              go_wp2_with (go_at_call 24; refine (HC.out _).mono ?_; rintro e w' ⟨rfl, rfl⟩)
              exact ⟨⟨k + 1, by omega, by go_num, HG, .inl ⟨by rw [HS.out, ← HE2.out], rfl, by rw [HS.out, ← HE2.out]; exact hfit⟩⟩, by simp [intOf]; omega⟩
            · have hq : (L - D) / b < N := by have := HP.out; omega
              go_wp2_with (go_at_call 24; refine (HC.out _).mono ?_; rintro e w' ⟨rfl, rfl⟩)
              exact ⟨⟨k + 1, by omega, by go_num, HG, .inr ⟨rfl, rfl, by rw [HS.out, ← HE2.out]; omega⟩⟩, by simp [intOf]; omega⟩
          · go_wp2_with (go_at_call 24; refine (HC.out _).mono ?_; rintro e w' ⟨rfl, rfl⟩)
            exact ⟨⟨k + 1, by omega, by go_num, HG, .inr ⟨rfl, rfl, by rw [HS.out]; omega⟩⟩, by simp [intOf]; omega⟩
      · have ht := take_all s k (by omega)
        rw [ht] at hcase
        have hgood : good b s.data.toList := good_of b s (fun j hj => HA.out j hj (by omega))
        rcases hcase with ⟨rfl, rfl, hv⟩ | ⟨rfl, rfl, hv⟩
        · have HF : Hid (SizeV b L s.data.toList (val b s.data.toList) 0) := .inr (.inr ⟨HE.out, hgood, hv, rfl, rfl⟩)
          clear ht hgood
          go_wp2
          go_ret2
          exact ⟨⟨_, _, HF.out, rfl⟩, rfl⟩
        · have HF : Hid (SizeV b L s.data.toList 0 3) := .inr (.inl ⟨HE.out, hgood, hv, rfl, rfl⟩)
          clear ht hgood
          go_wp2
          go_ret2
          exact ⟨⟨_, _, HF.out, rfl⟩, rfl⟩
end Go.Proofs.YtpldpgdjdplbgaaDoor
