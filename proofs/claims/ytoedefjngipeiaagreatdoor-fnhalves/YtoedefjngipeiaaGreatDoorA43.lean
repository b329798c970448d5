import Derived.Test.YtoedefjngipeiaaGreatDoorA14
import Derived.Test.YtoedefjngipeiaaGreatDoorA41
import Derived.Test.YtoedefjngipeiaaGreatDoorA42
import Derived.Deep.CutRange
import Derived.Test.YtoedefjngipeiaaGreatDoorA22
import Derived.Test.YtoedefjngipeiaaGreatDoorA13
/- The program's long division, and the float that comes of it: plain. -/
namespace Go.Proofs.YtoedefjngipeiaaGreatDoor
open Ieee (double)

/-- After k rounds: the bits so far, and what is left, doubled. -/
def Lng (A B k q t : Nat) : Prop := A * 2 ^ k = 2 * q * B + t ∧ t < 2 * B ∧ q < 2 ^ k
theorem lng_start (A B : Nat) (h : A < 2 * B) : Lng A B 0 0 A := ⟨by simp, h, by simp⟩
theorem lng_no {A B k q t : Nat} (h : Lng A B k q t) (ht : t < B) : Lng A B (k + 1) (2 * q) (2 * t) := by
  obtain ⟨h1, h2, h3⟩ := h
  refine ⟨?_, by omega, by rw [Nat.pow_succ]; omega⟩
  rw [Nat.pow_succ, ← Nat.mul_assoc, h1, Nat.mul_comm _ 2, Nat.mul_add, ← Nat.mul_assoc, ← Nat.mul_assoc]
theorem lng_yes {A B k q t : Nat} (h : Lng A B k q t) (ht : B ≤ t) : Lng A B (k + 1) (2 * q + 1) (2 * (t - B)) := by
  obtain ⟨h1, h2, h3⟩ := h
  refine ⟨?_, by omega, by rw [Nat.pow_succ]; omega⟩
  rw [Nat.pow_succ, ← Nat.mul_assoc, h1, Nat.mul_comm _ 2, Nat.mul_add, show 2 * (2 * q + 1) * B = 2 * (2 * q * B) + 2 * B by rw [Nat.mul_add, Nat.add_mul, Nat.mul_one, Nat.mul_assoc 2 (2 * q) B]]
  omega
theorem lng_end {A B k q t : Nat} (hB : 0 < B) (h : Lng A B (k + 1) q t) : A * 2 ^ k / B = q ∧ (A * 2 ^ k % B = 0 ↔ t = 0) := by
  obtain ⟨h1, h2, h3⟩ := h
  rw [Nat.pow_succ, ← Nat.mul_assoc, Nat.mul_assoc 2 q B] at h1
  generalize A * 2 ^ k = X at *
  have e : X = B * q + t / 2 := by rw [Nat.mul_comm B q]; omega
  have h4 : t / 2 < B := by omega
  have h5 : t % 2 = 0 := by omega
  constructor
  · rw [e, Nat.mul_add_div hB, Nat.div_eq_of_lt h4, Nat.add_zero]
  · rw [e, Nat.mul_add_mod, Nat.mod_eq_of_lt h4]; omega
/-- The lowest bit is 1 too where something is left. -/
def stk (q t : Nat) : Nat := if t = 0 then q else oddOf q
theorem stk_at (A B q t : Nat) (E : Int) (hB : 0 < B) (h : Lng A B 64 q t) (hq : 18014398509481984 ≤ q) : fw false (stk q t) E = ratioAt (A * 2 ^ 63) B E := by
  obtain ⟨h1, h2⟩ := lng_end (k := 63) hB h
  unfold stk ratioAt
  rw [h1]
  by_cases ht : t = 0
  · rw [if_pos ht, if_pos (h2.2 ht)]
  · rw [if_neg ht, if_neg (fun x => ht (h2.1 x)), fw_stick false q E hq]
/-- Equal lengths: the quotient has 63 digits at least. -/
theorem lng_long {A B k q t L : Nat} (hB : 0 < B) (h : Lng A B (k + 1) q t) (hA1 : 2 ^ L ≤ A) (hB1 : B < 2 ^ (L + 1)) (hk : 1 ≤ k) : 2 ^ (k - 1) ≤ q := by
  obtain ⟨h1, _⟩ := lng_end hB h
  rw [← h1, Nat.le_div_iff_mul_le hB]
  have a : 2 ^ (k - 1) * B ≤ 2 ^ (k - 1) * 2 ^ (L + 1) := Nat.mul_le_mul_left _ (Nat.le_of_lt hB1)
  have b : 2 ^ L * 2 ^ k ≤ A * 2 ^ k := Nat.mul_le_mul_right _ hA1
  rw [← Nat.pow_add] at a b
  rw [show k - 1 + (L + 1) = L + k by omega] at a
  omega
/-- A power of two beside. -/
theorem ratioW_pow (A C a c x y : Nat) (E : Int) (hA : 0 < A) (hC : 0 < C) (h : 9007199254740992 ≤ A * 2 ^ a / (C * 2 ^ c)) (hE : E = (c : Int) - a + ((x : Int) - y)) :
    ratioAt (A * 2 ^ a) (C * 2 ^ c) E = ratioW (A * 2 ^ x) (C * 2 ^ y) := by
  have e1 : A * 2 ^ x * 2 ^ (a + y) = A * 2 ^ a * 2 ^ (x + y) := by rw [Nat.mul_assoc, ← Nat.pow_add, Nat.mul_assoc, ← Nat.pow_add]; congr 2; omega
  have e2 : C * 2 ^ y * 2 ^ (c + x) = C * 2 ^ c * 2 ^ (x + y) := by rw [Nat.mul_assoc, ← Nat.pow_add, Nat.mul_assoc, ← Nat.pow_add]; congr 2; omega
  have hq : 9007199254740992 ≤ A * 2 ^ x * 2 ^ (a + y) / (C * 2 ^ y * 2 ^ (c + x)) := by rw [e1, e2, Nat.mul_div_mul_right _ _ (Nat.two_pow_pos _)]; exact h
  rw [← ratioW_at (A * 2 ^ x) (C * 2 ^ y) (a + y) (c + x) (Nat.mul_pos hA (Nat.two_pow_pos _)) (Nat.mul_pos hC (Nat.two_pow_pos _)) hq, e1, e2, ratio_scale _ _ _ _ (Nat.two_pow_pos _)]
  congr 1
  omega
/-- What the program's division answers: A' = A * 2^a, C' = C * 2^c of equal length. -/
theorem quo_word (A C a c q t x y L : Nat) (E : Int) (hA : 0 < A) (hC : 0 < C) (h : Lng (A * 2 ^ a) (C * 2 ^ c) 64 q t) (hL : 2 ^ L ≤ A * 2 ^ a) (hL' : C * 2 ^ c < 2 ^ (L + 1)) (hE : E = (c : Int) - a - 63 + ((x : Int) - y)) :
    fw false (stk q t) E = ratioW (A * 2 ^ x) (C * 2 ^ y) := by
  have hB : 0 < C * 2 ^ c := Nat.mul_pos hC (Nat.two_pow_pos _)
  have hq : 2 ^ (63 - 1) ≤ q := lng_long hB h hL hL' (by omega)
  have hq' : 18014398509481984 ≤ q := Nat.le_trans (by decide) hq
  rw [stk_at _ _ q t E hB h hq', Nat.mul_assoc, ← Nat.pow_add]
  refine ratioW_pow A C (a + 63) c x y E hA hC ?_ (by omega)
  rw [Nat.pow_add, ← Nat.mul_assoc, (lng_end hB h).1]
  omega
/-- Powers of ten by those of five and two. -/
theorem dec_five (V K : Nat) (hV : 0 < V) : decW 10 V K = ratioW (V * 5 ^ K * 2 ^ K) (1 * 2 ^ 0) := by
  unfold decW
  rw [if_neg (by omega), Int.toNat_natCast, show (-(K : Int)).toNat = 0 by omega, Nat.pow_zero, Nat.mul_assoc, ← Nat.mul_pow]
theorem dec_fifth (V K : Nat) (hV : 0 < V) : decW 10 V (-(K : Int)) = ratioW (V * 2 ^ 0) (5 ^ K * 2 ^ K) := by
  unfold decW
  rw [if_neg (by omega), show (-(-(K : Int))).toNat = K by omega, show (-(K : Int)).toNat = 0 by omega, Nat.pow_zero, ← Nat.mul_pow]
theorem dec_nil (e : Int) : decW 10 0 e = 0 := by unfold decW; rw [if_pos rfl]
/-- Beyond both ends the power no longer counts. -/
theorem dec_clamp (V : Nat) (e : Int) (len : Nat) (hV : V < 10 ^ len) (hl : len ≤ 1200) : decW 10 V e = decW 10 V (min (max e (-1530)) 310) := by
  by_cases h0 : V = 0
  · subst h0; rw [dec_nil, dec_nil]
  · by_cases h1 : e < -1530
    · rw [show min (max e (-1530)) 310 = -1530 by omega]
      have hk : ∀ e : Int, e ≤ -1530 → decW 10 V e = 0 := by
        intro e he
        unfold decW
        rw [if_neg h0]
        obtain ⟨k, hk⟩ : ∃ k : Nat, (k : Int) = -e - 1200 := ⟨(-e - 1200).toNat, by omega⟩
        have h1 : V * 10 ^ e.toNat = V := by rw [show e.toNat = 0 by omega, Nat.pow_zero, Nat.mul_one]
        rw [h1]
        obtain ⟨t, ht⟩ : ∃ t : Nat, t = 10 := ⟨_, rfl⟩
        obtain ⟨b, hb⟩ : ∃ b, b = 109 * t + 3 * (k - 33 * t) := ⟨_, rfl⟩
        refine ratio_under _ _ b (by omega) (by omega) ?_
        have h3 : 2 ^ b ≤ 10 ^ k := by
          rw [hb, Nat.pow_add]
          obtain ⟨j, hj⟩ : ∃ j, k = 33 * t + j := ⟨k - 33 * t, by omega⟩
          rw [hj, Nat.add_sub_cancel_left, Nat.pow_add, Nat.pow_mul 2 109 t, Nat.pow_mul 10 33 t]
          exact Nat.mul_le_mul (Nat.pow_le_pow_left (by decide) t) (ten_lo j)
        obtain ⟨l, hl'⟩ : ∃ l : Nat, l = 1200 := ⟨_, rfl⟩
        have h2 : V * 2 ^ b ≤ 10 ^ l * 10 ^ k := Nat.mul_le_mul (Nat.le_of_lt (Nat.lt_of_lt_of_le hV (Nat.pow_le_pow_right (by omega) (by omega)))) h3
        rw [← Nat.pow_add, show l + k = (-e).toNat by omega] at h2
        exact h2
      rw [hk e (by omega), hk (-1530) (by omega)]
    · by_cases h2 : 310 < e
      · rw [show min (max e (-1530)) 310 = 310 by omega]
        have hk : ∀ e : Int, 310 ≤ e → decW 10 V e = iw false := by
          intro e he
          unfold decW
          rw [if_neg h0]
          obtain ⟨k, hk⟩ : ∃ k : Nat, e = 310 + (k : Int) := ⟨(e - 310).toNat, by omega⟩
          obtain ⟨t, ht⟩ : ∃ t : Nat, t = 5 := ⟨_, rfl⟩
          refine ratio_over _ _ (205 * t) (Nat.pow_pos (by omega)) (by omega) ?_
          rw [show (-e).toNat = 0 by omega, show e.toNat = 62 * t + k by omega, Nat.pow_zero, Nat.one_mul, Nat.pow_add]
          have c1 : 2 ^ (205 * t) ≤ 10 ^ (62 * t) := by rw [Nat.pow_mul, Nat.pow_mul]; exact Nat.pow_le_pow_left (by decide) t
          have a : 2 ^ (205 * t) * 1 ≤ 10 ^ (62 * t) * 10 ^ k := Nat.mul_le_mul c1 (Nat.pow_pos (by omega))
          have b : 1 * (10 ^ (62 * t) * 10 ^ k) ≤ V * (10 ^ (62 * t) * 10 ^ k) := Nat.mul_le_mul_right _ (by omega)
          omega
        rw [hk e (by omega), hk 310 (by omega)]
      · rw [show min (max e (-1530)) 310 = e by omega]
/-- The sign beside the word. -/
theorem fw_sgn (s : Bool) (m : Nat) (p : Int) : fw s m p = signBit s + fw false m p := by
  by_cases h0 : m = 0
  · subst h0; rw [fw_zero, fw_zero]; rfl
  · rw [fw_place s m p (by omega), fw_place false m p (by omega)]
    show _ = signBit s + (0 + _)
    rw [Nat.zero_add]
end Go.Proofs.YtoedefjngipeiaaGreatDoor

/- quotient of the program. -/
namespace Go.Proofs.YtoedefjngipeiaaGreatDoor
open Go.ChangeShapes Go.WideShapes Go.RowKit

theorem or_odd (q : Nat) (h : q < 18446744073709551616) : bits .or .u64 (q : Int) 1 = ((oddOf q : Nat) : Int) := by
  have e := u64_or_nat q 1 h (by omega)
  rw [show ((1 : Nat) : Int) = 1 from rfl] at e
  rw [e]
  congr 1
  unfold oddOf
  have h1 : ∀ x : Nat, 2 ^ 1 * x ||| 1 = 2 ^ 1 * x + 1 := fun x => (Nat.two_pow_add_eq_or_of_lt (show 1 < 2 ^ 1 by omega) x).symm
  rcases Nat.mod_two_eq_zero_or_one q with h0 | h0
  · have e2 : q = 2 ^ 1 * (q / 2) := by omega
    conv => lhs; rw [e2]
    rw [h1]; omega
  · have e2 : q = 2 ^ 1 * (q / 2) + 1 := by omega
    conv => lhs; rw [e2, ← h1, Nat.or_assoc, Nat.or_self]
    rw [h1]; omega
theorem Lg.below {w w' : World} {B N : Nat} {R : List Value} {t : TypeId} (h : Lg w B N R t) (hm : Below w.heap.size w w') : Lg w' B N R t := by
  obtain ⟨c, h1, h2, h3⟩ := h
  exact ⟨c, h1, h2, (hm.block B h3.lt).trans h3⟩
theorem ord_lt (N M : Nat) (h : N < M) : ordN N M = -1 := by unfold ordN; rw [if_pos h]
theorem ord_ge (N M : Nat) (h : ¬ N < M) : (ordN N M == -1) = false := by
  unfold ordN
  rw [if_neg h]
  split <;> rfl
theorem bitLen_lt (N : Nat) : N < 2 ^ bitLen N := (bitLen_spec N).1
/-- A shift has room. -/
theorem room {c A a L : Nat} (hA : cntOk c A) (hL : bitLen A + a ≤ L) (h : L ≤ 4799) : c + a / 32 + 1 ≤ 151 := by
  rcases Nat.eq_zero_or_pos c with rfl | hc
  · omega
  · have h1 := hA.2 hc
    have h2 := bitLen_lt A
    rw [be_two] at h1
    have h3 : 32 * (c - 1) < bitLen A := (Nat.pow_lt_pow_iff_right (by omega)).1 (Nat.lt_of_le_of_lt h1 h2)
    omega
theorem room_one {c T L : Nat} (hT : cntOk c T) (h : T < 2 ^ L) (hL : L ≤ 4800) : c + 1 / 32 + 1 ≤ 151 := by
  obtain ⟨n, hn⟩ : ∃ n : Nat, n = 150 := ⟨_, rfl⟩
  have h1 : T < be ^ n := by
    rw [be_two]; exact Nat.lt_of_lt_of_le h (Nat.pow_le_pow_right (by omega) (by omega))
  have := cnt_le hT h1
  omega

set_option maxHeartbeats 4000000 in
set_option maxRecDepth 100000 in
theorem quo_any (A C c k la lb a b L : Nat) (w : World) (hA : cntOk c A) (hc : c ≤ 151) (hC : cntOk k C) (hk : k ≤ 151) (hC0 : 0 < C) (h1 : bitLen A = la) (h2 : bitLen C = lb) (ha : a = lb - la) (hb : b = la - lb) (hL : L = max la lb) (hLm : L ≤ 4798) :
    Calls Tryz.prog 108 #[lgV c A, lgV k C] w fun e w' => ∃ q t, Lng (A * 2 ^ a) (C * 2 ^ b) 64 q t ∧ e = .returned (.tuple #[.int .u64 (stk q t : Int), .int .i64 ((la : Int) - lb - 63)]) ∧ Below w.heap.size w w' := by
  have HS1 : Hid (A * 2 ^ a < 2 * (C * 2 ^ b)) := by
    show A * 2 ^ a < 2 * (C * 2 ^ b)
    have e1 := bitLen_lt A
    have e2 := (bitLen_spec C).2 (by omega)
    rw [h1] at e1
    rw [h2] at e2
    have hp : 1 ≤ lb := by
      rw [← h2]; unfold bitLen; rw [if_neg (by omega)]; omega
    have f1 : A * 2 ^ a < 2 ^ la * 2 ^ a := Nat.mul_lt_mul_of_pos_right e1 (Nat.two_pow_pos a)
    have f2 : 2 ^ (lb - 1) * 2 ^ b ≤ C * 2 ^ b := Nat.mul_le_mul_right _ e2
    have f3 : 2 * (2 ^ (lb - 1) * 2 ^ b) = 2 ^ lb * 2 ^ b := by rw [← Nat.mul_assoc, Nat.mul_comm 2, ← Nat.pow_succ, show (lb - 1).succ = lb by omega]
    have f4 : 2 ^ la * 2 ^ a = 2 ^ lb * 2 ^ b := by rw [← Nat.pow_add, ← Nat.pow_add]; congr 1; omega
    omega
  have HS2 : Hid (C * 2 ^ b < 2 ^ L) := by
    show C * 2 ^ b < 2 ^ L
    have e1 := bitLen_lt C
    rw [h2] at e1
    have f1 : C * 2 ^ b < 2 ^ lb * 2 ^ b := Nat.mul_lt_mul_of_pos_right e1 (Nat.two_pow_pos b)
    rw [← Nat.pow_add] at f1
    have f2 : 2 ^ (lb + b) = 2 ^ L := by congr 1; omega
    omega
  have HRA : Hid (c + a / 32 + 1 ≤ 151) := room (L := L) hA (by omega) (by omega)
  have HRC : Hid (k + b / 32 + 1 ≤ 151) := room (L := L) hC (by omega) (by omega)
  have HB0 : Hid (0 < C * 2 ^ b) := Nat.mul_pos hC0 (Nat.two_pow_pos b)
  have HA : Hid (cntOk c A) := hA
  have HC : Hid (cntOk k C) := hC
  obtain ⟨X, hX⟩ : ∃ X, (lgL c (dg A)).toArray = X := ⟨_, rfl⟩
  obtain ⟨Y, hY⟩ : ∃ Y, (lgL k (dg C)).toArray = Y := ⟨_, rfl⟩
  obtain ⟨H, hH⟩ : ∃ H, w.heap.size = H := ⟨_, rfl⟩
  have HH : Hid (w.heap.size = H) := hH
  obtain ⟨W, hW⟩ : ∃ W, (w.alloc (.cells X 156)).alloc (.cells Y 156) = W := ⟨_, rfl⟩
  have HL1 : Hid (LB W H c (dg A) [] 156) := by
    have h := (LB.new w c (dg A) [] 156).alloc (.cells Y 156)
    rw [← blk_nil, hX, hW, hH] at h; exact h
  have HL2 : Hid (LB W (H + 1) k (dg C) [] 156) := by
    have h := LB.new (w.alloc (.cells X 156)) k (dg C) [] 156
    rw [← blk_nil, hY, hW, show (w.alloc (.cells X 156)).heap.size = H + 1 by simp [hH]] at h; exact h
  have HBW : Hid (Below w.heap.size w W) := by rw [← hW]; exact ((Below.refl _ w).alloc (Nat.le_refl _) _).alloc (by simp) _
  have HN1 : Hid _ := fun (_ : Unit) => length_any H A c [] 156 W hc hA HL1.out
  have HN2 : Hid (∀ n, Calls Tryz.prog 111 #[.pointer (some ⟨H + 1, 0, none⟩)] (W.drewN n) fun e w' => e = .returned (.int .i64 (lb : Int)) ∧ ∃ m, w' = (W.drewN n).drewN m) := fun n => by
    have h := length_any (H + 1) C k [] 156 (W.drewN n) hk hC (HL2.out.drewN n)
    rw [h2] at h; exact h
  rw [h1] at HN1
  unfold lgV
  rw [hX, hY]
  clear hX hY hA hC h1 h2 hC0
  go_enter Tryz.func108, Tryz.ntmps108
  go_wp2_with fail
  refine (HN1.out ()).mono ?_
  rintro e w1 ⟨rfl, n1, rfl⟩
  clear hW HN1
  go_wp2_with fail
  refine (HN2.out _).mono ?_
  rintro e w2 ⟨rfl, n2, rfl⟩
  clear HN2
  have HD1 : Hid (LB ((W.drewN n1).drewN n2) H c (dg A) [] 156) := HL1.out
  have HD2 : Hid (LB ((W.drewN n1).drewN n2) (H + 1) k (dg C) [] 156) := HL2.out
  have HDB : Hid (Below w.heap.size w ((W.drewN n1).drewN n2)) := below_drewN (below_drewN HBW.out _) _
  generalize (W.drewN n1).drewN n2 = W2 at *
  clear HL1 HL2 HBW
  have HSA : Hid _ := fun (_ : Unit) => shift_any H A a [] 156 W2 c HA.out HD1.out HRA.out
  have HSC : Hid (∀ w', LB w' (H + 1) k (dg C) [] 156 → Calls Tryz.prog 112 #[.pointer (some ⟨H + 1, 0, none⟩), .int .i64 (b : Int)] w' fun e w'' => e = .returned (.tuple #[]) ∧ Mod (H + 1) w' w'' ∧ Lg w'' (H + 1) (C * 2 ^ b) [] 156) := fun w' h => shift_any (H + 1) C b [] 156 w' k HC.out h HRC.out
  obtain ⟨E, hE⟩ : ∃ E : Int, (la : Int) - (lb : Int) = E := ⟨_, rfl⟩
  have HE : Hid ((la : Int) - (lb : Int) = E) := hE
  have hE1 : -5000 ≤ E ∧ E ≤ 5000 := by omega
  have hab : (E < 0 ∧ -E = (a : Int) ∧ (b : Int) = 0) ∨ (0 < E ∧ E = (b : Int) ∧ (a : Int) = 0) ∨ (E = 0 ∧ (a : Int) = 0 ∧ (b : Int) = 0) := by omega
  obtain ⟨hE2, hE3⟩ := hE1
  have hla : (la : Int) ≤ 5000 := by omega
  have hlb : (lb : Int) ≤ 5000 := by omega
  have HLm : Hid (L ≤ 4798) := hLm
  clear hLm hL ha hb HRA HRC
  go_upto_region 2 with fail
  go_cut [12] from 9 to 12 (fun _ wc => Hid (Lg wc H (A * 2 ^ a) [] 156) ∧ Hid (LB wc (H + 1) k (dg C) [] 156) ∧ Hid (Below w.heap.size w wc))
  case first =>
    rcases hab with ⟨x1, x2, x3⟩ | ⟨x1, x2, x3⟩ | ⟨x1, x2, x3⟩
    · clear x3
      go_wp2_with fail
      refine (HSA.out ()).mono ?_
      rintro e w3 ⟨rfl, hm3, hg3⟩
      have HB3 : Hid (LB w3 (H + 1) k (dg C) [] 156) := HD2.out.other hm3 (by omega)
      have HM3 : Hid (Below w.heap.size w w3) := HDB.out.trans (hm3.below (by rw [HH.out]; exact Nat.le_refl _) HDB.out.size)
      have HG3 : Hid (Lg w3 H (A * 2 ^ a) [] 156) := hg3
      clear hm3 hg3
      go_wp2
      go_meet
      case rel => exact ⟨HG3.out, HB3.out, HM3.out⟩
    · rw [x3] at HSA
      clear x2 x3
      go_wp2_with fail
      refine (HSA.out ()).mono ?_
      rintro e w3 ⟨rfl, hm3, hg3⟩
      have HB3 : Hid (LB w3 (H + 1) k (dg C) [] 156) := HD2.out.other hm3 (by omega)
      have HM3 : Hid (Below w.heap.size w w3) := HDB.out.trans (hm3.below (by rw [HH.out]; exact Nat.le_refl _) HDB.out.size)
      have HG3 : Hid (Lg w3 H (A * 2 ^ a) [] 156) := hg3
      clear hm3 hg3
      go_wp2
      go_meet
      case rel => exact ⟨HG3.out, HB3.out, HM3.out⟩
    · rw [x2] at HSA
      clear x2 x3
      subst x1
      go_wp2_with fail
      refine (HSA.out ()).mono ?_
      rintro e w3 ⟨rfl, hm3, hg3⟩
      have HB3 : Hid (LB w3 (H + 1) k (dg C) [] 156) := HD2.out.other hm3 (by omega)
      have HM3 : Hid (Below w.heap.size w w3) := HDB.out.trans (hm3.below (by rw [HH.out]; exact Nat.le_refl _) HDB.out.size)
      have HG3 : Hid (Lg w3 H (A * 2 ^ a) [] 156) := hg3
      clear hm3 hg3
      go_wp2
      go_meet
      case rel => exact ⟨HG3.out, HB3.out, HM3.out⟩
  case rest =>
    obtain ⟨HG3, HB3, HM3⟩ := hcut
    clear HSA HD1 HD2 HDB
    go_upto_region 3 with fail
    go_cut [15] from 13 to 15 (fun _ wc => Hid (Lg wc H (A * 2 ^ a) [] 156) ∧ Hid (Lg wc (H + 1) (C * 2 ^ b) [] 156) ∧ Hid (Below w.heap.size w wc))
    case first =>
      rcases hab with ⟨x1, x2, x3⟩ | ⟨x1, x2, x3⟩ | ⟨x1, x2, x3⟩
      · rw [x3] at HSC
        clear x2 x3
        go_wp2_with fail
        refine (HSC.out _ HB3.out).mono ?_
        rintro e w4 ⟨rfl, hm4, hg4⟩
        have HG1 : Hid (Lg w4 H (A * 2 ^ a) [] 156) := HG3.out.other hm4 (by omega)
        have HG2 : Hid (Lg w4 (H + 1) (C * 2 ^ b) [] 156) := hg4
        have HDW : Hid (Below w.heap.size w w4) := HM3.out.trans (hm4.below (by rw [HH.out]; omega) HM3.out.size)
        clear hm4 hg4
        go_wp2
        go_meet
        case rel => exact ⟨HG1.out, HG2.out, HDW.out⟩
      · rw [← x2] at HSC
        clear x2 x3
        go_wp2_with fail
        refine (HSC.out _ HB3.out).mono ?_
        rintro e w4 ⟨rfl, hm4, hg4⟩
        have HG1 : Hid (Lg w4 H (A * 2 ^ a) [] 156) := HG3.out.other hm4 (by omega)
        have HG2 : Hid (Lg w4 (H + 1) (C * 2 ^ b) [] 156) := hg4
        have HDW : Hid (Below w.heap.size w w4) := HM3.out.trans (hm4.below (by rw [HH.out]; omega) HM3.out.size)
        clear hm4 hg4
        go_wp2
        go_meet
        case rel => exact ⟨HG1.out, HG2.out, HDW.out⟩
      · rw [x3] at HSC
        clear x2 x3
        subst x1
        go_wp2_with fail
        refine (HSC.out _ HB3.out).mono ?_
        rintro e w4 ⟨rfl, hm4, hg4⟩
        have HG1 : Hid (Lg w4 H (A * 2 ^ a) [] 156) := HG3.out.other hm4 (by omega)
        have HG2 : Hid (Lg w4 (H + 1) (C * 2 ^ b) [] 156) := hg4
        have HDW : Hid (Below w.heap.size w w4) := HM3.out.trans (hm4.below (by rw [HH.out]; omega) HM3.out.size)
        clear hm4 hg4
        go_wp2
        go_meet
        case rel => exact ⟨HG1.out, HG2.out, HDW.out⟩
    case rest =>
      obtain ⟨HG1, HG2, HDW⟩ := hcut
      clear HSC HG3 HB3 HM3 hab hE
      go_wp2
      go_loopw [4, 16] (fun sv iv wl => ∃ (i q T : Nat), iv = .int .i64 (i : Int) ∧ sv = .int .u64 (q : Int) ∧ i ≤ 64 ∧ Hid (Lng (A * 2 ^ a) (C * 2 ^ b) i q T) ∧ Hid (Lg wl H T [] 156) ∧ Hid (Lg wl (H + 1) (C * 2 ^ b) [] 156) ∧ Hid (Below w.heap.size w wl)) (fun _ iv _ => 64 - (intOf iv).toNat)
      case atStart => exact ⟨0, 0, A * 2 ^ a, rfl, rfl, by omega, lng_start _ _ HS1.out, HG1.out, HG2.out, HDW.out⟩
      case round =>
        clear HG1 HG2 HDW
        obtain ⟨i, q, T, rfl, rfl, hi, HL, HG1, HG2, HDW⟩ := hrel
        by_cases hi6 : i < 64
        · have hi6' : (i : Int) < 64 := by omega
          have hq : (q : Int) < 9223372036854775808 := by
            have h1 := HL.out.2.2
            have h2 : (2 : Nat) ^ i ≤ 2 ^ 63 := Nat.pow_le_pow_right (by omega) (by omega)
            have h3 : (2 : Nat) ^ 63 = 9223372036854775808 := rfl
            omega
          have HO : Hid (bits .or .u64 ((q : Int) * 2) 1 = ((2 * q + 1 : Nat) : Int)) := by
            have h := or_odd (2 * q) (by omega)
            rw [odd_twice, show ((2 * q : Nat) : Int) = (q : Int) * 2 by omega] at h
            exact h
          have HTL : Hid (T < 2 ^ (L + 1)) := by
            have h1 := HL.out.2.1
            have h2 := HS2.out
            show T < 2 ^ (L + 1)
            rw [Nat.pow_succ]; omega
          obtain ⟨c1, hc1, hk1, hl1⟩ := HG1.out
          obtain ⟨c2, hc2, hk2, hl2⟩ := HG2.out
          have HO1 : Hid _ := fun (_ : Unit) => order_any H T (C * 2 ^ b) c1 c2 [] 156 wr hc1 hc2 hk1 hk2 hl1
          have HL2 : Hid (LB wr (H + 1) c2 (dg (C * 2 ^ b)) [] 156) := hl2
          have HK1 : Hid (cntOk c1 T) := hk1
          have HL1 : Hid (LB wr H c1 (dg T) [] 156) := hl1
          clear hk1 hl1 hk2 hl2
          go_wp2_with fail
          refine HL2.out.wpLoad _ rfl rfl ?_
          go_at_K
          go_wp2_with fail
          refine (HO1.out ()).mono ?_
          rintro e w5 ⟨rfl, hb5⟩
          have HD1 : Hid (LB w5 H c1 (dg T) [] 156) := (hb5.block H HL1.out.lt).trans HL1.out
          have HD2 : Hid (LB w5 (H + 1) c2 (dg (C * 2 ^ b)) [] 156) := (hb5.block (H + 1) HL2.out.lt).trans HL2.out
          have HE2 : Hid (Lg w5 (H + 1) (C * 2 ^ b) [] 156) := HG2.out.below hb5
          have HB5 : Hid (Below w.heap.size w w5) := HDW.out.trans (hb5.mono HDW.out.size)
          clear hb5 HO1 HL1 HL2
          by_cases hTB : T < C * 2 ^ b
          · have HSH : Hid _ := fun (_ : Unit) => shift_any H T 1 [] 156 w5 c1 HK1.out HD1.out (room_one HK1.out HTL.out (by have := HLm.out; omega))
            rw [ord_lt _ _ hTB]
            have HLN : Hid _ := fun (_ : Unit) => lng_no HL.out hTB
            clear hTB
            go_wp2_with fail
            refine (HSH.out ()).mono ?_
            rintro e w6 ⟨rfl, hm6, hg6⟩
            have HG6 : Hid (Lg w6 H (2 * T) [] 156) := by rw [Nat.pow_one, Nat.mul_comm] at hg6; exact hg6
            have HH6 : Hid (Lg w6 (H + 1) (C * 2 ^ b) [] 156) := HE2.out.other hm6 (by omega)
            have HB6 : Hid (Below w.heap.size w w6) := HB5.out.trans (hm6.below (by rw [HH.out]; exact Nat.le_refl _) HB5.out.size)
            clear hm6 hg6
            go_wp2
            refine ⟨⟨i + 1, 2 * q, 2 * T, rfl, by rw [show ((2 * q : Nat) : Int) = (q : Int) * 2 by omega], by omega, HLN.out (), HG6.out, HH6.out, HB6.out⟩, ?_⟩
            show 64 - ((i : Int) + 1).toNat < 64 - (i : Int).toNat; omega
          · have HSU : Hid _ := fun (_ : Unit) => sub_any H T (C * 2 ^ b) c1 c2 [] 156 w5 hc1 (by omega) HK1.out HD1.out
            have HLN : Hid _ := fun (_ : Unit) => lng_yes HL.out (show C * 2 ^ b ≤ T by omega)
            have hy : ordN T (C * 2 ^ b) = 0 ∨ ordN T (C * 2 ^ b) = 1 := by
              unfold ordN; rw [if_neg hTB]; split <;> simp
            generalize ordN T (C * 2 ^ b) = y at *
            clear hTB
            rcases hy with rfl | rfl
            all_goals
              go_wp2_with fail
              refine HD2.out.wpLoad _ rfl rfl ?_
              go_at_K
              go_wp2_with fail
              refine (HSU.out ()).mono ?_
              rintro e w6 ⟨rfl, hm6, hg6⟩
              obtain ⟨c3, hc3, hk3, hl3⟩ := hg6
              have HSH : Hid _ := fun (_ : Unit) => shift_any H (T - C * 2 ^ b) 1 [] 156 w6 c3 hk3 hl3 (room_one hk3 (Nat.lt_of_le_of_lt (Nat.sub_le _ _) HTL.out) (by have := HLm.out; omega))
              have HH6 : Hid (Lg w6 (H + 1) (C * 2 ^ b) [] 156) := HE2.out.other hm6 (by omega)
              have HB6 : Hid (Below w.heap.size w w6) := HB5.out.trans (hm6.below (by rw [HH.out]; exact Nat.le_refl _) HB5.out.size)
              clear hm6 hk3 hl3 HSU
              obtain ⟨q2, hq2⟩ : ∃ q2 : Nat, 2 * q + 1 = q2 := ⟨_, rfl⟩
              have ho1 := HO.out
              rw [hq2] at ho1
              have HQ2 : Hid (2 * q + 1 = q2) := hq2
              clear hq2 HO
              go_wp2_with fail
              refine (HSH.out ()).mono ?_
              rintro e w7 ⟨rfl, hm7, hg7⟩
              have HG7 : Hid (Lg w7 H (2 * (T - C * 2 ^ b)) [] 156) := by rw [Nat.pow_one, Nat.mul_comm] at hg7; exact hg7
              have HH7 : Hid (Lg w7 (H + 1) (C * 2 ^ b) [] 156) := HH6.out.other hm7 (by omega)
              have HB7 : Hid (Below w.heap.size w w7) := HB6.out.trans (hm7.below (by rw [HH.out]; exact Nat.le_refl _) HB6.out.size)
              clear hm7 hg7
              go_wp2
              refine ⟨⟨i + 1, q2, 2 * (T - C * 2 ^ b), rfl, rfl, by omega, by rw [← HQ2.out]; exact HLN.out (), HG7.out, HH7.out, HB7.out⟩, ?_⟩
              · show 64 - ((i : Int) + 1).toNat < 64 - (i : Int).toNat; omega
        · obtain rfl : i = 64 := by omega
          obtain ⟨c1, hc1, hk1, hl1⟩ := HG1.out
          have hcnt := hl1.cnt
          have HQ : Hid (bits .or .u64 (q : Int) 1 = ((oddOf q : Nat) : Int)) := or_odd q (by have h1 := HL.out.2.2; have h3 : (2 : Nat) ^ 64 = 18446744073709551616 := rfl; omega)
          have HCP : Hid (0 < c1 ↔ 0 < T) := cnt_pos hk1
          clear hk1 hl1
          by_cases hz : 0 < c1
          · have hz' : (0 : Int) < (c1 : Int) := by omega
            have hq1 := HQ.out
            go_wp2
            go_ret2
            refine ⟨q, T, HL.out, ?_, HDW.out⟩
            have hst : stk q T = oddOf q := by unfold stk; rw [if_neg (by have := HCP.out.1 hz; omega)]
            have hE9 := HE.out
            rw [hst]
            show Ending.returned (.tuple #[.int .u64 _, .int .i64 _]) = _
            have e9 : (la : Int) - lb - 63 = E - 63 := by rw [hE9]
            rw [e9]
          · have hz' : decide ((0 : Int) < (c1 : Int)) = false := decide_eq_false (by omega)
            go_wp2
            go_ret2
            refine ⟨q, T, HL.out, ?_, HDW.out⟩
            have hst : stk q T = q := by unfold stk; rw [if_pos (by have := HCP.out.2; omega)]
            have hE9 := HE.out
            rw [hst]
            show Ending.returned (.tuple #[.int .u64 _, .int .i64 _]) = _
            have e9 : (la : Int) - lb - 63 = E - 63 := by rw [hE9]
            rw [e9]
end Go.Proofs.YtoedefjngipeiaaGreatDoor

/- Rounding, as the program does it. -/
namespace Go.Proofs.YtoedefjngipeiaaGreatDoor
open Go.ChangeShapes Go.WideShapes Go.RowKit
open Ieee (double)

theorem and_one (K : Int) (h0 : 0 ≤ K) (h1 : K < 18446744073709551616) : bits .and .u64 K 1 = K % 2 := by
  have h := bits_mask .u64 64 (by decide) (fun n a b => by rw [IntKind.wrap_u64]; omega) 1 (by decide) K h0 (by omega)
  exact h
/-- The numbers that the rounding reckons with. -/
theorem round_vars (x : Int) (k : Nat) (h0 : 0 ≤ x) (hx : x < 18446744073709551616) (hk : 1 ≤ k) (hk' : k ≤ 63) : ∃ K R H : Int,
    x / 2 ^ k = K ∧ IntKind.u64.wrap (2 ^ (k - 1)) = H ∧ bits .and .u64 x (H * 2 - 1) = R ∧ 0 < H ∧ H ≤ 4611686018427387904 ∧ 0 ≤ K ∧ K < 9223372036854775808 ∧ bits .and .u64 K 1 = K % 2
    ∧ K = ((x.toNat / 2 ^ k : Nat) : Int) ∧ R = ((x.toNat % 2 ^ k : Nat) : Int) ∧ H = ((2 ^ (k - 1) : Nat) : Int) := by
  obtain ⟨M, rfl⟩ := Int.eq_ofNat_of_zero_le h0
  rw [Int.toNat_natCast]
  have hq : M / 2 ^ k < 9223372036854775808 := by
    have e : (2 : Nat) ^ 1 ≤ 2 ^ k := Nat.pow_le_pow_right (by omega) hk
    rw [Nat.div_lt_iff_lt_mul (Nat.two_pow_pos k)]
    have e2 : 9223372036854775808 * 2 ^ 1 ≤ 9223372036854775808 * 2 ^ k := Nat.mul_le_mul_left _ e
    omega
  have hH1 : 2 ^ (k - 1) ≤ 2 ^ 62 := Nat.pow_le_pow_right (by omega) (by omega)
  have hH0 : 0 < 2 ^ (k - 1) := Nat.two_pow_pos _
  have e62 : (2 : Nat) ^ 62 = 4611686018427387904 := rfl
  have c1 : (M : Int) / 2 ^ k = ((M / 2 ^ k : Nat) : Int) := by
    rw [Int.natCast_ediv]; congr 1
  have c3 : (2 : Int) ^ (k - 1) = ((2 ^ (k - 1) : Nat) : Int) := (Int.natCast_pow 2 (k - 1)).symm
  have c4 : ((2 ^ (k - 1) : Nat) : Int) * 2 - 1 = 2 ^ k - 1 := by
    rw [← c3, ← Int.pow_succ, show (k - 1).succ = k by omega]
  have hr : bits .and .u64 (M : Int) (2 ^ k - 1) = ((M % 2 ^ k : Nat) : Int) := by
    rw [bits_mask .u64 64 (by decide) (fun n a b => by rw [IntKind.wrap_u64]; omega) k (by omega) (M : Int) h0 (by omega), Int.natCast_emod]
    congr 1
  generalize M / 2 ^ k = q at *
  generalize M % 2 ^ k = r at *
  generalize 2 ^ (k - 1) = h at *
  refine ⟨q, r, h, c1, ?_, by rw [c4]; exact hr, by omega, by omega, by omega, by omega, and_one _ (by omega) (by omega), rfl, rfl, rfl⟩
  rw [c3, IntKind.wrap_u64]; omega

theorem round_neg (m k : Nat) : roundN m (-(k : Int)) = m * 2 ^ k := by
  unfold roundN
  rw [if_pos (by omega), Int.neg_neg, Int.toNat_natCast]
theorem round_pos (m k : Nat) (h : 1 ≤ k) : roundN m (k : Int) = keptOf m k := by
  unfold roundN
  rw [if_neg (by omega), Int.toNat_natCast]

set_option maxHeartbeats 400000 in
/-- Zeros are brought in. -/
theorem roundBits_neg (x : Int) (k : Nat) (h0 : 0 ≤ x) (hk : k ≤ 52) (hm : x.toNat * 2 ^ k ≤ 9007199254740992) (w : World) :
    Calls Tryz.prog 117 #[.int .u64 x, .int .i64 (-(k : Int))] w fun e w' => e = .returned (.int .u64 (roundN x.toNat (-(k : Int)) : Int)) ∧ w' = w := by
  obtain ⟨R, hR, HR⟩ : ∃ R : Int, IntKind.u64.wrap (x * 2 ^ k) = R ∧ Hid (R = ((roundN x.toNat (-(k : Int)) : Nat) : Int)) := by
    refine ⟨_, rfl, ?_⟩
    show IntKind.u64.wrap (x * 2 ^ k) = _
    rw [round_neg]
    obtain ⟨M, rfl⟩ := Int.eq_ofNat_of_zero_le h0
    rw [Int.toNat_natCast] at hm ⊢
    rw [show (M : Int) * 2 ^ k = ((M * 2 ^ k : Nat) : Int) by rw [Int.natCast_mul]; congr 1]
    rw [IntKind.wrap_u64]; omega
  clear hm
  go_enter Tryz.func117, Tryz.ntmps117
  go_wp2
  go_ret
  exact ⟨by rw [← HR.out]; rfl, rfl⟩
set_option maxHeartbeats 400000 in
theorem roundBits_64 (x : Int) (h0 : 0 ≤ x) (hx : x < 18446744073709551616) (w : World) :
    Calls Tryz.prog 117 #[.int .u64 x, .int .i64 64] w fun e w' => e = .returned (.int .u64 (roundN x.toNat 64 : Int)) ∧ w' = w := by
  have hA : bits .and .u64 x 18446744073709551615 = x := by
    have h := bits_mask .u64 64 (by decide) (fun n a b => by rw [IntKind.wrap_u64]; omega) 64 (by decide) x h0 (by omega)
    rw [show (2 : Int) ^ 64 - 1 = 18446744073709551615 by decide] at h
    rw [h]; omega
  have hK : x / 18446744073709551616 = 0 := by omega
  have w1 : IntKind.u64.wrap 18446744073709551616 = 0 := by decide
  have w2 : IntKind.u64.wrap (-1) = 18446744073709551615 := by decide
  have e1 : roundN x.toNat 64 = keptOf x.toNat 64 := round_pos x.toNat 64 (by omega)
  by_cases d1 : 9223372036854775808 < x
  · have HX : Hid (Ending.returned (.int .u64 1) = Ending.returned (.int .u64 (roundN x.toNat 64 : Int))) := by show _ = _; rw [e1, kept_64_up x hx d1]; rfl
    clear e1
    go_enter Tryz.func117, Tryz.ntmps117
    go_wp2
    go_ret
    exact ⟨HX.out, rfl⟩
  · have e2 : keptOf x.toNat 64 = 0 := by
      unfold keptOf
      have e : x.toNat % 2 ^ 64 = x.toNat := Nat.mod_eq_of_lt (by omega)
      have e2 : x.toNat / 2 ^ 64 = 0 := Nat.div_eq_of_lt (by omega)
      rw [e, e2, if_neg (by omega)]
    have HX : Hid (Ending.returned (.int .u64 0) = Ending.returned (.int .u64 (roundN x.toNat 64 : Int))) := by show _ = _; rw [e1, e2]; rfl
    have h10 := and_one 0 (by omega) (by omega)
    clear e1 e2
    by_cases d2 : x = 9223372036854775808
    · subst d2
      have HY : Hid (Ending.returned (.int .u64 0) = Ending.returned (.int .u64 (roundN 9223372036854775808 64 : Int))) := HX.out
      go_enter Tryz.func117, Tryz.ntmps117
      go_wp2
      go_ret
      exact ⟨HY.out, rfl⟩
    · have b2 : (x == 9223372036854775808) = false := beq_eq_false_iff_ne.2 d2
      clear d2
      go_enter Tryz.func117, Tryz.ntmps117
      go_wp2
      go_ret
      exact ⟨HX.out, rfl⟩
set_option maxHeartbeats 400000 in
theorem roundBits_pos (x : Int) (k : Nat) (h0 : 0 ≤ x) (hx : x < 18446744073709551616) (hk : 1 ≤ k) (hk' : k ≤ 63) (w : World) :
    Calls Tryz.prog 117 #[.int .u64 x, .int .i64 (k : Int)] w fun e w' => e = .returned (.int .u64 (roundN x.toNat (k : Int) : Int)) ∧ w' = w := by
  obtain ⟨K, R, H, hK, hH, hR, g0, g1, k0, k1, ho, F1, F2, F3⟩ := round_vars x k h0 hx hk hk'
  have HU : Hid _ := fun h => (round_pos x.toNat k hk).trans (kept_up x.toNat k K R H F1 F2 F3 h)
  have HD : Hid _ := fun h => (round_pos x.toNat k hk).trans (kept_down x.toNat k K R H F1 F2 F3 h)
  clear F1 F2 F3
  have c1 : (k : Int) ≤ 63 := by omega
  have c2 : 1 ≤ (k : Int) := by omega
  by_cases d1 : H < R
  · have HX : Hid (K + 1 = ((roundN x.toNat (k : Int) : Nat) : Int)) := by show _ = _; rw [HU.out (.inl d1)]; omega
    clear HU HD
    go_enter Tryz.func117, Tryz.ntmps117
    go_wp2
    go_ret
    exact ⟨by rw [← HX.out]; rfl, rfl⟩
  · by_cases d2 : R = H
    · have b2 : (R == H) = true := beq_iff_eq.2 d2
      by_cases d3 : K % 2 = 1
      · have b3 : (K % 2 == 1) = true := beq_iff_eq.2 d3
        have HX : Hid (K + 1 = ((roundN x.toNat (k : Int) : Nat) : Int)) := by show _ = _; rw [HU.out (.inr ⟨d2, d3⟩)]; omega
        clear HU HD d2 d3
        go_enter Tryz.func117, Tryz.ntmps117
        go_wp2
        go_ret
        exact ⟨by rw [← HX.out]; rfl, rfl⟩
      · have b3 : (K % 2 == 1) = false := beq_eq_false_iff_ne.2 d3
        have HX : Hid (K = ((roundN x.toNat (k : Int) : Nat) : Int)) := by show _ = _; rw [HD.out (.inr ⟨d2, d3⟩)]; omega
        clear HU HD d2 d3
        go_enter Tryz.func117, Tryz.ntmps117
        go_wp2
        go_ret
        exact ⟨by rw [← HX.out]; rfl, rfl⟩
    · have b2 : (R == H) = false := beq_eq_false_iff_ne.2 d2
      have HX : Hid (K = ((roundN x.toNat (k : Int) : Nat) : Int)) := by show _ = _; rw [HD.out (.inl (by omega))]; omega
      clear HU HD d2
      go_enter Tryz.func117, Tryz.ntmps117
      go_wp2
      go_ret
      exact ⟨by rw [← HX.out]; rfl, rfl⟩
theorem roundBits_any (x d : Int) (h0 : 0 ≤ x) (hx : x < 18446744073709551616) (h1 : -52 ≤ d) (h2 : d ≤ 64) (hle : roundN x.toNat d ≤ 9007199254740992) (w : World) :
    Calls Tryz.prog 117 #[.int .u64 x, .int .i64 d] w fun e w' => e = .returned (.int .u64 (roundN x.toNat d : Int)) ∧ w' = w := by
  by_cases c : d ≤ 0
  · obtain ⟨k, rfl⟩ : ∃ k : Nat, d = -(k : Int) := ⟨(-d).toNat, by omega⟩
    rw [round_neg] at hle
    exact roundBits_neg x k h0 (by omega) hle w
  · obtain ⟨k, rfl⟩ : ∃ k : Nat, d = (k : Int) := ⟨d.toNat, by omega⟩
    by_cases c2 : k = 64
    · subst c2
      exact roundBits_64 x h0 hx w
    · exact roundBits_pos x k h0 hx (by omega) (by omega) w
end Go.Proofs.YtoedefjngipeiaaGreatDoor

