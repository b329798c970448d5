import Derived.Test.YtpmccbkhkaoccaaGreatDoorB32
import Derived.Test.YtpmccbkhkaoccaaGreatDoorB33
import Derived.Test.YtpmccbkhkaoccaaGreatDoorB19
import Derived.Test.YtpmccbkhkaoccaaGreatDoorB05
import Derived.Test.YtpmccbkhkaoccaaGreatDoorB08
import Derived.Test.YtpmccbkhkaoccaaGreatDoorB09
import Derived.WalkKit
import Derived.WalkSpells
import Derived.WalkLawsBesides
import Derived.Outline
import Derived.BigQuiet
import Derived.Deep.QuietTactic
import Derived.Laws.BitsAllLaws
/- What the law on rounding asks: plain. -/
namespace Go.Proofs.YtpmccbkhkaoccaaGreatDoor
open Go.RowKit
open Ieee (double)

theorem zeros_val0 (n : Nat) : valN 10 (zerosB n).data.toList = 0 := by
  rw [zerosB_list]
  have := zeros_ahead n []
  rw [List.append_nil, valN_nil] at this
  exact this
theorem rnd_fixed (x : Nat) (k : Nat) (hk : k ≤ 400) (t : ByteArray) (h : fixedV x (k : Int) t) : (ReadsSome t ∨ IsNan x ∧ ReadA t true 0 IsNan) ∧ ((∀ s n p, Canon n p → 0 < n → x ≠ fw s n p) → Reads t x) := by
  rcases h with ⟨h, _⟩ | ⟨_, ⟨hn, rfl⟩ | ⟨s, rfl, rfl⟩ | ⟨s, rfl, rfl⟩ | ⟨s, m, p, q, j, ds, pow, d, p', hc, hm, rfl, hq, _, hd, hfx, rfl⟩⟩
  · omega
  · exact ⟨.inr ⟨hn, read_nan⟩, fun _ => ⟨_, read_nan, hn, .inl rfl⟩⟩
  · exact ⟨.inl ⟨_, read_inf s⟩, fun _ => ⟨_, read_inf s, rfl, .inr rfl⟩⟩
  · obtain ⟨v, hv, h0⟩ := fix_read s ⟨#[]⟩ 1 k (fun c hc => by cases hc) (by omega) hk
    rw [Int.toNat_natCast]
    have e := h0 rfl rfl
    subst e
    exact ⟨.inl ⟨_, hv⟩, fun _ => ⟨_, hv, rfl, .inr rfl⟩⟩
  · rw [Int.toNat_natCast] at hfx ⊢
    obtain ⟨a1, a2, a3, a4⟩ := exact_sizes m p q j ds pow hc hm hq hd
    have hdg : good 10 d.data.toList ∧ p' ≤ 400 := by
      rcases hfx with ⟨_, rfl, rfl⟩ | ⟨_, hcut⟩
      · exact ⟨(fun c hc => by cases hc), by omega⟩
      · obtain ⟨g, _, _, _, h5⟩ := cut_good _ _ _ _ _ _ hd.2.1 hcut
        exact ⟨g, by omega⟩
    obtain ⟨v, hv, _⟩ := fix_read s d p' k hdg.1 hdg.2 hk
    exact ⟨.inl ⟨v, hv⟩, fun h => absurd rfl (h s m p hc hm)⟩
theorem rnd_digits (x : Nat) (N : Nat) (h1 : 1 ≤ N) (h2 : N ≤ 400) (t : ByteArray) (h : digitsV x (N : Int) t) : (ReadsSome t ∨ IsNan x ∧ ReadA t true 0 IsNan) ∧ ((∀ s n p, Canon n p → 0 < n → x ≠ fw s n p) → Reads t x) ∧ (17 ≤ N → Reads t x) := by
  rcases h with ⟨h, _⟩ | ⟨_, ⟨hn, rfl⟩ | ⟨s, rfl, rfl⟩ | ⟨s, rfl, rfl⟩ | ⟨s, m, p, q, j, ds, pow, d, p', hc, hm, rfl, hq, _, hd, hcut, rfl⟩⟩
  · omega
  · exact ⟨.inr ⟨hn, read_nan⟩, fun _ => ⟨_, read_nan, hn, .inl rfl⟩, fun _ => ⟨_, read_nan, hn, .inl rfl⟩⟩
  · exact ⟨.inl ⟨_, read_inf s⟩, fun _ => ⟨_, read_inf s, rfl, .inr rfl⟩, fun _ => ⟨_, read_inf s, rfl, .inr rfl⟩⟩
  · rw [Int.toNat_natCast]
    have hz := zerosB_size N
    have hsc := sciB_size (zerosB N) 1
    have hsg := sgnB_size s
    have hr := read_sci s (zerosB N) 1 (by omega) (zeros_good N) (by omega) (by omega) (by rw [append_size]; omega)
    have hv : signBit s + decW 10 (valN 10 (zerosB N).data.toList) (1 - ((zerosB N).size : Int)) = signBit s := by
      rw [zeros_val0]
      unfold decW
      rw [if_pos rfl]
      rfl
    rw [hv] at hr
    exact ⟨.inl ⟨_, hr⟩, fun _ => ⟨_, hr, rfl, .inr rfl⟩, fun _ => ⟨_, hr, rfl, .inr rfl⟩⟩
  · rw [Int.toNat_natCast] at hcut ⊢
    obtain ⟨a1, a2, a3, a4⟩ := exact_sizes m p q j ds pow hc hm hq hd
    obtain ⟨g, g1, g2, g3, g4⟩ := cut_good _ _ _ _ _ _ hd.2.1 hcut
    have hsz : (d.extract 0 N).size = N := by rw [ByteArray.size_extract]; omega
    have hsc := sciB_size (d.extract 0 N) p'
    have hsg := sgnB_size s
    have hr := read_sci s (d.extract 0 N) p' (by omega) (good_extract d 0 N g) (by omega) (by omega) (by rw [append_size]; omega)
    refine ⟨.inl ⟨_, hr⟩, fun h => absurd rfl (h s m p hc hm), fun hN => ?_⟩
    rw [hsz, digits_back m p q j ds pow hc hm hq hd N hN d p' hcut, ← fw_sign] at hr
    exact ⟨_, hr, rfl, .inr rfl⟩
end Go.Proofs.YtpmccbkhkaoccaaGreatDoor

/- Fixed's answer is fixed. -/
namespace Go.Proofs.YtpmccbkhkaoccaaGreatDoor
open Ieee (double)

theorem fixedV_one (x : Nat) (n : Int) (t t' : ByteArray) (h : fixedV x n t) (h' : fixedV x n t') : t = t' := by
  rcases h with ⟨ho, rfl⟩ | ⟨ho, h⟩
  · rcases h' with ⟨_, rfl⟩ | ⟨ho', _⟩
    · rfl
    · exfalso; omega
  · rcases h' with ⟨ho', _⟩ | ⟨_, h'⟩
    · exfalso; omega
    · rcases h with ⟨a, rfl⟩ | ⟨s, rfl, rfl⟩ | ⟨s, rfl, rfl⟩ | ⟨s, m, p, q, k, ds, pow, d, r, hc, h0, rfl, hq, hq1, hd, hl, rfl⟩
      · rcases h' with ⟨_, rfl⟩ | ⟨s, rfl, rfl⟩ | ⟨s, rfl, rfl⟩ | ⟨s, m, p, q, k, ds, pow, d, r, hc, h0, rfl, hq, hq1, hd, hl, rfl⟩
        · rfl
        · exact (nan_not_iw s a).elim
        · exact (sign_nan s a).elim
        · exact (nan_not_fw s m p hc a).elim
      · rcases h' with ⟨a, _⟩ | ⟨t, e, rfl⟩ | ⟨t, e, rfl⟩ | ⟨t, m, p, q, k, ds, pow, d, r, hc, h0, e, hq, hq1, hd, hl, rfl⟩
        · exact (nan_not_iw s a).elim
        · rw [iw_one s t e]
        · exact (sign_iw t s e.symm).elim
        · exact (iw_fw s t m p hc e).elim
      · rcases h' with ⟨a, _⟩ | ⟨t, e, rfl⟩ | ⟨t, e, rfl⟩ | ⟨t, m, p, q, k, ds, pow, d, r, hc, h0, e, hq, hq1, hd, hl, rfl⟩
        · exact (sign_nan s a).elim
        · exact (sign_iw s t e).elim
        · rw [sign_one s t e]
        · exact (sign_fw s t m p hc h0 e).elim
      · rcases h' with ⟨a, _⟩ | ⟨t, e, rfl⟩ | ⟨t, e, rfl⟩ | ⟨t, m', p', q', k', ds', pow', d', r', hc', h0', e, hq', hq1', hd', hl', rfl⟩
        · exact (nan_not_fw s m p hc a).elim
        · exact (iw_fw t s m p hc e.symm).elim
        · exact (sign_fw t s m p hc h0 e.symm).elim
        · obtain ⟨rfl, rfl, rfl⟩ := fw_one s t m m' p p' hc hc' e
          obtain ⟨rfl, rfl⟩ := odd_one q k q' k' (hq.symm.trans hq') hq1 hq1'
          obtain ⟨rfl, rfl⟩ := exD_one ds ds' pow pow' q _ hd hd'
          obtain ⟨rfl, rfl⟩ := fixD_one hl hl'
          rfl
end Go.Proofs.YtpmccbkhkaoccaaGreatDoor

/- Digits's answer is fixed. -/
namespace Go.Proofs.YtpmccbkhkaoccaaGreatDoor
open Ieee (double)

theorem digitsV_one (x : Nat) (n : Int) (t t' : ByteArray) (h : digitsV x n t) (h' : digitsV x n t') : t = t' := by
  rcases h with ⟨ho, rfl⟩ | ⟨ho, h⟩
  · rcases h' with ⟨_, rfl⟩ | ⟨ho', _⟩
    · rfl
    · exfalso; omega
  · rcases h' with ⟨ho', _⟩ | ⟨_, h'⟩
    · exfalso; omega
    · rcases h with ⟨a, rfl⟩ | ⟨s, rfl, rfl⟩ | ⟨s, rfl, rfl⟩ | ⟨s, m, p, q, k, ds, pow, d, r, hc, h0, rfl, hq, hq1, hd, hl, rfl⟩
      · rcases h' with ⟨_, rfl⟩ | ⟨s, rfl, rfl⟩ | ⟨s, rfl, rfl⟩ | ⟨s, m, p, q, k, ds, pow, d, r, hc, h0, rfl, hq, hq1, hd, hl, rfl⟩
        · rfl
        · exact (nan_not_iw s a).elim
        · exact (sign_nan s a).elim
        · exact (nan_not_fw s m p hc a).elim
      · rcases h' with ⟨a, _⟩ | ⟨t, e, rfl⟩ | ⟨t, e, rfl⟩ | ⟨t, m, p, q, k, ds, pow, d, r, hc, h0, e, hq, hq1, hd, hl, rfl⟩
        · exact (nan_not_iw s a).elim
        · rw [iw_one s t e]
        · exact (sign_iw t s e.symm).elim
        · exact (iw_fw s t m p hc e).elim
      · rcases h' with ⟨a, _⟩ | ⟨t, e, rfl⟩ | ⟨t, e, rfl⟩ | ⟨t, m, p, q, k, ds, pow, d, r, hc, h0, e, hq, hq1, hd, hl, rfl⟩
        · exact (sign_nan s a).elim
        · exact (sign_iw s t e).elim
        · rw [sign_one s t e]
        · exact (sign_fw s t m p hc h0 e).elim
      · rcases h' with ⟨a, _⟩ | ⟨t, e, rfl⟩ | ⟨t, e, rfl⟩ | ⟨t, m', p', q', k', ds', pow', d', r', hc', h0', e, hq', hq1', hd', hl', rfl⟩
        · exact (nan_not_fw s m p hc a).elim
        · exact (iw_fw t s m p hc e.symm).elim
        · exact (sign_fw t s m p hc h0 e.symm).elim
        · obtain ⟨rfl, rfl, rfl⟩ := fw_one s t m m' p p' hc hc' e
          obtain ⟨rfl, rfl⟩ := odd_one q k q' k' (hq.symm.trans hq') hq1 hq1'
          obtain ⟨rfl, rfl⟩ := exD_one ds ds' pow pow' q _ hd hd'
          obtain ⟨rfl, rfl⟩ := cutV_one _ _ _ _ _ _ _ _ hl hl'
          rfl
end Go.Proofs.YtpmccbkhkaoccaaGreatDoor

/- A float's parts are one thing alone: plain. -/
namespace Go.Proofs.YtpmccbkhkaoccaaGreatDoor
open Go.RowKit

theorem partsV_some (x : Nat) (hx : x < 18446744073709551616) : ∃ k s m e, partsV x k s m e := by
  rcases float_cases x hx with h | ⟨s, rfl⟩ | ⟨s, n, p, hc, rfl⟩
  · exact ⟨3, false, 0, 0, .inl ⟨h, rfl, rfl, rfl, rfl⟩⟩
  · exact ⟨2, s, 0, 0, .inr (.inl ⟨rfl, rfl, rfl, rfl⟩)⟩
  · by_cases h0 : n = 0
    · subst h0
      exact ⟨0, s, 0, 0, .inr (.inr (.inl ⟨fw_zero s p, rfl, rfl, rfl⟩))⟩
    · obtain ⟨q, t, hq, hq1⟩ := odd_some n (by omega)
      exact ⟨1, s, q, p + t, .inr (.inr (.inr ⟨n, p, q, t, hc, by omega, rfl, hq, hq1, rfl, rfl, rfl⟩))⟩
theorem partsV_one (x : Nat) (k k' : Int) (s s' : Bool) (m m' e e' : Int) (h : partsV x k s m e) (h' : partsV x k' s' m' e') : k = k' ∧ s = s' ∧ m = m' ∧ e = e' := by
  rcases h with ⟨a, rfl, rfl, rfl, rfl⟩ | ⟨a, rfl, rfl, rfl⟩ | ⟨a, rfl, rfl, rfl⟩ | ⟨n, p, q, t, hc, hn, a, hq, hq1, rfl, rfl, rfl⟩ <;>
  rcases h' with ⟨b, rfl, rfl, rfl, rfl⟩ | ⟨b, rfl, rfl, rfl⟩ | ⟨b, rfl, rfl, rfl⟩ | ⟨n', p', q', t', hc', hn', b, hq', hq1', rfl, rfl, rfl⟩
  · exact ⟨rfl, rfl, rfl, rfl⟩
  · rw [b] at a; exact (nan_not_iw _ a).elim
  · rw [b] at a; exact (sign_nan _ a).elim
  · rw [b] at a; exact (nan_not_fw _ _ _ hc' a).elim
  · rw [a] at b; exact (nan_not_iw _ b).elim
  · rw [a] at b; exact ⟨rfl, iw_one _ _ b, rfl, rfl⟩
  · rw [a] at b; exact (sign_iw _ _ b.symm).elim
  · rw [a] at b; exact (iw_fw _ _ _ _ hc' b).elim
  · rw [a] at b; exact (sign_nan _ b).elim
  · rw [a] at b; exact (sign_iw _ _ b).elim
  · rw [a] at b; exact ⟨rfl, sign_one _ _ b, rfl, rfl⟩
  · rw [a] at b; exact (sign_fw _ _ _ _ hc' hn' b).elim
  · rw [a] at b; exact (nan_not_fw _ _ _ hc b).elim
  · rw [a] at b; exact (iw_fw _ _ _ _ hc b.symm).elim
  · rw [a] at b; exact (sign_fw _ _ _ _ hc hn b.symm).elim
  · rw [a] at b
    obtain ⟨rfl, rfl, rfl⟩ := fw_one _ _ _ _ _ _ hc hc' b
    obtain ⟨rfl, rfl⟩ := odd_one q t q' t' (by rw [← hq, ← hq']) hq1 hq1'
    exact ⟨rfl, rfl, rfl, rfl⟩
end Go.Proofs.YtpmccbkhkaoccaaGreatDoor

/- The cursor that draws choices from bytes: it returns, whatever the bytes; it writes into its own block alone. -/
namespace Go.Proofs.YtpmccbkhkaoccaaGreatDoor
open Go.ChangeShapes Go.WideShapes Go.RowKit

/-- The bytes of a slice that came in: its cells hold bytes, and lie in another block than B. -/
def Code (B : Nat) (w : World) (a : Option Addr) (len : Nat) : Prop := len ≤ 1048576 ∧ ∀ i : Nat, i < len → ∃ x : Addr, a = some x ∧ x.block ≠ B ∧ ∃ z : Int, 0 ≤ z ∧ z ≤ 255 ∧ w.cell? (x.add i) = some (.int .u8 z)
/-- The cursor in block B. -/
def Cur (B : Nat) (w : World) (a : Option Addr) (len cap : Nat) (pos : Int) : Prop :=
  ∃ seed : Int, w.cell? ⟨B, 0, none⟩ = some (.slice a len cap) ∧ w.cell? ⟨B, 1, none⟩ = some (.int .i64 pos) ∧ w.cell? ⟨B, 2, none⟩ = some (.int .u64 seed)
    ∧ w.frozen? ⟨B, 1, none⟩ = false ∧ w.frozen? ⟨B, 2, none⟩ = false
theorem Code.only {B : Nat} {w w' : World} {a : Option Addr} {len : Nat} (h : Code B w a len) (ho : Only B w w') : Code B w' a len :=
  ⟨h.1, fun i hi => by
    obtain ⟨x, hx, hb, z, h0, h1, hc⟩ := h.2 i hi
    exact ⟨x, hx, hb, z, h0, h1, by rw [ho.cell (by unfold Addr.add; split <;> exact hb)]; exact hc⟩⟩

theorem Cur.below {B C : Nat} {w w' : World} {a : Option Addr} {len cap : Nat} {pos : Int} (h : Cur B w a len cap pos) (hb : Below C w w') (hB : B < C) : Cur B w' a len cap pos := by
  obtain ⟨seed, c0, c1, c2, f1, f2⟩ := h
  exact ⟨seed, by rw [hb.cell (p := ⟨B, 0, none⟩) hB]; exact c0, by rw [hb.cell (p := ⟨B, 1, none⟩) hB]; exact c1, by rw [hb.cell (p := ⟨B, 2, none⟩) hB]; exact c2, by rw [hb.frozen (p := ⟨B, 1, none⟩) hB]; exact f1, by rw [hb.frozen (p := ⟨B, 2, none⟩) hB]; exact f2⟩
theorem Code.below {B : Nat} {w w' : World} {a : Option Addr} {len : Nat} (h : Code B w a len) (hb : Below w.heap.size w w') : Code B w' a len :=
  ⟨h.1, fun i hi => by
    obtain ⟨x, hx, hne, z, h0, h1, hc⟩ := h.2 i hi
    exact ⟨x, hx, hne, z, h0, h1, by rw [hb.cell (cell_lt hc)]; exact hc⟩⟩
theorem low8 (X : Int) (h0 : 0 ≤ X) (h1 : X < 18446744073709551616) : 0 ≤ wrap64 (bits .and .u64 X 255) ∧ wrap64 (bits .and .u64 X 255) ≤ 255 := by
  rw [u64_and X 255 h0 h1 (by omega) (by omega)]
  have h := Nat.and_le_right (n := X.toNat) (m := (255 : Int).toNat)
  have e : (255 : Int).toNat = 255 := rfl
  rw [e] at h ⊢
  generalize X.toNat &&& 255 = k at *
  unfold wrap64
  omega
theorem u64_in (x : Int) : 0 ≤ IntKind.u64.wrap x ∧ IntKind.u64.wrap x < 18446744073709551616 := by rw [IntKind.wrap_u64]; omega

set_option maxHeartbeats 400000 in
theorem next_any (B : Nat) (w : World) (a : Option Addr) (len cap : Nat) (pos : Int) (hc : Cur B w a len cap pos) (hk : Code B w a len) (h0 : 0 ≤ pos) (h1 : pos ≤ 1000000000) :
    Calls Tryz.prog 88 #[.pointer (some ⟨B, 0, none⟩)] w fun e w' => ∃ v : Int, 0 ≤ v ∧ v ≤ 255 ∧ e = .returned (.int .i64 v) ∧ Cur B w' a len cap (pos + 1) ∧ Only B w w' := by
  obtain ⟨seed, c0, c1, c2, f1, f2⟩ := hc
  by_cases hlt : pos < len
  · obtain ⟨hlen, hk⟩ := hk
    obtain ⟨x, rfl, hb, z, hz0, hz1, hx⟩ := hk pos.toNat (by omega)
    clear hk
    go_enter Tryz.func88, Tryz.ntmps88
    go_wp2
    go_quiet (fail)
    go_wp2
    go_quiet (fail)
    go_wp2
    go_ret
    exact ⟨z, hz0, hz1, rfl, ⟨_, by simp [go_sem, c0], by simp [go_sem, c1], by simp [go_sem, c2]; rfl, by simp [go_sem, f1], by simp [go_sem, f2]⟩, (((Only.refl _ _).drewN _).setCell _ _).setCell _ _⟩
  · go_enter Tryz.func88, Tryz.ntmps88
    clear hk
    go_wp2
    go_quiet (fail)
    go_wp2
    have hl := low8 (IntKind.u64.wrap (IntKind.u64.wrap (seed * 6364136223846793005) + 1442695040888963407) / 1099511627776) (by have := u64_in (IntKind.u64.wrap (seed * 6364136223846793005) + 1442695040888963407); omega) (by have := u64_in (IntKind.u64.wrap (seed * 6364136223846793005) + 1442695040888963407); omega)
    go_ret
    exact ⟨_, hl.1, hl.2, rfl, ⟨_, by simp [go_sem, c0], by simp [go_sem, c1], by simp [go_sem, c2]; rfl, by simp [go_sem, f1], by simp [go_sem, f2]⟩, (((Only.refl _ _).drewN _).setCell _ _).setCell _ _⟩
end Go.Proofs.YtpmccbkhkaoccaaGreatDoor

/- The cursor: pick, bits, num; the int that bytes tell. -/
namespace Go.Proofs.YtpmccbkhkaoccaaGreatDoor
open Go.ChangeShapes Go.WideShapes Go.RowKit

set_option maxHeartbeats 400000 in
theorem pick_any (B : Nat) (w : World) (a : Option Addr) (len cap : Nat) (pos n : Int) (hc : Cur B w a len cap pos) (hk : Code B w a len) (h0 : 0 ≤ pos) (h1 : pos ≤ 900000000) (hn : 2 ≤ n) (hn' : n ≤ 1000000) :
    Calls Tryz.prog 57 #[.pointer (some ⟨B, 0, none⟩), .int .i64 n] w fun e w' => ∃ v pos' : Int, 0 ≤ v ∧ v < n ∧ e = .returned (.int .i64 v) ∧ pos ≤ pos' ∧ pos' ≤ pos + 2 ∧ Cur B w' a len cap pos' ∧ Code B w' a len ∧ Only B w w' := by
  have HN : Hid _ := fun (_ : Unit) => next_any B w a len cap pos hc hk h0 (by omega)
  have HK : Hid _ := fun (_ : Unit) => hk
  clear hc hk
  go_enter Tryz.func57, Tryz.ntmps57
  go_wp2_with fail
  refine (HN.out ()).mono ?_
  rintro e w1 ⟨x, hx0, hx1, rfl, hc1, ho1⟩
  have hk1 := (HK.out ()).only ho1
  by_cases hs : 200 < n
  · have HN2 : Hid _ := fun (_ : Unit) => next_any B w1 a len cap (pos + 1) hc1 hk1 (by omega) (by omega)
    have HO : Hid _ := fun (_ : Unit) => ho1
    have HK1 : Hid _ := fun (_ : Unit) => hk1
    clear hc1 ho1 hk1 HN HK
    go_wp2_with fail
    refine (HN2.out ()).mono ?_
    rintro e w2 ⟨y, hy0, hy1, rfl, hc2, ho2⟩
    have HO2 : Hid _ := fun (_ : Unit) => ho2
    have HC2 : Hid _ := fun (_ : Unit) => hc2
    clear hc2 ho2 HN2
    have hm0 : 0 ≤ (x * 256 + y) % n := Int.emod_nonneg _ (by omega)
    have hm1 : (x * 256 + y) % n < n := Int.emod_lt_of_pos _ (by omega)
    go_wp2
    go_ret
    exact ⟨_, _, hm0, hm1, rfl, by omega, by omega, HC2.out (), (HK1.out ()).only (HO2.out ()), (HO.out ()).trans (HO2.out ())⟩
  · have HO : Hid _ := fun (_ : Unit) => ho1
    have HC1 : Hid _ := fun (_ : Unit) => hc1
    have HK1 : Hid _ := fun (_ : Unit) => hk1
    clear hc1 ho1 hk1 HN HK
    have hm0 : 0 ≤ x % n := Int.emod_nonneg _ (by omega)
    have hm1 : x % n < n := Int.emod_lt_of_pos _ (by omega)
    go_wp2
    go_ret
    exact ⟨_, _, hm0, hm1, rfl, by omega, by omega, HC1.out (), HK1.out (), HO.out ()⟩

set_option maxHeartbeats 400000 in
theorem bits_any (B : Nat) (w : World) (a : Option Addr) (len cap : Nat) (pos : Int) (hc : Cur B w a len cap pos) (hk : Code B w a len) (h0 : 0 ≤ pos) (h1 : pos ≤ 900000000) :
    Calls Tryz.prog 59 #[.pointer (some ⟨B, 0, none⟩)] w fun e w' => ∃ v : Int, (Lit.int .i64 v).wf = true ∧ e = .returned (.int .i64 v) ∧ Cur B w' a len cap (pos + 8) ∧ Code B w' a len ∧ Only B w w' := by
  have HS : Hid _ := fun (_ : Unit) => And.intro hc hk
  clear hc hk
  go_enter Tryz.func59, Tryz.ntmps59
  go_wp2
  go_loopw [3, 4] (fun n k wl => ∃ (j : Nat) (N : Int), j ≤ 8 ∧ n = .int .u64 N ∧ k = .int .i64 j ∧ Hid (Cur B wl a len cap (pos + j) ∧ Code B wl a len ∧ Only B w wl)) (fun _ k _ => 8 - (intOf k).toNat)
  case atStart => exact ⟨0, 0, by omega, rfl, rfl, by have := (HS.out ()).1; simpa using this, (HS.out ()).2, Only.refl _ _⟩
  case round =>
    obtain ⟨j, N, hj, rfl, rfl, HR⟩ := hrel
    by_cases hlt : j < 8
    · obtain ⟨hc, hk, ho⟩ := HR.out
      have HN : Hid _ := fun (_ : Unit) => next_any B wr a len cap (pos + j) hc hk (by omega) (by omega)
      have HX : Hid _ := fun (_ : Unit) => And.intro hk ho
      clear hc hk ho HR
      go_wp2_with fail
      refine (HN.out ()).mono ?_
      rintro e w1 ⟨x, hx0, hx1, rfl, hc1, ho1⟩
      have HY : Hid _ := fun (_ : Unit) => And.intro hc1 ho1
      clear hc1 ho1 HN
      go_wp2
      refine ⟨⟨j + 1, _, by omega, rfl, by go_num, ?_, (HX.out ()).1.only (HY.out ()).2, (HX.out ()).2.trans (HY.out ()).2⟩, by simp [intOf]; omega⟩
      have h := (HY.out ()).1
      rw [show pos + ((j + 1 : Nat) : Int) = pos + (j : Int) + 1 by omega]
      exact h
    · have e8 : j = 8 := by omega
      subst e8
      go_wp2
      go_ret
      exact ⟨_, wrap64_wf N, rfl, HR.out⟩

theorem small_wf (v : Int) (h0 : -1000 ≤ v) (h1 : v ≤ 1000) : (Lit.int .i64 v).wf = true := by
  refine WalkArith.wf_i64 ?_; omega
theorem Only.toBelow {B : Nat} {a b c : World} (h : Only B a b) (k : Below B b c) : Below B a c := (h.below (Nat.le_refl _)).trans k
end Go.Proofs.YtpmccbkhkaoccaaGreatDoor

