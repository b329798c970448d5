/- ReadInt of the program, where the arguments are in range; the law. -/
import Derived.Test.YtpldpgdjdplbgaaDoorReadF
namespace Go.Proofs.YtpldpgdjdplbgaaDoor
open Go.ChangeShapes Go.WideShapes Go.RowKit

theorem wrap_minus (V : Int) (h0 : 0 ≤ V) (h1 : V ≤ 9223372036854775808) : wrap64 (IntKind.u64.wrap (-V)) = -V := by
  rw [IntKind.wrap_u64]; unfold wrap64; omega

set_option maxHeartbeats 400000 in
theorem implRead_plus (s : ByteArray) (b : Int) (w : World) (hs : s.size ≤ 1200) (h2 : 2 ≤ b) (h36 : b ≤ 36) (r : ByteArray) (hc : Cut s false r) :
    Calls Tryd.prog 12 #[.string s, .int .i64 b] w fun e w' => ∃ c n, ReadV b false r.data.toList c n ∧ e = .returned (.agg #[.int .i64 c, .int .i64 n]) ∧ Below w.heap.size w w' := by
  have HB : Hid _ := isBase_any b
  rw [isB_yes b h2 h36] at HB
  have HC : Hid _ := fun w => cutSign_any s w hs false r hc
  have HS : Hid _ := fun w => implSize_any r b 9223372036854775807 w (cut_size s false r hs hc) h2 h36 (by omega) (by omega)
  have hv0 := val_nonneg b (by omega) r.data.toList
  clear hc
  go_enter Tryd.func12, Tryd.ntmps12
  go_wp2_with (first | (go_at_call 17; refine (HB.out _).mono ?_; rintro e w' ⟨rfl, rfl⟩) | (go_at_call 20; refine (HC.out _).mono ?_; rintro e w' ⟨rfl, nd, rfl⟩))
  refine (HS.out _).mono ?_
  rintro e w' ⟨⟨n, c, hv, rfl⟩, rfl⟩
  rcases hv with ⟨a, rfl, rfl⟩ | ⟨a, a', a'', rfl, rfl⟩ | ⟨a, a', a'', rfl, rfl⟩
  · have HF : Hid (ReadV b false r.data.toList 2 0) := readV_bad b false r.data.toList a
    clear a HS HB HC
    go_wp2
    exact bodyPost_ret (v := .agg #[.int .i64 2, .int .i64 0]) (by simp [results, Tryd.results12, go_sem]) rfl ⟨2, 0, HF.out, rfl, (by repeat (first | exact Below.refl _ _ | refine below_drewN ?_ _ | refine Below.setCell ?_ (by simp) _ | refine Below.alloc ?_ (by simp) _))⟩
  · have HF : Hid (ReadV b false r.data.toList 3 0) := readV_over b false r.data.toList a a' a''
    clear a a' a'' HS HB HC
    go_wp2
    exact bodyPost_ret (v := .agg #[.int .i64 3, .int .i64 0]) (by simp [results, Tryd.results12, go_sem]) rfl ⟨3, 0, HF.out, rfl, (by repeat (first | exact Below.refl _ _ | refine below_drewN ?_ _ | refine Below.setCell ?_ (by simp) _ | refine Below.alloc ?_ (by simp) _))⟩
  · have HF : Hid (ReadV b false r.data.toList 0 (val b r.data.toList)) := readV_plus b r.data.toList a a' a''
    generalize val b r.data.toList = V at *
    clear a a' HS HB HC
    go_wp2
    exact bodyPost_ret (v := .agg #[.int .i64 0, .int .i64 V]) (by simp [results, Tryd.results12, go_sem]) rfl ⟨0, V, HF.out, rfl, (by repeat (first | exact Below.refl _ _ | refine below_drewN ?_ _ | refine Below.setCell ?_ (by simp) _ | refine Below.alloc ?_ (by simp) _))⟩

set_option maxHeartbeats 400000 in
theorem implRead_minus (s : ByteArray) (b : Int) (w : World) (hs : s.size ≤ 1200) (h2 : 2 ≤ b) (h36 : b ≤ 36) (r : ByteArray) (hc : Cut s true r) :
    Calls Tryd.prog 12 #[.string s, .int .i64 b] w fun e w' => ∃ c n, ReadV b true r.data.toList c n ∧ e = .returned (.agg #[.int .i64 c, .int .i64 n]) ∧ Below w.heap.size w w' := by
  have HB : Hid _ := isBase_any b
  rw [isB_yes b h2 h36] at HB
  have HC : Hid _ := fun w => cutSign_any s w hs true r hc
  have HS : Hid _ := fun w => implSize_any r b 9223372036854775808 w (cut_size s true r hs hc) h2 h36 (by omega) (by omega)
  have hv0 := val_nonneg b (by omega) r.data.toList
  clear hc
  go_enter Tryd.func12, Tryd.ntmps12
  go_wp2_with (first | (go_at_call 17; refine (HB.out _).mono ?_; rintro e w' ⟨rfl, rfl⟩) | (go_at_call 20; refine (HC.out _).mono ?_; rintro e w' ⟨rfl, nd, rfl⟩))
  refine (HS.out _).mono ?_
  rintro e w' ⟨⟨n, c, hv, rfl⟩, rfl⟩
  rcases hv with ⟨a, rfl, rfl⟩ | ⟨a, a', a'', rfl, rfl⟩ | ⟨a, a', a'', rfl, rfl⟩
  · have HF : Hid (ReadV b true r.data.toList 2 0) := readV_bad b true r.data.toList a
    clear a HS HB HC
    go_wp2
    exact bodyPost_ret (v := .agg #[.int .i64 2, .int .i64 0]) (by simp [results, Tryd.results12, go_sem]) rfl ⟨2, 0, HF.out, rfl, (by repeat (first | exact Below.refl _ _ | refine below_drewN ?_ _ | refine Below.setCell ?_ (by simp) _ | refine Below.alloc ?_ (by simp) _))⟩
  · have HF : Hid (ReadV b true r.data.toList 3 0) := readV_over b true r.data.toList a a' a''
    clear a a' a'' HS HB HC
    go_wp2
    exact bodyPost_ret (v := .agg #[.int .i64 3, .int .i64 0]) (by simp [results, Tryd.results12, go_sem]) rfl ⟨3, 0, HF.out, rfl, (by repeat (first | exact Below.refl _ _ | refine below_drewN ?_ _ | refine Below.setCell ?_ (by simp) _ | refine Below.alloc ?_ (by simp) _))⟩
  · have HF : Hid (ReadV b true r.data.toList 0 (wrap64 (IntKind.u64.wrap (-(val b r.data.toList))))) := readV_minus b _ r.data.toList a a' a'' (wrap_minus _ hv0 a'')
    generalize val b r.data.toList = V at *
    clear a a' HS HB HC
    go_wp2
    exact bodyPost_ret (v := .agg #[.int .i64 0, .int .i64 (wrap64 (IntKind.u64.wrap (-V)))]) (by simp [results, Tryd.results12, go_sem]) rfl ⟨0, _, HF.out, rfl, (by repeat (first | exact Below.refl _ _ | refine below_drewN ?_ _ | refine Below.setCell ?_ (by simp) _ | refine Below.alloc ?_ (by simp) _))⟩

theorem implRead_any (s : ByteArray) (b : Int) (w : World) (hs : s.size ≤ 1200) (h2 : 2 ≤ b) (h36 : b ≤ 36) (neg : Bool) (r : ByteArray) (hc : Cut s neg r) :
    Calls Tryd.prog 12 #[.string s, .int .i64 b] w fun e w' => ∃ c n, ReadV b neg r.data.toList c n ∧ e = .returned (.agg #[.int .i64 c, .int .i64 n]) ∧ Below w.heap.size w w' := by
  cases neg
  · exact implRead_plus s b w hs h2 h36 r hc
  · exact implRead_minus s b w hs h2 h36 r hc

end Go.Proofs.YtpldpgdjdplbgaaDoor
