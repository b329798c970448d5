import Derived.Test.YtapiifeklimncaaDoorA22
import Derived.Test.YtapiifeklimncaaDoorA33
/- The exact law of reading. -/
namespace Go.Proofs.YtapiifeklimncaaDoor
open Go.ChangeShapes Go.WideShapes Go.RowKit

attribute [local go_sem] run_store_float

theorem readA_fl {s : ByteArray} {ok : Bool} {pl : Int} {fl : Nat → Prop} (h : ReadA s ok pl fl) : fl = IsNan ∨ ∃ v, fl = (· = v) := by
  rcases h with ⟨_, _, _, rfl⟩ | ⟨_, neg, k, _, ⟨nan, _, i, _, _, ⟨_, _, _, _, rfl⟩ | ⟨_, _, _, _, rfl⟩ | ⟨_, _, _, _, rfl⟩⟩ | ⟨_, _, b, k1, j, _, _, ⟨_, _, _, rfl⟩ | ⟨_, r, _, ⟨_, _, _, rfl⟩ | ⟨ds, e, i, x, _, _, ⟨a, _, _, _, rfl⟩ | ⟨n, a, _, ⟨_, _, _, rfl⟩ | ⟨_, _, _, rfl⟩⟩⟩⟩⟩⟩
  · exact .inr ⟨_, rfl⟩
  · exact .inr ⟨_, rfl⟩
  · exact .inr ⟨_, rfl⟩
  · cases nan
    · exact .inr ⟨_, rfl⟩
    · exact .inl rfl
  · exact .inr ⟨_, rfl⟩
  · exact .inr ⟨_, rfl⟩
  · exact .inr ⟨_, rfl⟩
  · exact .inr ⟨_, rfl⟩
  · exact .inr ⟨_, rfl⟩
theorem same_fl {fl : Nat → Prop} (h : fl = IsNan ∨ ∃ v, fl = (· = v)) {x y : Nat} (hx : fl x) (hy : fl y) (hlx : x < 18446744073709551616) (w : World) :
    Calls Tryd.prog 18 #[.float .f64 x, .float .f64 y] w fun e w' => e = .returned (.bool true) ∧ w' = w := by
  rcases h with rfl | ⟨v, rfl⟩
  · exact same_nan x y hx hy w
  · have h1 : x = v := hx
    have h2 : y = v := hy
    rw [h2, ← h1]
    exact same_self x hlx w
set_option maxHeartbeats 400000 in
theorem eqRead_any (ok : Bool) (pl : Int) (x y : Nat) (w : World) (HS0 : ∀ w, Calls Tryd.prog 18 #[.float .f64 x, .float .f64 y] w fun e w' => e = .returned (.bool true) ∧ w' = w) :
    Calls Tryd.prog 6 #[.agg #[.bool ok, .int .i64 pl, .float .f64 x], .agg #[.bool ok, .int .i64 pl, .float .f64 y]] w fun e w' => e = .returned (.bool true) ∧ Below w.heap.size w w' := by
  have HS : Hid _ := HS0
  clear HS0
  cases ok
  all_goals
    go_enter Tryd.func6, Tryd.ntmps6
    go_wp2_with fail
    refine (HS.out _).mono ?_
    rintro e w2 ⟨rfl, rfl⟩
    go_wp2
    go_ret
    exact ⟨rfl, (by repeat (first | exact Below.refl _ _ | refine Below.drew ?_ | refine below_drewN ?_ _ | refine Below.alloc ?_ (by simp <;> omega) _))⟩
set_option maxHeartbeats 1000000 in
theorem lawRead_any (s : ByteArray) (w : World) (hg : Handle w) (hlt : 0 < w.heap.size) :
    Calls Tryd.prog 3 #[.string s] w fun e w' => e = .returned (.bool true) ∧ Below w.heap.size w w' := by
  by_cases hs : 1048576 < s.size
  · have hs' : (1048576 : Int) < (s.size : Int) := by omega
    go_enter Tryd.func3, Tryd.ntmps3
    go_wp2
    go_ret
    exact ⟨rfl, Below.refl _ _⟩
  · have hs' : (s.size : Int) ≤ 1048576 := by omega
    have HG : Hid (Handle w ∧ 0 < w.heap.size) := ⟨hg, hlt⟩
    have H1 : Hid _ := fun (_ : Unit) => specRead_any s w (by omega)
    clear hs hg hlt
    go_enter Tryd.func3, Tryd.ntmps3
    go_wp2_with fail
    refine (H1.out ()).mono ?_
    rintro e w1 ⟨ok, pl, fl, x, hra, hx, hlx, rfl, hb1⟩
    have hz := hb1.size
    have HG2 : Hid (Handle (w1.alloc (.cells #[.bool ok, .int .i64 pl, .float .f64 x] 24)) ∧ 0 < (w1.alloc (.cells #[.bool ok, .int .i64 pl, .float .f64 x] 24)).heap.size) := by
      obtain ⟨h1, h2⟩ := HG.out
      exact ⟨(h1.below h2 hb1).alloc (by omega) _, by simp <;> omega⟩
    have H2 : Hid _ := fun (_ : Unit) => implRead_of s _ (.inl HG2.out)
    have HB1 : Hid (Below w.heap.size w w1) := hb1
    have HQ : Hid (ReadA s ok pl fl ∧ fl x ∧ x < 18446744073709551616) := ⟨hra, hx, hlx⟩
    clear H1 HG hb1 hra hx hlx HG2
    go_wp2_with fail
    refine (H2.out ()).mono ?_
    rintro e w2 ⟨ok', pl', fl', y, hra, hy, hly, rfl, hb2⟩
    obtain ⟨hra1, hx, hlx⟩ := HQ.out
    obtain ⟨rfl, rfl, rfl⟩ := readA_one hra hra1
    have HE : Hid _ := fun (w : World) => eqRead_any ok' pl' y x w (fun w => same_fl (readA_fl hra) hy hx hly w)
    have hz2 : w1.heap.size < w2.heap.size := by have := hb2.size; simp at this; omega
    have c0 : w2.cell? ⟨w1.heap.size, 0, none⟩ = some (.bool ok') := by rw [hb2.cell (by simp)]; simp
    have c1 : w2.cell? ⟨w1.heap.size, 1, none⟩ = some (.int .i64 pl') := by rw [hb2.cell (by simp)]; simp
    have c2 : w2.cell? ⟨w1.heap.size, 2, none⟩ = some (.float .f64 x) := by rw [hb2.cell (by simp)]; simp
    have HB2 : Hid (Below w.heap.size w w2) := (HB1.out.alloc (by omega) _).trans (hb2.mono (by simp; omega))
    clear hra hra1 hx hlx hy hly hb2 HQ H2 HB1
    go_wp2_with fail
    refine (HE.out _).mono ?_
    rintro e w3 ⟨rfl, hb3⟩
    have HB3 : Hid (Below w.heap.size w w3) := (HB2.out.alloc (by omega) _).trans (hb3.mono (by simp; omega))
    clear hb3 HE
    go_wp2
    go_ret
    exact ⟨rfl, HB3.out⟩
end Go.Proofs.YtapiifeklimncaaDoor

