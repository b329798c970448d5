/-
  NARROWER THAN 'FOR EVERY INPUT', by the rows' own cells (each row's printed sentence says how): FnInts: laid · FnExactWriteInt: laid · FnExactWriteBits: laid.
  DERIVED. THE GIVEN ROWS OF THIS SEAT. 3 by the template 'for every input the law returns true; each argument reads behind the call as it read before'; 0 by the template 'total and deterministic' (their statements: YtpldpgdjdplbgaaDoorTotals.lean).
  GIVEN WITH THE SEED: the statements are not yours to turn. If you find one false, say at which input.
  Laid BY PROGRAM, IN A SANDBOX (cutbox-rows.mjs): the forced cells as the released guide's own fill.sh prints them over the translation c78c2016e1f39465… (all of the seat's roots in one cut). By AI agents, Wed Nov 11 2026. No macro, syntax, notation, axiom, sorry.
-/
import Derived.Test.YtpldpgdjdplbgaaDoorChecked
import GoSem.Claim
import GoSem.ClaimJoined
import GoSem.ClaimMapViews
import Derived.JoinedTies
import Derived.KernelRfl
namespace Go.Proofs.YtpldpgdjdplbgaaDoor
/- THE CELL 'sum', in the pinned program and in every row, IS THE sha256 OF THE DUMP (.gsa) THAT YtpldpgdjdplbgaaDoorProg.lean LOADS. Nothing in Lean hashes anything: it is a label: what it is worth is what the hold of that sum in a sandbox is worth. -/
noncomputable def Tryd.pinned : Pinned := { name := "ytpldpgdjdplbgaadoor", sum := "c78c2016e1f39465557168f98e898835e73ea23d1dfe96ed20f1bc47a3d1b63b", checked := Tryd.checked }
namespace Rows
def none {H : Type} : Left H := { results := [], args := [] }

/- WHAT THE LISTED PACKAGE-LEVEL VARIABLES READ AS WHEN THE CALL BEGINS. Each datum BY PROGRAM (the guide's laid-datum.mjs) off the statement by which the dump's own 'gosem.cut.vars' lays the variable. In a bare row this is a premise. The card (YtpldpgdjdplbgaaDoorCards.lean) ties it to the program's text. -/
def laid_loop_example_grain_impl_digitBytes {H : Type} : DataW H := .agg [.lit (.int .u8 48), .lit (.int .u8 49), .lit (.int .u8 50), .lit (.int .u8 51), .lit (.int .u8 52), .lit (.int .u8 53), .lit (.int .u8 54), .lit (.int .u8 55), .lit (.int .u8 56), .lit (.int .u8 57), .lit (.int .u8 97), .lit (.int .u8 98), .lit (.int .u8 99), .lit (.int .u8 100), .lit (.int .u8 101), .lit (.int .u8 102), .lit (.int .u8 103), .lit (.int .u8 104), .lit (.int .u8 105), .lit (.int .u8 106), .lit (.int .u8 107), .lit (.int .u8 108), .lit (.int .u8 109), .lit (.int .u8 110), .lit (.int .u8 111), .lit (.int .u8 112), .lit (.int .u8 113), .lit (.int .u8 114), .lit (.int .u8 115), .lit (.int .u8 116), .lit (.int .u8 117), .lit (.int .u8 118), .lit (.int .u8 119), .lit (.int .u8 120), .lit (.int .u8 121), .lit (.int .u8 122)]

/-- 'laws.FnInts': WHATEVER THE INPUT: true; the input reads as it did. -/
def fnIntsSpec : ChangeSpec := { name := "fnInts", vars := ["loop.example/grain/impl.digitBytes"], fn := fun _ => fun
  | [d1, d2, g1] => { results := [.lit (.bool true)], args := [d1, d2], vars := [g1] }
  | _ => none }
def fnIntsRow : OpenClaim := { program := "ytpldpgdjdplbgaadoor", sum := "c78c2016e1f39465557168f98e898835e73ea23d1dfe96ed20f1bc47a3d1b63b", func := "loop.example/grain/laws.FnInts", spec := "fnInts", named := ["loop.example/grain/impl.digitBytes"], apart := false, laid := [("loop.example/grain/impl.digitBytes", laid_loop_example_grain_impl_digitBytes)] }
def FnIntsSaid : Prop := fnIntsRow.holds Tryd.pinned (OpenSpec.ofChange fnIntsSpec)

/-- ITS FALSE NEIGHBOUR: 'it returns false'. Refute it at one input. -/
def fnIntsWrong : ChangeSpec := { name := "fnInts", vars := ["loop.example/grain/impl.digitBytes"], fn := fun _ => fun
  | [d1, d2, g1] => { results := [.lit (.bool false)], args := [d1, d2], vars := [g1] }
  | _ => none }
def FnIntsWrongFalsely : Prop := fnIntsRow.holds Tryd.pinned (OpenSpec.ofChange fnIntsWrong)

/-- 'laws.FnExactWriteInt': WHATEVER THE INPUT: true; the input reads as it did. -/
def fnExactWriteIntSpec : ChangeSpec := { name := "fnExactWriteInt", vars := ["loop.example/grain/impl.digitBytes"], fn := fun _ => fun
  | [d1, d2, g1] => { results := [.lit (.bool true)], args := [d1, d2], vars := [g1] }
  | _ => none }
def fnExactWriteIntRow : OpenClaim := { program := "ytpldpgdjdplbgaadoor", sum := "c78c2016e1f39465557168f98e898835e73ea23d1dfe96ed20f1bc47a3d1b63b", func := "loop.example/grain/laws.FnExactWriteInt", spec := "fnExactWriteInt", named := ["loop.example/grain/impl.digitBytes"], apart := false, laid := [("loop.example/grain/impl.digitBytes", laid_loop_example_grain_impl_digitBytes)] }
def FnExactWriteIntSaid : Prop := fnExactWriteIntRow.holds Tryd.pinned (OpenSpec.ofChange fnExactWriteIntSpec)

/-- ITS FALSE NEIGHBOUR: 'it returns false'. Refute it at one input. -/
def fnExactWriteIntWrong : ChangeSpec := { name := "fnExactWriteInt", vars := ["loop.example/grain/impl.digitBytes"], fn := fun _ => fun
  | [d1, d2, g1] => { results := [.lit (.bool false)], args := [d1, d2], vars := [g1] }
  | _ => none }
def FnExactWriteIntWrongFalsely : Prop := fnExactWriteIntRow.holds Tryd.pinned (OpenSpec.ofChange fnExactWriteIntWrong)

/-- 'laws.FnExactWriteBits': WHATEVER THE INPUT: true; the input reads as it did. -/
def fnExactWriteBitsSpec : ChangeSpec := { name := "fnExactWriteBits", vars := ["loop.example/grain/impl.digitBytes"], fn := fun _ => fun
  | [d1, d2, g1] => { results := [.lit (.bool true)], args := [d1, d2], vars := [g1] }
  | _ => none }
def fnExactWriteBitsRow : OpenClaim := { program := "ytpldpgdjdplbgaadoor", sum := "c78c2016e1f39465557168f98e898835e73ea23d1dfe96ed20f1bc47a3d1b63b", func := "loop.example/grain/laws.FnExactWriteBits", spec := "fnExactWriteBits", named := ["loop.example/grain/impl.digitBytes"], apart := false, laid := [("loop.example/grain/impl.digitBytes", laid_loop_example_grain_impl_digitBytes)] }
def FnExactWriteBitsSaid : Prop := fnExactWriteBitsRow.holds Tryd.pinned (OpenSpec.ofChange fnExactWriteBitsSpec)

/-- ITS FALSE NEIGHBOUR: 'it returns false'. Refute it at one input. -/
def fnExactWriteBitsWrong : ChangeSpec := { name := "fnExactWriteBits", vars := ["loop.example/grain/impl.digitBytes"], fn := fun _ => fun
  | [d1, d2, g1] => { results := [.lit (.bool false)], args := [d1, d2], vars := [g1] }
  | _ => none }
def FnExactWriteBitsWrongFalsely : Prop := fnExactWriteBitsRow.holds Tryd.pinned (OpenSpec.ofChange fnExactWriteBitsWrong)

/- THE SECOND FORM. 'bulk': how many values and letters a reading holds, each counted each time it is reached (what is shared counts as often as it is met; a slice's spare places count too). A statement '..UptoSaid' is the law's where the arguments, and the package variables that the reading takes, are together of bulk at most 1048576: NARROWER than '..Said'. Prove '..Said' where nothing that the law and all that it calls make is longer than what came in: it says more and counts as full. Else prove '..UptoSaid'. A law counts once. -/
mutual
def uptoBulk {H : Type} : DataW H → Nat
  | .lit (.string bytes) => bytes.length + 1
  | .lit _ => 1
  | .nil => 1
  | .ptr d => uptoBulk d + 1
  | .slice elems spare => uptoBulkAll elems + uptoBulkAll spare + 1
  | .agg parts => uptoBulkAll parts + 1
  | .iface _ d => uptoBulk d + 1
  | .map entries => uptoBulkEntries entries + 1
  | .held _ => 1
def uptoBulkAll {H : Type} : List (DataW H) → Nat
  | [] => 0
  | d :: r => uptoBulk d + uptoBulkAll r
def uptoBulkEntries {H : Type} : List (Lit × DataW H) → Nat
  | [] => 0
  | x :: r => uptoBulkEntry x + uptoBulkEntries r
def uptoBulkEntry {H : Type} : Lit × DataW H → Nat
  | (.string bytes, d) => bytes.length + uptoBulk d + 1
  | (_, d) => uptoBulk d + 1
 end
def uptoSmall : (H : Type) → List (DataW H) → Bool := fun _ ds => decide (uptoBulkAll ds ≤ 1048576)
def OpenSpec.upto (s : _root_.Go.ChangeSpec) : _root_.Go.OpenSpec := { _root_.Go.OpenSpec.ofChange s with cond := some uptoSmall }

/-- 'laws.FnInts', WHERE WHAT IT READS IS OF BULK AT MOST 1048576: true; the input reads as it did. -/
def fnIntsUptoRow : OpenClaim := { program := "ytpldpgdjdplbgaadoor", sum := "c78c2016e1f39465557168f98e898835e73ea23d1dfe96ed20f1bc47a3d1b63b", func := "loop.example/grain/laws.FnInts", spec := "fnInts", named := ["loop.example/grain/impl.digitBytes"], apart := false, laid := [("loop.example/grain/impl.digitBytes", laid_loop_example_grain_impl_digitBytes)], narrowed := true }
def FnIntsUptoSaid : Prop := fnIntsUptoRow.holds Tryd.pinned (OpenSpec.upto fnIntsSpec)

/-- 'laws.FnExactWriteInt', WHERE WHAT IT READS IS OF BULK AT MOST 1048576: true; the input reads as it did. -/
def fnExactWriteIntUptoRow : OpenClaim := { program := "ytpldpgdjdplbgaadoor", sum := "c78c2016e1f39465557168f98e898835e73ea23d1dfe96ed20f1bc47a3d1b63b", func := "loop.example/grain/laws.FnExactWriteInt", spec := "fnExactWriteInt", named := ["loop.example/grain/impl.digitBytes"], apart := false, laid := [("loop.example/grain/impl.digitBytes", laid_loop_example_grain_impl_digitBytes)], narrowed := true }
def FnExactWriteIntUptoSaid : Prop := fnExactWriteIntUptoRow.holds Tryd.pinned (OpenSpec.upto fnExactWriteIntSpec)

/-- 'laws.FnExactWriteBits', WHERE WHAT IT READS IS OF BULK AT MOST 1048576: true; the input reads as it did. -/
def fnExactWriteBitsUptoRow : OpenClaim := { program := "ytpldpgdjdplbgaadoor", sum := "c78c2016e1f39465557168f98e898835e73ea23d1dfe96ed20f1bc47a3d1b63b", func := "loop.example/grain/laws.FnExactWriteBits", spec := "fnExactWriteBits", named := ["loop.example/grain/impl.digitBytes"], apart := false, laid := [("loop.example/grain/impl.digitBytes", laid_loop_example_grain_impl_digitBytes)], narrowed := true }
def FnExactWriteBitsUptoSaid : Prop := fnExactWriteBitsUptoRow.holds Tryd.pinned (OpenSpec.upto fnExactWriteBitsSpec)

end Rows
end Go.Proofs.YtpldpgdjdplbgaaDoor
