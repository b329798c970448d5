/-
  DERIVED. GIVEN WITH THE SEED: THE CARDS: each row of YtpldpgdjdplbgaaDoorRows.lean that lists a variable, with what it lists TIED to the program's text (the seventh form; the later family's looks); each row that meets fmt, with fmt's text TOLD by the authors' own Lean function (tested against real Go, not proved from fmt's source: count such statements apart). THE CARD IS WHAT COUNTS. Prove the row's statement (the work); the ties are given (YtpldpgdjdplbgaaDoorTie.lean); close each card by the builder's one call (the guide's Derived/Test/ToyasCard.lean, 'card_holds'). Laid BY PROGRAM, IN A SANDBOX (cutbox-door.mjs). By AI agents, Wed Nov 11 2026. No macro, syntax, notation, axiom, sorry.
-/
import Derived.Test.YtpldpgdjdplbgaaDoorRows
import GoSem.ClaimSeven
namespace Go.Proofs.YtpldpgdjdplbgaaDoor
namespace Rows

/-- THE TIED CARD OF 'laws.FnInts'. -/
def fnIntsCard : Claim7 := { stood := { row := fnIntsRow, standIns := [], harness := (true, "e9cd1c1e44b7cd4771e3c792b472cbf48f9182d2dee674faaef26d10a1ca3b8c"), looks := false }, kinds := [], alts := [], laidByText := true, laidKinds := [.data], laidTests := true, laidLooks := .later }
def FnIntsCardSaid : Prop := Claim7.holds Tryd.pinned (.plain (OpenSpec.ofChange fnIntsSpec)) fnIntsCard

/-- THE TIED CARD OF 'laws.FnExactWriteInt'. -/
def fnExactWriteIntCard : Claim7 := { stood := { row := fnExactWriteIntRow, standIns := [], harness := (true, "e9cd1c1e44b7cd4771e3c792b472cbf48f9182d2dee674faaef26d10a1ca3b8c"), looks := false }, kinds := [], alts := [], laidByText := true, laidKinds := [.data], laidTests := true, laidLooks := .later }
def FnExactWriteIntCardSaid : Prop := Claim7.holds Tryd.pinned (.plain (OpenSpec.ofChange fnExactWriteIntSpec)) fnExactWriteIntCard

/-- THE TIED CARD OF 'laws.FnExactWriteBits'. -/
def fnExactWriteBitsCard : Claim7 := { stood := { row := fnExactWriteBitsRow, standIns := [], harness := (true, "e9cd1c1e44b7cd4771e3c792b472cbf48f9182d2dee674faaef26d10a1ca3b8c"), looks := false }, kinds := [], alts := [], laidByText := true, laidKinds := [.data], laidTests := true, laidLooks := .later }
def FnExactWriteBitsCardSaid : Prop := Claim7.holds Tryd.pinned (.plain (OpenSpec.ofChange fnExactWriteBitsSpec)) fnExactWriteBitsCard

/-- THE SECOND FORM's CARD OF 'laws.FnInts'. -/
def fnIntsUptoCard : Claim7 := { stood := { row := fnIntsUptoRow, standIns := [], harness := (true, "e9cd1c1e44b7cd4771e3c792b472cbf48f9182d2dee674faaef26d10a1ca3b8c"), looks := false }, kinds := [], alts := [], laidByText := true, laidKinds := [.data], laidTests := true, laidLooks := .later }
def FnIntsUptoCardSaid : Prop := Claim7.holds Tryd.pinned (.plain (OpenSpec.upto fnIntsSpec)) fnIntsUptoCard

/-- THE SECOND FORM's CARD OF 'laws.FnExactWriteInt'. -/
def fnExactWriteIntUptoCard : Claim7 := { stood := { row := fnExactWriteIntUptoRow, standIns := [], harness := (true, "e9cd1c1e44b7cd4771e3c792b472cbf48f9182d2dee674faaef26d10a1ca3b8c"), looks := false }, kinds := [], alts := [], laidByText := true, laidKinds := [.data], laidTests := true, laidLooks := .later }
def FnExactWriteIntUptoCardSaid : Prop := Claim7.holds Tryd.pinned (.plain (OpenSpec.upto fnExactWriteIntSpec)) fnExactWriteIntUptoCard

/-- THE SECOND FORM's CARD OF 'laws.FnExactWriteBits'. -/
def fnExactWriteBitsUptoCard : Claim7 := { stood := { row := fnExactWriteBitsUptoRow, standIns := [], harness := (true, "e9cd1c1e44b7cd4771e3c792b472cbf48f9182d2dee674faaef26d10a1ca3b8c"), looks := false }, kinds := [], alts := [], laidByText := true, laidKinds := [.data], laidTests := true, laidLooks := .later }
def FnExactWriteBitsUptoCardSaid : Prop := Claim7.holds Tryd.pinned (.plain (OpenSpec.upto fnExactWriteBitsSpec)) fnExactWriteBitsUptoCard
end Rows
end Go.Proofs.YtpldpgdjdplbgaaDoor
