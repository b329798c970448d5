/-
  DERIVED. GIVEN WITH THE SEED: THE CARDS: each row of YtpmccbkhkaoccaaGreatDoorRows.lean that lists a variable, with what it lists TIED to the program's text (the seventh form; the later family's looks); each row that meets fmt, with fmt's text TOLD by the authors' own Lean function (tested against real Go, not proved from fmt's source: count such statements apart). THE CARD IS WHAT COUNTS. Prove the row's statement (the work); the ties are given (YtpmccbkhkaoccaaGreatDoorTie.lean); close each card by the builder's one call (the guide's Derived/Test/ToyasCard.lean, 'card_holds'). Laid BY PROGRAM, IN A SANDBOX (cutbox-door.mjs). By AI agents, Wed Nov 11 2026. No macro, syntax, notation, axiom, sorry.
-/
import Derived.Test.YtpmccbkhkaoccaaGreatDoorRows
import GoSem.ClaimSeven
namespace Go.Proofs.YtpmccbkhkaoccaaGreatDoor
namespace Rows

/-- THE TIED CARD OF 'laws.FnTop'. -/
def fnTopCard : Claim7 := { stood := { row := fnTopRow, standIns := [], harness := (true, "9f58bd1f8a720a8e3b4338fb87f61287717ac18b555667befc966aa1c2f5c6b9"), looks := true }, kinds := [], alts := [], laidByText := true, laidKinds := [.data, .data, .handle, .data, .pinned], laidTests := true, laidLooks := .later }
def FnTopCardSaid : Prop := Claim7.holds Tryz.pinned (.plain (OpenSpec.ofChange fnTopSpec)) fnTopCard

/-- THE TIED CARD OF 'laws.FnFewest'. -/
def fnFewestCard : Claim7 := { stood := { row := fnFewestRow, standIns := [], harness := (true, "9f58bd1f8a720a8e3b4338fb87f61287717ac18b555667befc966aa1c2f5c6b9"), looks := true }, kinds := [], alts := [], laidByText := true, laidKinds := [.data, .data, .handle, .data, .pinned], laidTests := true, laidLooks := .later }
def FnFewestCardSaid : Prop := Claim7.holds Tryz.pinned (.plain (OpenSpec.ofChange fnFewestSpec)) fnFewestCard

/-- THE TIED CARD OF 'laws.FnRounded'. -/
def fnRoundedCard : Claim7 := { stood := { row := fnRoundedRow, standIns := [], harness := (true, "9f58bd1f8a720a8e3b4338fb87f61287717ac18b555667befc966aa1c2f5c6b9"), looks := true }, kinds := [], alts := [], laidByText := true, laidKinds := [.data, .data, .handle, .data, .pinned], laidTests := true, laidLooks := .later }
def FnRoundedCardSaid : Prop := Claim7.holds Tryz.pinned (.plain (OpenSpec.ofChange fnRoundedSpec)) fnRoundedCard

/-- THE TIED CARD OF 'laws.FnExactShortest'. -/
def fnExactShortestCard : Claim7 := { stood := { row := fnExactShortestRow, standIns := [], harness := (true, "9f58bd1f8a720a8e3b4338fb87f61287717ac18b555667befc966aa1c2f5c6b9"), looks := true }, kinds := [], alts := [], laidByText := true, laidKinds := [.data, .data, .handle, .data, .pinned], laidTests := true, laidLooks := .later }
def FnExactShortestCardSaid : Prop := Claim7.holds Tryz.pinned (.plain (OpenSpec.ofChange fnExactShortestSpec)) fnExactShortestCard

/-- THE SECOND FORM's CARD OF 'laws.FnTop'. -/
def fnTopUptoCard : Claim7 := { stood := { row := fnTopUptoRow, standIns := [], harness := (true, "9f58bd1f8a720a8e3b4338fb87f61287717ac18b555667befc966aa1c2f5c6b9"), looks := true }, kinds := [], alts := [], laidByText := true, laidKinds := [.data, .data, .handle, .data, .pinned], laidTests := true, laidLooks := .later }
def FnTopUptoCardSaid : Prop := Claim7.holds Tryz.pinned (.plain (OpenSpec.upto fnTopSpec)) fnTopUptoCard

/-- THE SECOND FORM's CARD OF 'laws.FnFewest'. -/
def fnFewestUptoCard : Claim7 := { stood := { row := fnFewestUptoRow, standIns := [], harness := (true, "9f58bd1f8a720a8e3b4338fb87f61287717ac18b555667befc966aa1c2f5c6b9"), looks := true }, kinds := [], alts := [], laidByText := true, laidKinds := [.data, .data, .handle, .data, .pinned], laidTests := true, laidLooks := .later }
def FnFewestUptoCardSaid : Prop := Claim7.holds Tryz.pinned (.plain (OpenSpec.upto fnFewestSpec)) fnFewestUptoCard

/-- THE SECOND FORM's CARD OF 'laws.FnRounded'. -/
def fnRoundedUptoCard : Claim7 := { stood := { row := fnRoundedUptoRow, standIns := [], harness := (true, "9f58bd1f8a720a8e3b4338fb87f61287717ac18b555667befc966aa1c2f5c6b9"), looks := true }, kinds := [], alts := [], laidByText := true, laidKinds := [.data, .data, .handle, .data, .pinned], laidTests := true, laidLooks := .later }
def FnRoundedUptoCardSaid : Prop := Claim7.holds Tryz.pinned (.plain (OpenSpec.upto fnRoundedSpec)) fnRoundedUptoCard

/-- THE SECOND FORM's CARD OF 'laws.FnExactShortest'. -/
def fnExactShortestUptoCard : Claim7 := { stood := { row := fnExactShortestUptoRow, standIns := [], harness := (true, "9f58bd1f8a720a8e3b4338fb87f61287717ac18b555667befc966aa1c2f5c6b9"), looks := true }, kinds := [], alts := [], laidByText := true, laidKinds := [.data, .data, .handle, .data, .pinned], laidTests := true, laidLooks := .later }
def FnExactShortestUptoCardSaid : Prop := Claim7.holds Tryz.pinned (.plain (OpenSpec.upto fnExactShortestSpec)) fnExactShortestUptoCard
end Rows
end Go.Proofs.YtpmccbkhkaoccaaGreatDoor
