/-
  DERIVED. GIVEN WITH THE SEED: THE CARDS: each row of YtapiifeklimncaaDoorRows.lean that lists a variable, with what it lists TIED to the program's text (the seventh form; the later family's looks); each row that meets fmt, with fmt's text TOLD by the authors' own Lean function (tested against real Go, not proved from fmt's source: count such statements apart). THE CARD IS WHAT COUNTS. Prove the row's statement (the work); the ties are given (YtapiifeklimncaaDoorTie.lean); close each card by the builder's one call (the guide's Derived/Test/ToyasCard.lean, 'card_holds'). Laid BY PROGRAM, IN A SANDBOX (cutbox-door.mjs). By AI agents, Wed Nov 11 2026. No macro, syntax, notation, axiom, sorry.
-/
import Derived.Test.YtapiifeklimncaaDoorRows
import GoSem.ClaimSeven
namespace Go.Proofs.YtapiifeklimncaaDoor
namespace Rows

/-- THE TIED CARD OF 'laws.FnExactReadFlt'. -/
def fnExactReadFltCard : Claim7 := { stood := { row := fnExactReadFltRow, standIns := [], harness := (true, "fae0e5102913a08dbadf85abce43d5a894ba129a129c1a4ff586c114e860fcbe"), looks := true }, kinds := [], alts := [], laidByText := true, laidKinds := [.handle], laidTests := true, laidLooks := .later }
def FnExactReadFltCardSaid : Prop := Claim7.holds Tryd.pinned (.plain (OpenSpec.ofChange fnExactReadFltSpec)) fnExactReadFltCard

/-- THE SECOND FORM's CARD OF 'laws.FnExactReadFlt'. -/
def fnExactReadFltUptoCard : Claim7 := { stood := { row := fnExactReadFltUptoRow, standIns := [], harness := (true, "fae0e5102913a08dbadf85abce43d5a894ba129a129c1a4ff586c114e860fcbe"), looks := true }, kinds := [], alts := [], laidByText := true, laidKinds := [.handle], laidTests := true, laidLooks := .later }
def FnExactReadFltUptoCardSaid : Prop := Claim7.holds Tryd.pinned (.plain (OpenSpec.upto fnExactReadFltSpec)) fnExactReadFltUptoCard
end Rows
end Go.Proofs.YtapiifeklimncaaDoor
