/-
  DERIVED. GIVEN WITH THE SEED: THE CARDS: each row of YtamiidgpglepcaaGreatDoorRows.lean that lists a variable, with what it lists TIED to the program's text (the seventh form; the later family's looks); each row that meets fmt, with fmt's text TOLD by the authors' own Lean function (tested against real Go, not proved from fmt's source: count such statements apart). THE CARD IS WHAT COUNTS. Prove the row's statement (the work); the ties are given (YtamiidgpglepcaaGreatDoorTie.lean); close each card by the builder's one call (the guide's Derived/Test/ToyasCard.lean, 'card_holds'). Laid BY PROGRAM, IN A SANDBOX (cutbox-door.mjs). By AI agents, Wed Nov 11 2026. No macro, syntax, notation, axiom, sorry.
-/
import Derived.Test.YtamiidgpglepcaaGreatDoorRows
import GoSem.ClaimSeven
namespace Go.Proofs.YtamiidgpglepcaaGreatDoor
namespace Rows

/-- THE TIED CARD OF 'laws.FnClassicalOk'. -/
def fnClassicalOkCard : Claim7 := { stood := { row := fnClassicalOkRow, standIns := [], harness := (true, "fcdecadf8a70ff899af49ac454d720daef9a24dbbbd971b3b8755b0b75f106fc"), looks := false }, kinds := [], alts := [], laidByText := true, laidKinds := [.data, .data], laidTests := true, laidLooks := .later }
def FnClassicalOkCardSaid : Prop := Claim7.holds Tryz.pinned (.plain (OpenSpec.ofChange fnClassicalOkSpec)) fnClassicalOkCard

/-- THE SECOND FORM's CARD OF 'laws.FnClassicalOk'. -/
def fnClassicalOkUptoCard : Claim7 := { stood := { row := fnClassicalOkUptoRow, standIns := [], harness := (true, "fcdecadf8a70ff899af49ac454d720daef9a24dbbbd971b3b8755b0b75f106fc"), looks := false }, kinds := [], alts := [], laidByText := true, laidKinds := [.data, .data], laidTests := true, laidLooks := .later }
def FnClassicalOkUptoCardSaid : Prop := Claim7.holds Tryz.pinned (.plain (OpenSpec.upto fnClassicalOkSpec)) fnClassicalOkUptoCard
end Rows
end Go.Proofs.YtamiidgpglepcaaGreatDoor
