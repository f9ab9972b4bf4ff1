/-
  DERIVED. GIVEN WITH THE SEED: THE CARDS: each row of YtamiidgpglepcaaDoorRows.lean that lists a variable, with what it lists TIED to the program's text (the seventh form; the later family's looks); each row that meets fmt, with fmt's text TOLD by the authors' own Lean function (tested against real Go, not proved from fmt's source: count such statements apart). THE CARD IS WHAT COUNTS. Prove the row's statement (the work); the ties are given (YtamiidgpglepcaaDoorTie.lean); close each card by the builder's one call (the guide's Derived/Test/ToyasCard.lean, 'card_holds'). Laid BY PROGRAM, IN A SANDBOX (cutbox-door.mjs). By AI agents, Wed Nov 11 2026. No macro, syntax, notation, axiom, sorry.
-/
import Derived.Test.YtamiidgpglepcaaDoorRows
import GoSem.ClaimSeven
namespace Go.Proofs.YtamiidgpglepcaaDoor
namespace Rows

/-- THE TIED CARD OF 'laws.FnClassicalOf'. -/
def fnClassicalOfCard : Claim7 := { stood := { row := fnClassicalOfRow, standIns := [], harness := (true, "b68137355c0546628e91e5a605d74ccca482461a56f1fa98decf1cd549b9368c"), looks := false }, kinds := [], alts := [], laidByText := true, laidKinds := [.data, .data], laidTests := true, laidLooks := .later }
def FnClassicalOfCardSaid : Prop := Claim7.holds Tryd.pinned (.plain (OpenSpec.ofChange fnClassicalOfSpec)) fnClassicalOfCard

/-- THE TIED CARD OF 'laws.FnThingOf'. -/
def fnThingOfCard : Claim7 := { stood := { row := fnThingOfRow, standIns := [], harness := (true, "b68137355c0546628e91e5a605d74ccca482461a56f1fa98decf1cd549b9368c"), looks := false }, kinds := [], alts := [], laidByText := true, laidKinds := [.data, .data], laidTests := true, laidLooks := .later }
def FnThingOfCardSaid : Prop := Claim7.holds Tryd.pinned (.plain (OpenSpec.ofChange fnThingOfSpec)) fnThingOfCard

/-- THE TIED CARD OF 'laws.FnExactThingOf'. -/
def fnExactThingOfCard : Claim7 := { stood := { row := fnExactThingOfRow, standIns := [], harness := (true, "b68137355c0546628e91e5a605d74ccca482461a56f1fa98decf1cd549b9368c"), looks := false }, kinds := [], alts := [], laidByText := true, laidKinds := [.data, .data], laidTests := true, laidLooks := .later }
def FnExactThingOfCardSaid : Prop := Claim7.holds Tryd.pinned (.plain (OpenSpec.ofChange fnExactThingOfSpec)) fnExactThingOfCard

/-- THE SECOND FORM's CARD OF 'laws.FnClassicalOf'. -/
def fnClassicalOfUptoCard : Claim7 := { stood := { row := fnClassicalOfUptoRow, standIns := [], harness := (true, "b68137355c0546628e91e5a605d74ccca482461a56f1fa98decf1cd549b9368c"), looks := false }, kinds := [], alts := [], laidByText := true, laidKinds := [.data, .data], laidTests := true, laidLooks := .later }
def FnClassicalOfUptoCardSaid : Prop := Claim7.holds Tryd.pinned (.plain (OpenSpec.upto fnClassicalOfSpec)) fnClassicalOfUptoCard

/-- THE SECOND FORM's CARD OF 'laws.FnThingOf'. -/
def fnThingOfUptoCard : Claim7 := { stood := { row := fnThingOfUptoRow, standIns := [], harness := (true, "b68137355c0546628e91e5a605d74ccca482461a56f1fa98decf1cd549b9368c"), looks := false }, kinds := [], alts := [], laidByText := true, laidKinds := [.data, .data], laidTests := true, laidLooks := .later }
def FnThingOfUptoCardSaid : Prop := Claim7.holds Tryd.pinned (.plain (OpenSpec.upto fnThingOfSpec)) fnThingOfUptoCard

/-- THE SECOND FORM's CARD OF 'laws.FnExactThingOf'. -/
def fnExactThingOfUptoCard : Claim7 := { stood := { row := fnExactThingOfUptoRow, standIns := [], harness := (true, "b68137355c0546628e91e5a605d74ccca482461a56f1fa98decf1cd549b9368c"), looks := false }, kinds := [], alts := [], laidByText := true, laidKinds := [.data, .data], laidTests := true, laidLooks := .later }
def FnExactThingOfUptoCardSaid : Prop := Claim7.holds Tryd.pinned (.plain (OpenSpec.upto fnExactThingOfSpec)) fnExactThingOfUptoCard
end Rows
end Go.Proofs.YtamiidgpglepcaaDoor
