/-
  DERIVED. GIVEN WITH THE SEED: THE CARDS: each row of YtchdbjmmcbmglaaDoorRows.lean that lists a variable, with what it lists TIED to the program's text (the seventh form; the later family's looks); each row that meets fmt, with fmt's text TOLD by the authors' own Lean function (tested against real Go, not proved from fmt's source: count such statements apart). THE CARD IS WHAT COUNTS. Prove the row's statement (the work); the ties are given (YtchdbjmmcbmglaaDoorTie.lean); close each card by the builder's one call (the guide's Derived/Test/ToyasCard.lean, 'card_holds'). Laid BY PROGRAM, IN A SANDBOX (cutbox-door.mjs). By AI agents, Wed Nov 11 2026. No macro, syntax, notation, axiom, sorry.
-/
import Derived.Test.YtchdbjmmcbmglaaDoorRows
import GoSem.ClaimSeven
namespace Go.Proofs.YtchdbjmmcbmglaaDoor
namespace Rows

/-- THE TIED CARD OF 'laws.FnCommonOf'. -/
def fnCommonOfCard : Claim7 := { stood := { row := fnCommonOfRow, standIns := [], harness := (true, "faa26cee1c231a0a1fe42309fa64b9d917cbcc4cb7445dced10bb2776635c396"), looks := false }, kinds := [], alts := [], laidByText := true, laidKinds := [.data, .data], laidTests := true, laidLooks := .later }
def FnCommonOfCardSaid : Prop := Claim7.holds Tryd.pinned (.plain (OpenSpec.ofChange fnCommonOfSpec)) fnCommonOfCard

/-- THE TIED CARD OF 'laws.FnLeftOf'. -/
def fnLeftOfCard : Claim7 := { stood := { row := fnLeftOfRow, standIns := [], harness := (true, "faa26cee1c231a0a1fe42309fa64b9d917cbcc4cb7445dced10bb2776635c396"), looks := false }, kinds := [], alts := [], laidByText := true, laidKinds := [.data, .data], laidTests := true, laidLooks := .later }
def FnLeftOfCardSaid : Prop := Claim7.holds Tryd.pinned (.plain (OpenSpec.ofChange fnLeftOfSpec)) fnLeftOfCard

/-- THE TIED CARD OF 'laws.FnAgainstOf'. -/
def fnAgainstOfCard : Claim7 := { stood := { row := fnAgainstOfRow, standIns := [], harness := (true, "faa26cee1c231a0a1fe42309fa64b9d917cbcc4cb7445dced10bb2776635c396"), looks := false }, kinds := [], alts := [], laidByText := true, laidKinds := [.data, .data], laidTests := true, laidLooks := .later }
def FnAgainstOfCardSaid : Prop := Claim7.holds Tryd.pinned (.plain (OpenSpec.ofChange fnAgainstOfSpec)) fnAgainstOfCard

/-- THE TIED CARD OF 'laws.FnWholeOf'. -/
def fnWholeOfCard : Claim7 := { stood := { row := fnWholeOfRow, standIns := [], harness := (true, "faa26cee1c231a0a1fe42309fa64b9d917cbcc4cb7445dced10bb2776635c396"), looks := false }, kinds := [], alts := [], laidByText := true, laidKinds := [.data, .data], laidTests := true, laidLooks := .later }
def FnWholeOfCardSaid : Prop := Claim7.holds Tryd.pinned (.plain (OpenSpec.ofChange fnWholeOfSpec)) fnWholeOfCard

/-- THE TIED CARD OF 'laws.FnExactCommonOf'. -/
def fnExactCommonOfCard : Claim7 := { stood := { row := fnExactCommonOfRow, standIns := [], harness := (true, "faa26cee1c231a0a1fe42309fa64b9d917cbcc4cb7445dced10bb2776635c396"), looks := false }, kinds := [], alts := [], laidByText := true, laidKinds := [.data, .data], laidTests := true, laidLooks := .later }
def FnExactCommonOfCardSaid : Prop := Claim7.holds Tryd.pinned (.plain (OpenSpec.ofChange fnExactCommonOfSpec)) fnExactCommonOfCard

/-- THE TIED CARD OF 'laws.FnExactLeftOf'. -/
def fnExactLeftOfCard : Claim7 := { stood := { row := fnExactLeftOfRow, standIns := [], harness := (true, "faa26cee1c231a0a1fe42309fa64b9d917cbcc4cb7445dced10bb2776635c396"), looks := false }, kinds := [], alts := [], laidByText := true, laidKinds := [.data, .data], laidTests := true, laidLooks := .later }
def FnExactLeftOfCardSaid : Prop := Claim7.holds Tryd.pinned (.plain (OpenSpec.ofChange fnExactLeftOfSpec)) fnExactLeftOfCard

/-- THE TIED CARD OF 'laws.FnExactAgainstOf'. -/
def fnExactAgainstOfCard : Claim7 := { stood := { row := fnExactAgainstOfRow, standIns := [], harness := (true, "faa26cee1c231a0a1fe42309fa64b9d917cbcc4cb7445dced10bb2776635c396"), looks := false }, kinds := [], alts := [], laidByText := true, laidKinds := [.data, .data], laidTests := true, laidLooks := .later }
def FnExactAgainstOfCardSaid : Prop := Claim7.holds Tryd.pinned (.plain (OpenSpec.ofChange fnExactAgainstOfSpec)) fnExactAgainstOfCard

/-- THE TIED CARD OF 'laws.FnExactWholeOf'. -/
def fnExactWholeOfCard : Claim7 := { stood := { row := fnExactWholeOfRow, standIns := [], harness := (true, "faa26cee1c231a0a1fe42309fa64b9d917cbcc4cb7445dced10bb2776635c396"), looks := false }, kinds := [], alts := [], laidByText := true, laidKinds := [.data, .data], laidTests := true, laidLooks := .later }
def FnExactWholeOfCardSaid : Prop := Claim7.holds Tryd.pinned (.plain (OpenSpec.ofChange fnExactWholeOfSpec)) fnExactWholeOfCard

/-- THE SECOND FORM's CARD OF 'laws.FnCommonOf'. -/
def fnCommonOfUptoCard : Claim7 := { stood := { row := fnCommonOfUptoRow, standIns := [], harness := (true, "faa26cee1c231a0a1fe42309fa64b9d917cbcc4cb7445dced10bb2776635c396"), looks := false }, kinds := [], alts := [], laidByText := true, laidKinds := [.data, .data], laidTests := true, laidLooks := .later }
def FnCommonOfUptoCardSaid : Prop := Claim7.holds Tryd.pinned (.plain (OpenSpec.upto fnCommonOfSpec)) fnCommonOfUptoCard

/-- THE SECOND FORM's CARD OF 'laws.FnLeftOf'. -/
def fnLeftOfUptoCard : Claim7 := { stood := { row := fnLeftOfUptoRow, standIns := [], harness := (true, "faa26cee1c231a0a1fe42309fa64b9d917cbcc4cb7445dced10bb2776635c396"), looks := false }, kinds := [], alts := [], laidByText := true, laidKinds := [.data, .data], laidTests := true, laidLooks := .later }
def FnLeftOfUptoCardSaid : Prop := Claim7.holds Tryd.pinned (.plain (OpenSpec.upto fnLeftOfSpec)) fnLeftOfUptoCard

/-- THE SECOND FORM's CARD OF 'laws.FnAgainstOf'. -/
def fnAgainstOfUptoCard : Claim7 := { stood := { row := fnAgainstOfUptoRow, standIns := [], harness := (true, "faa26cee1c231a0a1fe42309fa64b9d917cbcc4cb7445dced10bb2776635c396"), looks := false }, kinds := [], alts := [], laidByText := true, laidKinds := [.data, .data], laidTests := true, laidLooks := .later }
def FnAgainstOfUptoCardSaid : Prop := Claim7.holds Tryd.pinned (.plain (OpenSpec.upto fnAgainstOfSpec)) fnAgainstOfUptoCard

/-- THE SECOND FORM's CARD OF 'laws.FnWholeOf'. -/
def fnWholeOfUptoCard : Claim7 := { stood := { row := fnWholeOfUptoRow, standIns := [], harness := (true, "faa26cee1c231a0a1fe42309fa64b9d917cbcc4cb7445dced10bb2776635c396"), looks := false }, kinds := [], alts := [], laidByText := true, laidKinds := [.data, .data], laidTests := true, laidLooks := .later }
def FnWholeOfUptoCardSaid : Prop := Claim7.holds Tryd.pinned (.plain (OpenSpec.upto fnWholeOfSpec)) fnWholeOfUptoCard

/-- THE SECOND FORM's CARD OF 'laws.FnExactCommonOf'. -/
def fnExactCommonOfUptoCard : Claim7 := { stood := { row := fnExactCommonOfUptoRow, standIns := [], harness := (true, "faa26cee1c231a0a1fe42309fa64b9d917cbcc4cb7445dced10bb2776635c396"), looks := false }, kinds := [], alts := [], laidByText := true, laidKinds := [.data, .data], laidTests := true, laidLooks := .later }
def FnExactCommonOfUptoCardSaid : Prop := Claim7.holds Tryd.pinned (.plain (OpenSpec.upto fnExactCommonOfSpec)) fnExactCommonOfUptoCard

/-- THE SECOND FORM's CARD OF 'laws.FnExactLeftOf'. -/
def fnExactLeftOfUptoCard : Claim7 := { stood := { row := fnExactLeftOfUptoRow, standIns := [], harness := (true, "faa26cee1c231a0a1fe42309fa64b9d917cbcc4cb7445dced10bb2776635c396"), looks := false }, kinds := [], alts := [], laidByText := true, laidKinds := [.data, .data], laidTests := true, laidLooks := .later }
def FnExactLeftOfUptoCardSaid : Prop := Claim7.holds Tryd.pinned (.plain (OpenSpec.upto fnExactLeftOfSpec)) fnExactLeftOfUptoCard

/-- THE SECOND FORM's CARD OF 'laws.FnExactAgainstOf'. -/
def fnExactAgainstOfUptoCard : Claim7 := { stood := { row := fnExactAgainstOfUptoRow, standIns := [], harness := (true, "faa26cee1c231a0a1fe42309fa64b9d917cbcc4cb7445dced10bb2776635c396"), looks := false }, kinds := [], alts := [], laidByText := true, laidKinds := [.data, .data], laidTests := true, laidLooks := .later }
def FnExactAgainstOfUptoCardSaid : Prop := Claim7.holds Tryd.pinned (.plain (OpenSpec.upto fnExactAgainstOfSpec)) fnExactAgainstOfUptoCard

/-- THE SECOND FORM's CARD OF 'laws.FnExactWholeOf'. -/
def fnExactWholeOfUptoCard : Claim7 := { stood := { row := fnExactWholeOfUptoRow, standIns := [], harness := (true, "faa26cee1c231a0a1fe42309fa64b9d917cbcc4cb7445dced10bb2776635c396"), looks := false }, kinds := [], alts := [], laidByText := true, laidKinds := [.data, .data], laidTests := true, laidLooks := .later }
def FnExactWholeOfUptoCardSaid : Prop := Claim7.holds Tryd.pinned (.plain (OpenSpec.upto fnExactWholeOfSpec)) fnExactWholeOfUptoCard
end Rows
end Go.Proofs.YtchdbjmmcbmglaaDoor
