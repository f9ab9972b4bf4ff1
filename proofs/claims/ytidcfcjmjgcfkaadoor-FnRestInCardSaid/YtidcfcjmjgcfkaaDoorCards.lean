/-
  DERIVED. GIVEN WITH THE SEED: THE CARDS: each row of YtidcfcjmjgcfkaaDoorRows.lean that lists a variable, with what it lists TIED to the program's text (the seventh form; the later family's looks); each row that meets fmt, with fmt's text TOLD by the authors' own Lean function (tested against real Go, not proved from fmt's source: count such statements apart). THE CARD IS WHAT COUNTS. Prove the row's statement (the work); the ties are given (YtidcfcjmjgcfkaaDoorTie.lean); close each card by the builder's one call (the guide's Derived/Test/ToyasCard.lean, 'card_holds'). Laid BY PROGRAM, IN A SANDBOX (cutbox-door.mjs). By AI agents, Wed Nov 11 2026. No macro, syntax, notation, axiom, sorry.
-/
import Derived.Test.YtidcfcjmjgcfkaaDoorRows
import GoSem.ClaimSeven
namespace Go.Proofs.YtidcfcjmjgcfkaaDoor
namespace Rows

/-- THE TIED CARD OF 'laws.FnWeakOk'. -/
def fnWeakOkCard : Claim7 := { stood := { row := fnWeakOkRow, standIns := [], harness := (true, "996ca9aeecc18026ec3a8a1828ea7392545a2c22c4498d2e00fb523528216758"), looks := false }, kinds := [], alts := [], laidByText := true, laidKinds := [.data, .data], laidTests := true, laidLooks := .later }
def FnWeakOkCardSaid : Prop := Claim7.holds Tryd.pinned (.plain (OpenSpec.ofChange fnWeakOkSpec)) fnWeakOkCard

/-- THE TIED CARD OF 'laws.FnRestIn'. -/
def fnRestInCard : Claim7 := { stood := { row := fnRestInRow, standIns := [], harness := (true, "996ca9aeecc18026ec3a8a1828ea7392545a2c22c4498d2e00fb523528216758"), looks := false }, kinds := [], alts := [], laidByText := true, laidKinds := [.data, .data], laidTests := true, laidLooks := .later }
def FnRestInCardSaid : Prop := Claim7.holds Tryd.pinned (.plain (OpenSpec.ofChange fnRestInSpec)) fnRestInCard

/-- THE TIED CARD OF 'laws.FnExactRestIn'. -/
def fnExactRestInCard : Claim7 := { stood := { row := fnExactRestInRow, standIns := [], harness := (true, "996ca9aeecc18026ec3a8a1828ea7392545a2c22c4498d2e00fb523528216758"), looks := false }, kinds := [], alts := [], laidByText := true, laidKinds := [.data, .data], laidTests := true, laidLooks := .later }
def FnExactRestInCardSaid : Prop := Claim7.holds Tryd.pinned (.plain (OpenSpec.ofChange fnExactRestInSpec)) fnExactRestInCard

/-- THE SECOND FORM's CARD OF 'laws.FnWeakOk'. -/
def fnWeakOkUptoCard : Claim7 := { stood := { row := fnWeakOkUptoRow, standIns := [], harness := (true, "996ca9aeecc18026ec3a8a1828ea7392545a2c22c4498d2e00fb523528216758"), looks := false }, kinds := [], alts := [], laidByText := true, laidKinds := [.data, .data], laidTests := true, laidLooks := .later }
def FnWeakOkUptoCardSaid : Prop := Claim7.holds Tryd.pinned (.plain (OpenSpec.upto fnWeakOkSpec)) fnWeakOkUptoCard

/-- THE SECOND FORM's CARD OF 'laws.FnRestIn'. -/
def fnRestInUptoCard : Claim7 := { stood := { row := fnRestInUptoRow, standIns := [], harness := (true, "996ca9aeecc18026ec3a8a1828ea7392545a2c22c4498d2e00fb523528216758"), looks := false }, kinds := [], alts := [], laidByText := true, laidKinds := [.data, .data], laidTests := true, laidLooks := .later }
def FnRestInUptoCardSaid : Prop := Claim7.holds Tryd.pinned (.plain (OpenSpec.upto fnRestInSpec)) fnRestInUptoCard

/-- THE SECOND FORM's CARD OF 'laws.FnExactRestIn'. -/
def fnExactRestInUptoCard : Claim7 := { stood := { row := fnExactRestInUptoRow, standIns := [], harness := (true, "996ca9aeecc18026ec3a8a1828ea7392545a2c22c4498d2e00fb523528216758"), looks := false }, kinds := [], alts := [], laidByText := true, laidKinds := [.data, .data], laidTests := true, laidLooks := .later }
def FnExactRestInUptoCardSaid : Prop := Claim7.holds Tryd.pinned (.plain (OpenSpec.upto fnExactRestInSpec)) fnExactRestInUptoCard
end Rows
end Go.Proofs.YtidcfcjmjgcfkaaDoor
