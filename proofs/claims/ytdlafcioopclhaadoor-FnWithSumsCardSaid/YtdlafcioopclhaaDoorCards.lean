/-
  DERIVED. GIVEN WITH THE SEED: THE CARDS: each row of YtdlafcioopclhaaDoorRows.lean that lists a variable, with what it lists TIED to the program's text (the seventh form; the later family's looks); each row that meets fmt, with fmt's text TOLD by the authors' own Lean function (tested against real Go, not proved from fmt's source: count such statements apart). THE CARD IS WHAT COUNTS. Prove the row's statement (the work); the ties are given (YtdlafcioopclhaaDoorTie.lean); close each card by the builder's one call (the guide's Derived/Test/ToyasCard.lean, 'card_holds'). Laid BY PROGRAM, IN A SANDBOX (cutbox-door.mjs). By AI agents, Wed Nov 11 2026. No macro, syntax, notation, axiom, sorry.
-/
import Derived.Test.YtdlafcioopclhaaDoorRows
import GoSem.ClaimSeven
namespace Go.Proofs.YtdlafcioopclhaaDoor
namespace Rows

/-- THE TIED CARD OF 'laws.FnWithSums'. -/
def fnWithSumsCard : Claim7 := { stood := { row := fnWithSumsRow, standIns := [], harness := (true, "c7992e6bfdc354369c0d6e9d1b6a8b4ef00e58aeefcc7e446f19fad5e29675f6"), looks := false }, kinds := [], alts := [], laidByText := true, laidKinds := [.data, .data], laidTests := true, laidLooks := .later }
def FnWithSumsCardSaid : Prop := Claim7.holds Tryd.pinned (.plain (OpenSpec.ofChange fnWithSumsSpec)) fnWithSumsCard

/-- THE SECOND FORM's CARD OF 'laws.FnWithSums'. -/
def fnWithSumsUptoCard : Claim7 := { stood := { row := fnWithSumsUptoRow, standIns := [], harness := (true, "c7992e6bfdc354369c0d6e9d1b6a8b4ef00e58aeefcc7e446f19fad5e29675f6"), looks := false }, kinds := [], alts := [], laidByText := true, laidKinds := [.data, .data], laidTests := true, laidLooks := .later }
def FnWithSumsUptoCardSaid : Prop := Claim7.holds Tryd.pinned (.plain (OpenSpec.upto fnWithSumsSpec)) fnWithSumsUptoCard
end Rows
end Go.Proofs.YtdlafcioopclhaaDoor
