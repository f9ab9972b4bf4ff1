/-
  DERIVED. GIVEN WITH THE SEED: THE CARDS: each row of YtbhdeidnifilfaaDoorRows.lean that lists a variable, with what it lists TIED to the program's text (the seventh form; the later family's looks); each row that meets fmt, with fmt's text TOLD by the authors' own Lean function (tested against real Go, not proved from fmt's source: count such statements apart). THE CARD IS WHAT COUNTS. Prove the row's statement (the work); the ties are given (YtbhdeidnifilfaaDoorTie.lean); close each card by the builder's one call (the guide's Derived/Test/ToyasCard.lean, 'card_holds'). Laid BY PROGRAM, IN A SANDBOX (cutbox-door.mjs). By AI agents, Wed Nov 11 2026. No macro, syntax, notation, axiom, sorry.
-/
import Derived.Test.YtbhdeidnifilfaaDoorRows
import GoSem.ClaimSeven
namespace Go.Proofs.YtbhdeidnifilfaaDoor
namespace Rows

/-- THE TIED CARD OF 'laws.FnLeastBound'. -/
def fnLeastBoundCard : Claim7 := { stood := { row := fnLeastBoundRow, standIns := [], harness := (true, "6c1f81b2cba0d1b8e88fa3133a81ffd37515852aad49197b91d57a2d1a0fd7d9"), looks := false }, kinds := [], alts := [], laidByText := true, laidKinds := [.data, .data], laidTests := true, laidLooks := .later }
def FnLeastBoundCardSaid : Prop := Claim7.holds Tryd.pinned (.plain (OpenSpec.ofChange fnLeastBoundSpec)) fnLeastBoundCard

/-- THE TIED CARD OF 'laws.FnExactLeastBound'. -/
def fnExactLeastBoundCard : Claim7 := { stood := { row := fnExactLeastBoundRow, standIns := [], harness := (true, "6c1f81b2cba0d1b8e88fa3133a81ffd37515852aad49197b91d57a2d1a0fd7d9"), looks := false }, kinds := [], alts := [], laidByText := true, laidKinds := [.data, .data], laidTests := true, laidLooks := .later }
def FnExactLeastBoundCardSaid : Prop := Claim7.holds Tryd.pinned (.plain (OpenSpec.ofChange fnExactLeastBoundSpec)) fnExactLeastBoundCard

/-- THE SECOND FORM's CARD OF 'laws.FnLeastBound'. -/
def fnLeastBoundUptoCard : Claim7 := { stood := { row := fnLeastBoundUptoRow, standIns := [], harness := (true, "6c1f81b2cba0d1b8e88fa3133a81ffd37515852aad49197b91d57a2d1a0fd7d9"), looks := false }, kinds := [], alts := [], laidByText := true, laidKinds := [.data, .data], laidTests := true, laidLooks := .later }
def FnLeastBoundUptoCardSaid : Prop := Claim7.holds Tryd.pinned (.plain (OpenSpec.upto fnLeastBoundSpec)) fnLeastBoundUptoCard

/-- THE SECOND FORM's CARD OF 'laws.FnExactLeastBound'. -/
def fnExactLeastBoundUptoCard : Claim7 := { stood := { row := fnExactLeastBoundUptoRow, standIns := [], harness := (true, "6c1f81b2cba0d1b8e88fa3133a81ffd37515852aad49197b91d57a2d1a0fd7d9"), looks := false }, kinds := [], alts := [], laidByText := true, laidKinds := [.data, .data], laidTests := true, laidLooks := .later }
def FnExactLeastBoundUptoCardSaid : Prop := Claim7.holds Tryd.pinned (.plain (OpenSpec.upto fnExactLeastBoundSpec)) fnExactLeastBoundUptoCard
end Rows
end Go.Proofs.YtbhdeidnifilfaaDoor
