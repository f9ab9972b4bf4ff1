import Derived.Test.YtndcnfbncepihaaDkSeven
namespace Go.Proofs.Ytndcnfbncepihaa
set_option linter.unusedVariables false
set_option linter.unusedSimpArgs false
open Go.RowKit Go.Maps

def sp6 : List ByteArray := [⟨#[]⟩, ⟨#[48]⟩, ⟨#[32]⟩, ⟨#[10]⟩, ⟨#[45]⟩, ⟨#[98, 97, 99, 107]⟩]
theorem sp6_small : ∀ t ∈ sp6, t.size ≤ 4 := by decide

end Go.Proofs.Ytndcnfbncepihaa
