import Derived.Test.YtidcfcjmjgcfkaaDoorThose
namespace Go.Proofs.YtidcfcjmjgcfkaaDoor
open Go.RowKit

theorem partB_self (n : Nat) (f : Nat → Int) (x : Int) (h64 : ∀ i, i < n → I64 (f i)) : partB n f x x = good1 n f x := by
  rw [Bool.eq_iff_iff, good1_iff]
  unfold partB
  rw [Bool.and_eq_true, good2_iff]
  constructor
  · rintro ⟨⟨h1, h2, _⟩, _⟩; exact ⟨h1, h2⟩
  · rintro ⟨h1, h2, h3⟩
    exact ⟨⟨h1, ⟨h2, h3⟩, h2, h3⟩, ((worldB_iff n f h64).1 h1).self x.toNat (by omega)⟩

end Go.Proofs.YtidcfcjmjgcfkaaDoor
