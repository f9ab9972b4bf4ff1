import Derived.Test.YthbancphegnpdaaTxC
import Derived.Deep.RegionHeld3
namespace Go.Proofs.Ythbancphegnpdaa
set_option linter.unusedVariables false
set_option linter.unusedSimpArgs false
open Go.RowKit Go.Maps

/-- a row of texts: the text at a place -/
theorem lit_text (W : World) (l : List ByteArray) (arr : Array Value) (t : TypeId) (ha : arr = (l.map Value.string).toArray) (q : Nat) (hq : q < l.length) :
    (W.alloc (.cells arr t)).cell? ⟨W.heap.size, q, none⟩ = some (.string (l.getD q ByteArray.empty)) := by
  subst ha
  have hrow := World.rowIs_alloc W (l.map Value.string).toArray t (fun i => .string (l.getD i ByteArray.empty)) (by
    intro i hi
    simp at hi
    simp [List.getElem?_eq_getElem hi])
  exact hrow.cell (i := q) (by simpa using hq)
theorem getD_small {l : List ByteArray} {k : Nat} (h : ∀ t ∈ l, t.size ≤ k) (q : Nat) : (l.getD q ByteArray.empty).size ≤ k := by
  by_cases hq : q < l.length
  · rw [List.getD_eq_getElem?_getD, List.getElem?_eq_getElem hq]; exact h _ (List.getElem_mem _)
  · rw [List.getD_eq_getElem?_getD, List.getElem?_eq_none (by omega)]; exact Nat.zero_le _
end Go.Proofs.Ythbancphegnpdaa
