import Derived.Test.YthaickihoagnmaaGreatDoorTxOne
import Derived.Deep.RegionHeld3
import Derived.IntWalk
import Derived.Deep.RegionWith
namespace Go.Proofs.YthaickihoagnmaaGreatDoor
set_option linter.unusedVariables false
set_option linter.unusedSimpArgs false
open Go.RowKit Go.Maps

/-- a row of texts: the text at a place -/
theorem lit_text (W : World) (l : List ByteArray) (arr : Array Value) (t : TypeId) (ha : arr = (l.map Value.string).toArray) (q : Nat) (hq : q < l.length) :
    (W.alloc (.cells arr t)).cell? ⟨W.heap.size, q, none⟩ = some (.string (l.getD q ByteArray.empty)) := by
  subst ha
  have hrow := World.rowIs_alloc W (l.map Value.string).toArray t (fun i => .string (l.getD i ByteArray.empty)) (by
    intro i hi
    simp at hi
    simp [List.getElem?_eq_getElem hi])
  exact hrow.cell (i := q) (by simpa using hq)
theorem getD_small {l : List ByteArray} {k : Nat} (h : ∀ t ∈ l, t.size ≤ k) (q : Nat) : (l.getD q ByteArray.empty).size ≤ k := by
  by_cases hq : q < l.length
  · rw [List.getD_eq_getElem?_getD, List.getElem?_eq_getElem hq]; exact h _ (List.getElem_mem _)
  · rw [List.getD_eq_getElem?_getD, List.getElem?_eq_none (by omega)]; exact Nat.zero_le _
end Go.Proofs.YthaickihoagnmaaGreatDoor

namespace Go.Proofs.YthaickihoagnmaaGreatDoor
set_option linter.unusedVariables false
set_option linter.unusedSimpArgs false
open Go.RowKit Go.Maps

def sp4 : List ByteArray := [⟨#[]⟩, ⟨#[97]⟩, ⟨#[100]⟩, ⟨#[101]⟩]
theorem sp4_small : ∀ t ∈ sp4, t.size ≤ 4 := by decide
theorem Rdr.drx {w : World} {rb P : Nat} (h : Rdr w rb P) : Rdr w.drew rb P := h.below ((Below.refl _ _).drew)
theorem only_drx (rb : Nat) (w : World) : Only rb w w.drew := Only.of_below ((Below.refl _ _).drew)

theorem add_a (t : ByteArray) (k : Nat) (ht : t.size ≤ 1000) (tq : ByteArray) (h : tq.size ≤ 4) (W : World) : (Op.stringOp .add (t.extract 0 k) tq).run Tryz.prog W = .ok (.string (t.extract 0 k ++ tq)) W :=
  run_string_add_sum _ _ _ (by rw [ByteArray.size_extract]; omega)
theorem add_b (t : ByteArray) (k : Nat) (ht : t.size ≤ 1000) (tq : ByteArray) (h : tq.size ≤ 4) (W : World) : (Op.stringOp .add (t.extract 0 k ++ tq) (t.extract (k + 1) t.size)).run Tryz.prog W = .ok (.string (t.extract 0 k ++ tq ++ t.extract (k + 1) t.size)) W :=
  run_string_add_sum _ _ _ (by rw [ByteArray.size_append, ByteArray.size_extract, ByteArray.size_extract]; omega)

end Go.Proofs.YthaickihoagnmaaGreatDoor
