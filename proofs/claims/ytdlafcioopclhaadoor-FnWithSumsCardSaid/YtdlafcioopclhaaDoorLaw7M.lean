import Derived.Test.YtdlafcioopclhaaDoorFamW
import Derived.Test.YtdlafcioopclhaaDoorFamU
import Derived.Test.YtdlafcioopclhaaDoorLawR
namespace Go.Proofs.YtdlafcioopclhaaDoor
open Go.RowKit

theorem GivesB.row {F : Nat → Int} {n : Nat} {b : Bool} {w w' : World} {e : Ending} (h : GivesB (rowL F n) b w e w') (hn : 1 ≤ n) :
    ∃ g cap, e = .returned (.tuple #[.slice (some ⟨g, 0, none⟩) n cap, .bool b]) ∧ w.heap.size ≤ g ∧ g < w'.heap.size ∧ n ≤ cap ∧ cap ≤ 9223372036854775807 ∧ Row w' g 0 n F ∧ Below w.heap.size w w' := by
  obtain ⟨v, rfl, h1, h2⟩ := h
  obtain ⟨g, cap, rfl, h3, h4, h5, h6, h7, _⟩ := h1.shape (by rw [rowL_len]; exact hn)
  rw [rowL_len] at h5 ⊢
  exact ⟨g, cap, rfl, h3, h4, h5, h6, row_of_list h7, h2⟩
theorem GivesB.none {b : Bool} {w w' : World} {e : Ending} (h : GivesB [] b w e w') : ∃ (a : Option Addr) (cap : Nat), e = .returned (.tuple #[.slice a 0 cap, .bool b]) ∧ Below w.heap.size w w' := by
  obtain ⟨v, rfl, h1, h2⟩ := h
  obtain ⟨a, cap, rfl⟩ := h1.slice
  exact ⟨a, cap, rfl, h2⟩
theorem row_same {w : World} {b o n : Nat} {F G : Nat → Int} (h : Row w b o n F) (e : ∀ i, i < n → F i = G i) : Row w b o n G := fun i hi => by rw [← e i hi]; exact h i hi
theorem row_less {w : World} {b o n k : Nat} {F : Nat → Int} (h : Row w b o n F) (hk : k ≤ n) : Row w b o k F := fun i hi => h i (by omega)
theorem wf_list {n : Nat} {f : Nat → Int} (h : FamP n f) : wfL n f = rowL (wfF n f) n := by unfold wfL; rw [if_pos (famOk_iff.2 h)]
theorem no_room {n : Nat} {f : Nat → Int} {F : Nat → Bool} (h : roomB n f F = false) : doneL n f F = [] := by unfold doneL; rw [if_neg (by rw [h]; decide)]
theorem ptB_lit {x : Nat} : ptB x = true ↔ x = 1 ∨ x = 2 ∨ x = 4 ∨ x = 8 := by
  unfold ptB; simp only [Bool.or_eq_true, beq_iff_eq, or_assoc]
end Go.Proofs.YtdlafcioopclhaaDoor
