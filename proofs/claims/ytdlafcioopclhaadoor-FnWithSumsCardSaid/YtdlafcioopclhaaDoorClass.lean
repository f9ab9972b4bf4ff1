import Derived.Test.YtdlafcioopclhaaDoorClassM
import Derived.Test.YtdlafcioopclhaaDoorOwnX
import Derived.Maps.AppendAt
import Derived.Maps.Own
import Derived.Maps.OwnOps
namespace Go.Proofs.YtdlafcioopclhaaDoor
open Go.RowKit Go.Maps

theorem subs_full1 : subsL 1 2 = rowL (fun i => (i : Int) + 1) 1 := by kernel_rfl
theorem subs_full3 : subsL 3 4 = rowL (fun i => (i : Int) + 1) 3 := by kernel_rfl
theorem subs_full7 : subsL 7 8 = rowL (fun i => (i : Int) + 1) 7 := by kernel_rfl
theorem subs_full {N : Nat} (h : N = 1 ∨ N = 3 ∨ N = 7) : subsL N (N + 1) = rowL (fun i => (i : Int) + 1) N := by
  rcases h with rfl | rfl | rfl
  · exact subs_full1
  · exact subs_full3
  · exact subs_full7

/-- the world of all sets of so many atoms -/
def clsL (x : Int) : List Int := if x = 1 then rowL (clsF 1) 1 else if x = 2 then rowL (clsF 3) 3 else if x = 3 then rowL (clsF 7) 7 else []
theorem clsL_no {x : Int} (h : ¬ (1 ≤ x ∧ x ≤ 3)) : clsL x = [] := by
  unfold clsL; rw [if_neg (by omega), if_neg (by omega), if_neg (by omega)]
/-- the number of things of a classical world of k atoms -/
def Full (k N : Nat) : Prop := (k = 1 ∧ N = 1) ∨ (k = 2 ∧ N = 3) ∨ (k = 3 ∧ N = 7)
theorem full_of {x : Int} (h : 1 ≤ x ∧ x ≤ 3) : ∃ k N : Nat, x = k ∧ Full k N := by
  rcases (show x = 1 ∨ x = 2 ∨ x = 3 by omega) with rfl | rfl | rfl
  · exact ⟨1, 1, rfl, .inl ⟨rfl, rfl⟩⟩
  · exact ⟨2, 3, rfl, .inr (.inl ⟨rfl, rfl⟩)⟩
  · exact ⟨3, 7, rfl, .inr (.inr ⟨rfl, rfl⟩)⟩
theorem Full.list {k N : Nat} (h : Full k N) : clsL k = rowL (clsF N) N := by
  rcases h with ⟨rfl, rfl⟩ | ⟨rfl, rfl⟩ | ⟨rfl, rfl⟩ <;> rfl
theorem Full.pow {k N : Nat} (h : Full k N) : (2 : Int) ^ k = N + 1 ∧ 1 ≤ k ∧ k ≤ 3 ∧ 1 ≤ N ∧ N ≤ 7 := by
  rcases h with ⟨rfl, rfl⟩ | ⟨rfl, rfl⟩ | ⟨rfl, rfl⟩ <;> (refine ⟨by decide, ?_⟩; omega)
theorem Full.all {k N : Nat} (h : Full k N) : N = 1 ∨ N = 3 ∨ N = 7 := by
  rcases h with ⟨rfl, rfl⟩ | ⟨rfl, rfl⟩ | ⟨rfl, rfl⟩ <;> simp

end Go.Proofs.YtdlafcioopclhaaDoor
