import Derived.Test.YtamiidgpglepcaaGreatDoorClass
namespace Go.Proofs.YtamiidgpglepcaaGreatDoor
open Go.RowKit

theorem cls_world {N : Nat} (h : N = 1 ∨ N = 3 ∨ N = 7) : worldB N (clsF N) = true := by
  rcases h with rfl | rfl | rfl
  · kernel_rfl
  · kernel_rfl
  · kernel_rfl
theorem cls_strong {N : Nat} (h : N = 1 ∨ N = 3 ∨ N = 7) : strongB N (clsF N) = true := by
  rcases h with rfl | rfl | rfl
  · kernel_rfl
  · kernel_rfl
  · kernel_rfl
theorem cls_summed {N : Nat} (h : N = 1 ∨ N = 3 ∨ N = 7) : summedB N (clsF N) = true := by
  rcases h with rfl | rfl | rfl
  · kernel_rfl
  · kernel_rfl
  · kernel_rfl
theorem cls_class {N : Nat} (h : N = 1 ∨ N = 3 ∨ N = 7) : classB N (clsF N) = true := by unfold classB; rw [cls_strong h, cls_summed h]; rfl
theorem cls_atoms1 : atomsI 1 (clsF 1) = 1 := by kernel_rfl
theorem cls_atoms3 : atomsI 3 (clsF 3) = 3 := by kernel_rfl
theorem cls_atoms7 : atomsI 7 (clsF 7) = 11 := by kernel_rfl
end Go.Proofs.YtamiidgpglepcaaGreatDoor
