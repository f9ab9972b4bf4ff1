import Derived.Test.YtamiidgpglepcaaGreatDoorTopA
import Derived.Test.YtamiidgpglepcaaGreatDoorClassP
import Derived.Test.YtamiidgpglepcaaGreatDoorDrawT
import Derived.Test.YtamiidgpglepcaaGreatDoorLawC
import Derived.Test.YtamiidgpglepcaaGreatDoorLawR
namespace Go.Proofs.YtamiidgpglepcaaGreatDoor
open Go.RowKit Go.Maps

theorem cls_wholeN {N : Nat} (h : N = 1 ∨ N = 3 ∨ N = 7) : wholeN N (clsF N) = (N - 1 : Nat) ∧ wholeOk N (clsF N) = true := by
  rcases h with rfl | rfl | rfl
  · exact ⟨by kernel_rfl, by kernel_rfl⟩
  · exact ⟨by kernel_rfl, by kernel_rfl⟩
  · exact ⟨by kernel_rfl, by kernel_rfl⟩
theorem cls_at {k N : Nat} (h : Full k N) : atK (atomsI N (clsF N)) N = k := by
  rcases h with ⟨rfl, rfl⟩ | ⟨rfl, rfl⟩ | ⟨rfl, rfl⟩
  · kernel_rfl
  · kernel_rfl
  · kernel_rfl
theorem AtomsOf_at (a : Option Addr) (n cap : Nat) (f : Nat → Int) (w : World) (hw : worldB n f = true) (hi : Ints w a n f) :
    Calls Tryz.prog 8 #[.slice a n cap] w fun e w' => e = .returned (.int .i64 (atomsI n f)) ∧ Below w.heap.size w w' := by
  have := AtomsOf_any a n cap f w hi
  rwa [show atomsB n f = atomsI n f by unfold atomsB; rw [if_pos hw]] at this

end Go.Proofs.YtamiidgpglepcaaGreatDoor
