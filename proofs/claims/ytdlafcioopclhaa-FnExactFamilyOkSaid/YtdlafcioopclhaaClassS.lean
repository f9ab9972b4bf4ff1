import Derived.Test.YtdlafcioopclhaaClassN
namespace Go.Proofs.Ytdlafcioopclhaa
open Go.RowKit Go.Maps

theorem specAtomsOf_at (a : Option Addr) (n cap : Nat) (f : Nat → Int) (w : World) (hw : worldB n f = true) (hi : Ints w a n f) :
    Calls Try.prog 54 #[.slice a n cap] w fun e w' => e = .returned (.int .i64 (atomsI n f)) ∧ Drew w w' := by
  have := specAtomsOf_any a n cap f w hi
  rwa [show atomsB n f = atomsI n f by unfold atomsB; rw [if_pos hw]] at this

end Go.Proofs.Ytdlafcioopclhaa
