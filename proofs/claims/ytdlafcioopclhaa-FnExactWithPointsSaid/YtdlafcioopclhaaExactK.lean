import Derived.Test.YtdlafcioopclhaaHeldX
import Derived.Test.YtdlafcioopclhaaClassS
namespace Go.Proofs.Ytdlafcioopclhaa
open Go.RowKit Go.Maps

theorem clsL_I64 (x : Int) : (clsL x).length ≤ 1000 ∧ ∀ y ∈ clsL x, I64 y := by
  unfold clsL
  split
  · exact ⟨by rw [rowL_len]; omega, rowL_mem (P := I64) (fun i _ => clsF_I64 _ _)⟩
  · split
    · exact ⟨by rw [rowL_len]; omega, rowL_mem (P := I64) (fun i _ => clsF_I64 _ _)⟩
    · split
      · exact ⟨by rw [rowL_len]; omega, rowL_mem (P := I64) (fun i _ => clsF_I64 _ _)⟩
      · exact ⟨by simp, by simp⟩

theorem namesL_I64 {n : Nat} {f : Nat → Int} (h64 : ∀ i, i < n → I64 (f i)) : (namesL n f).length ≤ 1000 ∧ ∀ y ∈ namesL n f, I64 y := by
  unfold namesL
  split
  · next hc =>
    have h7 := (worldB_7 (class_world hc)).2
    exact ⟨by rw [rowL_len]; omega, rowL_mem (P := I64) (fun i hi => by
      obtain ⟨z, h1, h2⟩ := name_lt h64 hc hi
      rw [h2]; unfold I64; omega)⟩
  · exact ⟨by simp, by simp⟩

end Go.Proofs.Ytdlafcioopclhaa
