import Derived.Test.YtbhdeidnifilfaaDoorSumsJ
namespace Go.Proofs.YtbhdeidnifilfaaDoor
open Go.RowKit

theorem sums_zero {n : Nat} {f : Nat → Int} {s : Int} (h7 : n ≤ 7) : (sumsI n f s == 0) = !hasSumB n f s := by
  cases h : hasSumB n f s with
  | true =>
    obtain ⟨a, ha, hg⟩ : ∃ a, a < n ∧ sumG n f s a = true := by unfold hasSumB at h; exact of_decide_eq_true h
    rw [beq_eq_false_iff_ne.2]; rfl
    intro e
    have := sums_bit (n := n) (f := f) (s := s) ha h7
    rw [e, hasB_zero, hg] at this; cases this
  | false =>
    rw [beq_iff_eq.2]; rfl
    refine ext64 _ _ (setOf_I64 _ _) I64_zero (fun i hi => ?_)
    unfold sumsI; rw [hasB_zero, setOf_bit _ _ _ hi]
    by_cases hin : i < n
    · rw [decide_eq_true hin, Bool.true_and]
      cases e : sumG n f s i with
      | false => rfl
      | true => unfold hasSumB at h; exact absurd ⟨i, hin, e⟩ (of_decide_eq_false h)
    · rw [decide_eq_false hin]; rfl

theorem set_at {n : Nat} {f : Nat → Int} {k : Nat} (hw : worldB n f = true) (h1 : 1 ≤ k) (hk : k < 2 ^ n) : setB n f k = true := by
  have e2 : ((2 ^ n : Nat) : Int) = 2 ^ n := by simp
  exact setB_iff.2 ⟨hw, by omega, by omega⟩

end Go.Proofs.YtbhdeidnifilfaaDoor
