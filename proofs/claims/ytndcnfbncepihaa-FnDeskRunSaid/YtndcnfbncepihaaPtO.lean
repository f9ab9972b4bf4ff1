import Derived.Test.YtndcnfbncepihaaBaseA
namespace Go.Proofs.Ytndcnfbncepihaa
set_option linter.unusedVariables false
set_option linter.unusedSimpArgs false
open Go.RowKit Go.Maps

/-- a set of one point or more -/
def okX (x : Int) : Bool := decide (1 ≤ x ∧ x ≤ 15)
theorem okX_iff {x : Int} : okX x = true ↔ 1 ≤ x ∧ x ≤ 15 := by unfold okX; rw [decide_eq_true_eq]
theorem okX_no {x : Int} : okX x = false ↔ ¬ (1 ≤ x ∧ x ≤ 15) := by unfold okX; rw [decide_eq_false_iff_not]
theorem pointsOk_val (x : Int) (v : Bool) (hv : okX x = v) (w : World) :
    Calls Try.prog 76 #[.int .i64 x] w fun e w' => e = .returned (.bool v) ∧ w = w' := by
  cases v with
  | true =>
    have h := okX_iff.1 hv
    have h1 : decide (1 ≤ x) = true := decide_eq_true h.1
    have h2 : decide (x < 16) = true := decide_eq_true (by omega)
    clear hv
    go_enter Try.func76, Try.ntmps76
    go_wp2_with fail
    go_ret
    exact ⟨rfl, rfl⟩
  | false =>
    have h := okX_no.1 hv
    by_cases h1 : 1 ≤ x
    · have h2 : decide (x < 16) = false := decide_eq_false (by omega)
      clear hv h
      have h1 : decide (1 ≤ x) = true := decide_eq_true h1
      go_enter Try.func76, Try.ntmps76
      go_wp2_with fail
      go_ret
      exact ⟨rfl, rfl⟩
    · have h3 : decide (1 ≤ x) = false := decide_eq_false h1
      clear hv h
      go_enter Try.func76, Try.ntmps76
      go_wp2_with fail
      go_ret
      exact ⟨rfl, rfl⟩
set_option maxHeartbeats 400000 in
theorem hasInt_any (x : Int) (a : Nat) (v : Bool) (ha : a ≤ 63) (w : World) (hv : hasB x a = v) :
    Calls Try.prog 96 #[.int .i64 x, .int .i64 a] w fun e w' => e = .returned (.bool v) ∧ w = w' := by
  subst hv
  go_enter Try.func96, Try.ntmps96
  go_wp2
  go_ret
  exact ⟨retb (has_eq x a), rfl⟩
end Go.Proofs.Ytndcnfbncepihaa
