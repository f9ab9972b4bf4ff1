import Derived.Test.YtidcfcjmjgcfkaaSpecAtoms
namespace Go.Proofs.Ytidcfcjmjgcfkaa
open Go.RowKit

theorem eachB_iff (n : Nat) (g : Nat → Nat → Bool) : eachB n g = true ↔ ∀ a, a < n → ∀ c, c < n → a ≠ c → g a c = true := by
  unfold eachB; rw [decide_eq_true_eq]

theorem eachB_no (n : Nat) (g : Nat → Nat → Bool) (a c : Nat) (ha : a < n) (hc : c < n) (hac : a ≠ c) (h : g a c = false) : eachB n g = false := by
  cases e : eachB n g with
  | false => rfl
  | true => rw [(eachB_iff n g).1 e a ha c hc hac] at h; cases h

theorem told_of (n : Nat) (f : Nat → Int) (hw : worldB n f = true) (h : ∀ a, a < n → ∀ c, c < a → (ainI n f a == ainI n f c) = false) : toldB n f = true := by
  unfold toldB; rw [hw, Bool.true_and, eachB_iff]
  intro a ha c hc hac
  rw [bne_iff_ne]
  rcases Nat.lt_or_gt_of_ne hac with hlt | hlt
  · exact fun e => beq_eq_false_iff_ne.1 (h c hc a hlt) e.symm
  · exact beq_eq_false_iff_ne.1 (h a ha c hlt)

theorem told_no (n : Nat) (f : Nat → Int) (a c : Nat) (ha : a < n) (hc : c < a) (h : (ainI n f a == ainI n f c) = true) : toldB n f = false := by
  unfold toldB
  rw [eachB_no n _ a c ha (by omega) (by omega) (by rw [bne_eq_false_iff_eq]; exact beq_iff_eq.1 h), Bool.and_false]

/-- what the model asks of two things -/
def madeS (n : Nat) (f : Nat → Int) (a c : Nat) : Bool := (bits .or .i64 (ainI n f a) (ainI n f c) == ainI n f c) != hasB (f c) a

theorem or_within (x y : Int) (hy : I64 y) : (bits .or .i64 x y == y) = withinB x y := by
  rw [Bool.eq_iff_iff, beq_iff_eq]
  show orI x y = y ↔ _
  rw [orI_comm, or_eq_iff y x hy, within_iff]

theorem within_self (x : Int) : withinB x x = true := (within_iff x x).2 (fun _ _ h => h)

theorem ainI_I64 (n : Nat) (f : Nat → Int) (a : Nat) : I64 (ainI n f a) := andI_I64 _ _

theorem made_eq (n : Nat) (f : Nat → Int) (a c : Nat) : madeS n f a c = !madeC n f a c := by
  unfold madeS madeC
  rw [or_within _ _ (ainI_I64 n f c)]
  cases hasB (f c) a <;> cases withinB (ainI n f a) (ainI n f c) <;> rfl

theorem made_of (n : Nat) (f : Nat → Int) (hw : worldB n f = true) (h : ∀ a, a < n → ∀ c, c < n → madeS n f a c = false) : madeB n f = true := by
  unfold madeB; rw [hw, Bool.true_and, eachB_iff]
  intro a ha c hc hac
  have := h a ha c hc
  rw [made_eq] at this
  simpa using this

theorem made_no (n : Nat) (f : Nat → Int) (h64 : ∀ i, i < n → I64 (f i)) (hw : worldB n f = true) (a c : Nat) (ha : a < n) (hc : c < n) (h : madeS n f a c = true) : madeB n f = false := by
  have h2 : madeC n f a c = false := by rw [made_eq] at h; simpa using h
  have hac : a ≠ c := by
    intro e; subst e
    unfold madeC at h2
    rw [((worldB_iff n f h64).1 hw).self a ha, within_self] at h2
    cases h2
  unfold madeB
  rw [eachB_no n _ a c ha hc hac h2, Bool.and_false]

end Go.Proofs.Ytidcfcjmjgcfkaa
