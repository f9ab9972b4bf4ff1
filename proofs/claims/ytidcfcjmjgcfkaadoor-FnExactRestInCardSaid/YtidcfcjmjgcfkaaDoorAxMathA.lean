import Derived.Test.YtidcfcjmjgcfkaaDoorSpecAxA
namespace Go.Proofs.YtidcfcjmjgcfkaaDoor
open Go.RowKit

theorem apB_iff (f : Nat → Int) (a b k : Nat) : apB f a b k = true ↔ ∃ c, c < k ∧ hasB (f a) c = true ∧ andI (f c) (f b) = 0 := by
  unfold apB; rw [decide_eq_true_eq]
  constructor
  · rintro ⟨c, h1, h2, h3⟩; exact ⟨c, h1, h2, beq_iff_eq.1 h3⟩
  · rintro ⟨c, h1, h2, h3⟩; exact ⟨c, h1, h2, beq_iff_eq.2 h3⟩

/-- nothing is a part of both -/
theorem apart_not {n : Nat} {f : Nat → Int} (hP : WorldP n f) {c b i : Nat} (h : andI (f c) (f b) = 0) (hi : i < n) (h1 : hasB (f c) i = true) (h2 : hasB (f b) i = true) : False := by
  have h7 := hP.hi
  have := (and_zero_iff (f c) (f b)).1 h i (by omega) h1
  rw [h2] at this; cases this

theorem strong_iff {n : Nat} {f : Nat → Int} (h64 : ∀ i, i < n → I64 (f i)) : strongB n f = true ↔ WorldP n f ∧ ∀ a, a < n → ∀ b, b < n → a ≠ b → hasB (f b) a = false → apB f a b n = true := by
  unfold strongB
  rw [Bool.and_eq_true, worldB_iff n f h64, each_iff]
  constructor
  · rintro ⟨hP, h⟩
    refine ⟨hP, fun a ha b hb hab hh => ?_⟩
    have := h a ha b hb hab
    unfold strongG at this
    rw [hh, rests_ne hP ha] at this
    simpa using this
  · rintro ⟨hP, h⟩
    refine ⟨hP, fun a ha b hb hab => ?_⟩
    unfold strongG
    cases hh : hasB (f b) a with
    | true => rfl
    | false => rw [rests_ne hP ha, h a ha b hb hab hh]; rfl

theorem weak_iff {n : Nat} {f : Nat → Int} (h64 : ∀ i, i < n → I64 (f i)) : weakB n f = true ↔ WorldP n f ∧ ∀ a, a < n → ∀ b, b < n → a ≠ b → hasB (f a) b = true → apB f a b n = true := by
  unfold weakB
  rw [Bool.and_eq_true, worldB_iff n f h64, each_iff]
  constructor
  · rintro ⟨hP, h⟩
    refine ⟨hP, fun a ha b hb hab hh => ?_⟩
    have := h a ha b hb hab
    unfold weakG neHas at this
    rw [hh, rests_ne hP ha, decide_eq_true (show b ≠ a from fun e => hab e.symm)] at this
    simpa using this
  · rintro ⟨hP, h⟩
    refine ⟨hP, fun a ha b hb hab => ?_⟩
    unfold weakG neHas
    cases hh : hasB (f a) b with
    | false => simp
    | true => rw [rests_ne hP ha, h a ha b hb hab hh]; simp

theorem strong_weak {n : Nat} {f : Nat → Int} (h64 : ∀ i, i < n → I64 (f i)) (h : strongB n f = true) : weakB n f = true := by
  obtain ⟨hP, hs⟩ := (strong_iff h64).1 h
  exact (weak_iff h64).2 ⟨hP, fun a ha b hb hab hh => hs a ha b hb hab (hP.anti a ha b hb hab hh)⟩

theorem strong_world {n : Nat} {f : Nat → Int} (h : strongB n f = true) : worldB n f = true := by
  unfold strongB at h; rw [Bool.and_eq_true] at h; exact h.1
theorem weak_world {n : Nat} {f : Nat → Int} (h : weakB n f = true) : worldB n f = true := by
  unfold weakB at h; rw [Bool.and_eq_true] at h; exact h.1
end Go.Proofs.YtidcfcjmjgcfkaaDoor
