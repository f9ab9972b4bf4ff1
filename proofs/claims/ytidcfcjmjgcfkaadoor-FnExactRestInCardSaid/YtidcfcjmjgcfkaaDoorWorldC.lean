import Derived.Test.YtidcfcjmjgcfkaaDoorSpecWorld
namespace Go.Proofs.YtidcfcjmjgcfkaaDoor
open Go.RowKit

/-- n things, f: the set of parts of each -/
structure WorldP (n : Nat) (f : Nat → Int) : Prop where
  lo : 1 ≤ n
  hi : n ≤ 7
  rng : ∀ a, a < n → 0 ≤ f a ∧ f a < 2 ^ n
  self : ∀ a, a < n → hasB (f a) a = true
  anti : ∀ a, a < n → ∀ b, b < n → a ≠ b → hasB (f a) b = true → hasB (f b) a = false
  trans : ∀ a, a < n → ∀ b, b < n → hasB (f a) b = true → ∀ i, hasB (f b) i = true → hasB (f a) i = true

theorem hasB_lt {n : Nat} {x : Int} (h : 0 ≤ x ∧ x < 2 ^ n) {i : Nat} (hi : hasB x i = true) : i < n := by
  apply Classical.byContradiction; intro hni
  rw [hasB_big x n h.1 h.2 i (by omega)] at hi; cases hi

theorem okB_iff (n : Nat) (f : Nat → Int) (h7 : n ≤ 7) (h1 : 1 ≤ n) (h64 : ∀ i, i < n → I64 (f i)) : okB n f = true ↔ WorldP n f := by
  unfold okB numB selfB orderB popB
  simp only [Bool.and_eq_true, decide_eq_true_eq]
  constructor
  · rintro ⟨⟨⟨hn, hs⟩, ho⟩, hp⟩
    have hr : ∀ a, a < n → 0 ≤ f a ∧ f a < 2 ^ n := fun a ha => by
      have := (within_low (f a) n (by omega) (h64 a ha)).1 (hn a ha); omega
    refine ⟨h1, h7, hr, hs, ?_, ?_⟩
    · intro a ha b hb hab hba
      rcases Nat.lt_or_gt_of_ne hab with h | h
      · have := ho b hb a h; rw [hba] at this; simpa using this
      · have := ho a ha b h; rw [hba] at this; simpa using this
    · intro a ha b hb hba i hi
      exact (within_iff _ _).1 (hp a ha b hb hba) i (by have := hasB_lt (hr b hb) hi; omega) hi
  · intro h
    refine ⟨⟨⟨?_, h.self⟩, ?_⟩, ?_⟩
    · intro a ha
      exact (within_low (f a) n (by omega) (h64 a ha)).2 (by have := h.rng a ha; omega)
    · intro b hb a hab
      cases c : hasB (f b) a with
      | false => rfl
      | true => rw [h.anti b hb a (by omega) (by omega) c]; rfl
    · intro b hb a ha hba
      exact (within_iff _ _).2 (fun i _ hi => h.trans b hb a ha hba i hi)

theorem spec_iff (n : Nat) (f : Nat → Int) (h7 : n ≤ 7) (h1 : 1 ≤ n) (h64 : ∀ i, i < n → I64 (f i)) : (rngB n f && ordB n f) = true ↔ WorldP n f := by
  unfold rngB ordB
  simp only [Bool.and_eq_true, decide_eq_true_eq]
  constructor
  · rintro ⟨hn, ho⟩
    have hr : ∀ a, a < n → 0 ≤ f a ∧ f a < 2 ^ n := fun a ha => by
      have := (hn a ha).1; unfold inB at this; simp at this; omega
    refine ⟨h1, h7, hr, fun a ha => (hn a ha).2, ?_, ?_⟩
    · intro a ha b hb hab hba
      exact (ho a ha b hb hba).2 hab
    · intro a ha b hb hba i hi
      exact (or_eq_iff _ _ (h64 a ha)).1 (ho a ha b hb hba).1 i (by have := hasB_lt (hr b hb) hi; omega) hi
  · intro h
    refine ⟨?_, ?_⟩
    · intro a ha
      refine ⟨?_, h.self a ha⟩
      have := h.rng a ha; unfold inB; simp; omega
    · intro a ha b hb hba
      exact ⟨(or_eq_iff _ _ (h64 a ha)).2 (fun i _ hi => h.trans a ha b hb hba i hi), fun hab => h.anti a ha b hb hab hba⟩

theorem spec_eq (n : Nat) (f : Nat → Int) (h7 : n ≤ 7) (h1 : 1 ≤ n) (h64 : ∀ i, i < n → I64 (f i)) : (rngB n f && ordB n f) = worldB n f := by
  have e : worldB n f = okB n f := by unfold worldB; rw [decide_eq_true h1, decide_eq_true h7]; rfl
  rw [e, Bool.eq_iff_iff, spec_iff n f h7 h1 h64, okB_iff n f h7 h1 h64]

theorem worldB_iff (n : Nat) (f : Nat → Int) (h64 : ∀ i, i < n → I64 (f i)) : worldB n f = true ↔ WorldP n f := by
  unfold worldB
  constructor
  · intro h
    simp only [Bool.and_eq_true, decide_eq_true_eq] at h
    exact (okB_iff n f h.1.2 h.1.1 h64).1 h.2
  · intro h
    rw [decide_eq_true h.lo, decide_eq_true h.hi, (okB_iff n f h.hi h.lo h64).2 h]; rfl

theorem specWorldOk_any (a : Option Addr) (n cap : Nat) (f : Nat → Int) (w : World) (hi : Ints w a n f) :
    Calls Tryd.prog 23 #[.slice a n cap] w fun e w' => e = .returned (.bool (worldB n f)) ∧ Drew w w' := by
  obtain ⟨⟨hm, h64⟩, hi⟩ := hi
  by_cases h : n < 1 ∨ 7 < n
  · refine (specWorldOk_no a n cap h hm w).mono ?_
    rintro e w' ⟨rfl, rfl⟩
    refine ⟨?_, Drew.refl _⟩
    unfold worldB
    rcases h with h | h
    · rw [decide_eq_false (show ¬ 1 ≤ n by omega)]; rfl
    · rw [decide_eq_false (show ¬ n ≤ 7 by omega)]; simp
  · have h1 : 1 ≤ n := by omega
    have h7 : n ≤ 7 := by omega
    rcases hi with hi | ⟨b, o, rfl, hlt, hr⟩
    · omega
    · rw [← spec_eq n f h7 h1 h64]
      exact specWorldOk_in b o n cap f h1 h7 h64 w hr
end Go.Proofs.YtidcfcjmjgcfkaaDoor
