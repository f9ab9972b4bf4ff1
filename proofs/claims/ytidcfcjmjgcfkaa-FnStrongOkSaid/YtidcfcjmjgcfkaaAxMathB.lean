import Derived.Test.YtidcfcjmjgcfkaaAxMathA
import Derived.Test.YtidcfcjmjgcfkaaSpecAxB
import Derived.Test.YtidcfcjmjgcfkaaAtomsMath
namespace Go.Proofs.Ytidcfcjmjgcfkaa
open Go.RowKit

theorem pps_bit {n : Nat} {f : Nat → Int} (hP : WorldP n f) (a i : Nat) (hi : i < n) : hasB (ppsI f a) i = (hasB (f a) i && !decide (a = i)) := by
  have h7 := hP.hi
  unfold ppsI
  rw [andNot_bit _ _ _ (by omega), hasB_pow]

theorem weak_company {n : Nat} {f : Nat → Int} (h64 : ∀ i, i < n → I64 (f i)) (h : weakB n f = true) : companyB n f = true := by
  obtain ⟨hP, hs⟩ := (weak_iff h64).1 h
  refine companyB_of (weak_world h) (fun a ha b hb hab => ?_)
  cases hg : companyG f a b with
  | true => rfl
  | false =>
    exfalso
    unfold companyG at hg
    rw [Bool.or_eq_false_iff] at hg
    have h3 : neHas (f a) b a = true := by have := hg.1; simpa using this
    unfold neHas at h3
    rw [Bool.and_eq_true] at h3
    have h4 : ppsI f a = 2 ^ b := by have := hg.2; simpa using this
    obtain ⟨c, hc, h5, h6⟩ := (apB_iff f a b n).1 (hs a ha b hb hab h3.2)
    by_cases hca : c = a
    · subst hca
      exact apart_not hP h6 hb h3.2 (hP.self b hb)
    · have h7 : hasB (ppsI f a) c = true := by rw [pps_bit hP a c hc, h5, decide_eq_false (fun e => hca e.symm)]; rfl
      rw [h4, hasB_pow, decide_eq_true_eq] at h7
      subst h7
      exact apart_not hP h6 hb (hP.self b hb) (hP.self b hb)

theorem atom_only {f : Nat → Int} {c i : Nat} (h : atomB f c = true) (hi : hasB (f c) i = true) : i = c := by
  unfold atomB at h
  rw [beq_iff_eq] at h
  rw [h, hasB_pow, decide_eq_true_eq] at hi
  exact hi.symm

theorem strong_made {n : Nat} {f : Nat → Int} (h64 : ∀ i, i < n → I64 (f i)) : strongB n f = madeB n f := by
  rw [Bool.eq_iff_iff, strong_iff h64]
  unfold madeB
  rw [Bool.and_eq_true, worldB_iff n f h64, each_iff]
  constructor
  · rintro ⟨hP, h⟩
    have h7 := hP.hi
    refine ⟨hP, fun a ha b hb hab => ?_⟩
    unfold madeC
    cases hh : hasB (f b) a with
    | true => rw [ain_mono hP ha hb hh]; rfl
    | false =>
      cases hw : withinB (ainI n f a) (ainI n f b) with
      | false => rfl
      | true =>
        exfalso
        obtain ⟨c, hc, h1, h2⟩ := (apB_iff f a b n).1 (h a ha b hb hab hh)
        obtain ⟨x, hx, h3, h4⟩ := has_atom hP (f c).toNat c hc (Nat.le_refl _)
        have h5 : hasB (f a) x = true := hP.trans a ha c hc h1 x h3
        have h6 := (within_iff _ _).1 hw x (by omega) (ain_yes h7 hx h5 h4)
        exact apart_not hP h2 hx h3 (ain_of (by omega) h6).2.1
  · rintro ⟨hP, h⟩
    have h7 := hP.hi
    refine ⟨hP, fun a ha b hb hab hh => ?_⟩
    have hm := h a ha b hb hab
    unfold madeC at hm
    rw [hh] at hm
    have hw : withinB (ainI n f a) (ainI n f b) = false := by
      cases e : withinB (ainI n f a) (ainI n f b) with
      | false => rfl
      | true => rw [e] at hm; cases hm
    apply Classical.byContradiction
    intro hn
    have : withinB (ainI n f a) (ainI n f b) = true := by
      rw [within_iff]
      intro i hi hx
      obtain ⟨h1, h2, h3⟩ := ain_of hi hx
      apply Classical.byContradiction; intro hy
      apply hn
      refine (apB_iff f a b n).2 ⟨i, h1, h2, ?_⟩
      rw [and_zero_iff]
      intro j hj hij
      have hji := atom_only h3 hij
      subst hji
      cases e : hasB (f b) j with
      | false => rfl
      | true => exact absurd (ain_yes h7 h1 e h3) hy
    rw [this] at hw; cases hw

theorem strong_extended {n : Nat} {f : Nat → Int} (h64 : ∀ i, i < n → I64 (f i)) (h : strongB n f = true) : extendedB n f = true := by
  obtain ⟨hP, hs⟩ := (strong_iff h64).1 h
  have h7 := hP.hi
  have key : ∀ a, a < n → ∀ b, b < n → a ≠ b → atomB f a = false → ppsI f a = ppsI f b → hasB (f b) a = false → False := by
    intro a ha b hb hab hat hpp hh
    obtain ⟨c, hc, h1, h2⟩ := (apB_iff f a b n).1 (hs a ha b hb hab hh)
    by_cases hca : c = a
    · subst hca
      apply Bool.false_ne_true
      rw [← hat, atom_iff hP ha]
      intro x hx hxc
      cases e : hasB (f c) x with
      | false => rfl
      | true =>
        exfalso
        have h3 : hasB (ppsI f c) x = true := by rw [pps_bit hP c x hx, e, decide_eq_false (fun e => hxc e.symm)]; rfl
        rw [hpp, pps_bit hP b x hx, Bool.and_eq_true] at h3
        exact apart_not hP h2 hx e h3.1
    · have h3 : hasB (ppsI f a) c = true := by rw [pps_bit hP a c hc, h1, decide_eq_false (fun e => hca e.symm)]; rfl
      rw [hpp, pps_bit hP b c hc, Bool.and_eq_true] at h3
      exact apart_not hP h2 hc (hP.self c hc) h3.1
  have key2 : ∀ a, a < n → ∀ b, b < n → a ≠ b → atomB f a = false → ppsI f a = ppsI f b → False := by
    intro a ha b hb hab hat hpp
    cases hh : hasB (f b) a with
    | false => exact key a ha b hb hab hat hpp hh
    | true =>
      have h3 : hasB (ppsI f b) a = true := by rw [pps_bit hP b a ha, hh, decide_eq_false (fun e => hab e.symm)]; rfl
      rw [← hpp, pps_bit hP a a ha, Bool.and_eq_true, decide_eq_true rfl] at h3
      exact absurd h3.2 (by decide)
  refine extendedB_of (strong_world h) hP (fun a ha c hc => ?_)
  unfold extendedG
  cases hat : atomB f a with
  | true => rfl
  | false =>
    rw [Bool.false_or, bne_iff_ne]
    exact fun e => key2 a ha c (by omega) (by omega) hat e
end Go.Proofs.Ytidcfcjmjgcfkaa
