import Derived.Test.YtdlafcioopclhaaGreatFamV
namespace Go.Proofs.YtdlafcioopclhaaGreat
open Go.RowKit

/-! ### counted sets -/

theorem cmp_bit {A x : Int} : ∀ {k i : Nat}, k ≤ 64 → i < 64 → (hasB (cmpK A x k) i = true ↔ ∃ j, j < k ∧ hasB A j = true ∧ hasB x j = true ∧ atK A j = i)
  | 0, i, _, _ => by rw [cmpK, hasB_zero]; simp
  | k + 1, i, hk, hi => by
    cases h : (hasB A k && hasB x k) with
    | true =>
      have h' := h
      rw [Bool.and_eq_true] at h'
      rw [cmpK, if_pos h, or_bit _ _ _ hi, Bool.or_eq_true, cmp_bit (by omega) hi, hasB_pow, decide_eq_true_eq]
      constructor
      · rintro (⟨j, h1, h2, h3, h4⟩ | h4)
        · exact ⟨j, by omega, h2, h3, h4⟩
        · exact ⟨k, by omega, h'.1, h'.2, h4⟩
      · rintro ⟨j, h1, h2, h3, h4⟩
        by_cases e : j = k
        · subst e; exact .inr h4
        · exact .inl ⟨j, by omega, h2, h3, h4⟩
    | false =>
      rw [cmpK_no h, cmp_bit (by omega) hi]
      constructor
      · rintro ⟨j, h1, h2, h3, h4⟩; exact ⟨j, by omega, h2, h3, h4⟩
      · rintro ⟨j, h1, h2, h3, h4⟩
        by_cases e : j = k
        · subst e; rw [h2, h3] at h; cases h
        · exact ⟨j, by omega, h2, h3, h4⟩
theorem at_le (A : Int) {j l : Nat} (h : j ≤ l) : atK A j ≤ atK A l := by
  induction l with
  | zero => have : j = 0 := by omega
            subst this; exact Nat.le_refl _
  | succ l ih =>
    by_cases e : j = l + 1
    · rw [e]; exact Nat.le_refl _
    · have := ih (by omega)
      rw [atK]; split <;> omega
theorem at_lt {A : Int} {j l : Nat} (h : j < l) (hj : hasB A j = true) : atK A j < atK A l := by
  have := at_le A (show j + 1 ≤ l by omega)
  rw [atK_yes hj] at this; omega
theorem at_inj {A : Int} {j l : Nat} (hj : hasB A j = true) (hl : hasB A l = true) (h : atK A j = atK A l) : j = l := by
  rcases Nat.lt_trichotomy j l with h1 | h1 | h1
  · have := at_lt h1 hj; omega
  · exact h1
  · have := at_lt h1 hl; omega
theorem cmp_within {A s t : Int} {k : Nat} (hk : k ≤ 64) (hs : ∀ i, i < 64 → hasB s i = true → i < k ∧ hasB A i = true) : withinB (cmpK A s k) (cmpK A t k) = withinB s t := by
  rw [Bool.eq_iff_iff, within_iff, within_iff]
  constructor
  · intro hw j hj hb
    obtain ⟨hjk, hA⟩ := hs j hj hb
    have hat : atK A j < 64 := by have := atK_le A j; omega
    obtain ⟨j', _, h2, h3, h4⟩ := (cmp_bit hk hat).1 (hw _ hat ((cmp_bit hk hat).2 ⟨j, hjk, hA, hb, rfl⟩))
    have := at_inj h2 hA h4
    subst this; exact h3
  · intro hw i hi hb
    obtain ⟨j, h1, h2, h3, h4⟩ := (cmp_bit hk hi).1 hb
    exact (cmp_bit hk hi).2 ⟨j, h1, h2, hw j (by omega) h3, h4⟩

def popAt (X : Nat) : Bool := popc 7 X == atK X 7
theorem pop_all : (List.range 128).all popAt = true := by kernel_rfl
theorem pop_at {X : Nat} (h : X < 128) : popc 7 X = atK X 7 := by
  have := List.all_eq_true.1 pop_all X (List.mem_range.2 h)
  unfold popAt at this
  exact beq_iff_eq.1 this

/-! ### strong worlds as families -/

theorem fof_cmp {n X : Nat} {f : Nat → Int} (h7 : n ≤ 7) (hX : atomsI n f = X) (a : Nat) : fofI n f a = cmpK X (ainI n f a) 7 := by
  have := name_cmp h7 hX a
  unfold nameI at this
  unfold fofI; omega
theorem fof_part {n : Nat} {f : Nat → Int} (h64 : ∀ i, i < n → I64 (f i)) (hs : strongB n f = true) {a b : Nat} (ha : a < n) (hb : b < n) : hasB (f b) a = withinB (fofI n f a) (fofI n f b) := by
  have hP := ((strong_iff h64).1 hs).1
  have h7 := hP.hi
  obtain ⟨X, e, hX2, h128⟩ := atoms_nat (f := f) h7
  rw [fof_cmp h7 e, fof_cmp h7 e, cmp_within (by omega) (fun i hi h => by
    have h1 := (within_iff _ _).1 (ain_within n f a) i hi h
    rw [e] at h1
    refine ⟨?_, h1⟩
    apply Classical.byContradiction; intro hn
    rw [hasB_big (X : Int) 7 (by omega) (by omega) i (by omega)] at h1; cases h1)]
  by_cases hab : a = b
  · subst hab; rw [hP.self a ha, within_self]
  · have hm : madeB n f = true := by rw [← strong_made h64]; exact hs
    unfold madeB at hm
    rw [Bool.and_eq_true, eachB_iff] at hm
    have := hm.2 a ha b hb hab
    unfold madeC at this
    exact beq_iff_eq.1 this
theorem fof_fam {n : Nat} {f : Nat → Int} (h64 : ∀ i, i < n → I64 (f i)) (hb : fofB n f = true) : FamP n (fofI n f) := by
  unfold fofB at hb
  rw [Bool.and_eq_true, decide_eq_true_eq] at hb
  obtain ⟨hs, h4⟩ := hb
  have hP := ((strong_iff h64).1 hs).1
  have h7 := hP.hi
  obtain ⟨X, e, hX2, h128⟩ := atoms_nat (f := f) h7
  have hat : atK X n ≤ 4 := by
    unfold atomsN at h4
    rw [e] at h4
    have := pop_at h128
    rw [at_up hX2 7 h7] at this
    simp at h4; omega
  obtain ⟨hc1, hc2⟩ := cnt_at h7 hX2
  have hp : (2 : Nat) ^ atK X n ≤ 2 ^ 4 := Nat.pow_le_pow_right (by omega) hat
  have hlen : (subsL X (X + 1)).length ≤ 15 := by
    rw [subs_len]
    have : (2 : Nat) ^ 4 = 16 := rfl
    omega
  refine ⟨hP.lo, h7, fun k hk => ?_, fun k hk j hj he => ?_⟩
  · obtain ⟨i, h1, _, h3⟩ := name_at hP e hk
    have : fofI n f k = (i : Int) + 1 := by unfold nameI at h3; unfold fofI; omega
    omega
  · obtain ⟨i, h1, h2, h3⟩ := name_at hP e hk
    obtain ⟨i', h1', h2', h3'⟩ := name_at hP e hj
    have e1 : fofI n f k = (i : Int) + 1 := by unfold nameI at h3; unfold fofI; omega
    have e2 : fofI n f j = (i' : Int) + 1 := by unfold nameI at h3'; unfold fofI; omega
    have : i = i' := by omega
    subst this
    exact strong_inj h64 hs hj hk (by rw [← h2, ← h2'])
theorem fof_world {n : Nat} {f : Nat → Int} (h64 : ∀ i, i < n → I64 (f i)) (hb : fofB n f = true) {a : Nat} (ha : a < n) : wfF n (fofI n f) a = f a := by
  have hs : strongB n f = true := by unfold fofB at hb; rw [Bool.and_eq_true] at hb; exact hb.1
  have hP := ((strong_iff h64).1 hs).1
  refine ext64 _ _ (wf_I64 _ _ _) (h64 a ha) (fun i hi => ?_)
  by_cases hin : i < n
  · rw [wf_bit hP.hi hin, ← fof_part h64 hs hin ha]
  · have hr := hP.rng a ha
    unfold wfF
    rw [setOf_bit _ _ _ hi, decide_eq_false hin, Bool.false_and, hasB_big (f a) n hr.1 hr.2 i (by omega)]
end Go.Proofs.YtdlafcioopclhaaGreat
