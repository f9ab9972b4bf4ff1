import Derived.Test.YtglnefffkcillaaWdB
namespace Go.Proofs.Ytglnefffkcillaa
set_option linter.unusedVariables false
set_option linter.unusedSimpArgs false
open Go.RowKit Go.Maps

theorem within_full_tab : ((List.range 5).all fun n => (List.range (2 ^ n)).all fun x => withinB (x : Int) (2 ^ n - 1)) = true := by decide +kernel
theorem within_full {n x : Nat} (hn : n ≤ 4) (hx : x < 2 ^ n) : withinB (x : Int) (2 ^ n - 1) = true :=
  List.all_eq_true.1 (List.all_eq_true.1 within_full_tab n (List.mem_range.2 (by omega))) x (List.mem_range.2 hx)

theorem self_own (n : Nat) : ∀ {k : Nat} {L : List Nat}, L ∈ llN (selfN n) k → ∀ i, i < k → L.getD i 0 < 2 ^ n ∧ Nat.testBit (L.getD i 0) i = true
  | 0, L, _ => fun i hi => absurd hi (Nat.not_lt_zero _)
  | k + 1, L, h => by
    simp only [llN, List.mem_flatMap, List.mem_map] at h
    obtain ⟨L', h1, x, hx, rfl⟩ := h
    intro i hi
    have hl := llN_len h1
    by_cases e : i = k
    · subst e
      rw [List.getD_eq_getElem?_getD, List.getElem?_append_right (by omega), hl]
      simp only [Nat.sub_self, List.getElem?_cons_zero, Option.getD_some]
      have h5 := List.mem_filter.1 hx
      exact ⟨List.mem_range.1 h5.1, by have := h5.2; rw [hl] at this; exact this⟩
    · rw [List.getD_eq_getElem?_getD, List.getElem?_append_left (by omega), ← List.getD_eq_getElem?_getD]
      exact self_own n h1 i (by omega)
theorem ok_nat (n : Nat) (h1 : 1 ≤ n) (h4 : n ≤ 4) (P : List Nat) (hl : P.length = n) (hP : ∀ i, i < n → P.getD i 0 < 2 ^ n ∧ Nat.testBit (P.getD i 0) i = true) : worldB n (rv (cst P)) = okN n P := by
  have hp : 2 ^ n ≤ 2 ^ 4 := Nat.pow_le_pow_right (by omega) h4
  have hw : ∀ a b, a < n → b < n → withinB (rv (cst P) a) (rv (cst P) b) = inN (P.getD a 0) (P.getD b 0) := fun a b ha hb => by
    rw [cst_getD, cst_getD]; exact within_nat (by have := (hP a ha).1; omega) (by have := (hP b hb).1; omega)
  have hh : ∀ a b, hasB (rv (cst P) a) b = Nat.testBit (P.getD a 0) b := fun a b => by rw [cst_getD, has_nat]
  rw [Bool.eq_iff_iff]
  unfold worldB okB okN
  simp only [Bool.and_eq_true, List.all_eq_true, List.mem_range, decide_eq_true_eq, Bool.or_eq_true, Bool.not_eq_true']
  unfold numB selfB orderB popB
  simp only [decide_eq_true_eq]
  constructor
  · rintro ⟨_, ⟨⟨_, _⟩, h3⟩, h5⟩ b hb a ha
    refine ⟨?_, ?_⟩
    · by_cases hab : a < b
      · right
        have := h3 b hb a hab
        rw [hh, hh] at this
        exact this
      · left; exact decide_eq_false hab
    · cases ht : Nat.testBit (P.getD b 0) a with
      | false => left; rfl
      | true =>
        right
        rw [← hw a b ha hb]
        exact h5 b hb a ha (by rw [hh]; exact ht)
  · intro h
    refine ⟨⟨h1, by omega⟩, ⟨⟨fun a ha => ?_, fun a ha => ?_⟩, fun b hb a hab => ?_⟩, fun b hb a ha ht => ?_⟩
    · rw [cst_getD]; exact within_full h4 (hP a ha).1
    · rw [hh]; exact (hP a ha).2
    · rcases (h b hb a (by omega)).1 with h5 | h5
      · exact absurd hab (of_decide_eq_false h5)
      · rw [hh, hh]; exact h5
    · rw [hw a b ha hb]
      rcases (h b hb a ha).2 with h5 | h5
      · rw [hh] at ht; rw [ht] at h5; cases h5
      · exact h5
/-- the worlds are those that the kernel reckons -/
theorem wl_nat (n : Nat) (h1 : 1 ≤ n) (h4 : n ≤ 4) : wlL n = (wlN n).map cst := by
  unfold wlL wlN
  rw [llK_nat _ (selfN n) (self_nat n h1 h4), List.filter_map]
  congr 1
  refine List.filter_congr (fun P hP => ?_)
  have hl := llN_len hP
  show worldB (cst P).length (rv (cst P)) = _
  rw [cst_len, hl]
  exact ok_nat n h1 h4 P hl (self_own n hP)

theorem list_own {SL : List Int} {f : Nat → Int} {n : Nat} (hf : ∀ i, i < n → f i ∈ SL ∧ hasB (f i) i = true) : ∀ k, k ≤ n → rowL f k ∈ llK (selfC SL) k
  | 0, _ => by simp [llK, rowL]
  | k + 1, hk => by
    have ih := list_own hf k (by omega)
    simp only [llK, List.mem_flatMap, List.mem_map]
    refine ⟨rowL f k, ih, f k, ?_, (rowL_succ f k).symm⟩
    unfold selfC evL
    rw [List.mem_filter, rowL_len]
    obtain ⟨h1, h2⟩ := hf k (by omega)
    exact ⟨h1, by show (!(!hasB (f k) k)) = true; rw [h2]; rfl⟩
theorem sets_all (n : Nat) (h1 : 1 ≤ n) (h4 : n ≤ 4) (x : Nat) (h0 : 0 < x) (hx : x < 2 ^ n) : (x : Int) ∈ setsL n := by
  rw [sets_nat n h1 h4]
  unfold cst
  refine List.mem_map.2 ⟨x, ?_, rfl⟩
  have hc : n = 1 ∨ n = 2 ∨ n = 3 ∨ n = 4 := by omega
  have e : List.range (2 ^ n) = 0 :: (List.range (2 ^ n)).tail := by
    rcases hc with rfl | rfl | rfl | rfl <;> rfl
  have h5 : x ∈ List.range (2 ^ n) := List.mem_range.2 hx
  rw [e, List.mem_cons] at h5
  rcases h5 with h5 | h5
  · omega
  · exact h5
/-- each world of at most four things is one of the list -/
theorem world_mem {n : Nat} {f : Nat → Int} (h64 : ∀ i, i < n → I64 (f i)) (h4 : n ≤ 4) (hw : worldB n f = true) : rowL f n ∈ wlL n := by
  have hP := (worldB_iff n f h64).1 hw
  have h1 := (worldB_pos hw).1
  refine List.mem_filter.2 ⟨list_own (fun i hi => ⟨?_, hP.self i hi⟩) n (Nat.le_refl _), ?_⟩
  · obtain ⟨h0, h2⟩ := hP.rng i hi
    have e2 : (2 : Int) ^ n = ((2 ^ n : Nat) : Int) := by rw [Int.natCast_pow]; rfl
    rw [e2] at h2
    obtain ⟨x, hx⟩ : ∃ x : Nat, f i = (x : Int) := ⟨(f i).toNat, by omega⟩
    rw [hx] at h2 ⊢
    refine sets_all n h1 h4 x ?_ (by omega)
    have := hP.self i hi
    rw [hx, has_nat] at this
    rcases Nat.eq_zero_or_pos x with h | h
    · subst h; simp at this
    · exact h
  · unfold wlB
    rw [rowL_len]
    exact (worldB_congr (fun i hi => rowL_getD f n i hi)).trans hw
end Go.Proofs.Ytglnefffkcillaa
