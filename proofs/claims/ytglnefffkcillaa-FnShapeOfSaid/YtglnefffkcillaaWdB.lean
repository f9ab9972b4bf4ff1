import Derived.Test.YtglnefffkcillaaWdA
namespace Go.Proofs.Ytglnefffkcillaa
set_option linter.unusedVariables false
set_option linter.unusedSimpArgs false
open Go.RowKit Go.Maps

theorem within_tab : ((List.range 16).all fun x => (List.range 16).all fun y => withinB (x : Int) (y : Int) == inN x y) = true := by decide +kernel
theorem within_nat {x y : Nat} (hx : x < 16) (hy : y < 16) : withinB (x : Int) (y : Int) = inN x y := by
  have h := List.all_eq_true.1 (List.all_eq_true.1 within_tab x (List.mem_range.2 hx)) y (List.mem_range.2 hy)
  exact beq_iff_eq.1 h
theorem or_tab : ((List.range 16).all fun x => (List.range 16).all fun y => bits .or .i64 (x : Int) (y : Int) == (Nat.lor x y : Int)) = true := by decide +kernel
theorem or_nat {x y : Nat} (hx : x < 16) (hy : y < 16) : bits .or .i64 (x : Int) (y : Int) = (Nat.lor x y : Int) := by
  have h := List.all_eq_true.1 (List.all_eq_true.1 or_tab x (List.mem_range.2 hx)) y (List.mem_range.2 hy)
  exact beq_iff_eq.1 h
theorem sN_lt (g : Nat → Bool) : ∀ k, sN g k < 2 ^ k
  | 0 => by simp [sN]
  | k + 1 => by
    have := sN_lt g k
    rw [sN, Nat.pow_succ]
    split <;> omega
theorem lor_pow_tab : ((List.range 4).all fun k => (List.range (2 ^ k)).all fun x => Nat.lor x (2 ^ k) == x + 2 ^ k) = true := by decide +kernel
theorem setOf_nat (g : Nat → Bool) : ∀ k, k ≤ 4 → setOf g k = (sN g k : Int)
  | 0, _ => rfl
  | k + 1, hk => by
    have ih := setOf_nat g k (by omega)
    have hlt := sN_lt g k
    have hp : 2 ^ k ≤ 2 ^ 3 := Nat.pow_le_pow_right (by omega) (by omega)
    rw [setOf, sN]
    cases h : g k with
    | false => simpa using ih
    | true =>
      rw [if_pos rfl, if_pos rfl, ih]
      show bits .or .i64 _ _ = _
      have e : (2 : Int) ^ k = ((2 ^ k : Nat) : Int) := by rw [Int.natCast_pow]; rfl
      rw [e, or_nat (by omega) (by omega)]
      have h5 := List.all_eq_true.1 (List.all_eq_true.1 lor_pow_tab k (List.mem_range.2 (by omega))) (sN g k) (List.mem_range.2 hlt)
      rw [beq_iff_eq.1 h5]

theorem am_nat (Q : List Nat) (hl : Q.length ≤ 4) (hq : ∀ x ∈ Q, x < 16) : amL (cst Q) = cst (amN Q) := by
  have hg : ∀ i, i < Q.length → Q.getD i 0 < 16 := fun i hi => by
    rw [List.getD_eq_getElem?_getD, List.getElem?_eq_getElem hi]; exact hq _ (List.getElem_mem _)
  have key : ∀ y : Nat, y < 16 → setOf (fun b => withinB (rv (cst Q) b) (y : Int)) Q.length = (sN (fun b => inN (Q.getD b 0) y) Q.length : Int) := by
    intro y hy
    rw [← setOf_nat _ _ hl]
    have h : ∀ k, k ≤ Q.length → setOf (fun b => withinB (rv (cst Q) b) (y : Int)) k = setOf (fun b => inN (Q.getD b 0) y) k := by
      intro k
      induction k with
      | zero => intro _; rfl
      | succ k ih =>
        intro hk
        rw [setOf, setOf, ih (by omega)]
        have e : withinB (rv (cst Q) k) (y : Int) = inN (Q.getD k 0) y := by rw [cst_getD]; exact within_nat (hg k (by omega)) hy
        rw [e]
    exact h _ (Nat.le_refl _)
  unfold amL
  rw [cst_len]
  unfold rowL wfF
  have e1 : amN Q = (List.range Q.length).map (fun i => sN (fun b => inN (Q.getD b 0) (Q.getD i 0)) Q.length) := by
    unfold amN
    apply List.ext_getElem?
    intro i
    rw [List.getElem?_map, List.getElem?_map]
    by_cases hi : i < Q.length
    · rw [List.getElem?_eq_getElem hi, List.getElem?_range hi]
      have e : Q.getD i 0 = Q[i] := by rw [List.getD_eq_getElem?_getD, List.getElem?_eq_getElem hi]; rfl
      simp only [Option.map_some, e]
    · rw [List.getElem?_eq_none (by omega), List.getElem?_eq_none (by rw [List.length_range]; omega)]; rfl
  rw [e1]
  unfold cst
  rw [List.map_map]
  refine List.map_congr_left (fun i hi => ?_)
  have hi := List.mem_range.1 hi
  show setOf (fun b => withinB (rv (cst Q) b) (rv (cst Q) i)) Q.length = _
  rw [cst_getD Q i, key _ (hg i hi)]; rfl

theorem less_nat : ∀ (x m : List Nat), x.length = m.length → ltB x.length (rv (cst x)) (rv (cst m)) = lessN x m
  | [], [], _ => rfl
  | a :: xs, b :: ys, h => by
    have hl : xs.length = ys.length := by simpa using h
    have ih := less_nat xs ys hl
    have h0 : rv (cst (a :: xs)) 0 = (a : Int) := rfl
    have h1 : rv (cst (b :: ys)) 0 = (b : Int) := rfl
    have hs : ∀ i, rv (cst (a :: xs)) (i + 1) = rv (cst xs) i := fun _ => rfl
    have ht : ∀ i, rv (cst (b :: ys)) (i + 1) = rv (cst ys) i := fun _ => rfl
    rw [lessN]
    by_cases hab : a < b
    · rw [if_pos hab]
      exact ltB_yes (k := 0) (by simp) (by rw [h0, h1]; omega) (fun i hi => absurd hi (Nat.not_lt_zero _))
    · rw [if_neg hab]
      by_cases hba : b < a
      · rw [if_pos hba]
        exact ltB_no (k := 0) (by rw [h0, h1]; omega) (fun i hi => absurd hi (Nat.not_lt_zero _))
      · rw [if_neg hba, ← ih]
        have hab' : a = b := by omega
        unfold ltB
        rw [Bool.eq_iff_iff, decide_eq_true_eq, decide_eq_true_eq]
        constructor
        · rintro ⟨k, hk, h5, h6⟩
          cases k with
          | zero => rw [h0, h1] at h5; omega
          | succ k =>
            refine ⟨k, by simpa using hk, by rw [← hs, ← ht]; exact h5, fun i hi => ?_⟩
            rw [← hs, ← ht]; exact h6 (i + 1) (by omega)
        · rintro ⟨k, hk, h5, h6⟩
          refine ⟨k + 1, by simpa using hk, by rw [hs, ht]; exact h5, fun i hi => ?_⟩
          cases i with
          | zero => rw [h0, h1, hab']
          | succ i => rw [hs, ht]; exact h6 i (by omega)
theorem step_nat {n : Nat} {m x : List Nat} (hm : m.length = n) (hx : x.length = n) : stepL n (cst m) (cst x) = cst (stepN m x) := by
  unfold stepL stepN
  have := less_nat x m (by omega)
  rw [hx] at this
  rw [this]
  cases lessN x m <;> rfl
theorem min_nat {n : Nat} : ∀ (LL : List (List Nat)) (m : List Nat), m.length = n → (∀ x ∈ LL, x.length = n) → minL n (cst m) (LL.map cst) = cst (LL.foldl stepN m)
  | [], m, _, _ => rfl
  | x :: LL, m, hm, h => by
    have hx := h x (by simp)
    show minL n (stepL n (cst m) (cst x)) (LL.map cst) = _
    rw [step_nat hm hx, List.foldl_cons]
    refine min_nat LL _ ?_ (fun y hy => h y (by simp [hy]))
    unfold stepN; split
    · exact hx
    · exact hm

theorem other_nat (P L : List Nat) : otherC (cst P) (cst L) = cst (otherN P L) := by
  unfold otherC evL otherN
  rw [cst_len]
  unfold cst
  rw [List.filter_map]
  congr 1
  refine List.filter_congr (fun x _ => ?_)
  show (!inF (x : Int) L.length (rv (cst L))) = !L.contains x
  congr 1
  rw [Bool.eq_iff_iff, inF_iff, List.contains_iff_mem]
  constructor
  · rintro ⟨k, hk, h⟩
    rw [cst_getD] at h
    have : L.getD k 0 = x := by omega
    rw [← this, List.getD_eq_getElem?_getD, List.getElem?_eq_getElem hk]
    exact List.getElem_mem _
  · intro h
    obtain ⟨k, hk, rfl⟩ := List.getElem_of_mem h
    refine ⟨k, hk, ?_⟩
    rw [cst_getD, List.getD_eq_getElem?_getD, List.getElem?_eq_getElem hk]; rfl
theorem llN_len {C : List Nat → List Nat} : ∀ {k : Nat} {L : List Nat}, L ∈ llN C k → L.length = k
  | 0, L, h => by simp [llN] at h; subst h; rfl
  | k + 1, L, h => by
    simp only [llN, List.mem_flatMap, List.mem_map] at h
    obtain ⟨L', h1, x, _, rfl⟩ := h
    rw [List.length_append, llN_len h1]; rfl
theorem llN_all {C : List Nat → List Nat} {p : Nat → Prop} (hC : ∀ L, ∀ x ∈ C L, p x) : ∀ {k : Nat} {L : List Nat}, L ∈ llN C k → ∀ x ∈ L, p x
  | 0, L, h => by simp [llN] at h; subst h; intro x hx; cases hx
  | k + 1, L, h => by
    simp only [llN, List.mem_flatMap, List.mem_map] at h
    obtain ⟨L', h1, y, hy, rfl⟩ := h
    intro x hx
    rw [List.mem_append, List.mem_singleton] at hx
    rcases hx with hx | rfl
    · exact llN_all hC h1 x hx
    · exact hC _ _ hy
theorem amN_len (Q : List Nat) : (amN Q).length = Q.length := List.length_map _
/-- the shape, over natural numbers -/
theorem sh_nat (P : List Nat) (h4 : P.length ≤ 4) (hP : ∀ x ∈ P, x < 16) : shL P.length (rv (cst P)) = cst (shN P) := by
  unfold shL
  have e0 : rowL (rv (cst P)) P.length = cst P := by have := rowL_self (cst P); rw [cst_len] at this; exact this
  rw [e0]
  unfold orL
  rw [cst_len, llK_nat _ (otherN P) (other_nat P), List.map_map]
  have e1 : (llN (otherN P) P.length).map (amL ∘ cst) = ((llN (otherN P) P.length).map amN).map cst := by
    rw [List.map_map]
    refine List.map_congr_left (fun Q hQ => ?_)
    have hl := llN_len hQ
    exact am_nat Q (by omega) (llN_all (p := fun x => x < 16) (fun L x hx => hP x (List.mem_filter.1 hx).1) hQ)
  rw [e1]
  unfold shN
  refine min_nat _ P rfl (fun x hx => ?_)
  obtain ⟨Q, hQ, rfl⟩ := List.mem_map.1 hx
  rw [amN_len, llN_len hQ]

/-! the model's -/
theorem rnK_nat (P o : List Nat) (a : Nat) (ho : ∀ i, i < 4 → o.getD i 0 < 4) : ∀ b, b ≤ 4 → rnK (rv (cst P)) (ro (cst o)) a b = (rnKN P o a b : Int) ∧ rnKN P o a b < 16
  | 0, _ => ⟨rfl, by simp [rnKN]⟩
  | b + 1, hb => by
    obtain ⟨h1, h2⟩ := rnK_nat P o a ho b (by omega)
    have hr : ro (cst o) b = o.getD b 0 := by unfold ro; rw [cst_getD]; simp
    have hob := ho b (by omega)
    have hp : 2 ^ o.getD b 0 ≤ 2 ^ 3 := Nat.pow_le_pow_right (by omega) (by omega)
    rw [rnK, rnKN, cst_getD, has_nat, hr]
    cases Nat.testBit (P.getD a 0) b with
    | false => exact ⟨by simpa using h1, by simpa using h2⟩
    | true =>
      rw [if_pos rfl, if_pos rfl, h1]
      have e : (2 : Int) ^ o.getD b 0 = ((2 ^ o.getD b 0 : Nat) : Int) := by rw [Int.natCast_pow]; rfl
      rw [e, or_nat h2 (by omega)]
      exact ⟨rfl, Nat.or_lt_two_pow (n := 4) h2 (by omega)⟩
theorem rnF_nat (P o : List Nat) (n : Nat) (hn : n ≤ 4) (ho : ∀ i, i < 4 → o.getD i 0 < 4) : ∀ a i, a ≤ 4 → rnF (rv (cst P)) (ro (cst o)) n a i = (rnFN P o n a i : Int)
  | 0, _, _ => rfl
  | a + 1, i, ha => by
    have hr : ro (cst o) a = o.getD a 0 := by unfold ro; rw [cst_getD]; simp
    show (if i = ro (cst o) a then rnK (rv (cst P)) (ro (cst o)) a n else rnF (rv (cst P)) (ro (cst o)) n a i) = ((if i = o.getD a 0 then rnKN P o a n else rnFN P o n a i : Nat) : Int)
    rw [hr]
    by_cases h : i = o.getD a 0
    · rw [if_pos h, if_pos h]; exact (rnK_nat P o a ho n hn).1
    · rw [if_neg h, if_neg h]; exact rnF_nat P o n hn ho a i (by omega)
theorem rn_nat (n : Nat) (P o : List Nat) (hn : n ≤ 4) (ho : ∀ i, i < 4 → o.getD i 0 < 4) : rnL n (rv (cst P)) (ro (cst o)) = cst (rnLN n P o) := by
  unfold rnL rnLN cst rowL
  rw [List.map_map]
  exact List.map_congr_left (fun i _ => rnF_nat P o n hn ho n i hn)
theorem id_nat (n : Nat) : idL n = cst (List.range n) := rfl
theorem stS_nat {n : Nat} {m x : List Nat} (hm : m.length = 0 ∨ m.length = n) (hx : x.length = n) : stS n (cst m) (cst x) = cst (stSN m x) := by
  unfold stS stSN
  rw [cst_len]
  by_cases h : m.length = 0
  · rw [if_pos h, if_pos h]
  · rw [if_neg h, if_neg h]
    exact step_nat (by omega) hx
theorem fold_nat {n : Nat} : ∀ (LL : List (List Nat)) (m : List Nat), (m.length = 0 ∨ m.length = n) → (∀ x ∈ LL, x.length = n) → (LL.map cst).foldl (stS n) (cst m) = cst (LL.foldl stSN m)
  | [], m, _, _ => rfl
  | x :: LL, m, hm, h => by
    have hx := h x (by simp)
    rw [List.map_cons, List.foldl_cons, List.foldl_cons, stS_nat hm hx]
    refine fold_nat LL _ ?_ (fun y hy => h y (by simp [hy]))
    unfold stSN stepN
    split
    · exact .inr hx
    · split
      · exact .inr hx
      · exact hm
theorem shS_nat (n : Nat) (h4 : n ≤ 4) (P : List Nat) : shS n (rv (cst P)) = cst (shSN n P) := by
  unfold shS rnO shSN
  rw [id_nat, llK_nat _ (otherN (List.range n)) (other_nat (List.range n)), List.map_map]
  have e1 : (llN (otherN (List.range n)) n).map ((fun o => rnL n (rv (cst P)) (ro o)) ∘ cst) = ((llN (otherN (List.range n)) n).map (rnLN n P)).map cst := by
    rw [List.map_map]
    refine List.map_congr_left (fun o ho => rn_nat n P o h4 (fun i hi => ?_))
    by_cases h : i < o.length
    · have := llN_all (p := fun x => x < n) (fun L x hx => List.mem_range.1 (List.mem_filter.1 hx).1) ho
      rw [List.getD_eq_getElem?_getD, List.getElem?_eq_getElem h]
      have h5 := this _ (List.getElem_mem h)
      show o[i] < 4
      omega
    · rw [List.getD_eq_getElem?_getD, List.getElem?_eq_none (by omega)]; decide
  rw [e1]
  refine fold_nat _ [] (.inl rfl) (fun x hx => ?_)
  obtain ⟨o, _, rfl⟩ := List.mem_map.1 hx
  unfold rnLN
  rw [List.length_map, List.length_range]
end Go.Proofs.Ytglnefffkcillaa
