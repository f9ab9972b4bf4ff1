import Derived.Test.YtndcnfbncepihaaSums
import Derived.Test.YtndcnfbncepihaaAxiomsB
namespace Go.Proofs.Ytndcnfbncepihaa
open Go.RowKit

/-- a classical world -/
def classB (n : Nat) (f : Nat → Int) : Bool := strongB n f && summedB n f
theorem class_split {n : Nat} {f : Nat → Int} (h : classB n f = true) : strongB n f = true ∧ summedB n f = true := by
  unfold classB at h; rwa [Bool.and_eq_true] at h
theorem class_world {n : Nat} {f : Nat → Int} (h : classB n f = true) : worldB n f = true := strong_world (class_split h).1

theorem full_thing {n : Nat} {f : Nat → Int} (hs : summedB n f = true) {t : Nat} (h1 : 1 ≤ t) (ht : t < 2 ^ n) : ∃ s, s < n ∧ sumG n f t s = true := by
  unfold summedB at hs
  rw [Bool.and_eq_true, decide_eq_true_eq] at hs
  have := hs.2 t ht h1
  unfold hasSumB at this
  rwa [decide_eq_true_eq] at this

theorem meet_part {n : Nat} {f : Nat → Int} (hP : WorldP n f) {a b : Nat} (ha : a < n) (h : (andI (f a) (f b) != 0) = true) : ∃ i, i < n ∧ hasB (f a) i = true ∧ hasB (f b) i = true := by
  obtain ⟨i, hi, h1⟩ := (nonzero_iff _ (andI_I64 _ _)).1 h
  rw [and_bit _ _ _ hi, Bool.and_eq_true] at h1
  exact ⟨i, hasB_lt (hP.rng a ha) h1.1, h1.1, h1.2⟩

/-- t is one of a set's sets, and not empty -/
def subG (A : Int) (t : Nat) : Bool := decide (1 ≤ t) && withinB (t : Int) A
/-- the sets within a set below k, but the empty one -/
def subsL (A : Int) : Nat → List Int
  | 0 => []
  | k + 1 => if subG A k then subsL A k ++ [(k : Int)] else subsL A k
def cntK (A : Int) : Nat → Nat
  | 0 => 0
  | k + 1 => if subG A k then cntK A k + 1 else cntK A k
/-- how many of the first k numbers a set has -/
def atK (A : Int) : Nat → Nat
  | 0 => 0
  | k + 1 => if hasB A k then atK A k + 1 else atK A k
/-- what a set has of A, counted in A -/
def cmpK (A x : Int) : Nat → Int
  | 0 => 0
  | k + 1 => if hasB A k && hasB x k then orI (cmpK A x k) (2 ^ atK A k) else cmpK A x k

theorem subsL_yes {A : Int} {k : Nat} (h : subG A k = true) : subsL A (k + 1) = subsL A k ++ [(k : Int)] := by rw [subsL, if_pos h]
theorem subsL_no {A : Int} {k : Nat} (h : subG A k = false) : subsL A (k + 1) = subsL A k := by rw [subsL, if_neg (by rw [h]; decide)]
theorem cntK_yes {A : Int} {k : Nat} (h : subG A k = true) : cntK A (k + 1) = cntK A k + 1 := by rw [cntK, if_pos h]
theorem cntK_no {A : Int} {k : Nat} (h : subG A k = false) : cntK A (k + 1) = cntK A k := by rw [cntK, if_neg (by rw [h]; decide)]
theorem atK_yes {A : Int} {k : Nat} (h : hasB A k = true) : atK A (k + 1) = atK A k + 1 := by rw [atK, if_pos h]
theorem atK_no {A : Int} {k : Nat} (h : hasB A k = false) : atK A (k + 1) = atK A k := by rw [atK, if_neg (by rw [h]; decide)]
theorem cmpK_yes {A x : Int} {k : Nat} (h1 : hasB A k = true) (h2 : hasB x k = true) : cmpK A x (k + 1) = bits .or .i64 (cmpK A x k) (2 ^ atK A k) := by
  rw [cmpK, if_pos (by rw [h1, h2]; rfl)]; rfl
theorem cmpK_no {A x : Int} {k : Nat} (h : (hasB A k && hasB x k) = false) : cmpK A x (k + 1) = cmpK A x k := by rw [cmpK, if_neg (by rw [h]; decide)]
theorem atK_le (A : Int) (k : Nat) : atK A k ≤ k := by
  induction k with
  | zero => exact Nat.le_refl _
  | succ k ih => rw [atK]; split <;> omega
theorem cntK_le (A : Int) (k : Nat) : cntK A k ≤ k := by
  induction k with
  | zero => exact Nat.le_refl _
  | succ k ih => rw [cntK]; split <;> omega
theorem subs_len (A : Int) (k : Nat) : (subsL A k).length = cntK A k := by
  induction k with
  | zero => rfl
  | succ k ih => rw [subsL, cntK]; split <;> simp [ih]
theorem subs_len_le (A : Int) (k : Nat) : (subsL A k).length ≤ k := by rw [subs_len]; exact cntK_le A k

theorem subs_mem {A : Int} {k : Nat} {x : Int} : x ∈ subsL A k ↔ ∃ t : Nat, t < k ∧ subG A t = true ∧ x = t := by
  induction k with
  | zero => simp [subsL]
  | succ k ih =>
    cases h : subG A k with
    | true =>
      rw [subsL_yes h, List.mem_append, ih, List.mem_singleton]
      constructor
      · rintro (⟨t, h1, h2, h3⟩ | rfl)
        · exact ⟨t, by omega, h2, h3⟩
        · exact ⟨k, by omega, h, rfl⟩
      · rintro ⟨t, h1, h2, h3⟩
        by_cases e : t = k
        · subst e; exact .inr h3
        · exact .inl ⟨t, by omega, h2, h3⟩
    | false =>
      rw [subsL_no h, ih]
      constructor
      · rintro ⟨t, h1, h2, h3⟩; exact ⟨t, by omega, h2, h3⟩
      · rintro ⟨t, h1, h2, h3⟩
        by_cases e : t = k
        · subst e; rw [h] at h2; cases h2
        · exact ⟨t, by omega, h2, h3⟩

theorem subs_nodup (A : Int) (k : Nat) : (subsL A k).Nodup := by
  induction k with
  | zero => exact List.nodup_nil
  | succ k ih =>
    rw [subsL]; split
    · rw [List.nodup_append]
      refine ⟨ih, by simp, fun a ha b hb e => ?_⟩
      obtain ⟨t, h1, _, h3⟩ := subs_mem.1 ha
      rw [List.mem_singleton] at hb
      omega
    · exact ih

theorem subG_iff {A : Int} {t : Nat} : subG A t = true ↔ 1 ≤ t ∧ withinB (t : Int) A = true := by unfold subG; rw [Bool.and_eq_true, decide_eq_true_eq]

theorem sub_le {X t : Nat} (h : withinB (t : Int) (X : Int) = true) (ht : t < 9223372036854775808) : t ≤ X := by
  have := le_of_bits (x := (t : Int)) (y := (X : Int)) (by omega) (by omega) (fun i hi => by
    by_cases h64 : i < 64
    · exact (within_iff _ _).1 h i h64 hi
    · rw [hasB_nat] at hi
      have := Nat.testBit_lt_two_pow (x := t) (i := i) (Nat.lt_of_lt_of_le ht (by
        have : (2 : Nat) ^ 63 ≤ 2 ^ i := Nat.pow_le_pow_right (by omega) (by omega)
        omega))
      rw [this] at hi; cases hi)
  omega

/-! ### the finite facts -/

def rankOk (X : Nat) : Bool := (List.range (subsL X (X + 1)).length).all (fun i => cmpK X ((subsL X (X + 1)).getD i 0) 7 == (i : Int) + 1)
theorem rank_all : (List.range 128).all rankOk = true := by kernel_rfl
def cntOk (n X : Nat) : Bool := cntK X (2 ^ n) + 1 == 2 ^ atK X n && cntK X (X + 1) == cntK X (2 ^ n)
theorem cnt_all : (List.range 8).all (fun n => (List.range (2 ^ n)).all (cntOk n)) = true := by kernel_rfl
def pairOk (X : Nat) : Bool := decide (3 < atK X 7) || (subsL X (X + 1)).all (fun s => (subsL X (X + 1)).all (fun t => withinB (cmpK X s 7) (cmpK X t 7) == withinB s t))
theorem pair_all : (List.range 128).all pairOk = true := by kernel_rfl

theorem rank_at {X i : Nat} (hX : X < 128) (hi : i < (subsL X (X + 1)).length) : cmpK X ((subsL X (X + 1)).getD i 0) 7 = (i : Int) + 1 := by
  have h := List.all_eq_true.1 rank_all X (List.mem_range.2 hX)
  unfold rankOk at h
  exact beq_iff_eq.1 (List.all_eq_true.1 h i (List.mem_range.2 hi))
theorem cnt_at {n X : Nat} (hn : n ≤ 7) (hX : X < 2 ^ n) : cntK X (2 ^ n) + 1 = 2 ^ atK X n ∧ cntK X (X + 1) = cntK X (2 ^ n) := by
  have h := List.all_eq_true.1 cnt_all n (List.mem_range.2 (by omega))
  have h2 := List.all_eq_true.1 h X (List.mem_range.2 hX)
  unfold cntOk at h2
  rw [Bool.and_eq_true, beq_iff_eq, beq_iff_eq] at h2
  exact h2
theorem pair_at {X : Nat} (hX : X < 128) (h3 : atK X 7 ≤ 3) {s t : Int} (hs : s ∈ subsL X (X + 1)) (ht : t ∈ subsL X (X + 1)) : withinB (cmpK X s 7) (cmpK X t 7) = withinB s t := by
  have h := List.all_eq_true.1 pair_all X (List.mem_range.2 hX)
  unfold pairOk at h
  rw [decide_eq_false (by omega), Bool.false_or] at h
  exact beq_iff_eq.1 (List.all_eq_true.1 (List.all_eq_true.1 h s hs) t ht)

theorem cmp_and (A x : Int) : ∀ k, k ≤ 64 → cmpK A x k = cmpK A (andI x A) k
  | 0, _ => rfl
  | k + 1, hk => by
    have ih := cmp_and A x k (by omega)
    have e : (hasB A k && hasB (andI x A) k) = (hasB A k && hasB x k) := by
      rw [and_bit _ _ _ (by omega)]
      cases hasB A k <;> cases hasB x k <;> rfl
    rw [cmpK, cmpK, e, ih]
theorem at_up {X n : Nat} (hX : X < 2 ^ n) : ∀ k, n ≤ k → atK X k = atK X n := by
  intro k hk
  induction k with
  | zero => have : n = 0 := by omega
            subst this; rfl
  | succ k ih =>
    by_cases e : n = k + 1
    · rw [e]
    · rw [atK_no (hasB_big X n (by omega) (by have : ((2 ^ n : Nat) : Int) = 2 ^ n := by simp
                                              omega) k (by omega))]
      exact ih (by omega)
theorem cmp_up {X n : Nat} (x : Int) (hX : X < 2 ^ n) : ∀ k, n ≤ k → cmpK X x k = cmpK X x n := by
  intro k hk
  induction k with
  | zero => have : n = 0 := by omega
            subst this; rfl
  | succ k ih =>
    by_cases e : n = k + 1
    · rw [e]
    · rw [cmpK_no (by rw [hasB_big X n (by omega) (by have : ((2 ^ n : Nat) : Int) = 2 ^ n := by simp
                                                      omega) k (by omega)]; rfl)]
      exact ih (by omega)

theorem len_le {α : Type} [DecidableEq α] : ∀ (l1 l2 : List α), l1.Nodup → (∀ x, x ∈ l1 → x ∈ l2) → l1.length ≤ l2.length
  | [], _, _, _ => Nat.zero_le _
  | x :: l, l2, hn, hs => by
    have hx := hs x (List.mem_cons_self)
    rw [List.nodup_cons] at hn
    have := len_le l (l2.erase x) hn.2 (fun y hy => (List.mem_erase_of_ne (by intro e; subst e; exact hn.1 hy)).2 (hs y (List.mem_cons_of_mem _ hy)))
    rw [List.length_erase_of_mem hx] at this
    have h0 : 1 ≤ l2.length := by
      cases l2 with
      | nil => cases hx
      | cons => simp
    simp only [List.length_cons]
    omega

/-! ### the atoms of a world, as a number -/

theorem atoms_nat {n : Nat} {f : Nat → Int} (h7 : n ≤ 7) : ∃ X : Nat, atomsI n f = X ∧ X < 2 ^ n ∧ X < 128 := by
  have h := atomsI_rng n f h7
  have hp := (pow_bounds n h7).2
  obtain ⟨X, e⟩ := Int.eq_ofNat_of_zero_le h.1
  have e2 : ((2 ^ n : Nat) : Int) = 2 ^ n := by simp
  exact ⟨X, e, by omega, by omega⟩
theorem ain_nat {n : Nat} {f : Nat → Int} (h7 : n ≤ 7) (a : Nat) : ∃ X : Nat, ainI n f a = X ∧ X < 2 ^ n ∧ X < 128 := by
  have h := ain_rng (f := f) h7 a
  have hp := (pow_bounds n h7).2
  obtain ⟨X, e⟩ := Int.eq_ofNat_of_zero_le h.1
  have e2 : ((2 ^ n : Nat) : Int) = 2 ^ n := by simp
  exact ⟨X, e, by omega, by omega⟩

theorem ain_within (n : Nat) (f : Nat → Int) (a : Nat) : withinB (ainI n f a) (atomsI n f) = true :=
  (within_iff _ _).2 (fun i hi h => by unfold ainI at h; rw [and_bit _ _ _ hi, Bool.and_eq_true] at h; exact h.2)

/-- the atoms of a thing are among the sets of atoms -/
theorem ain_sub {n : Nat} {f : Nat → Int} (hP : WorldP n f) {a t : Nat} (ha : a < n) (e : ainI n f a = t) : subG (atomsI n f) t = true := by
  have h1 := ain_pos hP ha
  have h2 := ain_within n f a
  rw [e] at h1 h2
  exact subG_iff.2 ⟨by omega, h2⟩
theorem ain_mem {n X : Nat} {f : Nat → Int} (hP : WorldP n f) {a : Nat} (ha : a < n) (hX : atomsI n f = X) : ainI n f a ∈ subsL X (X + 1) := by
  obtain ⟨t, e, _, h128⟩ := ain_nat (f := f) hP.hi a
  have h := ain_sub hP ha e
  rw [hX] at h
  exact subs_mem.2 ⟨t, by have := sub_le (subG_iff.1 h).2 (by omega); omega, h, e⟩

/-- each set of atoms has a thing in a classical world -/
theorem class_thing {n : Nat} {f : Nat → Int} (h64 : ∀ i, i < n → I64 (f i)) (hc : classB n f = true) {t : Nat} (ht : t < 2 ^ n) (h : subG (atomsI n f) t = true) : ∃ a, a < n ∧ ainI n f a = t := by
  obtain ⟨hs, hf⟩ := class_split hc
  obtain ⟨hP, _⟩ := (strong_iff h64).1 hs
  have h7 := hP.hi
  have hp := pow_bounds n h7
  obtain ⟨h1, hw⟩ := subG_iff.1 h
  have ht' : (t : Int) < 2 ^ n := by have : ((2 ^ n : Nat) : Int) = 2 ^ n := by simp
                                     omega
  have hin : ∀ i, i < 64 → hasB (t : Int) i = true → i < n ∧ atomB f i = true := fun i hi hb => by
    have := (within_iff _ _).1 hw i hi hb
    rw [atomsI_bit n f i hi, Bool.and_eq_true, decide_eq_true_eq] at this
    exact this
  obtain ⟨s, hs1, hs2⟩ := full_thing hf h1 ht
  refine ⟨s, hs1, ext64 _ _ (ainI_I64 n f s) (by unfold I64; omega) (fun i hi => ?_)⟩
  rw [Bool.eq_iff_iff]
  constructor
  · intro hh
    obtain ⟨h2, h3, h4⟩ := ain_of hi hh
    obtain ⟨c, hcn, hct, hov⟩ := (sum_meets h7 hs2 h2).1 (overlap_of hP hs1 h3 (hP.self i h2))
    obtain ⟨j, hj, hj1, hj2⟩ := meet_part hP hcn hov
    have e1 := atom_only h4 hj2
    subst e1
    have e2 := atom_only (hin c (by omega) hct).2 hj1
    subst e2; exact hct
  · intro hh
    obtain ⟨h2, h4⟩ := hin i hi hh
    have hov := (sum_meets h7 hs2 h2).2 ⟨i, h2, hh, overlap_of hP h2 (hP.self i h2) (hP.self i h2)⟩
    obtain ⟨j, hj, hj1, hj2⟩ := meet_part hP hs1 hov
    have e1 := atom_only h4 hj2
    subst e1
    exact ain_yes h7 h2 hj1 h4

theorem strong_inj {n : Nat} {f : Nat → Int} (h64 : ∀ i, i < n → I64 (f i)) (hs : strongB n f = true) {a b : Nat} (ha : a < n) (hb : b < n) (h : ainI n f a = ainI n f b) : a = b := by
  have ht := made_told h64 (by rw [← strong_made h64]; exact hs)
  unfold toldB at ht
  rw [Bool.and_eq_true, eachB_iff] at ht
  apply Classical.byContradiction; intro e
  have := ht.2 a ha b hb e
  rw [h] at this; simp at this

/-- as many things as sets of atoms -/
theorem class_count {n X : Nat} {f : Nat → Int} (h64 : ∀ i, i < n → I64 (f i)) (hc : classB n f = true) (hX : atomsI n f = X) : cntK X (2 ^ n) = n := by
  obtain ⟨hs, hf⟩ := class_split hc
  obtain ⟨hP, _⟩ := (strong_iff h64).1 hs
  have h7 := hP.hi
  have hnd : ((List.range n).map (ainI n f)).Nodup := by
    unfold List.Nodup
    rw [List.pairwise_map]
    refine List.Pairwise.imp_of_mem ?_ (List.nodup_range (n := n))
    intro a b ha hb hne e
    exact hne (strong_inj h64 hs (List.mem_range.1 ha) (List.mem_range.1 hb) e)
  have h1 := len_le _ (subsL X (2 ^ n)) hnd (fun x hx => by
    obtain ⟨a, ha, rfl⟩ := List.mem_map.1 hx
    obtain ⟨t, e, ht, _⟩ := ain_nat (f := f) h7 a
    have := ain_sub hP (List.mem_range.1 ha) e
    rw [hX] at this
    exact subs_mem.2 ⟨t, ht, this, e⟩)
  have h2 := len_le _ ((List.range n).map (ainI n f)) (subs_nodup X (2 ^ n)) (fun x hx => by
    obtain ⟨t, ht, h3, rfl⟩ := subs_mem.1 hx
    obtain ⟨a, ha, e⟩ := class_thing h64 hc ht (by rw [hX]; exact h3)
    exact List.mem_map.2 ⟨a, List.mem_range.2 ha, e⟩)
  rw [List.length_map, List.length_range, subs_len] at h1 h2
  omega

/-! ### names -/

/-- the name of a thing -/
def nameI (n : Nat) (f : Nat → Int) (a : Nat) : Int := cmpK (atomsI n f) (f a) n - 1

theorem name_cmp {n X : Nat} {f : Nat → Int} (h7 : n ≤ 7) (hX : atomsI n f = X) (a : Nat) : nameI n f a = cmpK X (ainI n f a) 7 - 1 := by
  obtain ⟨X', e, hX2, _⟩ := atoms_nat (f := f) h7
  have hXX : X' = X := by omega
  subst hXX
  unfold nameI
  rw [cmp_and _ _ n (by omega), hX, ← cmp_up _ hX2 7 h7]
  show cmpK X' (andI (f a) X') 7 - 1 = _
  unfold ainI; rw [hX]

theorem name_at {n X : Nat} {f : Nat → Int} (hP : WorldP n f) (hX : atomsI n f = X) {a : Nat} (ha : a < n) : ∃ i, i < (subsL X (X + 1)).length ∧ (subsL X (X + 1)).getD i 0 = ainI n f a ∧ nameI n f a = i := by
  obtain ⟨X', e, _, h128⟩ := atoms_nat (f := f) hP.hi
  have hXX : X' = X := by omega
  subst hXX
  obtain ⟨i, hi, hg⟩ := List.getElem_of_mem (ain_mem hP ha hX)
  have hd : (subsL X' (X' + 1)).getD i 0 = ainI n f a := by rw [List.getD_eq_getElem?_getD, List.getElem?_eq_getElem hi]; exact hg
  refine ⟨i, hi, hd, ?_⟩
  rw [name_cmp hP.hi hX, ← hd, rank_at h128 hi]; omega

theorem class_len {n X : Nat} {f : Nat → Int} (h64 : ∀ i, i < n → I64 (f i)) (hc : classB n f = true) (hX : atomsI n f = X) : (subsL X (X + 1)).length = n ∧ atK X n ≤ 3 ∧ 2 ^ atK X n = n + 1 := by
  have hP := ((strong_iff h64).1 (class_split hc).1).1
  have h7 := hP.hi
  obtain ⟨X', e, hX2, h128⟩ := atoms_nat (f := f) h7
  have hXX : X' = X := by omega
  subst hXX
  have h1 := class_count h64 hc hX
  obtain ⟨h2, h3⟩ := cnt_at h7 hX2
  refine ⟨by rw [subs_len]; omega, ?_, by omega⟩
  apply Classical.byContradiction; intro h4
  have : (2 : Nat) ^ 4 ≤ 2 ^ atK X' n := Nat.pow_le_pow_right (by omega) (by omega)
  omega

/-- the world of all sets of atoms, of n things -/
def clsF (n : Nat) (a : Nat) : Int := setOf (fun b => withinB ((b : Int) + 1) ((a : Int) + 1)) n

theorem cls_bit {n a b : Nat} (hn : n ≤ 7) (hb : b < n) : hasB (clsF n a) b = withinB ((b : Int) + 1) ((a : Int) + 1) := by
  unfold clsF; rw [setOf_bit _ _ _ (by omega), decide_eq_true hb, Bool.true_and]
theorem clsF_rng (n a : Nat) (h7 : n ≤ 7) : 0 ≤ clsF n a ∧ clsF n a < 2 ^ n := setOf_rng _ n (by omega)
theorem clsF_I64 (n a : Nat) : I64 (clsF n a) := setOf_I64 _ _

/-- names differ, and a part is a part by its name -/
theorem name_inj {n : Nat} {f : Nat → Int} (h64 : ∀ i, i < n → I64 (f i)) (hc : classB n f = true) {a b : Nat} (ha : a < n) (hb : b < n) (h : nameI n f a = nameI n f b) : a = b := by
  have hP := ((strong_iff h64).1 (class_split hc).1).1
  obtain ⟨X, e, _, _⟩ := atoms_nat (f := f) hP.hi
  obtain ⟨i, _, h2, h3⟩ := name_at hP e ha
  obtain ⟨j, _, h5, h6⟩ := name_at hP e hb
  have : i = j := by omega
  subst this
  exact strong_inj h64 (class_split hc).1 ha hb (by rw [← h2, ← h5])

theorem name_lt {n : Nat} {f : Nat → Int} (h64 : ∀ i, i < n → I64 (f i)) (hc : classB n f = true) {a : Nat} (ha : a < n) : ∃ i : Nat, i < n ∧ nameI n f a = i := by
  have hP := ((strong_iff h64).1 (class_split hc).1).1
  obtain ⟨X, e, _, _⟩ := atoms_nat (f := f) hP.hi
  obtain ⟨i, h1, h2, h3⟩ := name_at hP e ha
  rw [(class_len h64 hc e).1] at h1
  exact ⟨i, h1, h3⟩

theorem name_part {n : Nat} {f : Nat → Int} (h64 : ∀ i, i < n → I64 (f i)) (hc : classB n f = true) {a b i j : Nat} (ha : a < n) (hb : b < n) (hi : nameI n f a = i) (hj : nameI n f b = j) : hasB (f b) a = withinB ((i : Int) + 1) ((j : Int) + 1) := by
  have hs := (class_split hc).1
  have hP := ((strong_iff h64).1 hs).1
  have h7 := hP.hi
  obtain ⟨X, e, hX2, h128⟩ := atoms_nat (f := f) h7
  have h3 := (class_len h64 hc e).2.1
  have e1 : cmpK X (ainI n f a) 7 = (i : Int) + 1 := by have := name_cmp h7 e a; omega
  have e2 : cmpK X (ainI n f b) 7 = (j : Int) + 1 := by have := name_cmp h7 e b; omega
  rw [← e1, ← e2, pair_at h128 (by rw [at_up hX2 7 h7]; exact h3) (ain_mem hP ha e) (ain_mem hP hb e)]
  by_cases hab : a = b
  · subst hab; rw [hP.self a ha, within_self]
  · have hm : madeB n f = true := by rw [← strong_made h64]; exact hs
    unfold madeB at hm
    rw [Bool.and_eq_true, eachB_iff] at hm
    have := hm.2 a ha b hb hab
    unfold madeC at this
    exact beq_iff_eq.1 this

/-- the parts of a thing of a world of sets -/
def wfF (n : Nat) (f : Nat → Int) (a : Nat) : Int := setOf (fun b => withinB (f b) (f a)) n
end Go.Proofs.Ytndcnfbncepihaa
