import Derived.Test.YthaickihoagnmaaGreatDoorQB4
namespace Go.Proofs.YthaickihoagnmaaGreatDoor
open Go.RowKit
def classB (n : Nat) (f : Nat → Int) : Bool := strongB n f && summedB n f
def wfF (n : Nat) (f : Nat → Int) (a : Nat) : Int := setOf (fun b => withinB (f b) (f a)) n
end Go.Proofs.YthaickihoagnmaaGreatDoor
namespace Go.Proofs.YthaickihoagnmaaGreatDoor
open Go.RowKit
def fam (S : Nat → Bool) : Nat → List Int
  | 0 => []
  | k + 1 => if S k then fam S k ++ [(k : Int)] else fam S k
theorem fam_yes {S : Nat → Bool} {k : Nat} (h : S k = true) : fam S (k + 1) = fam S k ++ [(k : Int)] := by rw [fam, if_pos h]
theorem fam_no {S : Nat → Bool} {k : Nat} (h : S k = false) : fam S (k + 1) = fam S k := by rw [fam, if_neg (by rw [h]; decide)]
theorem fam_mem {S : Nat → Bool} {k : Nat} {x : Int} : x ∈ fam S k ↔ ∃ t : Nat, t < k ∧ S t = true ∧ x = t := by
  induction k with
  | zero => simp [fam]
  | succ k ih =>
    cases h : S k with
    | true =>
      rw [fam_yes h, List.mem_append, ih, List.mem_singleton]
      constructor
      · rintro (⟨t, h1, h2, h3⟩ | rfl)
        · exact ⟨t, by omega, h2, h3⟩
        · exact ⟨k, by omega, h, rfl⟩
      · rintro ⟨t, h1, h2, h3⟩
        by_cases e : t = k
        · subst e; exact .inr h3
        · exact .inl ⟨t, by omega, h2, h3⟩
    | false =>
      rw [fam_no h, ih]
      constructor
      · rintro ⟨t, h1, h2, h3⟩; exact ⟨t, by omega, h2, h3⟩
      · rintro ⟨t, h1, h2, h3⟩
        by_cases e : t = k
        · subst e; rw [h] at h2; cases h2
        · exact ⟨t, by omega, h2, h3⟩
theorem fam_len_le (S : Nat → Bool) (k : Nat) : (fam S k).length ≤ k := by
  induction k with
  | zero => exact Nat.le_refl _
  | succ k ih =>
    rw [fam]; split
    · simp; omega
    · omega
theorem fam_congr {S T : Nat → Bool} (k : Nat) (h : ∀ t, t < k → S t = T t) : fam S k = fam T k := by
  induction k with
  | zero => rfl
  | succ k ih => rw [fam, fam, ih (fun t ht => h t (by omega)), h k (by omega)]
def addS (S : Nat → Bool) (x : Nat) : Nat → Bool := fun t => S t || t == x
theorem addS_self (S : Nat → Bool) (x : Nat) : addS S x x = true := by unfold addS; simp
theorem addS_old {S : Nat → Bool} {x t : Nat} (h : t ≠ x) : addS S x t = S t := by unfold addS; simp [h]
theorem addS_sub {S : Nat → Bool} {x t : Nat} (h : S t = true) : addS S x t = true := by unfold addS; rw [h]; rfl
theorem addS_iff {S : Nat → Bool} {x t : Nat} : addS S x t = true ↔ S t = true ∨ t = x := by unfold addS; simp
theorem addS_have {S : Nat → Bool} {x : Nat} (h : S x = true) : addS S x = S := by
  funext t; unfold addS
  by_cases e : t = x
  · subst e; simp [h]
  · simp [e]
theorem fam_split (S : Nat → Bool) (x k : Nat) (h : x ≤ k) : ∃ R, fam S k = fam S x ++ R ∧ ∀ y ∈ R, (x : Int) ≤ y := by
  induction k with
  | zero =>
    have : x = 0 := by omega
    subst this
    exact ⟨[], rfl, by simp⟩
  | succ k ih =>
    by_cases e : x = k + 1
    · subst e; exact ⟨[], by simp, by simp⟩
    · obtain ⟨R, h1, h2⟩ := ih (by omega)
      cases hs : S k with
      | true =>
        refine ⟨R ++ [(k : Int)], by rw [fam_yes hs, h1, List.append_assoc], fun y hy => ?_⟩
        rcases List.mem_append.1 hy with hy | hy
        · exact h2 y hy
        · rw [List.mem_singleton] at hy; omega
      | false => exact ⟨R, by rw [fam_no hs, h1], h2⟩
theorem fam_add {S : Nat → Bool} {x k : Nat} (hx : x < k) (hn : S x = false) : ∃ R, fam S k = fam S x ++ R ∧ fam (addS S x) k = fam S x ++ ((x : Int) :: R) ∧ ∀ y ∈ R, (x : Int) < y := by
  induction k with
  | zero => omega
  | succ k ih =>
    by_cases e : x = k
    · subst e
      refine ⟨[], by rw [fam_no hn]; simp, ?_, by simp⟩
      rw [fam_yes (addS_self S x), fam_congr x (fun t ht => addS_old (S := S) (x := x) (by omega))]
    · obtain ⟨R, h1, h2, h3⟩ := ih (by omega)
      have ek : addS S x k = S k := addS_old (by omega)
      cases hs : S k with
      | true =>
        refine ⟨R ++ [(k : Int)], by rw [fam_yes hs, h1, List.append_assoc], by rw [fam_yes (by rw [ek]; exact hs), h2, List.append_assoc]; rfl, fun y hy => ?_⟩
        rcases List.mem_append.1 hy with hy | hy
        · exact h3 y hy
        · rw [List.mem_singleton] at hy; omega
      | false => exact ⟨R, by rw [fam_no hs, h1], by rw [fam_no (by rw [ek]; exact hs), h2], h3⟩
theorem fam_add_len {S : Nat → Bool} {x k : Nat} (hx : x < k) (hn : S x = false) : (fam (addS S x) k).length = (fam S k).length + 1 := by
  obtain ⟨R, h1, h2, _⟩ := fam_add hx hn
  rw [h1, h2]; simp; omega
theorem fam_lo {S : Nat → Bool} {k : Nat} {x : Int} (h : x ∈ fam S k) : 0 ≤ x ∧ x < k := by
  obtain ⟨t, h1, _, rfl⟩ := fam_mem.1 h; omega
theorem fam_diff {S F : Nat → Bool} (k : Nat) (h : ∀ t, S t = true → F t = true) : (fam F k).length = (fam S k).length + (fam (fun t => F t && !S t) k).length := by
  induction k with
  | zero => rfl
  | succ k ih =>
    cases hs : S k with
    | true =>
      rw [fam_yes (h k hs), fam_yes hs, fam_no (S := fun t => F t && !S t) (by simp [hs])]
      simp; omega
    | false =>
      cases hf : F k with
      | true => rw [fam_yes hf, fam_no hs, fam_yes (S := fun t => F t && !S t) (by simp [hs, hf])]; simp; omega
      | false => rw [fam_no hf, fam_no hs, fam_no (S := fun t => F t && !S t) (by simp [hf])]; omega
theorem append_getD_left {A R : List Int} {i : Nat} (h : i < A.length) : (A ++ R).getD i 0 = A.getD i 0 := by
  rw [List.getD_eq_getElem?_getD, List.getD_eq_getElem?_getD, List.getElem?_append_left h]
theorem append_getD_right {A R : List Int} {i : Nat} (h : A.length ≤ i) : (A ++ R).getD i 0 = R.getD (i - A.length) 0 := by
  rw [List.getD_eq_getElem?_getD, List.getD_eq_getElem?_getD, List.getElem?_append_right h]
theorem getD_in {xs : List Int} {i : Nat} (hi : i < xs.length) : xs.getD i 0 ∈ xs := by
  rw [List.getD_eq_getElem?_getD, List.getElem?_eq_getElem hi]; exact List.getElem_mem _
theorem fam_place (S : Nat → Bool) (x k : Nat) (hx : x < k) : (fam S x).length ≤ (fam S k).length ∧ (∀ i, i < (fam S x).length → (fam S k).getD i 0 < x) ∧ (∀ i, (fam S x).length ≤ i → i < (fam S k).length → (x : Int) ≤ (fam S k).getD i 0) ∧
    (decide ((fam S x).length < (fam S k).length) && ((fam S k).getD (fam S x).length 0 == (x : Int))) = S x := by
  obtain ⟨R, h1, h2⟩ := fam_split S x k (by omega)
  refine ⟨by rw [h1, List.length_append]; omega, fun i hi => ?_, fun i hi hl => ?_, ?_⟩
  · rw [h1, append_getD_left hi]; exact (fam_lo (getD_in hi)).2
  · rw [h1, List.length_append] at hl
    rw [h1, append_getD_right hi]
    exact h2 _ (getD_in (by omega))
  · cases hs : S x with
    | true =>
      obtain ⟨R', h3, _⟩ := fam_split S (x + 1) k (by omega)
      rw [fam_yes hs, List.append_assoc] at h3
      rw [h3, append_getD_right (Nat.le_refl _), Nat.sub_self, List.length_append]
      simp
    | false =>
      obtain ⟨R', h3, h4⟩ := fam_split S (x + 1) k (by omega)
      rw [fam_no hs] at h3
      rw [Bool.and_eq_false_iff]
      by_cases hl : (fam S x).length < (fam S k).length
      · right
        rw [beq_eq_false_iff_ne]
        rw [h3, List.length_append] at hl
        rw [h3, append_getD_right (Nat.le_refl _), Nat.sub_self]
        have := h4 _ (getD_in (xs := R') (i := 0) (by omega))
        omega
      · left; exact decide_eq_false hl
def famOkB (n : Nat) (f : Nat → Int) : Bool := decide (1 ≤ n ∧ n ≤ 7) && decide (∀ k, k < n → (1 ≤ f k ∧ f k ≤ 15) ∧ ∀ j, j < k → f j ≠ f k)
def memS (n : Nat) (f : Nat → Int) (t : Nat) : Bool := decide (∃ k, k < n ∧ f k = (t : Int))
structure FamP (n : Nat) (f : Nat → Int) : Prop where
  lo : 1 ≤ n
  hi : n ≤ 7
  rng : ∀ k, k < n → 1 ≤ f k ∧ f k ≤ 15
  inj : ∀ k, k < n → ∀ j, j < n → f j = f k → j = k
theorem famOk_iff {n : Nat} {f : Nat → Int} : famOkB n f = true ↔ FamP n f := by
  unfold famOkB
  rw [Bool.and_eq_true, decide_eq_true_eq, decide_eq_true_eq]
  constructor
  · rintro ⟨⟨h1, h2⟩, h3⟩
    refine ⟨h1, h2, fun k hk => (h3 k hk).1, fun k hk j hj e => ?_⟩
    apply Classical.byContradiction; intro hne
    rcases Nat.lt_or_gt_of_ne hne with h | h
    · exact (h3 k hk).2 j h e
    · exact (h3 j hj).2 k h e.symm
  · intro h
    exact ⟨⟨h.lo, h.hi⟩, fun k hk => ⟨h.rng k hk, fun j hj e => by have := h.inj k hk j (by omega) e; omega⟩⟩
theorem famOk_no {n : Nat} {f : Nat → Int} {k : Nat} (hk : k < n) (h : ¬ ((1 ≤ f k ∧ f k ≤ 15) ∧ ∀ j, j < k → f j ≠ f k)) : famOkB n f = false := by
  unfold famOkB; rw [decide_eq_false (p := ∀ k, k < n → (1 ≤ f k ∧ f k ≤ 15) ∧ ∀ j, j < k → f j ≠ f k) (fun h' => h (h' k hk)), Bool.and_false]
theorem famOk_len {n : Nat} {f : Nat → Int} (h : ¬ (1 ≤ n ∧ n ≤ 7)) : famOkB n f = false := by
  unfold famOkB; rw [decide_eq_false h, Bool.false_and]
theorem famOk_of {n : Nat} {f : Nat → Int} (h1 : 1 ≤ n) (h2 : n ≤ 7) (h : ∀ k, k < n → (1 ≤ f k ∧ f k ≤ 15) ∧ ∀ j, j < k → f j ≠ f k) : famOkB n f = true := by
  unfold famOkB; rw [decide_eq_true ⟨h1, h2⟩, decide_eq_true h]; rfl
theorem FamP.nat {n : Nat} {f : Nat → Int} (h : FamP n f) {k : Nat} (hk : k < n) : ∃ x : Nat, f k = x ∧ 1 ≤ x ∧ x < 16 := by
  have := h.rng k hk
  exact ⟨(f k).toNat, by omega, by omega, by omega⟩
theorem memS_iff {n : Nat} {f : Nat → Int} {t : Nat} : memS n f t = true ↔ ∃ k, k < n ∧ f k = (t : Int) := by unfold memS; rw [decide_eq_true_eq]
theorem memS_zero (f : Nat → Int) : memS 0 f = fun _ => false := by
  funext t; unfold memS; exact decide_eq_false (fun ⟨_, h, _⟩ => absurd h (Nat.not_lt_zero _))
theorem fam_none (k : Nat) : fam (fun _ => false) k = [] := by
  induction k with
  | zero => rfl
  | succ k ih => rw [fam_no rfl, ih]
theorem memS_succ {n : Nat} {f : Nat → Int} {x : Nat} (h : f n = (x : Int)) : memS (n + 1) f = addS (memS n f) x := by
  funext t
  rw [Bool.eq_iff_iff, memS_iff, addS_iff, memS_iff]
  constructor
  · rintro ⟨k, h1, h2⟩
    by_cases e : k = n
    · subst e; right; omega
    · exact .inl ⟨k, by omega, h2⟩
  · rintro (⟨k, h1, h2⟩ | rfl)
    · exact ⟨k, by omega, h2⟩
    · exact ⟨n, by omega, h⟩
theorem memS_new {k : Nat} {f : Nat → Int} {x : Nat} (h : f k = (x : Int)) : memS k f x = false ↔ ∀ j, j < k → f j ≠ f k := by
  rw [Bool.eq_false_iff, Ne, memS_iff]
  constructor
  · intro h1 j hj e; exact h1 ⟨j, hj, by omega⟩
  · rintro h1 ⟨j, hj, e⟩; exact h1 j hj (by omega)
theorem mem_len {n : Nat} {f : Nat → Int} (h : FamP n f) : ∀ k, k ≤ n → (fam (memS k f) 16).length = k
  | 0, _ => by rw [memS_zero, fam_none]; rfl
  | k + 1, hk => by
    obtain ⟨x, e, _, hx⟩ := h.nat (k := k) (by omega)
    rw [memS_succ e, fam_add_len hx, mem_len h k (by omega)]
    exact (memS_new e).2 (fun j hj e => by have := h.inj k (by omega) j (by omega) e; omega)
theorem FamP.i64 {n : Nat} {f : Nat → Int} (h : FamP n f) {k : Nat} (hk : k < n) : I64 (f k) := by
  have := h.rng k hk; unfold I64; omega
theorem memS_rng {n : Nat} {f : Nat → Int} (h : FamP n f) {t : Nat} (ht : memS n f t = true) : 1 ≤ t ∧ t < 16 := by
  obtain ⟨k, hk, e⟩ := memS_iff.1 ht
  have := h.rng k hk; omega
theorem within_trans {x y z : Int} (h1 : withinB x y = true) (h2 : withinB y z = true) : withinB x z = true :=
  (within_iff _ _).2 (fun i hi h => (within_iff _ _).1 h2 i hi ((within_iff _ _).1 h1 i hi h))
theorem within_anti {x y : Int} (hx : I64 x) (hy : I64 y) (h1 : withinB x y = true) (h2 : withinB y x = true) : x = y :=
  ext64 _ _ hx hy (fun i hi => by
    rw [Bool.eq_iff_iff]; exact ⟨(within_iff _ _).1 h1 i hi, (within_iff _ _).1 h2 i hi⟩)
theorem within_or (x y : Int) : withinB x (orI x y) = true ∧ withinB y (orI x y) = true :=
  ⟨(within_iff _ _).2 (fun i hi h => by rw [or_bit _ _ _ hi, h]; rfl), (within_iff _ _).2 (fun i hi h => by rw [or_bit _ _ _ hi, h, Bool.or_true])⟩
theorem orI_nat (x y : Nat) (hx : x < 128) (hy : y < 128) : orI x y = ((x ||| y : Nat) : Int) := by
  have h : x ||| y < 128 := Nat.or_lt_two_pow (n := 7) hx hy
  refine ext64 _ _ (orI_I64 _ _) (by unfold I64; omega) (fun i hi => ?_)
  rw [or_bit _ _ _ hi, hasB_nat, hasB_nat, hasB_nat, Nat.testBit_or]
theorem or_nat16 {x y : Nat} (hx : x < 16) (hy : y < 16) : x ||| y < 16 := Nat.or_lt_two_pow (n := 4) hx hy
theorem bit16 {x i : Nat} (hx : x < 16) (h : hasB (x : Int) i = true) : i < 4 := by
  apply Classical.byContradiction; intro hn
  rw [hasB_big (x : Int) 4 (by omega) (by omega) i (by omega)] at h; cases h
theorem wf_bit {n : Nat} {f : Nat → Int} {a b : Nat} (hn : n ≤ 7) (hb : b < n) : hasB (wfF n f a) b = withinB (f b) (f a) := by
  unfold wfF; rw [setOf_bit _ _ _ (by omega), decide_eq_true hb, Bool.true_and]
theorem wf_I64 (n : Nat) (f : Nat → Int) (a : Nat) : I64 (wfF n f a) := setOf_I64 _ _
theorem wf_rng {n : Nat} (f : Nat → Int) (a : Nat) (h7 : n ≤ 7) : 0 ≤ wfF n f a ∧ wfF n f a < 2 ^ n := setOf_rng _ n (by omega)
theorem wf_lt {n : Nat} {f : Nat → Int} {a i : Nat} (h7 : n ≤ 7) (h : hasB (wfF n f a) i = true) : i < n := hasB_lt (wf_rng f a h7) h
theorem wf_P {n : Nat} {f : Nat → Int} (h : FamP n f) : WorldP n (wfF n f) where
  lo := h.lo
  hi := h.hi
  rng := fun a _ => wf_rng f a h.hi
  self := fun a ha => by rw [wf_bit h.hi ha]; exact within_self _
  anti := fun a ha b hb hne h1 => by
    rw [wf_bit h.hi hb] at h1
    rw [wf_bit h.hi ha, Bool.eq_false_iff]
    intro h2
    exact hne (h.inj b hb a ha (within_anti (h.i64 ha) (h.i64 hb) h2 h1))
  trans := fun a ha b hb h1 i h2 => by
    have hi := wf_lt h.hi h2
    rw [wf_bit h.hi hb] at h1
    rw [wf_bit h.hi hi] at h2 ⊢
    exact within_trans h2 h1
theorem wf_world {n : Nat} {f : Nat → Int} (h : FamP n f) : worldB n (wfF n f) = true := (worldB_iff n _ (fun a _ => wf_I64 n f a)).2 (wf_P h)
structure Clos (S : Nat → Bool) (L : Nat → List Int) (F : Nat → Bool) : Prop where
  rng : ∀ s, 1 ≤ s → s < 16 → (L s).length ≤ 16 ∧ ∀ y ∈ L s, ∃ m : Nat, 1 ≤ m ∧ m < 16 ∧ y = m
  sub : ∀ t, S t = true → F t = true
  pos : ∀ t, F t = true → 1 ≤ t ∧ t < 16
  step : ∀ t, F t = true → ∀ m : Nat, (m : Int) ∈ L t → F m = true
  least : ∀ T : Nat → Bool, (∀ t, S t = true → T t = true) → (∀ t, T t = true → F t = true) → (∀ t, T t = true → ∀ m : Nat, (m : Int) ∈ L t → T m = true) → ∀ t, F t = true → T t = true
def ptB (t : Nat) : Bool := t == 1 || t == 2 || t == 4 || t == 8
def FP (S : Nat → Bool) (t : Nat) : Bool := S t || (ptB t && (List.range 16).any (fun s => S s && withinB (t : Int) (s : Int)))
def ptsL (s : Int) : Nat → List Int
  | 0 => []
  | p + 1 => if hasB s p then ptsL s p ++ [(2 : Int) ^ p] else ptsL s p
theorem pts_yes {s : Int} {p : Nat} (h : hasB s p = true) : ptsL s (p + 1) = ptsL s p ++ [(2 : Int) ^ p] := by rw [ptsL, if_pos h]
theorem pts_no {s : Int} {p : Nat} (h : hasB s p = false) : ptsL s (p + 1) = ptsL s p := by rw [ptsL, if_neg (by rw [h]; decide)]
theorem pts_len (s : Int) (p : Nat) : (ptsL s p).length ≤ p := by
  induction p with
  | zero => exact Nat.le_refl _
  | succ k ih =>
    rw [ptsL]; split
    · simp; omega
    · omega
theorem pts_mem {s : Int} {p : Nat} {x : Int} : x ∈ ptsL s p ↔ ∃ i, i < p ∧ hasB s i = true ∧ x = 2 ^ i := by
  induction p with
  | zero => simp [ptsL]
  | succ k ih =>
    cases h : hasB s k with
    | true =>
      rw [pts_yes h, List.mem_append, ih, List.mem_singleton]
      constructor
      · rintro (⟨t, h1, h2, h3⟩ | rfl)
        · exact ⟨t, by omega, h2, h3⟩
        · exact ⟨k, by omega, h, rfl⟩
      · rintro ⟨t, h1, h2, h3⟩
        by_cases e : t = k
        · subst e; exact .inr h3
        · exact .inl ⟨t, by omega, h2, h3⟩
    | false =>
      rw [pts_no h, ih]
      constructor
      · rintro ⟨t, h1, h2, h3⟩; exact ⟨t, by omega, h2, h3⟩
      · rintro ⟨t, h1, h2, h3⟩
        by_cases e : t = k
        · subst e; rw [h] at h2; cases h2
        · exact ⟨t, by omega, h2, h3⟩
theorem pow4 {i : Nat} (hi : i < 4) : ∃ m : Nat, (2 : Int) ^ i = m ∧ 1 ≤ m ∧ m < 16 ∧ ptB m = true ∧ m = 2 ^ i := by
  rcases (show i = 0 ∨ i = 1 ∨ i = 2 ∨ i = 3 by omega) with rfl | rfl | rfl | rfl
  · exact ⟨1, rfl, by omega, by omega, rfl, rfl⟩
  · exact ⟨2, rfl, by omega, by omega, rfl, rfl⟩
  · exact ⟨4, rfl, by omega, by omega, rfl, rfl⟩
  · exact ⟨8, rfl, by omega, by omega, rfl, rfl⟩
theorem pt_pow {t : Nat} (h : ptB t = true) : ∃ i, i < 4 ∧ (2 : Int) ^ i = t := by
  unfold ptB at h
  simp only [Bool.or_eq_true, beq_iff_eq] at h
  rcases h with ((rfl | rfl) | rfl) | rfl
  · exact ⟨0, by omega, rfl⟩
  · exact ⟨1, by omega, rfl⟩
  · exact ⟨2, by omega, rfl⟩
  · exact ⟨3, by omega, rfl⟩
theorem pow_within {i : Nat} {x : Int} : withinB (2 ^ i) x = true ↔ (i < 64 → hasB x i = true) := by
  rw [within_iff]
  constructor
  · intro h hi; exact h i hi (by rw [hasB_pow]; simp)
  · intro h j hj hb
    rw [hasB_pow, decide_eq_true_eq] at hb
    subst hb; exact h hj
theorem FP_iff {S : Nat → Bool} {t : Nat} : FP S t = true ↔ S t = true ∨ (ptB t = true ∧ ∃ s, s < 16 ∧ S s = true ∧ withinB (t : Int) (s : Int) = true) := by
  unfold FP; rw [Bool.or_eq_true, Bool.and_eq_true, List.any_eq_true]
  simp only [List.mem_range, Bool.and_eq_true]
theorem clos_pts {S : Nat → Bool} (hS : ∀ t, S t = true → 1 ≤ t ∧ t < 16) : Clos S (fun s => ptsL (s : Int) 4) (FP S) where
  rng := fun s _ _ => ⟨by have := pts_len (s : Int) 4; omega, fun y hy => by
    obtain ⟨i, hi, _, rfl⟩ := pts_mem.1 hy
    obtain ⟨m, e, h1, h2, _⟩ := pow4 hi
    exact ⟨m, h1, h2, e⟩⟩
  sub := fun t h => FP_iff.2 (.inl h)
  pos := fun t h => by
    rcases FP_iff.1 h with h | ⟨h, _⟩
    · exact hS t h
    · obtain ⟨i, hi, e⟩ := pt_pow h
      obtain ⟨m, e2, h1, h2, _⟩ := pow4 hi
      omega
  step := fun t ht m hm => by
    obtain ⟨i, hi, hb, e⟩ := pts_mem.1 hm
    obtain ⟨m', e2, h1, h2, h3, _⟩ := pow4 hi
    have hmm : m' = m := by omega
    subst hmm
    have key : ∀ s : Nat, S s = true → withinB (t : Int) (s : Int) = true → FP S m' = true := fun s hs hw =>
      FP_iff.2 (.inr ⟨h3, s, (hS s hs).2, hs, by rw [e]; exact pow_within.2 (fun _ => (within_iff _ _).1 hw i (by omega) hb)⟩)
    rcases FP_iff.1 ht with ht | ⟨_, s, _, hs, hw⟩
    · exact key t ht (within_self _)
    · exact key s hs hw
  least := fun T h1 _ h3 t ht => by
    rcases FP_iff.1 ht with ht | ⟨hp, s, hs16, hs, hw⟩
    · exact h1 t ht
    · obtain ⟨i, hi, e⟩ := pt_pow hp
      refine h3 s (h1 s hs) t (pts_mem.2 ⟨i, hi, ?_, e.symm⟩)
      rw [← e] at hw
      exact pow_within.1 hw (by omega)
def gotK (f : Nat → Int) (t : Int) : Nat → Int
  | 0 => 0
  | k + 1 => if withinB (f k) t then orI (gotK f t k) (f k) else gotK f t k
theorem got_yes {f : Nat → Int} {t : Int} {k : Nat} (h : withinB (f k) t = true) : gotK f t (k + 1) = bits .or .i64 (gotK f t k) (f k) := by rw [gotK, if_pos h]; rfl
theorem got_no {f : Nat → Int} {t : Int} {k : Nat} (h : withinB (f k) t = false) : gotK f t (k + 1) = gotK f t k := by rw [gotK, if_neg (by rw [h]; decide)]
theorem got_bit {f : Nat → Int} {t : Int} {k i : Nat} (hi : i < 64) : hasB (gotK f t k) i = true ↔ ∃ j, j < k ∧ withinB (f j) t = true ∧ hasB (f j) i = true := by
  induction k with
  | zero => rw [gotK, hasB_zero]; simp
  | succ k ih =>
    cases h : withinB (f k) t with
    | true =>
      rw [gotK, if_pos h, or_bit _ _ _ hi, Bool.or_eq_true, ih]
      constructor
      · rintro (⟨j, h1, h2, h3⟩ | h3)
        · exact ⟨j, by omega, h2, h3⟩
        · exact ⟨k, by omega, h, h3⟩
      · rintro ⟨j, h1, h2, h3⟩
        by_cases e : j = k
        · subst e; exact .inr h3
        · exact .inl ⟨j, by omega, h2, h3⟩
    | false =>
      rw [got_no h, ih]
      constructor
      · rintro ⟨j, h1, h2, h3⟩; exact ⟨j, by omega, h2, h3⟩
      · rintro ⟨j, h1, h2, h3⟩
        by_cases e : j = k
        · subst e; rw [h] at h2; cases h2
        · exact ⟨j, by omega, h2, h3⟩
theorem got_I64 (f : Nat → Int) (t : Int) (k : Nat) : I64 (gotK f t k) := by
  induction k with
  | zero => exact I64_zero
  | succ k ih => rw [gotK]; split; exact orI_I64 _ _; exact ih
def FS (n : Nat) (f : Nat → Int) (t : Nat) : Bool := decide (1 ≤ t ∧ t < 16) && (gotK f (t : Int) n == (t : Int))
theorem FS_iff {n : Nat} {f : Nat → Int} {t : Nat} : FS n f t = true ↔ (1 ≤ t ∧ t < 16) ∧ ∀ i, i < 4 → hasB (t : Int) i = true → ∃ j, j < n ∧ withinB (f j) (t : Int) = true ∧ hasB (f j) i = true := by
  unfold FS
  rw [Bool.and_eq_true, decide_eq_true_eq, beq_iff_eq]
  constructor
  · rintro ⟨h1, h2⟩
    refine ⟨h1, fun i hi hb => (got_bit (by omega)).1 (by rw [h2]; exact hb)⟩
  · rintro ⟨h1, h2⟩
    refine ⟨h1, ext64 _ _ (got_I64 _ _ _) (by unfold I64; omega) (fun i hi => ?_)⟩
    rw [Bool.eq_iff_iff, got_bit hi]
    constructor
    · rintro ⟨j, _, h3, h4⟩; exact (within_iff _ _).1 h3 i hi h4
    · intro hb; exact h2 i (bit16 h1.2 hb) hb
theorem FS_sub {n : Nat} {f : Nat → Int} (h : FamP n f) {t : Nat} (ht : memS n f t = true) : FS n f t = true := by
  have hr := memS_rng h ht
  obtain ⟨k, hk, e⟩ := memS_iff.1 ht
  exact FS_iff.2 ⟨hr, fun i hi hb => ⟨k, hk, by rw [e]; exact within_self _, by rw [e]; exact hb⟩⟩
theorem FS_or {n : Nat} {f : Nat → Int} {t u m : Nat} (ht : FS n f t = true) (hu : FS n f u = true) (hm : orI (t : Int) (u : Int) = m) : FS n f m = true := by
  obtain ⟨h1, h2⟩ := FS_iff.1 ht
  obtain ⟨h3, h4⟩ := FS_iff.1 hu
  have em := orI_nat t u (by omega) (by omega)
  have h5 := or_nat16 h1.2 h3.2
  have h6 : t ≤ t ||| u := Nat.left_le_or
  refine FS_iff.2 ⟨by omega, fun i hi hb => ?_⟩
  rw [← hm] at hb ⊢
  rw [or_bit _ _ _ (by omega), Bool.or_eq_true] at hb
  rcases hb with hb | hb
  · obtain ⟨j, hj, hw, hbj⟩ := h2 i hi hb
    exact ⟨j, hj, within_trans hw (within_or _ _).1, hbj⟩
  · obtain ⟨j, hj, hw, hbj⟩ := h4 i hi hb
    exact ⟨j, hj, within_trans hw (within_or _ _).2, hbj⟩
theorem FS_least {n : Nat} {f : Nat → Int} (h : FamP n f) {T : Nat → Bool} (h1 : ∀ t, memS n f t = true → T t = true) (h2 : ∀ t u m : Nat, t < 16 → T t = true → memS n f u = true → orI (t : Int) (u : Int) = m → T m = true) {t : Nat} (ht : FS n f t = true) : T t = true := by
  have hr := (FS_iff.1 ht).1
  have key : ∀ k, k ≤ n → gotK f (t : Int) k = 0 ∨ ∃ y : Nat, gotK f (t : Int) k = y ∧ y < 16 ∧ T y = true := by
    intro k
    induction k with
    | zero => intro _; left; rfl
    | succ k ih =>
      intro hk
      obtain ⟨x, e, hx1, hx⟩ := h.nat (k := k) (by omega)
      have hmx : memS n f x = true := memS_iff.2 ⟨k, by omega, e⟩
      cases hw : withinB (f k) (t : Int) with
      | false => rw [got_no hw]; exact ih (by omega)
      | true =>
        right
        rw [gotK, if_pos hw, e]
        rcases ih (by omega) with h0 | ⟨y, ey, hy, hT⟩
        · rw [h0]
          exact ⟨x, by
            have := orI_nat 0 x (by omega) (by omega)
            rw [Nat.zero_or] at this; exact this, hx, h1 x hmx⟩
        · rw [ey]
          exact ⟨y ||| x, orI_nat y x (by omega) (by omega), or_nat16 hy hx, h2 y x _ hy hT hmx (orI_nat y x (by omega) (by omega))⟩
  rcases key n (Nat.le_refl _) with h0 | ⟨y, ey, _, hT⟩
  · unfold FS at ht; rw [h0] at ht; simp at ht; omega
  · unfold FS at ht
    rw [Bool.and_eq_true, beq_iff_eq] at ht
    have : y = t := by omega
    subst this; exact hT
def sumL (S : Nat → Bool) (s : Int) : List Int := (fam S 16).map (fun y => orI s y)
theorem clos_sums {n : Nat} {f : Nat → Int} (h : FamP n f) : Clos (memS n f) (fun s => sumL (memS n f) (s : Int)) (FS n f) where
  rng := fun s h1 hs => ⟨by unfold sumL; rw [List.length_map]; exact fam_len_le _ _, fun y hy => by
    obtain ⟨z, hz, rfl⟩ := List.mem_map.1 hy
    obtain ⟨t, ht, _, rfl⟩ := fam_mem.1 hz
    exact ⟨s ||| t, by have : s ≤ s ||| t := Nat.left_le_or
                       omega, or_nat16 hs ht, orI_nat s t (by omega) (by omega)⟩⟩
  sub := fun t ht => FS_sub h ht
  pos := fun t ht => (FS_iff.1 ht).1
  step := fun t ht m hm => by
    obtain ⟨z, hz, e⟩ := List.mem_map.1 hm
    obtain ⟨u, hu, hu2, rfl⟩ := fam_mem.1 hz
    exact FS_or ht (FS_sub h hu2) e
  least := fun T h1 _ h3 t ht => FS_least h h1 (fun t u m ht hT hu e => h3 t hT m (by
    have hu16 := (memS_rng h hu).2
    exact List.mem_map.2 ⟨u, fam_mem.2 ⟨u, hu16, hu, rfl⟩, e⟩)) ht
def newS (F S : Nat → Bool) (t : Nat) : Bool := F t && !S t
def withL (n : Nat) (f : Nat → Int) (F : Nat → Bool) (k : Nat) : List Int := (List.range n).map f ++ fam (newS F (memS n f)) k
def roomB (n : Nat) (f : Nat → Int) (F : Nat → Bool) : Bool := famOkB n f && decide ((withL n f F 16).length ≤ 7)
def doneL (n : Nat) (f : Nat → Int) (F : Nat → Bool) : List Int := if roomB n f F then withL n f F 16 else []
theorem with_len (n : Nat) (f : Nat → Int) (F : Nat → Bool) (k : Nat) : (withL n f F k).length = n + (fam (newS F (memS n f)) k).length := by
  unfold withL; rw [List.length_append, List.length_map, List.length_range]
theorem with_all {n : Nat} {f : Nat → Int} (h : FamP n f) {F : Nat → Bool} (hF : ∀ t, memS n f t = true → F t = true) : (withL n f F 16).length = (fam F 16).length := by
  rw [with_len, fam_diff 16 hF, mem_len h n (Nat.le_refl _)]
  rfl
end Go.Proofs.YthaickihoagnmaaGreatDoor
namespace Go.Proofs.YthaickihoagnmaaGreatDoor
set_option linter.unusedVariables false
set_option linter.unusedSimpArgs false
def famL (xs : List Int) : Bool := famOkB xs.length (fun i => xs.getD i 0)
def deskB (xs : List Int) (L : List (List Int)) : Bool := famL xs && (decide (L.length ≤ 8) && L.all famL)
theorem deskB_iff {xs : List Int} {L : List (List Int)} : deskB xs L = true ↔ famL xs = true ∧ L.length ≤ 8 ∧ ∀ l ∈ L, famL l = true := by
  unfold deskB
  simp only [Bool.and_eq_true, decide_eq_true_eq, List.all_eq_true]
def mdL (xs : List Int) (k x : Int) : List Int :=
  if k = 0 then xs ++ [x] else if k = 1 then xs.filter (fun y => y != x) else if k = 2 then doneL xs.length (fun i => xs.getD i 0) (FP (memS xs.length (fun i => xs.getD i 0)))
  else if k = 3 then doneL xs.length (fun i => xs.getD i 0) (FS xs.length (fun i => xs.getD i 0)) else []
def chB (xs : List Int) (k x : Int) : Bool := dOk k x && (famL (mdL xs k x) && decide ((mdL xs k x).length ≠ xs.length))
def dkB (xs : List Int) (L : List (List Int)) (k x : Int) : Bool := deskB xs L && (if k = 4 then decide (x = 0) && decide (L ≠ []) else chB xs k x)
def dkX (xs : List Int) (L : List (List Int)) (k x : Int) : List Int := if dkB xs L k x then (if k = 4 then L.getLastD [] else mdL xs k x) else if deskB xs L then xs else []
def dkL (xs : List Int) (L : List (List Int)) (k x : Int) : List (List Int) := if dkB xs L k x then (if k = 4 then L.dropLast else (L ++ [xs]).drop (L.length - 7)) else if deskB xs L then L else []
theorem famL_nil : famL [] = false := by decide +kernel
theorem famL_P {xs : List Int} (h : famL xs = true) : FamP xs.length (fun i => xs.getD i 0) := famOk_iff.1 h
theorem famL_len {xs : List Int} (h : famL xs = true) : 1 ≤ xs.length ∧ xs.length ≤ 7 := ⟨(famL_P h).lo, (famL_P h).hi⟩
theorem famL_rng {xs : List Int} (h : famL xs = true) : ∀ x ∈ xs, 1 ≤ x ∧ x ≤ 15 := by
  intro x hx
  obtain ⟨i, hi, rfl⟩ := List.getElem_of_mem hx
  have := (famL_P h).rng i hi
  rw [List.getD_eq_getElem?_getD, List.getElem?_eq_getElem hi] at this
  exact this
theorem famL_I64 {xs : List Int} (h : famL xs = true) : ∀ x ∈ xs, I64 x := fun x hx => by have := famL_rng h x hx; unfold I64; omega
section
variable {xs : List Int} {L : List (List Int)} {k x : Int}
theorem dk_no (h : dkB xs L k x = false) (hd : deskB xs L = true) : dkX xs L k x = xs ∧ dkL xs L k x = L := by
  unfold dkX dkL
  rw [h, hd]
  exact ⟨rfl, rfl⟩
theorem dk_none (h : deskB xs L = false) : dkB xs L k x = false ∧ dkX xs L k x = [] ∧ dkL xs L k x = [] := by
  have e : dkB xs L k x = false := by unfold dkB; rw [h, Bool.false_and]
  refine ⟨e, ?_, ?_⟩
  · unfold dkX; rw [e, h]; rfl
  · unfold dkL; rw [e, h]; rfl
theorem dkB_text (h : dOk k x = false) : dkB xs L k x = false := by
  unfold dkB
  by_cases e : k = 4
  · subst e
    have hx : x ≠ 0 := by
      intro hx
      have := dOk_iff.2 (.inr ⟨by omega, by omega, hx⟩ : (0 ≤ (4 : Int) ∧ (4 : Int) ≤ 1 ∧ 1 ≤ x ∧ x ≤ 15) ∨ (2 ≤ (4 : Int) ∧ (4 : Int) ≤ 4 ∧ x = 0))
      rw [this] at h; cases h
    rw [if_pos rfl, decide_eq_false hx, Bool.false_and, Bool.and_false]
  · rw [if_neg e]
    unfold chB
    rw [h, Bool.false_and, Bool.and_false]
theorem dkB_back (h : deskB xs L = true) : dkB xs L 4 0 = decide (L ≠ []) := by
  unfold dkB
  rw [h, if_pos rfl]
  simp
theorem dk_back (h : deskB xs L = true) (hL : L ≠ []) : dkX xs L 4 0 = L.getLastD [] ∧ dkL xs L 4 0 = L.dropLast := by
  have e : dkB xs L 4 0 = true := by rw [dkB_back h]; simpa using hL
  unfold dkX dkL
  rw [e]
  exact ⟨by rw [if_pos rfl, if_pos rfl], by rw [if_pos rfl, if_pos rfl]⟩
theorem dkB_ch (h : deskB xs L = true) (hk : k ≠ 4) : dkB xs L k x = chB xs k x := by
  unfold dkB
  rw [h, if_neg hk, Bool.true_and]
theorem dk_ch (h : deskB xs L = true) (hk : k ≠ 4) (hc : chB xs k x = true) : dkX xs L k x = mdL xs k x ∧ dkL xs L k x = (L ++ [xs]).drop (L.length - 7) := by
  have e : dkB xs L k x = true := by rw [dkB_ch h hk]; exact hc
  unfold dkX dkL
  rw [e]
  exact ⟨by rw [if_pos rfl, if_neg hk], by rw [if_pos rfl, if_neg hk]⟩
theorem chB_iff : chB xs k x = true ↔ dOk k x = true ∧ famL (mdL xs k x) = true ∧ (mdL xs k x).length ≠ xs.length := by
  unfold chB
  simp only [Bool.and_eq_true, decide_eq_true_eq]
theorem chB_fam (h : famL (mdL xs k x) = false) : chB xs k x = false := by unfold chB; rw [h, Bool.false_and, Bool.and_false]
theorem dk_desk (h : deskB xs L = true) : deskB (dkX xs L k x) (dkL xs L k x) = true := by
  cases hb : dkB xs L k x with
  | false => rw [(dk_no hb h).1, (dk_no hb h).2]; exact h
  | true =>
    obtain ⟨h1, h2, h3⟩ := deskB_iff.1 h
    by_cases e : k = 4
    · subst e
      have hx : x = 0 ∧ L ≠ [] := by
        unfold dkB at hb
        rw [h, if_pos rfl, Bool.true_and, Bool.and_eq_true, decide_eq_true_eq, decide_eq_true_eq] at hb
        exact hb
      obtain ⟨rfl, hL⟩ := hx
      obtain ⟨e1, e2⟩ := dk_back h hL
      rw [e1, e2, deskB_iff]
      refine ⟨?_, by rw [List.length_dropLast]; omega, fun l hl => h3 l (List.dropLast_subset L hl)⟩
      rw [List.getLastD_eq_getLast?, List.getLast?_eq_some_getLast hL]
      exact h3 _ (List.getLast_mem hL)
    · rw [dkB_ch h e] at hb
      obtain ⟨e1, e2⟩ := dk_ch h e hb
      rw [e1, e2, deskB_iff]
      refine ⟨(chB_iff.1 hb).2.1, by rw [List.length_drop, List.length_append, List.length_singleton]; omega, fun l hl => ?_⟩
      rcases List.mem_append.1 (List.mem_of_mem_drop hl) with hl | hl
      · exact h3 l hl
      · rw [List.mem_singleton] at hl; rw [hl]; exact h1
end
def runD : List Int → List (List Int) → List (Int × Int) → List Int × List (List Int) × Nat
  | xs, L, [] => (xs, L, 0)
  | xs, L, d :: ds => ((runD (dkX xs L d.1 d.2) (dkL xs L d.1 d.2) ds).1, (runD (dkX xs L d.1 d.2) (dkL xs L d.1 d.2) ds).2.1, (if dkB xs L d.1 d.2 then 1 else 0) + (runD (dkX xs L d.1 d.2) (dkL xs L d.1 d.2) ds).2.2)
theorem run_desk {xs : List Int} {L : List (List Int)} (h : deskB xs L = true) (ds : List (Int × Int)) : deskB (runD xs L ds).1 (runD xs L ds).2.1 = true := by
  induction ds generalizing xs L with
  | nil => exact h
  | cons e ds ih => exact ih (dk_desk h)
end Go.Proofs.YthaickihoagnmaaGreatDoor
