import Derived.Test.YtglnefffkcillaaOwnX
import Derived.RangeFuncWrites
import Derived.RangeFuncBox
import Derived.Lib.SliceRun
import Derived.Test.YtglnefffkcillaaBaseB
import Derived.RangeFuncNested
import Derived.RangeFuncBound
import Derived.RangeFuncCalls
import Derived.RangeFuncLeaves
import Derived.Shelf.Abstract
import Derived.Shelf.RegionOpen
import Derived.WalkKit
import Derived.OwnWalkIn
import Derived.TacticsInMore
import Derived.LoopNIn
import Derived.LoopIn
import Derived.Maps.OwnIn
namespace Go.Proofs.Ytglnefffkcillaa
set_option linter.unusedVariables false
set_option linter.unusedSimpArgs false

/-- a value is among the first n -/
def inF (v : Int) (n : Nat) (f : Nat → Int) : Bool := (List.range n).any (fun k => f k == v)
theorem inF_iff {v : Int} {n : Nat} {f : Nat → Int} : inF v n f = true ↔ ∃ k, k < n ∧ f k = v := by
  unfold inF
  rw [List.any_eq_true]
  constructor
  · rintro ⟨k, h1, h2⟩
    exact ⟨k, List.mem_range.1 h1, by simpa using h2⟩
  · rintro ⟨k, h1, h2⟩
    exact ⟨k, List.mem_range.2 h1, by simpa using h2⟩
theorem inF_no {v : Int} {n : Nat} {f : Nat → Int} : inF v n f = false ↔ ∀ k, k < n → f k ≠ v := by
  cases h : inF v n f with
  | true => 
    obtain ⟨k, h1, h2⟩ := inF_iff.1 h
    exact ⟨fun h => (by cases h), fun h => absurd h2 (h k h1)⟩
  | false => exact ⟨fun _ k hk e => (by rw [inF_iff.2 ⟨k, hk, e⟩] at h; cases h), fun _ => rfl⟩
theorem inF_zero (v : Int) (f : Nat → Int) : inF v 0 f = false := rfl
theorem inF_succ (v : Int) (n : Nat) (f : Nat → Int) : inF v (n + 1) f = (inF v n f || f n == v) := by
  unfold inF; rw [List.range_succ, List.any_append]; simp
theorem inF_congr {v : Int} {n : Nat} {f g : Nat → Int} (h : ∀ k, k < n → f k = g k) : inF v n f = inF v n g := by
  rw [Bool.eq_iff_iff, inF_iff, inF_iff]
  exact ⟨fun ⟨k, h1, h2⟩ => ⟨k, h1, by rw [← h k h1]; exact h2⟩, fun ⟨k, h1, h2⟩ => ⟨k, h1, by rw [h k h1]; exact h2⟩⟩

/-- the number of a plank -/
def pkB (v : Int) : Bool := decide (0 ≤ v) && decide (v ≤ 99)
theorem pkB_iff {v : Int} : pkB v = true ↔ 0 ≤ v ∧ v ≤ 99 := by unfold pkB; simp
/-- the first n planks are in order, and no two are one -/
def shipK (n : Nat) (f : Nat → Int) : Bool := (List.range n).all (fun k => pkB (f k) && !inF (f k) k f)
theorem shipK_succ (n : Nat) (f : Nat → Int) : shipK (n + 1) f = (shipK n f && (pkB (f n) && !inF (f n) n f)) := by
  unfold shipK; rw [List.range_succ, List.all_append]; simp
theorem shipK_at {n : Nat} {f : Nat → Int} (h : shipK n f = true) {k : Nat} (hk : k < n) : pkB (f k) = true ∧ inF (f k) k f = false := by
  unfold shipK at h
  rw [List.all_eq_true] at h
  have := h k (List.mem_range.2 hk)
  simpa using this
theorem shipK_no {n : Nat} {f : Nat → Int} {k : Nat} (hk : k < n) (h : (pkB (f k) && !inF (f k) k f) = false) : shipK n f = false := by
  cases e : shipK n f with
  | true =>
    obtain ⟨h1, h2⟩ := shipK_at e hk
    rw [h1, h2] at h; cases h
  | false => rfl
theorem shipK_of {n : Nat} {f : Nat → Int} (h1 : ∀ k, k < n → 0 ≤ f k ∧ f k ≤ 99) (h2 : ∀ j k, j < k → k < n → f j ≠ f k) : shipK n f = true := by
  unfold shipK
  rw [List.all_eq_true]
  intro k hk
  have hk := List.mem_range.1 hk
  rw [pkB_iff.2 (h1 k hk), inF_no.2 (fun j hj => h2 j k hj hk)]
  rfl
theorem shipK_congr {n : Nat} {f g : Nat → Int} (h : ∀ k, k < n → f k = g k) : shipK n f = shipK n g := by
  induction n with
  | zero => rfl
  | succ n ih => rw [shipK_succ, shipK_succ, ih (fun k hk => h k (by omega)), h n (by omega), inF_congr (fun k hk => h k (by omega))]
/-- a ship -/
def shipB (n : Nat) (f : Nat → Int) : Bool := (decide (1 ≤ n) && decide (n ≤ 6)) && shipK n f
theorem shipB_iff {n : Nat} {f : Nat → Int} : shipB n f = true ↔ 1 ≤ n ∧ n ≤ 6 ∧ shipK n f = true := by unfold shipB; simp [and_assoc]
theorem shipB_congr {n : Nat} {f g : Nat → Int} (h : ∀ k, k < n → f k = g k) : shipB n f = shipB n g := by unfold shipB; rw [shipK_congr h]
theorem ship_few {n : Nat} {f : Nat → Int} (h : n < 1) : shipB n f = false := by unfold shipB; rw [decide_eq_false (by omega : ¬ 1 ≤ n)]; rfl
theorem ship_many {n : Nat} {f : Nat → Int} (h : 6 < n) : shipB n f = false := by unfold shipB; rw [decide_eq_false (by omega : ¬ n ≤ 6), Bool.and_false]; rfl
theorem ship_of {n : Nat} {f : Nat → Int} (h1 : 1 ≤ n) (h6 : n ≤ 6) : shipB n f = shipK n f := by unfold shipB; rw [decide_eq_true h1, decide_eq_true h6]; rfl
theorem ship_pk {n : Nat} {f : Nat → Int} (h : shipB n f = true) {k : Nat} (hk : k < n) : 0 ≤ f k ∧ f k ≤ 99 := pkB_iff.1 (shipK_at (shipB_iff.1 h).2.2 hk).1
theorem ship_lt {n : Nat} {f : Nat → Int} (h : shipB n f = true) {j k : Nat} (hj : j < k) (hk : k < n) : f j ≠ f k := inF_no.1 (shipK_at (shipB_iff.1 h).2.2 hk).2 j hj
theorem ship_inj {n : Nat} {f : Nat → Int} (h : shipB n f = true) {j k : Nat} (hj : j < n) (hk : k < n) (e : f j = f k) : j = k := by
  rcases Nat.lt_trichotomy j k with h1 | h1 | h1
  · exact absurd e (ship_lt h h1 hk)
  · exact h1
  · exact absurd e.symm (ship_lt h h1 hj)

/-- how many of the first n are among the others -/
def cntF (n : Nat) (f : Nat → Int) (m : Nat) (g : Nat → Int) : Nat := (List.range n).countP (fun k => inF (f k) m g)
theorem cntF_zero (f : Nat → Int) (m : Nat) (g : Nat → Int) : cntF 0 f m g = 0 := rfl
theorem cntF_succ (n : Nat) (f : Nat → Int) (m : Nat) (g : Nat → Int) : cntF (n + 1) f m g = cntF n f m g + (if inF (f n) m g then 1 else 0) := by
  unfold cntF; rw [List.range_succ, List.countP_append, List.countP_singleton]
theorem cntF_le (n : Nat) (f : Nat → Int) (m : Nat) (g : Nat → Int) : cntF n f m g ≤ n := by
  unfold cntF; have := List.countP_le_length (p := fun k => inF (f k) m g) (l := List.range n); rw [List.length_range] at this; exact this
theorem cntF_congr {n m : Nat} {f f' g g' : Nat → Int} (h : ∀ k, k < n → f k = f' k) (h2 : ∀ k, k < m → g k = g' k) : cntF n f m g = cntF n f' m g' := by
  induction n with
  | zero => rfl
  | succ n ih => rw [cntF_succ, cntF_succ, ih (fun k hk => h k (by omega)), h n (by omega), inF_congr h2]

/-- of all numbers of planks, those of which P holds -/
def allC (P : Int → Bool) : Nat := (List.range 100).countP (fun v : Nat => P (v : Int))
theorem countP_le_of {α : Type} {l : List α} {P Q : α → Bool} (h : ∀ x, x ∈ l → P x = true → Q x = true) : l.countP P ≤ l.countP Q := List.countP_mono_left h
theorem allC_congr {P Q : Int → Bool} (h : ∀ v, 0 ≤ v → v ≤ 99 → P v = Q v) : allC P = allC Q := by
  unfold allC
  apply List.countP_congr
  intro v hv
  have := List.mem_range.1 hv
  rw [h v (by omega) (by omega)]
theorem allC_mono {P Q : Int → Bool} (h : ∀ v, P v = true → Q v = true) : allC P ≤ allC Q := countP_le_of (fun _ _ => h _)
theorem countP_add {α : Type} {l : List α} {A B C D : α → Bool} (h : ∀ x, x ∈ l → (A x).toNat + (B x).toNat ≤ (C x).toNat + (D x).toNat) : l.countP A + l.countP B ≤ l.countP C + l.countP D := by
  induction l with
  | nil => simp
  | cons x l ih =>
    have h1 := ih (fun y hy => h y (List.mem_cons_of_mem _ hy))
    have h2 := h x (List.mem_cons_self ..)
    have hi : ∀ b : Bool, (if b = true then 1 else 0) = b.toNat := fun b => by cases b <;> rfl
    simp only [List.countP_cons, hi]
    omega
theorem allC_add {A B C D : Int → Bool} (h : ∀ v, (A v).toNat + (B v).toNat ≤ (C v).toNat + (D v).toNat) : allC A + allC B ≤ allC C + allC D := countP_add (fun _ _ => h _)
theorem countP_or {α : Type} {l : List α} {A B : α → Bool} (h : ∀ x, x ∈ l → A x = true → B x = true → False) : l.countP (fun x => A x || B x) = l.countP A + l.countP B := by
  induction l with
  | nil => rfl
  | cons x l ih =>
    have h1 := ih (fun y hy => h y (List.mem_cons_of_mem _ hy))
    have h2 := h x (List.mem_cons_self ..)
    simp only [List.countP_cons]
    cases hA : A x <;> cases hB : B x <;> simp_all <;> omega
theorem countP_one (x : Nat) (n : Nat) (hx : x < n) : (List.range n).countP (fun v => decide (v = x)) = 1 := by
  induction n with
  | zero => omega
  | succ n ih =>
    rw [List.range_succ, List.countP_append, List.countP_singleton]
    by_cases e : n = x
    · subst e
      have : (List.range n).countP (fun v => decide (v = n)) = 0 := by
        rw [List.countP_eq_zero]
        intro v hv
        have := List.mem_range.1 hv
        simp; omega
      rw [this]; simp
    · rw [ih (by omega)]; simp [e]
/-- counted over the ship, counted over all numbers -/
theorem count_ship {P : Int → Bool} {f : Nat → Int} : ∀ {n : Nat}, shipK n f = true → (List.range n).countP (fun k => P (f k)) = allC (fun v => inF v n f && P v)
  | 0, _ => by
    unfold allC
    symm
    show (List.range 100).countP (fun v : Nat => (inF (v : Int) 0 f && P v)) = 0
    rw [List.countP_eq_zero]
    intro v _
    rw [inF_zero]; simp
  | n + 1, h => by
    have h1 := shipK_at h (Nat.lt_succ_self n)
    rw [shipK_succ, Bool.and_eq_true] at h
    rw [List.range_succ, List.countP_append, count_ship h.1, List.countP_singleton]
    obtain ⟨h0, h99⟩ := pkB_iff.1 h1.1
    obtain ⟨x, hx⟩ : ∃ x : Nat, f n = x := ⟨(f n).toNat, by omega⟩
    have hx9 : x < 100 := by omega
    cases hP : P (f n) with
    | true =>
      have key : allC (fun v => inF v (n + 1) f && P v) = allC (fun v => inF v n f && P v) + (List.range 100).countP (fun v => decide (v = x)) := by
        unfold allC
        rw [← countP_or (by
          intro v _ hA hB
          have e : v = x := by simpa using hB
          subst e
          rw [Bool.and_eq_true, ← hx, h1.2] at hA
          exact absurd hA.1 (by simp))]
        apply List.countP_congr
        intro v hv
        show (inF (v : Int) (n + 1) f && P (v : Int)) = true ↔ ((inF (v : Int) n f && P (v : Int)) || decide (v = x)) = true
        rw [inF_succ, hx]
        by_cases e : v = x
        · subst e
          rw [← hx, hP]; simp
        · have : ((x : Int) == (v : Int)) = false := by simp; omega
          rw [this, decide_eq_false e]; simp
      rw [key, countP_one x 100 hx9]
      rfl
    | false =>
      rw [if_neg (by simp), Nat.add_zero]
      apply allC_congr
      intro v _ _
      rw [inF_succ]
      by_cases e : f n = v
      · rw [← e, hP]; simp
      · have : (f n == v) = false := by simpa using e
        rw [this, Bool.or_false]
theorem cntF_ship {n m : Nat} {f g : Nat → Int} (h : shipB n f = true) : cntF n f m g = allC (fun v => inF v n f && inF v m g) := count_ship (P := fun v => inF v m g) (shipB_iff.1 h).2.2
theorem len_ship {n : Nat} {f : Nat → Int} (h : shipB n f = true) : n = allC (fun v => inF v n f) := by
  have := count_ship (P := fun _ => true) (shipB_iff.1 h).2.2
  simp only [Bool.and_true] at this
  rw [← this]
  have h2 : (List.range n).countP (fun _ => true) = (List.range n).length := by rw [List.countP_eq_length]; simp
  rw [h2, List.length_range]
theorem cnt_sym {n m : Nat} {f g : Nat → Int} (hf : shipB n f = true) (hg : shipB m g = true) : cntF n f m g = cntF m g n f := by
  rw [cntF_ship hf, cntF_ship hg]
  exact allC_congr (fun v _ _ => Bool.and_comm _ _)
theorem cnt_self {n : Nat} {f : Nat → Int} : cntF n f n f = n := by
  unfold cntF
  have h2 : (List.range n).countP (fun k => inF (f k) n f) = (List.range n).length := by
    rw [List.countP_eq_length]
    intro k hk
    exact inF_iff.2 ⟨k, List.mem_range.1 hk, rfl⟩
  rw [h2, List.length_range]
theorem cnt_more {n m : Nat} {f g : Nat → Int} (hf : shipB n f = true) (hg : shipB m g = true) : cntF n f m g ≤ m := by rw [cnt_sym hf hg]; exact cntF_le _ _ _ _
/-- what two have in common with a third -/
theorem cnt_three {n m p : Nat} {f g h : Nat → Int} (hf : shipB n f = true) (hg : shipB m g = true) (hh : shipB p h = true) : cntF n f m g + cntF m g p h ≤ cntF n f p h + m := by
  rw [cntF_ship hf, cntF_ship hg, cntF_ship hf]
  conv => rhs; rw [len_ship hg]
  apply allC_add
  intro v
  cases inF v n f <;> cases inF v m g <;> cases inF v p h <;> decide
theorem cntF_all {n m : Nat} {f g : Nat → Int} : cntF n f m g = n ↔ ∀ k, k < n → inF (f k) m g = true := by
  unfold cntF
  have : (List.range n).countP (fun k => inF (f k) m g) = n ↔ (List.range n).countP (fun k => inF (f k) m g) = (List.range n).length := by rw [List.length_range]
  rw [this, List.countP_eq_length]
  exact ⟨fun h k hk => h k (List.mem_range.2 hk), fun h k hk => h k (List.mem_range.1 hk)⟩
theorem cnt_zero {n m : Nat} {f g : Nat → Int} : cntF n f m g = 0 ↔ ∀ k, k < n → inF (f k) m g = false := by
  unfold cntF
  rw [List.countP_eq_zero]
  exact ⟨fun h k hk => by simpa using h k (List.mem_range.2 hk), fun h k hk => by simpa using h k (List.mem_range.1 hk)⟩

/-- how many two have in common, -1 where one is no ship -/
def cmI (n : Nat) (f : Nat → Int) (m : Nat) (g : Nat → Int) : Int := if shipB n f && shipB m g then (cntF n f m g : Int) else -1
theorem cmI_yes {n m : Nat} {f g : Nat → Int} (hf : shipB n f = true) (hg : shipB m g = true) : cmI n f m g = (cntF n f m g : Int) := by unfold cmI; rw [hf, hg]; rfl
theorem cmI_no {n m : Nat} {f g : Nat → Int} (h : (shipB n f && shipB m g) = false) : cmI n f m g = -1 := by unfold cmI; rw [h]; rfl
/-- mostly the same -/
def moB (n : Nat) (f : Nat → Int) (m : Nat) (g : Nat → Int) (but : Int) : Bool := (shipB n f && shipB m g) && (decide (n = m) && decide ((n : Int) - cntF n f m g ≤ but))
theorem moB_iff {n m : Nat} {f g : Nat → Int} {b : Int} : moB n f m g b = true ↔ shipB n f = true ∧ shipB m g = true ∧ n = m ∧ (n : Int) - cntF n f m g ≤ b := by
  unfold moB; simp only [Bool.and_eq_true, decide_eq_true_eq, and_assoc]

/-- a change can be done -/
def okC (n : Nat) (f : Nat → Int) (p q : Int) : Bool := (decide (0 ≤ p) && decide (p < n)) && (pkB q && !inF q n f)
theorem okC_iff {n : Nat} {f : Nat → Int} {p q : Int} : okC n f p q = true ↔ 0 ≤ p ∧ p < n ∧ pkB q = true ∧ inF q n f = false := by
  unfold okC; simp only [Bool.and_eq_true, decide_eq_true_eq, and_assoc, Bool.not_eq_true']
/-- the change is done -/
def setF (f : Nat → Int) (p : Nat) (q : Int) : Nat → Int := fun i => if i = p then q else f i
theorem setF_same (f : Nat → Int) (p : Nat) (q : Int) : setF f p q p = q := by unfold setF; rw [if_pos rfl]
theorem setF_other (f : Nat → Int) {p i : Nat} (q : Int) (h : i ≠ p) : setF f p q i = f i := by unfold setF; rw [if_neg h]
theorem inF_set {n : Nat} {f : Nat → Int} {p : Nat} {q : Int} (hp : p < n) (v : Int) (hv : v ≠ f p) : inF v n (setF f p q) = (inF v n f || q == v) := by
  rw [Bool.eq_iff_iff, Bool.or_eq_true, inF_iff, inF_iff]
  constructor
  · rintro ⟨k, h1, h2⟩
    by_cases e : k = p
    · subst e; rw [setF_same] at h2; exact .inr (by simpa using h2)
    · rw [setF_other _ _ e] at h2; exact .inl ⟨k, h1, h2⟩
  · rintro (⟨k, h1, h2⟩ | h)
    · exact ⟨k, h1, by rw [setF_other _ _ (fun e => by subst e; exact hv h2.symm)]; exact h2⟩
    · exact ⟨p, hp, by rw [setF_same]; simpa using h⟩
theorem ship_set {n : Nat} {f : Nat → Int} {p : Nat} {q : Int} (h : shipB n f = true) (hp : p < n) (hq : pkB q = true) (hi : inF q n f = false) : shipB n (setF f p q) = true := by
  obtain ⟨h1, h2, _⟩ := shipB_iff.1 h
  refine shipB_iff.2 ⟨h1, h2, shipK_of (fun k hk => ?_) (fun j k hj hk => ?_)⟩
  · by_cases e : k = p
    · subst e; rw [setF_same]; exact pkB_iff.1 hq
    · rw [setF_other _ _ e]; exact ship_pk h hk
  · by_cases e : k = p
    · subst e
      rw [setF_same, setF_other _ _ (by omega)]
      exact inF_no.1 hi j (by omega)
    · by_cases e2 : j = p
      · subst e2
        rw [setF_same, setF_other _ _ e]
        exact fun e3 => inF_no.1 hi k hk e3.symm
      · rw [setF_other _ _ e, setF_other _ _ e2]
        exact ship_lt h hj hk
/-- all but one are in common -/
theorem cnt_set {n : Nat} {f : Nat → Int} {p : Nat} {q : Int} (h : shipB n f = true) (hp : p < n) (hi : inF q n f = false) : cntF n f n (setF f p q) + 1 = n := by
  have key : ∀ m, m ≤ n → cntF m f n (setF f p q) + (if p < m then 1 else 0) = m := by
    intro m
    induction m with
    | zero => intro _; rw [cntF_zero]; simp
    | succ m ih =>
      intro hm
      have ih := ih (by omega)
      rw [cntF_succ]
      by_cases e : m = p
      · subst e
        have : inF (f m) n (setF f m q) = false := inF_no.2 (fun k hk => by
          by_cases e : k = m
          · subst e; rw [setF_same]; exact fun e => inF_no.1 hi k hk e.symm
          · rw [setF_other _ _ e]; exact fun e2 => e (ship_inj h hk hp e2))
        rw [this, if_neg (by decide), if_pos (by omega)]
        rw [if_neg (by omega)] at ih
        omega
      · have : inF (f m) n (setF f p q) = true := inF_iff.2 ⟨m, by omega, setF_other _ _ e⟩
        rw [this, if_pos rfl]
        by_cases e2 : p < m
        · rw [if_pos (by omega)]; rw [if_pos e2] at ih; omega
        · rw [if_neg (by omega)]; rw [if_neg e2] at ih; omega
  have := key n (Nat.le_refl _)
  rw [if_pos hp] at this
  exact this
theorem setF_back (f : Nat → Int) (p : Nat) (q : Int) : setF (setF f p q) p (f p) = f := by
  funext i
  by_cases e : i = p
  · subst e; rw [setF_same]
  · rw [setF_other _ _ e, setF_other _ _ e]
theorem back_no {n : Nat} {f : Nat → Int} {p : Nat} {q : Int} (h : shipB n f = true) (hp : p < n) (hi : inF q n f = false) : inF (f p) n (setF f p q) = false :=
  inF_no.2 (fun k hk => by
    by_cases e : k = p
    · subst e; rw [setF_same]; exact fun e => inF_no.1 hi k hk e.symm
    · rw [setF_other _ _ e]; exact fun e2 => e (ship_inj h hk hp e2))

/-- the ship after the first k changes -/
def nowF (n : Nat) (f : Nat → Int) (P Q : Nat → Int) : Nat → Nat → Int
  | 0 => f
  | k + 1 => if okC n (nowF n f P Q k) (P k) (Q k) then setF (nowF n f P Q k) (P k).toNat (Q k) else nowF n f P Q k
/-- the change of number k can be done -/
def goB (n : Nat) (f : Nat → Int) (P Q : Nat → Int) (k : Nat) : Bool := okC n (nowF n f P Q k) (P k) (Q k)
theorem now_yes {n : Nat} {f : Nat → Int} {P Q : Nat → Int} {k : Nat} (h : goB n f P Q k = true) : nowF n f P Q (k + 1) = setF (nowF n f P Q k) (P k).toNat (Q k) := by
  show (if okC n (nowF n f P Q k) (P k) (Q k) then _ else _) = _; rw [show okC n (nowF n f P Q k) (P k) (Q k) = true from h]; rfl
theorem now_no {n : Nat} {f : Nat → Int} {P Q : Nat → Int} {k : Nat} (h : goB n f P Q k = false) : nowF n f P Q (k + 1) = nowF n f P Q k := by
  show (if okC n (nowF n f P Q k) (P k) (Q k) then _ else _) = _; rw [show okC n (nowF n f P Q k) (P k) (Q k) = false from h]; rfl
theorem now_ship {n : Nat} {f : Nat → Int} {P Q : Nat → Int} (h : shipB n f = true) : ∀ k, shipB n (nowF n f P Q k) = true
  | 0 => h
  | k + 1 => by
    have ih := now_ship h (P := P) (Q := Q) k
    cases hg : goB n f P Q k with
    | true =>
      rw [now_yes hg]
      obtain ⟨h1, h2, h3, h4⟩ := okC_iff.1 hg
      exact ship_set ih (by omega) h3 h4
    | false => rw [now_no hg]; exact ih

/-- the changes of the first m that are done -/
def dnL (n : Nat) (f : Nat → Int) (P Q : Nat → Int) (m : Nat) : List Nat := (List.range m).filter (goB n f P Q)
theorem dn_yes {n : Nat} {f : Nat → Int} {P Q : Nat → Int} {k : Nat} (h : goB n f P Q k = true) : dnL n f P Q (k + 1) = dnL n f P Q k ++ [k] := by
  unfold dnL; rw [List.range_succ, List.filter_append]; simp [h]
theorem dn_no {n : Nat} {f : Nat → Int} {P Q : Nat → Int} {k : Nat} (h : goB n f P Q k = false) : dnL n f P Q (k + 1) = dnL n f P Q k := by
  unfold dnL; rw [List.range_succ, List.filter_append]; simp [h]
theorem dn_len (n : Nat) (f : Nat → Int) (P Q : Nat → Int) (m : Nat) : (dnL n f P Q m).length ≤ m := by
  have := List.length_filter_le (goB n f P Q) (List.range m)
  rw [List.length_range] at this
  exact this
/-- all ships of a story -/
def stL (n : Nat) (f : Nat → Int) (P Q : Nat → Int) (m : Nat) : List (List Int) := rowL f n :: (dnL n f P Q m).map (fun k => rowL (nowF n f P Q (k + 1)) n)
/-- what was taken out -/
def tkL (n : Nat) (f : Nat → Int) (P Q : Nat → Int) (m : Nat) : List Int := (dnL n f P Q m).map (fun k => nowF n f P Q k (P k).toNat)
theorem st_yes {n : Nat} {f : Nat → Int} {P Q : Nat → Int} {k : Nat} (h : goB n f P Q k = true) : stL n f P Q (k + 1) = stL n f P Q k ++ [rowL (nowF n f P Q (k + 1)) n] := by
  unfold stL; rw [dn_yes h, List.map_append]; rfl
theorem st_no {n : Nat} {f : Nat → Int} {P Q : Nat → Int} {k : Nat} (h : goB n f P Q k = false) : stL n f P Q (k + 1) = stL n f P Q k := by
  unfold stL; rw [dn_no h]
theorem tk_yes {n : Nat} {f : Nat → Int} {P Q : Nat → Int} {k : Nat} (h : goB n f P Q k = true) : tkL n f P Q (k + 1) = tkL n f P Q k ++ [nowF n f P Q k (P k).toNat] := by
  unfold tkL; rw [dn_yes h, List.map_append]; rfl
theorem tk_no {n : Nat} {f : Nat → Int} {P Q : Nat → Int} {k : Nat} (h : goB n f P Q k = false) : tkL n f P Q (k + 1) = tkL n f P Q k := by
  unfold tkL; rw [dn_no h]
theorem st_len (n : Nat) (f : Nat → Int) (P Q : Nat → Int) (m : Nat) : (stL n f P Q m).length = (dnL n f P Q m).length + 1 := by unfold stL; simp
theorem tk_len (n : Nat) (f : Nat → Int) (P Q : Nat → Int) (m : Nat) : (tkL n f P Q m).length = (dnL n f P Q m).length := by unfold tkL; simp
/-- a plank of the first is in the last, or was taken out -/
theorem lost_taken {n : Nat} {f : Nat → Int} {P Q : Nat → Int} {v : Int} (h0 : inF v n f = true) : ∀ m, inF v n (nowF n f P Q m) = true ∨ v ∈ tkL n f P Q m
  | 0 => .inl h0
  | m + 1 => by
    have ih := lost_taken h0 (P := P) (Q := Q) m
    cases hg : goB n f P Q m with
    | true =>
      rw [now_yes hg, tk_yes hg]
      obtain ⟨h1, h2, h3, h4⟩ := okC_iff.1 hg
      rcases ih with ih | ih
      · by_cases e : v = nowF n f P Q m (P m).toNat
        · exact .inr (List.mem_append.2 (.inr (by rw [e]; exact List.mem_singleton.2 rfl)))
        · exact .inl (by rw [inF_set (by omega) v e, ih]; rfl)
      · exact .inr (List.mem_append.2 (.inl ih))
    | false => rw [now_no hg, tk_no hg]; exact ih
/-- what is built again: all planks are among those that were taken out -/
def buB (n : Nat) (f : Nat → Int) (P Q : Nat → Int) (m : Nat) : Bool := (shipB n f && decide (m ≤ 20)) && (List.range n).all (fun k => (tkL n f P Q m).contains (f k))
theorem dn_mem {n : Nat} {f : Nat → Int} {P Q : Nat → Int} {m i k : Nat} (h : (dnL n f P Q m)[i]? = some k) : k < m ∧ goB n f P Q k = true := by
  have := List.mem_of_getElem? h
  unfold dnL at this
  obtain ⟨h1, h2⟩ := List.mem_filter.1 this
  exact ⟨List.mem_range.1 h1, h2⟩
end Go.Proofs.Ytglnefffkcillaa

namespace Go.Proofs.Ytglnefffkcillaa
set_option linter.unusedVariables false
set_option linter.unusedSimpArgs false
open Go.RowKit

/-- nothing has changed but blocks of T, and from B on what is no cells -/
structure Mvd (T : Nat → Prop) (B : Nat) (W W' : World) : Prop where
  os : W'.os = W.os
  tape : W'.tape = W.tape
  output : W'.output = W.output
  size : W.heap.size ≤ W'.heap.size
  block : ∀ k, k < W.heap.size → ¬ T k → (B ≤ k → ∀ o, W.heap[k]? = some o → o.isCells = true) → W'.heap[k]? = W.heap[k]?

/-- an invariant that abides it -/
def AbideT {β : Type} (B : Nat) (I : β → (Nat → Prop) → World → Prop) : Prop :=
  ∀ s T T' W W', I s T W → Mvd T B W W' → (∀ k, T' k → T k ∨ (W.heap.size ≤ k ∧ k < W'.heap.size)) → I s T' W'
/-- what speaks of cells alone -/
def Stays (X : World → Prop) : Prop := ∀ (W : World) (l : Nat) (o o' : Obj), X W → W.heap[l]? = some o → o.isCells = false → X (W.putObj l o')

theorem mvd_put (T : Nat → Prop) {B l : Nat} {W : World} {o : Obj} (o' : Obj) (hB : B ≤ l) (hl : W.heap[l]? = some o) (ho : o.isCells = false) : Mvd T B W (W.putObj l o') := by
  have hg := grownBy_putObj' W l o'
  refine ⟨hg.os, hg.tape, hg.output, hg.size, fun k hk _ hc => ?_⟩
  by_cases e : k = l
  · subst e
    have := hc hB o hl
    rw [ho] at this; cases this
  · exact World.putObj_heap_other (e)
theorem mvd_alloc (T : Nat → Prop) (B : Nat) (W : World) (o : Obj) : Mvd T B W (W.alloc o) :=
  ⟨rfl, rfl, rfl, by simp, fun _ hk _ _ => Below.heap_alloc _ _ _ hk⟩
theorem AbideT.put {β : Type} {B : Nat} {I : β → (Nat → Prop) → World → Prop} (h : AbideT B I) {s : β} {T : Nat → Prop} {W : World} {l : Nat} {o : Obj} (o' : Obj) (hs : I s T W) (hB : B ≤ l) (hl : W.heap[l]? = some o) (ho : o.isCells = false) : I s T (W.putObj l o') :=
  h s T T W _ hs (mvd_put T o' hB hl ho) (fun _ hk => .inl hk)
theorem AbideT.alloc {β : Type} {B : Nat} {I : β → (Nat → Prop) → World → Prop} (h : AbideT B I) {s : β} {T : Nat → Prop} {W : World} (o : Obj) (hs : I s T W) : I s T (W.alloc o) :=
  h s T T W _ hs (mvd_alloc T B W o) (fun _ hk => .inl hk)

/-- AN ITERATOR WITH MEMORY OF ITS OWN (the blocks of T), whose elements lie in memory (Hx), and which reads R: its body keeps T and R, and never says 'no more' -/
def SeqT {α : Type} (F : Fence) (n : Nat) (P : Program) (g : Nat) (lb : Array Value) (encs : α → Array Value) (R : Nat → Prop) (Hx : α → (Nat → Prop) → World → Prop) (S : List α → (Nat → Prop) → World → Prop) (N : Nat) (w : World) : Prop :=
  ∀ (l : Nat) (J : List α → (Nat → Prop) → World → Prop) (W : World), Below w.heap.size w W → (∀ B, W.heap.size ≤ B → AbideT B J) →
    (∀ pre x T W1, J pre T W1 → pre.length < N → Hx x T W1 → YieldAt F (n - 1) P l (encs x) W1 fun e W' =>
      e = .returned (.bool true) ∧ J (pre ++ [x]) T W' ∧ W1.heap.size ≤ W'.heap.size ∧ ∀ k, T k ∨ R k → W'.heap[k]? = W1.heap[k]?) →
    J [] (fun _ => False) W →
    CallsIn F n P g (#[.func (.yield l) #[] #[]] ++ lb) W fun e W' => (∃ v, e = .returned v) ∧ ∃ xs T, S xs T W' ∧ J xs T W'

variable {F : Fence} {n : Nat} {P : Program}

/-- a range over such an iterator -/
theorem wpIn_rangeFunc_st {α : Type} {g : Operand} {ps : Array Tmp} {assign body : Code} {Q : Exit → Act → World → Prop} {a : Act} {w : World}
    (hro : F.round = none) (h1 : 1 ≤ n) {gf : Nat} {lb : Array Value} (hg : a.eval g = .func (.func gf) #[] lb) (hFg : F.fn gf) (eg : ∀ args w, (callFunc gf args).run P w = .ok (.enter gf args) w)
    {encs : α → Array Value} {R : Nat → Prop} {Hx : α → (Nat → Prop) → World → Prop} {S : List α → (Nat → Prop) → World → Prop} {N : Nat} {w0 : World} (hseq : SeqT F (n - 1) P gf lb encs R Hx S N w0)
    (hR : ∀ k, R k → k < w.heap.size) (hHx : ∀ x T, Stays (Hx x T)) (hS : ∀ xs T, Stays (S xs T)) (hb0 : Below w0.heap.size w0 w) (hps : ∀ x, (encs x).size = ps.size)
    (I : List α → (Nat → Prop) → World → Prop) (hI : AbideT w.heap.size I) (h0 : I [] (fun _ => False) w) (a₁ : α → Act)
    (hassign : ∀ (l : Nat) (x : α) (W : World) (K : Act → World → Prop), K (a₁ x) W →
      assign.wpIn (F.inRound l) (n - 1 - 1) P (Exit.then K (fun _ _ _ => False)) { tmps := (ps.zip (encs x)).foldl (fun t (p, v) => t.setIfInBounds p v) a.tmps, defers := [] } W)
    (hbody : ∀ (l : Nat) (pre : List α) (x : α) (T : Nat → Prop) (W : World), I pre T W → pre.length < N → Hx x T W → (∀ k, T k → w.heap.size ≤ k) →
      body.wpIn (F.inRound l) (n - 1 - 1) P (fun e _ W' => e = .normal ∧ KeepsFrom w.heap.size W W' ∧ (∀ k, T k ∨ R k → W'.heap[k]? = W.heap[k]?) ∧ I (pre ++ [x]) T W') (a₁ x) W)
    (hdone : ∀ (D : Nat) (xs : List α) (T : Nat → Prop) (W : World), w.heap.size ≤ D → S xs T W → I xs T W → (∀ k, T k → w.heap.size ≤ k) → ¬ T D → W.heap[D]? = some (.deferred (some [])) → Q .normal { a with defers := { target := .collected D, args := #[] } :: a.defers } W) :
    (Code.rangeFunc g ps assign body).wpIn F n P Q a w := by
  refine wpIn_rangeFunc ?_
  intro fn hfn
  rw [hro]
  obtain ⟨rec, hrec⟩ : ∃ rec : LoopState → Option Code → Loop, rec = fun st pe => { state := st, pending := pe, fn, tmps := a.tmps, params := ps, assign, body, defers := w.heap.size } := ⟨_, rfl⟩
  obtain ⟨W1, hW1⟩ : ∃ W1, (w.alloc (.deferred (some []))).alloc (.loop (rec .ready none)) = W1 := ⟨_, rfl⟩
  have hL1 : W1.heap[w.heap.size + 1]? = some (.loop (rec .ready none)) := by
    rw [← hW1]; have := World.alloc_heap_new (w.alloc (.deferred (some []))) (.loop (rec .ready none)); rwa [World.size_alloc] at this
  have hK1 : W1.heap[w.heap.size]? = some (.deferred (some [])) := by
    rw [← hW1]; exact (Below.heap_alloc _ _ _ (by simp)).trans (World.alloc_heap_new w _)
  have hz1 : W1.heap.size = w.heap.size + 2 := by rw [← hW1]; simp
  have hI1 : I [] (fun _ => False) W1 := by rw [← hW1]; exact hI.alloc _ (hI.alloc _ h0)
  have hb1 : Below w0.heap.size w0 W1 := by
    rw [← hW1]; exact hb0.trans ((((Below.refl _ w).alloc (Nat.le_refl _) _).alloc (by simp) _).mono hb0.size)
  refine ⟨w.heap.size + 1, [{ target := .collected w.heap.size, args := #[] }], W1, { target := .fn (.func gf) lb, args := #[.func (.yield (w.heap.size + 1)) #[] #[]] }, W1, gf,
    #[.func (.yield (w.heap.size + 1)) #[] #[]] ++ lb, W1, ?_, ?_, ?_, ?_, fun _ => h1, ?_⟩
  · rw [← hW1, hrec]; exact run_enterLoop_outer _ _ _ _ _
  · simp only [resolve, hg]
    simp [go_sem]
  · intro f' hf'; simp [Target.leads] at hf'; subst hf'; exact hFg
  · simp [invoke, go_sem, eg]
  · refine (hseq (w.heap.size + 1)
      (fun pre T W => I pre T W ∧ W.heap[w.heap.size + 1]? = some (.loop (rec .ready none)) ∧ W.heap[w.heap.size]? = some (.deferred (some [])) ∧ ∀ k, T k → w.heap.size + 2 ≤ k)
      W1 hb1 ?_ ?_ ⟨hI1, hL1, hK1, fun _ h => h.elim⟩).mono ?_
    · rintro B hB s T T' A A' ⟨hi, hl, hk, hT⟩ hm hT'
      have hlt : w.heap.size + 1 < A.heap.size := (Array.getElem?_eq_some_iff.1 hl).1
      refine ⟨hI s T T' A A' hi ⟨hm.os, hm.tape, hm.output, hm.size, fun k hk1 hk2 hk3 => hm.block k hk1 hk2 (fun h => hk3 (by omega))⟩ hT', ?_, ?_, fun k hk4 => ?_⟩
      · rw [hm.block _ hlt (fun h => by have := hT _ h; omega) (fun h => by omega)]; exact hl
      · rw [hm.block _ (by omega) (fun h => by have := hT _ h; omega) (fun h => by omega)]; exact hk
      · rcases hT' k hk4 with h | h
        · exact hT k h
        · omega
    · rintro pre x T W ⟨hi, hl, hk, hT⟩ hlen hx
      have hlt : w.heap.size + 1 < W.heap.size := (Array.getElem?_eq_some_iff.1 hl).1
      have hy := run_yield (P := P) (args := encs x) hl (by rw [hrec]; exact hps x)
      rw [hrec] at hy
      refine ⟨fn, _, assign, body, hy, roundIn_of_wpIn hfn (hassign _ x W _ ⟨_, run_beginRound hl (by rw [hrec]), ?_⟩)⟩
      obtain ⟨W2, hW2⟩ : ∃ W2, W.putObj (w.heap.size + 1) (.loop { rec .ready none with state := .busy }) = W2 := ⟨_, rfl⟩
      have hl2 : W2.heap[w.heap.size + 1]? = some (.loop { rec .ready none with state := .busy }) := by rw [← hW2]; exact World.putObj_heap_same hlt
      have hs2 : ∀ k, k ≠ w.heap.size + 1 → W2.heap[k]? = W.heap[k]? := fun k e => by rw [← hW2]; exact World.putObj_heap_other (e)
      have hi2 : I pre T W2 := by rw [← hW2]; exact hI.put _ hi (by omega) hl rfl
      have hx2 : Hx x T W2 := by rw [← hW2]; exact hHx x T _ _ _ _ hx hl rfl
      have hz2 : W2.heap.size = W.heap.size := by rw [← hW2]; simp [World.putObj]
      rw [hW2]
      refine wpIn_mono (hbody _ pre x T W2 hi2 hlen hx2 (fun k h => by have := hT k h; omega)) ?_
      rintro e a3 W3 ⟨rfl, hk3, hr3, hi3⟩
      have hl3 := hk3.same _ _ (by omega) hl2 rfl
      have hd3 := hk3.same w.heap.size _ (Nat.le_refl _) ((hs2 _ (by omega)).trans hk) rfl
      have hE := run_endRound (P := P) (none : Option Code) hl3
      rw [hrec] at hE
      refine ⟨_, _, hE, rfl, ⟨hI.put _ hi3 (by omega) hl3 rfl, ?_, (World.putObj_heap_other (by omega)).trans hd3, hT⟩, ?_, fun k hk4 => ?_⟩
      · rw [hrec]; exact World.putObj_heap_same (Array.getElem?_eq_some_iff.1 hl3).1
      · have h5 : ∀ o, (W3.putObj (w.heap.size + 1) o).heap.size = W3.heap.size := fun o => by simp [World.putObj]
        rw [h5]; have := hk3.size; omega
      · have hne : k ≠ w.heap.size + 1 := by
          rcases hk4 with h | h
          · have := hT k h; omega
          · have := hR k h; omega
        rw [World.putObj_heap_other (hne), hr3 k hk4, hs2 k hne]
    · rintro e W2 ⟨⟨v, rfl⟩, xs, T, hs, hi, hl, hk, hT⟩
      refine ⟨none, _, by have := run_endLoop (P := P) hl (by rw [hrec]; simp); rw [hrec] at this; exact this, hdone _ xs T _ (Nat.le_refl _) (hS xs T _ _ _ _ hs hl rfl) (hI.put _ hi (by omega) hl rfl) (fun k h => by have := hT k h; omega) (fun h => by have := hT _ h; omega) ((World.putObj_heap_other (by omega)).trans hk)⟩
end Go.Proofs.Ytglnefffkcillaa

namespace Go.Proofs.Ytglnefffkcillaa
set_option linter.unusedVariables false
set_option linter.unusedSimpArgs false
open Go.RowKit Go.Maps

set_option maxRecDepth 100000 in
set_option maxHeartbeats 1600000 in
theorem indexI_any (a : Option Addr) (n cap : Nat) (f : Nat → Int) (v : Int) (w : World) (hi : Ints w a n f) :
    Calls Try.prog 114 #[.slice a n cap, .int .i64 v] w fun e w' => w = w' ∧ ((inF v n f = false ∧ e = .returned (.int .i64 (-1))) ∨ (inF v n f = true ∧ ∃ k : Nat, e = .returned (.int .i64 k))) := by
  have HI := Lib.hid hi; clear hi
  have hn := HI.out.1.1
  go_enter Try.func114, Try.ntmps114
  go_wp2_with fail
  go_loopw [5, 8] (fun _ i wr => ∃ k : Nat, k ≤ n ∧ i = .int .i64 k ∧ Hid (inF v k f = false) ∧ w = wr) (fun _ i _ => n - (intOf i).toNat)
  case atStart => exact ⟨0, Nat.zero_le _, rfl, Lib.hid (inF_zero v f), rfl⟩
  case round =>
    obtain ⟨k, hk, rfl, hall, rfl⟩ := hrel
    by_cases hlt : k < n
    · have hki : (k : Int) < (n : Int) := by omega
      have hk0 : (0 : Int) ≤ (k : Int) := by omega
      obtain ⟨b, o, rfl, hbl, hrow⟩ := HI.out.row (by omega)
      have hc := hrow k hlt
      clear hrow hbl
      obtain ⟨z, hz⟩ : ∃ z, f k = z := ⟨_, rfl⟩
      rw [hz] at hc
      cases hv : (v == z) with
      | true =>
        have HV := Lib.hid (show inF v n f = true from inF_iff.2 ⟨k, hlt, by rw [hz]; exact (by simpa using hv : v = z).symm⟩)
        clear hz
        go_wp2_with fail
        go_ret
        exact ⟨rfl, .inr ⟨HV.out, k, rfl⟩⟩
      | false =>
        have HV := Lib.hid (show inF v (k + 1) f = false by
          rw [inF_succ, hall.out, hz]
          show (false || (z == v)) = false
          rw [Bool.false_or, Bool.beq_comm]; exact hv)
        clear hz
        go_wp2_with fail
        go_roundw
        case rel => exact ⟨k + 1, by omega, by go_num, HV, by first | rfl | trivial⟩
        case measure => simp [intOf]; omega
    · have hki : ¬ (k : Int) < (n : Int) := by omega
      have hkn : k = n := by omega
      subst hkn
      go_wp2_with fail
      go_ret
      exact ⟨rfl, .inl ⟨hall.out, rfl⟩⟩

theorem containsI_any (a : Option Addr) (n cap : Nat) (f : Nat → Int) (v : Int) (w : World) (hi : Ints w a n f) :
    Calls Try.prog 100 #[.slice a n cap, .int .i64 v] w fun e w' => e = .returned (.bool (inF v n f)) ∧ w = w' := by
  have HI := Lib.hid hi; clear hi
  go_enter Try.func100, Try.ntmps100
  go_wp2_with fail
  refine (indexI_any a n cap f v w HI.out).mono ?_
  rintro e w' ⟨rfl, ⟨hv, rfl⟩ | ⟨hv, k, rfl⟩⟩
  · have HV := Lib.hid hv; clear hv
    go_wp2_with fail
    go_ret
    exact ⟨retb (by rw [HV.out]), rfl⟩
  · have HV := Lib.hid hv; clear hv
    have hk0 : (0 : Int) ≤ (k : Int) := by omega
    go_wp2_with fail
    go_ret
    exact ⟨retb (by rw [HV.out]), rfl⟩
theorem containsI_val (a : Option Addr) (n cap : Nat) (f : Nat → Int) (v : Int) (b : Bool) (w : World) (hb : inF v n f = b) (hi : Ints w a n f) :
    Calls Try.prog 100 #[.slice a n cap, .int .i64 v] w fun e w' => e = .returned (.bool b) ∧ w = w' := by subst hb; exact containsI_any a n cap f v w hi

theorem Ints.first {w : World} {a : Option Addr} {n k : Nat} {f : Nat → Int} (h : Ints w a n f) (hk : k ≤ n) : Ints w a k f := by
  obtain ⟨⟨h1, h2⟩, h3⟩ := h
  refine ⟨⟨by omega, fun i hi => h2 i (by omega)⟩, ?_⟩
  rcases h3 with h3 | ⟨b, o, h4, h5, h6⟩
  · exact .inl (by omega)
  · exact .inr ⟨b, o, h4, h5, fun i hi => h6 i (by omega)⟩

theorem moB_no {n m : Nat} {f g : Nat → Int} {b : Int} (h : (shipB n f && shipB m g) = false) : moB n f m g b = false := by unfold moB; rw [h]; rfl
theorem moB_yes {n m : Nat} {f g : Nat → Int} {b : Int} (hf : shipB n f = true) (hg : shipB m g = true) : moB n f m g b = (decide (n = m) && decide ((n : Int) - cntF n f m g ≤ b)) := by unfold moB; rw [hf, hg]; rfl

end Go.Proofs.Ytglnefffkcillaa

namespace Go.Proofs.Ytglnefffkcillaa
set_option linter.unusedVariables false
set_option linter.unusedSimpArgs false
open Go.RowKit Go.Maps

set_option maxRecDepth 100000 in
set_option maxHeartbeats 1600000 in
theorem cloneS_any (g o n cap : Nat) (f : Nat → Int) (h1 : 1 ≤ n) (hn : n ≤ 1000) (w : World) (hr : Row w g o n f) (hgl : g < w.heap.size) :
    Calls Try.prog 56 #[.slice (some ⟨g, o, none⟩) n cap] w (Gives 3 (rowL f n) w) := by
  obtain ⟨i0, hi, hz0, hz1, hz2⟩ := info_parts Try.infoInt
  have hmade : OwnX (w.alloc (.cells #[] 3)) w.heap.size 3 (.slice (some ⟨w.heap.size, 0, none⟩) 0 0) [] := OwnX.made w _ (Nat.le_refl _) _
  have HO : Hid ((w.alloc (.cells #[] 3)).ownsRow w.heap.size 3 1 (.slice (some ⟨w.heap.size, 0, none⟩) 0 0) 0 []) := Lib.hid hmade
  have k1 := Lib.hid (rowV_cells (hr.below (alloc_below w (.cells #[] 3)) hgl))
  have k2 := Lib.hid (rowV_one f n)
  have k3 : Hid (0 + n ≤ maxLen) := Lib.hid (by unfold maxLen; omega)
  have k4 : Hid ((0 + n) * 8 ≤ 140737488355328) := Lib.hid (by omega)
  have k5 : Hid (w.heap.size ≤ (w.alloc (.cells #[] 3)).heap.size) := Lib.hid (by rw [alloc_size]; omega)
  have k6 : Hid ((rowV f n).length = n * 1) := Lib.hid (by rw [rowV_len]; omega)
  have HAB := Lib.hid (alloc_below w (.cells #[] 3))
  have heq : ∀ W : World, (binOp .eql 23 (.slice (some ⟨g, o, none⟩) n cap) (.slice none 0 0)).run Try.prog W = .ok (.bool false) W := fun W => Lib.run_eql_slice_nil W 23 3 _ _ _ _ _ Try.underlying23
  clear hmade hr
  go_enter Try.func56, Try.ntmps56
  go_wp2_with (at_builtin; refine wpList_append_own _ rfl (.tmp 5) (.tmp 6) 23 rfl w.heap.size 3 i0 (.int .i64 0) 1 8 Try.underlying23 hi hz0 hz1 hz2 rfl (by decide) _ _ _ rfl HO.out ⟨g, o, none⟩ n cap (rowV f n) rfl k6.out k1.out k2.out k3.out k4.out k5.out ?_)
  intro v' w5 hown' hgrow _
  have hg5 : Below w.heap.size w w5 := HAB.out.trans ((Below.refl w.heap.size _).grown hgrow k5.out (fun q hq => (HO.out.lt q hq).1))
  have HO5 := Lib.hid (OwnX.rowV hown'); have HG5 := Lib.hid hg5
  clear hown' hgrow hg5
  go_wp2_with fail
  go_ret
  exact ⟨_, rfl, HO5.out, HG5.out⟩

/-- a list and a truth are handed back -/
def GivesC (xs : List Int) (b : Bool) (w : World) (e : Ending) (w' : World) : Prop := ∃ v, e = .returned (.tuple #[v, .bool b]) ∧ OwnX w' w.heap.size 3 v xs ∧ Below w.heap.size w w'

/-- the ship after a change -/
def chF (n : Nat) (f : Nat → Int) (p q : Int) : Nat → Int := if okC n f p q then setF f p.toNat q else f
def chL (n : Nat) (f : Nat → Int) (p q : Int) : List Int := if shipB n f then rowL (chF n f p q) n else []
def chB (n : Nat) (f : Nat → Int) (p q : Int) : Bool := shipB n f && okC n f p q
theorem chL_no {n : Nat} {f : Nat → Int} {p q : Int} (h : shipB n f = false) : chL n f p q = [] ∧ chB n f p q = false := by unfold chL chB; rw [h]; exact ⟨rfl, rfl⟩
theorem chL_keep {n : Nat} {f : Nat → Int} {p q : Int} (h : shipB n f = true) (h2 : okC n f p q = false) : chL n f p q = rowL f n ∧ chB n f p q = false := by unfold chL chB chF; rw [h, h2]; exact ⟨rfl, rfl⟩
theorem chL_done {n : Nat} {f : Nat → Int} {p q : Int} (h : shipB n f = true) (h2 : okC n f p q = true) : chL n f p q = rowL (setF f p.toNat q) n ∧ chB n f p q = true := by unfold chL chB chF; rw [h, h2]; exact ⟨rfl, rfl⟩
theorem okC_no {n : Nat} {f : Nat → Int} {p q : Int} (h : ¬ (0 ≤ p ∧ p < n ∧ pkB q = true ∧ inF q n f = false)) : okC n f p q = false := by
  cases e : okC n f p q with
  | true => exact absurd (okC_iff.1 e) h
  | false => rfl
theorem rowL_set {f : Nat → Int} {n k : Nat} {q : Int} : (fun i => if i = k then q else (rowL f n).getD i 0) = (fun i => if i = k then q else (rowL f n).getD i 0) := rfl
theorem Rw.rowL {w : World} {g : Nat} {t : TypeId} {cap n : Nat} {h f : Nat → Int} (hr : Rw w g t cap n h) (e : ∀ i, i < n → h i = f i) : Rw w g t cap n (fun i => (rowL f n).getD i 0) :=
  hr.less (Nat.le_refl _) (fun i hi => by rw [e i hi, rowL_getD _ _ _ hi])

end Go.Proofs.Ytglnefffkcillaa

namespace Go.Proofs.Ytglnefffkcillaa
set_option linter.unusedVariables false
set_option linter.unusedSimpArgs false
open Go.RowKit Go.Maps

/-- n pairs lie in a row from a cell on -/
def RowP (w : World) (b o n : Nat) (P Q : Nat → Int) : Prop := ∀ i, i < n → w.cell? ⟨b, o + i * 2, none⟩ = some (.int .i64 (P i)) ∧ w.cell? ⟨b, o + i * 2 + 1, none⟩ = some (.int .i64 (Q i))
theorem RowP.below {w w' : World} {b o n B : Nat} {P Q : Nat → Int} (h : RowP w b o n P Q) (hb : Below B w w') (hB : b < B) : RowP w' b o n P Q := fun i hi =>
  ⟨(hb.cell (p := ⟨b, o + i * 2, none⟩) hB).trans (h i hi).1, (hb.cell (p := ⟨b, o + i * 2 + 1, none⟩) hB).trans (h i hi).2⟩
theorem RowP.same {w w' : World} {b o n : Nat} {P Q : Nat → Int} (h : RowP w b o n P Q) (hb : w'.heap[b]? = w.heap[b]?) : RowP w' b o n P Q := fun i hi =>
  ⟨(World.cell?_of_block hb).trans (h i hi).1, (World.cell?_of_block hb).trans (h i hi).2⟩
/-- a slice of pairs: nil or empty, or in a row -/
def Prs (w : World) (a : Option Addr) (n : Nat) (P Q : Nat → Int) : Prop :=
  (n ≤ 9223372036854775807 ∧ ∀ i, i < n → I64 (P i) ∧ I64 (Q i)) ∧ (n = 0 ∨ ∃ b o, a = some ⟨b, o, none⟩ ∧ b < w.heap.size ∧ RowP w b o n P Q)
theorem Prs.below {w w' : World} {B n : Nat} {a : Option Addr} {P Q : Nat → Int} (h : Prs w a n P Q) (hb : Below B w w') (hB : w.heap.size ≤ B) : Prs w' a n P Q := by
  obtain ⟨hm, h | ⟨b, o, rfl, hlt, hr⟩⟩ := h
  · exact ⟨hm, .inl h⟩
  · exact ⟨hm, .inr ⟨b, o, rfl, Nat.lt_of_lt_of_le hlt hb.size, hr.below hb (Nat.lt_of_lt_of_le hlt hB)⟩⟩
theorem Prs.next {w w' : World} {n : Nat} {a : Option Addr} {P Q : Nat → Int} (h : Prs w a n P Q) (hb : Below w.heap.size w w') : Prs w' a n P Q := h.below hb (Nat.le_refl _)
theorem Prs.row {w : World} {n : Nat} {a : Option Addr} {P Q : Nat → Int} (h : Prs w a n P Q) (h1 : 1 ≤ n) : ∃ b o, a = some ⟨b, o, none⟩ ∧ b < w.heap.size ∧ RowP w b o n P Q := by
  obtain ⟨_, h | h⟩ := h
  · omega
  · exact h

/-- the ship before, in its variable -/
structure Bfr (w : World) (Bb : Nat) (g o n c : Nat) (f : Nat → Int) : Prop where
  cell : Boxed w Bb 23 (.slice (some ⟨g, o, none⟩) n c)
  row : Row w g o n f
  lt : g < w.heap.size
  cap : n ≤ c

/-- behind a change: none, and nothing is written; or a new ship, which is the ship before from now on -/
def CgEnd (n : Nat) (f : Nat → Int) (p q : Int) (Bb : Nat) (w : World) (e : Ending) (w' : World) : Prop :=
  (okC n f p q = false ∧ e = .returned (.tuple #[.slice none 0 0, .int .i64 0, .bool false]) ∧ Below w.heap.size w w') ∨
  (okC n f p q = true ∧ ∃ g2 c2, e = .returned (.tuple #[.slice (some ⟨g2, 0, none⟩) n c2, .int .i64 (f p.toNat), .bool true]) ∧ w.heap.size ≤ g2 ∧
    OwnX w' w.heap.size 3 (.slice (some ⟨g2, 0, none⟩) n c2) (rowL (setF f p.toNat q) n) ∧ Bfr w' Bb g2 0 n c2 (setF f p.toNat q) ∧ Only Bb w w')

end Go.Proofs.Ytglnefffkcillaa

namespace Go.Proofs.Ytglnefffkcillaa
set_option linter.unusedVariables false
set_option linter.unusedSimpArgs false
open Go.RowKit Go.Maps
attribute [local go_sem] Oper.semAt_some

/-- a ship of a story: where it lies, and the number of its change -/
structure Shp where
  g : Nat
  c : Nat
  k : Nat
/-- a ship, as a slice of n planks -/
def Shp.v (n : Nat) (x : Shp) : Value := .slice (some ⟨x.g, 0, none⟩) n x.c
/-- the ship after change k lies in memory of the iterator's -/
def ShpAt (n : Nat) (f : Nat → Int) (P Q : Nat → Int) (B : Nat) (x : Shp) (T : Nat → Prop) (w : World) : Prop :=
  T x.g ∧ OwnX w B 3 (x.v n) (rowL (nowF n f P Q (x.k + 1)) n) ∧ n ≤ x.c
/-- all ships have come that are made by the first m changes, each in memory of its own -/
def ShpAll (n : Nat) (f : Nat → Int) (P Q : Nat → Int) (m B : Nat) (xs : List Shp) (T : Nat → Prop) (w : World) : Prop :=
  xs.map (fun x => x.k) = dnL n f P Q m ∧ (xs.map (fun x => x.g)).Nodup ∧ ∀ x ∈ xs, ShpAt n f P Q B x T w
/-- what was taken out by change k -/
def outI (n : Nat) (f : Nat → Int) (P Q : Nat → Int) (k : Nat) : Int := nowF n f P Q k (P k).toNat
def encS (n : Nat) (f : Nat → Int) (P Q : Nat → Int) (x : Shp) : Array Value := #[x.v n, .int .i64 (outI n f P Q x.k)]

theorem OwnX.at {w w' : World} {B g n c : Nat} {t : TypeId} {xs : List Int} (h : OwnX w B t (.slice (some ⟨g, 0, none⟩) n c) xs) (hb : w'.heap[g]? = w.heap[g]?) : OwnX w' B t (.slice (some ⟨g, 0, none⟩) n c) xs :=
  h.other (fun gg hg _ _ => by simp [Value.ownBlock] at hg; subst hg; exact hb)
theorem ShpAt.moved {n B : Nat} {f P Q : Nat → Int} {x : Shp} {T T' : Nat → Prop} {w w' : World} (h : ShpAt n f P Q B x T w) (hT : ∀ k, T k → T' k) (hb : w'.heap[x.g]? = w.heap[x.g]?) : ShpAt n f P Q B x T' w' :=
  ⟨hT _ h.1, OwnX.at h.2.1 hb, h.2.2⟩
theorem ShpAt.stays {n B : Nat} {f P Q : Nat → Int} (x : Shp) (T : Nat → Prop) : Stays (ShpAt n f P Q B x T) := fun _ l _ o' h hl ho =>
  ⟨h.1, ownsRow_putObj h.2.1 o' hl ho, h.2.2⟩
theorem ShpAll.stays {n m B : Nat} {f P Q : Nat → Int} (xs : List Shp) (T : Nat → Prop) : Stays (ShpAll n f P Q m B xs T) := fun W l o o' h hl ho =>
  ⟨h.1, h.2.1, fun x hx => ShpAt.stays x T W l o o' (h.2.2 x hx) hl ho⟩
theorem ShpAll.len {n m B : Nat} {f P Q : Nat → Int} {xs : List Shp} {T : Nat → Prop} {w : World} (h : ShpAll n f P Q m B xs T w) : xs.length = (dnL n f P Q m).length := by rw [← h.1, List.length_map]
theorem ShpAll.none (n B : Nat) (f P Q : Nat → Int) (T : Nat → Prop) (w : World) : ShpAll n f P Q 0 B [] T w := ⟨rfl, List.nodup_nil, fun _ h => by cases h⟩
theorem ShpAll.skip {n m B : Nat} {f P Q : Nat → Int} {xs : List Shp} {T T' : Nat → Prop} {w w' : World} (h : ShpAll n f P Q m B xs T w) (hg : goB n f P Q m = false) (hT : ∀ k, T k → T' k) (hb : ∀ x ∈ xs, w'.heap[x.g]? = w.heap[x.g]?) : ShpAll n f P Q (m + 1) B xs T' w' :=
  ⟨by rw [dn_no hg]; exact h.1, h.2.1, fun x hx => (h.2.2 x hx).moved hT (hb x hx)⟩
theorem ShpAll.keep {n m B : Nat} {f P Q : Nat → Int} {xs : List Shp} {T : Nat → Prop} {w w' : World} (h : ShpAll n f P Q m B xs T w) (hb : ∀ k, T k → w'.heap[k]? = w.heap[k]?) : ShpAll n f P Q m B xs T w' :=
  ⟨h.1, h.2.1, fun x hx => (h.2.2 x hx).moved (fun _ h => h) (hb _ (h.2.2 x hx).1)⟩
theorem ShpAll.more {n m B : Nat} {f P Q : Nat → Int} {xs : List Shp} {T T' : Nat → Prop} {w w' : World} {y : Shp} (h : ShpAll n f P Q m B xs T w) (hy : y.k = m) (hg : goB n f P Q m = true) (hn : ¬ T y.g) (ha : ShpAt n f P Q B y T' w') (hT : ∀ k, T k → T' k) (hb : ∀ x ∈ xs, w'.heap[x.g]? = w.heap[x.g]?) : ShpAll n f P Q (m + 1) B (xs ++ [y]) T' w' := by
  refine ⟨by rw [dn_yes hg, List.map_append, h.1]; simp [hy], ?_, fun x hx => ?_⟩
  · rw [List.map_append, List.nodup_append]
    refine ⟨h.2.1, by simp, fun a ha b hb e => ?_⟩
    simp at hb
    subst hb; subst e
    obtain ⟨x, hx, hxg⟩ := List.mem_map.1 ha
    exact hn (by have := (h.2.2 x hx).1; rw [hxg] at this; exact this)
  · rw [List.mem_append, List.mem_singleton] at hx
    rcases hx with hx | rfl
    · exact (h.2.2 x hx).moved hT (hb x hx)
    · exact ha

/-- the iterator's state between two rounds: k changes are over -/
structure ItS (n : Nat) (f P Q : Nat → Int) (B Bb k : Nat) (R : Nat → Prop) (J : List Shp → (Nat → Prop) → World → Prop) (xs : List Shp) (T : Nat → Prop) (W0 wr : World) : Prop where
  all : ShpAll n f P Q k B xs T wr
  nb : ∀ x ∈ xs, x.g ≠ Bb
  j : J xs T wr
  tb : T Bb
  bf : ∃ g o c, Bfr wr Bb g o n c (nowF n f P Q k) ∧ (T g ∨ R g) ∧ g ≠ Bb
  tl : ∀ i, T i → W0.heap.size ≤ i ∧ i < wr.heap.size
  keep : ∀ i, R i → wr.heap[i]? = W0.heap[i]?
  size : W0.heap.size ≤ wr.heap.size

/-- the iterator's own blocks behind a step -/
def TNew (T : Nat → Prop) (w w' : World) (i : Nat) : Prop := T i ∨ (w.heap.size ≤ i ∧ i < w'.heap.size)
theorem mvd_of_only {T : Nat → Prop} {Bb B : Nat} {w w' : World} (h : Only Bb w w') (hT : T Bb) : Mvd T B w w' :=
  ⟨h.os, h.tape, h.output, h.size, fun k hk hn _ => h.block k hk (fun e => hn (e ▸ hT))⟩
theorem mvd_of_below {T : Nat → Prop} {B : Nat} {w w' : World} (h : Below w.heap.size w w') : Mvd T B w w' :=
  ⟨h.os, h.tape, h.output, h.size, fun k hk _ _ => h.block k hk⟩

section
variable {n : Nat} {f P Q : Nat → Int} {B Bb k : Nat} {R : Nat → Prop} {J : List Shp → (Nat → Prop) → World → Prop} {xs : List Shp} {T : Nat → Prop} {W0 wr : World}
theorem ItS.no (h : ItS n f P Q B Bb k R J xs T W0 wr) (hJ : AbideT W0.heap.size J) (hR : ∀ i, R i → i < W0.heap.size) (hg : goB n f P Q k = false) {w' : World} (hb : Below wr.heap.size wr w') : ItS n f P Q B Bb (k + 1) R J xs (TNew T wr w') W0 w' := by
  obtain ⟨g, o, c, h1, h2, h3⟩ := h.bf
  have hs := hb.size
  refine ⟨h.all.skip hg (fun _ h => .inl h) (fun x hx => hb.block _ (h.tl _ (h.all.2.2 x hx).1).2), h.nb, hJ _ _ _ _ _ h.j (mvd_of_below hb) (fun i hi => hi), .inl h.tb, ⟨g, o, c, ?_, ?_, h3⟩, ?_, ?_, Nat.le_trans h.size hb.size⟩
  · rw [now_no hg]
    exact ⟨(hb.block _ h1.cell.lt).trans h1.cell, h1.row.below hb h1.lt, Nat.lt_of_lt_of_le h1.lt hb.size, h1.cap⟩
  · rcases h2 with h2 | h2
    · exact .inl (.inl h2)
    · exact .inr h2
  · rintro i (hi | hi)
    · have := h.tl i hi; omega
    · have := h.size; omega
  · intro i hi
    rw [hb.block i (by have := hR i hi; have := h.size; omega)]
    exact h.keep i hi

/-- the state behind a change that is done, ahead of the yield -/
structure ItY (n : Nat) (f P Q : Nat → Int) (B Bb k : Nat) (R : Nat → Prop) (J : List Shp → (Nat → Prop) → World → Prop) (xs : List Shp) (y : Shp) (T : Nat → Prop) (W0 wr : World) : Prop where
  all : ShpAll n f P Q (k + 1) B (xs ++ [y]) T wr
  nb : ∀ x ∈ xs ++ [y], x.g ≠ Bb
  j : J xs T wr
  tb : T Bb
  bf : Bfr wr Bb y.g 0 n y.c (nowF n f P Q (k + 1))
  tl : ∀ i, T i → W0.heap.size ≤ i ∧ i < wr.heap.size
  keep : ∀ i, R i → wr.heap[i]? = W0.heap[i]?
  size : W0.heap.size ≤ wr.heap.size
theorem ItY.hx {y : Shp} (h : ItY n f P Q B Bb k R J xs y T W0 wr) : ShpAt n f P Q B y T wr := h.all.2.2 y (List.mem_append.2 (.inr (List.mem_singleton.2 rfl)))
theorem ItS.yes (h : ItS n f P Q B Bb k R J xs T W0 wr) (hJ : AbideT W0.heap.size J) (hR : ∀ i, R i → i < W0.heap.size) (hB : B ≤ W0.heap.size) (hg : goB n f P Q k = true) {w' : World} (hb : Only Bb wr w') {g2 c2 : Nat} (hg2 : wr.heap.size ≤ g2)
    (ho : OwnX w' wr.heap.size 3 (.slice (some ⟨g2, 0, none⟩) n c2) (rowL (setF (nowF n f P Q k) (P k).toNat (Q k)) n)) (hf : Bfr w' Bb g2 0 n c2 (setF (nowF n f P Q k) (P k).toNat (Q k))) : ItY n f P Q B Bb k R J xs ⟨g2, c2, k⟩ (TNew T wr w') W0 w' := by
  have hs := hb.size
  have hBb := h.tl _ h.tb
  have hnw := now_yes hg
  refine ⟨h.all.more rfl hg (fun hT => by have := h.tl _ hT; exact absurd (show g2 < wr.heap.size from this.2) (by omega)) ⟨.inr ⟨hg2, hf.lt⟩, ?_, hf.cap⟩ (fun _ h => .inl h) (fun x hx => hb.block _ (h.tl _ (h.all.2.2 x hx).1).2 (h.nb x hx)), ?_, hJ _ _ _ _ _ h.j (mvd_of_only hb h.tb) (fun i hi => hi), .inl h.tb, ?_, ?_, ?_, Nat.le_trans h.size hb.size⟩
  · show OwnX w' B 3 (.slice (some ⟨g2, 0, none⟩) n c2) (rowL (nowF n f P Q (k + 1)) n)
    rw [hnw]
    exact ho.base (by have := h.size; omega)
  · intro x hx
    rw [List.mem_append, List.mem_singleton] at hx
    rcases hx with hx | rfl
    · exact h.nb x hx
    · show g2 ≠ Bb; omega
  · rw [hnw]; exact hf
  · rintro i (hi | hi)
    · have := h.tl i hi; omega
    · have := h.size; omega
  · intro i hi
    rw [hb.block i (by have := hR i hi; have := h.size; omega) (fun e => by have := hR i hi; omega)]
    exact h.keep i hi
theorem ItY.next {y : Shp} (h : ItY n f P Q B Bb k R J xs y T W0 wr) {w' : World} (hj : J (xs ++ [y]) T w') (hs : wr.heap.size ≤ w'.heap.size) (hk : ∀ i, T i ∨ R i → w'.heap[i]? = wr.heap[i]?) : ItS n f P Q B Bb (k + 1) R J (xs ++ [y]) T W0 w' := by
  have hy := h.hx.1
  refine ⟨h.all.keep (fun i hi => hk i (.inl hi)), h.nb, hj, h.tb, ⟨y.g, 0, y.c, ⟨(hk _ (.inl h.tb)).trans h.bf.cell, fun i hi => (World.cell?_of_block (hk _ (.inl hy))).trans (h.bf.row i hi), Nat.lt_of_lt_of_le h.bf.lt hs, h.bf.cap⟩, .inl hy, h.nb y (List.mem_append.2 (.inr (List.mem_singleton.2 rfl)))⟩, fun i hi => by have := h.tl i hi; omega, fun i hi => (hk i (.inr hi)).trans (h.keep i hi), Nat.le_trans h.size hs⟩
end
theorem Bfr.kept {w w' : World} {Bb g o n c : Nat} {f : Nat → Int} (h : Bfr w Bb g o n c f) (hb : Below w.heap.size w w') : Bfr w' Bb g o n c f :=
  ⟨(hb.block _ h.cell.lt).trans h.cell, h.row.below hb h.lt, Nat.lt_of_lt_of_le h.lt hb.size, h.cap⟩
end Go.Proofs.Ytglnefffkcillaa

namespace Go.Proofs.Ytglnefffkcillaa
set_option linter.unusedVariables false
set_option linter.unusedSimpArgs false
open Go.RowKit Go.Maps
attribute [local go_sem] Oper.semAt_some

end Go.Proofs.Ytglnefffkcillaa

namespace Go.Proofs.Ytglnefffkcillaa
set_option linter.unusedVariables false
set_option linter.unusedSimpArgs false
open Go.RowKit Go.Maps
attribute [local go_sem] Oper.semAt_some

theorem Try.infoIntS : (Try.prog.info? 23).map (fun i => (i.zero, i.size, i.bytes)) = some (some (.slice none 0 0), 1, 24) := by kernel_rfl

/-- ships, each of n planks, in slices of one's own -/
structure Ships (w : World) (B n : Nat) (v : Value) (L : List (List Int)) (rs : List (Nat × Nat)) : Prop where
  own : w.ownsRow B 23 1 v L.length (rs.map (fun r => Value.slice (some ⟨r.1, 0, none⟩) n r.2))
  row : ∀ i, i < L.length → OwnX w B 3 (.slice (some ⟨(rs.getD i (0, 0)).1, 0, none⟩) n (rs.getD i (0, 0)).2) (L.getD i []) ∧ n ≤ (rs.getD i (0, 0)).2
  dis : (rs.map (fun r => r.1)).Nodup
  apart : ∀ r ∈ rs, v.ownBlock ≠ some r.1
theorem Ships.len {w : World} {B n : Nat} {v : Value} {L : List (List Int)} {rs : List (Nat × Nat)} (h : Ships w B n v L rs) : rs.length = L.length := by
  have := h.own.1
  rw [List.length_map, Nat.mul_one] at this
  exact this
def StoryGives (n : Nat) (L : List (List Int)) (w : World) (e : Ending) (w' : World) : Prop := ∃ v rs, e = .returned v ∧ Ships w' w.heap.size n v L rs ∧ Below w.heap.size w w'

def syB (n : Nat) (f : Nat → Int) (m : Nat) : Bool := shipB n f && decide (m ≤ 20)
def syL (n : Nat) (f P Q : Nat → Int) (m : Nat) : List (List Int) := if syB n f m then stL n f P Q m else []
def tyL (n : Nat) (f P Q : Nat → Int) (m : Nat) : List Int := if syB n f m then tkL n f P Q m else []

theorem holdG {p : Prop} (h : p ∧ True) : p := h.1
/-- what the loop of a story knows of its own memory -/
structure StI (n : Nat) (f : Nat → Int) (R0 V g1 c1 : Nat) (w : World) (xs : List Shp) (T : Nat → Prop) (W : World) : Prop where
  box : ∃ v, Boxed W V 29 v ∧ W.ownsRow R0 23 1 v (xs.length + 1) (Value.slice (some ⟨g1, 0, none⟩) n c1 :: xs.map (Shp.v n)) ∧ ∀ g, v.ownBlock = some g → ¬ T g ∧ g ≠ g1
  first : OwnX W R0 3 (.slice (some ⟨g1, 0, none⟩) n c1) (rowL f n)
  nV : ¬ T V
  ng : ¬ T g1
  bel : Below R0 w W
  tl : ∀ k, T k → R0 ≤ k ∧ k < W.heap.size

theorem ownsRow_same {w w' : World} {B n : Nat} {e : TypeId} {v : Value} {xs : List Value} (h : w.ownsRow B e 1 v n xs) (hb : ∀ g, v.ownBlock = some g → w'.heap[g]? = w.heap[g]?) : w'.ownsRow B e 1 v n xs := by
  obtain ⟨h3, h4⟩ := h
  refine ⟨h3, ?_⟩
  rcases h4 with h4 | ⟨g, cap, cur, hv, hB, hg, hr⟩
  · exact .inl h4
  · subst hv
    exact .inr ⟨g, cap, cur, rfl, hB, by rw [hb g rfl]; exact hg, hr⟩
theorem ownsRow_base' {w : World} {B B' n : Nat} {e : TypeId} {v : Value} {xs : List Value} (h : w.ownsRow B e 1 v n xs) (hB : B' ≤ B) : w.ownsRow B' e 1 v n xs := by
  obtain ⟨h3, h4⟩ := h
  refine ⟨h3, ?_⟩
  rcases h4 with h4 | ⟨g, cap, cur, hv, hBg, hr⟩
  · exact .inl h4
  · exact .inr ⟨g, cap, cur, hv, Nat.le_trans hB hBg, hr⟩
theorem ownsRow_cells {w : World} {B n : Nat} {e : TypeId} {v : Value} {xs : List Value} (h : w.ownsRow B e 1 v n xs) {g : Nat} (hg : v.ownBlock = some g) {o : Obj} (ho : w.heap[g]? = some o) : o.isCells = true := by
  obtain ⟨_, ⟨rfl, _⟩ | ⟨g2, cap, cur, rfl, _, hh, _⟩⟩ := h
  · simp [Value.ownBlock] at hg
  · simp [Value.ownBlock] at hg
    subst hg
    rw [hh] at ho; cases ho; rfl
theorem StI.abide {n R0 V g1 c1 Bs : Nat} {f : Nat → Int} {w : World} (hB : R0 ≤ Bs) : AbideT Bs (StI n f R0 V g1 c1 w) := by
  rintro xs T T' W W' h hm hT'
  obtain ⟨v, h1, h2, h3⟩ := h.box
  have hs := h.bel.size
  have hw : w.heap.size ≤ W'.heap.size := Nat.le_trans hs hm.size
  have hVl := h1.lt
  have hgl := (World.ownsRow.lt h.first g1 rfl)
  have hT2 : ∀ k, k < W.heap.size → ¬ T k → ¬ T' k := fun k hk hn h => by rcases hT' k h with h | h; exact hn h; omega
  have eV : W'.heap[V]? = W.heap[V]? := hm.block V hVl h.nV (fun _ o ho => by rw [show W.heap[V]? = _ from h1] at ho; cases ho; rfl)
  have eg : W'.heap[g1]? = W.heap[g1]? := hm.block g1 hgl.2 h.ng (fun _ o ho => ownsRow_cells h.first rfl ho)
  refine ⟨⟨v, eV.trans h1, ownsRow_same h2 (fun g hg => hm.block g (World.ownsRow.lt h2 g hg).2 (h3 g hg).1 (fun _ o ho => ownsRow_cells h2 hg ho)), fun g hg => ⟨hT2 g (World.ownsRow.lt h2 g hg).2 (h3 g hg).1, (h3 g hg).2⟩⟩, OwnX.at h.first eg, hT2 V hVl h.nV, hT2 g1 hgl.2 h.ng, ?_, fun k hk => ?_⟩
  · have hR := h.bel
    refine ⟨hm.os.trans hR.os, hm.tape.trans hR.tape, hm.output.trans hR.output, hw, fun k hk => ?_⟩
    by_cases hkW : k < W.heap.size
    · rw [hm.block k hkW (fun h5 => by have := h.tl k h5; omega) (fun h5 => by omega)]
      exact hR.block k hk
    · have hR0 : R0 ≤ W.heap.size := Nat.le_trans (by have := hgl.1; omega) (Nat.le_of_lt hgl.2)
      omega
  · have hR0 : R0 ≤ W.heap.size := by omega
    have := hm.size
    rcases hT' k hk with h5 | h5
    · have := h.tl k h5; omega
    · omega

theorem grown_at {W w1 : World} {t : Obj} {row : Option Nat} (hg : (W.alloc t).grownBy w1 row) {k : Nat} (hk : k < W.heap.size) (hn : some k ≠ row) : w1.heap[k]? = W.heap[k]? := by
  rw [hg.block k (by rw [alloc_size]; omega) hn]
  exact Below.heap_alloc _ _ _ hk
theorem StI.more {n R0 V g1 c1 : Nat} {f : Nat → Int} {w W w1 : World} {xs : List Shp} {T : Nat → Prop} {v v' : Value} {tmp : Obj} (x : Shp) (h : StI n f R0 V g1 c1 w xs T W)
    (hv : Boxed W V 29 v) (hrow : W.ownsRow R0 23 1 v (xs.length + 1) (Value.slice (some ⟨g1, 0, none⟩) n c1 :: xs.map (Shp.v n))) (hap : ∀ g, v.ownBlock = some g → ¬ T g ∧ g ≠ g1)
    (hown' : w1.ownsRow R0 23 1 v' (xs.length + 1 + 1) (Value.slice (some ⟨g1, 0, none⟩) n c1 :: (xs.map (Shp.v n) ++ [x.v n]))) (hgrow : (W.alloc tmp).grownBy w1 v.ownBlock) (hat : v'.ownBlock = v.ownBlock ∨ v'.ownBlock = some (W.heap.size + 1))
    (hR : R0 ≤ W.heap.size) (hVR : R0 ≤ V) (hVg : V ≠ g1) :
    Boxed w1 V 29 v ∧ KeepsOthers W (w1.setCell ⟨V, 0, none⟩ v') ∧ (∀ k, T k ∨ k < R0 → (w1.setCell ⟨V, 0, none⟩ v').heap[k]? = W.heap[k]?) ∧ StI n f R0 V g1 c1 w (xs ++ [x]) T (w1.setCell ⟨V, 0, none⟩ v') := by
  obtain ⟨hv1, hv2, hr2, hk2, hb2⟩ := hv.appended (by decide) hrow hR hVR hown' hgrow
  have hgl := World.ownsRow.lt h.first g1 rfl
  have hs : (w1.setCell ⟨V, 0, none⟩ v').heap.size = w1.heap.size := by simp [World.setCell]
  have hs1 : W.heap.size + 1 ≤ w1.heap.size := by have := hgrow.size; rw [alloc_size] at this; exact this
  have hsame : ∀ k, k < W.heap.size → k ≠ V → some k ≠ v.ownBlock → (w1.setCell ⟨V, 0, none⟩ v').heap[k]? = W.heap[k]? := fun k hk h1 h2 => (Below.heap_setCell _ _ _ k h1).trans (grown_at hgrow hk h2)
  refine ⟨hv1, hk2, fun k hk => ?_, ⟨v', hv2, ?_, fun g hg => ?_⟩, OwnX.at h.first (hsame g1 hgl.2 (Ne.symm hVg) (fun e => (hap g1 e.symm).2 rfl)), h.nV, h.ng, h.bel.trans hb2, fun k hk => ?_⟩
  · rcases hk with hk | hk
    · exact hsame k (h.tl k hk).2 (fun e => h.nV (e ▸ hk)) (fun e => (hap k e.symm).1 hk)
    · exact hb2.block k hk
  · rw [List.length_append, List.map_append]
    exact hr2
  · rcases hat with e | e
    · rw [e] at hg; exact hap g hg
    · rw [e] at hg
      have hg : W.heap.size + 1 = g := by simpa using hg
      exact ⟨fun ht => by have := h.tl g ht; omega, by omega⟩
  · have := h.tl k hk
    rw [hs]; omega
theorem st_getD {n : Nat} {f P Q : Nat → Int} {m i : Nat} {xs : List Shp} (h : xs.map (fun x => x.k) = dnL n f P Q m) (hi : i < xs.length) : (stL n f P Q m).getD (i + 1) [] = rowL (nowF n f P Q ((xs[i]'hi).k + 1)) n := by
  unfold stL
  rw [← h, List.getD_cons_succ, List.map_map, List.getD_eq_getElem?_getD, List.getElem?_map, List.getElem?_eq_getElem hi]
  rfl
theorem StI.ships {n R0 V g1 c1 B m : Nat} {f P Q : Nat → Int} {w W : World} {xs : List Shp} {T : Nat → Prop} (h : StI n f R0 V g1 c1 w xs T W) (hs : ShpAll n f P Q m B xs T W) (hB : R0 ≤ B) (hc : n ≤ c1) :
    ∃ v, Boxed W V 29 v ∧ Ships W R0 n v (stL n f P Q m) ((g1, c1) :: xs.map (fun x => (x.g, x.c))) := by
  obtain ⟨v, h1, h2, h3⟩ := h.box
  have hl : (stL n f P Q m).length = xs.length + 1 := by rw [st_len, hs.len]
  have hT : ∀ x ∈ xs, T x.g := fun x hx => (hs.2.2 x hx).1
  refine ⟨v, h1, ?_, fun i hi => ?_, ?_, ?_⟩
  · rw [hl, List.map_cons, List.map_map]; exact h2
  · rw [hl] at hi
    match i, hi with
    | 0, _ => exact ⟨h.first, hc⟩
    | i + 1, hi =>
      have hi : i < xs.length := by omega
      rw [st_getD hs.1 hi, List.getD_cons_succ, List.getD_eq_getElem?_getD, List.getElem?_map, List.getElem?_eq_getElem hi]
      have := hs.2.2 _ (List.getElem_mem hi)
      exact ⟨this.2.1.base hB, this.2.2⟩
  · rw [List.map_cons, List.map_map, List.nodup_cons]
    refine ⟨fun hm => ?_, hs.2.1⟩
    obtain ⟨x, hx, e⟩ := List.mem_map.1 hm
    exact h.ng (by have := hT x hx; rw [show x.g = g1 from e] at this; exact this)
  · intro r hr e
    rcases List.mem_cons.1 hr with rfl | hr
    · exact (h3 g1 e).2 rfl
    · obtain ⟨x, hx, rfl⟩ := List.mem_map.1 hr
      exact (h3 _ e).1 (hT x hx)
theorem Ships.put {w : World} {B n : Nat} {v : Value} {L : List (List Int)} {rs : List (Nat × Nat)} (h : Ships w B n v L rs) {l : Nat} {o : Obj} (o' : Obj) (hl : w.heap[l]? = some o) (ho : o.isCells = false) : Ships (w.putObj l o') B n v L rs :=
  ⟨ownsRow_putObj h.own o' hl ho, fun i hi => ⟨ownsRow_putObj (h.row i hi).1 o' hl ho, (h.row i hi).2⟩, h.dis, h.apart⟩

end Go.Proofs.Ytglnefffkcillaa
