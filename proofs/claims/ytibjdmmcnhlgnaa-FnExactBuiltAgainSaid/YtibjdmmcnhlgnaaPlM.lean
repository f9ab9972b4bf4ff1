import Derived.Test.YtibjdmmcnhlgnaaOwnX
namespace Go.Proofs.Ytibjdmmcnhlgnaa
set_option linter.unusedVariables false
set_option linter.unusedSimpArgs false

/-- a value is among the first n -/
def inF (v : Int) (n : Nat) (f : Nat → Int) : Bool := (List.range n).any (fun k => f k == v)
theorem inF_iff {v : Int} {n : Nat} {f : Nat → Int} : inF v n f = true ↔ ∃ k, k < n ∧ f k = v := by
  unfold inF
  rw [List.any_eq_true]
  constructor
  · rintro ⟨k, h1, h2⟩
    exact ⟨k, List.mem_range.1 h1, by simpa using h2⟩
  · rintro ⟨k, h1, h2⟩
    exact ⟨k, List.mem_range.2 h1, by simpa using h2⟩
theorem inF_no {v : Int} {n : Nat} {f : Nat → Int} : inF v n f = false ↔ ∀ k, k < n → f k ≠ v := by
  cases h : inF v n f with
  | true => 
    obtain ⟨k, h1, h2⟩ := inF_iff.1 h
    exact ⟨fun h => (by cases h), fun h => absurd h2 (h k h1)⟩
  | false => exact ⟨fun _ k hk e => (by rw [inF_iff.2 ⟨k, hk, e⟩] at h; cases h), fun _ => rfl⟩
theorem inF_zero (v : Int) (f : Nat → Int) : inF v 0 f = false := rfl
theorem inF_succ (v : Int) (n : Nat) (f : Nat → Int) : inF v (n + 1) f = (inF v n f || f n == v) := by
  unfold inF; rw [List.range_succ, List.any_append]; simp
theorem inF_congr {v : Int} {n : Nat} {f g : Nat → Int} (h : ∀ k, k < n → f k = g k) : inF v n f = inF v n g := by
  rw [Bool.eq_iff_iff, inF_iff, inF_iff]
  exact ⟨fun ⟨k, h1, h2⟩ => ⟨k, h1, by rw [← h k h1]; exact h2⟩, fun ⟨k, h1, h2⟩ => ⟨k, h1, by rw [h k h1]; exact h2⟩⟩

/-- the number of a plank -/
def pkB (v : Int) : Bool := decide (0 ≤ v) && decide (v ≤ 99)
theorem pkB_iff {v : Int} : pkB v = true ↔ 0 ≤ v ∧ v ≤ 99 := by unfold pkB; simp
/-- the first n planks are in order, and no two are one -/
def shipK (n : Nat) (f : Nat → Int) : Bool := (List.range n).all (fun k => pkB (f k) && !inF (f k) k f)
theorem shipK_succ (n : Nat) (f : Nat → Int) : shipK (n + 1) f = (shipK n f && (pkB (f n) && !inF (f n) n f)) := by
  unfold shipK; rw [List.range_succ, List.all_append]; simp
theorem shipK_at {n : Nat} {f : Nat → Int} (h : shipK n f = true) {k : Nat} (hk : k < n) : pkB (f k) = true ∧ inF (f k) k f = false := by
  unfold shipK at h
  rw [List.all_eq_true] at h
  have := h k (List.mem_range.2 hk)
  simpa using this
theorem shipK_no {n : Nat} {f : Nat → Int} {k : Nat} (hk : k < n) (h : (pkB (f k) && !inF (f k) k f) = false) : shipK n f = false := by
  cases e : shipK n f with
  | true =>
    obtain ⟨h1, h2⟩ := shipK_at e hk
    rw [h1, h2] at h; cases h
  | false => rfl
theorem shipK_of {n : Nat} {f : Nat → Int} (h1 : ∀ k, k < n → 0 ≤ f k ∧ f k ≤ 99) (h2 : ∀ j k, j < k → k < n → f j ≠ f k) : shipK n f = true := by
  unfold shipK
  rw [List.all_eq_true]
  intro k hk
  have hk := List.mem_range.1 hk
  rw [pkB_iff.2 (h1 k hk), inF_no.2 (fun j hj => h2 j k hj hk)]
  rfl
theorem shipK_congr {n : Nat} {f g : Nat → Int} (h : ∀ k, k < n → f k = g k) : shipK n f = shipK n g := by
  induction n with
  | zero => rfl
  | succ n ih => rw [shipK_succ, shipK_succ, ih (fun k hk => h k (by omega)), h n (by omega), inF_congr (fun k hk => h k (by omega))]
/-- a ship -/
def shipB (n : Nat) (f : Nat → Int) : Bool := (decide (1 ≤ n) && decide (n ≤ 6)) && shipK n f
theorem shipB_iff {n : Nat} {f : Nat → Int} : shipB n f = true ↔ 1 ≤ n ∧ n ≤ 6 ∧ shipK n f = true := by unfold shipB; simp [and_assoc]
theorem shipB_congr {n : Nat} {f g : Nat → Int} (h : ∀ k, k < n → f k = g k) : shipB n f = shipB n g := by unfold shipB; rw [shipK_congr h]
theorem ship_few {n : Nat} {f : Nat → Int} (h : n < 1) : shipB n f = false := by unfold shipB; rw [decide_eq_false (by omega : ¬ 1 ≤ n)]; rfl
theorem ship_many {n : Nat} {f : Nat → Int} (h : 6 < n) : shipB n f = false := by unfold shipB; rw [decide_eq_false (by omega : ¬ n ≤ 6), Bool.and_false]; rfl
theorem ship_of {n : Nat} {f : Nat → Int} (h1 : 1 ≤ n) (h6 : n ≤ 6) : shipB n f = shipK n f := by unfold shipB; rw [decide_eq_true h1, decide_eq_true h6]; rfl
theorem ship_pk {n : Nat} {f : Nat → Int} (h : shipB n f = true) {k : Nat} (hk : k < n) : 0 ≤ f k ∧ f k ≤ 99 := pkB_iff.1 (shipK_at (shipB_iff.1 h).2.2 hk).1
theorem ship_lt {n : Nat} {f : Nat → Int} (h : shipB n f = true) {j k : Nat} (hj : j < k) (hk : k < n) : f j ≠ f k := inF_no.1 (shipK_at (shipB_iff.1 h).2.2 hk).2 j hj
theorem ship_inj {n : Nat} {f : Nat → Int} (h : shipB n f = true) {j k : Nat} (hj : j < n) (hk : k < n) (e : f j = f k) : j = k := by
  rcases Nat.lt_trichotomy j k with h1 | h1 | h1
  · exact absurd e (ship_lt h h1 hk)
  · exact h1
  · exact absurd e.symm (ship_lt h h1 hj)

/-- how many of the first n are among the others -/
def cntF (n : Nat) (f : Nat → Int) (m : Nat) (g : Nat → Int) : Nat := (List.range n).countP (fun k => inF (f k) m g)
theorem cntF_zero (f : Nat → Int) (m : Nat) (g : Nat → Int) : cntF 0 f m g = 0 := rfl
theorem cntF_succ (n : Nat) (f : Nat → Int) (m : Nat) (g : Nat → Int) : cntF (n + 1) f m g = cntF n f m g + (if inF (f n) m g then 1 else 0) := by
  unfold cntF; rw [List.range_succ, List.countP_append, List.countP_singleton]
theorem cntF_le (n : Nat) (f : Nat → Int) (m : Nat) (g : Nat → Int) : cntF n f m g ≤ n := by
  unfold cntF; have := List.countP_le_length (p := fun k => inF (f k) m g) (l := List.range n); rw [List.length_range] at this; exact this
theorem cntF_congr {n m : Nat} {f f' g g' : Nat → Int} (h : ∀ k, k < n → f k = f' k) (h2 : ∀ k, k < m → g k = g' k) : cntF n f m g = cntF n f' m g' := by
  induction n with
  | zero => rfl
  | succ n ih => rw [cntF_succ, cntF_succ, ih (fun k hk => h k (by omega)), h n (by omega), inF_congr h2]

/-- of all numbers of planks, those of which P holds -/
def allC (P : Int → Bool) : Nat := (List.range 100).countP (fun v : Nat => P (v : Int))
theorem countP_le_of {α : Type} {l : List α} {P Q : α → Bool} (h : ∀ x, x ∈ l → P x = true → Q x = true) : l.countP P ≤ l.countP Q := List.countP_mono_left h
theorem allC_congr {P Q : Int → Bool} (h : ∀ v, 0 ≤ v → v ≤ 99 → P v = Q v) : allC P = allC Q := by
  unfold allC
  apply List.countP_congr
  intro v hv
  have := List.mem_range.1 hv
  rw [h v (by omega) (by omega)]
theorem allC_mono {P Q : Int → Bool} (h : ∀ v, P v = true → Q v = true) : allC P ≤ allC Q := countP_le_of (fun _ _ => h _)
theorem countP_add {α : Type} {l : List α} {A B C D : α → Bool} (h : ∀ x, x ∈ l → (A x).toNat + (B x).toNat ≤ (C x).toNat + (D x).toNat) : l.countP A + l.countP B ≤ l.countP C + l.countP D := by
  induction l with
  | nil => simp
  | cons x l ih =>
    have h1 := ih (fun y hy => h y (List.mem_cons_of_mem _ hy))
    have h2 := h x (List.mem_cons_self ..)
    have hi : ∀ b : Bool, (if b = true then 1 else 0) = b.toNat := fun b => by cases b <;> rfl
    simp only [List.countP_cons, hi]
    omega
theorem allC_add {A B C D : Int → Bool} (h : ∀ v, (A v).toNat + (B v).toNat ≤ (C v).toNat + (D v).toNat) : allC A + allC B ≤ allC C + allC D := countP_add (fun _ _ => h _)
theorem countP_or {α : Type} {l : List α} {A B : α → Bool} (h : ∀ x, x ∈ l → A x = true → B x = true → False) : l.countP (fun x => A x || B x) = l.countP A + l.countP B := by
  induction l with
  | nil => rfl
  | cons x l ih =>
    have h1 := ih (fun y hy => h y (List.mem_cons_of_mem _ hy))
    have h2 := h x (List.mem_cons_self ..)
    simp only [List.countP_cons]
    cases hA : A x <;> cases hB : B x <;> simp_all <;> omega
theorem countP_one (x : Nat) (n : Nat) (hx : x < n) : (List.range n).countP (fun v => decide (v = x)) = 1 := by
  induction n with
  | zero => omega
  | succ n ih =>
    rw [List.range_succ, List.countP_append, List.countP_singleton]
    by_cases e : n = x
    · subst e
      have : (List.range n).countP (fun v => decide (v = n)) = 0 := by
        rw [List.countP_eq_zero]
        intro v hv
        have := List.mem_range.1 hv
        simp; omega
      rw [this]; simp
    · rw [ih (by omega)]; simp [e]
/-- counted over the ship, counted over all numbers -/
theorem count_ship {P : Int → Bool} {f : Nat → Int} : ∀ {n : Nat}, shipK n f = true → (List.range n).countP (fun k => P (f k)) = allC (fun v => inF v n f && P v)
  | 0, _ => by
    unfold allC
    symm
    show (List.range 100).countP (fun v : Nat => (inF (v : Int) 0 f && P v)) = 0
    rw [List.countP_eq_zero]
    intro v _
    rw [inF_zero]; simp
  | n + 1, h => by
    have h1 := shipK_at h (Nat.lt_succ_self n)
    rw [shipK_succ, Bool.and_eq_true] at h
    rw [List.range_succ, List.countP_append, count_ship h.1, List.countP_singleton]
    obtain ⟨h0, h99⟩ := pkB_iff.1 h1.1
    obtain ⟨x, hx⟩ : ∃ x : Nat, f n = x := ⟨(f n).toNat, by omega⟩
    have hx9 : x < 100 := by omega
    cases hP : P (f n) with
    | true =>
      have key : allC (fun v => inF v (n + 1) f && P v) = allC (fun v => inF v n f && P v) + (List.range 100).countP (fun v => decide (v = x)) := by
        unfold allC
        rw [← countP_or (by
          intro v _ hA hB
          have e : v = x := by simpa using hB
          subst e
          rw [Bool.and_eq_true, ← hx, h1.2] at hA
          exact absurd hA.1 (by simp))]
        apply List.countP_congr
        intro v hv
        show (inF (v : Int) (n + 1) f && P (v : Int)) = true ↔ ((inF (v : Int) n f && P (v : Int)) || decide (v = x)) = true
        rw [inF_succ, hx]
        by_cases e : v = x
        · subst e
          rw [← hx, hP]; simp
        · have : ((x : Int) == (v : Int)) = false := by simp; omega
          rw [this, decide_eq_false e]; simp
      rw [key, countP_one x 100 hx9]
      rfl
    | false =>
      rw [if_neg (by simp), Nat.add_zero]
      apply allC_congr
      intro v _ _
      rw [inF_succ]
      by_cases e : f n = v
      · rw [← e, hP]; simp
      · have : (f n == v) = false := by simpa using e
        rw [this, Bool.or_false]
theorem cntF_ship {n m : Nat} {f g : Nat → Int} (h : shipB n f = true) : cntF n f m g = allC (fun v => inF v n f && inF v m g) := count_ship (P := fun v => inF v m g) (shipB_iff.1 h).2.2
theorem len_ship {n : Nat} {f : Nat → Int} (h : shipB n f = true) : n = allC (fun v => inF v n f) := by
  have := count_ship (P := fun _ => true) (shipB_iff.1 h).2.2
  simp only [Bool.and_true] at this
  rw [← this]
  have h2 : (List.range n).countP (fun _ => true) = (List.range n).length := by rw [List.countP_eq_length]; simp
  rw [h2, List.length_range]
theorem cnt_sym {n m : Nat} {f g : Nat → Int} (hf : shipB n f = true) (hg : shipB m g = true) : cntF n f m g = cntF m g n f := by
  rw [cntF_ship hf, cntF_ship hg]
  exact allC_congr (fun v _ _ => Bool.and_comm _ _)
theorem cnt_self {n : Nat} {f : Nat → Int} : cntF n f n f = n := by
  unfold cntF
  have h2 : (List.range n).countP (fun k => inF (f k) n f) = (List.range n).length := by
    rw [List.countP_eq_length]
    intro k hk
    exact inF_iff.2 ⟨k, List.mem_range.1 hk, rfl⟩
  rw [h2, List.length_range]
theorem cnt_more {n m : Nat} {f g : Nat → Int} (hf : shipB n f = true) (hg : shipB m g = true) : cntF n f m g ≤ m := by rw [cnt_sym hf hg]; exact cntF_le _ _ _ _
/-- what two have in common with a third -/
theorem cnt_three {n m p : Nat} {f g h : Nat → Int} (hf : shipB n f = true) (hg : shipB m g = true) (hh : shipB p h = true) : cntF n f m g + cntF m g p h ≤ cntF n f p h + m := by
  rw [cntF_ship hf, cntF_ship hg, cntF_ship hf]
  conv => rhs; rw [len_ship hg]
  apply allC_add
  intro v
  cases inF v n f <;> cases inF v m g <;> cases inF v p h <;> decide
theorem cnt_all {n m : Nat} {f g : Nat → Int} : cntF n f m g = n ↔ ∀ k, k < n → inF (f k) m g = true := by
  unfold cntF
  have : (List.range n).countP (fun k => inF (f k) m g) = n ↔ (List.range n).countP (fun k => inF (f k) m g) = (List.range n).length := by rw [List.length_range]
  rw [this, List.countP_eq_length]
  exact ⟨fun h k hk => h k (List.mem_range.2 hk), fun h k hk => h k (List.mem_range.1 hk)⟩
theorem cnt_zero {n m : Nat} {f g : Nat → Int} : cntF n f m g = 0 ↔ ∀ k, k < n → inF (f k) m g = false := by
  unfold cntF
  rw [List.countP_eq_zero]
  exact ⟨fun h k hk => by simpa using h k (List.mem_range.2 hk), fun h k hk => by simpa using h k (List.mem_range.1 hk)⟩

/-- how many two have in common, -1 where one is no ship -/
def cmI (n : Nat) (f : Nat → Int) (m : Nat) (g : Nat → Int) : Int := if shipB n f && shipB m g then (cntF n f m g : Int) else -1
theorem cmI_yes {n m : Nat} {f g : Nat → Int} (hf : shipB n f = true) (hg : shipB m g = true) : cmI n f m g = (cntF n f m g : Int) := by unfold cmI; rw [hf, hg]; rfl
theorem cmI_no {n m : Nat} {f g : Nat → Int} (h : (shipB n f && shipB m g) = false) : cmI n f m g = -1 := by unfold cmI; rw [h]; rfl
/-- mostly the same -/
def moB (n : Nat) (f : Nat → Int) (m : Nat) (g : Nat → Int) (but : Int) : Bool := (shipB n f && shipB m g) && (decide (n = m) && decide ((n : Int) - cntF n f m g ≤ but))
theorem moB_iff {n m : Nat} {f g : Nat → Int} {b : Int} : moB n f m g b = true ↔ shipB n f = true ∧ shipB m g = true ∧ n = m ∧ (n : Int) - cntF n f m g ≤ b := by
  unfold moB; simp only [Bool.and_eq_true, decide_eq_true_eq, and_assoc]

/-- a change can be done -/
def okC (n : Nat) (f : Nat → Int) (p q : Int) : Bool := (decide (0 ≤ p) && decide (p < n)) && (pkB q && !inF q n f)
theorem okC_iff {n : Nat} {f : Nat → Int} {p q : Int} : okC n f p q = true ↔ 0 ≤ p ∧ p < n ∧ pkB q = true ∧ inF q n f = false := by
  unfold okC; simp only [Bool.and_eq_true, decide_eq_true_eq, and_assoc, Bool.not_eq_true']
/-- the change is done -/
def setF (f : Nat → Int) (p : Nat) (q : Int) : Nat → Int := fun i => if i = p then q else f i
theorem setF_same (f : Nat → Int) (p : Nat) (q : Int) : setF f p q p = q := by unfold setF; rw [if_pos rfl]
theorem setF_other (f : Nat → Int) {p i : Nat} (q : Int) (h : i ≠ p) : setF f p q i = f i := by unfold setF; rw [if_neg h]
theorem inF_set {n : Nat} {f : Nat → Int} {p : Nat} {q : Int} (hp : p < n) (v : Int) (hv : v ≠ f p) : inF v n (setF f p q) = (inF v n f || q == v) := by
  rw [Bool.eq_iff_iff, Bool.or_eq_true, inF_iff, inF_iff]
  constructor
  · rintro ⟨k, h1, h2⟩
    by_cases e : k = p
    · subst e; rw [setF_same] at h2; exact .inr (by simpa using h2)
    · rw [setF_other _ _ e] at h2; exact .inl ⟨k, h1, h2⟩
  · rintro (⟨k, h1, h2⟩ | h)
    · exact ⟨k, h1, by rw [setF_other _ _ (fun e => by subst e; exact hv h2.symm)]; exact h2⟩
    · exact ⟨p, hp, by rw [setF_same]; simpa using h⟩
theorem ship_set {n : Nat} {f : Nat → Int} {p : Nat} {q : Int} (h : shipB n f = true) (hp : p < n) (hq : pkB q = true) (hi : inF q n f = false) : shipB n (setF f p q) = true := by
  obtain ⟨h1, h2, _⟩ := shipB_iff.1 h
  refine shipB_iff.2 ⟨h1, h2, shipK_of (fun k hk => ?_) (fun j k hj hk => ?_)⟩
  · by_cases e : k = p
    · subst e; rw [setF_same]; exact pkB_iff.1 hq
    · rw [setF_other _ _ e]; exact ship_pk h hk
  · by_cases e : k = p
    · subst e
      rw [setF_same, setF_other _ _ (by omega)]
      exact inF_no.1 hi j (by omega)
    · by_cases e2 : j = p
      · subst e2
        rw [setF_same, setF_other _ _ e]
        exact fun e3 => inF_no.1 hi k hk e3.symm
      · rw [setF_other _ _ e, setF_other _ _ e2]
        exact ship_lt h hj hk
/-- all but one are in common -/
theorem cnt_set {n : Nat} {f : Nat → Int} {p : Nat} {q : Int} (h : shipB n f = true) (hp : p < n) (hi : inF q n f = false) : cntF n f n (setF f p q) + 1 = n := by
  have key : ∀ m, m ≤ n → cntF m f n (setF f p q) + (if p < m then 1 else 0) = m := by
    intro m
    induction m with
    | zero => intro _; rw [cntF_zero]; simp
    | succ m ih =>
      intro hm
      have ih := ih (by omega)
      rw [cntF_succ]
      by_cases e : m = p
      · subst e
        have : inF (f m) n (setF f m q) = false := inF_no.2 (fun k hk => by
          by_cases e : k = m
          · subst e; rw [setF_same]; exact fun e => inF_no.1 hi k hk e.symm
          · rw [setF_other _ _ e]; exact fun e2 => e (ship_inj h hk hp e2))
        rw [this, if_neg (by decide), if_pos (by omega)]
        rw [if_neg (by omega)] at ih
        omega
      · have : inF (f m) n (setF f p q) = true := inF_iff.2 ⟨m, by omega, setF_other _ _ e⟩
        rw [this, if_pos rfl]
        by_cases e2 : p < m
        · rw [if_pos (by omega)]; rw [if_pos e2] at ih; omega
        · rw [if_neg (by omega)]; rw [if_neg e2] at ih; omega
  have := key n (Nat.le_refl _)
  rw [if_pos hp] at this
  exact this
theorem setF_back (f : Nat → Int) (p : Nat) (q : Int) : setF (setF f p q) p (f p) = f := by
  funext i
  by_cases e : i = p
  · subst e; rw [setF_same]
  · rw [setF_other _ _ e, setF_other _ _ e]
theorem back_no {n : Nat} {f : Nat → Int} {p : Nat} {q : Int} (h : shipB n f = true) (hp : p < n) (hi : inF q n f = false) : inF (f p) n (setF f p q) = false :=
  inF_no.2 (fun k hk => by
    by_cases e : k = p
    · subst e; rw [setF_same]; exact fun e => inF_no.1 hi k hk e.symm
    · rw [setF_other _ _ e]; exact fun e2 => e (ship_inj h hk hp e2))

/-- the ship after the first k changes -/
def nowF (n : Nat) (f : Nat → Int) (P Q : Nat → Int) : Nat → Nat → Int
  | 0 => f
  | k + 1 => if okC n (nowF n f P Q k) (P k) (Q k) then setF (nowF n f P Q k) (P k).toNat (Q k) else nowF n f P Q k
/-- the change of number k can be done -/
def goB (n : Nat) (f : Nat → Int) (P Q : Nat → Int) (k : Nat) : Bool := okC n (nowF n f P Q k) (P k) (Q k)
theorem now_yes {n : Nat} {f : Nat → Int} {P Q : Nat → Int} {k : Nat} (h : goB n f P Q k = true) : nowF n f P Q (k + 1) = setF (nowF n f P Q k) (P k).toNat (Q k) := by
  show (if okC n (nowF n f P Q k) (P k) (Q k) then _ else _) = _; rw [show okC n (nowF n f P Q k) (P k) (Q k) = true from h]; rfl
theorem now_no {n : Nat} {f : Nat → Int} {P Q : Nat → Int} {k : Nat} (h : goB n f P Q k = false) : nowF n f P Q (k + 1) = nowF n f P Q k := by
  show (if okC n (nowF n f P Q k) (P k) (Q k) then _ else _) = _; rw [show okC n (nowF n f P Q k) (P k) (Q k) = false from h]; rfl
theorem now_ship {n : Nat} {f : Nat → Int} {P Q : Nat → Int} (h : shipB n f = true) : ∀ k, shipB n (nowF n f P Q k) = true
  | 0 => h
  | k + 1 => by
    have ih := now_ship h (P := P) (Q := Q) k
    cases hg : goB n f P Q k with
    | true =>
      rw [now_yes hg]
      obtain ⟨h1, h2, h3, h4⟩ := okC_iff.1 hg
      exact ship_set ih (by omega) h3 h4
    | false => rw [now_no hg]; exact ih

/-- the changes of the first m that are done -/
def dnL (n : Nat) (f : Nat → Int) (P Q : Nat → Int) (m : Nat) : List Nat := (List.range m).filter (goB n f P Q)
theorem dn_yes {n : Nat} {f : Nat → Int} {P Q : Nat → Int} {k : Nat} (h : goB n f P Q k = true) : dnL n f P Q (k + 1) = dnL n f P Q k ++ [k] := by
  unfold dnL; rw [List.range_succ, List.filter_append]; simp [h]
theorem dn_no {n : Nat} {f : Nat → Int} {P Q : Nat → Int} {k : Nat} (h : goB n f P Q k = false) : dnL n f P Q (k + 1) = dnL n f P Q k := by
  unfold dnL; rw [List.range_succ, List.filter_append]; simp [h]
theorem dn_len (n : Nat) (f : Nat → Int) (P Q : Nat → Int) (m : Nat) : (dnL n f P Q m).length ≤ m := by
  have := List.length_filter_le (goB n f P Q) (List.range m)
  rw [List.length_range] at this
  exact this
/-- all ships of a story -/
def stL (n : Nat) (f : Nat → Int) (P Q : Nat → Int) (m : Nat) : List (List Int) := rowL f n :: (dnL n f P Q m).map (fun k => rowL (nowF n f P Q (k + 1)) n)
/-- what was taken out -/
def tkL (n : Nat) (f : Nat → Int) (P Q : Nat → Int) (m : Nat) : List Int := (dnL n f P Q m).map (fun k => nowF n f P Q k (P k).toNat)
theorem st_yes {n : Nat} {f : Nat → Int} {P Q : Nat → Int} {k : Nat} (h : goB n f P Q k = true) : stL n f P Q (k + 1) = stL n f P Q k ++ [rowL (nowF n f P Q (k + 1)) n] := by
  unfold stL; rw [dn_yes h, List.map_append]; rfl
theorem st_no {n : Nat} {f : Nat → Int} {P Q : Nat → Int} {k : Nat} (h : goB n f P Q k = false) : stL n f P Q (k + 1) = stL n f P Q k := by
  unfold stL; rw [dn_no h]
theorem tk_yes {n : Nat} {f : Nat → Int} {P Q : Nat → Int} {k : Nat} (h : goB n f P Q k = true) : tkL n f P Q (k + 1) = tkL n f P Q k ++ [nowF n f P Q k (P k).toNat] := by
  unfold tkL; rw [dn_yes h, List.map_append]; rfl
theorem tk_no {n : Nat} {f : Nat → Int} {P Q : Nat → Int} {k : Nat} (h : goB n f P Q k = false) : tkL n f P Q (k + 1) = tkL n f P Q k := by
  unfold tkL; rw [dn_no h]
theorem st_len (n : Nat) (f : Nat → Int) (P Q : Nat → Int) (m : Nat) : (stL n f P Q m).length = (dnL n f P Q m).length + 1 := by unfold stL; simp
theorem tk_len (n : Nat) (f : Nat → Int) (P Q : Nat → Int) (m : Nat) : (tkL n f P Q m).length = (dnL n f P Q m).length := by unfold tkL; simp
/-- a plank of the first is in the last, or was taken out -/
theorem lost_taken {n : Nat} {f : Nat → Int} {P Q : Nat → Int} {v : Int} (h0 : inF v n f = true) : ∀ m, inF v n (nowF n f P Q m) = true ∨ v ∈ tkL n f P Q m
  | 0 => .inl h0
  | m + 1 => by
    have ih := lost_taken h0 (P := P) (Q := Q) m
    cases hg : goB n f P Q m with
    | true =>
      rw [now_yes hg, tk_yes hg]
      obtain ⟨h1, h2, h3, h4⟩ := okC_iff.1 hg
      rcases ih with ih | ih
      · by_cases e : v = nowF n f P Q m (P m).toNat
        · exact .inr (List.mem_append.2 (.inr (by rw [e]; exact List.mem_singleton.2 rfl)))
        · exact .inl (by rw [inF_set (by omega) v e, ih]; rfl)
      · exact .inr (List.mem_append.2 (.inl ih))
    | false => rw [now_no hg, tk_no hg]; exact ih
/-- what is built again: all planks are among those that were taken out -/
def buB (n : Nat) (f : Nat → Int) (P Q : Nat → Int) (m : Nat) : Bool := (shipB n f && decide (m ≤ 20)) && (List.range n).all (fun k => (tkL n f P Q m).contains (f k))
theorem dn_mem {n : Nat} {f : Nat → Int} {P Q : Nat → Int} {m i k : Nat} (h : (dnL n f P Q m)[i]? = some k) : k < m ∧ goB n f P Q k = true := by
  have := List.mem_of_getElem? h
  unfold dnL at this
  obtain ⟨h1, h2⟩ := List.mem_filter.1 this
  exact ⟨List.mem_range.1 h1, h2⟩
end Go.Proofs.Ytibjdmmcnhlgnaa
