import Derived.Test.YtidcfcjmjgcfkaaSpecTold
namespace Go.Proofs.Ytidcfcjmjgcfkaa
open Go.RowKit

theorem pow7 {a n : Nat} (h7 : n ≤ 7) (ha : a < n) : I64 (2 ^ a) := by
  have ⟨h1, h2⟩ := pow_bounds a (by omega)
  unfold I64; omega

/-- within a set of numbers from 0 on is at most that -/
theorem le_of_bits {x y : Int} (hx : 0 ≤ x) (hy : 0 ≤ y) (h : ∀ i, hasB x i = true → hasB y i = true) : x ≤ y := by
  obtain ⟨p, rfl⟩ := Int.eq_ofNat_of_zero_le hx
  obtain ⟨q, rfl⟩ := Int.eq_ofNat_of_zero_le hy
  have e : p &&& q = p := by
    apply Nat.eq_of_testBit_eq
    intro i
    rw [Nat.testBit_and]
    have := h i
    rw [hasB_nat, hasB_nat] at this
    cases hp : p.testBit i with
    | false => rfl
    | true => rw [this hp]; rfl
  have := Nat.and_le_right (n := p) (m := q)
  rw [e] at this
  omega

theorem rng64 {n : Nat} {x : Int} (h7 : n ≤ 7) (h : 0 ≤ x ∧ x < 2 ^ n) : I64 x := by
  have ⟨h1, h2⟩ := pow_bounds n (by omega)
  unfold I64; omega

theorem atom_iff {n : Nat} {f : Nat → Int} (hP : WorldP n f) {a : Nat} (ha : a < n) : atomB f a = true ↔ ∀ b, b < n → b ≠ a → hasB (f a) b = false := by
  unfold atomB
  rw [beq_iff_eq]
  constructor
  · intro h b _ hba
    rw [h, hasB_pow]
    exact decide_eq_false (fun e => hba e.symm)
  · intro h
    apply ext64 _ _ (rng64 hP.hi (hP.rng a ha)) (pow7 hP.hi ha)
    intro i _
    rw [hasB_pow]
    by_cases e : a = i
    · subst e; rw [hP.self a ha]; simp
    · rw [decide_eq_false e]
      by_cases hin : i < n
      · exact h i hin (fun e2 => e e2.symm)
      · cases hb : hasB (f a) i with
        | false => rfl
        | true => exact absurd (hasB_lt (hP.rng a ha) hb) hin

theorem below_less {n : Nat} {f : Nat → Int} (hP : WorldP n f) {a b : Nat} (ha : a < n) (hb : b < n) (hba : b ≠ a) (h : hasB (f a) b = true) : f b < f a := by
  have h1 : f b ≤ f a := le_of_bits (hP.rng b hb).1 (hP.rng a ha).1 (fun i hi => hP.trans a ha b hb h i hi)
  have h2 : f b ≠ f a := by
    intro e
    have := hP.anti a ha b hb (fun e2 => hba e2.symm) h
    rw [e, hP.self a ha] at this
    cases this
  omega

/-- each thing has an atom -/
theorem has_atom {n : Nat} {f : Nat → Int} (hP : WorldP n f) : ∀ (k a : Nat), a < n → (f a).toNat ≤ k → ∃ c, c < n ∧ hasB (f a) c = true ∧ atomB f c = true := by
  intro k
  induction k with
  | zero =>
    intro a ha hk
    have h0 : f a = 0 := by have := (hP.rng a ha).1; omega
    have := hP.self a ha
    rw [h0, hasB_zero] at this; cases this
  | succ k ih =>
    intro a ha hk
    cases h : atomB f a with
    | true => exact ⟨a, ha, hP.self a ha, h⟩
    | false =>
      have : ∃ b, b < n ∧ b ≠ a ∧ hasB (f a) b = true := by
        apply Classical.byContradiction
        intro hno
        have h2 := (atom_iff hP ha).2 (fun b hb hba => by
          cases hx : hasB (f a) b with
          | false => rfl
          | true => exact absurd ⟨b, hb, hba, hx⟩ hno)
        rw [h] at h2; cases h2
      obtain ⟨b, hb, hba, hx⟩ := this
      have hlt := below_less hP ha hb hba hx
      have h0 := (hP.rng b hb).1
      obtain ⟨c, hc, h1, h2⟩ := ih b hb (by omega)
      exact ⟨c, hc, hP.trans a ha b hb hx c h1, h2⟩

theorem atomsI_bit (n : Nat) (f : Nat → Int) (i : Nat) (hi : i < 64) : hasB (atomsI n f) i = (decide (i < n) && atomB f i) := setOf_bit (atomB f) n i hi

theorem ain_bit (n : Nat) (f : Nat → Int) (a i : Nat) (hi : i < 64) : hasB (ainI n f a) i = (hasB (f a) i && (decide (i < n) && atomB f i)) := by
  unfold ainI; rw [and_bit _ _ _ hi, atomsI_bit n f i hi]

theorem ain_yes {n : Nat} {f : Nat → Int} {a c : Nat} (h7 : n ≤ 7) (hc : c < n) (h1 : hasB (f a) c = true) (h2 : atomB f c = true) : hasB (ainI n f a) c = true := by
  rw [ain_bit n f a c (by omega), h1, h2, decide_eq_true hc]; rfl

theorem ain_of {n : Nat} {f : Nat → Int} {a c : Nat} (hc : c < 64) (h : hasB (ainI n f a) c = true) : c < n ∧ hasB (f a) c = true ∧ atomB f c = true := by
  rw [ain_bit n f a c hc] at h
  simp only [Bool.and_eq_true, decide_eq_true_eq] at h
  exact ⟨h.2.1, h.1, h.2.2⟩

theorem pos_of_bit {x : Int} {i : Nat} (h : 0 ≤ x) (hi : hasB x i = true) : 0 < x := by
  have : x ≠ 0 := by intro e; rw [e, hasB_zero] at hi; cases hi
  omega

theorem atomsI_rng (n : Nat) (f : Nat → Int) (h7 : n ≤ 7) : 0 ≤ atomsI n f ∧ atomsI n f < 2 ^ n := setOf_rng (atomB f) n (by omega)

theorem ain_rng {n : Nat} {f : Nat → Int} (h7 : n ≤ 7) (a : Nat) : 0 ≤ ainI n f a ∧ ainI n f a < 2 ^ n :=
  lt_of_bits _ n (by omega) (ainI_I64 n f a) (fun i hi hni => by rw [ain_bit n f a i hi, decide_eq_false (by omega)]; simp)

theorem atomsI_pos {n : Nat} {f : Nat → Int} (hP : WorldP n f) : 0 < atomsI n f := by
  have h1 := hP.lo
  obtain ⟨c, hc, _, h2⟩ := has_atom hP (f 0).toNat 0 (by omega) (Nat.le_refl _)
  have h7 := hP.hi
  exact pos_of_bit (atomsI_rng n f h7).1 (i := c) (by rw [atomsI_bit n f c (by omega), decide_eq_true hc, h2]; rfl)

theorem ain_pos {n : Nat} {f : Nat → Int} (hP : WorldP n f) {a : Nat} (ha : a < n) : 0 < ainI n f a := by
  obtain ⟨c, hc, h1, h2⟩ := has_atom hP (f a).toNat a ha (Nat.le_refl _)
  exact pos_of_bit (ain_rng hP.hi a).1 (i := c) (ain_yes hP.hi hc h1 h2)

/-- of a whole there are at least the atoms of a part -/
theorem ain_mono {n : Nat} {f : Nat → Int} (hP : WorldP n f) {a b : Nat} (ha : a < n) (hb : b < n) (h : hasB (f b) a = true) : withinB (ainI n f a) (ainI n f b) = true := by
  rw [within_iff]
  intro i hi hx
  obtain ⟨h1, h2, h3⟩ := ain_of hi hx
  exact ain_yes hP.hi h1 (hP.trans b hb a ha h i h2) h3

/-- two things overlap exactly if they have an atom in common -/
theorem over_atoms {n : Nat} {f : Nat → Int} (hP : WorldP n f) {a b : Nat} (ha : a < n) (hb : b < n) : (andI (f a) (f b) != 0) = (andI (ainI n f a) (ainI n f b) != 0) := by
  have h7 := hP.hi
  rw [Bool.eq_iff_iff, bne_iff_ne, bne_iff_ne]
  constructor
  · intro h h0
    apply h
    rw [and_zero_iff]
    intro i hi hx
    cases hy : hasB (f b) i with
    | false => rfl
    | true =>
      have hin := hasB_lt (hP.rng a ha) hx
      obtain ⟨c, hc, h1, h2⟩ := has_atom hP (f i).toNat i hin (Nat.le_refl _)
      have e := (and_zero_iff _ _).1 h0 c (by omega) (ain_yes h7 hc (hP.trans a ha i hin hx c h1) h2)
      rw [ain_yes h7 hc (hP.trans b hb i hin hy c h1) h2] at e
      cases e
  · intro h h0
    apply h
    rw [and_zero_iff]
    intro i hi hx
    obtain ⟨h1, h2, h3⟩ := ain_of hi hx
    have e := (and_zero_iff _ _).1 h0 i hi h2
    rw [ain_bit n f b i hi, e]; rfl

/-- a thing that meets the same things has the same atoms -/
theorem meet_ain {n : Nat} {f : Nat → Int} (hP : WorldP n f) {a b : Nat} (h : meetI n f a = meetI n f b) : withinB (ainI n f a) (ainI n f b) = true := by
  have h7 := hP.hi
  rw [within_iff]
  intro i hi hx
  obtain ⟨h1, h2, h3⟩ := ain_of hi hx
  have e : hasB (meetI n f a) i = hasB (meetI n f b) i := by rw [h]
  unfold meetI at e
  rw [setOf_bit _ n i hi, setOf_bit _ n i hi, decide_eq_true h1, Bool.true_and, Bool.true_and] at e
  have hfi : f i = 2 ^ i := by unfold atomB at h3; exact beq_iff_eq.1 h3
  have ea : (andI (f a) (f i) != 0) = true := by
    rw [bne_iff_ne]; intro h0
    have := (and_zero_iff _ _).1 h0 i hi h2
    rw [hP.self i h1] at this; cases this
  rw [ea] at e
  apply ain_yes h7 h1 _ h3
  cases hy : hasB (f b) i with
  | true => rfl
  | false =>
    have : andI (f b) (f i) = 0 := by
      rw [and_zero_iff]
      intro j hj hbj
      rw [hfi, hasB_pow]
      apply decide_eq_false
      intro e2; subst e2; rw [hy] at hbj; cases hbj
    rw [this] at e; cases e

theorem made_meets {n : Nat} {f : Nat → Int} (h64 : ∀ i, i < n → I64 (f i)) (h : madeB n f = true) {a b : Nat} (ha : a < n) (hb : b < a) : (meetI n f a == meetI n f b) = false := by
  unfold madeB at h
  rw [Bool.and_eq_true, eachB_iff] at h
  obtain ⟨hw, hE⟩ := h
  have hP := (worldB_iff n f h64).1 hw
  have hbn : b < n := by omega
  rw [beq_eq_false_iff_ne]
  intro e
  have h1 := hE a ha b hbn (by omega)
  have h2 := hE b hbn a ha (by omega)
  unfold madeC at h1 h2
  rw [meet_ain hP e] at h1
  rw [meet_ain hP e.symm] at h2
  have h3 : hasB (f b) a = true := by simpa using h1
  have h4 : hasB (f a) b = true := by simpa using h2
  have := hP.anti b hbn a ha (by omega) h3
  rw [h4] at this; cases this

theorem made_told {n : Nat} {f : Nat → Int} (h64 : ∀ i, i < n → I64 (f i)) (h : madeB n f = true) : toldB n f = true := by
  unfold madeB at h
  rw [Bool.and_eq_true, eachB_iff] at h
  obtain ⟨hw, hE⟩ := h
  have hP := (worldB_iff n f h64).1 hw
  unfold toldB
  rw [hw, Bool.true_and, eachB_iff]
  intro a ha c hc hac
  rw [bne_iff_ne]
  intro e
  have h1 := hE a ha c hc hac
  have h2 := hE c hc a ha (fun e2 => hac e2.symm)
  unfold madeC at h1 h2
  rw [e, within_self] at h1
  rw [e, within_self] at h2
  have h3 : hasB (f c) a = true := by simpa using h1
  have h4 : hasB (f a) c = true := by simpa using h2
  have := hP.anti c hc a ha (fun e2 => hac e2.symm) h3
  rw [h4] at this; cases this

/-- some thing below k is a proper part of a -/
def anyP (n : Nat) (f : Nat → Int) (a k : Nat) : Bool := decide (∃ b, b < k ∧ properB n f (b : Int) (a : Int) = true)

theorem anyP_zero (n : Nat) (f : Nat → Int) (a : Nat) : anyP n f a 0 = false := decide_eq_false (fun ⟨_, h, _⟩ => absurd h (Nat.not_lt_zero _))
theorem anyP_old (n : Nat) (f : Nat → Int) (a k : Nat) (h : anyP n f a k = true) : anyP n f a (k + 1) = true := by
  unfold anyP at h ⊢; rw [decide_eq_true_eq] at h ⊢
  obtain ⟨b, hb, hp⟩ := h; exact ⟨b, by omega, hp⟩
theorem anyP_new (n : Nat) (f : Nat → Int) (a k : Nat) (h : anyP n f a k = false) (v : Bool) (hv : properB n f (k : Int) (a : Int) = v) : anyP n f a (k + 1) = v := by
  unfold anyP at h ⊢; rw [decide_eq_false_iff_not] at h
  cases v with
  | true => exact decide_eq_true ⟨k, by omega, hv⟩
  | false =>
    apply decide_eq_false
    rintro ⟨b, hb, hp⟩
    by_cases e : b = k
    · subst e; rw [hv] at hp; cases hp
    · exact h ⟨b, by omega, hp⟩

theorem proper_iff (n : Nat) (f : Nat → Int) (hw : worldB n f = true) {a b : Nat} (ha : a < n) (hb : b < n) : properB n f (b : Int) (a : Int) = true ↔ b ≠ a ∧ hasB (f a) b = true := by
  unfold properB partB
  rw [(good2_iff n f b a).2 ⟨hw, ⟨by omega, by omega⟩, by omega, by omega⟩]
  simp only [Bool.true_and, Bool.and_eq_true, decide_eq_true_eq, Int.toNat_natCast]
  constructor
  · rintro ⟨h1, h2⟩; exact ⟨by omega, h1⟩
  · rintro ⟨h1, h2⟩; exact ⟨h2, by omega⟩

theorem anyP_atom {n : Nat} {f : Nat → Int} (h64 : ∀ i, i < n → I64 (f i)) (hw : worldB n f = true) {a : Nat} (ha : a < n) : anyP n f a n = !atomB f a := by
  have hP := (worldB_iff n f h64).1 hw
  cases h : atomB f a with
  | true =>
    apply decide_eq_false
    rintro ⟨b, hb, hp⟩
    obtain ⟨h1, h2⟩ := (proper_iff n f hw ha hb).1 hp
    rw [(atom_iff hP ha).1 h b hb h1] at h2; cases h2
  | false =>
    apply decide_eq_true
    apply Classical.byContradiction
    intro hno
    have h2 := (atom_iff hP ha).2 (fun b hb hba => by
      cases hx : hasB (f a) b with
      | false => rfl
      | true => exact absurd ⟨b, hb, (proper_iff n f hw ha hb).2 ⟨hba, hx⟩⟩ hno)
    rw [h] at h2; cases h2
end Go.Proofs.Ytidcfcjmjgcfkaa
