import Derived.Test.YtacoeaoaabjkoaaBaseA
namespace Go.Proofs.Ytacoeaoaabjkoaa
open Go.RowKit

/-- a ground: n places, f: the set of neighbours of each -/
structure GrdP (n : Nat) (f : Nat → Int) : Prop where
  lo : 1 ≤ n
  hi : n ≤ 7
  rng : ∀ i, i < n → 0 ≤ f i ∧ f i < 2 ^ n
  irr : ∀ i, i < n → hasB (f i) i = false
  sym : ∀ i, i < n → ∀ j, j < n → hasB (f i) j = hasB (f j) i

def gnumB (n : Nat) (f : Nat → Int) : Bool := decide (∀ a, a < n → withinB (f a) (2 ^ n - 1) = true ∧ hasB (f a) a = false)
def gsymB (n : Nat) (f : Nat → Int) : Bool := decide (∀ b, b < n → ∀ a, a < b → hasB (f a) b = hasB (f b) a)
def grdB (n : Nat) (f : Nat → Int) : Bool := decide (1 ≤ n ∧ n ≤ 7) && (gnumB n f && gsymB n f)
/-- as the model asks it -/
def hnumB (n : Nat) (f : Nat → Int) : Bool := decide (∀ a, a < n → inB 0 (f a) (2 ^ n - 1) = true ∧ hasB (f a) a = false)
def hsymB (n : Nat) (f : Nat → Int) : Bool := decide (∀ a, a < n → ∀ b, b < n → hasB (f a) b = hasB (f b) a)

theorem inB_in {x l h : Int} : inB l x h = true ↔ l ≤ x ∧ x ≤ h := by unfold inB; simp
theorem gnum_eq {n : Nat} {f : Nat → Int} (h7 : n ≤ 7) (h64 : ∀ i, i < n → I64 (f i)) : gnumB n f = decide (∀ a, a < n → (0 ≤ f a ∧ f a < 2 ^ n) ∧ hasB (f a) a = false) := by
  unfold gnumB
  rw [decide_eq_decide]
  constructor
  · intro h a ha
    obtain ⟨h1, h2⟩ := h a ha
    have := (within_low (f a) n (by omega) (h64 a ha)).1 h1
    exact ⟨by omega, h2⟩
  · intro h a ha
    obtain ⟨h1, h2⟩ := h a ha
    exact ⟨(within_low (f a) n (by omega) (h64 a ha)).2 (by omega), h2⟩
theorem gsym_eq {n : Nat} {f : Nat → Int} : gsymB n f = hsymB n f := by
  unfold gsymB hsymB
  rw [decide_eq_decide]
  constructor
  · intro h a ha b hb
    rcases Nat.lt_trichotomy a b with h1 | h1 | h1
    · exact h b hb a h1
    · subst h1; rfl
    · exact (h a ha b h1).symm
  · intro h b hb a hab
    exact h a (by omega) b hb
theorem grd_iff {n : Nat} {f : Nat → Int} (h64 : ∀ i, i < n → I64 (f i)) : grdB n f = true ↔ GrdP n f := by
  unfold grdB
  rw [Bool.and_eq_true, Bool.and_eq_true, decide_eq_true_eq]
  constructor
  · rintro ⟨⟨h1, h7⟩, h2, h3⟩
    rw [gnum_eq h7 h64, decide_eq_true_eq] at h2
    rw [gsym_eq, hsymB, decide_eq_true_eq] at h3
    exact ⟨h1, h7, fun i hi => (h2 i hi).1, fun i hi => (h2 i hi).2, h3⟩
  · intro h
    refine ⟨⟨h.lo, h.hi⟩, ?_, ?_⟩
    · rw [gnum_eq h.hi h64, decide_eq_true_eq]
      exact fun a ha => ⟨h.rng a ha, h.irr a ha⟩
    · rw [gsym_eq, hsymB, decide_eq_true_eq]
      exact h.sym
theorem grd_spec {n : Nat} {f : Nat → Int} (h1 : 1 ≤ n) (h7 : n ≤ 7) (h64 : ∀ i, i < n → I64 (f i)) : (hnumB n f && hsymB n f) = grdB n f := by
  unfold grdB
  rw [decide_eq_true ⟨h1, h7⟩, Bool.true_and, gsym_eq, gnum_eq h7 h64]
  congr 1
  unfold hnumB
  rw [decide_eq_decide]
  constructor
  · intro h a ha
    obtain ⟨e1, e2⟩ := h a ha
    have := inB_in.1 e1
    exact ⟨by omega, e2⟩
  · intro h a ha
    obtain ⟨e1, e2⟩ := h a ha
    exact ⟨inB_in.2 (by omega), e2⟩
theorem grd_7 {n : Nat} {f : Nat → Int} (h : grdB n f = true) : 1 ≤ n ∧ n ≤ 7 := by
  unfold grdB at h
  rw [Bool.and_eq_true, decide_eq_true_eq] at h
  exact h.1

/-- a set is one of one place or more -/
def thB (n : Nat) (s : Int) : Bool := !(s == 0) && withinB s (2 ^ n - 1)
theorem th_iff {n : Nat} {s : Int} (h7 : n ≤ 7) (h64 : I64 s) : thB n s = true ↔ 1 ≤ s ∧ s < 2 ^ n := by
  unfold thB
  rw [Bool.and_eq_true, within_low s n (by omega) h64]
  simp
  omega
/-- all of these are things -/
def thsB (n m : Nat) (G : Nat → Int) : Bool := decide (∀ i, i < m → thB n (G i) = true)
theorem ths_one (n : Nat) (a : Int) : thsB n 1 (one a) = thB n a := by
  unfold thsB one
  rw [Bool.eq_iff_iff, decide_eq_true_eq]
  exact ⟨fun h => h 0 (by omega), fun h _ _ => h⟩
theorem ths_two (n : Nat) (a b : Int) : thsB n 2 (two a b) = (thB n a && thB n b) := by
  unfold thsB two
  rw [Bool.eq_iff_iff, decide_eq_true_eq, Bool.and_eq_true]
  constructor
  · intro h
    exact ⟨by simpa using h 0 (by omega), by simpa using h 1 (by omega)⟩
  · rintro ⟨h1, h2⟩ i hi
    split <;> assumption
theorem ths_zero (n : Nat) (G : Nat → Int) : thsB n 0 G = true := decide_eq_true (fun _ hi => absurd hi (Nat.not_lt_zero _))
def thingB (n : Nat) (f : Nat → Int) (s : Int) : Bool := grdB n f && thB n s
def thing2B (n : Nat) (f : Nat → Int) (a b : Int) : Bool := grdB n f && (thB n a && thB n b)
theorem thing2_eq (n : Nat) (f : Nat → Int) (a b : Int) : thing2B n f a b = (thingB n f a && thingB n f b) := by
  unfold thing2B thingB
  cases grdB n f <;> cases thB n a <;> cases thB n b <;> rfl

/-- all neighbours of the places of a set, below k -/
def arI (f : Nat → Int) (s : Int) : Nat → Int
  | 0 => 0
  | k + 1 => if hasB s k then orI (arI f s k) (f k) else arI f s k
theorem arI_yes {f : Nat → Int} {s : Int} {k : Nat} (h : hasB s k = true) : arI f s (k + 1) = bits .or .i64 (arI f s k) (f k) := by
  rw [arI, if_pos h]; rfl
theorem arI_no {f : Nat → Int} {s : Int} {k : Nat} (h : hasB s k = false) : arI f s (k + 1) = arI f s k := by
  rw [arI, if_neg (by rw [h]; decide)]
theorem arI_I64 (f : Nat → Int) (s : Int) (k : Nat) : I64 (arI f s k) := by
  induction k with
  | zero => exact I64_zero
  | succ k ih => rw [arI]; split; exact orI_I64 _ _; exact ih
theorem arI_bit (f : Nat → Int) (s : Int) (k i : Nat) (hi : i < 64) : hasB (arI f s k) i = true ↔ ∃ j, j < k ∧ hasB s j = true ∧ hasB (f j) i = true := by
  induction k with
  | zero =>
    rw [arI, hasB_zero]
    exact ⟨(fun h => by cases h), (fun ⟨j, hj, _⟩ => absurd hj (Nat.not_lt_zero j))⟩
  | succ k ih =>
    cases h : hasB s k with
    | true =>
      rw [arI, if_pos h, or_bit _ _ _ hi, Bool.or_eq_true, ih]
      constructor
      · rintro (⟨j, h1, h2, h3⟩ | h1)
        · exact ⟨j, by omega, h2, h3⟩
        · exact ⟨k, by omega, h, h1⟩
      · rintro ⟨j, h1, h2, h3⟩
        by_cases hjk : j = k
        · subst hjk; exact .inr h3
        · exact .inl ⟨j, by omega, h2, h3⟩
    | false =>
      rw [arI_no h, ih]
      constructor
      · rintro ⟨j, h1, h2, h3⟩
        exact ⟨j, by omega, h2, h3⟩
      · rintro ⟨j, h1, h2, h3⟩
        by_cases hjk : j = k
        · subst hjk; rw [h] at h2; cases h2
        · exact ⟨j, by omega, h2, h3⟩
/-- the model's: it begins with the set -/
def arS (f : Nat → Int) (s : Int) : Nat → Int
  | 0 => s
  | k + 1 => if hasB s k then orI (arS f s k) (f k) else arS f s k
theorem arS_yes {f : Nat → Int} {s : Int} {k : Nat} (h : hasB s k = true) : arS f s (k + 1) = bits .or .i64 (arS f s k) (f k) := by
  rw [arS, if_pos h]; rfl
theorem arS_no {f : Nat → Int} {s : Int} {k : Nat} (h : hasB s k = false) : arS f s (k + 1) = arS f s k := by
  rw [arS, if_neg (by rw [h]; decide)]
theorem or_zero {s : Int} (h : I64 s) : orI s 0 = s := by
  apply ext64 _ _ (orI_I64 _ _) h
  intro i hi
  rw [or_bit _ _ _ hi, hasB_zero, Bool.or_false]
theorem or_assoc (x y z : Int) : orI (orI x y) z = orI x (orI y z) := by
  apply ext64 _ _ (orI_I64 _ _) (orI_I64 _ _)
  intro i hi
  rw [or_bit _ _ _ hi, or_bit _ _ _ hi, or_bit _ _ _ hi, or_bit _ _ _ hi, Bool.or_assoc]
theorem arS_eq (f : Nat → Int) {s : Int} (h : I64 s) (k : Nat) : arS f s k = orI s (arI f s k) := by
  induction k with
  | zero => rw [arS, arI, or_zero h]
  | succ k ih =>
    rw [arS, arI]
    split
    · rw [ih, or_assoc]
    · exact ih

/-- a thing with all its neighbours -/
def gwI (n : Nat) (f : Nat → Int) (s : Int) : Int := orI s (arI f s n)
theorem gw_bit (n : Nat) (f : Nat → Int) (s : Int) (i : Nat) (hi : i < 64) : hasB (gwI n f s) i = true ↔ hasB s i = true ∨ ∃ j, j < n ∧ hasB s j = true ∧ hasB (f j) i = true := by
  unfold gwI
  rw [or_bit _ _ _ hi, Bool.or_eq_true, arI_bit _ _ _ _ hi]
theorem gw_I64 (n : Nat) (f : Nat → Int) (s : Int) : I64 (gwI n f s) := orI_I64 _ _
theorem gw_rng {n : Nat} {f : Nat → Int} (h : GrdP n f) {s : Int} (hs : 0 ≤ s ∧ s < 2 ^ n) : 0 ≤ gwI n f s ∧ gwI n f s < 2 ^ n := by
  refine lt_of_bits _ n (by have := h.hi; omega) (gw_I64 n f s) (fun i hi hni => ?_)
  rw [Bool.eq_false_iff]
  intro hb
  rcases (gw_bit n f s i hi).1 hb with h1 | ⟨j, hj, _, h2⟩
  · have := hasB_lt hs h1; omega
  · have := hasB_lt (h.rng j hj) h2; omega

theorem xor_bit (x y : Int) (i : Nat) (h : i < 64) : hasB (bits .xor .i64 x y) i = (hasB x i != hasB y i) := by
  show hasB (IntKind.i64.wrap ((BitVec.ofInt 64 x ^^^ BitVec.ofInt 64 y).toNat : Int)) i = _
  rw [hasB_wrap _ _ h, hasB_nat, BitVec.toNat_xor, Nat.testBit_xor, ← ofInt_bit x i h, ← ofInt_bit y i h]
  rfl

theorem hasB_ones (i : Nat) (h : i < 64) : hasB (-1) i = true := by
  rw [← ofInt_bit _ _ h, show BitVec.ofInt 64 (-1) = BitVec.allOnes 64 from by decide, BitVec.getLsbD_allOnes]
  simpa using h

/-- the places that have a neighbour outside -/
def boI (n : Nat) (f : Nat → Int) (s : Int) : Int := setOf (fun p => hasB s p && !(orI (f p) s == s)) n
theorem bo_bit {n : Nat} {f : Nat → Int} (h : GrdP n f) {s : Int} (hs : 0 ≤ s ∧ s < 2 ^ n) (h64 : I64 s) (i : Nat) (hi : i < 64) :
    hasB (boI n f s) i = true ↔ hasB s i = true ∧ ∃ j, j < n ∧ hasB (f i) j = true ∧ hasB s j = false := by
  have h7 := h.hi
  unfold boI
  rw [setOf_bit _ _ _ hi, Bool.and_eq_true, Bool.and_eq_true, decide_eq_true_eq, Bool.not_eq_true', beq_eq_false_iff_ne]
  have hcomm : orI (f i) s = orI s (f i) := by
    apply ext64 _ _ (orI_I64 _ _) (orI_I64 _ _)
    intro k hk
    rw [or_bit _ _ _ hk, or_bit _ _ _ hk, Bool.or_comm]
  constructor
  · rintro ⟨h1, h2, h3⟩
    refine ⟨h2, ?_⟩
    apply Classical.byContradiction
    intro hno
    apply h3
    rw [hcomm]
    refine (or_eq_iff s (f i) h64).2 (fun k hk hb => ?_)
    cases hc : hasB s k with
    | true => rfl
    | false => exact (hno ⟨k, hasB_lt (h.rng i h1) hb, hb, hc⟩).elim
  · rintro ⟨h1, j, hj, h2, h3⟩
    refine ⟨hasB_lt hs h1, h1, ?_⟩
    rw [hcomm]
    intro he
    have := (or_eq_iff s (f i) h64).1 he j (by omega) h2
    rw [h3] at this; cases this
/-- the program's: it begins with what is outside -/
theorem bo_eq {n : Nat} {f : Nat → Int} (h : GrdP n f) {s t : Int} (hs : 0 ≤ s ∧ s < 2 ^ n) (h64 : I64 s) (ht : ∀ i, i < 64 → hasB t i = !hasB s i) :
    andI s (arI f t n) = boI n f s := by
  have h7 := h.hi
  apply ext64 _ _ (andI_I64 _ _) (setOf_I64 _ _)
  intro i hi
  rw [and_bit _ _ _ hi, Bool.eq_iff_iff, Bool.and_eq_true, arI_bit _ _ _ _ hi, show setOf _ n = boI n f s from rfl, bo_bit h hs h64 i hi]
  constructor
  · rintro ⟨h1, j, hj, h2, h3⟩
    have hin := hasB_lt hs h1
    rw [ht j (by omega), Bool.not_eq_true'] at h2
    exact ⟨h1, j, hj, by rw [h.sym i hin j hj]; exact h3, h2⟩
  · rintro ⟨h1, j, hj, h2, h3⟩
    have hin := hasB_lt hs h1
    exact ⟨h1, j, hj, by rw [ht j (by omega), h3]; rfl, by rw [h.sym j hj i hin]; exact h2⟩

def toB (n : Nat) (f : Nat → Int) (a b : Int) : Bool := thing2B n f a b && (andI (gwI n f a) b != 0)
def otB (n : Nat) (f : Nat → Int) (a b : Int) : Bool := toB n f a b && (andI a b == 0)
def idB (n : Nat) (f : Nat → Int) (a b : Int) : Bool := thing2B n f a b && withinB (gwI n f a) b
theorem or_comm (x y : Int) : orI x y = orI y x := by
  apply ext64 _ _ (orI_I64 _ _) (orI_I64 _ _)
  intro k hk
  rw [or_bit _ _ _ hk, or_bit _ _ _ hk, Bool.or_comm]
theorem id_or (n : Nat) (f : Nat → Int) (x y : Int) (hy : I64 y) : ((true && true) && withinB (gwI n f x) y) = (orI (gwI n f x) y == y) := by
  rw [Bool.eq_iff_iff, beq_iff_eq, or_comm, or_eq_iff y _ hy]
  simp only [Bool.and_self, Bool.true_and]
  exact within_iff _ _
def boV (n : Nat) (f : Nat → Int) (a : Int) : Int := if thingB n f a then boI n f a else -1
def gwV (n : Nat) (f : Nat → Int) (a : Int) : Int := if thingB n f a then gwI n f a else -1
end Go.Proofs.Ytacoeaoaabjkoaa
