import Derived.WalkKit
namespace Go.Proofs.YtidcfcjmjgcfkaaDoor
open Go.RowKit

/-- a set, told by its bits, has a number -/
def hasB (x : Int) (a : Nat) : Bool := x / 2 ^ a % 2 == 1

def withinB (x y : Int) : Bool := bits .andNot .i64 x y == 0

def orI (x y : Int) : Int := bits .or .i64 x y
def andI (x y : Int) : Int := bits .and .i64 x y

def inB (l x h : Int) : Bool := decide (l ≤ x) && decide (x ≤ h)

def I64 (x : Int) : Prop := -9223372036854775808 ≤ x ∧ x ≤ 9223372036854775807

theorem wrap_in (n : Int) (h : I64 n) : IntKind.i64.wrap n = n := by
  obtain ⟨h0, h1⟩ := h
  rw [IntKind.wrap_i64]; omega

theorem wrap_I64 (n : Int) : I64 (IntKind.i64.wrap n) := by
  rw [IntKind.wrap_i64]; unfold I64; omega

theorem pow_split (i : Nat) (h : i < 64) : (18446744073709551616 : Int) = 2 ^ i * (2 * 2 ^ (63 - i)) := by
  have e : i + (1 + (63 - i)) = 64 := by omega
  have : (2 : Int) ^ (i + (1 + (63 - i))) = 2 ^ i * (2 ^ 1 * 2 ^ (63 - i)) := by rw [Int.pow_add, Int.pow_add]
  rw [e] at this
  simpa using this

theorem hasB_add (x k : Int) (i : Nat) (h : i < 64) : hasB (x + 18446744073709551616 * k) i = hasB x i := by
  unfold hasB
  have hp : (0 : Int) < 2 ^ i := Int.pow_pos (by decide)
  rw [pow_split i h, Int.mul_assoc, Int.add_mul_ediv_left _ _ (by omega), Int.mul_assoc, Int.add_mul_emod_self_left]

theorem hasB_mod (x : Int) (i : Nat) (h : i < 64) : hasB (x % 18446744073709551616) i = hasB x i := by
  have := hasB_add (x % 18446744073709551616) (x / 18446744073709551616) i h
  rw [Int.emod_add_mul_ediv] at this
  exact this.symm

theorem hasB_wrap (x : Int) (i : Nat) (h : i < 64) : hasB (IntKind.i64.wrap x) i = hasB x i := by
  rw [IntKind.wrap_i64, ← hasB_mod _ i h]
  rw [show ((x + 9223372036854775808) % 18446744073709551616 - 9223372036854775808) % 18446744073709551616 = x % 18446744073709551616 from by omega]
  exact hasB_mod x i h

theorem hasB_nat (n : Nat) (i : Nat) : hasB (n : Int) i = n.testBit i := by
  unfold hasB
  rw [Nat.testBit_eq_decide_div_mod_eq]
  have : (n : Int) / 2 ^ i % 2 = ((n / 2 ^ i % 2 : Nat) : Int) := by simp
  rw [this]
  by_cases h : n / 2 ^ i % 2 = 1
  · simp [h]
  · have : ¬ ((n / 2 ^ i % 2 : Nat) : Int) = 1 := by omega
    simp [h, this, -Int.natCast_emod, -Int.natCast_ediv]

theorem ofInt_bit (x : Int) (i : Nat) (h : i < 64) : (BitVec.ofInt 64 x).getLsbD i = hasB x i := by
  rw [BitVec.getLsbD, ← hasB_nat, BitVec.toNat_ofInt, ← hasB_mod x i h]
  congr 1
  omega

theorem and_bit (x y : Int) (i : Nat) (h : i < 64) : hasB (andI x y) i = (hasB x i && hasB y i) := by
  show hasB (IntKind.i64.wrap ((BitVec.ofInt 64 x &&& BitVec.ofInt 64 y).toNat : Int)) i = _
  rw [hasB_wrap _ _ h, hasB_nat, BitVec.toNat_and, Nat.testBit_and, ← ofInt_bit x i h, ← ofInt_bit y i h]
  rfl

theorem or_bit (x y : Int) (i : Nat) (h : i < 64) : hasB (orI x y) i = (hasB x i || hasB y i) := by
  show hasB (IntKind.i64.wrap ((BitVec.ofInt 64 x ||| BitVec.ofInt 64 y).toNat : Int)) i = _
  rw [hasB_wrap _ _ h, hasB_nat, BitVec.toNat_or, Nat.testBit_or, ← ofInt_bit x i h, ← ofInt_bit y i h]
  rfl

theorem andNot_bit (x y : Int) (i : Nat) (h : i < 64) : hasB (bits .andNot .i64 x y) i = (hasB x i && !hasB y i) := by
  show hasB (IntKind.i64.wrap ((BitVec.ofInt 64 x &&& ~~~ BitVec.ofInt 64 y).toNat : Int)) i = _
  rw [hasB_wrap _ _ h, hasB_nat, ← ofInt_bit x i h, ← ofInt_bit y i h]
  show (BitVec.ofInt 64 x &&& ~~~ BitVec.ofInt 64 y).getLsbD i = _
  rw [BitVec.getLsbD_and, BitVec.getLsbD_not]
  simp [h]

/-- two numbers of 64 bits with the same bits are the same -/
theorem ext64 (x y : Int) (hx : I64 x) (hy : I64 y) (h : ∀ i, i < 64 → hasB x i = hasB y i) : x = y := by
  have e : BitVec.ofInt 64 x = BitVec.ofInt 64 y := by
    apply BitVec.eq_of_getLsbD_eq
    intro i hi
    rw [ofInt_bit x i hi, ofInt_bit y i hi, h i hi]
  have e2 := congrArg BitVec.toInt e
  rw [BitVec.toInt_ofInt, BitVec.toInt_ofInt] at e2
  obtain ⟨a, b⟩ := hx; obtain ⟨c, d⟩ := hy
  rw [Int.bmod_def, Int.bmod_def] at e2
  omega

theorem andI_I64 (x y : Int) : I64 (andI x y) := wrap_I64 _
theorem orI_I64 (x y : Int) : I64 (orI x y) := wrap_I64 _
theorem andNot_I64 (x y : Int) : I64 (bits .andNot .i64 x y) := wrap_I64 _
theorem I64_zero : I64 0 := by unfold I64; omega

theorem hasB_zero (i : Nat) : hasB 0 i = false := by unfold hasB; simp

theorem and_one (x : Int) : bits .and .i64 x 1 = x % 2 := by
  apply ext64 _ _ (andI_I64 _ _) (by unfold I64; omega)
  intro i hi
  show hasB (andI x 1) i = _
  rw [and_bit _ _ _ hi]
  have h1 : hasB 1 i = decide (i = 0) := by
    have := hasB_nat 1 i
    rw [show ((1 : Nat) : Int) = 1 from rfl] at this
    rw [this, show (1 : Nat) = 2 ^ 0 from rfl, Nat.testBit_two_pow]
    simp only [eq_comm]
  rw [h1]
  by_cases h0 : i = 0
  · subst h0; unfold hasB; simp
  · obtain ⟨j, rfl⟩ : ∃ j, i = j + 1 := ⟨i - 1, by omega⟩
    have : hasB (x % 2) (j + 1) = false := by
      have hx : x % 2 = 0 ∨ x % 2 = 1 := by omega
      unfold hasB
      rcases hx with hx | hx <;> rw [hx]
      · simp
      · have : (1 : Int) / 2 ^ (j + 1) = 0 := by
          apply Int.ediv_eq_zero_of_lt (by decide)
          have : (2 : Int) ^ (j + 1) = 2 * 2 ^ j := by rw [Int.pow_succ]; omega
          have hp : (0 : Int) < 2 ^ j := Int.pow_pos (by decide)
          omega
        rw [this]; rfl
    rw [this]; simp

theorem has_eq (x : Int) (a : Nat) : (bits .and .i64 (x / 2 ^ a) 1 == 1) = hasB x a := by
  rw [and_one]; rfl

/-- within: each number of the one is in the other -/
theorem within_iff (x y : Int) : withinB x y = true ↔ ∀ i, i < 64 → hasB x i = true → hasB y i = true := by
  unfold withinB
  rw [beq_iff_eq]
  constructor
  · intro h i hi hx
    have := andNot_bit x y i hi
    rw [h, hasB_zero, hx] at this
    simpa using this
  · intro h
    apply ext64 _ _ (andNot_I64 _ _) I64_zero
    intro i hi
    rw [andNot_bit _ _ _ hi, hasB_zero]
    have := h i hi
    cases hx : hasB x i <;> simp_all

theorem or_eq_iff (x y : Int) (hx : I64 x) : orI x y = x ↔ ∀ i, i < 64 → hasB y i = true → hasB x i = true := by
  constructor
  · intro h i hi hy
    have := or_bit x y i hi
    rw [h, hy] at this
    simpa using this
  · intro h
    apply ext64 _ _ (orI_I64 _ _) hx
    intro i hi
    rw [or_bit _ _ _ hi]
    have := h i hi
    cases hy : hasB y i <;> simp_all

theorem and_zero_iff (x y : Int) : andI x y = 0 ↔ ∀ i, i < 64 → hasB x i = true → hasB y i = false := by
  constructor
  · intro h i hi hx
    have := and_bit x y i hi
    rw [h, hasB_zero, hx] at this
    simpa using this.symm
  · intro h
    apply ext64 _ _ (andI_I64 _ _) I64_zero
    intro i hi
    rw [and_bit _ _ _ hi, hasB_zero]
    have := h i hi
    cases hy : hasB x i <;> simp_all

/-- the set of the first n numbers -/
theorem hasB_low (n i : Nat) : hasB (2 ^ n - 1) i = decide (i < n) := by
  have h1 : ((2 ^ n - 1 : Nat) : Int) = 2 ^ n - 1 := by
    have := Nat.one_le_two_pow (n := n)
    rw [Int.ofNat_sub this]; simp
  rw [← h1, hasB_nat, Nat.testBit_two_pow_sub_one]

theorem hasB_neg (x : Int) (h0 : -9223372036854775808 ≤ x) (h1 : x < 0) : hasB x 63 = true := by
  unfold hasB
  have : x / 2 ^ 63 = -1 := by
    rw [show (2 : Int) ^ 63 = 9223372036854775808 from by decide]; omega
  rw [this]; decide

theorem hasB_big (x : Int) (n : Nat) (h0 : 0 ≤ x) (h1 : x < 2 ^ n) (i : Nat) (hi : n ≤ i) : hasB x i = false := by
  obtain ⟨m, rfl⟩ := Int.eq_ofNat_of_zero_le h0
  rw [hasB_nat]
  apply Nat.testBit_lt_two_pow
  have h2 : m < 2 ^ n := by
    have : ((2 ^ n : Nat) : Int) = 2 ^ n := by simp
    omega
  exact Nat.lt_of_lt_of_le h2 (Nat.pow_le_pow_right (by decide) hi)

theorem lt_of_bits (x : Int) (n : Nat) (hn : n ≤ 63) (hx : I64 x) (h : ∀ i, i < 64 → n ≤ i → hasB x i = false) : 0 ≤ x ∧ x < 2 ^ n := by
  have h0 : 0 ≤ x := by
    apply Classical.byContradiction; intro hneg
    have := hasB_neg x hx.1 (by omega)
    rw [h 63 (by omega) hn] at this
    cases this
  refine ⟨h0, ?_⟩
  obtain ⟨m, rfl⟩ := Int.eq_ofNat_of_zero_le h0
  have : m < 2 ^ n := by
    apply Nat.lt_pow_two_of_testBit
    intro i hi
    by_cases h6 : i < 64
    · rw [← hasB_nat]; exact h i h6 hi
    · apply Nat.testBit_lt_two_pow
      have : m < 2 ^ 63 := by have := hx.2; omega
      exact Nat.lt_of_lt_of_le this (Nat.pow_le_pow_right (by decide) (by omega))
  have h2 : ((2 ^ n : Nat) : Int) = 2 ^ n := by simp
  omega

theorem within_low (x : Int) (n : Nat) (hn : n ≤ 63) (hx : I64 x) : withinB x (2 ^ n - 1) = true ↔ 0 ≤ x ∧ x ≤ 2 ^ n - 1 := by
  rw [within_iff]
  constructor
  · intro h
    have := lt_of_bits x n hn hx (fun i hi hni => by
      cases hb : hasB x i with
      | false => rfl
      | true => have := h i hi hb; rw [hasB_low] at this; simp at this; omega)
    omega
  · rintro ⟨h0, h1⟩ i hi hb
    rw [hasB_low]
    simp
    apply Classical.byContradiction; intro hni
    rw [hasB_big x n h0 (by omega) i (by omega)] at hb
    cases hb

end Go.Proofs.YtidcfcjmjgcfkaaDoor
