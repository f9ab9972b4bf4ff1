import Derived.Test.YtndcnfbncepihaaDraws
import Derived.Test.YtndcnfbncepihaaBaseA
namespace Go.Proofs.Ytndcnfbncepihaa
open Go.RowKit

/-- what a law asks of a set: that it has a number -/
def hbB (s a : Int) : Bool := decide (0 ≤ s) && decide (0 ≤ a) && hasB s a.toNat

theorem wholes_rng (n : Nat) (f : Nat → Int) (x : Nat) (hn : n ≤ 7) : 0 ≤ wholesI n f x ∧ wholesI n f x ≤ 128 := by
  have := setOf_rng (fun b => hasB (f b) x) n (by omega)
  have := pow_bounds n hn
  unfold wholesI; omega
theorem meet_rng (n : Nat) (f : Nat → Int) (x : Nat) (hn : n ≤ 7) : 0 ≤ meetI n f x ∧ meetI n f x ≤ 128 := by
  have := setOf_rng (fun b => andI (f x) (f b) != 0) n (by omega)
  have := pow_bounds n hn
  unfold meetI; omega
theorem rng_I64 {x : Int} (h : 0 ≤ x ∧ x ≤ 128) : I64 x := by unfold I64; omega

theorem wholes_bit (n : Nat) (f : Nat → Int) (x i : Nat) (hi : i < 64) : hasB (wholesI n f x) i = (decide (i < n) && hasB (f i) x) := setOf_bit _ n i hi
theorem meet_bit (n : Nat) (f : Nat → Int) (x i : Nat) (hi : i < 64) : hasB (meetI n f x) i = (decide (i < n) && (andI (f x) (f i) != 0)) := setOf_bit _ n i hi

theorem wholesB_in {n : Nat} {f : Nat → Int} {x : Nat} (h : good1 n f x = true) : wholesB n f x = wholesI n f x := by unfold wholesB; rw [if_pos h]; rfl
theorem meetB_in {n : Nat} {f : Nat → Int} {x : Nat} (h : good1 n f x = true) : meetB n f x = meetI n f x := by unfold meetB; rw [if_pos h]; rfl

/-- the wholes of a whole are among the wholes -/
theorem wholes_in {n : Nat} {f : Nat → Int} (hP : WorldP n f) {x b : Nat} (hb : b < n) (h : hasB (f b) x = true) : bits .or .i64 (wholesI n f b) (wholesI n f x) = wholesI n f x := by
  apply ext64 _ _ (orI_I64 _ _) (rng_I64 (wholes_rng n f x hP.hi))
  intro i hi
  show hasB (orI _ _) i = _
  rw [or_bit _ _ _ hi, wholes_bit n f b i hi, wholes_bit n f x i hi]
  by_cases hin : i < n
  · rw [decide_eq_true hin]
    cases h1 : hasB (f i) b with
    | false => simp
    | true => rw [hP.trans i hin b hb h1 x h]; rfl
  · rw [decide_eq_false hin]; rfl

theorem hb_in {s : Int} {k : Nat} (hs : 0 ≤ s) : hbB s k = hasB s k := by
  unfold hbB; rw [decide_eq_true hs, decide_eq_true (by omega)]; rfl

end Go.Proofs.Ytndcnfbncepihaa
