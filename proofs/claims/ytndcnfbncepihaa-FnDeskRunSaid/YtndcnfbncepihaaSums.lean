import Derived.Test.YtndcnfbncepihaaAxioms
import Derived.RangeFuncNested
import Derived.RangeFuncBound
import Derived.RangeFuncCalls
import Derived.RangeFuncLeaves
import Derived.Shelf.Abstract
import Derived.Shelf.RegionOpen
import Derived.WalkKit
import Derived.OwnWalkIn
import Derived.TacticsInMore
import Derived.LoopNIn
import Derived.LoopIn
namespace Go.Proofs.Ytndcnfbncepihaa
open Go.RowKit

/-- all things that overlap one of the first k things of a set's -/
def metK (n : Nat) (f : Nat → Int) (s : Int) : Nat → Int
  | 0 => 0
  | k + 1 => if hasB s k then orI (metK n f s k) (meetI n f k) else metK n f s k
def metI (n : Nat) (f : Nat → Int) (s : Int) : Int := metK n f s n
/-- a is a sum of the set's things -/
def sumG (n : Nat) (f : Nat → Int) (s : Int) (a : Nat) : Bool := meetI n f a == metI n f s
/-- a set of one thing or more of a world -/
def setB (n : Nat) (f : Nat → Int) (s : Int) : Bool := worldB n f && inB 1 s (2 ^ n - 1)
def sumsI (n : Nat) (f : Nat → Int) (s : Int) : Int := setOf (sumG n f s) n
def sumsB (n : Nat) (f : Nat → Int) (s : Int) : Int := if setB n f s then sumsI n f s else -1
def boundsI (n : Nat) (f : Nat → Int) (s : Int) : Int := setOf (fun b => withinB s (f b)) n
def boundsB (n : Nat) (f : Nat → Int) (s : Int) : Int := if setB n f s then boundsI n f s else -1
/-- the bound a is a part of each bound -/
def leastG (n : Nat) (f : Nat → Int) (x : Int) (a : Nat) : Bool := hasB x a && withinB x (wholesI n f a)
def leastI (n : Nat) (f : Nat → Int) (x : Int) : Int := setOf (leastG n f x) n
def hasSumB (n : Nat) (f : Nat → Int) (s : Int) : Bool := decide (∃ a, a < n ∧ sumG n f s a = true)
def summedB (n : Nat) (f : Nat → Int) : Bool := worldB n f && decide (∀ s : Nat, s < 2 ^ n → 1 ≤ s → hasSumB n f s = true)

theorem metK_yes {n : Nat} {f : Nat → Int} {s : Int} {k : Nat} (h : hasB s k = true) : metK n f s (k + 1) = bits .or .i64 (metK n f s k) (meetI n f k) := by
  rw [metK, if_pos h]; rfl
theorem metK_no {n : Nat} {f : Nat → Int} {s : Int} {k : Nat} (h : hasB s k = false) : metK n f s (k + 1) = metK n f s k := by
  rw [metK, if_neg (by rw [h]; decide)]

theorem metK_I64 (n : Nat) (f : Nat → Int) (s : Int) (k : Nat) : I64 (metK n f s k) := by
  induction k with
  | zero => exact I64_zero
  | succ k ih => rw [metK]; split; exact orI_I64 _ _; exact ih

theorem meetS_bit (n : Nat) (f : Nat → Int) (a i : Nat) (hi : i < 64) : hasB (meetI n f a) i = (decide (i < n) && (andI (f a) (f i) != 0)) := setOf_bit _ _ _ hi

theorem metK_iff (n : Nat) (f : Nat → Int) (s : Int) (k i : Nat) (hi : i < 64) : hasB (metK n f s k) i = true ↔ ∃ a, a < k ∧ hasB s a = true ∧ i < n ∧ (andI (f a) (f i) != 0) = true := by
  induction k with
  | zero => rw [metK, hasB_zero]; exact ⟨fun h => (by cases h), fun ⟨a, h, _⟩ => absurd h (Nat.not_lt_zero _)⟩
  | succ k ih =>
    cases h : hasB s k with
    | true =>
      rw [metK, if_pos h, or_bit _ _ _ hi, Bool.or_eq_true, ih, meetS_bit n f k i hi, Bool.and_eq_true, decide_eq_true_eq]
      constructor
      · rintro (⟨a, h1, h2⟩ | ⟨h1, h2⟩)
        · exact ⟨a, by omega, h2⟩
        · exact ⟨k, by omega, h, h1, h2⟩
      · rintro ⟨a, h1, h2, h3, h4⟩
        by_cases e : a = k
        · subst e; exact .inr ⟨h3, h4⟩
        · exact .inl ⟨a, by omega, h2, h3, h4⟩
    | false =>
      rw [metK_no h, ih]
      constructor
      · rintro ⟨a, h1, h2⟩; exact ⟨a, by omega, h2⟩
      · rintro ⟨a, h1, h2, h3⟩
        by_cases e : a = k
        · subst e; rw [h] at h2; cases h2
        · exact ⟨a, by omega, h2, h3⟩

theorem met_iff {n : Nat} {f : Nat → Int} {s : Int} {i : Nat} (hi : i < n) (hn : n ≤ 7) : hasB (metI n f s) i = true ↔ ∃ a, a < n ∧ hasB s a = true ∧ (andI (f a) (f i) != 0) = true := by
  unfold metI
  rw [metK_iff n f s n i (by omega)]
  exact ⟨fun ⟨a, h1, h2, _, h4⟩ => ⟨a, h1, h2, h4⟩, fun ⟨a, h1, h2, h4⟩ => ⟨a, h1, h2, hi, h4⟩⟩

theorem overlap_of {n : Nat} {f : Nat → Int} (hP : WorldP n f) {a b i : Nat} (ha : a < n) (h1 : hasB (f a) i = true) (h2 : hasB (f b) i = true) : (andI (f a) (f b) != 0) = true := by
  rw [bne_iff_ne]; intro e
  exact apart_not hP e (hasB_lt (hP.rng a ha) h1) h1 h2

theorem sum_meets {n : Nat} {f : Nat → Int} {s : Int} {a : Nat} (hn : n ≤ 7) (h : sumG n f s a = true) {i : Nat} (hi : i < n) : (andI (f a) (f i) != 0) = true ↔ ∃ c, c < n ∧ hasB s c = true ∧ (andI (f c) (f i) != 0) = true := by
  have e : meetI n f a = metI n f s := by unfold sumG at h; exact beq_iff_eq.1 h
  rw [← met_iff hi hn, ← e, meetS_bit n f a i (by omega), decide_eq_true hi, Bool.true_and]

/-- in a strong world: a is a part of b if all its parts overlap b -/
theorem strong_sub {n : Nat} {f : Nat → Int} (h64 : ∀ i, i < n → I64 (f i)) (hs : strongB n f = true) {a b : Nat} (ha : a < n) (hb : b < n)
    (h : ∀ c, c < n → hasB (f a) c = true → (andI (f c) (f b) != 0) = true) : hasB (f b) a = true := by
  obtain ⟨hP, hst⟩ := (strong_iff h64).1 hs
  by_cases e : a = b
  · subst e; exact hP.self a ha
  · cases hh : hasB (f b) a with
    | true => rfl
    | false =>
      obtain ⟨c, h1, h2, h3⟩ := (apB_iff f a b n).1 (hst a ha b hb e hh)
      have := h c h1 h2
      rw [bne_iff_ne] at this; exact absurd h3 this

theorem ov_swap {f : Nat → Int} {a b : Nat} (h : (andI (f a) (f b) != 0) = true) : (andI (f b) (f a) != 0) = true := by rw [andI_swap]; exact h

/-- each thing of the set is a part of the sum -/
theorem sum_part {n : Nat} {f : Nat → Int} (h64 : ∀ i, i < n → I64 (f i)) (hs : strongB n f = true) {s : Int} {a b : Nat} (ha : a < n) (hb : b < n) (h : sumG n f s a = true) (hm : hasB s b = true) : hasB (f a) b = true := by
  obtain ⟨hP, _⟩ := (strong_iff h64).1 hs
  refine strong_sub h64 hs hb ha (fun c hc hcb => ov_swap ((sum_meets hP.hi h hc).2 ⟨b, hb, hm, ?_⟩))
  exact ov_swap (overlap_of hP hc (hP.self c hc) hcb)

/-- the sum is a part of each bound -/
theorem sum_least {n : Nat} {f : Nat → Int} (h64 : ∀ i, i < n → I64 (f i)) (hs : strongB n f = true) {s : Int} {a b : Nat} (ha : a < n) (hb : b < n) (h : sumG n f s a = true) (hw : withinB s (f b) = true) : hasB (f b) a = true := by
  obtain ⟨hP, _⟩ := (strong_iff h64).1 hs
  have h7 := hP.hi
  refine strong_sub h64 hs ha hb (fun c hc hca => ?_)
  obtain ⟨d, hd, hds, hdc⟩ := (sum_meets hP.hi h hc).1 (ov_swap (overlap_of hP hc (hP.self c hc) hca))
  have hbd : hasB (f b) d = true := (within_iff s (f b)).1 hw d (by omega) hds
  rw [bne_iff_ne] at hdc
  obtain ⟨i, hi, h1, h2⟩ : ∃ i, i < 64 ∧ hasB (f d) i = true ∧ hasB (f c) i = true := by
    apply Classical.byContradiction; intro hn
    apply hdc
    refine (and_zero_iff _ _).2 (fun i hi h1 => ?_)
    cases e : hasB (f c) i with
    | false => rfl
    | true => exact absurd ⟨i, hi, h1, e⟩ hn
  exact overlap_of hP hc h2 (hP.trans b hb d hd hbd i h1)

theorem sum_same {n : Nat} {f : Nat → Int} {s : Int} {a b : Nat} (h1 : sumG n f s a = true) (h2 : sumG n f s b = true) : meetI n f a = meetI n f b := by
  unfold sumG at h1 h2; rw [beq_iff_eq] at h1 h2; rw [h1, h2]

theorem anti_eq {n : Nat} {f : Nat → Int} (hP : WorldP n f) {a b : Nat} (ha : a < n) (hb : b < n) (h1 : hasB (f a) b = true) (h2 : hasB (f b) a = true) : a = b := by
  apply Classical.byContradiction; intro e
  rw [hP.anti a ha b hb e h1] at h2; cases h2

theorem sum_one {n : Nat} {f : Nat → Int} (h64 : ∀ i, i < n → I64 (f i)) (hs : strongB n f = true) {s : Int} {a b : Nat} (ha : a < n) (hb : b < n) (h1 : sumG n f s a = true) (h2 : sumG n f s b = true) : a = b := by
  obtain ⟨hP, _⟩ := (strong_iff h64).1 hs
  have hab : ∀ {a b : Nat}, a < n → b < n → sumG n f s a = true → sumG n f s b = true → hasB (f b) a = true := fun {a b} ha hb h1 h2 =>
    strong_sub h64 hs ha hb (fun c hc hca => by
      have h3 : (andI (f a) (f c) != 0) = true := ov_swap (overlap_of hP hc (hP.self c hc) hca)
      exact ov_swap ((sum_meets hP.hi h2 hc).2 ((sum_meets hP.hi h1 hc).1 h3)))
  exact anti_eq hP ha hb (hab hb ha h2 h1) (hab ha hb h1 h2)

theorem metK_pow (n : Nat) (f : Nat → Int) (a k : Nat) : metK n f (2 ^ a) k = if a < k then meetI n f a else 0 := by
  induction k with
  | zero => rfl
  | succ k ih =>
    rw [metK, hasB_pow, ih]
    by_cases e : a = k
    · subst e
      rw [if_pos (decide_eq_true rfl), if_neg (by omega), if_pos (by omega)]
      exact ext64 _ _ (orI_I64 _ _) (setOf_I64 _ _) (fun i hi => by rw [or_bit _ _ _ hi, hasB_zero]; rfl)
    · rw [if_neg (by simpa using e)]
      by_cases h : a < k
      · rw [if_pos h, if_pos (by omega)]
      · rw [if_neg h, if_neg (by omega)]

/-- a thing is a sum of itself -/
theorem sum_self {n : Nat} {f : Nat → Int} {a : Nat} (ha : a < n) : sumG n f (2 ^ a) a = true := by
  unfold sumG metI; rw [metK_pow, if_pos ha]; exact beq_self_eq_true _

theorem pow_in {n a : Nat} (ha : a < n) : (1 : Int) ≤ 2 ^ a ∧ (2 : Int) ^ a ≤ 2 ^ n - 1 := by
  have h1 : (2 : Nat) ^ a < 2 ^ n := Nat.pow_lt_pow_right (by omega) ha
  have h2 := Nat.one_le_two_pow (n := a)
  have e1 : ((2 ^ a : Nat) : Int) = 2 ^ a := by simp
  have e2 : ((2 ^ n : Nat) : Int) = 2 ^ n := by simp
  omega

theorem setB_iff {n : Nat} {f : Nat → Int} {s : Int} : setB n f s = true ↔ worldB n f = true ∧ 1 ≤ s ∧ s ≤ 2 ^ n - 1 := by
  unfold setB inB; simp only [Bool.and_eq_true, decide_eq_true_eq]
theorem setB_pow {n : Nat} {f : Nat → Int} {a : Nat} (hw : worldB n f = true) (ha : a < n) : setB n f (2 ^ a) = true := setB_iff.2 ⟨hw, pow_in ha⟩

theorem sumsB_pow {n : Nat} {f : Nat → Int} {a : Nat} (hw : worldB n f = true) (ha : a < n) : sumsB n f (2 ^ a) = sumsI n f (2 ^ a) ∧ hasB (sumsI n f (2 ^ a)) a = true := by
  have h7 := (worldB_7 hw).2
  refine ⟨by unfold sumsB; rw [if_pos (setB_pow hw ha)], ?_⟩
  unfold sumsI; rw [setOf_bit _ _ _ (by omega), decide_eq_true ha, sum_self ha]; rfl

theorem sums_bit {n : Nat} {f : Nat → Int} {s : Int} {a : Nat} (ha : a < n) (hn : n ≤ 7) : hasB (sumsI n f s) a = sumG n f s a := by
  unfold sumsI; rw [setOf_bit _ _ _ (by omega), decide_eq_true ha, Bool.true_and]
theorem bounds_bit {n : Nat} {f : Nat → Int} {s : Int} {a : Nat} (ha : a < n) (hn : n ≤ 7) : hasB (boundsI n f s) a = withinB s (f a) := by
  unfold boundsI; rw [setOf_bit _ _ _ (by omega), decide_eq_true ha, Bool.true_and]
theorem wholesS_bit {n : Nat} {f : Nat → Int} {a i : Nat} (hi : i < 64) : hasB (wholesI n f a) i = (decide (i < n) && hasB (f i) a) := setOf_bit _ _ _ hi

theorem or_eq_within (x y : Int) (hx : I64 x) : (bits .or .i64 x y == x) = withinB y x := by
  rw [Bool.eq_iff_iff, beq_iff_eq, within_iff]; exact or_eq_iff x y hx
theorem and_eq_within (x y : Int) (hy : I64 y) : (bits .and .i64 x y == y) = withinB y x := by
  rw [Bool.eq_iff_iff, beq_iff_eq, within_iff]
  constructor
  · intro h i hi hb
    have := and_bit x y i hi
    rw [show andI x y = y from h, hb] at this
    simpa using this.symm
  · intro h
    refine ext64 _ _ (andI_I64 x y) hy (fun i hi => ?_)
    rw [show bits .and .i64 x y = andI x y from rfl, and_bit x y i hi]
    have := h i hi
    cases hb : hasB y i <;> simp_all

/-- wholes of bounds are bounds -/
theorem bounds_up {n : Nat} {f : Nat → Int} (hP : WorldP n f) {s : Int} {a : Nat} (ha : a < n) (h : hasB (boundsI n f s) a = true) : bits .or .i64 (wholesI n f a) (boundsI n f s) = boundsI n f s := by
  have h7 := hP.hi
  rw [bounds_bit ha h7, within_iff] at h
  refine ext64 _ _ (orI_I64 _ _) (setOf_I64 _ _) (fun i hi => ?_)
  show hasB (orI _ _) i = _
  rw [or_bit _ _ _ hi, wholesS_bit hi]
  by_cases hin : i < n
  · rw [decide_eq_true hin, Bool.true_and, bounds_bit hin h7]
    cases e : hasB (f i) a with
    | false => rfl
    | true =>
      have : withinB s (f i) = true := (within_iff _ _).2 (fun j hj hb => hP.trans i hin a ha e j (h j hj hb))
      rw [this]; rfl
  · rw [decide_eq_false hin]; rfl

/-- of more things there are no more bounds -/
theorem bounds_more {n : Nat} {f : Nat → Int} (hP : WorldP n f) {s : Int} {a : Nat} (_ : a < n) : bits .or .i64 (boundsI n f (bits .or .i64 s (2 ^ a))) (boundsI n f s) = boundsI n f s := by
  have h7 := hP.hi
  refine ext64 _ _ (orI_I64 _ _) (setOf_I64 _ _) (fun i hi => ?_)
  show hasB (orI _ _) i = _
  rw [or_bit _ _ _ hi]
  cases e : hasB (boundsI n f (bits .or .i64 s (2 ^ a))) i with
  | false => rfl
  | true =>
    unfold boundsI at e ⊢
    rw [setOf_bit _ _ _ hi, Bool.and_eq_true, within_iff] at e
    rw [setOf_bit _ _ _ hi, e.1, show withinB s (f i) = true from (within_iff _ _).2 (fun j hj hb => e.2 j hj (by show hasB (orI _ _) j = _; rw [or_bit _ _ _ hj, hb]; rfl))]
    rfl

theorem set_more {n : Nat} {f : Nat → Int} {s : Int} {a : Nat} (h : setB n f s = true) (ha : a < n) : setB n f (bits .or .i64 s (2 ^ a)) = true := by
  obtain ⟨hw, h1, h2⟩ := setB_iff.1 h
  have h7 := (worldB_7 hw).2
  have hr := lt_of_bits (orI s (2 ^ a)) n (by omega) (orI_I64 _ _) (fun i hi hni => by
    rw [or_bit _ _ _ hi, hasB_big s n (by omega) (by omega) i hni, hasB_pow, decide_eq_false (by omega)]; rfl)
  have hne : orI s (2 ^ a) ≠ 0 := by
    intro e
    have := or_bit s (2 ^ a) a (by omega)
    rw [e, hasB_zero, hasB_pow, decide_eq_true rfl] at this
    simp at this
  exact setB_iff.2 ⟨hw, by show 1 ≤ orI s (2 ^ a); omega, by show orI s (2 ^ a) ≤ _; omega⟩

theorem set_I64 {n : Nat} {f : Nat → Int} {s : Int} (h : setB n f s = true) : I64 s := by
  obtain ⟨hw, h1, h2⟩ := setB_iff.1 h
  have := (pow_bounds n (worldB_7 hw).2).2
  unfold I64; omega

theorem setB_eq {n : Nat} {f : Nat → Int} {s : Int} (h64 : I64 s) : setB n f s = (worldB n f && (!(s == 0) && withinB s (2 ^ n - 1))) := by
  unfold setB
  cases hw : worldB n f with
  | false => rfl
  | true =>
    have h7 := (worldB_7 hw).2
    rw [Bool.true_and, Bool.true_and, Bool.eq_iff_iff, Bool.and_eq_true, within_low s n (by omega) h64]
    unfold inB
    simp only [Bool.and_eq_true, decide_eq_true_eq, Bool.not_eq_true', beq_eq_false_iff_ne]
    omega
end Go.Proofs.Ytndcnfbncepihaa

namespace Go.Proofs.Ytndcnfbncepihaa
open Go.RowKit

theorem i64_of_wf {x : Int} (h : (Lit.int .i64 x).wf = true) : I64 x := by
  have := h
  simp [Lit.wf, IntKind.min, IntKind.max, IntKind.signed, IntKind.bits] at this
  unfold I64; omega

theorem Drew.onto {a b c : World} (h : Drew a b) (k : Drew b c) : Drew a c := by obtain ⟨m, rfl⟩ := k; exact h.more m
theorem row_drew {w w' : World} {b o n : Nat} {f : Nat → Int} (h : Row w b o n f) (hd : Drew w w') : Row w' b o n f := by obtain ⟨m, rfl⟩ := hd; exact h.drewN m

theorem meetB_at {n : Nat} {f : Nat → Int} {k : Nat} (hw : worldB n f = true) (hk : k < n) : meetB n f k = meetI n f k := by
  unfold meetB; rw [if_pos ((good1_iff n f k).2 ⟨hw, by omega, by omega⟩), Int.toNat_natCast]
theorem wholesB_at {n : Nat} {f : Nat → Int} {k : Nat} (hw : worldB n f = true) (hk : k < n) : wholesB n f k = wholesI n f k := by
  unfold wholesB; rw [if_pos ((good1_iff n f k).2 ⟨hw, by omega, by omega⟩), Int.toNat_natCast]

end Go.Proofs.Ytndcnfbncepihaa

namespace Go.Proofs.Ytndcnfbncepihaa
open Go.RowKit

theorem within_val (x y : Int) (v : Bool) (w : World) (hv : withinB x y = v) :
    Calls Try.prog 109 #[.int .i64 x, .int .i64 y] w fun e w' => e = .returned (.bool v) ∧ w = w' := by
  subst hv; exact within_any x y w
theorem has_val (x : Int) (a : Nat) (v : Bool) (w : World) (hv : hasB x a = v) (ha : a ≤ 63) :
    Calls Try.prog 112 #[.int .i64 x, .int .i64 a] w fun e w' => e = .returned (.bool v) ∧ w = w' := by
  subst hv; exact has_any x a ha w

/-- what worldWithSet hands back -/
def SetEnd (n : Nat) (f : Nat → Int) (s : Int) (w : World) (e : Ending) (w' : World) : Prop :=
  Below w.heap.size w w' ∧ ((setB n f s = true ∧ e = .returned (.tuple #[.slice (some ⟨w.heap.size, 0, none⟩) n n, .int .i64 s, .bool true]) ∧ w.heap.size < w'.heap.size ∧ Row w' w.heap.size 0 n f)
    ∨ (setB n f s = false ∧ e = .returned (.tuple #[.slice none 0 0, .int .i64 0, .bool false])))

end Go.Proofs.Ytndcnfbncepihaa

namespace Go.Proofs.Ytndcnfbncepihaa
open Go.RowKit Go.Shelf
attribute [local go_sem] Oper.semAt_some

/-- a number of a thing -/
abbrev Th := { x : Nat // x < 7 }
/-- what has come: the sums below k -/
def Came (g : Nat → Bool) (k : Nat) (xs : List Th) : Prop := xs.map (fun x => x.1) = (List.range k).filter g

theorem Came.none (g : Nat → Bool) : Came g 0 [] := rfl
theorem Came.yes {g : Nat → Bool} {k : Nat} {xs : List Th} (h : Came g k xs) (hk : k < 7) (hg : g k = true) : Came g (k + 1) (xs ++ [⟨k, hk⟩]) := by
  unfold Came at h ⊢
  rw [List.map_append, h, List.range_succ, List.filter_append]
  simp [hg]
theorem Came.no {g : Nat → Bool} {k : Nat} {xs : List Th} (h : Came g k xs) (hg : g k = false) : Came g (k + 1) xs := by
  unfold Came at h ⊢
  rw [h, List.range_succ, List.filter_append]
  simp [hg]
theorem Came.len {g : Nat → Bool} {k : Nat} {xs : List Th} (h : Came g k xs) : xs.length ≤ k := by
  unfold Came at h
  have h1 : xs.length = ((List.range k).filter g).length := by rw [← h, List.length_map]
  have h2 := List.length_filter_le g (List.range k)
  rw [List.length_range] at h2
  omega

theorem grown_of_below {W W' : World} (h : Below W.heap.size W W') : W.grownBy W' none :=
  ⟨h.os, h.tape, h.output, h.size, fun k hk _ => h.block k hk⟩

/-- what a round keeps: what lies below n₀, and the iterator's own variable -/
def Kept (n₀ Bp : Nat) (W W' : World) : Prop := Below n₀ W W' ∧ W'.cell? ⟨Bp, 0, none⟩ = W.cell? ⟨Bp, 0, none⟩
theorem Kept.of {n₀ Bp : Nat} {W W' : World} (h : Below W.heap.size W W') (hn : n₀ ≤ W.heap.size) (hB : Bp < W.heap.size) : Kept n₀ Bp W W' := ⟨h.mono hn, h.cell (p := ⟨Bp, 0, none⟩) hB⟩
theorem Kept.on {n₀ Bp : Nat} {A B C : World} (h : Kept n₀ Bp A B) (k : Kept n₀ Bp B C) : Kept n₀ Bp A C := ⟨h.1.trans k.1, k.2.trans h.2⟩
theorem kept_b {n₀ Bp : Nat} {w : World} (hn : n₀ ≤ w.heap.size) (hB : Bp < w.heap.size) (W : World) (l : Nat) (o o' : Obj) (hl : w.heap.size ≤ l) (h : W.heap[l]? = some o) (h1 : o.isCells = false) (h2 : o.isWalk = false) : Kept n₀ Bp W (W.putObj l o') :=
  ⟨belowK_b hn W l o o' hl h h1 h2, (belowK_b (n₀ := w.heap.size) (Nat.le_refl _) W l o o' hl h h1 h2).cell (p := ⟨Bp, 0, none⟩) hB⟩

end Go.Proofs.Ytndcnfbncepihaa

namespace Go.Proofs.Ytndcnfbncepihaa
open Go.RowKit Go.Shelf
attribute [local go_sem] Oper.semAt_some

/-- what has come, put together -/
def orAll (xs : List Th) : Int := (xs.map (fun x => x.1)).foldl (fun v a => bits .or .i64 v (2 ^ a)) 0
theorem orAll_snoc (xs : List Th) (x : Th) : orAll (xs ++ [x]) = bits .or .i64 (orAll xs) (2 ^ x.1) := by
  unfold orAll; rw [List.map_append, List.foldl_append]; rfl
theorem orAll_range (g : Nat → Bool) (k : Nat) : ((List.range k).filter g).foldl (fun v a => bits .or .i64 v (2 ^ a)) 0 = setOf g k := by
  induction k with
  | zero => rfl
  | succ k ih =>
    rw [List.range_succ, List.filter_append, List.foldl_append, ih]
    cases h : g k with
    | true => rw [setOf_yes g k h]; simp [h]
    | false => rw [setOf_no g k h]; simp [h]
theorem orAll_came {g : Nat → Bool} {k : Nat} {xs : List Th} (h : Came g k xs) : orAll xs = setOf g k := by
  unfold Came at h; unfold orAll; rw [h, orAll_range]

theorem summed_no {n : Nat} {f : Nat → Int} {k : Nat} (h1 : 1 ≤ k) (hk : k < 2 ^ n) (h : hasSumB n f k = false) : decide (∀ s : Nat, s < 2 ^ n → 1 ≤ s → hasSumB n f s = true) = false :=
  decide_eq_false (fun e => by have := e k hk h1; rw [h] at this; cases this)

end Go.Proofs.Ytndcnfbncepihaa

namespace Go.Proofs.Ytndcnfbncepihaa
open Go.RowKit

theorem sums_zero {n : Nat} {f : Nat → Int} {s : Int} (h7 : n ≤ 7) : (sumsI n f s == 0) = !hasSumB n f s := by
  cases h : hasSumB n f s with
  | true =>
    obtain ⟨a, ha, hg⟩ : ∃ a, a < n ∧ sumG n f s a = true := by unfold hasSumB at h; exact of_decide_eq_true h
    rw [beq_eq_false_iff_ne.2]; rfl
    intro e
    have := sums_bit (n := n) (f := f) (s := s) ha h7
    rw [e, hasB_zero, hg] at this; cases this
  | false =>
    rw [beq_iff_eq.2]; rfl
    refine ext64 _ _ (setOf_I64 _ _) I64_zero (fun i hi => ?_)
    unfold sumsI; rw [hasB_zero, setOf_bit _ _ _ hi]
    by_cases hin : i < n
    · rw [decide_eq_true hin, Bool.true_and]
      cases e : sumG n f s i with
      | false => rfl
      | true => unfold hasSumB at h; exact absurd ⟨i, hin, e⟩ (of_decide_eq_false h)
    · rw [decide_eq_false hin]; rfl

theorem set_at {n : Nat} {f : Nat → Int} {k : Nat} (hw : worldB n f = true) (h1 : 1 ≤ k) (hk : k < 2 ^ n) : setB n f k = true := by
  have e2 : ((2 ^ n : Nat) : Int) = 2 ^ n := by simp
  exact setB_iff.2 ⟨hw, by omega, by omega⟩

end Go.Proofs.Ytndcnfbncepihaa
