import Derived.Test.YthaickihoagnmaaGreatDoorAxioms
import Derived.RangeFuncNested
import Derived.RangeFuncBound
import Derived.RangeFuncCalls
import Derived.RangeFuncLeaves
import Derived.Shelf.Abstract
import Derived.Shelf.RegionOpen
import Derived.WalkKit
import Derived.OwnWalkIn
import Derived.TacticsInMore
import Derived.LoopNIn
import Derived.LoopIn
namespace Go.Proofs.YthaickihoagnmaaGreatDoor
open Go.RowKit

/-- all things that overlap one of the first k things of a set's -/
def metK (n : Nat) (f : Nat → Int) (s : Int) : Nat → Int
  | 0 => 0
  | k + 1 => if hasB s k then orI (metK n f s k) (meetI n f k) else metK n f s k
def metI (n : Nat) (f : Nat → Int) (s : Int) : Int := metK n f s n
/-- a is a sum of the set's things -/
def sumG (n : Nat) (f : Nat → Int) (s : Int) (a : Nat) : Bool := meetI n f a == metI n f s
/-- a set of one thing or more of a world -/
def setB (n : Nat) (f : Nat → Int) (s : Int) : Bool := worldB n f && inB 1 s (2 ^ n - 1)
def sumsI (n : Nat) (f : Nat → Int) (s : Int) : Int := setOf (sumG n f s) n
def sumsB (n : Nat) (f : Nat → Int) (s : Int) : Int := if setB n f s then sumsI n f s else -1
def boundsI (n : Nat) (f : Nat → Int) (s : Int) : Int := setOf (fun b => withinB s (f b)) n
def boundsB (n : Nat) (f : Nat → Int) (s : Int) : Int := if setB n f s then boundsI n f s else -1
/-- the bound a is a part of each bound -/
def leastG (n : Nat) (f : Nat → Int) (x : Int) (a : Nat) : Bool := hasB x a && withinB x (wholesI n f a)
def leastI (n : Nat) (f : Nat → Int) (x : Int) : Int := setOf (leastG n f x) n
def hasSumB (n : Nat) (f : Nat → Int) (s : Int) : Bool := decide (∃ a, a < n ∧ sumG n f s a = true)
def summedB (n : Nat) (f : Nat → Int) : Bool := worldB n f && decide (∀ s : Nat, s < 2 ^ n → 1 ≤ s → hasSumB n f s = true)

theorem metK_yes {n : Nat} {f : Nat → Int} {s : Int} {k : Nat} (h : hasB s k = true) : metK n f s (k + 1) = bits .or .i64 (metK n f s k) (meetI n f k) := by
  rw [metK, if_pos h]; rfl
theorem metK_no {n : Nat} {f : Nat → Int} {s : Int} {k : Nat} (h : hasB s k = false) : metK n f s (k + 1) = metK n f s k := by
  rw [metK, if_neg (by rw [h]; decide)]

theorem metK_I64 (n : Nat) (f : Nat → Int) (s : Int) (k : Nat) : I64 (metK n f s k) := by
  induction k with
  | zero => exact I64_zero
  | succ k ih => rw [metK]; split; exact orI_I64 _ _; exact ih

theorem meetS_bit (n : Nat) (f : Nat → Int) (a i : Nat) (hi : i < 64) : hasB (meetI n f a) i = (decide (i < n) && (andI (f a) (f i) != 0)) := setOf_bit _ _ _ hi

theorem metK_iff (n : Nat) (f : Nat → Int) (s : Int) (k i : Nat) (hi : i < 64) : hasB (metK n f s k) i = true ↔ ∃ a, a < k ∧ hasB s a = true ∧ i < n ∧ (andI (f a) (f i) != 0) = true := by
  induction k with
  | zero => rw [metK, hasB_zero]; exact ⟨fun h => (by cases h), fun ⟨a, h, _⟩ => absurd h (Nat.not_lt_zero _)⟩
  | succ k ih =>
    cases h : hasB s k with
    | true =>
      rw [metK, if_pos h, or_bit _ _ _ hi, Bool.or_eq_true, ih, meetS_bit n f k i hi, Bool.and_eq_true, decide_eq_true_eq]
      constructor
      · rintro (⟨a, h1, h2⟩ | ⟨h1, h2⟩)
        · exact ⟨a, by omega, h2⟩
        · exact ⟨k, by omega, h, h1, h2⟩
      · rintro ⟨a, h1, h2, h3, h4⟩
        by_cases e : a = k
        · subst e; exact .inr ⟨h3, h4⟩
        · exact .inl ⟨a, by omega, h2, h3, h4⟩
    | false =>
      rw [metK_no h, ih]
      constructor
      · rintro ⟨a, h1, h2⟩; exact ⟨a, by omega, h2⟩
      · rintro ⟨a, h1, h2, h3⟩
        by_cases e : a = k
        · subst e; rw [h] at h2; cases h2
        · exact ⟨a, by omega, h2, h3⟩

theorem met_iff {n : Nat} {f : Nat → Int} {s : Int} {i : Nat} (hi : i < n) (hn : n ≤ 7) : hasB (metI n f s) i = true ↔ ∃ a, a < n ∧ hasB s a = true ∧ (andI (f a) (f i) != 0) = true := by
  unfold metI
  rw [metK_iff n f s n i (by omega)]
  exact ⟨fun ⟨a, h1, h2, _, h4⟩ => ⟨a, h1, h2, h4⟩, fun ⟨a, h1, h2, h4⟩ => ⟨a, h1, h2, hi, h4⟩⟩

theorem overlap_of {n : Nat} {f : Nat → Int} (hP : WorldP n f) {a b i : Nat} (ha : a < n) (h1 : hasB (f a) i = true) (h2 : hasB (f b) i = true) : (andI (f a) (f b) != 0) = true := by
  rw [bne_iff_ne]; intro e
  exact apart_not hP e (hasB_lt (hP.rng a ha) h1) h1 h2

theorem sum_meets {n : Nat} {f : Nat → Int} {s : Int} {a : Nat} (hn : n ≤ 7) (h : sumG n f s a = true) {i : Nat} (hi : i < n) : (andI (f a) (f i) != 0) = true ↔ ∃ c, c < n ∧ hasB s c = true ∧ (andI (f c) (f i) != 0) = true := by
  have e : meetI n f a = metI n f s := by unfold sumG at h; exact beq_iff_eq.1 h
  rw [← met_iff hi hn, ← e, meetS_bit n f a i (by omega), decide_eq_true hi, Bool.true_and]

/-- in a strong world: a is a part of b if all its parts overlap b -/
theorem strong_sub {n : Nat} {f : Nat → Int} (h64 : ∀ i, i < n → I64 (f i)) (hs : strongB n f = true) {a b : Nat} (ha : a < n) (hb : b < n)
    (h : ∀ c, c < n → hasB (f a) c = true → (andI (f c) (f b) != 0) = true) : hasB (f b) a = true := by
  obtain ⟨hP, hst⟩ := (strong_iff h64).1 hs
  by_cases e : a = b
  · subst e; exact hP.self a ha
  · cases hh : hasB (f b) a with
    | true => rfl
    | false =>
      obtain ⟨c, h1, h2, h3⟩ := (apB_iff f a b n).1 (hst a ha b hb e hh)
      have := h c h1 h2
      rw [bne_iff_ne] at this; exact absurd h3 this

theorem ov_swap {f : Nat → Int} {a b : Nat} (h : (andI (f a) (f b) != 0) = true) : (andI (f b) (f a) != 0) = true := by rw [andI_swap]; exact h

/-- each thing of the set is a part of the sum -/
theorem sum_part {n : Nat} {f : Nat → Int} (h64 : ∀ i, i < n → I64 (f i)) (hs : strongB n f = true) {s : Int} {a b : Nat} (ha : a < n) (hb : b < n) (h : sumG n f s a = true) (hm : hasB s b = true) : hasB (f a) b = true := by
  obtain ⟨hP, _⟩ := (strong_iff h64).1 hs
  refine strong_sub h64 hs hb ha (fun c hc hcb => ov_swap ((sum_meets hP.hi h hc).2 ⟨b, hb, hm, ?_⟩))
  exact ov_swap (overlap_of hP hc (hP.self c hc) hcb)

/-- the sum is a part of each bound -/
theorem sum_least {n : Nat} {f : Nat → Int} (h64 : ∀ i, i < n → I64 (f i)) (hs : strongB n f = true) {s : Int} {a b : Nat} (ha : a < n) (hb : b < n) (h : sumG n f s a = true) (hw : withinB s (f b) = true) : hasB (f b) a = true := by
  obtain ⟨hP, _⟩ := (strong_iff h64).1 hs
  have h7 := hP.hi
  refine strong_sub h64 hs ha hb (fun c hc hca => ?_)
  obtain ⟨d, hd, hds, hdc⟩ := (sum_meets hP.hi h hc).1 (ov_swap (overlap_of hP hc (hP.self c hc) hca))
  have hbd : hasB (f b) d = true := (within_iff s (f b)).1 hw d (by omega) hds
  rw [bne_iff_ne] at hdc
  obtain ⟨i, hi, h1, h2⟩ : ∃ i, i < 64 ∧ hasB (f d) i = true ∧ hasB (f c) i = true := by
    apply Classical.byContradiction; intro hn
    apply hdc
    refine (and_zero_iff _ _).2 (fun i hi h1 => ?_)
    cases e : hasB (f c) i with
    | false => rfl
    | true => exact absurd ⟨i, hi, h1, e⟩ hn
  exact overlap_of hP hc h2 (hP.trans b hb d hd hbd i h1)

theorem sum_same {n : Nat} {f : Nat → Int} {s : Int} {a b : Nat} (h1 : sumG n f s a = true) (h2 : sumG n f s b = true) : meetI n f a = meetI n f b := by
  unfold sumG at h1 h2; rw [beq_iff_eq] at h1 h2; rw [h1, h2]

theorem anti_eq {n : Nat} {f : Nat → Int} (hP : WorldP n f) {a b : Nat} (ha : a < n) (hb : b < n) (h1 : hasB (f a) b = true) (h2 : hasB (f b) a = true) : a = b := by
  apply Classical.byContradiction; intro e
  rw [hP.anti a ha b hb e h1] at h2; cases h2

theorem sum_one {n : Nat} {f : Nat → Int} (h64 : ∀ i, i < n → I64 (f i)) (hs : strongB n f = true) {s : Int} {a b : Nat} (ha : a < n) (hb : b < n) (h1 : sumG n f s a = true) (h2 : sumG n f s b = true) : a = b := by
  obtain ⟨hP, _⟩ := (strong_iff h64).1 hs
  have hab : ∀ {a b : Nat}, a < n → b < n → sumG n f s a = true → sumG n f s b = true → hasB (f b) a = true := fun {a b} ha hb h1 h2 =>
    strong_sub h64 hs ha hb (fun c hc hca => by
      have h3 : (andI (f a) (f c) != 0) = true := ov_swap (overlap_of hP hc (hP.self c hc) hca)
      exact ov_swap ((sum_meets hP.hi h2 hc).2 ((sum_meets hP.hi h1 hc).1 h3)))
  exact anti_eq hP ha hb (hab hb ha h2 h1) (hab ha hb h1 h2)

theorem metK_pow (n : Nat) (f : Nat → Int) (a k : Nat) : metK n f (2 ^ a) k = if a < k then meetI n f a else 0 := by
  induction k with
  | zero => rfl
  | succ k ih =>
    rw [metK, hasB_pow, ih]
    by_cases e : a = k
    · subst e
      rw [if_pos (decide_eq_true rfl), if_neg (by omega), if_pos (by omega)]
      exact ext64 _ _ (orI_I64 _ _) (setOf_I64 _ _) (fun i hi => by rw [or_bit _ _ _ hi, hasB_zero]; rfl)
    · rw [if_neg (by simpa using e)]
      by_cases h : a < k
      · rw [if_pos h, if_pos (by omega)]
      · rw [if_neg h, if_neg (by omega)]

/-- a thing is a sum of itself -/
theorem sum_self {n : Nat} {f : Nat → Int} {a : Nat} (ha : a < n) : sumG n f (2 ^ a) a = true := by
  unfold sumG metI; rw [metK_pow, if_pos ha]; exact beq_self_eq_true _

theorem pow_in {n a : Nat} (ha : a < n) : (1 : Int) ≤ 2 ^ a ∧ (2 : Int) ^ a ≤ 2 ^ n - 1 := by
  have h1 : (2 : Nat) ^ a < 2 ^ n := Nat.pow_lt_pow_right (by omega) ha
  have h2 := Nat.one_le_two_pow (n := a)
  have e1 : ((2 ^ a : Nat) : Int) = 2 ^ a := by simp
  have e2 : ((2 ^ n : Nat) : Int) = 2 ^ n := by simp
  omega

theorem setB_iff {n : Nat} {f : Nat → Int} {s : Int} : setB n f s = true ↔ worldB n f = true ∧ 1 ≤ s ∧ s ≤ 2 ^ n - 1 := by
  unfold setB inB; simp only [Bool.and_eq_true, decide_eq_true_eq]
theorem setB_pow {n : Nat} {f : Nat → Int} {a : Nat} (hw : worldB n f = true) (ha : a < n) : setB n f (2 ^ a) = true := setB_iff.2 ⟨hw, pow_in ha⟩

theorem sumsB_pow {n : Nat} {f : Nat → Int} {a : Nat} (hw : worldB n f = true) (ha : a < n) : sumsB n f (2 ^ a) = sumsI n f (2 ^ a) ∧ hasB (sumsI n f (2 ^ a)) a = true := by
  have h7 := (worldB_7 hw).2
  refine ⟨by unfold sumsB; rw [if_pos (setB_pow hw ha)], ?_⟩
  unfold sumsI; rw [setOf_bit _ _ _ (by omega), decide_eq_true ha, sum_self ha]; rfl

theorem sums_bit {n : Nat} {f : Nat → Int} {s : Int} {a : Nat} (ha : a < n) (hn : n ≤ 7) : hasB (sumsI n f s) a = sumG n f s a := by
  unfold sumsI; rw [setOf_bit _ _ _ (by omega), decide_eq_true ha, Bool.true_and]
theorem bounds_bit {n : Nat} {f : Nat → Int} {s : Int} {a : Nat} (ha : a < n) (hn : n ≤ 7) : hasB (boundsI n f s) a = withinB s (f a) := by
  unfold boundsI; rw [setOf_bit _ _ _ (by omega), decide_eq_true ha, Bool.true_and]
theorem wholesS_bit {n : Nat} {f : Nat → Int} {a i : Nat} (hi : i < 64) : hasB (wholesI n f a) i = (decide (i < n) && hasB (f i) a) := setOf_bit _ _ _ hi

theorem or_eq_within (x y : Int) (hx : I64 x) : (bits .or .i64 x y == x) = withinB y x := by
  rw [Bool.eq_iff_iff, beq_iff_eq, within_iff]; exact or_eq_iff x y hx
theorem and_eq_within (x y : Int) (hy : I64 y) : (bits .and .i64 x y == y) = withinB y x := by
  rw [Bool.eq_iff_iff, beq_iff_eq, within_iff]
  constructor
  · intro h i hi hb
    have := and_bit x y i hi
    rw [show andI x y = y from h, hb] at this
    simpa using this.symm
  · intro h
    refine ext64 _ _ (andI_I64 x y) hy (fun i hi => ?_)
    rw [show bits .and .i64 x y = andI x y from rfl, and_bit x y i hi]
    have := h i hi
    cases hb : hasB y i <;> simp_all

/-- wholes of bounds are bounds -/
theorem bounds_up {n : Nat} {f : Nat → Int} (hP : WorldP n f) {s : Int} {a : Nat} (ha : a < n) (h : hasB (boundsI n f s) a = true) : bits .or .i64 (wholesI n f a) (boundsI n f s) = boundsI n f s := by
  have h7 := hP.hi
  rw [bounds_bit ha h7, within_iff] at h
  refine ext64 _ _ (orI_I64 _ _) (setOf_I64 _ _) (fun i hi => ?_)
  show hasB (orI _ _) i = _
  rw [or_bit _ _ _ hi, wholesS_bit hi]
  by_cases hin : i < n
  · rw [decide_eq_true hin, Bool.true_and, bounds_bit hin h7]
    cases e : hasB (f i) a with
    | false => rfl
    | true =>
      have : withinB s (f i) = true := (within_iff _ _).2 (fun j hj hb => hP.trans i hin a ha e j (h j hj hb))
      rw [this]; rfl
  · rw [decide_eq_false hin]; rfl

/-- of more things there are no more bounds -/
theorem bounds_more {n : Nat} {f : Nat → Int} (hP : WorldP n f) {s : Int} {a : Nat} (_ : a < n) : bits .or .i64 (boundsI n f (bits .or .i64 s (2 ^ a))) (boundsI n f s) = boundsI n f s := by
  have h7 := hP.hi
  refine ext64 _ _ (orI_I64 _ _) (setOf_I64 _ _) (fun i hi => ?_)
  show hasB (orI _ _) i = _
  rw [or_bit _ _ _ hi]
  cases e : hasB (boundsI n f (bits .or .i64 s (2 ^ a))) i with
  | false => rfl
  | true =>
    unfold boundsI at e ⊢
    rw [setOf_bit _ _ _ hi, Bool.and_eq_true, within_iff] at e
    rw [setOf_bit _ _ _ hi, e.1, show withinB s (f i) = true from (within_iff _ _).2 (fun j hj hb => e.2 j hj (by show hasB (orI _ _) j = _; rw [or_bit _ _ _ hj, hb]; rfl))]
    rfl

theorem set_more {n : Nat} {f : Nat → Int} {s : Int} {a : Nat} (h : setB n f s = true) (ha : a < n) : setB n f (bits .or .i64 s (2 ^ a)) = true := by
  obtain ⟨hw, h1, h2⟩ := setB_iff.1 h
  have h7 := (worldB_7 hw).2
  have hr := lt_of_bits (orI s (2 ^ a)) n (by omega) (orI_I64 _ _) (fun i hi hni => by
    rw [or_bit _ _ _ hi, hasB_big s n (by omega) (by omega) i hni, hasB_pow, decide_eq_false (by omega)]; rfl)
  have hne : orI s (2 ^ a) ≠ 0 := by
    intro e
    have := or_bit s (2 ^ a) a (by omega)
    rw [e, hasB_zero, hasB_pow, decide_eq_true rfl] at this
    simp at this
  exact setB_iff.2 ⟨hw, by show 1 ≤ orI s (2 ^ a); omega, by show orI s (2 ^ a) ≤ _; omega⟩

theorem set_I64 {n : Nat} {f : Nat → Int} {s : Int} (h : setB n f s = true) : I64 s := by
  obtain ⟨hw, h1, h2⟩ := setB_iff.1 h
  have := (pow_bounds n (worldB_7 hw).2).2
  unfold I64; omega

theorem setB_eq {n : Nat} {f : Nat → Int} {s : Int} (h64 : I64 s) : setB n f s = (worldB n f && (!(s == 0) && withinB s (2 ^ n - 1))) := by
  unfold setB
  cases hw : worldB n f with
  | false => rfl
  | true =>
    have h7 := (worldB_7 hw).2
    rw [Bool.true_and, Bool.true_and, Bool.eq_iff_iff, Bool.and_eq_true, within_low s n (by omega) h64]
    unfold inB
    simp only [Bool.and_eq_true, decide_eq_true_eq, Bool.not_eq_true', beq_eq_false_iff_ne]
    omega
end Go.Proofs.YthaickihoagnmaaGreatDoor

namespace Go.Proofs.YthaickihoagnmaaGreatDoor
open Go.RowKit

theorem i64_of_wf {x : Int} (h : (Lit.int .i64 x).wf = true) : I64 x := by
  have := h
  simp [Lit.wf, IntKind.min, IntKind.max, IntKind.signed, IntKind.bits] at this
  unfold I64; omega

theorem Drew.onto {a b c : World} (h : Drew a b) (k : Drew b c) : Drew a c := by obtain ⟨m, rfl⟩ := k; exact h.more m
theorem row_drew {w w' : World} {b o n : Nat} {f : Nat → Int} (h : Row w b o n f) (hd : Drew w w') : Row w' b o n f := by obtain ⟨m, rfl⟩ := hd; exact h.drewN m

set_option maxHeartbeats 800000 in
theorem l4Set_any (a : Option Addr) (n cap : Nat) (f : Nat → Int) (s : Int) (w : World) (hi : Ints w a n f) :
    Calls Tryz.prog 124 #[.slice a n cap, .int .i64 s] w fun e w' => e = .returned (.bool (setB n f s)) ∧ Drew w w' := by
  cases hw : worldB n f with
  | true =>
    have h7 := (worldB_7 hw).2
    obtain ⟨hp1, hp2⟩ := pow_bounds n h7
    have HF := Lib.hid (show setB n f s = inB 1 s (2 ^ n - 1) by unfold setB; rw [hw]; rfl)
    have HW := Lib.hid hw; have HN := Lib.hid hi; clear hw hi
    go_enter Tryz.func124, Tryz.ntmps124
    go_wp2_with fail
    refine (specWorldOk_val _ _ _ f true _ HW.out HN.out).mono ?_
    rintro e w' ⟨rfl, m, rfl⟩
    go_wp2_with fail
    refine (l1In_any s 1 (2 ^ n - 1) _).mono ?_
    rintro e w' ⟨rfl, rfl⟩
    go_wp2_with fail
    go_ret
    exact ⟨retb HF.out.symm, _, rfl⟩
  | false =>
    have HF := Lib.hid (show setB n f s = false by unfold setB; rw [hw]; rfl)
    have HW := Lib.hid hw; have HN := Lib.hid hi; clear hw hi
    go_enter Tryz.func124, Tryz.ntmps124
    go_wp2_with fail
    refine (specWorldOk_val _ _ _ f false _ HW.out HN.out).mono ?_
    rintro e w' ⟨rfl, m, rfl⟩
    go_wp2_with fail
    go_ret
    exact ⟨retb HF.out.symm, _, rfl⟩

theorem l4Set_val (a : Option Addr) (n cap : Nat) (f : Nat → Int) (s : Int) (v : Bool) (w : World) (hv : setB n f s = v) (hi : Ints w a n f) :
    Calls Tryz.prog 124 #[.slice a n cap, .int .i64 s] w fun e w' => e = .returned (.bool v) ∧ Drew w w' := by
  subst hv; exact l4Set_any a n cap f s w hi

theorem meetB_at {n : Nat} {f : Nat → Int} {k : Nat} (hw : worldB n f = true) (hk : k < n) : meetB n f k = meetI n f k := by
  unfold meetB; rw [if_pos ((good1_iff n f k).2 ⟨hw, by omega, by omega⟩), Int.toNat_natCast]
theorem wholesB_at {n : Nat} {f : Nat → Int} {k : Nat} (hw : worldB n f = true) (hk : k < n) : wholesB n f k = wholesI n f k := by
  unfold wholesB; rw [if_pos ((good1_iff n f k).2 ⟨hw, by omega, by omega⟩), Int.toNat_natCast]

theorem specMeet_at (a : Option Addr) (n cap : Nat) (f : Nat → Int) (k : Nat) (w : World) (hw : worldB n f = true) (hk : k < n) (hi : Ints w a n f) :
    Calls Tryz.prog 125 #[.slice a n cap, .int .i64 k] w fun e w' => e = .returned (.int .i64 (meetI n f k)) ∧ Drew w w' := by
  rw [← meetB_at hw hk]; exact specMeetingSet_any a n cap f k w hi

set_option maxHeartbeats 1600000 in
theorem l4Met_any (a : Option Addr) (n cap : Nat) (f : Nat → Int) (s : Int) (w : World) (hs : setB n f s = true) (hi : Ints w a n f) :
    Calls Tryz.prog 126 #[.slice a n cap, .int .i64 s] w fun e w' => e = .returned (.int .i64 (metI n f s)) ∧ Drew w w' := by
  obtain ⟨hw, hs1, hs2⟩ := setB_iff.1 hs
  have h7 := (worldB_7 hw).2
  have hs0 : 0 ≤ s := by omega
  have HW := Lib.hid hw; have HN := Lib.hid hi; clear hw hi hs hs1 hs2
  go_enter Tryz.func126, Tryz.ntmps126
  go_wp2_with fail
  go_loopw [5, 6] (fun v i wr => ∃ k : Nat, k ≤ n ∧ i = .int .i64 k ∧ v = .int .i64 (metK n f s k) ∧ Drew w wr) (fun _ i _ => n - (intOf i).toNat)
  case atStart => exact ⟨0, Nat.zero_le _, rfl, rfl, Drew.refl _⟩
  case round =>
    obtain ⟨k, hk, rfl, rfl, hd⟩ := hrel
    by_cases hlt : k < n
    · have hki : (k : Int) < (n : Int) := by omega
      have hk63 : k ≤ 63 := by omega
      cases hb : hasB s k with
      | true =>
        have HS := Lib.hid (metK_yes (n := n) (f := f) hb); have HB := Lib.hid hb; clear hb
        go_wp2_with fail
        refine (l1Has_val s k true _ HB.out hk63 hs0).mono ?_
        rintro e w1 ⟨rfl, rfl⟩
        go_wp2_with fail
        refine (specMeet_at a n _ f k _ HW.out hlt (HN.out.drew hd)).mono ?_
        rintro e w1 ⟨rfl, m1, rfl⟩
        go_wp2_with fail
        go_roundw
        case rel => exact ⟨k + 1, by omega, by go_num, by rw [HS.out], hd.more m1⟩
        case measure => simp [intOf]; omega
      | false =>
        have HS := Lib.hid (metK_no (n := n) (f := f) hb); have HB := Lib.hid hb; clear hb
        go_wp2_with fail
        refine (l1Has_val s k false _ HB.out hk63 hs0).mono ?_
        rintro e w1 ⟨rfl, rfl⟩
        go_wp2_with fail
        go_roundw
        case rel => exact ⟨k + 1, by omega, by go_num, by rw [HS.out], hd⟩
        case measure => simp [intOf]; omega
    · have hkn : k = n := by omega
      subst hkn
      go_wp2_with fail
      go_ret
      exact ⟨rfl, hd⟩

set_option maxHeartbeats 1600000 in
theorem specSumsOf_in (b o n cap : Nat) (f : Nat → Int) (s : Int) (w : World) (hs : setB n f s = true) (hi : Ints w (some ⟨b, o, none⟩) n f) (hr : Row w b o n f) :
    Calls Tryz.prog 80 #[.slice (some ⟨b, o, none⟩) n cap, .int .i64 s] w fun e w' => e = .returned (.int .i64 (sumsI n f s)) ∧ Drew w w' := by
  obtain ⟨hw, hs1, hs2⟩ := setB_iff.1 hs
  have h7 := (worldB_7 hw).2
  have HW := Lib.hid hw; have HN := Lib.hid hi; have HS := Lib.hid hs; have HR := Lib.hid hr; clear hw hi hs hs1 hs2 hr
  have h64 := Lib.hid HN.out.i64
  go_enter Tryz.func80, Tryz.ntmps80
  go_wp2_with fail
  refine (l4Set_val _ n _ f s true _ HS.out HN.out).mono ?_
  rintro e w0 ⟨rfl, m0, rfl⟩
  go_wp2_with fail
  go_loopw [5, 6] (fun v i wr => ∃ k : Nat, k ≤ n ∧ i = .int .i64 k ∧ v = .int .i64 (setOf (sumG n f s) k) ∧ Drew w wr) (fun _ i _ => n - (intOf i).toNat)
  case atStart => exact ⟨0, Nat.zero_le _, rfl, rfl, _, rfl⟩
  case round =>
    obtain ⟨k, hk, rfl, rfl, hd⟩ := hrel
    by_cases hlt : k < n
    · have hki : (k : Int) < (n : Int) := by omega
      have ⟨hp1, hp2⟩ := pow_bounds k (by omega)

      cases hg : (sumG n f s) k with
      | true =>
        have HG := Lib.hid (setOf_yes (sumG n f s) k hg)
        have he : (meetI n f k == metI n f s) = true := hg
        clear hg
        go_wp2_with fail
        refine (specMeet_at _ n _ f k _ HW.out hlt (HN.out.drew hd)).mono ?_
        rintro e w1 ⟨rfl, hd1⟩
        replace hd := hd.onto hd1
        go_wp2_with fail
        refine (l4Met_any _ n _ f s _ HS.out (HN.out.drew hd)).mono ?_
        rintro e w2 ⟨rfl, hd2⟩
        replace hd := hd.onto hd2
        go_wp2_with fail
        go_roundw
        case rel => exact ⟨k + 1, by omega, by go_num, by rw [HG.out], hd⟩
        case measure => simp [intOf]; omega
      | false =>
        have HG := Lib.hid (setOf_no (sumG n f s) k hg)
        have he : (meetI n f k == metI n f s) = false := hg
        clear hg
        go_wp2_with fail
        refine (specMeet_at _ n _ f k _ HW.out hlt (HN.out.drew hd)).mono ?_
        rintro e w1 ⟨rfl, hd1⟩
        replace hd := hd.onto hd1
        go_wp2_with fail
        refine (l4Met_any _ n _ f s _ HS.out (HN.out.drew hd)).mono ?_
        rintro e w2 ⟨rfl, hd2⟩
        replace hd := hd.onto hd2
        go_wp2_with fail
        go_roundw
        case rel => exact ⟨k + 1, by omega, by go_num, by rw [HG.out], hd⟩
        case measure => simp [intOf]; omega
    · have hkn : k = n := by omega
      subst hkn
      go_wp2_with fail
      go_ret
      exact ⟨rfl, hd⟩

set_option maxHeartbeats 800000 in
theorem specSumsOf_any (a : Option Addr) (n cap : Nat) (f : Nat → Int) (s : Int) (w : World) (hi : Ints w a n f) :
    Calls Tryz.prog 80 #[.slice a n cap, .int .i64 s] w fun e w' => e = .returned (.int .i64 (sumsB n f s)) ∧ Drew w w' := by
  cases hs : setB n f s with
  | true =>
    obtain ⟨b, o, rfl, hlt, hr⟩ := hi.row (worldB_7 (setB_iff.1 hs).1).1
    have e : sumsB n f s = sumsI n f s := by unfold sumsB; rw [if_pos hs]
    rw [e]
    exact specSumsOf_in b o n cap f s w hs hi hr
  | false =>
    have HF := Lib.hid (show sumsB n f s = -1 by unfold sumsB; rw [if_neg (by rw [hs]; decide)])
    have HN := Lib.hid hi; have HS := Lib.hid hs; clear hi hs
    go_enter Tryz.func80, Tryz.ntmps80
    go_wp2_with fail
    refine (l4Set_val _ n _ f s false _ HS.out HN.out).mono ?_
    rintro e w0 ⟨rfl, m0, rfl⟩
    go_wp2_with fail
    go_ret
    exact ⟨reti HF.out.symm, _, rfl⟩

end Go.Proofs.YthaickihoagnmaaGreatDoor

namespace Go.Proofs.YthaickihoagnmaaGreatDoor
open Go.RowKit

theorem within_val (x y : Int) (v : Bool) (w : World) (hv : withinB x y = v) :
    Calls Tryz.prog 174 #[.int .i64 x, .int .i64 y] w fun e w' => e = .returned (.bool v) ∧ w = w' := by
  subst hv; exact within_any x y w
theorem has_val (x : Int) (a : Nat) (v : Bool) (w : World) (hv : hasB x a = v) (ha : a ≤ 63) :
    Calls Tryz.prog 177 #[.int .i64 x, .int .i64 a] w fun e w' => e = .returned (.bool v) ∧ w = w' := by
  subst hv; exact has_any x a ha w

/-- what worldWithSet hands back -/
def SetEnd (n : Nat) (f : Nat → Int) (s : Int) (w : World) (e : Ending) (w' : World) : Prop :=
  Below w.heap.size w w' ∧ ((setB n f s = true ∧ e = .returned (.tuple #[.slice (some ⟨w.heap.size, 0, none⟩) n n, .int .i64 s, .bool true]) ∧ w.heap.size < w'.heap.size ∧ Row w' w.heap.size 0 n f)
    ∨ (setB n f s = false ∧ e = .returned (.tuple #[.slice none 0 0, .int .i64 0, .bool false])))

set_option maxHeartbeats 1600000 in
theorem worldWithSet_any (a : Option Addr) (n cap : Nat) (f : Nat → Int) (s : Int) (hs64 : I64 s) (w : World) (hi : Ints w a n f) :
    Calls Tryz.prog 192 #[.slice a n cap, .int .i64 s] w (SetEnd n f s w) := by
  have he := setB_eq (n := n) (f := f) hs64
  have HN := Lib.hid hi; clear hi
  cases h0 : (s == 0) with
  | true =>
    have HF := Lib.hid (show setB n f s = false by rw [he, h0]; simp)
    clear he
    go_enter Tryz.func192, Tryz.ntmps192
    go_wp2_with fail
    refine (worldOf_end a n cap f w HN.out).mono ?_
    rintro e w' ⟨hbel, ⟨hb, rfl, hs, hr⟩ | ⟨hb, rfl⟩⟩
    · clear hb hr
      go_wp2_with fail
      go_ret3
      exact ⟨hbel, .inr ⟨HF.out, rfl⟩⟩
    · clear hb
      go_wp2_with fail
      go_ret3
      exact ⟨hbel, .inr ⟨HF.out, rfl⟩⟩
  | false =>
    cases hx : withinB s (2 ^ n - 1) with
    | true =>
      have HF := Lib.hid (show setB n f s = worldB n f by rw [he, h0, hx]; simp)
      have HX := Lib.hid hx
      clear he hx
      go_enter Tryz.func192, Tryz.ntmps192
      go_wp2_with fail
      refine (worldOf_end a n cap f w HN.out).mono ?_
      rintro e w' ⟨hbel, ⟨hb, rfl, hs, hr⟩ | ⟨hb, rfl⟩⟩
      · have hfin := Lib.hid (HF.out.trans hb)
        have h7 := (worldB_7 hb).2
        have HR := Lib.hid hr
        clear hb hr
        go_wp2_with fail
        refine (all_any _ _ _ h7 _).mono ?_
        rintro e w2 ⟨rfl, rfl⟩
        go_wp2_with fail
        refine (within_val s (2 ^ n - 1) true _ HX.out).mono ?_
        rintro e w2 ⟨rfl, rfl⟩
        go_wp2_with fail
        go_ret3
        exact ⟨hbel, .inl ⟨hfin.out, rfl, hs, HR.out⟩⟩
      · have hfin := Lib.hid (HF.out.trans hb)
        clear hb
        go_wp2_with fail
        go_ret3
        exact ⟨hbel, .inr ⟨hfin.out, rfl⟩⟩
    | false =>
      have HF := Lib.hid (show setB n f s = false by rw [he, h0, hx]; simp)
      have HX := Lib.hid hx
      clear he hx
      go_enter Tryz.func192, Tryz.ntmps192
      go_wp2_with fail
      refine (worldOf_end a n cap f w HN.out).mono ?_
      rintro e w' ⟨hbel, ⟨hb, rfl, hs, hr⟩ | ⟨hb, rfl⟩⟩
      · have h7 := (worldB_7 hb).2
        clear hb hr
        go_wp2_with fail
        refine (all_any _ _ _ h7 _).mono ?_
        rintro e w2 ⟨rfl, rfl⟩
        go_wp2_with fail
        refine (within_val s (2 ^ n - 1) false _ HX.out).mono ?_
        rintro e w2 ⟨rfl, rfl⟩
        go_wp2_with fail
        go_ret3
        exact ⟨hbel, .inr ⟨HF.out, rfl⟩⟩
      · clear hb
        go_wp2_with fail
        go_ret3
        exact ⟨hbel, .inr ⟨HF.out, rfl⟩⟩

set_option maxHeartbeats 1600000 in
theorem met_any (bk n cap : Nat) (f : Nat → Int) (s : Int) (hn : n ≤ 7) (w : World) (hr : Row w bk 0 n f) (hlt : bk < w.heap.size) :
    Calls Tryz.prog 221 #[.slice (some ⟨bk, 0, none⟩) n cap, .int .i64 s] w fun e w' => e = .returned (.int .i64 (metI n f s)) ∧ Below w.heap.size w w' := by
  have HR := Lib.hid hr; clear hr
  go_enter Tryz.func221, Tryz.ntmps221
  go_wp2_with fail
  go_loopw [5, 9] (fun v i wr => ∃ k : Nat, k ≤ n ∧ i = .int .i64 k ∧ v = .int .i64 (metK n f s k) ∧ Below w.heap.size w wr) (fun _ i _ => n - (intOf i).toNat)
  case atStart => exact ⟨0, Nat.zero_le _, rfl, rfl, Below.refl _ _⟩
  case round =>
    obtain ⟨k, hk, rfl, rfl, hd⟩ := hrel
    by_cases hk2 : k < n
    · have hki : (k : Int) < (n : Int) := by omega
      have hk63 : k ≤ 63 := by omega
      cases hb : hasB s k with
      | true =>
        have HS := Lib.hid (metK_yes (n := n) (f := f) hb); have HB := Lib.hid hb; clear hb
        go_wp2_with fail
        refine (has_val s k true _ HB.out hk63).mono ?_
        rintro e w1 ⟨rfl, rfl⟩
        go_wp2_with fail
        refine (meeting_any bk n cap k f hn hk2 _ (HR.out.below hd hlt) (Nat.lt_of_lt_of_le hlt hd.size)).mono ?_
        rintro e w1 ⟨rfl, hb1⟩
        replace hd := hd.trans (hb1.mono hd.size)
        clear hb1
        go_wp2_with fail
        go_roundw
        case rel => exact ⟨k + 1, by omega, by go_num, by rw [HS.out], hd⟩
        case measure => simp [intOf]; omega
      | false =>
        have HS := Lib.hid (metK_no (n := n) (f := f) hb); have HB := Lib.hid hb; clear hb
        go_wp2_with fail
        refine (has_val s k false _ HB.out hk63).mono ?_
        rintro e w1 ⟨rfl, rfl⟩
        go_wp2_with fail
        go_roundw
        case rel => exact ⟨k + 1, by omega, by go_num, by rw [HS.out], hd⟩
        case measure => simp [intOf]; omega
    · have hkn : k = n := by omega
      subst hkn
      go_wp2_with fail
      go_ret
      exact ⟨rfl, hd⟩

end Go.Proofs.YthaickihoagnmaaGreatDoor

namespace Go.Proofs.YthaickihoagnmaaGreatDoor
open Go.RowKit Go.Shelf
attribute [local go_sem] Oper.semAt_some

/-- a number of a thing -/
abbrev Th := { x : Nat // x < 7 }
/-- what has come: the sums below k -/
def Came (g : Nat → Bool) (k : Nat) (xs : List Th) : Prop := xs.map (fun x => x.1) = (List.range k).filter g

theorem Came.none (g : Nat → Bool) : Came g 0 [] := rfl
theorem Came.yes {g : Nat → Bool} {k : Nat} {xs : List Th} (h : Came g k xs) (hk : k < 7) (hg : g k = true) : Came g (k + 1) (xs ++ [⟨k, hk⟩]) := by
  unfold Came at h ⊢
  rw [List.map_append, h, List.range_succ, List.filter_append]
  simp [hg]
theorem Came.no {g : Nat → Bool} {k : Nat} {xs : List Th} (h : Came g k xs) (hg : g k = false) : Came g (k + 1) xs := by
  unfold Came at h ⊢
  rw [h, List.range_succ, List.filter_append]
  simp [hg]
theorem Came.len {g : Nat → Bool} {k : Nat} {xs : List Th} (h : Came g k xs) : xs.length ≤ k := by
  unfold Came at h
  have h1 : xs.length = ((List.range k).filter g).length := by rw [← h, List.length_map]
  have h2 := List.length_filter_le g (List.range k)
  rw [List.length_range] at h2
  omega

theorem grown_of_below {W W' : World} (h : Below W.heap.size W W') : W.grownBy W' none :=
  ⟨h.os, h.tape, h.output, h.size, fun k hk _ => h.block k hk⟩

/-- what a round keeps: what lies below n₀, and the iterator's own variable -/
def Kept (n₀ Bp : Nat) (W W' : World) : Prop := Below n₀ W W' ∧ W'.cell? ⟨Bp, 0, none⟩ = W.cell? ⟨Bp, 0, none⟩
theorem Kept.of {n₀ Bp : Nat} {W W' : World} (h : Below W.heap.size W W') (hn : n₀ ≤ W.heap.size) (hB : Bp < W.heap.size) : Kept n₀ Bp W W' := ⟨h.mono hn, h.cell (p := ⟨Bp, 0, none⟩) hB⟩
theorem Kept.on {n₀ Bp : Nat} {A B C : World} (h : Kept n₀ Bp A B) (k : Kept n₀ Bp B C) : Kept n₀ Bp A C := ⟨h.1.trans k.1, k.2.trans h.2⟩
theorem kept_b {n₀ Bp : Nat} {w : World} (hn : n₀ ≤ w.heap.size) (hB : Bp < w.heap.size) (W : World) (l : Nat) (o o' : Obj) (hl : w.heap.size ≤ l) (h : W.heap[l]? = some o) (h1 : o.isCells = false) (h2 : o.isWalk = false) : Kept n₀ Bp W (W.putObj l o') :=
  ⟨belowK_b hn W l o o' hl h h1 h2, (belowK_b (n₀ := w.heap.size) (Nat.le_refl _) W l o o' hl h h1 h2).cell (p := ⟨Bp, 0, none⟩) hB⟩

theorem sums_any (v : Option Addr) (n cap : Nat) (s : Int) (w : World) :
    Calls Tryz.prog 193 #[.slice v n cap, .int .i64 s] w fun e w' => e = .returned (.func (.func 220) #[] #[.pointer (some ⟨w.heap.size, 0, none⟩), .pointer (some ⟨w.heap.size + 1, 0, none⟩)]) ∧
      w' = (w.alloc (.cells #[.slice v n cap] 136)).alloc (.cells #[.int .i64 s] 153) := by
  go_enter Tryz.func193, Tryz.ntmps193
  go_wp2_with fail
  go_ret
  exact ⟨rfl, rfl⟩

set_option maxRecDepth 100000 in
set_option maxHeartbeats 4000000 in
/-- the iterator: it yields the sums in their order -/
theorem sumsC_in (N l Bp Bq n₀ bk n cap : Nat) (f : Nat → Int) (s : Int) (hn : n ≤ 7) (hbk : bk < n₀) (J Jx : List Th → World → Prop) (W : World) (hn₀ : n₀ ≤ W.heap.size) (hBp : Bp < W.heap.size) (hJ : AbidesFrom W.heap.size J)
    (hY : ∀ pre x W, J pre W → pre.length < n → YieldAt Fence.wide (N - 1) Tryz.prog l #[.int .i64 (x.1 : Int)] W fun e W' =>
      (e = .returned (.bool true) ∧ J (pre ++ [x]) W' ∧ Kept n₀ Bp W W') ∨ (e = .returned (.bool false) ∧ Jx (pre ++ [x]) W'))
    (hr : Row W bk 0 n f) (hp : W.cell? ⟨Bp, 0, none⟩ = some (.slice (some ⟨bk, 0, none⟩) n cap)) (hq : W.cell? ⟨Bq, 0, none⟩ = some (.int .i64 s)) (h0 : J [] W) :
    CallsIn Fence.wide N Tryz.prog 220 #[.func (.yield l) #[] #[], .pointer (some ⟨Bp, 0, none⟩), .pointer (some ⟨Bq, 0, none⟩)] W fun e W' => (∃ v, e = .returned v) ∧
      ((∃ xs, Came (sumG n f s) n xs ∧ J xs W') ∨ (∃ pre, (∃ k, k < n ∧ sumG n f s k = true) ∧ Jx pre W')) := by
  have hlt : bk < W.heap.size := by omega
  have HP := Lib.hid hp; have HR := Lib.hid hr; have HJ := Lib.hid hJ; have HY := Lib.hid hY; clear hr hJ hY
  refine callsIn_of_wp Tryz.func220 rfl trivial ?_ rfl
  simp only [Tryz.ntmps220, List.size_toArray, List.length_cons, List.length_nil, Nat.reduceAdd, Nat.reduceSub, Array.replicate_succ, Array.replicate_zero, List.push_toArray, List.append_toArray, List.nil_append, List.cons_append]
  gi_wp2_with fail
  refine ⟨trivial, (fun h => by cases h), (callsIn_wide.2 (met_any bk n cap f s hn _ HR.out hlt)).mono ?_⟩
  rintro e w1 ⟨rfl, hb1⟩
  have hp1 : w1.cell? ⟨Bp, 0, none⟩ = some (.slice (some ⟨bk, 0, none⟩) n cap) := (hb1.cell (p := ⟨Bp, 0, none⟩) hBp).trans hp
  have H1 := Lib.hid (HJ.out [] _ _ none h0 (grown_of_below hb1) (fun r e => by cases e))
  have HB1 := Lib.hid (Kept.of hb1 hn₀ hBp)
  clear hb1 h0 hq
  gi_wp2_with fail
  gi_loopw [11] (fun i wr => ∃ k : Nat, k ≤ n ∧ i = .int .i64 k ∧ (∃ xs, Hid (Came (sumG n f s) k xs) ∧ Hid (J xs wr)) ∧ Hid (Kept n₀ Bp W wr)) (fun i _ => n - (intOf i).toNat)
  case atStart => exact ⟨0, Nat.zero_le _, rfl, ⟨[], Lib.hid (Came.none _), H1⟩, HB1⟩
  case round =>
    obtain ⟨k, hk, rfl, ⟨xs, hxs, hJx⟩, hB⟩ := hrel
    clear hp hp1
    have hp : wr.cell? ⟨Bp, 0, none⟩ = some (.slice (some ⟨bk, 0, none⟩) n cap) := hB.out.2.trans HP.out
    by_cases hk2 : k < n
    · have hki : (k : Int) < (n : Int) := by omega
      have hk7 : k < 7 := by omega
      have hszr : W.heap.size ≤ wr.heap.size := hB.out.1.size
      gi_wp2_with fail
      refine ⟨trivial, (fun h => by cases h), (callsIn_wide.2 (meeting_any bk n cap k f hn hk2 _ (HR.out.below hB.out.1 hbk) (by omega))).mono ?_⟩
      rintro e w2 ⟨rfl, hb2⟩
      replace hJx := Lib.hid (HJ.out xs _ _ none hJx.out (grown_of_below hb2) (fun r e => by cases e))
      replace hB := Lib.hid (hB.out.on (Kept.of hb2 (by omega) (by omega)))
      clear hb2 hszr hp
      cases hg : sumG n f s k with
      | true =>
        have he : (meetI n f k == metI n f s) = true := hg
        have HG := Lib.hid hg; clear hg
        obtain ⟨fn, tmps, assign, body, hy, hR⟩ := HY.out xs ⟨k, hk7⟩ w2 hJx.out (by have := hxs.out.len; omega)
        dsimp only at hy
        gi_wp2_with fail
        refine ⟨(fun h => by cases h), hR.mono ?_⟩
        rintro e W3 (⟨rfl, hJ3, hk3⟩ | ⟨rfl, hJx3⟩)
        · replace hJ3 := Lib.hid hJ3
          replace hB := Lib.hid (hB.out.on hk3)
          clear hk3 hy hR
          gi_wp2_with fail
          go_roundw
          case rel => exact ⟨k + 1, by omega, by go_num, ⟨_, Lib.hid (hxs.out.yes hk7 HG.out), hJ3⟩, hB⟩
          case measure => simp [intOf]; omega
        · replace hJx3 := Lib.hid hJx3
          clear hy hR
          gi_wp2_with fail
          refine bodyPost_ret (results_none rfl _ _ _) rfl ?_
          exact ⟨⟨_, rfl⟩, .inr ⟨_, ⟨k, hk2, HG.out⟩, hJx3.out⟩⟩
      | false =>
        have he : (meetI n f k == metI n f s) = false := hg
        have HG := Lib.hid hg; clear hg
        gi_wp2_with fail
        refine ⟨fun _ h => (by cases h), ?_⟩
        gi_wp2_with fail
        go_roundw
        case rel => exact ⟨k + 1, by omega, by go_num, ⟨xs, Lib.hid (hxs.out.no HG.out), hJx⟩, hB⟩
        case measure => simp [intOf]; omega
    · have hkn : k = n := by omega
      subst hkn
      gi_wp2_with fail
      go_end0
      exact ⟨⟨_, rfl⟩, .inl ⟨xs, hxs.out, hJx.out⟩⟩

theorem sumsC_stops (N Bp Bq n₀ bk n cap : Nat) (f : Nat → Int) (s : Int) (hn : n ≤ 7) (hbk : bk < n₀) (w : World) (hn₀ : n₀ ≤ w.heap.size) (hBp : Bp < w.heap.size)
    (hr : Row w bk 0 n f) (hBq : Bq < w.heap.size) (hp : w.cell? ⟨Bp, 0, none⟩ = some (.slice (some ⟨bk, 0, none⟩) n cap)) (hq : w.cell? ⟨Bq, 0, none⟩ = some (.int .i64 s)) :
    SeqStopsK Fence.wide N Tryz.prog 220 #[.pointer (some ⟨Bp, 0, none⟩), .pointer (some ⟨Bq, 0, none⟩)] (fun x : Th => #[Value.int .i64 (x.1 : Int)]) (Kept n₀ Bp)
      (Came (sumG n f s) n) (fun _ => ∃ k, k < n ∧ sumG n f s k = true) n w := fun l J Jx W hW hJ _ hY h0 =>
  sumsC_in N l Bp Bq n₀ bk n cap f s hn hbk J Jx W (Nat.le_trans hn₀ hW.size) (Nat.lt_of_lt_of_le hBp hW.size) hJ hY (hr.below hW (by omega)) ((hW.cell (p := ⟨Bp, 0, none⟩) hBp).trans hp) ((hW.cell (p := ⟨Bq, 0, none⟩) hBq).trans hq) h0
end Go.Proofs.YthaickihoagnmaaGreatDoor

namespace Go.Proofs.YthaickihoagnmaaGreatDoor
open Go.RowKit Go.Shelf
attribute [local go_sem] Oper.semAt_some

/-- what has come, put together -/
def orAll (xs : List Th) : Int := (xs.map (fun x => x.1)).foldl (fun v a => bits .or .i64 v (2 ^ a)) 0
theorem orAll_snoc (xs : List Th) (x : Th) : orAll (xs ++ [x]) = bits .or .i64 (orAll xs) (2 ^ x.1) := by
  unfold orAll; rw [List.map_append, List.foldl_append]; rfl
theorem orAll_range (g : Nat → Bool) (k : Nat) : ((List.range k).filter g).foldl (fun v a => bits .or .i64 v (2 ^ a)) 0 = setOf g k := by
  induction k with
  | zero => rfl
  | succ k ih =>
    rw [List.range_succ, List.filter_append, List.foldl_append, ih]
    cases h : g k with
    | true => rw [setOf_yes g k h]; simp [h]
    | false => rw [setOf_no g k h]; simp [h]
theorem orAll_came {g : Nat → Bool} {k : Nat} {xs : List Th} (h : Came g k xs) : orAll xs = setOf g k := by
  unfold Came at h; unfold orAll; rw [h, orAll_range]

set_option maxRecDepth 100000 in
set_option maxHeartbeats 4000000 in
theorem SumsOf_in (a : Option Addr) (n cap : Nat) (f : Nat → Int) (s : Int) (hs64 : I64 s) (w : World) (hi : Ints w a n f) (hs : setB n f s = true) :
    Calls Tryz.prog 167 #[.slice a n cap, .int .i64 s] w fun e w' => e = .returned (.int .i64 (sumsI n f s)) ∧ Below w.heap.size w w' := by
  have h7 := (worldB_7 (setB_iff.1 hs).1).2
  have HN := Lib.hid hi; have HS := Lib.hid hs; clear hi hs
  refine (callsIn_wide (n := 9)).1 ?_
  refine callsIn_of_wp_marks Tryz.func167 rfl trivial ?_ rfl
  simp only [Tryz.ntmps167, List.size_toArray, List.length_cons, List.length_nil, Nat.reduceAdd, Nat.reduceSub, Array.replicate_succ, Array.replicate_zero, List.push_toArray, List.append_toArray, List.nil_append, List.cons_append]
  gi_wp2_with fail
  refine ⟨trivial, (callsIn_wide.2 (worldWithSet_any a n cap f s hs64 w HN.out)).mono ?_⟩
  rintro e w1 ⟨hbel, ⟨hb, rfl, hlt, hr⟩ | ⟨hb, rfl⟩⟩
  · have HR := Lib.hid hr; clear hb hr
    gi_wp2_with fail
    refine ⟨trivial, (callsIn_wide.2 (sums_any _ n n s _)).mono ?_⟩
    rintro e w2 ⟨rfl, rfl⟩
    gi_wp2_with fail
    have bF := Boxed.new w1 153 (.int .i64 0)
    have bP := Boxed.new (w1.alloc (.cells #[.int .i64 0] 153)) 136 (.slice (some ⟨w.heap.size, 0, none⟩) n n)
    have bQ := Boxed.new ((w1.alloc (.cells #[.int .i64 0] 153)).alloc (.cells #[.slice (some ⟨w.heap.size, 0, none⟩) n n] 136)) 153 (.int .i64 s)
    replace bF := (bF.alloc (.cells #[.slice (some ⟨w.heap.size, 0, none⟩) n n] 136)).alloc (.cells #[.int .i64 s] 153)
    replace bP := bP.alloc (.cells #[.int .i64 s] 153)
    have hB0 : Below w1.heap.size w1 (((w1.alloc (.cells #[.int .i64 0] 153)).alloc (.cells #[.slice (some ⟨w.heap.size, 0, none⟩) n n] 136)).alloc (.cells #[.int .i64 s] 153)) :=
      (((Below.refl _ w1).alloc (Nat.le_refl _) _).alloc (by simp) _).alloc (by simp; omega) _
    simp only [World.size_alloc] at bP bQ
    refine wpIn_rangeFunc_ownF rfl (by omega) (gf := 220) (lb := #[.pointer (some ⟨w1.heap.size + 1, 0, none⟩), .pointer (some ⟨w1.heap.size + 1 + 1, 0, none⟩)]) rfl trivial (enters_of Tryz.func220 (by kernel_rfl) rfl)
      (sumsC_stops _ (w1.heap.size + 1) (w1.heap.size + 1 + 1) w1.heap.size w.heap.size n n f s h7 hlt _ (by simp; omega) (by simp) (HR.out.below hB0 hlt) (by simp) bP.cell bQ.cell)
      (fun h k => Kept.on h k) (kept_b (by simp; omega) (by simp)) (Below.refl _ _) (fun _ => rfl)
      (fun pre W => (W.cell? ⟨w1.heap.size, 0, none⟩ = some (.int .i64 (orAll pre)) ∧ W.frozen? ⟨w1.heap.size, 0, none⟩ = false) ∧ Below w1.heap.size w1 W)
      (fun _ _ _ => False)
      (OwnFrom.and (Own.from (fun s A B row hs hg hr => ⟨cell_kept hs.1 hg hr, (frozen_kept hs.1 hg hr).trans hs.2⟩) _) (ownFrom_below (Nat.le_refl _) (by simp; omega)))
      (fun _ _ _ _ _ hs _ _ => hs)
      ⟨⟨bF.cell, bF.frozen⟩, hB0⟩
      (fun x => { tmps := #[.slice a n cap, .int .i64 s, undef, undef, .int .i64 0, .slice (some ⟨w.heap.size, 0, none⟩) n n, .int .i64 s, .bool true, .pointer (some ⟨w1.heap.size, 0, none⟩), .int .i64 (x.1 : Int),
          .tuple #[.slice (some ⟨w.heap.size, 0, none⟩) n n, .int .i64 s, .bool true], .slice a n cap, .int .i64 s, .tuple #[.slice (some ⟨w.heap.size, 0, none⟩) n n, .int .i64 s, .bool true],
          .slice (some ⟨w.heap.size, 0, none⟩) n n, .int .i64 s, .bool true, .bool true, .bool false, .slice (some ⟨w.heap.size, 0, none⟩) n n, .int .i64 s,
          .func (.func 220) #[] #[.pointer (some ⟨w1.heap.size + 1, 0, none⟩), .pointer (some ⟨w1.heap.size + 1 + 1, 0, none⟩)], .int .i64 (x.1 : Int), undef, undef, undef, undef, undef], defers := [] }) ?assign ?body ?done ?stop
    case assign =>
      intro l x W K hK
      gi_wp2_with fail
      exact hK
    case body =>
      rintro l pre x W ⟨⟨hc, hf⟩, hB⟩ _
      have hmx : Tryz.prog.follows .mixedOrders = true := by kernel_rfl
      have hx7 := x.2
      have ⟨hp1, hp2⟩ := pow_bounds x.1 (by omega)
      have hwr : IntKind.i64.wrap (2 ^ x.1) = 2 ^ x.1 := wrap_in _ (by unfold I64; omega)
      gi_wp2_with fail
      gi_region_with_o (fail)
      all_goals gi_wp2_with fail
      all_goals
        exact ⟨(KeepsOthers.setCell _ _ _).trans (KeepsOthers.drew _),
          ⟨((Below.refl w1.heap.size W).setCell (p := ⟨w1.heap.size, 0, none⟩) (Nat.le_refl _) _).drew, by rw [World.cell?_drew]; exact World.cell?_setCell_other _ _ _ _ (by simp)⟩,
          ⟨by rw [orAll_snoc, World.cell?_drew]; exact World.cell?_setCell_same' _ _ _ (by rw [hc]; rfl), by rw [frozen_drew_own, World.frozen?_setCell]; exact hf⟩,
          (hB.setCell (p := ⟨w1.heap.size, 0, none⟩) (Nat.le_refl _) _).drew⟩
    case done =>
      rintro D ys W hD hys ⟨⟨hc, _⟩, hB⟩ hK
      gi_wp2_with fail
      refine ⟨by simp, .inl ⟨_, _, rfl, run_takeDeferred hK, ?_⟩⟩
      exact ⟨_, results_tmp rfl _ _ _, by rw [orAll_came hys]; rfl, below_to hbel (hB.trans (belowK_b (w := w1) (Nat.le_refl _) W D _ _ (by simp at hD; omega) hK rfl rfl))⟩
    case stop =>
      rintro D c pre W _ _ h _
      exact h.elim
  · rw [HS.out] at hb; cases hb

set_option maxHeartbeats 800000 in
theorem SumsOf_any (a : Option Addr) (n cap : Nat) (f : Nat → Int) (s : Int) (hs64 : I64 s) (w : World) (hi : Ints w a n f) :
    Calls Tryz.prog 167 #[.slice a n cap, .int .i64 s] w fun e w' => e = .returned (.int .i64 (sumsB n f s)) ∧ Below w.heap.size w w' := by
  cases hs : setB n f s with
  | true =>
    have e : sumsB n f s = sumsI n f s := by unfold sumsB; rw [if_pos hs]
    rw [e]
    exact SumsOf_in a n cap f s hs64 w hi hs
  | false =>
    have HN := Lib.hid hi; clear hi
    have HF := Lib.hid (show sumsB n f s = -1 by unfold sumsB; rw [if_neg (by rw [hs]; decide)])
    have HS := Lib.hid hs; clear hs
    go_enter Tryz.func167, Tryz.ntmps167
    go_wp2_with fail
    refine (worldWithSet_any a n cap f s hs64 w HN.out).mono ?_
    rintro e w' ⟨hbel, ⟨hb, rfl, hlt, hr⟩ | ⟨hb, rfl⟩⟩
    · rw [HS.out] at hb; cases hb
    · clear hb
      go_wp2_with fail
      go_ret
      exact ⟨reti HF.out.symm, hbel⟩

theorem SumsOf_val (a : Option Addr) (n cap : Nat) (f : Nat → Int) (s : Int) (v : Int) (hs64 : I64 s) (w : World) (hv : sumsB n f s = v) (hi : Ints w a n f) :
    Calls Tryz.prog 167 #[.slice a n cap, .int .i64 s] w fun e w' => e = .returned (.int .i64 v) ∧ Below w.heap.size w w' := by
  subst hv; exact SumsOf_any a n cap f s hs64 w hi
set_option maxRecDepth 100000 in
set_option maxHeartbeats 4000000 in
theorem hasSum_any (bk n cap : Nat) (f : Nat → Int) (s : Int) (h7 : n ≤ 7) (w : World) (hr : Row w bk 0 n f) (hlt : bk < w.heap.size) :
    Calls Tryz.prog 211 #[.slice (some ⟨bk, 0, none⟩) n cap, .int .i64 s] w fun e w' => e = .returned (.bool (hasSumB n f s)) ∧ Below w.heap.size w w' := by
  have HR := Lib.hid hr; clear hr
  refine (callsIn_wide (n := 9)).1 ?_
  refine callsIn_of_wp_marks Tryz.func211 rfl trivial ?_ rfl
  simp only [Tryz.ntmps211, List.size_toArray, List.length_cons, List.length_nil, Nat.reduceAdd, Nat.reduceSub, Array.replicate_succ, Array.replicate_zero, List.push_toArray, List.append_toArray, List.nil_append, List.cons_append]
  gi_wp2_with fail
  refine ⟨trivial, (callsIn_wide.2 (sums_any _ n cap s _)).mono ?_⟩
  rintro e w2 ⟨rfl, rfl⟩
  gi_wp2_with fail
  have bF := Boxed.new w 4 (.bool false)
  have bP := Boxed.new (w.alloc (.cells #[.bool false] 4)) 136 (.slice (some ⟨bk, 0, none⟩) n cap)
  have bQ := Boxed.new ((w.alloc (.cells #[.bool false] 4)).alloc (.cells #[.slice (some ⟨bk, 0, none⟩) n cap] 136)) 153 (.int .i64 s)
  replace bF := (bF.alloc (.cells #[.slice (some ⟨bk, 0, none⟩) n cap] 136)).alloc (.cells #[.int .i64 s] 153)
  replace bP := bP.alloc (.cells #[.int .i64 s] 153)
  have hB0 : Below w.heap.size w (((w.alloc (.cells #[.bool false] 4)).alloc (.cells #[.slice (some ⟨bk, 0, none⟩) n cap] 136)).alloc (.cells #[.int .i64 s] 153)) :=
    (((Below.refl _ w).alloc (Nat.le_refl _) _).alloc (by simp) _).alloc (by simp; omega) _
  simp only [World.size_alloc] at bP bQ
  refine wpIn_rangeFunc_ownF rfl (by omega) (gf := 220) (lb := #[.pointer (some ⟨w.heap.size + 1, 0, none⟩), .pointer (some ⟨w.heap.size + 1 + 1, 0, none⟩)]) rfl trivial (enters_of Tryz.func220 (by kernel_rfl) rfl)
    (sumsC_stops _ (w.heap.size + 1) (w.heap.size + 1 + 1) w.heap.size bk n cap f s h7 hlt _ (by simp; omega) (by simp) (HR.out.below hB0 hlt) (by simp) bP.cell bQ.cell)
    (fun h k => Kept.on h k) (kept_b (by simp; omega) (by simp)) (Below.refl _ _) (fun _ => rfl)
    (fun pre W => (pre = [] ∧ W.cell? ⟨w.heap.size, 0, none⟩ = some (.bool false) ∧ W.frozen? ⟨w.heap.size, 0, none⟩ = false) ∧ Below w.heap.size w W)
    (fun c pre W => (c = .ret ∧ W.cell? ⟨w.heap.size, 0, none⟩ = some (.bool true)) ∧ Below w.heap.size w W)
    (OwnFrom.and (Own.from (fun s A B row hs hg hr => ⟨hs.1, cell_kept hs.2.1 hg hr, (frozen_kept hs.2.1 hg hr).trans hs.2.2⟩) _) (ownFrom_below (Nat.le_refl _) (by simp; omega)))
    (fun c => OwnFrom.and (Own.from (fun s A B row hs hg hr => ⟨hs.1, cell_kept hs.2 hg hr⟩) _) (ownFrom_below (Nat.le_refl _) (by simp; omega)))
    ⟨⟨rfl, bF.cell, bF.frozen⟩, hB0⟩
    (fun x => { tmps := #[.slice (some ⟨bk, 0, none⟩) n cap, .int .i64 s, undef, undef, .pointer (some ⟨w.heap.size, 0, none⟩), .slice (some ⟨bk, 0, none⟩) n cap, .int .i64 s,
        .func (.func 220) #[] #[.pointer (some ⟨w.heap.size + 1, 0, none⟩), .pointer (some ⟨w.heap.size + 1 + 1, 0, none⟩)], .int .i64 (x.1 : Int)], defers := [] }) ?assign ?body ?done ?stop
  case assign =>
    intro l x W K hK
    gi_wp2_with fail
    simpa using hK
  case body =>
    rintro l pre x W ⟨⟨rfl, hc, hf⟩, hB⟩ _
    gi_wp2_with fail
    exact ⟨KeepsOthers.setCell _ _ _, ⟨rfl, World.cell?_setCell_same' _ _ _ (by rw [hc]; rfl)⟩, hB.setCell (p := ⟨w.heap.size, 0, none⟩) (Nat.le_refl _) _⟩
  case done =>
    rintro D ys W hD hys ⟨⟨rfl, hcr, hfr⟩, hB⟩ hK
    gi_wp2_with fail
    have hK' := (KeepsOthers.setCell W ⟨w.heap.size, 0, none⟩ (.bool false)).same D _ hK rfl
    refine ⟨by simp, .inl ⟨_, _, rfl, run_takeDeferred hK', ?_⟩⟩
    have hc5 := cell_kept (World.cell?_setCell_same' W ⟨w.heap.size, 0, none⟩ (.bool false) (by rw [hcr]; rfl)) (grownBy_putObj' _ D (.deferred none)) (fun r e => by cases e; exact ⟨_, hK', rfl⟩)
    have hfin : hasSumB n f s = false := by
      refine decide_eq_false ?_
      rintro ⟨k, hk, hg⟩
      have : k ∈ (List.range n).filter (sumG n f s) := List.mem_filter.2 ⟨List.mem_range.2 hk, hg⟩
      unfold Came at hys
      rw [← hys] at this
      simp at this
    refine ⟨.bool false, ?_, by rw [hfin], (hB.setCell (p := ⟨w.heap.size, 0, none⟩) (Nat.le_refl _) _).trans (belowK_b (w := w) (Nat.le_refl _) _ D _ _ (by simp at hD; omega) hK' rfl rfl)⟩
    simp [results, Tryz.f211, go_sem, hc5]
  case stop =>
    rintro D c pre W hD ⟨k, hk, hg⟩ ⟨⟨rfl, hcr⟩, hB⟩ hK
    gi_wp2_with fail
    refine ⟨by simp, .inl ⟨_, _, rfl, run_takeDeferred hK, ?_⟩⟩
    have hc5 := cell_kept hcr (grownBy_putObj' _ D (.deferred none)) (fun r e => by cases e; exact ⟨_, hK, rfl⟩)
    refine ⟨.bool true, ?_, by rw [show hasSumB n f s = true from decide_eq_true ⟨k, hk, hg⟩], hB.trans (belowK_b (w := w) (Nat.le_refl _) W D _ _ (by simp at hD; omega) hK rfl rfl)⟩
    simp [results, Tryz.f211, go_sem, hc5]

theorem hasSum_val (bk n cap : Nat) (f : Nat → Int) (s : Int) (v : Bool) (h7 : n ≤ 7) (w : World) (hv : hasSumB n f s = v) (hr : Row w bk 0 n f) (hlt : bk < w.heap.size) :
    Calls Tryz.prog 211 #[.slice (some ⟨bk, 0, none⟩) n cap, .int .i64 s] w fun e w' => e = .returned (.bool v) ∧ Below w.heap.size w w' := by
  subst hv; exact hasSum_any bk n cap f s h7 w hr hlt

theorem summed_no {n : Nat} {f : Nat → Int} {k : Nat} (h1 : 1 ≤ k) (hk : k < 2 ^ n) (h : hasSumB n f k = false) : decide (∀ s : Nat, s < 2 ^ n → 1 ≤ s → hasSumB n f s = true) = false :=
  decide_eq_false (fun e => by have := e k hk h1; rw [h] at this; cases this)

set_option maxHeartbeats 1600000 in
theorem summed_any (bk n cap : Nat) (f : Nat → Int) (h7 : n ≤ 7) (w : World) (hr : Row w bk 0 n f) (hlt : bk < w.heap.size) :
    Calls Tryz.prog 187 #[.slice (some ⟨bk, 0, none⟩) n cap] w fun e w' => e = .returned (.bool (decide (∀ s : Nat, s < 2 ^ n → 1 ≤ s → hasSumB n f s = true))) ∧ Below w.heap.size w w' := by
  have HR := Lib.hid hr; clear hr
  obtain ⟨hp1, hp2⟩ := pow_bounds n h7
  have e2 : ((2 ^ n : Nat) : Int) = 2 ^ n := by simp
  go_enter Tryz.func187, Tryz.ntmps187
  go_wp2_with fail
  go_loopw [3] (fun v wr => ∃ k : Nat, 1 ≤ k ∧ k ≤ 2 ^ n ∧ v = .int .i64 k ∧ Hid (∀ s : Nat, s < k → 1 ≤ s → hasSumB n f s = true) ∧ Below w.heap.size w wr) (fun v _ => 2 ^ n - (intOf v).toNat)
  case atStart => exact ⟨1, by omega, Nat.one_le_two_pow, rfl, Lib.hid (fun s h1 h2 => by omega), Below.refl _ _⟩
  case round =>
    obtain ⟨k, hk1, hk, rfl, hall, hd⟩ := hrel
    by_cases hk2 : k < 2 ^ n
    · have hle : decide ((k : Int) ≤ 2 ^ n - 1) = true := by simp; omega
      cases hg : hasSumB n f k with
      | true =>
        have HG := Lib.hid hg; clear hg
        go_wp2_with fail
        refine (all_any _ _ _ h7 _).mono ?_
        rintro e w1 ⟨rfl, rfl⟩
        go_wp2_with fail
        refine (hasSum_val bk n cap f k true h7 _ HG.out (HR.out.below hd hlt) (Nat.lt_of_lt_of_le hlt hd.size)).mono ?_
        rintro e w1 ⟨rfl, hb1⟩
        replace hd := hd.trans (hb1.mono hd.size)
        clear hb1
        go_wp2_with fail
        go_roundw
        case rel => exact ⟨k + 1, by omega, by omega, by go_num, Lib.hid (fun s h1 h2 => by
          by_cases e : s = k
          · subst e; exact HG.out
          · exact hall.out s (by omega) h2), hd⟩
        case measure => simp [intOf]; omega
      | false =>
        have HF := Lib.hid (summed_no hk1 hk2 hg); have HG := Lib.hid hg; clear hg
        go_wp2_with fail
        refine (all_any _ _ _ h7 _).mono ?_
        rintro e w1 ⟨rfl, rfl⟩
        go_wp2_with fail
        refine (hasSum_val bk n cap f k false h7 _ HG.out (HR.out.below hd hlt) (Nat.lt_of_lt_of_le hlt hd.size)).mono ?_
        rintro e w1 ⟨rfl, hb1⟩
        replace hd := hd.trans (hb1.mono hd.size)
        clear hb1
        go_wp2_with fail
        go_ret
        exact ⟨retb HF.out.symm, hd⟩
    · have hle : decide ((k : Int) ≤ 2 ^ n - 1) = false := by simp; omega
      have hkn : k = 2 ^ n := by omega
      have HF := Lib.hid (show decide (∀ s : Nat, s < 2 ^ n → 1 ≤ s → hasSumB n f s = true) = true from decide_eq_true (fun s h1 h2 => hall.out s (by omega) h2))
      go_wp2_with fail
      refine (all_any _ _ _ h7 _).mono ?_
      rintro e w1 ⟨rfl, rfl⟩
      go_wp2_with fail
      go_ret
      exact ⟨retb HF.out.symm, hd⟩

set_option maxHeartbeats 800000 in
theorem SummedOk_any (a : Option Addr) (n cap : Nat) (f : Nat → Int) (w : World) (hi : Ints w a n f) :
    Calls Tryz.prog 162 #[.slice a n cap] w fun e w' => e = .returned (.bool (summedB n f)) ∧ Below w.heap.size w w' := by
  have HN := Lib.hid hi; clear hi
  go_enter Tryz.func162, Tryz.ntmps162
  go_wp2_with fail
  refine (worldOf_end a n cap f w HN.out).mono ?_
  rintro e w' ⟨hbel, ⟨hb, rfl, hlt, hr⟩ | ⟨hb, rfl⟩⟩
  · have h7 := (worldB_7 hb).2
    have HF := Lib.hid (show summedB n f = decide (∀ s : Nat, s < 2 ^ n → 1 ≤ s → hasSumB n f s = true) by unfold summedB; rw [hb]; rfl)
    clear hb
    go_wp2_with fail
    refine (summed_any _ n n f h7 _ hr hlt).mono ?_
    rintro e w2 ⟨rfl, hb2⟩
    go_wp2_with fail
    go_ret
    exact ⟨retb HF.out.symm, below_to hbel hb2⟩
  · have HF := Lib.hid (show summedB n f = false by unfold summedB; rw [hb]; rfl)
    clear hb
    go_wp2_with fail
    go_ret
    exact ⟨retb HF.out.symm, hbel⟩

theorem SummedOk_val (a : Option Addr) (n cap : Nat) (f : Nat → Int) (v : Bool) (w : World) (hv : summedB n f = v) (hi : Ints w a n f) :
    Calls Tryz.prog 162 #[.slice a n cap] w fun e w' => e = .returned (.bool v) ∧ Below w.heap.size w w' := by
  subst hv; exact SummedOk_any a n cap f w hi
end Go.Proofs.YthaickihoagnmaaGreatDoor

namespace Go.Proofs.YthaickihoagnmaaGreatDoor
open Go.RowKit

theorem sums_zero {n : Nat} {f : Nat → Int} {s : Int} (h7 : n ≤ 7) : (sumsI n f s == 0) = !hasSumB n f s := by
  cases h : hasSumB n f s with
  | true =>
    obtain ⟨a, ha, hg⟩ : ∃ a, a < n ∧ sumG n f s a = true := by unfold hasSumB at h; exact of_decide_eq_true h
    rw [beq_eq_false_iff_ne.2]; rfl
    intro e
    have := sums_bit (n := n) (f := f) (s := s) ha h7
    rw [e, hasB_zero, hg] at this; cases this
  | false =>
    rw [beq_iff_eq.2]; rfl
    refine ext64 _ _ (setOf_I64 _ _) I64_zero (fun i hi => ?_)
    unfold sumsI; rw [hasB_zero, setOf_bit _ _ _ hi]
    by_cases hin : i < n
    · rw [decide_eq_true hin, Bool.true_and]
      cases e : sumG n f s i with
      | false => rfl
      | true => unfold hasSumB at h; exact absurd ⟨i, hin, e⟩ (of_decide_eq_false h)
    · rw [decide_eq_false hin]; rfl

theorem set_at {n : Nat} {f : Nat → Int} {k : Nat} (hw : worldB n f = true) (h1 : 1 ≤ k) (hk : k < 2 ^ n) : setB n f k = true := by
  have e2 : ((2 ^ n : Nat) : Int) = 2 ^ n := by simp
  exact setB_iff.2 ⟨hw, by omega, by omega⟩

theorem specSums_at (a : Option Addr) (n cap : Nat) (f : Nat → Int) (k : Nat) (w : World) (hw : worldB n f = true) (h1 : 1 ≤ k) (hk : k < 2 ^ n) (hi : Ints w a n f) :
    Calls Tryz.prog 80 #[.slice a n cap, .int .i64 k] w fun e w' => e = .returned (.int .i64 (sumsI n f k)) ∧ Drew w w' := by
  have e : sumsB n f k = sumsI n f k := by unfold sumsB; rw [if_pos (set_at hw h1 hk)]
  rw [← e]; exact specSumsOf_any a n cap f k w hi

set_option maxHeartbeats 1600000 in
theorem specSummedOk_any (a : Option Addr) (n cap : Nat) (f : Nat → Int) (w : World) (hi : Ints w a n f) :
    Calls Tryz.prog 74 #[.slice a n cap] w fun e w' => e = .returned (.bool (summedB n f)) ∧ Drew w w' := by
  cases hw : worldB n f with
  | true =>
    have h7 := (worldB_7 hw).2
    obtain ⟨hp1, hp2⟩ := pow_bounds n h7
    have e2 : ((2 ^ n : Nat) : Int) = 2 ^ n := by simp
    have HF := Lib.hid (show summedB n f = decide (∀ s : Nat, s < 2 ^ n → 1 ≤ s → hasSumB n f s = true) by unfold summedB; rw [hw]; rfl)
    have HW := Lib.hid hw; have HN := Lib.hid hi; clear hw hi
    go_enter Tryz.func74, Tryz.ntmps74
    go_wp2_with fail
    go_loopw [3] (fun v wr => ∃ k : Nat, 1 ≤ k ∧ k ≤ 2 ^ n ∧ v = .int .i64 k ∧ Hid (∀ s : Nat, s < k → 1 ≤ s → hasSumB n f s = true) ∧ Drew w wr) (fun v _ => 2 ^ n - (intOf v).toNat)
    case atStart => exact ⟨1, by omega, Nat.one_le_two_pow, rfl, Lib.hid (fun s h1 h2 => by omega), Drew.refl _⟩
    case round =>
      obtain ⟨k, hk1, hk, rfl, hall, hd⟩ := hrel
      by_cases hk2 : k < 2 ^ n
      · have hle : decide ((k : Int) < 2 ^ n) = true := by simp; omega
        have hz := sums_zero (n := n) (f := f) (s := k) h7
        cases hg : hasSumB n f k with
        | true =>
          rw [hg] at hz
          replace hz : (sumsI n f k == 0) = false := hz
          have HG := Lib.hid hg; clear hg
          go_wp2_with fail
          refine (specWorldOk_val _ _ _ f true _ HW.out (HN.out.drew hd)).mono ?_
          rintro e w1 ⟨rfl, hd1⟩
          replace hd := hd.onto hd1
          clear hd1
          go_wp2_with fail
          refine (specSums_at a n _ f k _ HW.out hk1 hk2 (HN.out.drew hd)).mono ?_
          rintro e w2 ⟨rfl, hd2⟩
          replace hd := hd.onto hd2
          clear hd2
          go_wp2_with fail
          go_roundw
          case rel => exact ⟨k + 1, by omega, by omega, by go_num, Lib.hid (fun s h1 h2 => by
            by_cases e : s = k
            · subst e; exact HG.out
            · exact hall.out s (by omega) h2), hd⟩
          case measure => simp [intOf]; omega
        | false =>
          rw [hg] at hz
          replace hz : (sumsI n f k == 0) = true := hz
          have HF2 := Lib.hid (HF.out.trans (summed_no hk1 hk2 hg)); clear hg
          go_wp2_with fail
          refine (specWorldOk_val _ _ _ f true _ HW.out (HN.out.drew hd)).mono ?_
          rintro e w1 ⟨rfl, hd1⟩
          replace hd := hd.onto hd1
          clear hd1
          go_wp2_with fail
          refine (specSums_at a n _ f k _ HW.out hk1 hk2 (HN.out.drew hd)).mono ?_
          rintro e w2 ⟨rfl, hd2⟩
          replace hd := hd.onto hd2
          clear hd2
          go_wp2_with fail
          go_ret
          exact ⟨retb HF2.out.symm, hd⟩
      · have hle : decide ((k : Int) < 2 ^ n) = false := by simp; omega
        have HF2 := Lib.hid (HF.out.trans (decide_eq_true (fun s h1 h2 => hall.out s (by omega) h2)))
        go_wp2_with fail
        refine (specWorldOk_val _ _ _ f true _ HW.out (HN.out.drew hd)).mono ?_
        rintro e w1 ⟨rfl, hd1⟩
        replace hd := hd.onto hd1
        clear hd1
        go_wp2_with fail
        refine (specWorldOk_val _ _ _ f true _ HW.out (HN.out.drew hd)).mono ?_
        rintro e w2 ⟨rfl, hd2⟩
        replace hd := hd.onto hd2
        clear hd2
        go_wp2_with fail
        go_ret
        exact ⟨retb HF2.out.symm, hd⟩
  | false =>
    have HF := Lib.hid (show summedB n f = false by unfold summedB; rw [hw]; rfl)
    have HW := Lib.hid hw; have HN := Lib.hid hi; clear hw hi
    go_enter Tryz.func74, Tryz.ntmps74
    go_wp2_with fail
    go_loopw [3] (fun v wr => v = .int .i64 1 ∧ wr = w) (fun _ _ => 0)
    case atStart => exact ⟨rfl, rfl⟩
    case round =>
      obtain ⟨rfl, rfl⟩ := hrel
      go_wp2_with fail
      refine (specWorldOk_val _ _ _ f false _ HW.out HN.out).mono ?_
      rintro e w1 ⟨rfl, hd1⟩
      go_wp2_with fail
      refine (specWorldOk_val _ _ _ f false _ HW.out (HN.out.drew hd1)).mono ?_
      rintro e w2 ⟨rfl, hd2⟩
      go_wp2_with fail
      go_ret
      exact ⟨retb HF.out.symm, hd1.onto hd2⟩
end Go.Proofs.YthaickihoagnmaaGreatDoor
