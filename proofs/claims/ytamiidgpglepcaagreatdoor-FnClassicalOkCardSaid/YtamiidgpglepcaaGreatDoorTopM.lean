import Derived.Test.YtamiidgpglepcaaGreatDoorSums
import Derived.Test.YtamiidgpglepcaaGreatDoorRestA
namespace Go.Proofs.YtamiidgpglepcaaGreatDoor
open Go.RowKit

/-- none of the first k is asked for -/
def noneG (g : Nat → Bool) (k : Nat) : Bool := decide (∀ a, a < k → g a = false)
theorem noneG_zero (g : Nat → Bool) : noneG g 0 = true := decide_eq_true (fun _ h => absurd h (Nat.not_lt_zero _))
theorem noneG_step {g : Nat → Bool} {k : Nat} (h : noneG g k = true) (hg : g k = false) : noneG g (k + 1) = true := by
  unfold noneG at h ⊢; rw [decide_eq_true_eq] at h ⊢
  intro a ha
  by_cases e : a = k
  · subst e; exact hg
  · exact h a (by omega)

theorem setOf_nat (g : Nat → Bool) (n : Nat) (hn : n ≤ 7) : ∃ X : Nat, setOf g n = X ∧ X < 128 := by
  have h := setOf_rng g n (by omega)
  have hp := (pow_bounds n hn).2
  obtain ⟨X, e⟩ := Int.eq_ofNat_of_zero_le h.1
  exact ⟨X, e, by omega⟩

theorem firstI_found {g : Nat → Bool} {n k : Nat} (h7 : n ≤ 7) (hk : k < n) (h0 : noneG g k = true) (h1 : g k = true) : firstI (setOf g n) = k ∧ (setOf g n != 0) = true := by
  obtain ⟨R, hR, hR7⟩ := setOf_nat g n h7
  have hbit : ∀ i, i < n → R.testBit i = g i := fun i hi => by rw [← hasB_nat, ← hR, setOf_bit _ _ _ (by omega), decide_eq_true hi, Bool.true_and]
  unfold noneG at h0; rw [decide_eq_true_eq] at h0
  have hlow : ∀ i, i < k → R.testBit i = false := fun i hi => by rw [hbit i (by omega)]; exact h0 i hi
  have hk2 : R.testBit k = true := by rw [hbit k hk, h1]
  obtain ⟨h3, _⟩ := ctz_at hR7 hk2 hlow
  have h4 : R ≠ 0 := by intro e; subst e; simp at hk2
  rw [hR]
  constructor
  · unfold firstI; rw [if_neg (by omega), Int.toNat_natCast, h3]
  · rw [bne_iff_ne]; omega

theorem setOf_none {g : Nat → Bool} {n : Nat} (h0 : noneG g n = true) : setOf g n = 0 := by
  unfold noneG at h0; rw [decide_eq_true_eq] at h0
  refine ext64 _ _ (setOf_I64 _ _) I64_zero (fun i hi => ?_)
  rw [hasB_zero, setOf_bit _ _ _ hi]
  by_cases hin : i < n
  · rw [h0 i hin]; simp
  · rw [decide_eq_false hin]; rfl

theorem setOf_some {g : Nat → Bool} {n : Nat} (_ : n ≤ 7) (h : (setOf g n != 0) = true) : ∃ a, a < n ∧ g a = true := by
  obtain ⟨i, hi, hb⟩ := (nonzero_iff _ (setOf_I64 g n)).1 h
  rw [setOf_bit _ _ _ hi, Bool.and_eq_true, decide_eq_true_eq] at hb
  exact ⟨i, hb.1, hb.2⟩

/-- a is of a set, and all of the set are parts of it -/
def topG (f : Nat → Int) (s : Int) (a : Nat) : Bool := hasB s a && withinB s (f a)
def topI (n : Nat) (f : Nat → Int) (s : Int) : Int := setOf (topG f s) n
def ansN (g : Bool) (n : Nat) (f : Nat → Int) (s : Int) : Int := if g then firstI (topI n f s) else -1
def ansOk (g : Bool) (n : Nat) (f : Nat → Int) (s : Int) : Bool := g && (topI n f s != 0)

theorem topG_iff {f : Nat → Int} {s : Int} {a : Nat} : topG f s a = true ↔ hasB s a = true ∧ ∀ i, i < 64 → hasB s i = true → hasB (f a) i = true := by
  unfold topG; rw [Bool.and_eq_true, within_iff]

theorem topG_uniq {n : Nat} {f : Nat → Int} (hP : WorldP n f) {s : Int} {a b : Nat} (ha : a < n) (hb : b < n) (h1 : topG f s a = true) (h2 : topG f s b = true) : a = b := by
  have h7 := hP.hi
  rw [topG_iff] at h1 h2
  exact anti_eq hP ha hb (h1.2 b (by omega) h2.1) (h2.2 a (by omega) h1.1)

theorem ans_no {n : Nat} {f : Nat → Int} {s : Int} : ansN false n f s = -1 ∧ ansOk false n f s = false := ⟨rfl, rfl⟩
theorem ans_yes {n : Nat} {f : Nat → Int} {s : Int} : ansN true n f s = firstI (topI n f s) ∧ ansOk true n f s = (topI n f s != 0) := ⟨rfl, rfl⟩
theorem ans_off {g : Bool} {n : Nat} {f : Nat → Int} {s : Int} (h : ansOk g n f s = false) : ansN g n f s = -1 := by
  unfold ansN ansOk at *
  cases g with
  | false => rfl
  | true =>
    rw [Bool.true_and, bne_eq_false_iff_eq] at h
    rw [if_pos rfl, h]; rfl

theorem ans_at {n : Nat} {f : Nat → Int} (hP : WorldP n f) {s : Int} {k : Nat} (hk : k < n) (h1 : topG f s k = true) : ansN true n f s = k ∧ ansOk true n f s = true := by
  have hno : noneG (topG f s) k = true := decide_eq_true (fun a ha => by
    cases e : topG f s a with
    | false => rfl
    | true => have := topG_uniq hP (by omega) hk e h1; omega)
  obtain ⟨e1, e2⟩ := firstI_found hP.hi hk hno h1
  exact ⟨by unfold ansN topI; rw [if_pos rfl, e1], by unfold ansOk topI; rw [e2]; rfl⟩

theorem ans_on {g : Bool} {n : Nat} {f : Nat → Int} {s : Int} (hP : g = true → WorldP n f) (h : ansOk g n f s = true) : g = true ∧ ∃ C : Nat, C < n ∧ ansN g n f s = C ∧ topG f s C = true := by
  have hg : g = true := by unfold ansOk at h; cases g with | true => rfl | false => cases h
  subst hg
  have hP := hP rfl
  have h2 : (setOf (topG f s) n != 0) = true := by unfold ansOk topI at h; simpa using h
  obtain ⟨a, ha, hh⟩ := setOf_some hP.hi h2
  exact ⟨rfl, a, ha, (ans_at hP ha hh).1, hh⟩

theorem topG_zero (f : Nat → Int) (a : Nat) : topG f 0 a = false := by unfold topG; rw [hasB_zero]; rfl

/-- the sets that are asked for -/
def commonS (n : Nat) (f : Nat → Int) (a b : Nat) : Int := setOf (fun c => hasB (f a) c && hasB (f b) c) n
def leftS (n : Nat) (f : Nat → Int) (a b : Nat) : Int := setOf (fun c => hasB (f a) c && !(andI (f c) (f b) != 0)) n
def againstS (n : Nat) (f : Nat → Int) (a : Nat) : Int := setOf (fun c => !(andI (f c) (f a) != 0)) n
def wholeS (n : Nat) : Int := setOf (fun _ => true) n

theorem common_and {n : Nat} {f : Nat → Int} (hP : WorldP n f) {a b : Nat} (ha : a < n) : commonS n f a b = bits .and .i64 (f a) (f b) := by
  refine ext64 _ _ (setOf_I64 _ _) (andI_I64 _ _) (fun i hi => ?_)
  show _ = hasB (andI _ _) i
  unfold commonS; rw [setOf_bit _ _ _ hi, and_bit _ _ _ hi]
  by_cases hin : i < n
  · rw [decide_eq_true hin, Bool.true_and]
  · rw [decide_eq_false hin, Bool.false_and]
    cases e : hasB (f a) i with
    | false => rfl
    | true => exact absurd (hasB_lt (hP.rng a ha) e) hin

theorem setOf_not (g : Nat → Bool) (n : Nat) (hn : n ≤ 7) : setOf (fun c => !g c) n = 2 ^ n - 1 - setOf g n := by
  have h := setOf_rng g n (by omega)
  have hp := (pow_bounds n hn).2
  obtain ⟨X, e⟩ := Int.eq_ofNat_of_zero_le h.1
  have e2 : ((2 ^ n : Nat) : Int) = 2 ^ n := by simp
  have hX : X < 2 ^ n := by omega
  have e3 : (2 : Int) ^ n - 1 - setOf g n = ((2 ^ n - (X + 1) : Nat) : Int) := by rw [e]; omega
  rw [e3]
  refine ext64 _ _ (setOf_I64 _ _) (by unfold I64; omega) (fun i hi => ?_)
  rw [hasB_nat, setOf_bit _ _ _ hi, Nat.testBit_two_pow_sub_succ hX, ← hasB_nat, ← e, setOf_bit _ _ _ hi]
  by_cases hin : i < n
  · rw [decide_eq_true hin]; simp
  · rw [decide_eq_false hin]; simp

theorem against_sub (n : Nat) (f : Nat → Int) (a : Nat) (hn : n ≤ 7) : againstS n f a = 2 ^ n - 1 - meetI n f a := by
  unfold againstS meetI
  rw [← setOf_not _ _ hn]
  exact setOf_congr n (fun i _ => by rw [andI_swap])

theorem whole_low (n : Nat) (hn : n ≤ 7) : wholeS n = 2 ^ n - 1 := by
  have hp := pow_bounds n hn
  refine ext64 _ _ (setOf_I64 _ _) (by unfold I64; omega) (fun i hi => ?_)
  unfold wholeS; rw [setOf_bit _ _ _ hi, hasB_low, Bool.and_true]

theorem common_bit {n : Nat} {f : Nat → Int} {a b c : Nat} (hc : c < n) (hn : n ≤ 7) : hasB (commonS n f a b) c = (hasB (f a) c && hasB (f b) c) := by
  unfold commonS; rw [setOf_bit _ _ _ (by omega), decide_eq_true hc, Bool.true_and]
theorem left_bit {n : Nat} {f : Nat → Int} {a b c : Nat} (hc : c < n) (hn : n ≤ 7) : hasB (leftS n f a b) c = (hasB (f a) c && !(andI (f c) (f b) != 0)) := by
  unfold leftS; rw [setOf_bit _ _ _ (by omega), decide_eq_true hc, Bool.true_and]
theorem against_bit {n : Nat} {f : Nat → Int} {a c : Nat} (hc : c < n) (hn : n ≤ 7) : hasB (againstS n f a) c = !(andI (f c) (f a) != 0) := by
  unfold againstS; rw [setOf_bit _ _ _ (by omega), decide_eq_true hc, Bool.true_and]
theorem whole_bit {n : Nat} {c : Nat} (hc : c < n) (hn : n ≤ 7) : hasB (wholeS n) c = true := by
  unfold wholeS; rw [setOf_bit _ _ _ (by omega), decide_eq_true hc]; rfl

theorem set_lt {g : Nat → Bool} {n i : Nat} (hn : n ≤ 7) (h : hasB (setOf g n) i = true) : i < n ∧ g i = true := by
  have hi : i < n := hasB_lt (setOf_rng g n (by omega)) h
  rw [setOf_bit _ _ _ (by omega), Bool.and_eq_true, decide_eq_true_eq] at h
  exact h

/-- with all sums each set of one thing or more has one -/
theorem full_sum {n : Nat} {f : Nat → Int} (hs : summedB n f = true) {g : Nat → Bool} (h : ∃ a, a < n ∧ g a = true) : ∃ s, s < n ∧ sumG n f (setOf g n) s = true := by
  unfold summedB at hs
  rw [Bool.and_eq_true, decide_eq_true_eq] at hs
  obtain ⟨hw, hs⟩ := hs
  have h7 := (worldB_7 hw).2
  have hr := setOf_rng g n (by omega)
  obtain ⟨X, e⟩ := Int.eq_ofNat_of_zero_le hr.1
  have e2 : ((2 ^ n : Nat) : Int) = 2 ^ n := by simp
  obtain ⟨a, ha, hg⟩ := h
  have hX : 1 ≤ X := by
    apply Classical.byContradiction; intro hx
    have hx0 : X = 0 := by omega
    have hb := setOf_bit g n a (by omega)
    rw [e, hx0, hg, decide_eq_true ha] at hb
    simp [hasB_zero] at hb
  have := hs X (by omega) hX
  unfold hasSumB at this
  rw [decide_eq_true_eq] at this
  rw [e]; exact this

/-- what a sum overlaps, one of the set overlaps -/
theorem sum_apart {n : Nat} {f : Nat → Int} (hn : n ≤ 7) {s : Int} {a b : Nat} (hb : b < n) (h : sumG n f s a = true) (hno : ∀ c, c < n → hasB s c = true → (andI (f c) (f b) != 0) = false) : (andI (f a) (f b) != 0) = false := by
  cases e : (andI (f a) (f b) != 0) with
  | false => rfl
  | true =>
    obtain ⟨c, hc, h1, h2⟩ := (sum_meets hn h hb).1 e
    rw [hno c hc h1] at h2; cases h2

theorem apart_sub {n : Nat} {f : Nat → Int} (hP : WorldP n f) {a b c : Nat} (ha : a < n) (hc : c < n) (h : (andI (f a) (f b) != 0) = false) (hca : hasB (f a) c = true) : (andI (f c) (f b) != 0) = false := by
  cases e : (andI (f c) (f b) != 0) with
  | false => rfl
  | true =>
    obtain ⟨i, hi, h1⟩ := (nonzero_iff _ (andI_I64 _ _)).1 e
    rw [and_bit _ _ _ hi, Bool.and_eq_true] at h1
    rw [overlap_of hP ha (hP.trans a ha c hc hca i h1.1) h1.2] at h; cases h

theorem common_part {n : Nat} {f : Nat → Int} (hP : WorldP n f) {a b : Nat} (ha : a < n) (_ : b < n) (h : (andI (f a) (f b) != 0) = true) : ∃ i, i < n ∧ hasB (f a) i = true ∧ hasB (f b) i = true := by
  obtain ⟨i, hi, h1⟩ := (nonzero_iff _ (andI_I64 _ _)).1 h
  rw [and_bit _ _ _ hi, Bool.and_eq_true] at h1
  exact ⟨i, hasB_lt (hP.rng a ha) h1.1, h1.1, h1.2⟩

theorem ap_of {n : Nat} {f : Nat → Int} (h64 : ∀ i, i < n → I64 (f i)) (hs : strongB n f = true) {a b : Nat} (ha : a < n) (hb : b < n) (h : hasB (f b) a = false) : ∃ c, c < n ∧ hasB (f a) c = true ∧ (andI (f c) (f b) != 0) = false := by
  obtain ⟨hP, hst⟩ := (strong_iff h64).1 hs
  have hne : a ≠ b := by intro e; subst e; rw [hP.self a ha] at h; cases h
  obtain ⟨c, h1, h2, h3⟩ := (apB_iff f a b n).1 (hst a ha b hb hne h)
  exact ⟨c, h1, h2, by rw [h3]; rfl⟩

/-! the four answers: what they tell, and when there is one -/

theorem common_top {n : Nat} {f : Nat → Int} (hP : WorldP n f) {a b C : Nat} (ha : a < n) (hb : b < n) (hC : C < n) (h : topG f (commonS n f a b) C = true) (d : Nat) (hd : d < n) : hasB (f C) d = (hasB (f a) d && hasB (f b) d) := by
  have h7 := hP.hi
  obtain ⟨h1, h2⟩ := topG_iff.1 h
  rw [common_bit hC h7, Bool.and_eq_true] at h1
  rw [Bool.eq_iff_iff, Bool.and_eq_true]
  constructor
  · intro hh; exact ⟨hP.trans a ha C hC h1.1 d hh, hP.trans b hb C hC h1.2 d hh⟩
  · rintro ⟨e1, e2⟩; exact h2 d (by omega) (by rw [common_bit hd h7, e1, e2]; rfl)

theorem common_self {n : Nat} {f : Nat → Int} (hP : WorldP n f) {a b : Nat} (ha : a < n) (_ : b < n) (h : hasB (f b) a = true) : topG f (commonS n f a b) a = true := by
  have h7 := hP.hi
  rw [topG_iff]
  refine ⟨by rw [common_bit ha h7, hP.self a ha, h]; rfl, fun i hi hh => ?_⟩
  obtain ⟨_, h3⟩ := set_lt h7 hh
  rw [Bool.and_eq_true] at h3; exact h3.1

theorem common_full {n : Nat} {f : Nat → Int} (h64 : ∀ i, i < n → I64 (f i)) (hs : strongB n f = true) (hf : summedB n f = true) {a b : Nat} (ha : a < n) (hb : b < n) (h : (andI (f a) (f b) != 0) = true) : ∃ s, s < n ∧ topG f (commonS n f a b) s = true := by
  obtain ⟨hP, _⟩ := (strong_iff h64).1 hs
  have h7 := hP.hi
  obtain ⟨i, hi, h1, h2⟩ := common_part hP ha hb h
  obtain ⟨s, hs1, hs2⟩ := full_sum hf (g := fun c => hasB (f a) c && hasB (f b) c) ⟨i, hi, by simp [h1, h2]⟩
  have hpart : ∀ j, j < 64 → hasB (commonS n f a b) j = true → hasB (f s) j = true := fun j _ hh => sum_part h64 hs hs1 (set_lt h7 hh).1 hs2 hh
  have hw : ∀ x, (∀ c, hasB (f a) c = true → hasB (f b) c = true → hasB (f x) c = true) → withinB (commonS n f a b) (f x) = true := fun x hx => (within_iff _ _).2 (fun j _ hh => by
    have := (set_lt h7 hh).2; rw [Bool.and_eq_true] at this; exact hx j this.1 this.2)
  have ea := sum_least h64 hs hs1 ha hs2 (hw a (fun c e _ => e))
  have eb := sum_least h64 hs hs1 hb hs2 (hw b (fun c _ e => e))
  exact ⟨s, hs1, topG_iff.2 ⟨by rw [common_bit hs1 h7, ea, eb]; rfl, hpart⟩⟩

theorem left_top {n : Nat} {f : Nat → Int} (h7 : n ≤ 7) {a b C : Nat} (hC : C < n) (h : topG f (leftS n f a b) C = true) : hasB (f a) C = true ∧ (andI (f C) (f b) != 0) = false ∧ ∀ d, d < n → hasB (f a) d = true → (andI (f d) (f b) != 0) = false → hasB (f C) d = true := by
  obtain ⟨h1, h2⟩ := topG_iff.1 h
  rw [left_bit hC h7, Bool.and_eq_true, Bool.not_eq_true'] at h1
  exact ⟨h1.1, h1.2, fun d hd e1 e2 => h2 d (by omega) (by rw [left_bit hd h7, e1, e2]; rfl)⟩

theorem left_full {n : Nat} {f : Nat → Int} (h64 : ∀ i, i < n → I64 (f i)) (hs : strongB n f = true) (hf : summedB n f = true) {a b : Nat} (ha : a < n) (hb : b < n) (h : hasB (f b) a = false) : ∃ s, s < n ∧ topG f (leftS n f a b) s = true := by
  obtain ⟨hP, _⟩ := (strong_iff h64).1 hs
  have h7 := hP.hi
  obtain ⟨i, hi, h1, h2⟩ := ap_of h64 hs ha hb h
  obtain ⟨s, hs1, hs2⟩ := full_sum hf (g := fun c => hasB (f a) c && !(andI (f c) (f b) != 0)) ⟨i, hi, by simp only [h1, h2]; rfl⟩
  have hin : ∀ j, hasB (leftS n f a b) j = true → j < n ∧ hasB (f a) j = true ∧ (andI (f j) (f b) != 0) = false := fun j hh => by
    have := set_lt h7 hh
    rw [Bool.and_eq_true, Bool.not_eq_true'] at this; exact this
  have hpart : ∀ j, j < 64 → hasB (leftS n f a b) j = true → hasB (f s) j = true := fun j _ hh => sum_part h64 hs hs1 (hin j hh).1 hs2 hh
  have ea := sum_least h64 hs hs1 ha hs2 ((within_iff _ _).2 (fun j _ hh => (hin j hh).2.1))
  have eb := sum_apart h7 hb hs2 (fun c _ hh => (hin c hh).2.2)
  exact ⟨s, hs1, topG_iff.2 ⟨by rw [left_bit hs1 h7, ea, eb]; rfl, hpart⟩⟩

theorem against_top {n : Nat} {f : Nat → Int} (h7 : n ≤ 7) {a C : Nat} (hC : C < n) (h : topG f (againstS n f a) C = true) : (andI (f C) (f a) != 0) = false ∧ ∀ d, d < n → (andI (f d) (f a) != 0) = false → hasB (f C) d = true := by
  obtain ⟨h1, h2⟩ := topG_iff.1 h
  rw [against_bit hC h7, Bool.not_eq_true'] at h1
  exact ⟨h1, fun d hd e2 => h2 d (by omega) (by rw [against_bit hd h7, e2]; rfl)⟩

theorem whole_top {n : Nat} {f : Nat → Int} (h7 : n ≤ 7) {C : Nat} (hC : C < n) : topG f (wholeS n) C = true ↔ ∀ d, d < n → hasB (f C) d = true := by
  rw [topG_iff]
  constructor
  · rintro ⟨_, h2⟩ d hd; exact h2 d (by omega) (whole_bit hd h7)
  · intro h; exact ⟨whole_bit hC h7, fun i _ hh => h i (set_lt h7 hh).1⟩

theorem whole_full {n : Nat} {f : Nat → Int} (h64 : ∀ i, i < n → I64 (f i)) (hs : strongB n f = true) (hf : summedB n f = true) : ∃ s, s < n ∧ topG f (wholeS n) s = true := by
  obtain ⟨hP, _⟩ := (strong_iff h64).1 hs
  have h7 := hP.hi
  obtain ⟨s, hs1, hs2⟩ := full_sum hf (g := fun _ => true) ⟨0, hP.lo, rfl⟩
  exact ⟨s, hs1, (whole_top h7 hs1).2 (fun d hd => sum_part h64 hs hs1 hd hs2 (whole_bit hd h7))⟩

/-- one that is not the whole has a thing apart from it -/
theorem against_full {n : Nat} {f : Nat → Int} (h64 : ∀ i, i < n → I64 (f i)) (hs : strongB n f = true) (hf : summedB n f = true) {a : Nat} (ha : a < n) (h : topG f (wholeS n) a = false) : ∃ s, s < n ∧ topG f (againstS n f a) s = true := by
  obtain ⟨hP, _⟩ := (strong_iff h64).1 hs
  have h7 := hP.hi
  obtain ⟨d, hd, hda⟩ : ∃ d, d < n ∧ hasB (f a) d = false := by
    apply Classical.byContradiction; intro hno
    have : topG f (wholeS n) a = true := (whole_top h7 ha).2 (fun d hd => by
      cases e : hasB (f a) d with
      | true => rfl
      | false => exact absurd ⟨d, hd, e⟩ hno)
    rw [h] at this; cases this
  obtain ⟨i, hi, h1, h2⟩ := ap_of h64 hs hd ha hda
  obtain ⟨s, hs1, hs2⟩ := full_sum hf (g := fun c => !(andI (f c) (f a) != 0)) ⟨i, hi, by simp only [h2]; rfl⟩
  have hin : ∀ j, hasB (againstS n f a) j = true → j < n ∧ (andI (f j) (f a) != 0) = false := fun j hh => by
    have := set_lt h7 hh
    rw [Bool.not_eq_true'] at this; exact this
  have hpart : ∀ j, j < 64 → hasB (againstS n f a) j = true → hasB (f s) j = true := fun j _ hh => sum_part h64 hs hs1 (hin j hh).1 hs2 hh
  have eb := sum_apart h7 ha hs2 (fun c _ hh => (hin c hh).2)
  exact ⟨s, hs1, topG_iff.2 ⟨by rw [against_bit hs1 h7, eb]; rfl, hpart⟩⟩

/-- against what is against it is as before -/
theorem against_back {n : Nat} {f : Nat → Int} (h64 : ∀ i, i < n → I64 (f i)) (hs : strongB n f = true) {a C : Nat} (ha : a < n) (hC : C < n) (h : topG f (againstS n f a) C = true) : topG f (againstS n f C) a = true := by
  obtain ⟨hP, _⟩ := (strong_iff h64).1 hs
  have h7 := hP.hi
  obtain ⟨h1, h2⟩ := against_top h7 hC h
  rw [topG_iff]
  refine ⟨by rw [against_bit ha h7, andI_swap, h1]; rfl, fun d _ hh => ?_⟩
  obtain ⟨hd, hdC⟩ := set_lt h7 hh
  rw [Bool.not_eq_true'] at hdC
  cases e : hasB (f a) d with
  | true => rfl
  | false =>
    obtain ⟨c, hc, h3, h4⟩ := ap_of h64 hs hd ha e
    have h5 := h2 c hc h4
    have h6 := overlap_of hP hd h3 (hP.self c hc)
    have h8 := apart_sub hP hd hc hdC h3
    rw [overlap_of hP hc (hP.self c hc) h5] at h8; cases h8

/-- what is common and what is left make the thing -/
theorem whole_sum {n : Nat} {f : Nat → Int} (h64 : ∀ i, i < n → I64 (f i)) (hs : strongB n f = true) {a b P Q : Nat} (ha : a < n) (hb : b < n) (hP : P < n) (hQ : Q < n)
    (h1 : topG f (commonS n f a b) P = true) (h2 : topG f (leftS n f a b) Q = true) : sumsB n f (bits .or .i64 (2 ^ P) (2 ^ Q)) = 2 ^ a := by
  obtain ⟨hW, _⟩ := (strong_iff h64).1 hs
  have h7 := hW.hi
  have hw := (worldB_iff n f h64).2 hW
  have hset := set_more (setB_pow (f := f) hw hP) hQ
  have hbit : ∀ i, i < 64 → hasB (bits .or .i64 (2 ^ P) (2 ^ Q)) i = (decide (P = i) || decide (Q = i)) := fun i hi => by
    show hasB (orI _ _) i = _
    rw [or_bit _ _ _ hi, hasB_pow, hasB_pow]
  have hc := common_top hW ha hb hP h1
  obtain ⟨l1, l2, l3⟩ := left_top h7 hQ h2
  have hPa : hasB (f a) P = true := by have := hc P hP; rw [hW.self P hP] at this; rw [eq_comm, Bool.and_eq_true] at this; exact this.1
  have hsum : sumG n f (bits .or .i64 (2 ^ P) (2 ^ Q)) a = true := by
    unfold sumG; rw [beq_iff_eq]
    refine ext64 _ _ (setOf_I64 _ _) (metK_I64 _ _ _ _) (fun i hi => ?_)
    by_cases hin : i < n
    · rw [Bool.eq_iff_iff, met_iff hin h7, meetS_bit n f a i hi, decide_eq_true hin, Bool.true_and]
      constructor
      · intro hh
        obtain ⟨e, he, e1, e2⟩ := common_part hW ha hin hh
        cases hov : (andI (f e) (f b) != 0) with
        | true =>
          obtain ⟨d, hd, d1, d2⟩ := common_part hW he hb hov
          have hdP : hasB (f P) d = true := by rw [hc d hd, d2, hW.trans a ha e he e1 d d1]; rfl
          exact ⟨P, hP, by rw [hbit P (by omega)]; simp, overlap_of hW hP hdP (hW.trans i hin e he e2 d d1)⟩
        | false =>
          have hdQ := l3 e he e1 hov
          exact ⟨Q, hQ, by rw [hbit Q (by omega)]; simp, overlap_of hW hQ hdQ e2⟩
      · rintro ⟨c, hcn, h3, h4⟩
        rw [hbit c (by omega), Bool.or_eq_true, decide_eq_true_eq, decide_eq_true_eq] at h3
        obtain ⟨e, he, e1, e2⟩ := common_part hW hcn hin h4
        rcases h3 with rfl | rfl
        · exact overlap_of hW ha (hW.trans a ha _ hcn hPa e e1) e2
        · exact overlap_of hW ha (hW.trans a ha _ hcn l1 e e1) e2
    · have e1 : hasB (meetI n f a) i = false := by rw [meetS_bit n f a i hi, decide_eq_false hin]; rfl
      rw [e1]
      cases e2 : hasB (metI n f (bits .or .i64 (2 ^ P) (2 ^ Q))) i with
      | false => rfl
      | true =>
        unfold metI at e2
        rw [metK_iff n f _ n i hi] at e2
        obtain ⟨_, _, _, h5, _⟩ := e2
        exact absurd h5 hin
  have hp := pow_bounds a (by omega)
  have e : sumsB n f (bits .or .i64 (2 ^ P) (2 ^ Q)) = sumsI n f (bits .or .i64 (2 ^ P) (2 ^ Q)) := by unfold sumsB; rw [if_pos hset]
  rw [e]
  refine ext64 _ _ (setOf_I64 _ _) (by unfold I64; omega) (fun i hi => ?_)
  unfold sumsI
  rw [setOf_bit _ _ _ hi, hasB_pow]
  by_cases e : a = i
  · subst e; rw [decide_eq_true ha, hsum, decide_eq_true rfl]; rfl
  · rw [decide_eq_false e]
    by_cases hin : i < n
    · cases h : sumG n f (bits .or .i64 (2 ^ P) (2 ^ Q)) i with
      | false => simp
      | true => exact absurd (sum_one h64 hs ha hin hsum h) e
    · rw [decide_eq_false hin]; rfl
end Go.Proofs.YtamiidgpglepcaaGreatDoor
