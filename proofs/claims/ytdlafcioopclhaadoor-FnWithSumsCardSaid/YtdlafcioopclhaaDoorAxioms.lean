import Derived.Test.YtdlafcioopclhaaDoorBaseB
import Derived.Deep.RegionHeld3
import Derived.Maps.OwnSet
import Derived.Laws.EntriesVeiled
namespace Go.Proofs.YtdlafcioopclhaaDoor
open Go.RowKit

/-- all parts of a that are apart from b -/
def restsI (n : Nat) (f : Nat → Int) (a b : Nat) : Int := bits .andNot .i64 (f a) (meetI n f b)

theorem part_val (bk off len cap : Nat) (a b : Nat) (x : Int) (v : Bool) (hb : b < len) (ha : a ≤ 63) (w : World) (hv : hasB x a = v) (hc : w.cell? ⟨bk, off + b, none⟩ = some (.int .i64 x)) :
    Calls Tryd.prog 46 #[.slice (some ⟨bk, off, none⟩) len cap, .int .i64 a, .int .i64 b] w fun e w' => e = .returned (.bool v) ∧ w = w' := by
  subst hv; exact part_any bk off len cap a b x hb ha w hc

def weakG (n : Nat) (f : Nat → Int) (whole part : Nat) : Bool := !neHas (f whole) part whole || restsI n f whole part != 0
def strongG (n : Nat) (f : Nat → Int) (a b : Nat) : Bool := hasB (f b) a || restsI n f a b != 0

/-- what is asked of two things of a world -/
def AskEnd (v : Bool) (w : World) (e : Ending) (w' : World) : Prop := e = .returned (.bool v) ∧ Below w.heap.size w w'

end Go.Proofs.YtdlafcioopclhaaDoor

namespace Go.Proofs.YtdlafcioopclhaaDoor
open Go.RowKit Go.WideMaps Go.Maps

theorem law_string : Keyed Tryd.prog 9 := string_keyed Tryd.underlying9
theorem zero_int (w : World) : (zeroValue 3).run Tryd.prog w = .ok (.int .i64 0) w := by kernel_rfl

/-- the four names, as keys -/
def nmCompany : ByteArray := { data := #[99, 111, 109, 112, 97, 110, 121] }
def nmWeak : ByteArray := { data := #[119, 101, 97, 107] }
def nmStrong : ByteArray := { data := #[115, 116, 114, 111, 110, 103] }
def nmExtended : ByteArray := { data := #[101, 120, 116, 101, 110, 100, 101, 100] }

def namesD : DataW Empty := ((((DataW.map []).put (.string nmCompany.data.toList) (.lit (.int .i64 0))).put (.string nmWeak.data.toList) (.lit (.int .i64 1))).put (.string nmStrong.data.toList) (.lit (.int .i64 2))).put (.string nmExtended.data.toList) (.lit (.int .i64 3))

theorem key_of (s : ByteArray) (h : s.size ≤ maxLen) : keyOf Tryd.prog 9 (.string s) = some (.string s.data.toList) := keyOf_string_mk Tryd.underlying9 h
theorem elem_of (i : Int) (h : (Lit.int .i64 i).wf = true) : plainElem (H := Empty) Tryd.prog 3 (.int .i64 i) = some (.lit (.int .i64 i), []) := plainElem_int Tryd.underlying3 h

def NamesEnd (w : World) (e : Ending) (w' : World) : Prop :=
  e = .returned (.map (some w.heap.size)) ∧ w'.ownsMap Tryd.prog 9 (plainElem (H := Empty) Tryd.prog 3) w.heap.size 4 namesD ∧ Below w.heap.size w w'

end Go.Proofs.YtdlafcioopclhaaDoor

namespace Go.Proofs.YtdlafcioopclhaaDoor
open Go.RowKit Go.Maps

/-- a function of two things of a world, as the axioms are -/
def AskAll (K n : Nat) (f : Nat → Int) (G : Nat → Nat → Bool) : Prop :=
  ∀ (bk cap a b : Nat) (wr : World), a < n → b < n → Row wr bk 0 n f → bk < wr.heap.size → Calls Tryd.prog K #[.slice (some ⟨bk, 0, none⟩) n cap, .int .i64 a, .int .i64 b] wr (AskEnd (G a b) wr)

theorem cell_new (w : World) (v : Value) (t : TypeId) : (w.alloc (.cells #[v] t)).cell? ⟨w.heap.size, 0, none⟩ = some v ∧ Below w.heap.size w (w.alloc (.cells #[v] t)) ∧ (w.alloc (.cells #[v] t)).heap.size = w.heap.size + 1 :=
  ⟨(World.rowIs_alloc w #[v] t (fun _ => v) (by intro i hi; match i, hi with | 0, _ => rfl)).cell (Nat.zero_lt_one), (Below.refl _ _).alloc (Nat.le_refl _) _, by show (w.heap.push _).size = _; rw [Array.size_push]⟩

end Go.Proofs.YtdlafcioopclhaaDoor

namespace Go.Proofs.YtdlafcioopclhaaDoor
open Go.RowKit Go.Maps

def weakB (n : Nat) (f : Nat → Int) : Bool := worldB n f && eachB n (weakG n f)
def strongB (n : Nat) (f : Nat → Int) : Bool := worldB n f && eachB n (strongG n f)

end Go.Proofs.YtdlafcioopclhaaDoor

namespace Go.Proofs.YtdlafcioopclhaaDoor
open Go.RowKit

/-- among the first k parts of a one is apart from b -/
def apB (f : Nat → Int) (a b k : Nat) : Bool := decide (∃ c, c < k ∧ hasB (f a) c = true ∧ (andI (f c) (f b) == 0) = true)

theorem apB_zero (f : Nat → Int) (a b : Nat) : apB f a b 0 = false := decide_eq_false (fun ⟨_, h, _⟩ => absurd h (Nat.not_lt_zero _))
theorem apB_old {f : Nat → Int} {a b k : Nat} (h : apB f a b k = true) : apB f a b (k + 1) = true := by
  unfold apB at h ⊢; rw [decide_eq_true_eq] at h ⊢
  obtain ⟨c, h1, h2⟩ := h; exact ⟨c, by omega, h2⟩
theorem apB_new {f : Nat → Int} {a b k : Nat} (h1 : hasB (f a) k = true) (h2 : (andI (f k) (f b) == 0) = true) : apB f a b (k + 1) = true := by
  unfold apB; rw [decide_eq_true_eq]; exact ⟨k, by omega, h1, h2⟩
theorem apB_not {f : Nat → Int} {a b k : Nat} (h : apB f a b k = false) (h1 : hasB (f a) k = false) : apB f a b (k + 1) = false := by
  unfold apB at h ⊢; rw [decide_eq_false_iff_not] at h ⊢
  rintro ⟨c, h2, h3, h4⟩
  by_cases hc : c = k
  · subst hc; rw [h1] at h3; cases h3
  · exact h ⟨c, by omega, h3, h4⟩
theorem apB_meets {f : Nat → Int} {a b k : Nat} (h : apB f a b k = false) (h1 : (andI (f k) (f b) == 0) = false) : apB f a b (k + 1) = false := by
  unfold apB at h ⊢; rw [decide_eq_false_iff_not] at h ⊢
  rintro ⟨c, h2, h3, h4⟩
  by_cases hc : c = k
  · subst hc; rw [h1] at h4; cases h4
  · exact h ⟨c, by omega, h3, h4⟩

theorem nonzero_iff (x : Int) (hx : I64 x) : (x != 0) = true ↔ ∃ i, i < 64 ∧ hasB x i = true := by
  rw [bne_iff_ne]
  constructor
  · intro h
    apply Classical.byContradiction; intro hn
    apply h
    apply ext64 _ _ hx I64_zero
    intro i hi
    rw [hasB_zero]
    cases e : hasB x i with
    | false => rfl
    | true => exact absurd ⟨i, hi, e⟩ hn
  · rintro ⟨i, _, h⟩ e
    rw [e, hasB_zero] at h; cases h

theorem andI_swap (x y : Int) : andI x y = andI y x :=
  ext64 _ _ (andI_I64 _ _) (andI_I64 _ _) (fun i hi => by rw [and_bit _ _ _ hi, and_bit _ _ _ hi, Bool.and_comm])

theorem rests_bit (n : Nat) (f : Nat → Int) (a b i : Nat) (hi : i < n) (hn : n ≤ 7) : hasB (restsI n f a b) i = (hasB (f a) i && (andI (f i) (f b) == 0)) := by
  unfold restsI meetI
  rw [andNot_bit _ _ _ (by omega), setOf_bit _ _ _ (by omega), decide_eq_true hi, Bool.true_and, andI_swap (f b) (f i)]
  congr 1
  simp [bne]

theorem rests_out {n : Nat} {f : Nat → Int} (hP : WorldP n f) {a b i : Nat} (ha : a < n) (hi : hasB (restsI n f a b) i = true) (h64 : i < 64) : i < n := by
  unfold restsI at hi
  rw [andNot_bit _ _ _ h64, Bool.and_eq_true] at hi
  exact hasB_lt (hP.rng a ha) hi.1

theorem rests_ne {n : Nat} {f : Nat → Int} (hP : WorldP n f) {a b : Nat} (ha : a < n) : (restsI n f a b != 0) = apB f a b n := by
  have hn := hP.hi
  rw [Bool.eq_iff_iff, nonzero_iff _ (by unfold restsI; exact andNot_I64 _ _)]
  unfold apB; rw [decide_eq_true_eq]
  constructor
  · rintro ⟨i, hi, h⟩
    have hin := rests_out hP ha h hi
    rw [rests_bit n f a b i hin hn, Bool.and_eq_true] at h
    exact ⟨i, hin, h.1, h.2⟩
  · rintro ⟨i, hin, h1, h2⟩
    exact ⟨i, by omega, by rw [rests_bit n f a b i hin hn, h1, h2]; rfl⟩

theorem each_of {n : Nat} {g : Nat → Nat → Bool} (h : ∀ a, a < n → ∀ c, c < n → g a c = true) : eachB n g = true := decide_eq_true (fun a ha c hc _ => h a ha c hc)
theorem each_no {n : Nat} {g : Nat → Nat → Bool} {a c : Nat} (ha : a < n) (hc : c < n) (hac : a ≠ c) (h : g a c = false) : eachB n g = false :=
  decide_eq_false (fun e => by have := e a ha c hc hac; rw [h] at this; cases this)
theorem each_iff {n : Nat} {g : Nat → Nat → Bool} : eachB n g = true ↔ ∀ a, a < n → ∀ c, c < n → a ≠ c → g a c = true := by
  unfold eachB; rw [decide_eq_true_eq]

theorem weakG_same (n : Nat) (f : Nat → Int) (a : Nat) : weakG n f a a = true := by unfold weakG neHas; rw [decide_eq_false (fun h => h rfl)]; rfl
theorem weakG_no {n : Nat} {f : Nat → Int} {a b : Nat} (h : hasB (f a) b = false) : weakG n f a b = true := by unfold weakG neHas; rw [h]; simp
theorem weakG_ap {n : Nat} {f : Nat → Int} (hP : WorldP n f) {a b : Nat} {v : Bool} (ha : a < n) (hab : b ≠ a) (h : hasB (f a) b = true) (hv : apB f a b n = v) : weakG n f a b = v := by
  unfold weakG neHas; rw [h, decide_eq_true hab, rests_ne hP ha, hv]; simp
theorem strongG_yes {n : Nat} {f : Nat → Int} {a b : Nat} (h : hasB (f b) a = true) : strongG n f a b = true := by unfold strongG; rw [h]; simp
theorem strongG_ap {n : Nat} {f : Nat → Int} (hP : WorldP n f) {a b : Nat} {v : Bool} (ha : a < n) (h : hasB (f b) a = false) (hv : apB f a b n = v) : strongG n f a b = v := by
  unfold strongG; rw [h, rests_ne hP ha, hv]; simp

theorem weakB_no {n : Nat} {f : Nat → Int} {a c : Nat} (_ : worldB n f = true) (ha : a < n) (hc : c < n) (hac : a ≠ c) (h : weakG n f a c = false) : weakB n f = false := by
  unfold weakB; rw [each_no ha hc hac h, Bool.and_false]
theorem weakB_of {n : Nat} {f : Nat → Int} (hw : worldB n f = true) (h : ∀ a, a < n → ∀ c, c < n → weakG n f a c = true) : weakB n f = true := by
  unfold weakB; rw [hw, each_of h]; rfl

theorem strongB_no {n : Nat} {f : Nat → Int} {a c : Nat} (_ : worldB n f = true) (ha : a < n) (hc : c < n) (hac : a ≠ c) (h : strongG n f a c = false) : strongB n f = false := by
  unfold strongB; rw [each_no ha hc hac h, Bool.and_false]
theorem strongB_of {n : Nat} {f : Nat → Int} (hw : worldB n f = true) (h : ∀ a, a < n → ∀ c, c < n → strongG n f a c = true) : strongB n f = true := by
  unfold strongB; rw [hw, each_of h]; rfl

end Go.Proofs.YtdlafcioopclhaaDoor

namespace Go.Proofs.YtdlafcioopclhaaDoor
open Go.RowKit

theorem apB_iff (f : Nat → Int) (a b k : Nat) : apB f a b k = true ↔ ∃ c, c < k ∧ hasB (f a) c = true ∧ andI (f c) (f b) = 0 := by
  unfold apB; rw [decide_eq_true_eq]
  constructor
  · rintro ⟨c, h1, h2, h3⟩; exact ⟨c, h1, h2, beq_iff_eq.1 h3⟩
  · rintro ⟨c, h1, h2, h3⟩; exact ⟨c, h1, h2, beq_iff_eq.2 h3⟩

/-- nothing is a part of both -/
theorem apart_not {n : Nat} {f : Nat → Int} (hP : WorldP n f) {c b i : Nat} (h : andI (f c) (f b) = 0) (hi : i < n) (h1 : hasB (f c) i = true) (h2 : hasB (f b) i = true) : False := by
  have h7 := hP.hi
  have := (and_zero_iff (f c) (f b)).1 h i (by omega) h1
  rw [h2] at this; cases this

theorem strong_iff {n : Nat} {f : Nat → Int} (h64 : ∀ i, i < n → I64 (f i)) : strongB n f = true ↔ WorldP n f ∧ ∀ a, a < n → ∀ b, b < n → a ≠ b → hasB (f b) a = false → apB f a b n = true := by
  unfold strongB
  rw [Bool.and_eq_true, worldB_iff n f h64, each_iff]
  constructor
  · rintro ⟨hP, h⟩
    refine ⟨hP, fun a ha b hb hab hh => ?_⟩
    have := h a ha b hb hab
    unfold strongG at this
    rw [hh, rests_ne hP ha] at this
    simpa using this
  · rintro ⟨hP, h⟩
    refine ⟨hP, fun a ha b hb hab => ?_⟩
    unfold strongG
    cases hh : hasB (f b) a with
    | true => rfl
    | false => rw [rests_ne hP ha, h a ha b hb hab hh]; rfl

theorem weak_iff {n : Nat} {f : Nat → Int} (h64 : ∀ i, i < n → I64 (f i)) : weakB n f = true ↔ WorldP n f ∧ ∀ a, a < n → ∀ b, b < n → a ≠ b → hasB (f a) b = true → apB f a b n = true := by
  unfold weakB
  rw [Bool.and_eq_true, worldB_iff n f h64, each_iff]
  constructor
  · rintro ⟨hP, h⟩
    refine ⟨hP, fun a ha b hb hab hh => ?_⟩
    have := h a ha b hb hab
    unfold weakG neHas at this
    rw [hh, rests_ne hP ha, decide_eq_true (show b ≠ a from fun e => hab e.symm)] at this
    simpa using this
  · rintro ⟨hP, h⟩
    refine ⟨hP, fun a ha b hb hab => ?_⟩
    unfold weakG neHas
    cases hh : hasB (f a) b with
    | false => simp
    | true => rw [rests_ne hP ha, h a ha b hb hab hh]; simp

theorem strong_weak {n : Nat} {f : Nat → Int} (h64 : ∀ i, i < n → I64 (f i)) (h : strongB n f = true) : weakB n f = true := by
  obtain ⟨hP, hs⟩ := (strong_iff h64).1 h
  exact (weak_iff h64).2 ⟨hP, fun a ha b hb hab hh => hs a ha b hb hab (hP.anti a ha b hb hab hh)⟩

theorem strong_world {n : Nat} {f : Nat → Int} (h : strongB n f = true) : worldB n f = true := by
  unfold strongB at h; rw [Bool.and_eq_true] at h; exact h.1
theorem weak_world {n : Nat} {f : Nat → Int} (h : weakB n f = true) : worldB n f = true := by
  unfold weakB at h; rw [Bool.and_eq_true] at h; exact h.1
end Go.Proofs.YtdlafcioopclhaaDoor
