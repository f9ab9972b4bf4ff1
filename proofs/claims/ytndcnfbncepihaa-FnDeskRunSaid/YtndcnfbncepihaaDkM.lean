import Derived.Test.YtndcnfbncepihaaFamM
import Derived.Test.YtndcnfbncepihaaTxD
namespace Go.Proofs.Ytndcnfbncepihaa
set_option linter.unusedVariables false
set_option linter.unusedSimpArgs false

/-- a list that is a family -/
def famL (xs : List Int) : Bool := famOkB xs.length (fun i => xs.getD i 0)
/-- a desk: its family, and those of before -/
def deskB (xs : List Int) (L : List (List Int)) : Bool := famL xs && (decide (L.length ≤ 8) && L.all famL)
theorem deskB_iff {xs : List Int} {L : List (List Int)} : deskB xs L = true ↔ famL xs = true ∧ L.length ≤ 8 ∧ ∀ l ∈ L, famL l = true := by
  unfold deskB
  simp only [Bool.and_eq_true, decide_eq_true_eq, List.all_eq_true]
/-- what a deed makes of a family -/
def mdL (xs : List Int) (k x : Int) : List Int :=
  if k = 0 then xs ++ [x] else if k = 1 then xs.filter (fun y => y != x) else if k = 2 then doneL xs.length (fun i => xs.getD i 0) (FP (memS xs.length (fun i => xs.getD i 0)))
  else if k = 3 then doneL xs.length (fun i => xs.getD i 0) (FS xs.length (fun i => xs.getD i 0)) else []
/-- a deed that changes the family can be done -/
def chB (xs : List Int) (k x : Int) : Bool := dOk k x && (famL (mdL xs k x) && decide ((mdL xs k x).length ≠ xs.length))
/-- a deed can be done -/
def dkB (xs : List Int) (L : List (List Int)) (k x : Int) : Bool := deskB xs L && (if k = 4 then decide (x = 0) && decide (L ≠ []) else chB xs k x)
/-- the family behind a deed, and those of before -/
def dkX (xs : List Int) (L : List (List Int)) (k x : Int) : List Int := if dkB xs L k x then (if k = 4 then L.getLastD [] else mdL xs k x) else if deskB xs L then xs else []
def dkL (xs : List Int) (L : List (List Int)) (k x : Int) : List (List Int) := if dkB xs L k x then (if k = 4 then L.dropLast else (L ++ [xs]).drop (L.length - 7)) else if deskB xs L then L else []

theorem famL_nil : famL [] = false := by decide +kernel
theorem famL_P {xs : List Int} (h : famL xs = true) : FamP xs.length (fun i => xs.getD i 0) := famOk_iff.1 h
theorem famL_len {xs : List Int} (h : famL xs = true) : 1 ≤ xs.length ∧ xs.length ≤ 7 := ⟨(famL_P h).lo, (famL_P h).hi⟩
theorem famL_rng {xs : List Int} (h : famL xs = true) : ∀ x ∈ xs, 1 ≤ x ∧ x ≤ 15 := by
  intro x hx
  obtain ⟨i, hi, rfl⟩ := List.getElem_of_mem hx
  have := (famL_P h).rng i hi
  rw [List.getD_eq_getElem?_getD, List.getElem?_eq_getElem hi] at this
  exact this
theorem famL_I64 {xs : List Int} (h : famL xs = true) : ∀ x ∈ xs, I64 x := fun x hx => by have := famL_rng h x hx; unfold I64; omega
theorem famL_ne {xs : List Int} (h : famL xs = true) : xs ≠ [] := by
  intro e
  rw [e, famL_nil] at h
  cases h
/-! ### what a deed does -/
section
variable {xs : List Int} {L : List (List Int)} {k x : Int}
theorem dk_no (h : dkB xs L k x = false) (hd : deskB xs L = true) : dkX xs L k x = xs ∧ dkL xs L k x = L := by
  unfold dkX dkL
  rw [h, hd]
  exact ⟨rfl, rfl⟩
theorem dk_none (h : deskB xs L = false) : dkB xs L k x = false ∧ dkX xs L k x = [] ∧ dkL xs L k x = [] := by
  have e : dkB xs L k x = false := by unfold dkB; rw [h, Bool.false_and]
  refine ⟨e, ?_, ?_⟩
  · unfold dkX; rw [e, h]; rfl
  · unfold dkL; rw [e, h]; rfl
theorem dkB_text (h : dOk k x = false) : dkB xs L k x = false := by
  unfold dkB
  by_cases e : k = 4
  · subst e
    have hx : x ≠ 0 := by
      intro hx
      have := dOk_iff.2 (.inr ⟨by omega, by omega, hx⟩ : (0 ≤ (4 : Int) ∧ (4 : Int) ≤ 1 ∧ 1 ≤ x ∧ x ≤ 15) ∨ (2 ≤ (4 : Int) ∧ (4 : Int) ≤ 4 ∧ x = 0))
      rw [this] at h; cases h
    rw [if_pos rfl, decide_eq_false hx, Bool.false_and, Bool.and_false]
  · rw [if_neg e]
    unfold chB
    rw [h, Bool.false_and, Bool.and_false]
theorem dkB_back (h : deskB xs L = true) : dkB xs L 4 0 = decide (L ≠ []) := by
  unfold dkB
  rw [h, if_pos rfl]
  simp
theorem dk_back (h : deskB xs L = true) (hL : L ≠ []) : dkX xs L 4 0 = L.getLastD [] ∧ dkL xs L 4 0 = L.dropLast := by
  have e : dkB xs L 4 0 = true := by rw [dkB_back h]; simpa using hL
  unfold dkX dkL
  rw [e]
  exact ⟨by rw [if_pos rfl, if_pos rfl], by rw [if_pos rfl, if_pos rfl]⟩
theorem dkB_ch (h : deskB xs L = true) (hk : k ≠ 4) : dkB xs L k x = chB xs k x := by
  unfold dkB
  rw [h, if_neg hk, Bool.true_and]
theorem dk_ch (h : deskB xs L = true) (hk : k ≠ 4) (hc : chB xs k x = true) : dkX xs L k x = mdL xs k x ∧ dkL xs L k x = (L ++ [xs]).drop (L.length - 7) := by
  have e : dkB xs L k x = true := by rw [dkB_ch h hk]; exact hc
  unfold dkX dkL
  rw [e]
  exact ⟨by rw [if_pos rfl, if_neg hk], by rw [if_pos rfl, if_neg hk]⟩
theorem chB_iff : chB xs k x = true ↔ dOk k x = true ∧ famL (mdL xs k x) = true ∧ (mdL xs k x).length ≠ xs.length := by
  unfold chB
  simp only [Bool.and_eq_true, decide_eq_true_eq]
theorem chB_fam (h : famL (mdL xs k x) = false) : chB xs k x = false := by unfold chB; rw [h, Bool.false_and, Bool.and_false]
theorem chB_len (h : (mdL xs k x).length = xs.length) : chB xs k x = false := by unfold chB; rw [decide_eq_false (by omega), Bool.and_false, Bool.and_false]
/-- whatever is done, it is a desk -/
theorem dk_desk (h : deskB xs L = true) : deskB (dkX xs L k x) (dkL xs L k x) = true := by
  cases hb : dkB xs L k x with
  | false => rw [(dk_no hb h).1, (dk_no hb h).2]; exact h
  | true =>
    obtain ⟨h1, h2, h3⟩ := deskB_iff.1 h
    by_cases e : k = 4
    · subst e
      have hx : x = 0 ∧ L ≠ [] := by
        unfold dkB at hb
        rw [h, if_pos rfl, Bool.true_and, Bool.and_eq_true, decide_eq_true_eq, decide_eq_true_eq] at hb
        exact hb
      obtain ⟨rfl, hL⟩ := hx
      obtain ⟨e1, e2⟩ := dk_back h hL
      rw [e1, e2, deskB_iff]
      refine ⟨?_, by rw [List.length_dropLast]; omega, fun l hl => h3 l (List.dropLast_subset L hl)⟩
      rw [List.getLastD_eq_getLast?, List.getLast?_eq_some_getLast hL]
      exact h3 _ (List.getLast_mem hL)
    · rw [dkB_ch h e] at hb
      obtain ⟨e1, e2⟩ := dk_ch h e hb
      rw [e1, e2, deskB_iff]
      refine ⟨(chB_iff.1 hb).2.1, by rw [List.length_drop, List.length_append, List.length_singleton]; omega, fun l hl => ?_⟩
      rcases List.mem_append.1 (List.mem_of_mem_drop hl) with hl | hl
      · exact h3 l hl
      · rw [List.mem_singleton] at hl; rw [hl]; exact h1
/-- what was done can be undone -/
theorem dk_undo (h : deskB xs L = true) (hk : k ≠ 4) (hc : dkB xs L k x = true) (hl : L.length < 8) :
    dkB (dkX xs L k x) (dkL xs L k x) 4 0 = true ∧ dkX (dkX xs L k x) (dkL xs L k x) 4 0 = xs ∧ dkL (dkX xs L k x) (dkL xs L k x) 4 0 = L := by
  have hd := dk_desk (k := k) (x := x) h
  rw [dkB_ch h hk] at hc
  have e2 := (dk_ch h hk hc).2
  have e3 : dkL xs L k x = L ++ [xs] := by rw [e2, show L.length - 7 = 0 by omega]; rfl
  have hne : dkL xs L k x ≠ [] := by rw [e3]; simp
  obtain ⟨a, b⟩ := dk_back hd hne
  refine ⟨by rw [dkB_back hd]; simpa using hne, ?_, ?_⟩
  · rw [a, e3]; simp
  · rw [b, e3]; simp
end

/-! ### deeds, one after the other -/
/-- the desk behind some deeds, and how many were done -/
def runD : List Int → List (List Int) → List (Int × Int) → List Int × List (List Int) × Nat
  | xs, L, [] => (xs, L, 0)
  | xs, L, d :: ds => ((runD (dkX xs L d.1 d.2) (dkL xs L d.1 d.2) ds).1, (runD (dkX xs L d.1 d.2) (dkL xs L d.1 d.2) ds).2.1, (if dkB xs L d.1 d.2 then 1 else 0) + (runD (dkX xs L d.1 d.2) (dkL xs L d.1 d.2) ds).2.2)
theorem run_snoc (xs : List Int) (L : List (List Int)) (ds : List (Int × Int)) (d : Int × Int) :
    runD xs L (ds ++ [d]) = (dkX (runD xs L ds).1 (runD xs L ds).2.1 d.1 d.2, dkL (runD xs L ds).1 (runD xs L ds).2.1 d.1 d.2, (runD xs L ds).2.2 + if dkB (runD xs L ds).1 (runD xs L ds).2.1 d.1 d.2 then 1 else 0) := by
  induction ds generalizing xs L with
  | nil => exact Prod.ext rfl (Prod.ext rfl (Nat.add_comm _ _))
  | cons e ds ih =>
    rw [List.cons_append, runD, ih]
    rw [runD]
    refine Prod.ext rfl (Prod.ext rfl ?_)
    exact (Nat.add_assoc _ _ _).symm
theorem run_app (xs : List Int) (L : List (List Int)) (ds es : List (Int × Int)) :
    runD xs L (ds ++ es) = ((runD (runD xs L ds).1 (runD xs L ds).2.1 es).1, (runD (runD xs L ds).1 (runD xs L ds).2.1 es).2.1, (runD xs L ds).2.2 + (runD (runD xs L ds).1 (runD xs L ds).2.1 es).2.2) := by
  induction ds generalizing xs L with
  | nil => simp [runD]
  | cons e ds ih =>
    rw [List.cons_append, runD, ih]
    rw [runD]
    refine Prod.ext rfl (Prod.ext rfl ?_)
    exact (Nat.add_assoc _ _ _).symm
theorem run_desk {xs : List Int} {L : List (List Int)} (h : deskB xs L = true) (ds : List (Int × Int)) : deskB (runD xs L ds).1 (runD xs L ds).2.1 = true := by
  induction ds generalizing xs L with
  | nil => exact h
  | cons e ds ih => exact ih (dk_desk h)
theorem run_count (xs : List Int) (L : List (List Int)) (ds : List (Int × Int)) : (runD xs L ds).2.2 ≤ ds.length := by
  induction ds generalizing xs L with
  | nil => exact Nat.zero_le _
  | cons e ds ih =>
    rw [runD, List.length_cons]
    have := ih (dkX xs L e.1 e.2) (dkL xs L e.1 e.2)
    show (if dkB xs L e.1 e.2 then 1 else 0) + _ ≤ _
    split <;> omega
/-- deeds on a desk, of which there are not too many -/
def drB (xs : List Int) (L : List (List Int)) (ds : List (Int × Int)) : Bool := deskB xs L && decide (ds.length ≤ 40)
def drX (xs : List Int) (L : List (List Int)) (ds : List (Int × Int)) : List Int := if drB xs L ds then (runD xs L ds).1 else []
def drL (xs : List Int) (L : List (List Int)) (ds : List (Int × Int)) : List (List Int) := if drB xs L ds then (runD xs L ds).2.1 else []
def drN (xs : List Int) (L : List (List Int)) (ds : List (Int × Int)) : Nat := if drB xs L ds then (runD xs L ds).2.2 else 0
theorem dr_yes {xs : List Int} {L : List (List Int)} {ds : List (Int × Int)} (h : drB xs L ds = true) : drX xs L ds = (runD xs L ds).1 ∧ drL xs L ds = (runD xs L ds).2.1 ∧ drN xs L ds = (runD xs L ds).2.2 := by
  unfold drX drL drN; rw [h]; exact ⟨rfl, rfl, rfl⟩
theorem dr_no {xs : List Int} {L : List (List Int)} {ds : List (Int × Int)} (h : drB xs L ds = false) : drX xs L ds = [] ∧ drL xs L ds = [] ∧ drN xs L ds = 0 := by
  unfold drX drL drN; rw [h]; exact ⟨rfl, rfl, rfl⟩
end Go.Proofs.Ytndcnfbncepihaa
