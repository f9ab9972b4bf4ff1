import Derived.Test.YtdlafcioopclhaaGreatFamE
namespace Go.Proofs.YtdlafcioopclhaaGreat
open Go.RowKit Go.Maps

theorem fam_len_mono (F : Nat → Bool) {k l : Nat} (h : k ≤ l) : (fam F k).length ≤ (fam F l).length := by
  obtain ⟨R, e, _⟩ := fam_split F k l h
  rw [e, List.length_append]; omega
theorem fam_gap {G : Nat → Bool} {k l : Nat} (h : k ≤ l) (hG : ∀ t, k ≤ t → t < l → G t = false) : fam G l = fam G k := by
  induction l with
  | zero => have : k = 0 := by omega
            subst this; rfl
  | succ l ih =>
    by_cases e : k = l + 1
    · rw [e]
    · rw [fam_no (hG l (by omega) (by omega))]
      exact ih (by omega) (fun t h1 h2 => hG t h1 (by omega))
theorem fam_between {F : Nat → Bool} {k l : Nat} (e : (fam F k).length = (fam F l).length) : ∀ t, k ≤ t → t < l → F t = false := by
  intro t h1 h2
  cases hf : F t with
  | false => rfl
  | true =>
    have h3 := fam_len_mono F h1
    have h4 := fam_len_mono F (show t + 1 ≤ l by omega)
    rw [fam_yes hf, List.length_append] at h4
    simp at h4; omega
theorem fam_next {F : Nat → Bool} : ∀ {k i : Nat}, i < (fam F k).length → ∃ y : Nat, y < k ∧ F y = true ∧ (fam F k).getD i 0 = y ∧ (fam F y).length = i
  | 0, i, h => by simp [fam] at h
  | k + 1, i, h => by
    cases hf : F k with
    | false =>
      rw [fam_no hf] at h ⊢
      obtain ⟨y, h1, h2, h3, h4⟩ := fam_next h
      exact ⟨y, by omega, h2, h3, h4⟩
    | true =>
      rw [fam_yes hf] at h ⊢
      by_cases hi : i < (fam F k).length
      · obtain ⟨y, h1, h2, h3, h4⟩ := fam_next hi
        exact ⟨y, by omega, h2, by rw [append_getD_left hi]; exact h3, h4⟩
      · rw [List.length_append] at h
        have : i = (fam F k).length := by simp at h; omega
        subst this
        exact ⟨k, by omega, hf, by rw [append_getD_right (Nat.le_refl _), Nat.sub_self]; rfl, rfl⟩

/-- a list and a truth are handed back -/
def GivesB (xs : List Int) (b : Bool) (w : World) (e : Ending) (w' : World) : Prop := ∃ v, e = .returned (.tuple #[v, .bool b]) ∧ OwnX w' w.heap.size 3 v xs ∧ Below w.heap.size w w'

/-- the state of the loop that puts the sets behind -/
structure CompS (n : Nat) (f : Nat → Int) (F : Nat → Bool) (p : Nat) (w : World) (vall : Value) (k i : Nat) (vi : Value) (T : Nat → Bool) (vw : Value) (wr : World) : Prop where
  fi : FamAt wr w.heap.size p vi T
  out : OwnX wr w.heap.size 3 vw (withL n f F k)
  all : OwnX wr w.heap.size 3 vall (fam F 16)
  wp : vw.ownBlock ≠ some p
  wi : NoMeet vw vi
  ap : vall.ownBlock ≠ some p
  ai : NoMeet vall vi
  aw : NoMeet vall vw
  bel : Below w.heap.size w wr
  len : (fam F k).length = i
  k16 : k ≤ 16
  fresh : ∀ t, k ≤ t → T t = memS n f t
def CompR (n : Nat) (f : Nat → Int) (F : Nat → Bool) (p : Nat) (w : World) (vall : Value) (vw i : Value) (wr : World) : Prop :=
  ∃ (k j : Nat) (vi : Value) (T : Nat → Bool), i = .int .i64 j ∧ j ≤ (fam F 16).length ∧ CompS n f F p w vall k j vi T vw wr

section
variable {n : Nat} {f : Nat → Int} {F : Nat → Bool} {p : Nat} {w : World} {vall : Value} {k i y : Nat} {vi : Value} {T : Nat → Bool} {vw : Value} {wr : World}
theorem CompS.at (h : CompS n f F p w vall k i vi T vw wr) (hF : F y = true) (hl : (fam F y).length = i) : k ≤ y ∧ fam (newS F (memS n f)) y = fam (newS F (memS n f)) k := by
  have h1 : k ≤ y := by
    apply Classical.byContradiction; intro hlt
    have := fam_len_mono F (show y + 1 ≤ k by omega)
    rw [fam_yes hF, List.length_append] at this
    have := h.len
    simp at *; omega
  exact ⟨h1, fam_gap h1 (fun t h2 h3 => by unfold newS; rw [fam_between (h.len.trans hl.symm) t h2 h3]; rfl)⟩
theorem CompS.mine (h : CompS n f F p w vall k i vi T vw wr) : ∀ g, vw.ownBlock = some g → ¬ Mine p vi g := fun g hg e => by
  rcases e with e | e
  · subst e; exact h.wp hg
  · exact h.wi g hg e
theorem CompS.mineA (h : CompS n f F p w vall k i vi T vw wr) : ∀ g, vall.ownBlock = some g → ¬ Mine p vi g := fun g hg e => by
  rcases e with e | e
  · subst e; exact h.ap hg
  · exact h.ai g hg e
theorem CompS.old (h : CompS n f F p w vall k i vi T vw wr) (hF : F y = true) (hl : (fam F y).length = i) (hy : y < 16) (hT : T y = true) {v' : Value} {w' : World} (hf' : FamAt w' w.heap.size p v' (addS T y)) (hu : Upon (Mine p vi) wr w') (hn : NewOr wr vi v') :
    CompS n f F p w vall (y + 1) (i + 1) v' (addS T y) vw w' := by
  obtain ⟨h1, h2⟩ := h.at hF hl
  have hm : memS n f y = true := by rw [← h.fresh y h1]; exact hT
  have hw : withL n f F (y + 1) = withL n f F k := by
    unfold withL
    rw [fam_no (S := newS F (memS n f)) (by unfold newS; rw [hm]; simp), h2]
  exact ⟨hf', by rw [hw]; exact hu.ownX h.out h.mine, hu.ownX h.all h.mineA, h.wp, h.wi.new hn (fun g hg => (h.out.lt hg).2), h.ap, h.ai.new hn (fun g hg => (h.all.lt hg).2), h.aw, h.bel.trans (hu.below h.fi.mine h.bel.size),
    by rw [fam_yes hF, List.length_append, hl]; rfl, by omega, fun t ht => by rw [addS_old (by omega)]; exact h.fresh t (by omega)⟩
theorem CompS.new (h : CompS n f F p w vall k i vi T vw wr) (hF : F y = true) (hl : (fam F y).length = i) (hy : y < 16) (hT : T y = false) {v' vw' : Value} {w' w'' : World} (hf' : FamAt w' w.heap.size p v' (addS T y)) (hu : Upon (Mine p vi) wr w') (hn : NewOr wr vi v')
    (hw' : OwnX w'' w.heap.size 3 vw' (withL n f F k ++ [(y : Int)])) (hu2 : Upon (fun g => vw.ownBlock = some g) w' w'') (hn2 : NewOr w' vw vw') :
    CompS n f F p w vall (y + 1) (i + 1) v' (addS T y) vw' w'' := by
  obtain ⟨h1, h2⟩ := h.at hF hl
  have hm : memS n f y = false := by rw [← h.fresh y h1]; exact hT
  have hw : withL n f F (y + 1) = withL n f F k ++ [(y : Int)] := by
    unfold withL
    rw [fam_yes (S := newS F (memS n f)) (by unfold newS; rw [hm, hF]; rfl), h2, List.append_assoc]
  have hwi : NoMeet vw v' := h.wi.new hn (fun g hg => (h.out.lt hg).2)
  have hai : NoMeet vall v' := h.ai.new hn (fun g hg => (h.all.lt hg).2)
  have hbel : Below w.heap.size w w' := h.bel.trans (hu.below h.fi.mine h.bel.size)
  refine ⟨hf'.upon hu2 h.wp (fun g hg e => hwi g e hg), by rw [hw]; exact hw', hu2.ownX (hu.ownX h.all h.mineA) (fun g hg e => h.aw g hg e), hn2.ne hf'.lt h.wp, ?_, h.ap, hai, ?_, hbel.trans (hu2.below (fun g hg => (h.out.lt hg).1) hbel.size),
    by rw [fam_yes hF, List.length_append, hl]; rfl, by omega, fun t ht => by rw [addS_old (by omega)]; exact h.fresh t (by omega)⟩
  · exact (hwi.swap.new hn2 (fun g hg => (hf'.own.lt hg).2)).swap
  · refine h.aw.new hn2 (fun g hg => ?_)
    have := (h.all.lt hg).2
    have := hu.size
    omega
end

end Go.Proofs.YtdlafcioopclhaaGreat
