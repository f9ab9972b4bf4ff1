import Derived.Test.YtdlafcioopclhaaGreatFamD
namespace Go.Proofs.YtdlafcioopclhaaGreat
open Go.RowKit Go.Maps

/-- the worklist's state -/
structure CloS (S F : Nat → Bool) (L : Nat → List Int) (p : Nat) (w : World) (va : Value) (T : Nat → Bool) (ws : List Int) (vw : Value) (wr : World) : Prop where
  fa : FamAt wr w.heap.size p va T
  wk : WorkX wr w.heap.size vw ws
  wp : vw.ownBlock ≠ some p
  wa : NoMeet vw va
  bel : Below w.heap.size w wr
  len : ws.length ≤ (fam T 16).length
  sub : ∀ t, S t = true → T t = true
  top : ∀ t, T t = true → F t = true
  inn : ∀ y ∈ ws, ∃ t : Nat, y = t ∧ T t = true
def CloR (S F : Nat → Bool) (L : Nat → List Int) (p : Nat) (w : World) (vw : Value) (wr : World) : Prop :=
  ∃ (va : Value) (T : Nat → Bool) (ws : List Int), CloS S F L p w va T ws vw wr ∧ ∀ t : Nat, T t = true → (t : Int) ∈ ws ∨ ∀ m : Nat, (m : Int) ∈ L t → T m = true

/-- .. while what follows from s is put -/
structure InS (S F : Nat → Bool) (L : Nat → List Int) (p : Nat) (w : World) (s : Nat) (vl : Value) (A0 W0 k : Nat) (va : Value) (T : Nat → Bool) (ws : List Int) (vw : Value) (wr : World) : Prop where
  clo : CloS S F L p w va T ws vw wr
  own : OwnX wr w.heap.size 3 vl (L s)
  lp : vl.ownBlock ≠ some p
  la : NoMeet vl va
  lw : NoMeet vl vw
  bal : ws.length + A0 = (fam T 16).length + W0
  mono : A0 ≤ (fam T 16).length
  slf : T s = true
  clos : ∀ t : Nat, T t = true → (t : Int) ∈ ws ∨ t = s ∨ ∀ m : Nat, (m : Int) ∈ L t → T m = true
  upto : ∀ j, j < k → ∀ m : Nat, (L s).getD j 0 = m → T m = true
def InR (S F : Nat → Bool) (L : Nat → List Int) (p : Nat) (w : World) (s : Nat) (vl : Value) (A0 W0 : Nat) (vw i : Value) (wr : World) : Prop :=
  ∃ (k : Nat) (va : Value) (T : Nat → Bool) (ws : List Int), k ≤ (L s).length ∧ i = .int .i64 k ∧ InS S F L p w s vl A0 W0 k va T ws vw wr

section
variable {S F : Nat → Bool} {L : Nat → List Int} {p : Nat} {w : World} {s : Nat} {vl : Value} {A0 W0 k m : Nat} {va vw : Value} {T : Nat → Bool} {ws : List Int} {wr : World}

theorem InS.done (h : InS S F L p w s vl A0 W0 (L s).length va T ws vw wr) : CloR S F L p w vw wr := by
  refine ⟨va, T, ws, h.clo, fun t ht => ?_⟩
  rcases h.clos t ht with h1 | rfl | h1
  · exact .inl h1
  · right
    intro m hm
    obtain ⟨j, hj, e⟩ := List.getElem_of_mem hm
    exact h.upto j hj m (by rw [List.getD_eq_getElem?_getD, List.getElem?_eq_getElem hj]; exact e)
  · exact .inr h1
theorem InS.measure (h : InS S F L p w s vl A0 W0 k va T ws vw wr) : lenOfV vw + A0 = lenAt wr p + W0 ∧ lenAt wr p ≤ 16 ∧ A0 ≤ lenAt wr p := by
  rw [h.clo.fa.len, h.clo.wk.len]
  exact ⟨h.bal, fam_len_le _ _, h.mono⟩
theorem CloS.mine (h : CloS S F L p w va T ws vw wr) : ∀ g, vw.ownBlock = some g → ¬ Mine p va g := fun g hg e => by
  rcases e with e | e
  · subst e; exact h.wp hg
  · exact h.wa g hg e
theorem InS.mine (h : InS S F L p w s vl A0 W0 k va T ws vw wr) : ∀ g, vl.ownBlock = some g → ¬ Mine p va g := fun g hg e => by
  rcases e with e | e
  · subst e; exact h.lp hg
  · exact h.la g hg e

/-- an element that was there already -/
theorem InS.old (h : InS S F L p w s vl A0 W0 k va T ws vw wr) (hm : (L s).getD k 0 = m) (hT : T m = true) {v' : Value} {w' : World} (hf' : FamAt w' w.heap.size p v' (addS T m)) (hu : Upon (Mine p va) wr w') (hn : NewOr wr va v') :
    InS S F L p w s vl A0 W0 (k + 1) v' T ws vw w' := by
  rw [addS_have hT] at hf'
  have c := h.clo
  exact ⟨⟨hf', c.wk.upon hu c.mine, c.wp, c.wa.new hn (fun g hg => (c.wk.lt hg).2), c.bel.trans (hu.below c.fa.mine c.bel.size), c.len, c.sub, c.top, c.inn⟩,
    hu.ownX h.own h.mine, h.lp, h.la.new hn (fun g hg => (h.own.lt hg).2), h.lw, h.bal, h.mono, h.slf, h.clos, fun j hj m' e => by
      by_cases e2 : j = k
      · subst e2; rw [hm] at e
        have : m = m' := by omega
        subst this; exact hT
      · exact h.upto j (by omega) m' e⟩

/-- an element that is new -/
theorem InS.new (h : InS S F L p w s vl A0 W0 k va T ws vw wr) (hm16 : m < 16) (hm : (L s).getD k 0 = m) (hT : T m = false) (hFm : F m = true) {v' vw' : Value} {w' w'' : World} (hf' : FamAt w' w.heap.size p v' (addS T m)) (hu : Upon (Mine p va) wr w') (hn : NewOr wr va v')
    (hw' : WorkX w'' w.heap.size vw' (ws ++ [(m : Int)])) (hu2 : Upon (fun g => vw.ownBlock = some g) w' w'') (hn2 : NewOr w' vw vw') :
    InS S F L p w s vl A0 W0 (k + 1) v' (addS T m) (ws ++ [(m : Int)]) vw' w'' := by
  have c := h.clo
  have hwa : NoMeet vw v' := c.wa.new hn (fun g hg => (c.wk.lt hg).2)
  have hla : NoMeet vl v' := h.la.new hn (fun g hg => (h.own.lt hg).2)
  have hpl : p < w'.heap.size := hf'.lt
  have hpw : ¬ vw.ownBlock = some p := c.wp
  have hbel : Below w.heap.size w w' := c.bel.trans (hu.below c.fa.mine c.bel.size)
  have hwl : ∀ g, vw.ownBlock = some g → w.heap.size ≤ g := fun g hg => (c.wk.lt hg).1
  have hlen := fam_add_len hm16 hT
  refine ⟨⟨hf'.upon hu2 hpw (fun g hg e => hwa g e hg), hw', hn2.ne hpl c.wp, ?_, hbel.trans (hu2.below hwl hbel.size), ?_, fun t ht => addS_sub (c.sub t ht), fun t ht => ?_, fun y hy => ?_⟩,
    hu2.ownX (hu.ownX h.own h.mine) (fun g hg e => h.lw g hg e), h.lp, hla, ?_, ?_, by rw [hlen]; have := h.mono; omega, addS_sub h.slf, fun t ht => ?_, fun j hj m' e => ?_⟩
  · exact (hwa.swap.new hn2 (fun g hg => (hf'.own.lt hg).2)).swap
  · rw [hlen, List.length_append]; have := c.len; simp; omega
  · rcases addS_iff.1 ht with h1 | rfl
    · exact c.top t h1
    · exact hFm
  · rcases List.mem_append.1 hy with h1 | h1
    · obtain ⟨t, e, h2⟩ := c.inn y h1
      exact ⟨t, e, addS_sub h2⟩
    · exact ⟨m, List.mem_singleton.1 h1, addS_self T m⟩
  · refine h.lw.new hn2 (fun g hg => ?_)
    have := (h.own.lt hg).2
    have := hu.size
    omega
  · rw [hlen, List.length_append]; have := h.bal; simp; omega
  · rcases addS_iff.1 ht with h1 | rfl
    · rcases h.clos t h1 with h2 | h2 | h2
      · exact .inl (List.mem_append.2 (.inl h2))
      · exact .inr (.inl h2)
      · exact .inr (.inr (fun m' hm' => addS_sub (h2 m' hm')))
    · exact .inl (List.mem_append.2 (.inr (List.mem_singleton.2 rfl)))
  · by_cases e2 : j = k
    · subst e2; rw [hm] at e
      have : m = m' := by omega
      subst this; exact addS_self T m
    · exact addS_sub (h.upto j (by omega) m' e)
end

theorem run_tail (g o m c : Nat) (W : World) : (Instr.slice 45 (.slice (some ⟨g, o, none⟩) (m + 1) c) (some (.int .i64 1)) none none).run Tryz.prog W = .ok (.slice (some ⟨g, if c = 1 then o else o + 1, none⟩) m (c - 1)) W := by
  have hz : ∀ w, (Go.sizeOf 3).run Tryz.prog w = .ok 1 w := fun w => by kernel_rfl
  have h1 : (1 : Int) ≤ (m : Int) + 1 := by omega
  by_cases hc : c = 1
  · subst hc
    simp [Instr.slice, Instr.sliceBounds, Instr.sliceBound, run_underlying Tryz.underlying45, asIntOf, hz, h1]
  · have hc' : ¬ c = 1 := hc
    simp [Instr.slice, Instr.sliceBounds, Instr.sliceBound, run_underlying Tryz.underlying45, asIntOf, hz, h1, hc', Addr.add_lit]
theorem WorkX.none {w : World} {B : Nat} {v : Value} (h : WorkX w B v []) : ∃ (a : Option Addr) (cap : Nat), v = .slice a 0 cap := by
  obtain ⟨g, o, cap, e, _⟩ := h; exact ⟨_, _, e⟩
theorem WorkX.some {w : World} {B : Nat} {v : Value} {y : Int} {xs : List Int} (h : WorkX w B v (y :: xs)) :
    ∃ g o cap, v = .slice (Option.some ⟨g, o, Option.none⟩) (xs.length + 1) cap ∧ w.cell? ⟨g, o, Option.none⟩ = Option.some (.int .i64 y) ∧ 1 ≤ cap ∧ cap ≤ 9223372036854775807 ∧ xs.length + 1 ≤ cap := by
  obtain ⟨g, o, cap, e, _, _, hc, hm, _, _, h4⟩ := h
  refine ⟨g, o, cap, e, ?_, by simp at hc; omega, hm, hc⟩
  have := h4 0 (by simp)
  simpa using this

end Go.Proofs.YtdlafcioopclhaaGreat
