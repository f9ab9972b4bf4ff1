import Derived.Test.YthbancphegnpdaaOwnX
import Derived.RangeFuncWrites
import Derived.RangeFuncBox
namespace Go.Proofs.Ythbancphegnpdaa
set_option linter.unusedVariables false
set_option linter.unusedSimpArgs false
open Go.RowKit

/-- nothing has changed but blocks of T, and from B on what is no cells -/
structure Mvd (T : Nat → Prop) (B : Nat) (W W' : World) : Prop where
  os : W'.os = W.os
  tape : W'.tape = W.tape
  output : W'.output = W.output
  size : W.heap.size ≤ W'.heap.size
  block : ∀ k, k < W.heap.size → ¬ T k → (B ≤ k → ∀ o, W.heap[k]? = some o → o.isCells = true) → W'.heap[k]? = W.heap[k]?

/-- an invariant that abides it -/
def AbideT {β : Type} (B : Nat) (I : β → (Nat → Prop) → World → Prop) : Prop :=
  ∀ s T T' W W', I s T W → Mvd T B W W' → (∀ k, T' k → T k ∨ (W.heap.size ≤ k ∧ k < W'.heap.size)) → I s T' W'
/-- what speaks of cells alone -/
def Stays (X : World → Prop) : Prop := ∀ (W : World) (l : Nat) (o o' : Obj), X W → W.heap[l]? = some o → o.isCells = false → X (W.putObj l o')

theorem mvd_put (T : Nat → Prop) {B l : Nat} {W : World} {o : Obj} (o' : Obj) (hB : B ≤ l) (hl : W.heap[l]? = some o) (ho : o.isCells = false) : Mvd T B W (W.putObj l o') := by
  have hg := grownBy_putObj' W l o'
  refine ⟨hg.os, hg.tape, hg.output, hg.size, fun k hk _ hc => ?_⟩
  by_cases e : k = l
  · subst e
    have := hc hB o hl
    rw [ho] at this; cases this
  · exact World.putObj_heap_other (e)
theorem mvd_alloc (T : Nat → Prop) (B : Nat) (W : World) (o : Obj) : Mvd T B W (W.alloc o) :=
  ⟨rfl, rfl, rfl, by simp, fun _ hk _ _ => Below.heap_alloc _ _ _ hk⟩
theorem AbideT.put {β : Type} {B : Nat} {I : β → (Nat → Prop) → World → Prop} (h : AbideT B I) {s : β} {T : Nat → Prop} {W : World} {l : Nat} {o : Obj} (o' : Obj) (hs : I s T W) (hB : B ≤ l) (hl : W.heap[l]? = some o) (ho : o.isCells = false) : I s T (W.putObj l o') :=
  h s T T W _ hs (mvd_put T o' hB hl ho) (fun _ hk => .inl hk)
theorem AbideT.alloc {β : Type} {B : Nat} {I : β → (Nat → Prop) → World → Prop} (h : AbideT B I) {s : β} {T : Nat → Prop} {W : World} (o : Obj) (hs : I s T W) : I s T (W.alloc o) :=
  h s T T W _ hs (mvd_alloc T B W o) (fun _ hk => .inl hk)

/-- AN ITERATOR WITH MEMORY OF ITS OWN (the blocks of T), whose elements lie in memory (Hx), and which reads R: its body keeps T and R, and never says 'no more' -/
def SeqT {α : Type} (F : Fence) (n : Nat) (P : Program) (g : Nat) (lb : Array Value) (encs : α → Array Value) (R : Nat → Prop) (Hx : α → (Nat → Prop) → World → Prop) (S : List α → (Nat → Prop) → World → Prop) (N : Nat) (w : World) : Prop :=
  ∀ (l : Nat) (J : List α → (Nat → Prop) → World → Prop) (W : World), Below w.heap.size w W → (∀ B, W.heap.size ≤ B → AbideT B J) →
    (∀ pre x T W1, J pre T W1 → pre.length < N → Hx x T W1 → YieldAt F (n - 1) P l (encs x) W1 fun e W' =>
      e = .returned (.bool true) ∧ J (pre ++ [x]) T W' ∧ W1.heap.size ≤ W'.heap.size ∧ ∀ k, T k ∨ R k → W'.heap[k]? = W1.heap[k]?) →
    J [] (fun _ => False) W →
    CallsIn F n P g (#[.func (.yield l) #[] #[]] ++ lb) W fun e W' => (∃ v, e = .returned v) ∧ ∃ xs T, S xs T W' ∧ J xs T W'

variable {F : Fence} {n : Nat} {P : Program}

/-- a range over such an iterator -/
theorem wpIn_rangeFunc_st {α : Type} {g : Operand} {ps : Array Tmp} {assign body : Code} {Q : Exit → Act → World → Prop} {a : Act} {w : World}
    (hro : F.round = none) (h1 : 1 ≤ n) {gf : Nat} {lb : Array Value} (hg : a.eval g = .func (.func gf) #[] lb) (hFg : F.fn gf) (eg : ∀ args w, (callFunc gf args).run P w = .ok (.enter gf args) w)
    {encs : α → Array Value} {R : Nat → Prop} {Hx : α → (Nat → Prop) → World → Prop} {S : List α → (Nat → Prop) → World → Prop} {N : Nat} {w0 : World} (hseq : SeqT F (n - 1) P gf lb encs R Hx S N w0)
    (hR : ∀ k, R k → k < w.heap.size) (hHx : ∀ x T, Stays (Hx x T)) (hS : ∀ xs T, Stays (S xs T)) (hb0 : Below w0.heap.size w0 w) (hps : ∀ x, (encs x).size = ps.size)
    (I : List α → (Nat → Prop) → World → Prop) (hI : AbideT w.heap.size I) (h0 : I [] (fun _ => False) w) (a₁ : α → Act)
    (hassign : ∀ (l : Nat) (x : α) (W : World) (K : Act → World → Prop), K (a₁ x) W →
      assign.wpIn (F.inRound l) (n - 1 - 1) P (Exit.then K (fun _ _ _ => False)) { tmps := (ps.zip (encs x)).foldl (fun t (p, v) => t.setIfInBounds p v) a.tmps, defers := [] } W)
    (hbody : ∀ (l : Nat) (pre : List α) (x : α) (T : Nat → Prop) (W : World), I pre T W → pre.length < N → Hx x T W → (∀ k, T k → w.heap.size ≤ k) →
      body.wpIn (F.inRound l) (n - 1 - 1) P (fun e _ W' => e = .normal ∧ KeepsFrom w.heap.size W W' ∧ (∀ k, T k ∨ R k → W'.heap[k]? = W.heap[k]?) ∧ I (pre ++ [x]) T W') (a₁ x) W)
    (hdone : ∀ (D : Nat) (xs : List α) (T : Nat → Prop) (W : World), w.heap.size ≤ D → S xs T W → I xs T W → (∀ k, T k → w.heap.size ≤ k) → ¬ T D → W.heap[D]? = some (.deferred (some [])) → Q .normal { a with defers := { target := .collected D, args := #[] } :: a.defers } W) :
    (Code.rangeFunc g ps assign body).wpIn F n P Q a w := by
  refine wpIn_rangeFunc ?_
  intro fn hfn
  rw [hro]
  obtain ⟨rec, hrec⟩ : ∃ rec : LoopState → Option Code → Loop, rec = fun st pe => { state := st, pending := pe, fn, tmps := a.tmps, params := ps, assign, body, defers := w.heap.size } := ⟨_, rfl⟩
  obtain ⟨W1, hW1⟩ : ∃ W1, (w.alloc (.deferred (some []))).alloc (.loop (rec .ready none)) = W1 := ⟨_, rfl⟩
  have hL1 : W1.heap[w.heap.size + 1]? = some (.loop (rec .ready none)) := by
    rw [← hW1]; have := World.alloc_heap_new (w.alloc (.deferred (some []))) (.loop (rec .ready none)); rwa [World.size_alloc] at this
  have hK1 : W1.heap[w.heap.size]? = some (.deferred (some [])) := by
    rw [← hW1]; exact (Below.heap_alloc _ _ _ (by simp)).trans (World.alloc_heap_new w _)
  have hz1 : W1.heap.size = w.heap.size + 2 := by rw [← hW1]; simp
  have hI1 : I [] (fun _ => False) W1 := by rw [← hW1]; exact hI.alloc _ (hI.alloc _ h0)
  have hb1 : Below w0.heap.size w0 W1 := by
    rw [← hW1]; exact hb0.trans ((((Below.refl _ w).alloc (Nat.le_refl _) _).alloc (by simp) _).mono hb0.size)
  refine ⟨w.heap.size + 1, [{ target := .collected w.heap.size, args := #[] }], W1, { target := .fn (.func gf) lb, args := #[.func (.yield (w.heap.size + 1)) #[] #[]] }, W1, gf,
    #[.func (.yield (w.heap.size + 1)) #[] #[]] ++ lb, W1, ?_, ?_, ?_, ?_, fun _ => h1, ?_⟩
  · rw [← hW1, hrec]; exact run_enterLoop_outer _ _ _ _ _
  · simp only [resolve, hg]
    simp [go_sem]
  · intro f' hf'; simp [Target.leads] at hf'; subst hf'; exact hFg
  · simp [invoke, go_sem, eg]
  · refine (hseq (w.heap.size + 1)
      (fun pre T W => I pre T W ∧ W.heap[w.heap.size + 1]? = some (.loop (rec .ready none)) ∧ W.heap[w.heap.size]? = some (.deferred (some [])) ∧ ∀ k, T k → w.heap.size + 2 ≤ k)
      W1 hb1 ?_ ?_ ⟨hI1, hL1, hK1, fun _ h => h.elim⟩).mono ?_
    · rintro B hB s T T' A A' ⟨hi, hl, hk, hT⟩ hm hT'
      have hlt : w.heap.size + 1 < A.heap.size := (Array.getElem?_eq_some_iff.1 hl).1
      refine ⟨hI s T T' A A' hi ⟨hm.os, hm.tape, hm.output, hm.size, fun k hk1 hk2 hk3 => hm.block k hk1 hk2 (fun h => hk3 (by omega))⟩ hT', ?_, ?_, fun k hk4 => ?_⟩
      · rw [hm.block _ hlt (fun h => by have := hT _ h; omega) (fun h => by omega)]; exact hl
      · rw [hm.block _ (by omega) (fun h => by have := hT _ h; omega) (fun h => by omega)]; exact hk
      · rcases hT' k hk4 with h | h
        · exact hT k h
        · omega
    · rintro pre x T W ⟨hi, hl, hk, hT⟩ hlen hx
      have hlt : w.heap.size + 1 < W.heap.size := (Array.getElem?_eq_some_iff.1 hl).1
      have hy := run_yield (P := P) (args := encs x) hl (by rw [hrec]; exact hps x)
      rw [hrec] at hy
      refine ⟨fn, _, assign, body, hy, roundIn_of_wpIn hfn (hassign _ x W _ ⟨_, run_beginRound hl (by rw [hrec]), ?_⟩)⟩
      obtain ⟨W2, hW2⟩ : ∃ W2, W.putObj (w.heap.size + 1) (.loop { rec .ready none with state := .busy }) = W2 := ⟨_, rfl⟩
      have hl2 : W2.heap[w.heap.size + 1]? = some (.loop { rec .ready none with state := .busy }) := by rw [← hW2]; exact World.putObj_heap_same hlt
      have hs2 : ∀ k, k ≠ w.heap.size + 1 → W2.heap[k]? = W.heap[k]? := fun k e => by rw [← hW2]; exact World.putObj_heap_other (e)
      have hi2 : I pre T W2 := by rw [← hW2]; exact hI.put _ hi (by omega) hl rfl
      have hx2 : Hx x T W2 := by rw [← hW2]; exact hHx x T _ _ _ _ hx hl rfl
      have hz2 : W2.heap.size = W.heap.size := by rw [← hW2]; simp [World.putObj]
      rw [hW2]
      refine wpIn_mono (hbody _ pre x T W2 hi2 hlen hx2 (fun k h => by have := hT k h; omega)) ?_
      rintro e a3 W3 ⟨rfl, hk3, hr3, hi3⟩
      have hl3 := hk3.same _ _ (by omega) hl2 rfl
      have hd3 := hk3.same w.heap.size _ (Nat.le_refl _) ((hs2 _ (by omega)).trans hk) rfl
      have hE := run_endRound (P := P) (none : Option Code) hl3
      rw [hrec] at hE
      refine ⟨_, _, hE, rfl, ⟨hI.put _ hi3 (by omega) hl3 rfl, ?_, (World.putObj_heap_other (by omega)).trans hd3, hT⟩, ?_, fun k hk4 => ?_⟩
      · rw [hrec]; exact World.putObj_heap_same (Array.getElem?_eq_some_iff.1 hl3).1
      · have h5 : ∀ o, (W3.putObj (w.heap.size + 1) o).heap.size = W3.heap.size := fun o => by simp [World.putObj]
        rw [h5]; have := hk3.size; omega
      · have hne : k ≠ w.heap.size + 1 := by
          rcases hk4 with h | h
          · have := hT k h; omega
          · have := hR k h; omega
        rw [World.putObj_heap_other (hne), hr3 k hk4, hs2 k hne]
    · rintro e W2 ⟨⟨v, rfl⟩, xs, T, hs, hi, hl, hk, hT⟩
      refine ⟨none, _, by have := run_endLoop (P := P) hl (by rw [hrec]; simp); rw [hrec] at this; exact this, hdone _ xs T _ (Nat.le_refl _) (hS xs T _ _ _ _ hs hl rfl) (hI.put _ hi (by omega) hl rfl) (fun k h => by have := hT k h; omega) (fun h => by have := hT _ h; omega) ((World.putObj_heap_other (by omega)).trans hk)⟩
end Go.Proofs.Ythbancphegnpdaa
