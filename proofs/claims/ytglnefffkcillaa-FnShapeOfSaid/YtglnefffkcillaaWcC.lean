import Derived.Test.YtglnefffkcillaaWcB
import Derived.Test.YtglnefffkcillaaPlOne
namespace Go.Proofs.Ytglnefffkcillaa
set_option linter.unusedVariables false
set_option linter.unusedSimpArgs false
open Go.RowKit Go.Maps

theorem round_any {F : Fence} (hd : F.depth = none) {m m' : Nat} {P : Program} {l : Nat} {f : FuncId} {tmps : Array Value} {assign body : Code} {w : World} {R : Ending → World → Prop}
    (h : RoundIn F m P l f tmps assign body w R) : RoundIn F m' P l f tmps assign body w R := ⟨h.1, fun c cs _ => h.2 c cs (fun d h5 => by rw [hd] at h5; cases h5)⟩
theorem yield_any {F : Fence} (hd : F.depth = none) {m : Nat} (m' : Nat) {P : Program} {l : Nat} {args : Array Value} {W : World} {R : Ending → World → Prop} (h : YieldAt F m P l args W R) : YieldAt F m' P l args W R := by
  obtain ⟨fn, tmps, assign, body, hy, hR⟩ := h
  exact ⟨fn, tmps, assign, body, hy, round_any hd hR⟩

/-- an invariant that abides new memory, and what is no cells -/
def AbideQ {β : Type} (B : Nat) (I : β → (Nat → Prop) → World → Prop) : Prop :=
  ∀ s T T' W W', I s T W → Mvd (fun _ => False) B W W' → (∀ k, T' k → T k ∨ (W.heap.size ≤ k ∧ k < W'.heap.size)) → I s T' W'
theorem AbideQ.put {β : Type} {B : Nat} {I : β → (Nat → Prop) → World → Prop} (h : AbideQ B I) {s : β} {T : Nat → Prop} {W : World} {l : Nat} {o : Obj} (o' : Obj) (hs : I s T W) (hB : B ≤ l) (hl : W.heap[l]? = some o) (ho : o.isCells = false) : I s T (W.putObj l o') :=
  h s T T W _ hs (mvd_put _ o' hB hl ho) (fun _ hk => .inl hk)
theorem AbideQ.alloc {β : Type} {B : Nat} {I : β → (Nat → Prop) → World → Prop} (h : AbideQ B I) {s : β} {T : Nat → Prop} {W : World} (o : Obj) (hs : I s T W) : I s T (W.alloc o) :=
  h s T T W _ hs (mvd_alloc _ B W o) (fun _ hk => .inl hk)
/-- AN ITERATOR WITH MEMORY OF ITS OWN (the blocks of T), WHICH IT NEVER WRITES AGAIN: what it has yielded lies as it lay -/
def SeqQ {α : Type} (F : Fence) (n : Nat) (P : Program) (g : Nat) (lb : Array Value) (encs : α → Array Value) (R : Nat → Prop) (Hx : α → (Nat → Prop) → World → Prop) (S : List α → (Nat → Prop) → World → Prop) (N : Nat) (w : World) : Prop :=
  ∀ (l : Nat) (J : List α → (Nat → Prop) → World → Prop) (W : World), Below w.heap.size w W → (∀ B, W.heap.size ≤ B → AbideQ B J) →
    (∀ pre x T W1, J pre T W1 → pre.length < N → Hx x T W1 → YieldAt F (n - 1) P l (encs x) W1 fun e W' =>
      e = .returned (.bool true) ∧ J (pre ++ [x]) T W' ∧ W1.heap.size ≤ W'.heap.size ∧ ∀ k, T k ∨ R k → W'.heap[k]? = W1.heap[k]?) →
    J [] (fun _ => False) W →
    CallsIn F n P g (#[.func (.yield l) #[] #[]] ++ lb) W fun e W' => (∃ v, e = .returned v) ∧ ∃ xs T, S xs T W' ∧ J xs T W'

section
variable {F : Fence} {n : Nat} {P : Program}
/-- a range over an iterator with memory of its own, in a body that must keep that, and the two blocks that the range lays -/
theorem wpIn_rangeFunc_sk {α : Type} {g : Operand} {ps : Array Tmp} {assign body : Code} {Q : Exit → Act → World → Prop} {a : Act} {w : World}
    (hro : F.round = none) (h1 : 1 ≤ n) {gf : Nat} {lb : Array Value} (hg : a.eval g = .func (.func gf) #[] lb) (hFg : F.fn gf) (eg : ∀ args w, (callFunc gf args).run P w = .ok (.enter gf args) w)
    {encs : α → Array Value} {R : Nat → Prop} {Hx : α → (Nat → Prop) → World → Prop} {S : List α → (Nat → Prop) → World → Prop} {N : Nat} {w0 : World} (hseq : SeqQ F (n - 1) P gf lb encs R Hx S N w0)
    (hR : ∀ k, R k → k < w.heap.size) (hHx : ∀ x T, Stays (Hx x T)) (hS : ∀ xs T, Stays (S xs T)) (hb0 : Below w0.heap.size w0 w) (hps : ∀ x, (encs x).size = ps.size)
    (I : List α → (Nat → Prop) → World → Prop) (hI : AbideQ w.heap.size I) (h0 : I [] (fun _ => False) w) (a₁ : α → Act)
    (hassign : ∀ (l : Nat) (x : α) (W : World) (K : Act → World → Prop), K (a₁ x) W →
      assign.wpIn (F.inRound l) (n - 1 - 1) P (Exit.then K (fun _ _ _ => False)) { tmps := (ps.zip (encs x)).foldl (fun t (p, v) => t.setIfInBounds p v) a.tmps, defers := [] } W)
    (hbody : ∀ (l : Nat) (pre : List α) (x : α) (T : Nat → Prop) (W : World), I pre T W → pre.length < N → Hx x T W → (∀ k, T k → w.heap.size + 2 ≤ k) → w.heap.size + 2 ≤ W.heap.size →
      body.wpIn (F.inRound l) (n - 1 - 1) P (fun e _ W' => e = .normal ∧ W.heap.size ≤ W'.heap.size ∧ (∀ k, T k ∨ R k ∨ k = w.heap.size ∨ k = w.heap.size + 1 → W'.heap[k]? = W.heap[k]?) ∧ I (pre ++ [x]) T W') (a₁ x) W)
    (hdone : ∀ (D : Nat) (xs : List α) (T : Nat → Prop) (W : World), w.heap.size ≤ D → S xs T W → I xs T W → (∀ k, T k → w.heap.size ≤ k) → ¬ T D → W.heap[D]? = some (.deferred (some [])) → Q .normal { a with defers := { target := .collected D, args := #[] } :: a.defers } W) :
    (Code.rangeFunc g ps assign body).wpIn F n P Q a w := by
  refine wpIn_rangeFunc ?_
  intro fn hfn
  rw [hro]
  obtain ⟨rec, hrec⟩ : ∃ rec : LoopState → Option Code → Loop, rec = fun st pe => { state := st, pending := pe, fn, tmps := a.tmps, params := ps, assign, body, defers := w.heap.size } := ⟨_, rfl⟩
  obtain ⟨W1, hW1⟩ : ∃ W1, (w.alloc (.deferred (some []))).alloc (.loop (rec .ready none)) = W1 := ⟨_, rfl⟩
  have hL1 : W1.heap[w.heap.size + 1]? = some (.loop (rec .ready none)) := by
    rw [← hW1]; have := World.alloc_heap_new (w.alloc (.deferred (some []))) (.loop (rec .ready none)); rwa [World.size_alloc] at this
  have hK1 : W1.heap[w.heap.size]? = some (.deferred (some [])) := by
    rw [← hW1]; exact (Below.heap_alloc _ _ _ (by simp)).trans (World.alloc_heap_new w _)
  have hz1 : W1.heap.size = w.heap.size + 2 := by rw [← hW1]; simp
  have hI1 : I [] (fun _ => False) W1 := by rw [← hW1]; exact hI.alloc _ (hI.alloc _ h0)
  have hb1 : Below w0.heap.size w0 W1 := by
    rw [← hW1]; exact hb0.trans ((((Below.refl _ w).alloc (Nat.le_refl _) _).alloc (by simp) _).mono hb0.size)
  refine ⟨w.heap.size + 1, [{ target := .collected w.heap.size, args := #[] }], W1, { target := .fn (.func gf) lb, args := #[.func (.yield (w.heap.size + 1)) #[] #[]] }, W1, gf,
    #[.func (.yield (w.heap.size + 1)) #[] #[]] ++ lb, W1, ?_, ?_, ?_, ?_, fun _ => h1, ?_⟩
  · rw [← hW1, hrec]; exact run_enterLoop_outer _ _ _ _ _
  · simp only [resolve, hg]
    simp [go_sem]
  · intro f' hf'; simp [Target.leads] at hf'; subst hf'; exact hFg
  · simp [invoke, go_sem, eg]
  · refine (hseq (w.heap.size + 1)
      (fun pre T W => I pre T W ∧ W.heap[w.heap.size + 1]? = some (.loop (rec .ready none)) ∧ W.heap[w.heap.size]? = some (.deferred (some [])) ∧ ∀ k, T k → w.heap.size + 2 ≤ k)
      W1 hb1 ?_ ?_ ⟨hI1, hL1, hK1, fun _ h => h.elim⟩).mono ?_
    · rintro B hB s T T' A A' ⟨hi, hl, hk, hT⟩ hm hT'
      have hlt : w.heap.size + 1 < A.heap.size := (Array.getElem?_eq_some_iff.1 hl).1
      refine ⟨hI s T T' A A' hi ⟨hm.os, hm.tape, hm.output, hm.size, fun k hk1 hk2 hk3 => hm.block k hk1 (fun h => h) (fun h => hk3 (by omega))⟩ hT', ?_, ?_, fun k hk4 => ?_⟩
      · rw [hm.block _ hlt (fun h => h) (fun h => by omega)]; exact hl
      · rw [hm.block _ (by omega) (fun h => h) (fun h => by omega)]; exact hk
      · rcases hT' k hk4 with h | h
        · exact hT k h
        · omega
    · rintro pre x T W ⟨hi, hl, hk, hT⟩ hlen hx
      have hlt : w.heap.size + 1 < W.heap.size := (Array.getElem?_eq_some_iff.1 hl).1
      have hy := run_yield (P := P) (args := encs x) hl (by rw [hrec]; exact hps x)
      rw [hrec] at hy
      refine ⟨fn, _, assign, body, hy, roundIn_of_wpIn hfn (hassign _ x W _ ⟨_, run_beginRound hl (by rw [hrec]), ?_⟩)⟩
      obtain ⟨W2, hW2⟩ : ∃ W2, W.putObj (w.heap.size + 1) (.loop { rec .ready none with state := .busy }) = W2 := ⟨_, rfl⟩
      have hl2 : W2.heap[w.heap.size + 1]? = some (.loop { rec .ready none with state := .busy }) := by rw [← hW2]; exact World.putObj_heap_same hlt
      have hs2 : ∀ k, k ≠ w.heap.size + 1 → W2.heap[k]? = W.heap[k]? := fun k e => by rw [← hW2]; exact World.putObj_heap_other (e)
      have hi2 : I pre T W2 := by rw [← hW2]; exact hI.put _ hi (by omega) hl rfl
      have hx2 : Hx x T W2 := by rw [← hW2]; exact hHx x T _ _ _ _ hx hl rfl
      have hz2 : W2.heap.size = W.heap.size := by rw [← hW2]; simp [World.putObj]
      rw [hW2]
      refine wpIn_mono (hbody _ pre x T W2 hi2 hlen hx2 hT (by omega)) ?_
      rintro e a3 W3 ⟨rfl, hz3, hr3, hi3⟩
      have hl3 := (hr3 (w.heap.size + 1) (.inr (.inr (.inr rfl)))).trans hl2
      have hd3 := (hr3 w.heap.size (.inr (.inr (.inl rfl)))).trans ((hs2 _ (by omega)).trans hk)
      have hE := run_endRound (P := P) (none : Option Code) hl3
      rw [hrec] at hE
      refine ⟨_, _, hE, rfl, ⟨hI.put _ hi3 (by omega) hl3 rfl, ?_, (World.putObj_heap_other (by omega)).trans hd3, hT⟩, ?_, fun k hk4 => ?_⟩
      · rw [hrec]; exact World.putObj_heap_same (Array.getElem?_eq_some_iff.1 hl3).1
      · have h5 : ∀ o, (W3.putObj (w.heap.size + 1) o).heap.size = W3.heap.size := fun o => by simp [World.putObj]
        rw [h5]; omega
      · have hne : k ≠ w.heap.size + 1 := by
          rcases hk4 with h | h
          · have := hT k h; omega
          · have := hR k h; omega
        rw [World.putObj_heap_other (hne), hr3 k (by rcases hk4 with h | h; exact .inl h; exact .inr (.inl h)), hs2 k hne]
    · rintro e W2 ⟨⟨v, rfl⟩, xs, T, hs, hi, hl, hk, hT⟩
      refine ⟨none, _, by have := run_endLoop (P := P) hl (by rw [hrec]; simp); rw [hrec] at this; exact this, hdone _ xs T _ (Nat.le_refl _) (hS xs T _ _ _ _ hs hl rfl) (hI.put _ hi (by omega) hl rfl) (fun k h => by have := hT k h; omega) (fun h => by have := hT _ h; omega) ((World.putObj_heap_other (by omega)).trans hk)⟩
end

/-- a list that an iterator yields: the slice, and what it holds -/
structure Lst where
  v : Value
  L : List Int
def encL (x : Lst) : Array Value := #[x.v]
/-- a list in memory of the iterator's -/
def LstAt (B : Nat) (x : Lst) (T : Nat → Prop) (w : World) : Prop := OwnX w B 3 x.v x.L ∧ (x.L = [] → x.v = .slice none 0 0) ∧ ∀ g, x.v.ownBlock = some g → T g
def LstIn (LL : List (List Int)) (B : Nat) (x : Lst) (T : Nat → Prop) (w : World) : Prop := LstAt B x T w ∧ x.L ∈ LL
/-- these have come, each in memory of its own -/
def LstAll (LL : List (List Int)) (B : Nat) (xs : List Lst) (T : Nat → Prop) (w : World) : Prop := xs.map (fun x => x.L) = LL ∧ (xs.filterMap (fun x => x.v.ownBlock)).Nodup ∧ ∀ x ∈ xs, LstAt B x T w

theorem LstAt.moved {B : Nat} {x : Lst} {T T' : Nat → Prop} {w w' : World} (h : LstAt B x T w) (hT : ∀ k, T k → T' k) (hb : ∀ g, x.v.ownBlock = some g → w'.heap[g]? = w.heap[g]?) : LstAt B x T' w' :=
  ⟨h.1.other (fun g hg _ _ => hb g hg), h.2.1, fun g hg => hT g (h.2.2 g hg)⟩
theorem LstAt.stays {B : Nat} (x : Lst) (T : Nat → Prop) : Stays (LstAt B x T) := fun _ l _ o' h hl ho => ⟨ownsRow_putObj h.1 o' hl ho, h.2⟩
theorem LstIn.stays {LL : List (List Int)} {B : Nat} (x : Lst) (T : Nat → Prop) : Stays (LstIn LL B x T) := fun W l o o' h hl ho => ⟨LstAt.stays x T W l o o' h.1 hl ho, h.2⟩
theorem LstAll.stays {LL : List (List Int)} {B : Nat} (xs : List Lst) (T : Nat → Prop) : Stays (LstAll LL B xs T) := fun W l o o' h hl ho => ⟨h.1, h.2.1, fun x hx => LstAt.stays x T W l o o' (h.2.2 x hx) hl ho⟩
theorem LstAt.base {B B' : Nat} {x : Lst} {T : Nat → Prop} {w : World} (h : LstAt B x T w) (hB : B' ≤ B) : LstAt B' x T w := ⟨h.1.base hB, h.2⟩
theorem LstAt.lt {B : Nat} {x : Lst} {T : Nat → Prop} {w : World} (h : LstAt B x T w) {g : Nat} (hg : x.v.ownBlock = some g) : B ≤ g ∧ g < w.heap.size := World.ownsRow.lt h.1 g hg
theorem LstAll.len {LL : List (List Int)} {B : Nat} {xs : List Lst} {T : Nat → Prop} {w : World} (h : LstAll LL B xs T w) : xs.length = LL.length := by rw [← h.1, List.length_map]
theorem LstAll.moved {LL : List (List Int)} {B : Nat} {xs : List Lst} {T T' : Nat → Prop} {w w' : World} (h : LstAll LL B xs T w) (hT : ∀ k, T k → T' k) (hb : ∀ x ∈ xs, ∀ g, x.v.ownBlock = some g → w'.heap[g]? = w.heap[g]?) : LstAll LL B xs T' w' :=
  ⟨h.1, h.2.1, fun x hx => (h.2.2 x hx).moved hT (hb x hx)⟩
theorem LstAll.snoc {LL : List (List Int)} {B : Nat} {xs : List Lst} {T : Nat → Prop} {w : World} {y : Lst} (h : LstAll LL B xs T w) (ha : LstAt B y T w) (hn : ∀ x ∈ xs, ∀ g, x.v.ownBlock = some g → y.v.ownBlock ≠ some g) : LstAll (LL ++ [y.L]) B (xs ++ [y]) T w := by
  refine ⟨by rw [List.map_append, h.1]; rfl, ?_, fun x hx => ?_⟩
  · rw [List.filterMap_append, List.nodup_append]
    refine ⟨h.2.1, ?_, fun a ha b hb e => ?_⟩
    · cases hy : y.v.ownBlock <;> simp [hy]
    · obtain ⟨x, hx, hxg⟩ := List.mem_filterMap.1 ha
      obtain ⟨z, hz, hzg⟩ := List.mem_filterMap.1 hb
      rw [List.mem_singleton] at hz
      subst hz; subst e
      exact hn x hx a hxg hzg
  · rw [List.mem_append, List.mem_singleton] at hx
    rcases hx with hx | rfl
    · exact h.2.2 x hx
    · exact ha

/-- an iterator's state: what has come, and its own memory -/
structure ItK (LL : List (List Int)) (B : Nat) (R : Nat → Prop) (J : List Lst → (Nat → Prop) → World → Prop) (W0 W2 : World) (outs : List Lst) (Ti T : Nat → Prop) (wr : World) : Prop where
  all : LstAll LL B outs T wr
  j : J outs T wr
  ti : ∀ i, Ti i → T i ∧ W2.heap.size ≤ i
  dis : ∀ x ∈ outs, ∀ g, x.v.ownBlock = some g → ¬ Ti g
  tl : ∀ i, T i → W0.heap.size ≤ i ∧ i < wr.heap.size
  own : ∀ i, W0.heap.size ≤ i → i < W2.heap.size → T i ∧ wr.heap[i]? = W2.heap[i]?
  two : ∀ i, W2.heap.size ≤ i → i < W2.heap.size + 2 → i < wr.heap.size → T i
  keep : ∀ i, R i → wr.heap[i]? = W0.heap[i]?
  size : W2.heap.size ≤ wr.heap.size

section
variable {LL : List (List Int)} {B : Nat} {R : Nat → Prop} {J : List Lst → (Nat → Prop) → World → Prop} {W0 W2 : World} {outs : List Lst} {Ti T : Nat → Prop} {wr : World}

/-- new memory is the iterator's, too -/
theorem ItK.grow (h : ItK LL B R J W0 W2 outs Ti T wr) (hJ : AbideQ W0.heap.size J) (hR : ∀ i, R i → i < W0.heap.size) (h02 : W0.heap.size ≤ W2.heap.size) {w' : World} (hb : Below wr.heap.size wr w') : ItK LL B R J W0 W2 outs Ti (TNew T wr w') w' := by
  have hs := hb.size
  have h2 := h.size
  refine ⟨h.all.moved (fun _ h => .inl h) (fun x hx g hg => hb.block _ ((h.all.2.2 x hx).lt hg).2), hJ _ _ _ _ _ h.j (mvd_of_below hb) (fun i hi => hi), fun i hi => ⟨.inl (h.ti i hi).1, (h.ti i hi).2⟩, h.dis, ?_, fun i h1 h3 => ⟨.inl (h.own i h1 h3).1, (hb.block i (by omega)).trans (h.own i h1 h3).2⟩, fun i h1 h3 h4 => ?_, fun i hi => ?_, by omega⟩
  · rintro i (hi | hi)
    · have := h.tl i hi; omega
    · omega
  · by_cases h5 : i < wr.heap.size
    · exact .inl (h.two i h1 h3 h5)
    · exact .inr ⟨by omega, h4⟩
  · rw [hb.block i (by have := hR i hi; omega)]
    exact h.keep i hi
/-- one more has been yielded -/
theorem ItK.next (h : ItK LL B R J W0 W2 outs Ti T wr) {y : Lst} {w' : World} (ha : LstAt B y T wr) (hn : ∀ x ∈ outs, ∀ g, x.v.ownBlock = some g → y.v.ownBlock ≠ some g) (hy : ∀ g, y.v.ownBlock = some g → ¬ Ti g) (hj : J (outs ++ [y]) T w') (hs : wr.heap.size ≤ w'.heap.size) (hk : ∀ i, T i ∨ R i → w'.heap[i]? = wr.heap[i]?)
    (hrec : ∀ i, W2.heap.size ≤ i → i < W2.heap.size + 2 → i < wr.heap.size) : ItK (LL ++ [y.L]) B R J W0 W2 (outs ++ [y]) Ti T w' := by
  refine ⟨(h.all.snoc ha hn).moved (fun _ h => h) (fun x hx g hg => ?_), hj, h.ti, fun x hx g hg => ?_, fun i hi => by have := h.tl i hi; omega, fun i h1 h3 => ⟨(h.own i h1 h3).1, (hk i (.inl (h.own i h1 h3).1)).trans (h.own i h1 h3).2⟩, fun i h1 h3 _ => h.two i h1 h3 (hrec i h1 h3), fun i hi => (hk i (.inr hi)).trans (h.keep i hi), Nat.le_trans h.size hs⟩
  · rw [List.mem_append, List.mem_singleton] at hx
    rcases hx with hx | rfl
    · exact hk g (.inl ((h.all.2.2 x hx).2.2 g hg))
    · exact hk g (.inl (ha.2.2 g hg))
  · rw [List.mem_append, List.mem_singleton] at hx
    rcases hx with hx | rfl
    · exact h.dis x hx g hg
    · exact hy g hg
/-- a step of the inner iterator -/
theorem ItK.mvd (h : ItK LL B R J W0 W2 outs Ti T wr) (hJ : AbideQ W0.heap.size J) (hR : ∀ i, R i → i < W0.heap.size) (h02 : W0.heap.size ≤ W2.heap.size) {Ti' : Nat → Prop} {w' : World} (hm : Mvd (fun _ => False) W2.heap.size wr w') (hT' : ∀ i, Ti' i → Ti i ∨ (wr.heap.size ≤ i ∧ i < w'.heap.size)) : ItK LL B R J W0 W2 outs Ti' (TNew T wr w') w' := by
  have hs := hm.size
  have h2 := h.size
  have hc : ∀ x ∈ outs, ∀ g, x.v.ownBlock = some g → w'.heap[g]? = wr.heap[g]? := fun x hx g hg => hm.block g ((h.all.2.2 x hx).lt hg).2 (fun h => h) (fun _ o ho => ownsRow_cells (h.all.2.2 x hx).1 hg ho)
  refine ⟨h.all.moved (fun _ h => .inl h) hc, hJ _ _ _ _ _ h.j ⟨hm.os, hm.tape, hm.output, hm.size, fun k hk1 hk2 hk3 => hm.block k hk1 (fun hk => hk) (fun hk => hk3 (by omega))⟩ (fun i hi => hi), fun i hi => ?_, fun x hx g hg hT => ?_, ?_, fun i h1 h3 => ⟨.inl (h.own i h1 h3).1, ?_⟩, fun i h1 h3 h4 => ?_, fun i hi => ?_, by omega⟩
  · rcases hT' i hi with h3 | h3
    · exact ⟨.inl (h.ti i h3).1, (h.ti i h3).2⟩
    · exact ⟨.inr h3, by omega⟩
  · rcases hT' g hT with h3 | h3
    · exact h.dis x hx g hg h3
    · have := ((h.all.2.2 x hx).lt hg).2; omega
  · rintro i (hi | hi)
    · have := h.tl i hi; omega
    · omega
  · exact (hm.block i (by omega) (fun hT => hT) (fun h5 => by omega)).trans (h.own i h1 h3).2
  · by_cases h5 : i < wr.heap.size
    · exact .inl (h.two i h1 h3 h5)
    · exact .inr ⟨by omega, h4⟩
  · have := hR i hi
    rw [hm.block i (by omega) (fun hT => hT) (fun h5 => by omega)]
    exact h.keep i hi
end

/-- the inner range's invariant: what has come is what fl tells of what came within -/
def ItI (fl : List Lst → List (List Int)) (B : Nat) (R : Nat → Prop) (J : List Lst → (Nat → Prop) → World → Prop) (W0 W2 : World) (pre : List Lst) (Ti : Nat → Prop) (wr : World) : Prop := ∃ outs T, ItK (fl pre) B R J W0 W2 outs Ti T wr
theorem ItI.abide {fl : List Lst → List (List Int)} {B Bs : Nat} {R : Nat → Prop} {J : List Lst → (Nat → Prop) → World → Prop} {W0 W2 : World} (hJ : AbideQ W0.heap.size J) (hR : ∀ i, R i → i < W0.heap.size) (h02 : W0.heap.size ≤ W2.heap.size) (hB : Bs = W2.heap.size) : AbideQ Bs (ItI fl B R J W0 W2) := by
  subst hB
  rintro pre Ti Ti' W W' ⟨outs, T, h⟩ hm hT'
  exact ⟨outs, _, h.mvd hJ hR h02 hm hT'⟩

/-- lists of so many numbers, each of them one of the choices that those ahead of it leave -/
def llK (C : List Int → List Int) : Nat → List (List Int)
  | 0 => [[]]
  | k + 1 => (llK C k).flatMap (fun L => (C L).map (fun x => L ++ [x]))
def flC (C : List Int → List Int) (pre : List Lst) : List (List Int) := (pre.map (fun x => x.L)).flatMap (fun L => (C L).map (fun x => L ++ [x]))
theorem flC_len (C : List Int → List Int) (M : Nat) (hM : ∀ L, (C L).length ≤ M) : ∀ pre : List Lst, (flC C pre).length ≤ pre.length * M
  | [] => by simp [flC]
  | x :: pre => by
    have h1 := flC_len C M hM pre
    have h2 := hM x.L
    unfold flC at *
    rw [List.map_cons, List.flatMap_cons, List.length_append, List.length_map, List.length_cons, Nat.succ_mul]
    omega
theorem flC_snoc (C : List Int → List Int) (pre : List Lst) (x : Lst) : flC C (pre ++ [x]) = flC C pre ++ (C x.L).map (fun y => x.L ++ [y]) := by
  unfold flC; rw [List.map_append, List.flatMap_append]; simp
theorem llK_len {C : List Int → List Int} : ∀ {k : Nat} {L : List Int}, L ∈ llK C k → L.length = k
  | 0, L, h => by simp [llK] at h; subst h; rfl
  | k + 1, L, h => by
    simp only [llK, List.mem_flatMap, List.mem_map] at h
    obtain ⟨L', h1, x, _, rfl⟩ := h
    rw [List.length_append, llK_len h1]; rfl
theorem llK_all {C : List Int → List Int} {p : Int → Prop} (hC : ∀ L, ∀ x ∈ C L, p x) : ∀ {k : Nat} {L : List Int}, L ∈ llK C k → ∀ x ∈ L, p x
  | 0, L, h => by simp [llK] at h; subst h; intro x hx; cases hx
  | k + 1, L, h => by
    simp only [llK, List.mem_flatMap, List.mem_map] at h
    obtain ⟨L', h1, y, hy, rfl⟩ := h
    intro x hx
    rw [List.mem_append, List.mem_singleton] at hx
    rcases hx with hx | rfl
    · exact llK_all hC h1 x hx
    · exact hC _ _ hy

/-- a closure with one captured variable that hands back the choices of a list of at most K numbers, in memory of its own, while R is kept -/
def Picks (gc A : Nat) (C : List Int → List Int) (K : Nat) (R : Nat → Prop) (w : World) : Prop :=
  ∀ W, w.heap.size ≤ W.heap.size → (∀ k, R k → W.heap[k]? = w.heap[k]?) → ∀ (v : Value) (B : Nat) (L : List Int), OwnX W B 3 v L → L.length ≤ K → (∀ x ∈ L, I64 x) →
    Calls Try.prog gc #[v, .pointer (some ⟨A, 0, none⟩)] W (Gives 3 (C L) W)
end Go.Proofs.Ytglnefffkcillaa
