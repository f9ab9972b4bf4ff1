import Derived.Test.YtglnefffkcillaaWcJ
namespace Go.Proofs.Ytglnefffkcillaa
set_option linter.unusedVariables false
set_option linter.unusedSimpArgs false
open Go.RowKit Go.Maps
attribute [local go_sem] Oper.semAt_some

section
variable {F : Fence} {n : Nat} {P : Program}

/-- a range over such an iterator -/
theorem wpIn_rangeFunc_sq {α : Type} {g : Operand} {ps : Array Tmp} {assign body : Code} {Q : Exit → Act → World → Prop} {a : Act} {w : World}
    (hro : F.round = none) (h1 : 1 ≤ n) {gf : Nat} {lb : Array Value} (hg : a.eval g = .func (.func gf) #[] lb) (hFg : F.fn gf) (eg : ∀ args w, (callFunc gf args).run P w = .ok (.enter gf args) w)
    {encs : α → Array Value} {R : Nat → Prop} {Hx : α → (Nat → Prop) → World → Prop} {S : List α → (Nat → Prop) → World → Prop} {N : Nat} {w0 : World} (hseq : SeqQ F (n - 1) P gf lb encs R Hx S N w0)
    (hR : ∀ k, R k → k < w.heap.size) (hHx : ∀ x T, Stays (Hx x T)) (hS : ∀ xs T, Stays (S xs T)) (hb0 : Below w0.heap.size w0 w) (hps : ∀ x, (encs x).size = ps.size)
    (I : List α → (Nat → Prop) → World → Prop) (hI : AbideQ w.heap.size I) (h0 : I [] (fun _ => False) w) (a₁ : α → Act)
    (hassign : ∀ (l : Nat) (x : α) (W : World) (K : Act → World → Prop), K (a₁ x) W →
      assign.wpIn (F.inRound l) (n - 1 - 1) P (Exit.then K (fun _ _ _ => False)) { tmps := (ps.zip (encs x)).foldl (fun t (p, v) => t.setIfInBounds p v) a.tmps, defers := [] } W)
    (hbody : ∀ (l : Nat) (pre : List α) (x : α) (T : Nat → Prop) (W : World), I pre T W → pre.length < N → Hx x T W → (∀ k, T k → w.heap.size ≤ k) →
      body.wpIn (F.inRound l) (n - 1 - 1) P (fun e _ W' => e = .normal ∧ KeepsFrom w.heap.size W W' ∧ (∀ k, T k ∨ R k → W'.heap[k]? = W.heap[k]?) ∧ I (pre ++ [x]) T W') (a₁ x) W)
    (hdone : ∀ (D : Nat) (xs : List α) (T : Nat → Prop) (W : World), w.heap.size ≤ D → S xs T W → I xs T W → (∀ k, T k → w.heap.size ≤ k) → ¬ T D → W.heap[D]? = some (.deferred (some [])) → Q .normal { a with defers := { target := .collected D, args := #[] } :: a.defers } W) :
    (Code.rangeFunc g ps assign body).wpIn F n P Q a w := by
  refine wpIn_rangeFunc ?_
  intro fn hfn
  rw [hro]
  obtain ⟨rec, hrec⟩ : ∃ rec : LoopState → Option Code → Loop, rec = fun st pe => { state := st, pending := pe, fn, tmps := a.tmps, params := ps, assign, body, defers := w.heap.size } := ⟨_, rfl⟩
  obtain ⟨W1, hW1⟩ : ∃ W1, (w.alloc (.deferred (some []))).alloc (.loop (rec .ready none)) = W1 := ⟨_, rfl⟩
  have hL1 : W1.heap[w.heap.size + 1]? = some (.loop (rec .ready none)) := by
    rw [← hW1]; have := World.alloc_heap_new (w.alloc (.deferred (some []))) (.loop (rec .ready none)); rwa [World.size_alloc] at this
  have hK1 : W1.heap[w.heap.size]? = some (.deferred (some [])) := by
    rw [← hW1]; exact (Below.heap_alloc _ _ _ (by simp)).trans (World.alloc_heap_new w _)
  have hz1 : W1.heap.size = w.heap.size + 2 := by rw [← hW1]; simp
  have hI1 : I [] (fun _ => False) W1 := by rw [← hW1]; exact hI.alloc _ (hI.alloc _ h0)
  have hb1 : Below w0.heap.size w0 W1 := by
    rw [← hW1]; exact hb0.trans ((((Below.refl _ w).alloc (Nat.le_refl _) _).alloc (by simp) _).mono hb0.size)
  refine ⟨w.heap.size + 1, [{ target := .collected w.heap.size, args := #[] }], W1, { target := .fn (.func gf) lb, args := #[.func (.yield (w.heap.size + 1)) #[] #[]] }, W1, gf,
    #[.func (.yield (w.heap.size + 1)) #[] #[]] ++ lb, W1, ?_, ?_, ?_, ?_, fun _ => h1, ?_⟩
  · rw [← hW1, hrec]; exact run_enterLoop_outer _ _ _ _ _
  · simp only [resolve, hg]
    simp [go_sem]
  · intro f' hf'; simp [Target.leads] at hf'; subst hf'; exact hFg
  · simp [invoke, go_sem, eg]
  · refine (hseq (w.heap.size + 1)
      (fun pre T W => I pre T W ∧ W.heap[w.heap.size + 1]? = some (.loop (rec .ready none)) ∧ W.heap[w.heap.size]? = some (.deferred (some [])) ∧ ∀ k, T k → w.heap.size + 2 ≤ k)
      W1 hb1 ?_ ?_ ⟨hI1, hL1, hK1, fun _ h => h.elim⟩).mono ?_
    · rintro B hB s T T' A A' ⟨hi, hl, hk, hT⟩ hm hT'
      have hlt : w.heap.size + 1 < A.heap.size := (Array.getElem?_eq_some_iff.1 hl).1
      refine ⟨hI s T T' A A' hi ⟨hm.os, hm.tape, hm.output, hm.size, fun k hk1 hk2 hk3 => hm.block k hk1 (fun h => h) (fun h => hk3 (by omega))⟩ hT', ?_, ?_, fun k hk4 => ?_⟩
      · rw [hm.block _ hlt (fun h => h) (fun h => by omega)]; exact hl
      · rw [hm.block _ (by omega) (fun h => h) (fun h => by omega)]; exact hk
      · rcases hT' k hk4 with h | h
        · exact hT k h
        · omega
    · rintro pre x T W ⟨hi, hl, hk, hT⟩ hlen hx
      have hlt : w.heap.size + 1 < W.heap.size := (Array.getElem?_eq_some_iff.1 hl).1
      have hy := run_yield (P := P) (args := encs x) hl (by rw [hrec]; exact hps x)
      rw [hrec] at hy
      refine ⟨fn, _, assign, body, hy, roundIn_of_wpIn hfn (hassign _ x W _ ⟨_, run_beginRound hl (by rw [hrec]), ?_⟩)⟩
      obtain ⟨W2, hW2⟩ : ∃ W2, W.putObj (w.heap.size + 1) (.loop { rec .ready none with state := .busy }) = W2 := ⟨_, rfl⟩
      have hl2 : W2.heap[w.heap.size + 1]? = some (.loop { rec .ready none with state := .busy }) := by rw [← hW2]; exact World.putObj_heap_same hlt
      have hs2 : ∀ k, k ≠ w.heap.size + 1 → W2.heap[k]? = W.heap[k]? := fun k e => by rw [← hW2]; exact World.putObj_heap_other (e)
      have hi2 : I pre T W2 := by rw [← hW2]; exact hI.put _ hi (by omega) hl rfl
      have hx2 : Hx x T W2 := by rw [← hW2]; exact hHx x T _ _ _ _ hx hl rfl
      have hz2 : W2.heap.size = W.heap.size := by rw [← hW2]; simp [World.putObj]
      rw [hW2]
      refine wpIn_mono (hbody _ pre x T W2 hi2 hlen hx2 (fun k h => by have := hT k h; omega)) ?_
      rintro e a3 W3 ⟨rfl, hk3, hr3, hi3⟩
      have hl3 := hk3.same _ _ (by omega) hl2 rfl
      have hd3 := hk3.same w.heap.size _ (Nat.le_refl _) ((hs2 _ (by omega)).trans hk) rfl
      have hE := run_endRound (P := P) (none : Option Code) hl3
      rw [hrec] at hE
      refine ⟨_, _, hE, rfl, ⟨hI.put _ hi3 (by omega) hl3 rfl, ?_, (World.putObj_heap_other (by omega)).trans hd3, hT⟩, ?_, fun k hk4 => ?_⟩
      · rw [hrec]; exact World.putObj_heap_same (Array.getElem?_eq_some_iff.1 hl3).1
      · have h5 : ∀ o, (W3.putObj (w.heap.size + 1) o).heap.size = W3.heap.size := fun o => by simp [World.putObj]
        rw [h5]; have := hk3.size; omega
      · have hne : k ≠ w.heap.size + 1 := by
          rcases hk4 with h | h
          · have := hT k h; omega
          · have := hR k h; omega
        rw [World.putObj_heap_other (hne), hr3 k hk4, hs2 k hne]
    · rintro e W2 ⟨⟨v, rfl⟩, xs, T, hs, hi, hl, hk, hT⟩
      refine ⟨none, _, by have := run_endLoop (P := P) hl (by rw [hrec]; simp); rw [hrec] at this; exact this, hdone _ xs T _ (Nat.le_refl _) (hS xs T _ _ _ _ hs hl rfl) (hI.put _ hi (by omega) hl rfl) (fun k h => by have := hT k h; omega) (fun h => by have := hT _ h; omega) ((World.putObj_heap_other (by omega)).trans hk)⟩
end

theorem worlds_stops (n : Nat) (h1 : 1 ≤ n) (h4 : n ≤ 4) (N A0 : Nat) (R : Nat → Prop) (w : World) (hA0 : Boxed w A0 3 (.int .i64 (n : Int))) (hRl : ∀ i, R i → i < w.heap.size) :
    SeqQ Fence.wide N Try.prog 73 #[.pointer (some ⟨A0, 0, none⟩)] encL R (LstIn (wlL n) w.heap.size) (LstAll (wlL n) w.heap.size) (16 ^ n) w := fun l J W hW hJ hY h0 =>
  worlds_in N l A0 n w.heap.size h1 h4 R J W (hJ _ (Nat.le_refl _)) hY ((hW.block _ hA0.lt).trans hA0) (fun i hi => Nat.lt_of_lt_of_le (hRl i hi) hW.size) hW.size h0
theorem orders_stops (n : Nat) (SL : List Int) (hSL : SL.length = n) (h1 : 1 ≤ n) (h4 : n ≤ 4) (h64 : ∀ x ∈ SL, I64 x) (N A0 gw ow cw : Nat) (R : Nat → Prop) (w : World) (hA0 : Boxed w A0 23 (.slice (some ⟨gw, ow, none⟩) n cw)) (hrw : Row w gw ow n (rv SL)) (hgw : gw < w.heap.size) (hRg : R gw) (hRl : ∀ i, R i → i < w.heap.size) :
    SeqQ Fence.wide N Try.prog 80 #[.pointer (some ⟨A0, 0, none⟩)] encL R (LstIn (orL SL) w.heap.size) (LstAll (orL SL) w.heap.size) (16 ^ n) w := fun l J W hW hJ hY h0 =>
  orders_in N l A0 gw ow cw n w.heap.size SL hSL h1 h4 h64 R J W (hJ _ (Nat.le_refl _)) hY ((hW.block _ hA0.lt).trans hA0) (hrw.below hW hgw) (Nat.lt_of_lt_of_le hgw hW.size) hRg (fun i hi => Nat.lt_of_lt_of_le (hRl i hi) hW.size) hW.size h0

theorem fm_some {α β : Type} (f : α → Option β) (g : α → β) : ∀ xs : List α, (∀ x ∈ xs, f x = some (g x)) → xs.filterMap f = xs.map g
  | [], _ => rfl
  | x :: xs, h => by
    rw [List.filterMap_cons, h x (by simp), List.map_cons, fm_some f g xs (fun y hy => h y (by simp [hy]))]
def Lst.g (x : Lst) : Nat := match x.v with | .slice (some a) _ _ => a.block | _ => 0
def Lst.c (x : Lst) : Nat := match x.v with | .slice _ _ c => c | _ => 0
theorem LstAt.form {B n : Nat} {x : Lst} {T : Nat → Prop} {w : World} (h : LstAt B x T w) (hn : x.L.length = n) (h1 : 1 ≤ n) : x.v = .slice (some ⟨x.g, 0, none⟩) n x.c ∧ n ≤ x.c := by
  obtain ⟨g, c, hv, _, _, hc, _⟩ := h.1.shape (by omega)
  rw [hn] at hv hc
  unfold Lst.g Lst.c
  rw [hv]
  exact ⟨rfl, hc⟩
theorem ownsRow_boxed_set {W : World} {R V : Nat} {t e : TypeId} {u v' v : Value} {n : Nat} {xs : List Value} (h : W.ownsRow R e 1 v n xs) (hV : ∀ g, v.ownBlock = some g → g ≠ V) : (W.setCell ⟨V, 0, none⟩ u).ownsRow R e 1 v n xs :=
  ownsRow_same h (fun g hg => Below.heap_setCell _ _ _ g (hV g hg))

/-- what gathers: a variable with a slice of one's own -/
structure CoI (R0 V : Nat) (w : World) (xs : List Lst) (T : Nat → Prop) (W : World) : Prop where
  box : ∃ v, Boxed W V 29 v ∧ W.ownsRow R0 23 1 v xs.length (xs.map (fun x => x.v)) ∧ ∀ g, v.ownBlock = some g → ¬ T g
  nV : ¬ T V
  bel : Below R0 w W
  tl : ∀ k, T k → R0 ≤ k ∧ k < W.heap.size
theorem CoI.abide {R0 V Bs : Nat} {w : World} (hB : R0 ≤ Bs) (hR : R0 ≤ w.heap.size) : AbideQ Bs (CoI R0 V w) := by
  rintro xs T T' W W' h hm hT'
  obtain ⟨v, h1, h2, h3⟩ := h.box
  have hVl := h1.lt
  have hT2 : ∀ k, k < W.heap.size → ¬ T k → ¬ T' k := fun k hk hn h => by rcases hT' k h with h | h; exact hn h; omega
  have eV : W'.heap[V]? = W.heap[V]? := hm.block V hVl (fun h => h) (fun _ o ho => by rw [show W.heap[V]? = _ from h1] at ho; cases ho; rfl)
  refine ⟨⟨v, eV.trans h1, ownsRow_same h2 (fun g hg => hm.block g (World.ownsRow.lt h2 g hg).2 (fun h => h) (fun _ o ho => ownsRow_cells h2 hg ho)), fun g hg => hT2 g (World.ownsRow.lt h2 g hg).2 (h3 g hg)⟩, hT2 V hVl h.nV, ?_, fun k hk => ?_⟩
  · have hR2 := h.bel
    refine ⟨hm.os.trans hR2.os, hm.tape.trans hR2.tape, hm.output.trans hR2.output, Nat.le_trans hR2.size hm.size, fun k hk => ?_⟩
    rw [hm.block k (by have := hR2.size; omega) (fun h5 => h5) (fun h5 => by omega)]
    exact hR2.block k hk
  · have := h.bel.size
    have := hm.size
    rcases hT' k hk with h5 | h5
    · have := h.tl k h5; omega
    · omega
theorem CoI.more {R0 V : Nat} {w W w1 : World} {xs : List Lst} {T : Nat → Prop} {v v' : Value} {tmp : Obj} (x : Lst) (h : CoI R0 V w xs T W)
    (hv : Boxed W V 29 v) (hrow : W.ownsRow R0 23 1 v xs.length (xs.map (fun x => x.v))) (hap : ∀ g, v.ownBlock = some g → ¬ T g)
    (hown' : w1.ownsRow R0 23 1 v' (xs.length + 1) (xs.map (fun x => x.v) ++ [x.v])) (hgrow : (W.alloc tmp).grownBy w1 v.ownBlock) (hat : v'.ownBlock = v.ownBlock ∨ v'.ownBlock = some (W.heap.size + 1))
    (hR : R0 ≤ W.heap.size) (hVR : R0 ≤ V) :
    Boxed w1 V 29 v ∧ KeepsOthers W (w1.setCell ⟨V, 0, none⟩ v') ∧ (∀ k, T k ∨ k < R0 → (w1.setCell ⟨V, 0, none⟩ v').heap[k]? = W.heap[k]?) ∧ CoI R0 V w (xs ++ [x]) T (w1.setCell ⟨V, 0, none⟩ v') := by
  obtain ⟨hv1, hv2, hr2, hk2, hb2⟩ := hv.appended (by decide) hrow hR hVR hown' hgrow
  have hs : (w1.setCell ⟨V, 0, none⟩ v').heap.size = w1.heap.size := by simp [World.setCell]
  have hs1 : W.heap.size + 1 ≤ w1.heap.size := by have := hgrow.size; rw [alloc_size] at this; exact this
  have hsame : ∀ k, k < W.heap.size → k ≠ V → some k ≠ v.ownBlock → (w1.setCell ⟨V, 0, none⟩ v').heap[k]? = W.heap[k]? := fun k hk h1 h2 => (Below.heap_setCell _ _ _ k h1).trans (grown_at hgrow hk h2)
  refine ⟨hv1, hk2, fun k hk => ?_, ⟨v', hv2, ?_, fun g hg => ?_⟩, h.nV, h.bel.trans hb2, fun k hk => ?_⟩
  · rcases hk with hk | hk
    · exact hsame k (h.tl k hk).2 (fun e => h.nV (e ▸ hk)) (fun e => (hap k e.symm) hk)
    · exact hb2.block k hk
  · rw [List.length_append, List.map_append]
    exact hr2
  · rcases hat with e | e
    · rw [e] at hg; exact hap g hg
    · rw [e] at hg
      have hg : W.heap.size + 1 = g := by simpa using hg
      exact fun ht => by have := h.tl g ht; omega
  · have := h.tl k hk
    rw [hs]; omega
theorem CoI.ships {R0 V B n : Nat} {LL : List (List Int)} {w W : World} {xs : List Lst} {T : Nat → Prop} (h : CoI R0 V w xs T W) (hs : LstAll LL B xs T W) (hB : R0 ≤ B) (h1 : 1 ≤ n) (hn : ∀ L ∈ LL, L.length = n) :
    ∃ v, Boxed W V 29 v ∧ Ships W R0 n v LL (xs.map (fun x => (x.g, x.c))) := by
  obtain ⟨v, hv, h2, h3⟩ := h.box
  have hl : LL.length = xs.length := hs.len.symm
  have hf : ∀ x ∈ xs, x.v = .slice (some ⟨x.g, 0, none⟩) n x.c ∧ n ≤ x.c := fun x hx => (hs.2.2 x hx).form (hn _ (by rw [← hs.1]; exact List.mem_map.2 ⟨x, hx, rfl⟩)) h1
  have hob : ∀ x ∈ xs, x.v.ownBlock = some x.g := fun x hx => by rw [(hf x hx).1]; rfl
  refine ⟨v, hv, ?_, fun i hi => ?_, ?_, ?_⟩
  · rw [hl, List.map_map]
    rw [List.map_congr_left (fun x hx => (hf x hx).1)] at h2
    exact h2
  · rw [hl] at hi
    have hx := List.getElem_mem hi
    have e1 : (xs.map (fun x => (x.g, x.c))).getD i (0, 0) = ((xs[i]'hi).g, (xs[i]'hi).c) := by
      rw [List.getD_eq_getElem?_getD, List.getElem?_map, List.getElem?_eq_getElem hi]; rfl
    have e2 : LL.getD i [] = (xs[i]'hi).L := by
      rw [← hs.1, List.getD_eq_getElem?_getD, List.getElem?_map, List.getElem?_eq_getElem hi]; rfl
    rw [e1, e2, ← (hf _ hx).1]
    exact ⟨((hs.2.2 _ hx).base hB).1, (hf _ hx).2⟩
  · rw [List.map_map]
    have e : xs.filterMap (fun x => x.v.ownBlock) = xs.map (fun x => x.g) := by
      exact fm_some _ _ _ hob
    have := hs.2.1
    rw [e] at this
    exact this
  · intro r hr e
    obtain ⟨x, hx, rfl⟩ := List.mem_map.1 hr
    exact h3 _ e ((hs.2.2 x hx).2.2 _ (hob x hx))
def RowsGive (n : Nat) (L : List (List Int)) (w : World) (e : Ending) (w' : World) : Prop := ∃ v rs, e = .returned v ∧ Ships w' w.heap.size n v L rs ∧ Below w.heap.size w w'

theorem wl_len {n : Nat} : ∀ L ∈ wlL n, L.length = n := fun L hL => llK_len (List.mem_filter.1 hL).1

set_option maxRecDepth 100000 in
set_option maxHeartbeats 8000000 in
theorem appendSeq_any (A0 n : Nat) (h1 : 1 ≤ n) (h4 : n ≤ 4) (w : World) (hA0 : Boxed w A0 3 (.int .i64 (n : Int))) :
    Calls Try.prog 72 #[.slice none 0 0, .func (.func 73) #[] #[.pointer (some ⟨A0, 0, none⟩)]] w (RowsGive n (wlL n) w) := by
  obtain ⟨i0, hii, hz0, hz1, hz2⟩ := info_parts Try.infoIntS
  have hb5 := alloc_below w (.cells #[.slice none 0 0] 29)
  have b2 := Boxed.new w 29 (.slice none 0 0)
  have hz5 : (w.alloc (.cells #[.slice none 0 0] 29)).heap.size = w.heap.size + 1 := alloc_size _ _
  have b3 := hA0.alloc (.cells #[.slice none 0 0] 29)
  obtain ⟨w5, hw5⟩ : ∃ w5, w.alloc (.cells #[.slice none 0 0] 29) = w5 := ⟨_, rfl⟩
  rw [hw5] at hb5 b2 hz5 b3
  have HB5 := Lib.hid hb5; have HZ5 := Lib.hid hz5
  have hI0 : CoI w.heap.size w.heap.size w [] (fun _ => False) w5 := ⟨⟨_, b2, World.ownsRow_nil _ _ _ _, fun g hg => by simp [Value.ownBlock] at hg⟩, fun h => h, hb5, fun k h => h.elim⟩
  have hIa : AbideQ w5.heap.size (CoI w.heap.size w.heap.size w) := CoI.abide (by omega) (by omega)
  have hseq := worlds_stops n h1 h4 2 A0 (fun _ => False) w5 b3 (fun _ h => h.elim)
  have h16 : 16 ^ n ≤ 65536 := by
    have hc : n = 1 ∨ n = 2 ∨ n = 3 ∨ n = 4 := by omega
    rcases hc with rfl | rfl | rfl | rfl <;> decide
  have H16 := Lib.hid h16
  clear hA0 hb5 b2 b3 h16
  refine (callsIn_wide (n := 3)).1 ?_
  refine callsIn_of_wp_marks Try.func72 rfl trivial ?_ rfl
  simp only [Try.ntmps72, List.size_toArray, List.length_cons, List.length_nil, Nat.reduceAdd, Nat.reduceSub, Array.replicate_succ, Array.replicate_zero, List.push_toArray, List.append_toArray, List.nil_append, List.cons_append]
  gi_wp2_with fail
  clear hw5
  refine wpIn_rangeFunc_sq (R := fun _ => False) (Hx := LstIn (wlL n) w5.heap.size) (S := LstAll (wlL n) w5.heap.size) (N := 16 ^ n) rfl (by omega) (gf := 73) (lb := #[.pointer (some ⟨A0, 0, none⟩)]) rfl trivial (enters_of Try.func73 (by kernel_rfl) rfl)
    hseq (fun _ h => h.elim) (fun x T => LstIn.stays x T) (fun xs T => LstAll.stays xs T) (Below.refl _ _) (fun _ => rfl)
    (CoI w.heap.size w.heap.size w) hIa hI0
    (fun x => { tmps := #[.slice none 0 0, .func (.func 73) #[] #[.pointer (some ⟨A0, 0, none⟩)], .pointer (some ⟨w.heap.size, 0, none⟩), undef, .slice none 0 0, x.v, .func (.func 73) #[] #[.pointer (some ⟨A0, 0, none⟩)], x.v, undef, undef, undef, undef, undef], defers := [] })
    ?assign ?body ?done
  case assign =>
    intro l x W K hK
    dsimp only [encL]
    gi_wp2_with fail
    exact hK
  case body =>
    rintro l pre x T W hI hlen hx hTl
    obtain ⟨v, hv, hrow, hap⟩ := hI.box
    have hcell := hv.cell
    have hfz := hv.frozen
    have hxf := hx.1.form (wl_len _ hx.2) h1
    have HI2 := Lib.hid hI; have HV := Lib.hid hv; have HAP := Lib.hid hap; have HTL := Lib.hid hTl
    have HSZ := Lib.hid hI.bel.size
    have HRW := Lib.hid hrow
    clear hI hap hTl hv
    obtain ⟨xv, xL⟩ := x
    obtain ⟨hxv, _⟩ := hxf
    dsimp only at hxv
    obtain ⟨gx, hgx⟩ : ∃ gx, (Lst.g ⟨xv, xL⟩) = gx := ⟨_, rfl⟩
    obtain ⟨cx, hcx⟩ : ∃ cx, (Lst.c ⟨xv, xL⟩) = cx := ⟨_, rfl⟩
    rw [hgx, hcx] at hxv
    clear hx hgx hcx
    subst hxv
    have k1 := Lib.hid (fun (j : Nat) (u : Value) (h : [Value.slice (some ⟨gx, 0, none⟩) n cx][j]? = some u) => cell_one_new W (.slice (some ⟨gx, 0, none⟩) n cx) 23 j u h)
    have k2 : Hid (∀ u ∈ [Value.slice (some ⟨gx, 0, none⟩) n cx], u.oneCell' = true) := Lib.hid (by intro u hu; simp at hu; subst hu; rfl)
    have k3 : Hid (pre.length + 1 ≤ maxLen) := Lib.hid (by have := H16.out; unfold maxLen; omega)
    have k4 : Hid ((pre.length + 1) * 24 ≤ 140737488355328) := Lib.hid (by have := H16.out; omega)
    have k5 : Hid (w.heap.size ≤ (W.alloc (.cells #[.slice (some ⟨gx, 0, none⟩) n cx] 23)).heap.size) := Lib.hid (by rw [alloc_size]; have := HSZ.out; omega)
    clear hrow hlen
    gi_wp2_with (gi_at_builtin; refine wpListIn_append_own_at _ rfl (.tmp 8) (.tmp 10) 29 rfl w.heap.size 23 i0 (.slice none 0 0) 1 24 Try.underlying29 hii hz0 hz1 hz2 rfl (by decide) _ _ _ rfl (HRW.out.alloc _) ⟨W.heap.size, 0, none⟩ 1 1 [.slice (some ⟨gx, 0, none⟩) n cx] rfl rfl k1.out k2.out k3.out k4.out k5.out ?_)
    intro v' w6 hown' hgrow _ hat
    obtain ⟨g', cap', rfl⟩ := ownsRow_succ hown'
    obtain ⟨hv1, hk2, hT2, hI2⟩ := HI2.out.more ⟨.slice (some ⟨gx, 0, none⟩) n cx, xL⟩ HV.out HRW.out HAP.out hown' hgrow hat HSZ.out (Nat.le_refl _)
    have hc1 := hv1.cell
    have hf1 := hv1.frozen
    have HK2 := Lib.hid hk2; have HT2 := Lib.hid hT2; have HI3 := Lib.hid hI2
    clear hv1 hk2 hT2 hI2 hown' hgrow hat
    gi_wp2_with fail
    exact ⟨HK2.out.from _, fun k hk => HT2.out k (.inl hk), HI3.out⟩
  case done =>
    rintro D xs T W hD hall hI hTl hnT hK
    obtain ⟨v, hv, hsh⟩ := hI.ships hall (by have := HZ5.out; omega) h1 wl_len
    have hcell := hv.cell
    have HB := Lib.hid hI.bel; have HSH2 := Lib.hid hsh
    clear hv hsh hI hall hTl
    gi_wp2_with fail
    refine ⟨by simp, .inl ⟨_, _, rfl, run_takeDeferred hK, ?_⟩⟩
    refine ⟨_, results_tmp rfl _ _ _, _, xs.map (fun x => (x.g, x.c)), rfl, ?_, ?_⟩
    · exact HSH2.out.put _ hK rfl
    · exact HB.out.trans (belowK_b (n₀ := w.heap.size) (w := w5) (by have := HZ5.out; omega) W D _ (.deferred none) hD hK rfl rfl)

theorem collect_any (A0 n : Nat) (h1 : 1 ≤ n) (h4 : n ≤ 4) (w : World) (hA0 : Boxed w A0 3 (.int .i64 (n : Int))) :
    Calls Try.prog 50 #[.func (.func 73) #[] #[.pointer (some ⟨A0, 0, none⟩)]] w (RowsGive n (wlL n) w) := by
  have HB := Lib.hid hA0; clear hA0
  go_enter Try.func50, Try.ntmps50
  go_wp2_with fail
  refine (appendSeq_any A0 n h1 h4 w HB.out).mono ?_
  rintro e w1 ⟨v, rs, rfl, hs, hb⟩
  have HS := Lib.hid hs; have HB1 := Lib.hid hb
  obtain ⟨a, c, hv⟩ : ∃ a c, v = .slice a (wlL n).length c := by
    rcases hs.own.2 with ⟨e1, e2⟩ | ⟨g, cap, cur, e1, _⟩
    · exact ⟨none, 0, by rw [e2]; exact e1⟩
    · exact ⟨_, _, e1⟩
  subst hv
  clear hs hb
  go_wp2_with fail
  go_ret
  exact ⟨_, rs, rfl, HS.out, HB1.out⟩
/-- the answer of WorldsOf -/
def wsL (t : Int) : List (List Int) := if 1 ≤ t ∧ t ≤ 3 then wlL t.toNat else []
theorem Ships.empty (w : World) (B n : Nat) : Ships w B n (.slice none 0 0) [] [] := ⟨World.ownsRow_nil _ _ _ _, (fun i hi => by cases hi), List.nodup_nil, (fun r hr => by cases hr)⟩
theorem WorldsOf_no (t : Int) (h : ¬ (1 ≤ t ∧ t ≤ 3)) (w : World) :
    Calls Try.prog 17 #[.int .i64 t] w fun e w' => e = .returned (.slice none 0 0) ∧ w = w' := by
  by_cases h1 : t < 1
  · clear h
    go_enter Try.func17, Try.ntmps17
    go_wp2_with fail
    go_ret
    exact ⟨rfl, rfl⟩
  · have h3 : 3 < t := by omega
    clear h
    go_enter Try.func17, Try.ntmps17
    go_wp2_with fail
    go_ret
    exact ⟨rfl, rfl⟩
theorem WorldsOf_in (n : Nat) (h1 : 1 ≤ n) (h3 : n ≤ 3) (w : World) :
    Calls Try.prog 17 #[.int .i64 (n : Int)] w (RowsGive n (wlL n) w) := by
  have g1 : ¬ ((n : Int) < 1) := by omega
  have g3 : ¬ (3 < (n : Int)) := by omega
  have hb := alloc_below w (.cells #[.int .i64 (n : Int)] 3)
  have hbx := Boxed.new w 3 (.int .i64 (n : Int))
  obtain ⟨w1, hw1⟩ : ∃ w1, w.alloc (.cells #[.int .i64 (n : Int)] 3) = w1 := ⟨_, rfl⟩
  rw [hw1] at hb hbx
  have HB := Lib.hid hb; have HBX := Lib.hid hbx; have HW1 := Lib.hid hw1
  clear hb hbx hw1
  go_enter Try.func17, Try.ntmps17
  go_wp2_with fail
  refine (worldsInOrder_any _ w).mono ?_
  rintro e w' ⟨rfl, rfl⟩
  rw [HW1.out]
  go_wp2_with fail
  refine (collect_any w.heap.size n h1 (by omega) w1 HBX.out).mono ?_
  rintro e w2 ⟨v, rs, rfl, hs, hb2⟩
  have hs1 := HB.out.size
  have hsh : Ships w2 w.heap.size n v (wlL n) rs := ⟨ownsRow_base' hs.own hs1, fun i hi => ⟨(hs.row i hi).1.base hs1, (hs.row i hi).2⟩, hs.dis, hs.apart⟩
  have HS := Lib.hid hsh; have HB2 := Lib.hid (HB.out.trans (hb2.mono hs1))
  obtain ⟨a, c, hv⟩ : ∃ a c, v = .slice a (wlL n).length c := by
    rcases hs.own.2 with ⟨e1, e2⟩ | ⟨g, cap, cur, e1, _⟩
    · exact ⟨none, 0, by rw [e2]; exact e1⟩
    · exact ⟨_, _, e1⟩
  subst hv
  clear hs hb2 hsh
  go_wp2_with fail
  go_ret
  exact ⟨_, rs, rfl, HS.out, HB2.out⟩
end Go.Proofs.Ytglnefffkcillaa
