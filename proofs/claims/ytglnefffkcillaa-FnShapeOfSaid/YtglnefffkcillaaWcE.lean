import Derived.Test.YtglnefffkcillaaWcD
namespace Go.Proofs.Ytglnefffkcillaa
set_option linter.unusedVariables false
set_option linter.unusedSimpArgs false
open Go.RowKit Go.Maps
attribute [local go_sem] Oper.semAt_some

theorem drew_onto {W w' : World} (h : Below W.drew.heap.size W.drew w') : Below W.heap.size W w' := (below_drewN (Below.refl _ W) 1).trans h

theorem rowL_self (L : List Int) : rowL (fun i => L.getD i 0) L.length = L := by
  apply List.ext_getElem?
  intro i
  unfold rowL
  rw [List.getElem?_map]
  by_cases h : i < L.length
  · rw [List.getElem?_range h, List.getElem?_eq_getElem h]
    simp [h]
  · rw [List.getElem?_eq_none (by simp; omega), List.getElem?_eq_none (by omega)]; rfl

/-- behind one more yield of a round -/
def PostS (C : List Int → List Int) (B : Nat) (R : Nat → Prop) (J : List Lst → (Nat → Prop) → World → Prop) (W W2 W4 : World) (pre : List Lst) (L : List Int) (Ti T4 : Nat → Prop) (j : Nat) (w9 : World) : Prop :=
  ∃ outs T, ItK (flC C pre ++ ((C L).take j).map (fun y => L ++ [y])) B R J W W2 outs Ti T w9 ∧ ∀ i, T4 i → T i ∧ w9.heap[i]? = W4.heap[i]?

set_option maxRecDepth 100000 in
set_option maxHeartbeats 8000000 in
/-- the lists are joined, and handed on -/
theorem joined_in (l k B M j n c cC N : Nat) (a : Option Addr) (C : List Int → List Int) (R : Nat → Prop) (J : List Lst → (Nat → Prop) → World → Prop) (W W2 W4 wr : World) (pre : List Lst) (L : List Int) (Ti T4 : Nat → Prop) (y : Int)
    (hJ : AbideQ W.heap.size J) (hRl : ∀ i, R i → i < W.heap.size) (h02 : W.heap.size + 3 = W2.heap.size) (hB : B ≤ W.heap.size) (hm : ∀ L, (C L).length ≤ M) (hpre : pre.length < M ^ k) (hn : L.length = n) (hn50 : n ≤ 50)
    (hL : L ∈ llK C k) (hj : j < (C L).length) (hy : (C L).getD j 0 = y)
    (hx : LstAt W2.heap.size ⟨.slice a n c, L⟩ T4 W4) (h4 : W2.heap.size + 2 ≤ W4.heap.size) (hyc : W2.cell? ⟨W.heap.size, 0, none⟩ = some (.func (.yield l) #[] #[]))
    (hY : ∀ pre x T W1, J pre T W1 → pre.length < M ^ (k + 1) → LstIn (llK C (k + 1)) B x T W1 → YieldAt Fence.wide N Try.prog l (encL x) W1 fun e W' =>
      e = .returned (.bool true) ∧ J (pre ++ [x]) T W' ∧ W1.heap.size ≤ W'.heap.size ∧ ∀ k, T k ∨ R k → W'.heap[k]? = W1.heap[k]?)
    (hI : PostS C B R J W W2 W4 pre L Ti T4 j wr) (h4r : W4.heap.size ≤ wr.heap.size) (h4t : ∀ i, Ti i → i < W4.heap.size) :
    Calls Try.prog 88 #[.slice (some ⟨wr.heap.size + 1, 0, none⟩) 2 2] ((wr.drew.alloc (.cells #[.int .i64 y] 3)).alloc (.cells #[.slice a n c, .slice (some ⟨wr.heap.size, 0, none⟩) 1 1] 23)) fun e w7 =>
      ∃ g c7, e = .returned (.slice (some ⟨g, 0, none⟩) (n + 1) c7) ∧ w7.cell? ⟨W.heap.size, 0, none⟩ = some (.func (.yield l) #[] #[]) ∧ YieldAt Fence.wide 1 Try.prog l #[.slice (some ⟨g, 0, none⟩) (n + 1) c7] w7 fun e w9 =>
        e = .returned (.bool true) ∧ PostS C B R J W W2 W4 pre L Ti T4 (j + 1) w9 ∧ wr.heap.size ≤ w9.heap.size := by
  obtain ⟨outs, T, hK, hT4⟩ := hI
  obtain ⟨w8, hw8⟩ : ∃ w8, (wr.drew.alloc (.cells #[.int .i64 y] 3)).alloc (.cells #[.slice a n c, .slice (some ⟨wr.heap.size, 0, none⟩) 1 1] 23) = w8 := ⟨_, rfl⟩
  have q1 := alloc_below wr.drew (.cells #[.int .i64 y] 3)
  have q2 := alloc_below (wr.drew.alloc (.cells #[.int .i64 y] 3)) (.cells #[.slice a n c, .slice (some ⟨wr.heap.size, 0, none⟩) 1 1] 23)
  have hb8 : Below wr.heap.size wr w8 := hw8 ▸ drew_onto (below_onto q1 q2)
  have hz8 : w8.heap.size = wr.heap.size + 2 := by rw [← hw8, alloc_size, alloc_size]; rfl
  have hS : Blk2 w8 (wr.heap.size + 1) 23 (.slice a n c) (.slice (some ⟨wr.heap.size, 0, none⟩) 1 1) := by
    have := Blk2.new (wr.drew.alloc (.cells #[.int .i64 y] 3)) 23 (.slice a n c) (.slice (some ⟨wr.heap.size, 0, none⟩) 1 1)
    rw [hw8, alloc_size] at this
    exact this
  have hyr : Row w8 wr.heap.size 0 1 (fun _ => y) := by
    intro i hi
    have h1 := (Boxed.new wr.drew 3 (.int .i64 y))
    have h2 := (h1.alloc (.cells #[.slice a n c, .slice (some ⟨wr.heap.size, 0, none⟩) 1 1] 23)).cell
    rw [hw8] at h2
    rw [show 0 + i = 0 by omega]
    exact h2
  have hI64 : I64 y → True := fun _ => trivial
  have hCC : Calls Try.prog 88 #[.slice (some ⟨wr.heap.size + 1, 0, none⟩) 2 2] w8 (Gives 3 (L ++ [y]) w8) := by
    have hx9 : LstAt W2.heap.size ⟨.slice a n c, L⟩ T wr := hx.moved (fun i hi => (hT4 i hi).1) (fun g hg => (hT4 g (hx.2.2 g hg)).2)
    have hx8 := hx9.1.kept hb8
    by_cases h0 : L.length = 0
    · have hLn : L = [] := List.length_eq_zero_iff.1 h0
      have := hx.2.1 hLn
      simp only [Value.slice.injEq] at this
      obtain ⟨rfl, rfl, rfl⟩ := this
      subst hLn
      exact concat_nil _ _ _ _ _ hS hyr (by omega)
    · obtain ⟨g, cap, hv, _, hgl, _, _, hr, _⟩ := hx8.shape (by show 1 ≤ L.length; omega)
      simp only [Value.slice.injEq] at hv
      obtain ⟨rfl, rfl, rfl⟩ := hv
      have hL2 := rowL_self L
      have := concat_row _ g wr.heap.size 0 L.length c 1 (fun i => L.getD i 0) y (by omega) hn50 w8 hS hyr (by omega) hr hgl
      rw [hL2] at this
      exact this
  rw [hw8]
  refine hCC.mono ?_
  rintro e w7 ⟨v7, rfl, ho7, hb7⟩
  obtain ⟨g, c7, rfl, hg8, hgl7, _, _, _, _⟩ := ho7.shape (by simp)
  have hb9 : Below wr.heap.size wr w7 := hb8.trans (hb7.mono (by omega))
  have hlen : (L ++ [y]).length = n + 1 := by simp [hn]
  rw [hlen] at ho7 ⊢
  have h2r : W2.heap.size ≤ wr.heap.size := by omega
  have hK7 := hK.grow hJ hRl (by omega) hb9
  refine ⟨g, c7, rfl, ?_, ?_⟩
  · rw [← hyc]
    exact World.cell?_of_block (hK7.own W.heap.size (Nat.le_refl _) (by omega)).2
  · have hmem : L ++ [y] ∈ llK C (k + 1) := by
      simp only [llK, List.mem_flatMap, List.mem_map]
      exact ⟨L, hL, y, by rw [← hy]; exact getD_mem hj, rfl⟩
    have hat : LstAt B ⟨.slice (some ⟨g, 0, none⟩) (n + 1) c7, L ++ [y]⟩ (TNew T wr w7) w7 := ⟨ho7.base (by omega), fun h => by simp at h, fun g' hg' => by
      simp [Value.ownBlock] at hg'
      subst hg'
      exact .inr ⟨by omega, hgl7⟩⟩
    have hol : outs.length < M ^ (k + 1) := by
      have h1 := hK.all.len
      have h2 := flC_len C M hm pre
      rw [List.length_append, List.length_map, List.length_take] at h1
      have h3 := hm L
      have h4 : (pre.length + 1) * M ≤ M ^ k * M := Nat.mul_le_mul_right _ (by omega)
      rw [Nat.pow_succ]
      rw [Nat.succ_mul] at h4
      omega
    refine (yield_any rfl 1 (hY outs ⟨.slice (some ⟨g, 0, none⟩) (n + 1) c7, L ++ [y]⟩ _ w7 hK7.j hol ⟨hat, hmem⟩)).mono ?_
    rintro e w9 ⟨rfl, hj9, hs9, hk9⟩
    refine ⟨rfl, ⟨outs ++ [⟨.slice (some ⟨g, 0, none⟩) (n + 1) c7, L ++ [y]⟩], TNew T wr w7, ?_, ?_⟩, Nat.le_trans hb9.size hs9⟩
    · have hn9 := hK7.next hat (fun x hx g' hg' e => ?_) (fun g' hg' hTi => ?_) hj9 hs9 hk9 (fun i h1 h2 => by have := hb9.size; omega)
      · have e1 : flC C pre ++ ((C L).take (j + 1)).map (fun y => L ++ [y]) = flC C pre ++ ((C L).take j).map (fun y => L ++ [y]) ++ [L ++ [y]] := by
          rw [take_next hj, List.map_append, hy, List.append_assoc]; rfl
        rw [e1]
        exact hn9
      · simp [Value.ownBlock] at e
        subst e
        have := ((hK.all.2.2 x hx).lt hg').2
        omega
      · simp [Value.ownBlock] at hg'
        subst hg'
        have := h4t _ hTi
        omega
    · intro i hi
      obtain ⟨h1, h2⟩ := hT4 i hi
      refine ⟨.inl h1, ?_⟩
      rw [hk9 i (.inl (.inl h1)), hb9.block i (hK.tl i h1).2]
      exact h2
end Go.Proofs.Ytglnefffkcillaa
