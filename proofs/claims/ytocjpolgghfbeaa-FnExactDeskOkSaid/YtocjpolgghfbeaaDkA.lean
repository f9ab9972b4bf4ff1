import Derived.Test.YtocjpolgghfbeaaOwnX
import Derived.Test.YtocjpolgghfbeaaDkM
import Derived.Test.YtocjpolgghfbeaaHeldX
import Derived.RangeFuncBox
namespace Go.Proofs.Ytocjpolgghfbeaa
set_option linter.unusedVariables false
set_option linter.unusedSimpArgs false
open Go.RowKit Go.Maps

theorem famL_get {xs : List Int} : rowL (fun i => xs.getD i 0) xs.length = xs := by
  apply List.ext_getElem?
  intro i
  unfold rowL
  by_cases hi : i < xs.length
  · rw [List.getElem?_map, List.getElem?_range hi, List.getElem?_eq_getElem hi]; show some (xs.getD i 0) = _; rw [List.getD_eq_getElem?_getD, List.getElem?_eq_getElem hi]; rfl
  · rw [List.getElem?_eq_none (by simp; omega), List.getElem?_eq_none (by omega)]

/-- a family in memory: where it lies, and its sets -/
structure Fr where
  g : Nat
  c : Nat
  xs : List Int
def Fr.v (x : Fr) : Value := .slice (some ⟨x.g, 0, none⟩) x.xs.length x.c
theorem Fr.block (x : Fr) : x.v.ownBlock = some x.g := rfl

/-- a slice that holds these values -/
def Seq (w : World) (B : Nat) (v : Value) (us : List Value) : Prop :=
  (us = [] ∧ ∃ a c, v = .slice a 0 c ∧ ∀ g, v.ownBlock = some g → B ≤ g ∧ g < w.heap.size) ∨
  ∃ g o c, v = .slice (some ⟨g, o, none⟩) us.length c ∧ us.length ≤ c ∧ c ≤ maxLen ∧ B ≤ g ∧ g < w.heap.size ∧ ∀ i u, us[i]? = some u → w.cell? ⟨g, o + i, none⟩ = some u
theorem Seq.slice {w : World} {B : Nat} {v : Value} {us : List Value} (h : Seq w B v us) : ∃ a c, v = .slice a us.length c := by
  rcases h with ⟨rfl, a, c, rfl, _⟩ | ⟨g, o, c, rfl, _⟩
  · exact ⟨a, c, rfl⟩
  · exact ⟨_, c, rfl⟩
theorem Seq.lt {w : World} {B : Nat} {v : Value} {us : List Value} (h : Seq w B v us) : ∀ g, v.ownBlock = some g → B ≤ g ∧ g < w.heap.size := by
  rcases h with ⟨rfl, a, c, rfl, h⟩ | ⟨g, o, c, rfl, _, _, h1, h2, _⟩
  · exact h
  · intro g' hg
    simp [Value.ownBlock] at hg
    subst hg
    exact ⟨h1, h2⟩
theorem Seq.same {w w' : World} {B : Nat} {v : Value} {us : List Value} (h : Seq w B v us) (hs : w.heap.size ≤ w'.heap.size) (hb : ∀ g, v.ownBlock = some g → w'.heap[g]? = w.heap[g]?) : Seq w' B v us := by
  rcases h with ⟨rfl, a, c, rfl, h⟩ | ⟨g, o, c, rfl, h0, hm, h1, h2, h3⟩
  · exact .inl ⟨rfl, a, c, rfl, fun g hg => by have := h g hg; omega⟩
  · exact .inr ⟨g, o, c, rfl, h0, hm, h1, by omega, fun i u hu => (World.cell?_of_block (hb g rfl)).trans (h3 i u hu)⟩
theorem Seq.base {w : World} {B B' : Nat} {v : Value} {us : List Value} (h : Seq w B v us) (hB : B' ≤ B) : Seq w B' v us := by
  rcases h with ⟨rfl, a, c, rfl, h⟩ | ⟨g, o, c, rfl, h0, hm, h1, h2, h3⟩
  · exact .inl ⟨rfl, a, c, rfl, fun g hg => by have := h g hg; omega⟩
  · exact .inr ⟨g, o, c, rfl, h0, hm, by omega, h2, h3⟩
theorem seq_of {w : World} {B n : Nat} {e : TypeId} {v : Value} {us : List Value} (h : w.ownsRow B e 1 v n us) : Seq w B v us := by
  have hlt := World.ownsRow.lt h
  have h' := h
  obtain ⟨h3, h4⟩ := h
  rw [Nat.mul_one] at h3
  rcases h4 with ⟨rfl, h4⟩ | ⟨g, cap, cur, hv, hB, hg, hc, hm, hs, ht⟩
  · subst h4
    have : us = [] := List.eq_nil_of_length_eq_zero h3
    subst this
    exact .inl ⟨rfl, none, 0, rfl, fun g hg => by simp [Value.ownBlock] at hg⟩
  · subst hv
    rw [← h3] at hc ⊢
    refine .inr ⟨g, 0, cap, rfl, hc, hm, hB, (hlt g rfl).2, fun i u hu => ?_⟩
    have hi : i < us.length := (List.getElem?_eq_some_iff.1 hu).1
    rw [Nat.zero_add, h'.cellAt i (by omega)]
    exact hu

/-- families in slices of one's own -/
structure Fams (w : World) (B : Nat) (v : Value) (rs : List Fr) : Prop where
  seq : Seq w B v (rs.map Fr.v)
  row : ∀ r ∈ rs, OwnX w B 3 r.v r.xs
  dis : (rs.map Fr.g).Nodup
  apart : ∀ r ∈ rs, v.ownBlock ≠ some r.g
theorem Fams.lt {w : World} {B : Nat} {v : Value} {rs : List Fr} (h : Fams w B v rs) : ∀ r ∈ rs, B ≤ r.g ∧ r.g < w.heap.size := fun r hr => World.ownsRow.lt (h.row r hr) _ rfl
/-- the blocks of families -/
def FB (v : Value) (rs : List Fr) (g : Nat) : Prop := v.ownBlock = some g ∨ ∃ r ∈ rs, r.g = g
theorem Fams.ltB {w : World} {B : Nat} {v : Value} {rs : List Fr} (h : Fams w B v rs) : ∀ g, FB v rs g → B ≤ g ∧ g < w.heap.size := by
  rintro g (hg | ⟨r, hr, rfl⟩)
  · exact h.seq.lt g hg
  · exact h.lt r hr
theorem OwnX.blk {w w' : World} {B : Nat} {x : Fr} (h : OwnX w B 3 x.v x.xs) (hb : w'.heap[x.g]? = w.heap[x.g]?) : OwnX w' B 3 x.v x.xs :=
  h.other (fun gg hg _ _ => by rw [Fr.block] at hg; cases hg; exact hb)
theorem Fams.same {w w' : World} {B : Nat} {v : Value} {rs : List Fr} (h : Fams w B v rs) (hs : w.heap.size ≤ w'.heap.size) (hb : ∀ g, FB v rs g → w'.heap[g]? = w.heap[g]?) : Fams w' B v rs :=
  ⟨h.seq.same hs (fun g hg => hb g (.inl hg)), fun r hr => (h.row r hr).blk (hb _ (.inr ⟨r, hr, rfl⟩)), h.dis, h.apart⟩
theorem Fams.kept {w w' : World} {B : Nat} {v : Value} {rs : List Fr} (h : Fams w B v rs) (hb : Below w.heap.size w w') : Fams w' B v rs :=
  h.same hb.size (fun g hg => hb.block g (h.ltB g hg).2)
theorem Fams.base {w : World} {B B' : Nat} {v : Value} {rs : List Fr} (h : Fams w B v rs) (hB : B' ≤ B) : Fams w B' v rs := ⟨h.seq.base hB, fun r hr => (h.row r hr).base hB, h.dis, h.apart⟩
theorem Fams.none (w : World) (B c : Nat) : Fams w B (.slice none 0 c) [] := ⟨.inl ⟨rfl, _, c, rfl, fun g hg => by simp [Value.ownBlock] at hg⟩, fun r hr => (by cases hr), List.nodup_nil, fun r hr => (by cases hr)⟩

/-- the same, in a slice that can be appended to -/
structure FamsO (w : World) (B : Nat) (v : Value) (rs : List Fr) : Prop where
  own : w.ownsRow B 23 1 v rs.length (rs.map Fr.v)
  row : ∀ r ∈ rs, OwnX w B 3 r.v r.xs
  dis : (rs.map Fr.g).Nodup
  apart : ∀ r ∈ rs, v.ownBlock ≠ some r.g
theorem FamsO.fams {w : World} {B : Nat} {v : Value} {rs : List Fr} (h : FamsO w B v rs) : Fams w B v rs := ⟨seq_of h.own, h.row, h.dis, h.apart⟩
theorem FamsO.nil (w : World) (B : Nat) : FamsO w B (.slice none 0 0) [] := ⟨World.ownsRow_nil _ _ _ _, fun r hr => (by cases hr), List.nodup_nil, fun r hr => (by cases hr)⟩
theorem ownsRow_kept {w w' : World} {B n : Nat} {e : TypeId} {v : Value} {xs : List Value} (h : w.ownsRow B e 1 v n xs) (hb : ∀ g, v.ownBlock = some g → w'.heap[g]? = w.heap[g]?) : w'.ownsRow B e 1 v n xs := by
  obtain ⟨h3, h4⟩ := h
  refine ⟨h3, ?_⟩
  rcases h4 with h4 | ⟨g, cap, cur, hv, hBg, hg, hr⟩
  · exact .inl h4
  · subst hv
    exact .inr ⟨g, cap, cur, rfl, hBg, (hb g rfl).trans hg, hr⟩
theorem FamsO.same {w w' : World} {B : Nat} {v : Value} {rs : List Fr} (h : FamsO w B v rs) (hb : ∀ g, FB v rs g → w'.heap[g]? = w.heap[g]?) : FamsO w' B v rs :=
  ⟨ownsRow_kept h.own (fun g hg => hb g (.inl hg)), fun r hr => (h.row r hr).blk (hb _ (.inr ⟨r, hr, rfl⟩)), h.dis, h.apart⟩
theorem FamsO.kept {w w' : World} {B : Nat} {v : Value} {rs : List Fr} (h : FamsO w B v rs) (hb : Below w.heap.size w w') : FamsO w' B v rs :=
  h.same (fun g hg => hb.block g (h.fams.ltB g hg).2)
theorem grown_blk {W w1 : World} {t : Obj} {row : Option Nat} (hg : (W.alloc t).grownBy w1 row) {k : Nat} (hk : k < W.heap.size) (hn : some k ≠ row) : w1.heap[k]? = W.heap[k]? :=
  (hg.block k (by rw [alloc_size]; omega) (fun e => hn e)).trans (Below.heap_alloc _ _ _ hk)
theorem FamsO.snoc {w w' : World} {B : Nat} {v v' : Value} {rs : List Fr} {tmp : Obj} {y : Fr} (h : FamsO w B v rs) (hl : OwnX w B 3 y.v y.xs)
    (hg : ∀ r ∈ rs, r.g ≠ y.g) (hv : v.ownBlock ≠ some y.g)
    (hown' : w'.ownsRow B 23 1 v' (rs.length + 1) (rs.map Fr.v ++ [y.v])) (hgrow : (w.alloc tmp).grownBy w' v.ownBlock) (hat : v'.ownBlock = v.ownBlock ∨ v'.ownBlock = some (w.heap.size + 1)) :
    FamsO w' B v' (rs ++ [y]) := by
  have hgl := World.ownsRow.lt hl y.g rfl
  refine ⟨?_, fun r hr => ?_, ?_, fun r hr e => ?_⟩
  · rw [List.length_append, List.map_append]; exact hown'
  · rcases List.mem_append.1 hr with hr | hr
    · exact (h.row r hr).blk (grown_blk hgrow (h.fams.lt r hr).2 (fun e => h.apart r hr e.symm))
    · rw [List.mem_singleton] at hr
      subst hr
      exact hl.blk (grown_blk hgrow hgl.2 (fun e => hv e.symm))
  · rw [List.map_append, List.nodup_append]
    refine ⟨h.dis, by simp, fun a ha b hb e => ?_⟩
    simp at hb
    subst hb; subst e
    obtain ⟨r, hr, e⟩ := List.mem_map.1 ha
    exact hg r hr e
  · rcases List.mem_append.1 hr with hr | hr
    · rcases hat with e2 | e2
      · rw [e2] at e; exact h.apart r hr e
      · rw [e2] at e
        have := (h.fams.lt r hr).2
        have e : w.heap.size + 1 = r.g := by simpa using e
        omega
    · rw [List.mem_singleton] at hr
      subst hr
      rcases hat with e2 | e2
      · rw [e2] at e; exact hv e
      · rw [e2] at e
        have e : w.heap.size + 1 = r.g := by simpa using e
        have := hgl.2
        omega

/-- lists of numbers that can be read, as cells of a row -/
def NestAt (w : World) (bk o : Nat) (L : List (List Int)) : Prop :=
  ∀ i (hi : i < L.length), ∃ a c, w.cell? ⟨bk, o + i, none⟩ = some (.slice a (L[i]).length c) ∧ (L[i]).length ≤ c ∧ Ints w a (L[i]).length (fun j => (L[i]).getD j 0)
/-- a slice of lists that can be read -/
def Nest (w : World) (b : Option Addr) (L : List (List Int)) : Prop := L.length ≤ 9223372036854775807 ∧ (L.length = 0 ∨ ∃ bk o, b = some ⟨bk, o, none⟩ ∧ bk < w.heap.size ∧ NestAt w bk o L)
theorem NestAt.kept {w w' : World} {bk o : Nat} {L : List (List Int)} (h : NestAt w bk o L) (hb : Below w.heap.size w w') (hl : bk < w.heap.size) : NestAt w' bk o L := fun i hi => by
  obtain ⟨a, c, h1, h2, h3⟩ := h i hi
  exact ⟨a, c, (hb.cell (p := ⟨bk, o + i, none⟩) hl).trans h1, h2, h3.below hb (Nat.le_refl _)⟩
theorem Nest.kept {w w' : World} {b : Option Addr} {L : List (List Int)} (h : Nest w b L) (hb : Below w.heap.size w w') : Nest w' b L := by
  obtain ⟨h1, h2⟩ := h
  refine ⟨h1, ?_⟩
  rcases h2 with h2 | ⟨bk, o, e, hl, hr⟩
  · exact .inl h2
  · exact .inr ⟨bk, o, e, Nat.lt_of_lt_of_le hl hb.size, hr.kept hb hl⟩
/-- a desk that can be read -/
structure DeskR (w : World) (d : Value) (xs : List Int) (L : List (List Int)) : Prop where
  eq : ∃ a c b c2, d = .agg #[.slice a xs.length c, .slice b L.length c2] ∧ xs.length ≤ c ∧ L.length ≤ c2 ∧ Ints w a xs.length (fun j => xs.getD j 0) ∧ Nest w b L
theorem DeskR.kept {w w' : World} {d : Value} {xs : List Int} {L : List (List Int)} (h : DeskR w d xs L) (hb : Below w.heap.size w w') : DeskR w' d xs L := by
  obtain ⟨a, c, b, c2, e, h1, h2, h3, h4⟩ := h
  exact ⟨⟨a, c, b, c2, e, h1, h2, h3.below hb (Nat.le_refl _), h4.kept hb⟩⟩
/-- a desk of one's own -/
structure DeskG (w : World) (B : Nat) (v1 v2 : Value) (xs : List Int) (rs : List Fr) : Prop where
  now : OwnX w B 3 v1 xs
  past : Fams w B v2 rs
  sep : ∀ g, v1.ownBlock = some g → ¬ FB v2 rs g
/-- numbers that int has -/
def I64s (xs : List Int) : Prop := ∀ x ∈ xs, I64 x
theorem DeskG.kept {w w' : World} {B : Nat} {v1 v2 : Value} {xs : List Int} {rs : List Fr} (h : DeskG w B v1 v2 xs rs) (hb : Below w.heap.size w w') : DeskG w' B v1 v2 xs rs := ⟨h.now.kept hb, h.past.kept hb, h.sep⟩
theorem DeskG.base {w : World} {B B' : Nat} {v1 v2 : Value} {xs : List Int} {rs : List Fr} (h : DeskG w B v1 v2 xs rs) (hB : B' ≤ B) : DeskG w B' v1 v2 xs rs := ⟨h.now.base hB, h.past.base hB, h.sep⟩
theorem OwnX.intsR {w : World} {B : Nat} {v : Value} {xs : List Int} (h : OwnX w B 3 v xs) (hl : xs.length ≤ 9223372036854775807) (h64 : I64s xs) : ∃ a c, v = .slice a xs.length c ∧ xs.length ≤ c ∧ Ints w a xs.length (fun j => xs.getD j 0) := by
  by_cases h0 : xs.length = 0
  · obtain ⟨a, c, rfl⟩ := h.slice
    exact ⟨a, c, rfl, by omega, ⟨hl, fun i hi => absurd hi (by omega)⟩, .inl h0⟩
  · obtain ⟨g, c, rfl, _, h2, h3, _, h4, _⟩ := h.shape (by omega)
    exact ⟨_, c, rfl, h3, ⟨hl, fun i hi => h64 _ (getD_mem hi)⟩, .inr ⟨g, 0, rfl, h2, h4⟩⟩
theorem Fams.nest {w : World} {B : Nat} {v : Value} {rs : List Fr} (h : Fams w B v rs) (hl : ∀ r ∈ rs, r.xs.length ≤ 9223372036854775807 ∧ I64s r.xs) : ∃ b c, v = .slice b (rs.map Fr.xs).length c ∧ (rs.map Fr.xs).length ≤ c ∧ Nest w b (rs.map Fr.xs) := by
  have hs := h.seq
  rcases hs with ⟨e, a, c, rfl, _⟩ | ⟨g, o, c, rfl, h0, hm, _, h2, h3⟩
  · have : rs = [] := List.map_eq_nil_iff.1 e
    subst this
    exact ⟨a, c, rfl, Nat.zero_le _, by simp, .inl rfl⟩
  · rw [List.length_map] at h0 ⊢
    rw [List.length_map]
    unfold maxLen at hm
    refine ⟨_, c, rfl, h0, by rw [List.length_map]; omega, .inr ⟨g, o, rfl, h2, fun i hi => ?_⟩⟩
    rw [List.length_map] at hi
    have hr : rs[i] ∈ rs := List.getElem_mem hi
    have hc := h3 i (rs[i]).v (by rw [List.getElem?_map, List.getElem?_eq_getElem hi]; rfl)
    rw [List.getElem_map]
    obtain ⟨a, c2, e1, e2, e3⟩ := (h.row _ hr).intsR (hl _ hr).1 (hl _ hr).2
    exact ⟨a, c2, by rw [hc, e1], e2, e3⟩
theorem DeskG.read {w : World} {B : Nat} {v1 v2 : Value} {xs : List Int} {rs : List Fr} (h : DeskG w B v1 v2 xs rs) (h1 : xs.length ≤ 9223372036854775807 ∧ I64s xs) (hl : ∀ r ∈ rs, r.xs.length ≤ 9223372036854775807 ∧ I64s r.xs) : DeskR w (.agg #[v1, v2]) xs (rs.map Fr.xs) := by
  obtain ⟨a, c, rfl, e1, e2⟩ := h.now.intsR h1.1 h1.2
  obtain ⟨b, c2, rfl, e3, e4⟩ := h.past.nest hl
  exact ⟨⟨a, c, b, c2, rfl, e1, e3, e2, e4⟩⟩
/-- what a function that hands a desk back gives -/
def GivesD (xs : List Int) (L : List (List Int)) (w w' : World) (v1 v2 : Value) : Prop := ∃ rs, DeskG w' w.heap.size v1 v2 xs rs ∧ rs.map Fr.xs = L ∧ Below w.heap.size w w'
end Go.Proofs.Ytocjpolgghfbeaa
