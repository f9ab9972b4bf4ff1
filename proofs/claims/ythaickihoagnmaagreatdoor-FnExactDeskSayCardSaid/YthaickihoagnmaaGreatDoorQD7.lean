import Derived.Test.YthaickihoagnmaaGreatDoorQD6
import Derived.RangeFuncBox
import Derived.Laws.ResultCell
import Derived.Laws.Rows
import Derived.Deep.RegionHeld3
import Derived.Deep.Matrix
import Derived.ChangeSlices
import Derived.Lib.SmallJoins
set_option linter.unusedVariables false
set_option linter.unusedSimpArgs false
set_option maxHeartbeats 12800000
namespace Go.Proofs.YthaickihoagnmaaGreatDoor
open Go.RowKit Go.Maps
theorem famL_get {xs : List Int} : rowL (fun i => xs.getD i 0) xs.length = xs := by
  apply List.ext_getElem?
  intro i
  unfold rowL
  by_cases hi : i < xs.length
  · rw [List.getElem?_map, List.getElem?_range hi, List.getElem?_eq_getElem hi]; show some (xs.getD i 0) = _; rw [List.getD_eq_getElem?_getD, List.getElem?_eq_getElem hi]; rfl
  · rw [List.getElem?_eq_none (by simp; omega), List.getElem?_eq_none (by omega)]
structure Fr where
  g : Nat
  c : Nat
  xs : List Int
def Fr.v (x : Fr) : Value := .slice (some ⟨x.g, 0, none⟩) x.xs.length x.c
theorem Fr.block (x : Fr) : x.v.ownBlock = some x.g := rfl
def Seq (w : World) (B : Nat) (v : Value) (us : List Value) : Prop :=
  (us = [] ∧ ∃ a c, v = .slice a 0 c ∧ ∀ g, v.ownBlock = some g → B ≤ g ∧ g < w.heap.size) ∨
  ∃ g o c, v = .slice (some ⟨g, o, none⟩) us.length c ∧ us.length ≤ c ∧ c ≤ maxLen ∧ B ≤ g ∧ g < w.heap.size ∧ ∀ i u, us[i]? = some u → w.cell? ⟨g, o + i, none⟩ = some u
theorem Seq.slice {w : World} {B : Nat} {v : Value} {us : List Value} (h : Seq w B v us) : ∃ a c, v = .slice a us.length c := by
  rcases h with ⟨rfl, a, c, rfl, _⟩ | ⟨g, o, c, rfl, _⟩
  · exact ⟨a, c, rfl⟩
  · exact ⟨_, c, rfl⟩
theorem Seq.lt {w : World} {B : Nat} {v : Value} {us : List Value} (h : Seq w B v us) : ∀ g, v.ownBlock = some g → B ≤ g ∧ g < w.heap.size := by
  rcases h with ⟨rfl, a, c, rfl, h⟩ | ⟨g, o, c, rfl, _, _, h1, h2, _⟩
  · exact h
  · intro g' hg
    simp [Value.ownBlock] at hg
    subst hg
    exact ⟨h1, h2⟩
theorem Seq.same {w w' : World} {B : Nat} {v : Value} {us : List Value} (h : Seq w B v us) (hs : w.heap.size ≤ w'.heap.size) (hb : ∀ g, v.ownBlock = some g → w'.heap[g]? = w.heap[g]?) : Seq w' B v us := by
  rcases h with ⟨rfl, a, c, rfl, h⟩ | ⟨g, o, c, rfl, h0, hm, h1, h2, h3⟩
  · exact .inl ⟨rfl, a, c, rfl, fun g hg => by have := h g hg; omega⟩
  · exact .inr ⟨g, o, c, rfl, h0, hm, h1, by omega, fun i u hu => (World.cell?_of_block (hb g rfl)).trans (h3 i u hu)⟩
theorem Seq.base {w : World} {B B' : Nat} {v : Value} {us : List Value} (h : Seq w B v us) (hB : B' ≤ B) : Seq w B' v us := by
  rcases h with ⟨rfl, a, c, rfl, h⟩ | ⟨g, o, c, rfl, h0, hm, h1, h2, h3⟩
  · exact .inl ⟨rfl, a, c, rfl, fun g hg => by have := h g hg; omega⟩
  · exact .inr ⟨g, o, c, rfl, h0, hm, by omega, h2, h3⟩
theorem seq_of {w : World} {B n : Nat} {e : TypeId} {v : Value} {us : List Value} (h : w.ownsRow B e 1 v n us) : Seq w B v us := by
  have hlt := World.ownsRow.lt h
  have h' := h
  obtain ⟨h3, h4⟩ := h
  rw [Nat.mul_one] at h3
  rcases h4 with ⟨rfl, h4⟩ | ⟨g, cap, cur, hv, hB, hg, hc, hm, hs, ht⟩
  · subst h4
    have : us = [] := List.eq_nil_of_length_eq_zero h3
    subst this
    exact .inl ⟨rfl, none, 0, rfl, fun g hg => by simp [Value.ownBlock] at hg⟩
  · subst hv
    rw [← h3] at hc ⊢
    refine .inr ⟨g, 0, cap, rfl, hc, hm, hB, (hlt g rfl).2, fun i u hu => ?_⟩
    have hi : i < us.length := (List.getElem?_eq_some_iff.1 hu).1
    rw [Nat.zero_add, h'.cellAt i (by omega)]
    exact hu
structure Fams (w : World) (B : Nat) (v : Value) (rs : List Fr) : Prop where
  seq : Seq w B v (rs.map Fr.v)
  row : ∀ r ∈ rs, OwnX w B 3 r.v r.xs
  dis : (rs.map Fr.g).Nodup
  apart : ∀ r ∈ rs, v.ownBlock ≠ some r.g
theorem Fams.lt {w : World} {B : Nat} {v : Value} {rs : List Fr} (h : Fams w B v rs) : ∀ r ∈ rs, B ≤ r.g ∧ r.g < w.heap.size := fun r hr => World.ownsRow.lt (h.row r hr) _ rfl
def FB (v : Value) (rs : List Fr) (g : Nat) : Prop := v.ownBlock = some g ∨ ∃ r ∈ rs, r.g = g
theorem Fams.ltB {w : World} {B : Nat} {v : Value} {rs : List Fr} (h : Fams w B v rs) : ∀ g, FB v rs g → B ≤ g ∧ g < w.heap.size := by
  rintro g (hg | ⟨r, hr, rfl⟩)
  · exact h.seq.lt g hg
  · exact h.lt r hr
theorem OwnX.blk {w w' : World} {B : Nat} {x : Fr} (h : OwnX w B 3 x.v x.xs) (hb : w'.heap[x.g]? = w.heap[x.g]?) : OwnX w' B 3 x.v x.xs :=
  h.other (fun gg hg _ _ => by rw [Fr.block] at hg; cases hg; exact hb)
theorem Fams.same {w w' : World} {B : Nat} {v : Value} {rs : List Fr} (h : Fams w B v rs) (hs : w.heap.size ≤ w'.heap.size) (hb : ∀ g, FB v rs g → w'.heap[g]? = w.heap[g]?) : Fams w' B v rs :=
  ⟨h.seq.same hs (fun g hg => hb g (.inl hg)), fun r hr => (h.row r hr).blk (hb _ (.inr ⟨r, hr, rfl⟩)), h.dis, h.apart⟩
theorem Fams.kept {w w' : World} {B : Nat} {v : Value} {rs : List Fr} (h : Fams w B v rs) (hb : Below w.heap.size w w') : Fams w' B v rs :=
  h.same hb.size (fun g hg => hb.block g (h.ltB g hg).2)
theorem Fams.base {w : World} {B B' : Nat} {v : Value} {rs : List Fr} (h : Fams w B v rs) (hB : B' ≤ B) : Fams w B' v rs := ⟨h.seq.base hB, fun r hr => (h.row r hr).base hB, h.dis, h.apart⟩
theorem Fams.none (w : World) (B c : Nat) : Fams w B (.slice none 0 c) [] := ⟨.inl ⟨rfl, _, c, rfl, fun g hg => by simp [Value.ownBlock] at hg⟩, fun r hr => (by cases hr), List.nodup_nil, fun r hr => (by cases hr)⟩
structure FamsO (w : World) (B : Nat) (v : Value) (rs : List Fr) : Prop where
  own : w.ownsRow B 28 1 v rs.length (rs.map Fr.v)
  row : ∀ r ∈ rs, OwnX w B 3 r.v r.xs
  dis : (rs.map Fr.g).Nodup
  apart : ∀ r ∈ rs, v.ownBlock ≠ some r.g
theorem FamsO.fams {w : World} {B : Nat} {v : Value} {rs : List Fr} (h : FamsO w B v rs) : Fams w B v rs := ⟨seq_of h.own, h.row, h.dis, h.apart⟩
theorem FamsO.nil (w : World) (B : Nat) : FamsO w B (.slice none 0 0) [] := ⟨World.ownsRow_nil _ _ _ _, fun r hr => (by cases hr), List.nodup_nil, fun r hr => (by cases hr)⟩
theorem ownsRow_kept {w w' : World} {B n : Nat} {e : TypeId} {v : Value} {xs : List Value} (h : w.ownsRow B e 1 v n xs) (hb : ∀ g, v.ownBlock = some g → w'.heap[g]? = w.heap[g]?) : w'.ownsRow B e 1 v n xs := by
  obtain ⟨h3, h4⟩ := h
  refine ⟨h3, ?_⟩
  rcases h4 with h4 | ⟨g, cap, cur, hv, hBg, hg, hr⟩
  · exact .inl h4
  · subst hv
    exact .inr ⟨g, cap, cur, rfl, hBg, (hb g rfl).trans hg, hr⟩
theorem FamsO.same {w w' : World} {B : Nat} {v : Value} {rs : List Fr} (h : FamsO w B v rs) (hb : ∀ g, FB v rs g → w'.heap[g]? = w.heap[g]?) : FamsO w' B v rs :=
  ⟨ownsRow_kept h.own (fun g hg => hb g (.inl hg)), fun r hr => (h.row r hr).blk (hb _ (.inr ⟨r, hr, rfl⟩)), h.dis, h.apart⟩
theorem FamsO.kept {w w' : World} {B : Nat} {v : Value} {rs : List Fr} (h : FamsO w B v rs) (hb : Below w.heap.size w w') : FamsO w' B v rs :=
  h.same (fun g hg => hb.block g (h.fams.ltB g hg).2)
theorem grown_blk {W w1 : World} {t : Obj} {row : Option Nat} (hg : (W.alloc t).grownBy w1 row) {k : Nat} (hk : k < W.heap.size) (hn : some k ≠ row) : w1.heap[k]? = W.heap[k]? :=
  (hg.block k (by rw [alloc_size]; omega) (fun e => hn e)).trans (Below.heap_alloc _ _ _ hk)
theorem FamsO.snoc {w w' : World} {B : Nat} {v v' : Value} {rs : List Fr} {tmp : Obj} {y : Fr} (h : FamsO w B v rs) (hl : OwnX w B 3 y.v y.xs)
    (hg : ∀ r ∈ rs, r.g ≠ y.g) (hv : v.ownBlock ≠ some y.g)
    (hown' : w'.ownsRow B 28 1 v' (rs.length + 1) (rs.map Fr.v ++ [y.v])) (hgrow : (w.alloc tmp).grownBy w' v.ownBlock) (hat : v'.ownBlock = v.ownBlock ∨ v'.ownBlock = some (w.heap.size + 1)) :
    FamsO w' B v' (rs ++ [y]) := by
  have hgl := World.ownsRow.lt hl y.g rfl
  refine ⟨?_, fun r hr => ?_, ?_, fun r hr e => ?_⟩
  · rw [List.length_append, List.map_append]; exact hown'
  · rcases List.mem_append.1 hr with hr | hr
    · exact (h.row r hr).blk (grown_blk hgrow (h.fams.lt r hr).2 (fun e => h.apart r hr e.symm))
    · rw [List.mem_singleton] at hr
      subst hr
      exact hl.blk (grown_blk hgrow hgl.2 (fun e => hv e.symm))
  · rw [List.map_append, List.nodup_append]
    refine ⟨h.dis, by simp, fun a ha b hb e => ?_⟩
    simp at hb
    subst hb; subst e
    obtain ⟨r, hr, e⟩ := List.mem_map.1 ha
    exact hg r hr e
  · rcases List.mem_append.1 hr with hr | hr
    · rcases hat with e2 | e2
      · rw [e2] at e; exact h.apart r hr e
      · rw [e2] at e
        have := (h.fams.lt r hr).2
        have e : w.heap.size + 1 = r.g := by simpa using e
        omega
    · rw [List.mem_singleton] at hr
      subst hr
      rcases hat with e2 | e2
      · rw [e2] at e; exact hv e
      · rw [e2] at e
        have e : w.heap.size + 1 = r.g := by simpa using e
        have := hgl.2
        omega
def NestAt (w : World) (bk o : Nat) (L : List (List Int)) : Prop :=
  ∀ i (hi : i < L.length), ∃ a c, w.cell? ⟨bk, o + i, none⟩ = some (.slice a (L[i]).length c) ∧ (L[i]).length ≤ c ∧ Ints w a (L[i]).length (fun j => (L[i]).getD j 0)
def Nest (w : World) (b : Option Addr) (L : List (List Int)) : Prop := L.length ≤ 9223372036854775807 ∧ (L.length = 0 ∨ ∃ bk o, b = some ⟨bk, o, none⟩ ∧ bk < w.heap.size ∧ NestAt w bk o L)
theorem NestAt.kept {w w' : World} {bk o : Nat} {L : List (List Int)} (h : NestAt w bk o L) (hb : Below w.heap.size w w') (hl : bk < w.heap.size) : NestAt w' bk o L := fun i hi => by
  obtain ⟨a, c, h1, h2, h3⟩ := h i hi
  exact ⟨a, c, (hb.cell (p := ⟨bk, o + i, none⟩) hl).trans h1, h2, h3.below hb (Nat.le_refl _)⟩
theorem Nest.kept {w w' : World} {b : Option Addr} {L : List (List Int)} (h : Nest w b L) (hb : Below w.heap.size w w') : Nest w' b L := by
  obtain ⟨h1, h2⟩ := h
  refine ⟨h1, ?_⟩
  rcases h2 with h2 | ⟨bk, o, e, hl, hr⟩
  · exact .inl h2
  · exact .inr ⟨bk, o, e, Nat.lt_of_lt_of_le hl hb.size, hr.kept hb hl⟩
structure DeskR (w : World) (d : Value) (xs : List Int) (L : List (List Int)) : Prop where
  eq : ∃ a c b c2, d = .agg #[.slice a xs.length c, .slice b L.length c2] ∧ xs.length ≤ c ∧ L.length ≤ c2 ∧ Ints w a xs.length (fun j => xs.getD j 0) ∧ Nest w b L
theorem DeskR.kept {w w' : World} {d : Value} {xs : List Int} {L : List (List Int)} (h : DeskR w d xs L) (hb : Below w.heap.size w w') : DeskR w' d xs L := by
  obtain ⟨a, c, b, c2, e, h1, h2, h3, h4⟩ := h
  exact ⟨⟨a, c, b, c2, e, h1, h2, h3.below hb (Nat.le_refl _), h4.kept hb⟩⟩
structure DeskG (w : World) (B : Nat) (v1 v2 : Value) (xs : List Int) (rs : List Fr) : Prop where
  now : OwnX w B 3 v1 xs
  past : Fams w B v2 rs
  sep : ∀ g, v1.ownBlock = some g → ¬ FB v2 rs g
def I64s (xs : List Int) : Prop := ∀ x ∈ xs, I64 x
theorem DeskG.kept {w w' : World} {B : Nat} {v1 v2 : Value} {xs : List Int} {rs : List Fr} (h : DeskG w B v1 v2 xs rs) (hb : Below w.heap.size w w') : DeskG w' B v1 v2 xs rs := ⟨h.now.kept hb, h.past.kept hb, h.sep⟩
theorem DeskG.base {w : World} {B B' : Nat} {v1 v2 : Value} {xs : List Int} {rs : List Fr} (h : DeskG w B v1 v2 xs rs) (hB : B' ≤ B) : DeskG w B' v1 v2 xs rs := ⟨h.now.base hB, h.past.base hB, h.sep⟩
theorem OwnX.intsR {w : World} {B : Nat} {v : Value} {xs : List Int} (h : OwnX w B 3 v xs) (hl : xs.length ≤ 9223372036854775807) (h64 : I64s xs) : ∃ a c, v = .slice a xs.length c ∧ xs.length ≤ c ∧ Ints w a xs.length (fun j => xs.getD j 0) := by
  by_cases h0 : xs.length = 0
  · obtain ⟨a, c, rfl⟩ := h.slice
    exact ⟨a, c, rfl, by omega, ⟨hl, fun i hi => absurd hi (by omega)⟩, .inl h0⟩
  · obtain ⟨g, c, rfl, _, h2, h3, _, h4, _⟩ := h.shape (by omega)
    exact ⟨_, c, rfl, h3, ⟨hl, fun i hi => h64 _ (getD_mem hi)⟩, .inr ⟨g, 0, rfl, h2, h4⟩⟩
theorem Fams.nest {w : World} {B : Nat} {v : Value} {rs : List Fr} (h : Fams w B v rs) (hl : ∀ r ∈ rs, r.xs.length ≤ 9223372036854775807 ∧ I64s r.xs) : ∃ b c, v = .slice b (rs.map Fr.xs).length c ∧ (rs.map Fr.xs).length ≤ c ∧ Nest w b (rs.map Fr.xs) := by
  have hs := h.seq
  rcases hs with ⟨e, a, c, rfl, _⟩ | ⟨g, o, c, rfl, h0, hm, _, h2, h3⟩
  · have : rs = [] := List.map_eq_nil_iff.1 e
    subst this
    exact ⟨a, c, rfl, Nat.zero_le _, by simp, .inl rfl⟩
  · rw [List.length_map] at h0 ⊢
    rw [List.length_map]
    unfold maxLen at hm
    refine ⟨_, c, rfl, h0, by rw [List.length_map]; omega, .inr ⟨g, o, rfl, h2, fun i hi => ?_⟩⟩
    rw [List.length_map] at hi
    have hr : rs[i] ∈ rs := List.getElem_mem hi
    have hc := h3 i (rs[i]).v (by rw [List.getElem?_map, List.getElem?_eq_getElem hi]; rfl)
    rw [List.getElem_map]
    obtain ⟨a, c2, e1, e2, e3⟩ := (h.row _ hr).intsR (hl _ hr).1 (hl _ hr).2
    exact ⟨a, c2, by rw [hc, e1], e2, e3⟩
theorem DeskG.read {w : World} {B : Nat} {v1 v2 : Value} {xs : List Int} {rs : List Fr} (h : DeskG w B v1 v2 xs rs) (h1 : xs.length ≤ 9223372036854775807 ∧ I64s xs) (hl : ∀ r ∈ rs, r.xs.length ≤ 9223372036854775807 ∧ I64s r.xs) : DeskR w (.agg #[v1, v2]) xs (rs.map Fr.xs) := by
  obtain ⟨a, c, rfl, e1, e2⟩ := h.now.intsR h1.1 h1.2
  obtain ⟨b, c2, rfl, e3, e4⟩ := h.past.nest hl
  exact ⟨⟨a, c, b, c2, rfl, e1, e3, e2, e4⟩⟩
def GivesD (xs : List Int) (L : List (List Int)) (w w' : World) (v1 v2 : Value) : Prop := ∃ rs, DeskG w' w.heap.size v1 v2 xs rs ∧ rs.map Fr.xs = L ∧ Below w.heap.size w w'
theorem Nest.at {w : World} {b : Option Addr} {L : List (List Int)} (h : Nest w b L) {k : Nat} (hk : k < L.length) :
    ∃ bk o a c, b = some ⟨bk, o, none⟩ ∧ (L.getD k []).length ≤ c ∧ Ints w a (L.getD k []).length (fun j => (L.getD k []).getD j 0) ∧ ∀ W, Below w.heap.size w W → W.cell? ⟨bk, o + k, none⟩ = some (.slice a (L.getD k []).length c) := by
  rcases h.2 with h0 | ⟨bk, o, e, hl, hr⟩
  · omega
  · obtain ⟨a, c, h1, h2, h3⟩ := hr k hk
    have hg : L.getD k [] = L[k] := by rw [List.getD_eq_getElem?_getD, List.getElem?_eq_getElem hk]; rfl
    rw [hg]
    exact ⟨bk, o, a, c, e, h2, h3, fun W hW => (hW.cell (p := ⟨bk, o + k, none⟩) hl).trans h1⟩
theorem all_at {L : List (List Int)} (h : ∀ i, i < L.length → famL (L.getD i []) = true) : L.all famL = true := by
  rw [List.all_eq_true]
  intro l hl
  obtain ⟨i, hi, rfl⟩ := List.getElem_of_mem hl
  have := h i hi
  rwa [List.getD_eq_getElem?_getD, List.getElem?_eq_getElem hi] at this
theorem all_bad {L : List (List Int)} {k : Nat} (hk : k < L.length) (h : famL (L.getD k []) = false) : L.all famL = false := by
  cases hb : L.all famL with
  | false => rfl
  | true =>
    have := List.all_eq_true.1 hb (L.getD k []) (by rw [List.getD_eq_getElem?_getD, List.getElem?_eq_getElem hk]; exact List.getElem_mem hk)
    rw [h] at this; cases this
theorem isFam_any (a : Option Addr) (l : List Int) (c : Nat) (v : Bool) (w : World) (hv : famL l = v) (hi : Ints w a l.length (fun j => l.getD j 0)) :
    Calls Tryz.prog 85 #[.slice a l.length c] w fun e w' => e = .returned (.bool (!v)) ∧ Below w.heap.size w w' := by
  have HI := Lib.hid hi; have HV := Lib.hid hv; clear hi hv
  go_enter Tryz.func85, Tryz.ntmps85
  go_wp2_with fail
  refine (FamilyOk_val a l.length c (fun j => l.getD j 0) v _ HV.out HI.out).mono ?_
  rintro e w1 ⟨rfl, hb⟩
  have HB := Lib.hid hb; clear hb
  go_wp2_with fail
  go_ret
  exact ⟨rfl, HB.out⟩
def IdxEnd (L : List (List Int)) (w : World) (e : Ending) (w' : World) : Prop :=
  ∃ r : Int, e = .returned (.int .i64 r) ∧ (L.all famL = true → r = -1) ∧ (L.all famL = false → 0 ≤ r) ∧ Below w.heap.size w w'
set_option maxRecDepth 100000 in
theorem indexFam_any (b : Option Addr) (L : List (List Int)) (c : Nat) (w : World) (hn : Nest w b L) :
    Calls Tryz.prog 129 #[.slice b L.length c, .func (.func 85) #[] #[]] w (IdxEnd L w) := by
  have HN := Lib.hid hn
  have h64 := hn.1
  obtain ⟨n, hnn⟩ : ∃ n, L.length = n := ⟨_, rfl⟩
  have HL := Lib.hid hnn
  rw [hnn] at h64 ⊢
  clear hn hnn
  go_enter Tryz.func129, Tryz.ntmps129
  go_wp2_with fail
  go_loopw [5, 8] (fun _ i wr => ∃ k : Nat, k ≤ n ∧ i = .int .i64 k ∧ Hid (∀ i, i < k → famL (L.getD i []) = true) ∧ Hid (Below w.heap.size w wr)) (fun _ i _ => n - (intOf i).toNat)
  case atStart => exact ⟨0, Nat.zero_le _, rfl, Lib.hid (fun i hi => absurd hi (Nat.not_lt_zero _)), Lib.hid (Below.refl _ _)⟩
  case round =>
    obtain ⟨k, hk, rfl, hall, HB⟩ := hrel
    by_cases hlt : k < n
    · have hki : (k : Int) < (n : Int) := by omega
      have hk0 : (0 : Int) ≤ (k : Int) := by omega
      obtain ⟨bk, o, a1, c1, rfl, hlc, hi, hcell⟩ := HN.out.at (show k < L.length by rw [HL.out]; exact hlt)
      have hc := hcell wr HB.out
      have HI := Lib.hid (hi.below HB.out (Nat.le_refl _))
      obtain ⟨l, hl⟩ : ∃ l, L.getD k [] = l := ⟨_, rfl⟩
      have HLL := Lib.hid hl
      rw [hl] at hc HI hlc
      clear hi hcell hl
      cases hv : famL l with
      | true =>
        have HV := Lib.hid hv; clear hv
        go_wp2_with fail
        refine (isFam_any a1 l c1 true _ HV.out HI.out).mono ?_
        rintro e w5 ⟨rfl, hb5⟩
        have HB5 := Lib.hid (below_onto HB.out hb5)
        clear hb5 hc
        go_wp2_with fail
        go_roundw
        case rel => exact ⟨k + 1, by omega, by go_num, Lib.hid (fun i hi => by
          by_cases e : i = k
          · subst e; rw [HLL.out]; exact HV.out
          · exact hall.out i (by omega)), HB5⟩
        case measure => simp [intOf]; omega
      | false =>
        have HV := Lib.hid hv; clear hv
        go_wp2_with fail
        refine (isFam_any a1 l c1 false _ HV.out HI.out).mono ?_
        rintro e w5 ⟨rfl, hb5⟩
        have HB5 := Lib.hid (below_onto HB.out hb5)
        have HBAD := Lib.hid (all_bad (show k < L.length by rw [HL.out]; exact hlt) (by rw [HLL.out]; exact HV.out))
        clear hb5 hc
        go_wp2_with fail
        go_ret
        exact ⟨_, rfl, fun h => (by rw [HBAD.out] at h; cases h), fun _ => hk0, HB5.out⟩
    · have hki : ¬ (k : Int) < (n : Int) := by omega
      have hkn : k = n := by omega
      subst hkn
      have HA := Lib.hid (all_at (fun i hi => hall.out i (by rw [HL.out] at hi; exact hi)))
      go_wp2_with fail
      go_ret
      exact ⟨_, rfl, fun _ => rfl, fun h => (by rw [HA.out] at h; cases h), HB.out⟩
theorem containsFam_any (b : Option Addr) (L : List (List Int)) (c : Nat) (w : World) (v : Bool) (hv : L.all famL = v) (hn : Nest w b L) :
    Calls Tryz.prog 84 #[.slice b L.length c, .func (.func 85) #[] #[]] w fun e w' => e = .returned (.bool (!v)) ∧ Below w.heap.size w w' := by
  have HN := Lib.hid hn; have HV := Lib.hid hv; clear hn hv
  go_enter Tryz.func84, Tryz.ntmps84
  go_wp2_with fail
  refine (indexFam_any b L c _ HN.out).mono ?_
  rintro e w1 ⟨r, rfl, h1, h2, hb⟩
  have HB := Lib.hid hb; clear hb
  cases v with
  | true =>
    have hr := h1 HV.out
    subst hr
    clear h1 h2
    go_wp2_with fail
    go_ret
    exact ⟨rfl, HB.out⟩
  | false =>
    have hr := h2 HV.out
    have hd : decide (0 ≤ r) = true := decide_eq_true hr
    clear h1 h2
    go_wp2_with fail
    go_ret
    exact ⟨rfl, HB.out⟩
theorem DeskR.parts {w : World} {d : Value} {xs : List Int} {L : List (List Int)} (h : DeskR w d xs L) :
    ∃ a c b c2, d = .agg #[.slice a xs.length c, .slice b L.length c2] ∧ Ints w a xs.length (fun j => xs.getD j 0) ∧ Nest w b L := by
  obtain ⟨a, c, b, c2, e, _, _, h3, h4⟩ := h.eq
  exact ⟨a, c, b, c2, e, h3, h4⟩
set_option maxRecDepth 100000 in
theorem DeskOk_any (d : Value) (xs : List Int) (L : List (List Int)) (w : World) (h : DeskR w d xs L) :
    Calls Tryz.prog 23 #[d] w fun e w' => e = .returned (.bool (deskB xs L)) ∧ Below w.heap.size w w' := by
  obtain ⟨a, c, b, c2, rfl, hi, hn⟩ := h.parts
  have hal := alloc_below w (.cells #[.slice a xs.length c, .slice b L.length c2] 31)
  have HI := Lib.hid (hi.below hal (Nat.le_refl _)); have HN := Lib.hid (hn.kept hal)
  have HAL := Lib.hid hal
  have hblk := Blk2.new w 31 (.slice a xs.length c) (.slice b L.length c2)
  have HBL := Lib.hid hblk
  have HLT := Lib.hid hblk.lt
  clear h hi hn hal hblk
  have HDB := Lib.hid (show deskB xs L = (famL xs && (decide (L.length ≤ 8) && L.all famL)) from rfl)
  cases hf : famL xs with
  | false =>
    rw [hf] at HDB
    have HF := Lib.hid hf; clear hf
    go_enter Tryz.func23, Tryz.ntmps23
    go_wp2_with fail
    refine (FamilyOk_val a xs.length c (fun j => xs.getD j 0) false _ HF.out HI.out).mono ?_
    rintro e w1 ⟨rfl, hb⟩
    have HB := Lib.hid (below_onto HAL.out hb); clear hb
    go_wp2_with fail
    go_ret
    exact ⟨retb (by rw [HDB.out]; rfl), HB.out⟩
  | true =>
    rw [hf] at HDB
    have HF := Lib.hid hf; clear hf
    by_cases hl : L.length ≤ 8
    · have hld : decide ((L.length : Int) ≤ 8) = true := decide_eq_true (by omega)
      have hld2 : decide (L.length ≤ 8) = true := decide_eq_true hl
      cases hv : L.all famL with
      | true =>
        rw [hv, hld2] at HDB
        have HV := Lib.hid hv
        clear hv
        go_enter Tryz.func23, Tryz.ntmps23
        go_wp2_with fail
        refine (FamilyOk_val a xs.length c (fun j => xs.getD j 0) true _ HF.out HI.out).mono ?_
        rintro e w1 ⟨rfl, hb⟩
        have HB := Lib.hid (below_onto HAL.out hb)
        have HB1 := Lib.hid (HBL.out.kept hb HLT.out)
        have HN1 := Lib.hid (HN.out.kept hb)
        clear hb
        have hc0 := HB1.out.cell.1; have hc1 := HB1.out.cell.2
        go_wp2_with fail
        refine (containsFam_any b L c2 _ true HV.out HN1.out).mono ?_
        rintro e w2 ⟨rfl, hb⟩
        have HB2 := Lib.hid (below_onto HB.out hb)
        clear hb hc0 hc1
        go_wp2_with fail
        go_ret
        exact ⟨retb (by rw [HDB.out]; rfl), HB2.out⟩
      | false =>
        rw [hv, hld2] at HDB
        have HV := Lib.hid hv
        clear hv
        go_enter Tryz.func23, Tryz.ntmps23
        go_wp2_with fail
        refine (FamilyOk_val a xs.length c (fun j => xs.getD j 0) true _ HF.out HI.out).mono ?_
        rintro e w1 ⟨rfl, hb⟩
        have HB := Lib.hid (below_onto HAL.out hb)
        have HB1 := Lib.hid (HBL.out.kept hb HLT.out)
        have HN1 := Lib.hid (HN.out.kept hb)
        clear hb
        have hc0 := HB1.out.cell.1; have hc1 := HB1.out.cell.2
        go_wp2_with fail
        refine (containsFam_any b L c2 _ false HV.out HN1.out).mono ?_
        rintro e w2 ⟨rfl, hb⟩
        have HB2 := Lib.hid (below_onto HB.out hb)
        clear hb hc0 hc1
        go_wp2_with fail
        go_ret
        exact ⟨retb (by rw [HDB.out]; rfl), HB2.out⟩
    · have hld : decide ((L.length : Int) ≤ 8) = false := decide_eq_false (by omega)
      have hld2 : decide (L.length ≤ 8) = false := decide_eq_false hl
      rw [hld2] at HDB
      go_enter Tryz.func23, Tryz.ntmps23
      go_wp2_with fail
      refine (FamilyOk_val a xs.length c (fun j => xs.getD j 0) true _ HF.out HI.out).mono ?_
      rintro e w1 ⟨rfl, hb⟩
      have HB := Lib.hid (below_onto HAL.out hb)
      have HB1 := Lib.hid (HBL.out.kept hb HLT.out)
      clear hb
      have hc0 := HB1.out.cell.1; have hc1 := HB1.out.cell.2
      go_wp2_with fail
      go_ret
      exact ⟨retb (by rw [HDB.out]; rfl), HB.out⟩
set_option maxRecDepth 100000 in
theorem specDeskOk_any (d : Value) (xs : List Int) (L : List (List Int)) (w : World) (h : DeskR w d xs L) :
    Calls Tryz.prog 13 #[d] w fun e w' => e = .returned (.bool (deskB xs L)) ∧ Below w.heap.size w w' := by
  obtain ⟨a, c, b, c2, rfl, hi, hn⟩ := h.parts
  have h64 := hn.1
  have hal := alloc_below w (.cells #[.slice a xs.length c, .slice b L.length c2] 31)
  have HI := Lib.hid (hi.below hal (Nat.le_refl _)); have HN := Lib.hid (hn.kept hal)
  have hblk := Blk2.new w 31 (.slice a xs.length c) (.slice b L.length c2)
  have HLT := Lib.hid hblk.lt
  obtain ⟨n, hnn⟩ : ∃ n, L.length = n := ⟨_, rfl⟩
  have HL := Lib.hid hnn
  rw [hnn] at h64 hal hblk HLT HI HN ⊢
  have HAL := Lib.hid hal
  have HBL := Lib.hid hblk
  have HDB := Lib.hid (show deskB xs L = (famL xs && (decide (n ≤ 8) && L.all famL)) by rw [← hnn]; rfl)
  obtain ⟨w0, hw0⟩ : ∃ w0, w.alloc (.cells #[.slice a xs.length c, .slice b n c2] 31) = w0 := ⟨_, rfl⟩
  obtain ⟨D, hD⟩ : ∃ D, w.heap.size = D := ⟨_, rfl⟩
  rw [hw0] at HI HN HAL HBL HLT
  rw [hD] at HBL HLT
  clear h hi hn hal hblk hnn
  go_enter Tryz.func13, Tryz.ntmps13
  go_wp2_with fail
  clear hw0 hD
  go_loopw [3] (fun i wr => ∃ k : Nat, k ≤ n ∧ i = .int .i64 k ∧ Hid (∀ i, i < k → famL (L.getD i []) = true) ∧ Hid (Below w0.heap.size w0 wr)) (fun i _ => n - (intOf i).toNat)
  case atStart => exact ⟨0, Nat.zero_le _, rfl, Lib.hid (fun i hi => absurd hi (Nat.not_lt_zero _)), Lib.hid (Below.refl _ _)⟩
  case round =>
    obtain ⟨k, hk, rfl, hall, HB⟩ := hrel
    have HBK := Lib.hid (HBL.out.kept HB.out HLT.out)
    have hc0 := HBK.out.cell.1; have hc1 := HBK.out.cell.2
    by_cases hlt : k < n
    · have hki : (k : Int) < (n : Int) := by omega
      have hk0 : (0 : Int) ≤ (k : Int) := by omega
      obtain ⟨bk, o, a1, c1, rfl, hlc, hi, hcell⟩ := HN.out.at (show k < L.length by rw [HL.out]; exact hlt)
      have hc := hcell wr HB.out
      have HI1 := Lib.hid (hi.below HB.out (Nat.le_refl _))
      obtain ⟨l, hl⟩ : ∃ l, L.getD k [] = l := ⟨_, rfl⟩
      have HLL := Lib.hid hl
      rw [hl] at hc HI1 hlc
      clear hi hcell hl
      cases hv : famL l with
      | true =>
        have HV := Lib.hid hv; clear hv
        go_wp2_with fail
        refine (specFamilyOk_val a1 l.length c1 (fun j => l.getD j 0) true _ HV.out HI1.out).mono ?_
        rintro e w5 ⟨rfl, hd5⟩
        have HB5 := Lib.hid (below_onto HB.out hd5.below)
        clear hd5 hc hc0 hc1
        go_wp2_with fail
        go_roundw
        case rel => exact ⟨k + 1, by omega, by go_num, Lib.hid (fun i hi => by
          by_cases e : i = k
          · subst e; rw [HLL.out]; exact HV.out
          · exact hall.out i (by omega)), HB5⟩
        case measure => simp [intOf]; omega
      | false =>
        have HV := Lib.hid hv; clear hv
        have HBAD := Lib.hid (all_bad (show k < L.length by rw [HL.out]; exact hlt) (by rw [HLL.out]; exact HV.out))
        go_wp2_with fail
        refine (specFamilyOk_val a1 l.length c1 (fun j => l.getD j 0) false _ HV.out HI1.out).mono ?_
        rintro e w5 ⟨rfl, hd5⟩
        have HB5 := Lib.hid (below_onto HAL.out (below_onto HB.out hd5.below))
        clear hd5 hc hc0 hc1
        go_wp2_with fail
        go_ret
        exact ⟨retb (by rw [HDB.out, HBAD.out, Bool.and_false, Bool.and_false]), HB5.out⟩
    · have hki : ¬ (k : Int) < (n : Int) := by omega
      have hkn : k = n := by omega
      subst hkn
      have HA := Lib.hid (all_at (fun i hi => hall.out i (by rw [HL.out] at hi; exact hi)))
      have HI1 := Lib.hid (HI.out.below HB.out (Nat.le_refl _))
      cases hf : famL xs with
      | false =>
        rw [hf] at HDB
        have HF := Lib.hid hf; clear hf
        go_wp2_with fail
        refine (specFamilyOk_val a xs.length c (fun j => xs.getD j 0) false _ HF.out HI1.out).mono ?_
        rintro e w5 ⟨rfl, hd5⟩
        have HB5 := Lib.hid (below_onto HAL.out (below_onto HB.out hd5.below))
        clear hd5 hc0 hc1
        go_wp2_with fail
        go_ret
        exact ⟨retb (by rw [HDB.out]; rfl), HB5.out⟩
      | true =>
        rw [hf, HA.out] at HDB
        have HF := Lib.hid hf; clear hf
        go_wp2_with fail
        refine (specFamilyOk_val a xs.length c (fun j => xs.getD j 0) true _ HF.out HI1.out).mono ?_
        rintro e w5 ⟨rfl, hd5⟩
        have HB5 := Lib.hid (below_onto HAL.out (below_onto HB.out hd5.below))
        have HBK5 := Lib.hid (HBL.out.kept (below_onto HB.out hd5.below) HLT.out)
        clear hd5 hc0 hc1
        have hd0 := HBK5.out.cell.1; have hd1 := HBK5.out.cell.2
        by_cases hl : k ≤ 8
        · have hld : decide ((k : Int) ≤ 8) = true := decide_eq_true (by omega)
          rw [decide_eq_true hl] at HDB
          go_wp2_with fail
          go_ret
          exact ⟨retb (by rw [HDB.out]; rfl), HB5.out⟩
        · have hld : decide ((k : Int) ≤ 8) = false := decide_eq_false (by omega)
          rw [decide_eq_false hl] at HDB
          go_wp2_with fail
          go_ret
          exact ⟨retb (by rw [HDB.out]; rfl), HB5.out⟩
theorem results_desk {fn : Func} {p u : Tmp} (h : fn.results = #[.cell p 31, .tmp u]) (tmps : Array Value) (w : World) (B : Nat) {x y z : Value} (hB : Blk2 w B 31 x y) (hp : tmps.getD p undef = .pointer (some ⟨B, 0, none⟩)) (hu : tmps.getD u undef = z)
    (hi : (Tryz.prog.info? 31).map (·.size) = some 2) :
    (results fn tmps).run Tryz.prog w = .ok (.tuple #[.agg #[x, y], z]) w := by
  rw [results_cell_tmp h, hp, hu]
  simp [asAddr, run_loadVar_row w B _ _ _ _ _ hB Tryz.underlying31 rfl hi, Result.andThen]
theorem noDesk_gives {w w' : World} (hb : Below w.heap.size w w') : GivesD [] [] w w' (.slice none 0 0) (.slice none 0 0) :=
  ⟨[], ⟨OwnX.nil _ _ _, Fams.none _ _ _, fun g hg => by simp [Value.ownBlock] at hg⟩, rfl, hb⟩
theorem famL_get2 {xs : List Int} : rowL (fun i => xs[i]?.getD 0) xs.length = xs := by
  have e : (fun i => xs[i]?.getD 0) = (fun i => xs.getD i 0) := by funext i; rw [List.getD_eq_getElem?_getD]
  rw [e]; exact famL_get
theorem Ints.drewsN {w : World} {a : Option Addr} {n : Nat} {f : Nat → Int} (h : Ints w a n f) (m : Nat) : Ints (w.drewN m) a n f := h.below (below_drewN (Below.refl _ _) m) (Nat.le_refl _)
set_option maxRecDepth 100000 in
theorem eqNest_any (b1 b2 : Option Addr) (L : List (List Int)) (c1 c2 : Nat) (hL : L.length ≤ 1048576) (hl : ∀ l ∈ L, l.length ≤ 1048576) (w : World) (h1 : Nest w b1 L) (h2 : Nest w b2 L) :
    Calls Tryz.prog 93 #[.slice b1 L.length c1, .slice b2 L.length c2] w fun e w' => e = .returned (.bool true) ∧ Below w.heap.size w w' := by
  have H1 := Lib.hid h1; have H2 := Lib.hid h2; have HLL := Lib.hid hl
  clear h1 h2 hl
  obtain ⟨n, hnn⟩ : ∃ n, L.length = n := ⟨_, rfl⟩
  have HL := Lib.hid hnn
  rw [hnn] at hL ⊢
  have hne : ((n : Int) != (n : Int)) = false := by simp
  clear hnn
  go_enter Tryz.func93, Tryz.ntmps93
  go_wp2_with fail
  clear hne
  go_loopw [5] (fun i wr => ∃ k : Nat, k ≤ n ∧ i = .int .i64 k ∧ Hid (Below w.heap.size w wr)) (fun i _ => n - (intOf i).toNat)
  case atStart => exact ⟨0, Nat.zero_le _, rfl, Lib.hid (Below.refl _ _)⟩
  case round =>
    obtain ⟨k, hk, rfl, HB⟩ := hrel
    by_cases hlt : k < n
    · have hki : (k : Int) < (n : Int) := by omega
      have hk0 : (0 : Int) ≤ (k : Int) := by omega
      have hkl : k < L.length := by rw [HL.out]; exact hlt
      obtain ⟨bk1, o1, a1, d1, rfl, _, hi1, hcell1⟩ := H1.out.at hkl
      obtain ⟨bk2, o2, a2, d2, rfl, _, hi2, hcell2⟩ := H2.out.at hkl
      have hc1 := hcell1 wr HB.out
      have hc2 := hcell2 wr HB.out
      have HI1 := Lib.hid (hi1.below HB.out (Nat.le_refl _)); have HI2 := Lib.hid (hi2.below HB.out (Nat.le_refl _))
      have HLN := Lib.hid (show (L.getD k []).length ≤ 1048576 from HLL.out _ (by rw [List.getD_eq_getElem?_getD, List.getElem?_eq_getElem hkl]; exact List.getElem_mem hkl))
      obtain ⟨l, hl⟩ : ∃ l, L.getD k [] = l := ⟨_, rfl⟩
      rw [hl] at hc1 hc2 HI1 HI2 HLN
      clear hi1 hi2 hcell1 hcell2 hl hkl
      go_wp2_with fail
      go_quiet ((go_at_call 92; exact quiet_drew (eqIntS_any a1 a2 d1 d2 l.length (fun j => l.getD j 0) HLN.out _ (HI1.out.drewsN _) (HI2.out.drewsN _))))
      all_goals
        go_wp2_with fail
        go_roundw
        case rel => exact ⟨k + 1, by omega, by go_num, Lib.hid (by first | exact HB.out | exact HB.out.drew | exact below_drewN HB.out _)⟩
        case measure => simp [intOf]; omega
    · have hki : ¬ (k : Int) < (n : Int) := by omega
      go_wp2_with fail
      go_ret
      exact ⟨rfl, HB.out⟩
theorem szIntS_any (a : Option Addr) (n cap : Nat) (hn : n ≤ 9223372036854775807) (k : Nat) (hk : k ≤ 1048576) (w : World) :
    Calls Tryz.prog 88 #[.slice a n cap, .int .i64 k] w fun e w' => e = .returned (.int .i64 (if n ≤ k then ((k - n : Nat) : Int) else -1)) ∧ w = w' := by
  by_cases h : n ≤ k
  · have hd : decide ((k : Int) - (n : Int) < 0) = false := decide_eq_false (by omega)
    have he : (k : Int) - (n : Int) = ((k - n : Nat) : Int) := by omega
    rw [if_pos h]
    have HE := Lib.hid he
    clear he
    go_enter Tryz.func88, Tryz.ntmps88
    go_wp2_with fail
    go_ret
    refine ⟨?_, rfl⟩
    rw [← HE.out]
    rfl
  · have hd : decide ((k : Int) - (n : Int) < 0) = true := decide_eq_true (by omega)
    have hlt : (k : Int) < (n : Int) := by omega
    rw [if_neg h]
    go_enter Tryz.func88, Tryz.ntmps88
    go_wp2_with fail
    go_ret
    exact ⟨rfl, rfl⟩
def SzEnd (L : List (List Int)) (k : Nat) (w : World) (e : Ending) (w' : World) : Prop :=
  ∃ r : Int, e = .returned (.int .i64 r) ∧ (r = -1 ∨ ∃ m : Nat, r = m ∧ m ≤ k ∧ L.length ≤ k ∧ ∀ l ∈ L, l.length ≤ k) ∧ Below w.heap.size w w'
set_option maxRecDepth 100000 in
theorem szNest_any (b : Option Addr) (L : List (List Int)) (c : Nat) (k : Nat) (hk : k ≤ 1048576) (w : World) (h : Nest w b L) :
    Calls Tryz.prog 89 #[.slice b L.length c, .int .i64 k] w (SzEnd L k w) := by
  have H := Lib.hid h
  have h63 := h.1
  obtain ⟨n, hnn⟩ : ∃ n, L.length = n := ⟨_, rfl⟩
  have HL := Lib.hid hnn
  rw [hnn] at h63 ⊢
  clear h hnn
  by_cases hn : n ≤ k
  · have hd : decide ((k : Int) - (n : Int) < 0) = false := decide_eq_false (by omega)
    obtain ⟨q, hq⟩ : ∃ q : Nat, k - n = q := ⟨_, rfl⟩
    have hqk : (k : Int) - (n : Int) = (q : Int) := by omega
    have hql : q ≤ k := by omega
    clear hq
    go_enter Tryz.func89, Tryz.ntmps89
    go_wp2_with fail
    go_loopw [1, 5] (fun v i wr => ∃ j m : Nat, j ≤ n ∧ m ≤ k ∧ i = .int .i64 j ∧ v = .int .i64 m ∧ Hid (∀ i, i < j → (L.getD i []).length ≤ k) ∧ Hid (Below w.heap.size w wr)) (fun _ i _ => n - (intOf i).toNat)
    case atStart => exact ⟨0, q, Nat.zero_le _, hql, rfl, by first | rfl | rw [hqk], Lib.hid (fun i hi => absurd hi (Nat.not_lt_zero _)), Lib.hid (Below.refl _ _)⟩
    case round =>
      clear hqk hd
      obtain ⟨j, m, hj, hm, rfl, rfl, hall, HB⟩ := hrel
      by_cases hlt : j < n
      · have hki : (j : Int) < (n : Int) := by omega
        have hk0 : (0 : Int) ≤ (j : Int) := by omega
        obtain ⟨bk, o, a1, c1, rfl, _, hi, hcell⟩ := H.out.at (show j < L.length by rw [HL.out]; exact hlt)
        have hc := hcell wr HB.out
        have HLE := Lib.hid hi.1.1
        obtain ⟨l, hl⟩ : ∃ l, L.getD j [] = l := ⟨_, rfl⟩
        have HLL := Lib.hid hl
        rw [hl] at hc HLE
        clear hi hcell hl
        by_cases hs : l.length ≤ m
        · go_wp2_with fail
          refine (szIntS_any a1 l.length c1 HLE.out m (by omega) _).mono ?_
          rintro e w5 ⟨rfl, rfl⟩
          rw [if_pos hs]
          have hge : decide (((m - l.length : Nat) : Int) < 0) = false := decide_eq_false (by omega)
          obtain ⟨p, hp⟩ : ∃ p : Nat, m - l.length = p := ⟨_, rfl⟩
          rw [hp] at hge ⊢
          have hpk : p ≤ k := by omega
          have hlk : l.length ≤ k := by omega
          clear hp hc
          go_wp2_with fail
          go_roundw
          case rel => exact ⟨j + 1, p, by omega, hpk, by go_num, rfl, Lib.hid (fun i hi => by
            by_cases e : i = j
            · subst e; rw [HLL.out]; exact hlk
            · exact hall.out i (by omega)), HB⟩
          case measure => simp [intOf]; omega
        · go_wp2_with fail
          refine (szIntS_any a1 l.length c1 HLE.out m (by omega) _).mono ?_
          rintro e w5 ⟨rfl, rfl⟩
          rw [if_neg hs]
          clear hc
          go_wp2_with fail
          go_ret
          exact ⟨_, rfl, .inl rfl, HB.out⟩
      · have hki : ¬ (j : Int) < (n : Int) := by omega
        have hjn : j = n := by omega
        have HA := Lib.hid (show ∀ l ∈ L, l.length ≤ k from fun l hl => by
          obtain ⟨i, hi, rfl⟩ := List.getElem_of_mem hl
          have := hall.out i (by rw [HL.out] at hi; omega)
          rwa [List.getD_eq_getElem?_getD, List.getElem?_eq_getElem hi] at this)
        go_wp2_with fail
        go_ret
        exact ⟨_, rfl, .inr ⟨m, rfl, hm, by rw [HL.out]; exact hn, HA.out⟩, HB.out⟩
  · have hd : decide ((k : Int) - (n : Int) < 0) = true := decide_eq_true (by omega)
    have hlt : (k : Int) < (n : Int) := by omega
    go_enter Tryz.func89, Tryz.ntmps89
    go_wp2_with fail
    go_ret
    exact ⟨_, rfl, .inl rfl, Below.refl _ _⟩
def CopyI (xs : List Int) (w : World) (e : Ending) (w' : World) : Prop :=
  e = .returned (.slice (some ⟨w.heap.size, 0, none⟩) xs.length xs.length) ∧ OwnX w' w.heap.size 3 (.slice (some ⟨w.heap.size, 0, none⟩) xs.length xs.length) xs ∧ Below w.heap.size w w'
theorem toIntO_any (a : Option Addr) (xs : List Int) (cap : Nat) (hn : xs.length ≤ 1048576) (w : World) (hi : Ints w a xs.length (fun j => xs.getD j 0)) :
    Calls Tryz.prog 90 #[.slice a xs.length cap] w (CopyI xs w) := by
  obtain ⟨f, hf⟩ : ∃ f : Nat → Int, (fun j => xs.getD j 0) = f := ⟨_, rfl⟩
  rw [hf] at hi
  have HF := Lib.hid hf
  have HI := Lib.hid hi
  obtain ⟨n, hnn⟩ : ∃ n, xs.length = n := ⟨_, rfl⟩
  have HN := Lib.hid hnn
  rw [hnn] at hn HI ⊢
  clear hf hi hnn
  have hmk := run_make_row' (P := Tryz.prog) 28 3 (.int .i64 0) 8 Tryz.underlying28 Tryz.infoInt rfl .i64 .i64 n (by omega) (by omega)
  have hmade := World.rowIs_made w (.int .i64 0) n 3
  have hbel : Below w.heap.size w (w.alloc (.cells (madeCells #[.int .i64 0] n) 3)) := (Below.refl _ _).alloc (Nat.le_refl _) _
  go_enter Tryz.func90, Tryz.ntmps90
  go_wp2_with fail
  go_loopw [4] (fun i wr => ∃ k : Nat, k ≤ n ∧ i = .int .i64 k ∧ wr.rowIs w.heap.size 3 n (fill f k) ∧ Below w.heap.size w wr) (fun i _ => n - (intOf i).toNat)
  case atStart => exact ⟨0, Nat.zero_le _, rfl, hmade, hbel⟩
  case round =>
    clear hmade hbel
    obtain ⟨k, hk, rfl, hrow, hb⟩ := hrel
    by_cases hlt : k < n
    · obtain ⟨bk, off, rfl, hbk, hr⟩ := HI.out.row (by omega)
      have hr' := hr.below hb hbk
      have hc := hr' k hlt
      have hold := hrow.cell hlt
      have hfr := hrow.frozen k
      clear hr hr' hbk
      go_wp2_with fail
      go_roundw
      case rel => exact ⟨k + 1, by omega, by go_num, fill_step hrow, hb.setCell (Nat.le_refl _) _⟩
      case measure => simp [intOf]; omega
    · have HB := Lib.hid hb
      have HO : Hid (OwnX wr w.heap.size 3 (.slice (some ⟨w.heap.size, 0, none⟩) n n) xs) := Lib.hid (by
        obtain ⟨c, h1, h2, h3⟩ := hrow
        refine Rw.own ⟨c, h1, h2, fun i hi => ?_⟩ HN.out.symm (Nat.le_refl _) (Nat.le_refl _) (by unfold maxLen; omega)
        rw [h3 i hi]
        unfold fill
        rw [if_pos (by omega), ← HF.out])
      clear hrow hb
      go_wp2_with fail
      go_ret
      unfold CopyI
      rw [HN.out]
      exact ⟨rfl, HO.out, HB.out⟩
def vAt (rs : List Fr) (i : Nat) : Value := (rs.map Fr.v)[i]?.getD (.slice none 0 0)
theorem vAt_old {rs : List Fr} {y : Fr} {i : Nat} (h : i ≠ rs.length) : vAt (rs ++ [y]) i = vAt rs i := by
  unfold vAt
  rw [List.map_append]
  by_cases hi : i < rs.length
  · rw [List.getElem?_append_left (by rw [List.length_map]; exact hi)]
  · rw [List.getElem?_append_right (by rw [List.length_map]; omega), List.length_map, List.getElem?_eq_none (by simp; omega), List.getElem?_eq_none (by rw [List.length_map]; omega)]
theorem vAt_new (rs : List Fr) (y : Fr) : vAt (rs ++ [y]) rs.length = y.v := by
  unfold vAt
  rw [List.map_append, List.getElem?_append_right (by rw [List.length_map]; exact Nat.le_refl _), List.length_map, Nat.sub_self]; rfl
theorem Tryz.infoSl : (Tryz.prog.info? 28).map (fun i => (i.zero, i.size, i.bytes)) = some (some (.slice none 0 0), 1, 24) := by kernel_rfl
structure CpS (n : Nat) (L : List (List Int)) (w : World) (k : Nat) (rs : List Fr) (wr : World) : Prop where
  xs : rs.map Fr.xs = L.take k
  len : rs.length = k
  row : ∀ r ∈ rs, OwnX wr (w.heap.size + 1) 3 r.v r.xs
  dis : (rs.map Fr.g).Nodup
  cells : wr.rowIs w.heap.size 28 n (vAt rs)
  bel : Below w.heap.size w wr
theorem CpS.step {n : Nat} {L : List (List Int)} {w wr w5 : World} {k : Nat} {rs : List Fr} {l : List Int} (h : CpS n L w k rs wr) (hk : k < L.length) (hl : L.getD k [] = l)
    (ho : OwnX w5 wr.heap.size 3 (.slice (some ⟨wr.heap.size, 0, none⟩) l.length l.length) l) (hb : Below wr.heap.size wr w5) :
    CpS n L w (k + 1) (rs ++ [⟨wr.heap.size, l.length, l⟩]) (w5.setCell ⟨w.heap.size, k, none⟩ (.slice (some ⟨wr.heap.size, 0, none⟩) l.length l.length)) := by
  have hlt : ∀ r ∈ rs, w.heap.size + 1 ≤ r.g ∧ r.g < wr.heap.size := fun r hr => World.ownsRow.lt (h.row r hr) _ rfl
  have hG : w.heap.size < wr.heap.size := h.cells.lt
  refine ⟨?_, by rw [List.length_append, h.len]; rfl, fun r hr => ?_, ?_, ?_, (h.bel.trans (hb.mono h.bel.size)).setCell (Nat.le_refl _) _⟩
  · rw [List.map_append, h.xs, List.take_add_one, List.getElem?_eq_getElem hk]
    rw [List.getD_eq_getElem?_getD, List.getElem?_eq_getElem hk] at hl
    rw [← hl]; rfl
  · rcases List.mem_append.1 hr with hr | hr
    · have := hlt r hr
      exact (((h.row r hr).kept hb)).blk (Below.heap_setCell _ ⟨w.heap.size, k, none⟩ _ r.g (show r.g ≠ w.heap.size by omega))
    · rw [List.mem_singleton] at hr
      subst hr
      exact OwnX.blk (x := ⟨wr.heap.size, l.length, l⟩) (ho.base (by omega)) (Below.heap_setCell _ ⟨w.heap.size, k, none⟩ _ wr.heap.size (show wr.heap.size ≠ w.heap.size by omega))
  · rw [List.map_append, List.nodup_append]
    refine ⟨h.dis, by simp, fun a ha b hb' e => ?_⟩
    simp at hb'
    subst hb'; subst e
    obtain ⟨r, hr, e⟩ := List.mem_map.1 ha
    have := (hlt r hr).2
    omega
  · have h5 : w5.rowIs w.heap.size 28 n (vAt rs) := by
      obtain ⟨c, h1, h2, h3⟩ := h.cells
      exact ⟨c, (hb.block _ hG).trans h1, h2, h3⟩
    refine (h5.set k _).congr fun i _ => ?_
    by_cases e : i = k
    · subst e
      rw [if_pos rfl, ← h.len, vAt_new]; rfl
    · rw [if_neg e, vAt_old (by rw [h.len]; exact e)]
def CopyF (L : List (List Int)) (w : World) (e : Ending) (w' : World) : Prop :=
  ∃ rs, e = .returned (.slice (some ⟨w.heap.size, 0, none⟩) L.length L.length) ∧ rs.map Fr.xs = L ∧ Fams w' w.heap.size (.slice (some ⟨w.heap.size, 0, none⟩) L.length L.length) rs ∧ Below w.heap.size w w'
theorem CpS.done {L : List (List Int)} {w wr : World} {rs : List Fr} (h : CpS L.length L w L.length rs wr) (hn : L.length ≤ 1048576) :
    rs.map Fr.xs = L ∧ Fams wr w.heap.size (.slice (some ⟨w.heap.size, 0, none⟩) L.length L.length) rs := by
  have hlt : ∀ r ∈ rs, w.heap.size + 1 ≤ r.g ∧ r.g < wr.heap.size := fun r hr => World.ownsRow.lt (h.row r hr) _ rfl
  refine ⟨by rw [h.xs, List.take_length], ⟨.inr ⟨w.heap.size, 0, L.length, by rw [List.length_map, h.len], by rw [List.length_map, h.len]; exact Nat.le_refl _, by unfold maxLen; omega, Nat.le_refl _, h.cells.lt, fun i u hu => ?_⟩,
    fun r hr => (h.row r hr).base (by omega), h.dis, fun r hr e => ?_⟩⟩
  · have hi : i < L.length := by have := (List.getElem?_eq_some_iff.1 hu).1; rw [List.length_map, h.len] at this; exact this
    rw [Nat.zero_add, h.cells.cell hi]
    unfold vAt
    rw [hu]; rfl
  · have := (hlt r hr).1
    injection e with e
    have e2 : w.heap.size = r.g := e
    omega
set_option maxRecDepth 100000 in
theorem toNest_any (b : Option Addr) (L : List (List Int)) (cap : Nat) (hL : L.length ≤ 1048576) (hl : ∀ l ∈ L, l.length ≤ 1048576) (w : World) (h : Nest w b L) :
    Calls Tryz.prog 91 #[.slice b L.length cap] w (CopyF L w) := by
  have H := Lib.hid h; have HLL := Lib.hid hl
  obtain ⟨n, hnn⟩ : ∃ n, L.length = n := ⟨_, rfl⟩
  have HN := Lib.hid hnn
  rw [hnn] at hL ⊢
  clear h hl hnn
  have hmk := run_make_row' (P := Tryz.prog) 29 28 (.slice none 0 0) 24 Tryz.underlying29 Tryz.infoSl rfl .i64 .i64 n (by omega) (by omega)
  have hmade := World.rowIs_made w (.slice none 0 0) n 28
  have hbel : Below w.heap.size w (w.alloc (.cells (madeCells #[.slice none 0 0] n) 28)) := (Below.refl _ _).alloc (Nat.le_refl _) _
  have HST : Hid (CpS n L w 0 [] (w.alloc (.cells (madeCells #[.slice none 0 0] n) 28))) := Lib.hid ⟨by simp, rfl, fun r hr => (by cases hr), List.nodup_nil, hmade, hbel⟩
  clear hmade hbel
  go_enter Tryz.func91, Tryz.ntmps91
  go_wp2_with fail
  go_loopw [4] (fun i wr => ∃ (k : Nat) (rs : List Fr), k ≤ n ∧ i = .int .i64 k ∧ Hid (CpS n L w k rs wr)) (fun i _ => n - (intOf i).toNat)
  case atStart => exact ⟨0, [], Nat.zero_le _, rfl, HST⟩
  case round =>
    clear HST
    obtain ⟨k, rs, hk, rfl, HS⟩ := hrel
    by_cases hlt : k < n
    · have hki : (k : Int) < (n : Int) := by omega
      have hk0 : (0 : Int) ≤ (k : Int) := by omega
      have hkl : k < L.length := by rw [HN.out]; exact hlt
      obtain ⟨bk, o, a1, c1, rfl, _, hi, hcell⟩ := H.out.at hkl
      have hc := hcell wr HS.out.bel
      have HI := Lib.hid (hi.below HS.out.bel (Nat.le_refl _))
      have HLN := Lib.hid (show (L.getD k []).length ≤ 1048576 from HLL.out _ (by rw [List.getD_eq_getElem?_getD, List.getElem?_eq_getElem hkl]; exact List.getElem_mem hkl))
      obtain ⟨l, hl⟩ : ∃ l, L.getD k [] = l := ⟨_, rfl⟩
      have HLE := Lib.hid hl
      have HKL := Lib.hid hkl
      rw [hl] at hc HI HLN
      clear hi hcell hl hkl
      go_wp2_with fail
      refine (toIntO_any a1 l c1 HLN.out _ HI.out).mono ?_
      rintro e w5 ⟨rfl, hown, hb5⟩
      have HN2 := Lib.hid (HS.out.step HKL.out HLE.out hown hb5)
      have hold := (show w5.rowIs w.heap.size 28 n (vAt rs) by
        obtain ⟨c, h1, h2, h3⟩ := HS.out.cells
        exact ⟨c, (hb5.block _ HS.out.cells.lt).trans h1, h2, h3⟩)
      have hcl := hold.cell hlt
      have hfr := hold.frozen k
      clear hown hb5 hold hc
      go_wp2_with fail
      go_roundw
      case rel => exact ⟨k + 1, _, by omega, by go_num, HN2⟩
      case measure => simp [intOf]; omega
    · have hki : ¬ (k : Int) < (n : Int) := by omega
      have hkn : k = n := by omega
      subst hkn
      have HD : Hid (CopyF L w (.returned (.slice (some ⟨w.heap.size, 0, none⟩) k k)) wr) := Lib.hid (by
        have hs := HS.out
        have hn := HN.out
        subst hn
        obtain ⟨h1, h2⟩ := hs.done hL
        exact ⟨rs, rfl, h1, h2, hs.bel⟩)
      go_wp2_with fail
      go_ret
      exact HD.out
theorem results_desk1 {fn : Func} {p : Tmp} (h : fn.results = #[.cell p 31]) (tmps : Array Value) (w : World) (B : Nat) {x y : Value} (hB : Blk2 w B 31 x y) (hp : tmps.getD p undef = .pointer (some ⟨B, 0, none⟩))
    (hi : (Tryz.prog.info? 31).map (·.size) = some 2) : (results fn tmps).run Tryz.prog w = .ok (.agg #[x, y]) w :=
  results_cell_row h tmps w B 31 #[x, y] (0, 0) _ hp hB Tryz.underlying31 rfl hi
def CopyD (xs : List Int) (L : List (List Int)) (w : World) (e : Ending) (w' : World) : Prop := ∃ v1 v2, e = .returned (.agg #[v1, v2]) ∧ GivesD xs L w w' v1 v2
theorem set_blk {w : World} {p : Addr} {v : Value} {g : Nat} (h : g ≠ p.block) : (w.setCell p v).heap[g]? = w.heap[g]? := Below.heap_setCell w p v g h
theorem OwnX.put {w : World} {B : Nat} {t : TypeId} {v u : Value} {xs : List Int} {p : Addr} (h : OwnX w B t v xs) (hp : p.block < B) : OwnX (w.setCell p u) B t v xs :=
  h.other (fun g _ hBg _ => set_blk (by omega))
theorem Fams.put {w : World} {B : Nat} {v u : Value} {rs : List Fr} {p : Addr} (h : Fams w B v rs) (hp : p.block < B) : Fams (w.setCell p u) B v rs :=
  h.same (by rw [show (w.setCell p u).heap.size = w.heap.size by simp [World.setCell]]; exact Nat.le_refl _) (fun g hg => set_blk (by have := (h.ltB g hg).1; omega))
theorem DeskG.put {w : World} {B : Nat} {v1 v2 u : Value} {xs : List Int} {rs : List Fr} {p : Addr} (h : DeskG w B v1 v2 xs rs) (hp : p.block < B) : DeskG (w.setCell p u) B v1 v2 xs rs :=
  ⟨h.now.put hp, h.past.put hp, h.sep⟩
set_option maxRecDepth 100000 in
theorem toDesk_any (d : Value) (xs : List Int) (L : List (List Int)) (hx : xs.length ≤ 1048576) (hL : L.length ≤ 1048576) (hl : ∀ l ∈ L, l.length ≤ 1048576) (w : World) (h : DeskR w d xs L) :
    Calls Tryz.prog 30 #[d] w (CopyD xs L w) := by
  obtain ⟨a, c, b, c2, rfl, hi, hn⟩ := h.parts
  have q1 := alloc_below w (.cells #[.slice a xs.length c, .slice b L.length c2] 54)
  have q2 := alloc_below (w.alloc (.cells #[.slice a xs.length c, .slice b L.length c2] 54)) (.cells #[.slice none 0 0, .slice none 0 0] 31)
  have q3 := alloc_below ((w.alloc (.cells #[.slice a xs.length c, .slice b L.length c2] 54)).alloc (.cells #[.slice none 0 0, .slice none 0 0] 31)) (.cells #[.slice none 0 0, .slice none 0 0] 31)
  have b1 := (Blk2.new w 54 (.slice a xs.length c) (.slice b L.length c2)).kept q2 (by rw [alloc_size]; omega)
  have b1' := b1.kept q3 b1.lt
  have b2 := (Blk2.new (w.alloc (.cells #[.slice a xs.length c, .slice b L.length c2] 54)) 31 (.slice none 0 0) (.slice none 0 0))
  have b2' := b2.kept q3 b2.lt
  have b3 := (Blk2.new ((w.alloc (.cells #[.slice a xs.length c, .slice b L.length c2] 54)).alloc (.cells #[.slice none 0 0, .slice none 0 0] 31)) 31 (.slice none 0 0) (.slice none 0 0))
  rw [alloc_size] at b2'
  rw [alloc_size, alloc_size] at b3
  have HQ := Lib.hid (below_onto q1 (below_onto q2 q3))
  have HI := Lib.hid (hi.below HQ.out (Nat.le_refl _)); have HNN := Lib.hid hn
  have HB1 := Lib.hid b1'; have HB2 := Lib.hid b2'; have HB3 := Lib.hid b3
  have HLL := Lib.hid hl
  have HS3 := Lib.hid (show (((w.alloc (.cells #[.slice a xs.length c, .slice b L.length c2] 54)).alloc (.cells #[.slice none 0 0, .slice none 0 0] 31)).alloc (.cells #[.slice none 0 0, .slice none 0 0] 31)).heap.size = w.heap.size + 3 by rw [alloc_size, alloc_size, alloc_size])
  clear h hi hn q1 q2 q3 b1 b1' b2 b2' b3 hl
  go_enter Tryz.func30, Tryz.ntmps30
  go_wp2_with fail
  refine (toIntO_any a xs c hx _ HI.out).mono ?_
  rintro e w4 ⟨rfl, hown, hb⟩
  have hsz4 := hb.size
  rw [HS3.out] at hown hsz4 ⊢
  have HB1' := Lib.hid (HB1.out.kept hb (by rw [HS3.out]; omega)); have HB2' := Lib.hid (HB2.out.kept hb (by rw [HS3.out]; omega)); have HB3' := Lib.hid (HB3.out.kept hb (by rw [HS3.out]; omega))
  have HQ4 := Lib.hid (below_onto HQ.out hb)
  have HOW := Lib.hid hown
  have HZ4 := Lib.hid hsz4
  have HS4 := Lib.hid (show w.heap.size + 3 < w4.heap.size from by have := World.ownsRow.lt hown (w.heap.size + 3) rfl; omega)
  clear hb hown hsz4 HB1 HB2 HB3 HQ HI HS3
  have hc0 := HB3'.out.cell.1; have hf0 := HB3'.out.frozen 0
  have hd1 := ((HB1'.out.other (show w.heap.size ≠ w.heap.size + 1 + 1 by omega) 0 (.slice (some ⟨w.heap.size + 3, 0, none⟩) xs.length xs.length)).cell).2
  have HN5 := Lib.hid (HNN.out.kept (HQ4.out.setCell (p := ⟨w.heap.size + 1 + 1, 0, none⟩) (show w.heap.size ≤ w.heap.size + 1 + 1 by omega) (.slice (some ⟨w.heap.size + 3, 0, none⟩) xs.length xs.length)))
  go_wp2_with fail
  have HB1a := Lib.hid (HB1'.out.other (show w.heap.size ≠ w.heap.size + 1 + 1 by omega) 0 (.slice (some ⟨w.heap.size + 3, 0, none⟩) xs.length xs.length))
  have HB2a := Lib.hid (HB2'.out.other (show w.heap.size + 1 ≠ w.heap.size + 1 + 1 by omega) 0 (.slice (some ⟨w.heap.size + 3, 0, none⟩) xs.length xs.length))
  have HB3a := Lib.hid (HB3'.out.set0 (.slice (some ⟨w.heap.size + 3, 0, none⟩) xs.length xs.length))
  have HOWa := Lib.hid (HOW.out.put (u := .slice (some ⟨w.heap.size + 3, 0, none⟩) xs.length xs.length) (p := ⟨w.heap.size + 1 + 1, 0, none⟩) (show w.heap.size + 1 + 1 < w.heap.size + 3 by omega))
  have HQa := Lib.hid (HQ4.out.setCell (p := ⟨w.heap.size + 1 + 1, 0, none⟩) (show w.heap.size ≤ w.heap.size + 1 + 1 by omega) (.slice (some ⟨w.heap.size + 3, 0, none⟩) xs.length xs.length))
  have HZa := Lib.hid (show w.heap.size + 3 < (w4.setCell ⟨w.heap.size + 1 + 1, 0, none⟩ (.slice (some ⟨w.heap.size + 3, 0, none⟩) xs.length xs.length)).heap.size by rw [show (w4.setCell ⟨w.heap.size + 1 + 1, 0, none⟩ (.slice (some ⟨w.heap.size + 3, 0, none⟩) xs.length xs.length)).heap.size = w4.heap.size by simp [World.setCell]]; exact HS4.out)
  clear hc0 hf0 hd1 HB1' HB2' HB3' HQ4 HOW HZ4 HS4
  obtain ⟨W5, hW5⟩ : ∃ W5, w4.setCell ⟨w.heap.size + 1 + 1, 0, none⟩ (.slice (some ⟨w.heap.size + 3, 0, none⟩) xs.length xs.length) = W5 := ⟨_, rfl⟩
  rw [hW5] at HB1a HB2a HB3a HOWa HQa HZa HN5 ⊢
  clear hW5
  refine (toNest_any b L c2 hL HLL.out _ HN5.out).mono ?_
  rintro e w6 ⟨rs, rfl, hrs, hF, hb⟩
  have HDG := Lib.hid (show DeskG w6 (w.heap.size + 3) (.slice (some ⟨w.heap.size + 3, 0, none⟩) xs.length xs.length) (.slice (some ⟨W5.heap.size, 0, none⟩) L.length L.length) xs rs from
    ⟨HOWa.out.kept hb, hF.base (by have := HZa.out; omega), fun g hg hfb => by
      have h1 := (hF.ltB g hfb).1
      have h2 := HZa.out
      injection hg with hg
      have h3 : w.heap.size + 3 = g := hg
      omega⟩)
  have HRS := Lib.hid hrs
  have HQ6 := Lib.hid (HQa.out.trans (hb.mono HQa.out.size))
  have HB2b := Lib.hid (HB2a.out.kept hb HB2a.out.lt)
  have HB3b := Lib.hid (HB3a.out.kept hb HB3a.out.lt)
  clear hrs hF hb HB1a HB2a HB3a HOWa HQa HZa HN5
  obtain ⟨N2, hN2⟩ : ∃ N2, W5.heap.size = N2 := ⟨_, rfl⟩
  rw [hN2] at HDG ⊢
  clear hN2
  have HB3c := Lib.hid (HB3b.out.set1 (.slice (some ⟨N2, 0, none⟩) L.length L.length))
  have HB2c := Lib.hid (HB2b.out.other (show w.heap.size + 1 ≠ w.heap.size + 1 + 1 by omega) 1 (.slice (some ⟨N2, 0, none⟩) L.length L.length))
  have hc1 := HB3b.out.cell.2; have hf1 := HB3b.out.frozen 1
  have hd0 := HB3c.out.cell.1; have hd1 := HB3c.out.cell.2
  have hg0 := HB2c.out.cell.1; have hg1 := HB2c.out.cell.2; have hh0 := HB2c.out.frozen 0; have hh1 := HB2c.out.frozen 1
  go_wp2_with fail
  refine bodyPost_ret (results_desk1 rfl _ _ (w.heap.size + 1) ((HB2c.out.set0 (.slice (some ⟨w.heap.size + 3, 0, none⟩) xs.length xs.length)).set1 (.slice (some ⟨N2, 0, none⟩) L.length L.length)) rfl (by kernel_rfl)) rfl ?_
  exact ⟨_, _, rfl, rs, ((((HDG.out.put (p := ⟨w.heap.size + 1 + 1, 1, none⟩) (show w.heap.size + 1 + 1 < w.heap.size + 3 by omega)).put (p := ⟨w.heap.size + 1, 0, none⟩) (show w.heap.size + 1 < w.heap.size + 3 by omega)).put (p := ⟨w.heap.size + 1, 1, none⟩) (show w.heap.size + 1 < w.heap.size + 3 by omega)).base (by omega)), HRS.out,
    ((HQ6.out.setCell (p := ⟨w.heap.size + 1 + 1, 1, none⟩) (show w.heap.size ≤ w.heap.size + 1 + 1 by omega) _).setCell (p := ⟨w.heap.size + 1, 0, none⟩) (show w.heap.size ≤ w.heap.size + 1 by omega) _).setCell (p := ⟨w.heap.size + 1, 1, none⟩) (show w.heap.size ≤ w.heap.size + 1 by omega) _⟩
set_option maxRecDepth 100000 in
theorem eqDesk_any (d1 d2 : Value) (xs : List Int) (L : List (List Int)) (hx : xs.length ≤ 1048576) (hL : L.length ≤ 1048576) (hl : ∀ l ∈ L, l.length ≤ 1048576) (w : World) (h1 : DeskR w d1 xs L) (h2 : DeskR w d2 xs L) :
    Calls Tryz.prog 31 #[d1, d2] w fun e w' => e = .returned (.bool true) ∧ Below w.heap.size w w' := by
  obtain ⟨a, c, b, c2, rfl, hi, hn⟩ := h1.parts
  obtain ⟨a', c', b', c2', rfl, hi', hn'⟩ := h2.parts
  have q1 := alloc_below w (.cells #[.slice a xs.length c, .slice b L.length c2] 31)
  have q2 := alloc_below (w.alloc (.cells #[.slice a xs.length c, .slice b L.length c2] 31)) (.cells #[.slice a' xs.length c', .slice b' L.length c2'] 31)
  have b1 := (Blk2.new w 31 (.slice a xs.length c) (.slice b L.length c2)).kept q2 (by rw [alloc_size]; omega)
  have b2 := (Blk2.new (w.alloc (.cells #[.slice a xs.length c, .slice b L.length c2] 31)) 31 (.slice a' xs.length c') (.slice b' L.length c2'))
  rw [alloc_size] at b2
  have HQ := Lib.hid (below_onto q1 q2)
  have HI := Lib.hid (hi.below HQ.out (Nat.le_refl _)); have HI' := Lib.hid (hi'.below HQ.out (Nat.le_refl _))
  have HN := Lib.hid (hn.kept HQ.out); have HN' := Lib.hid (hn'.kept HQ.out)
  have HB1 := Lib.hid b1; have HB2 := Lib.hid b2
  have HLL := Lib.hid hl
  clear h1 h2 hi hi' hn hn' q1 q2 b1 b2 hl
  go_enter Tryz.func31, Tryz.ntmps31
  go_wp2_with fail
  refine (eqIntS_any a a' c c' xs.length (fun j => xs.getD j 0) hx _ HI.out HI'.out).mono ?_
  rintro e w1 ⟨rfl, hd⟩
  have hb := hd.below
  have HB1a := Lib.hid (HB1.out.kept hb HB1.out.lt); have HB2a := Lib.hid (HB2.out.kept hb HB2.out.lt)
  have HNa := Lib.hid (HN.out.kept hb); have HNb := Lib.hid (HN'.out.kept hb)
  have HQa := Lib.hid (below_onto HQ.out hb)
  clear hb hd
  have hc1 := HB1a.out.cell.2; have hd1 := HB2a.out.cell.2
  go_wp2_with fail
  refine (eqNest_any b b' L c2 c2' hL HLL.out _ HNa.out HNb.out).mono ?_
  rintro e w2 ⟨rfl, hb⟩
  have HQb := Lib.hid (below_onto HQa.out hb)
  clear hb hc1 hd1
  go_wp2_with fail
  go_ret
  exact ⟨rfl, HQb.out⟩
theorem ints_I64s {w : World} {a : Option Addr} {xs : List Int} (h : Ints w a xs.length (fun j => xs.getD j 0)) : xs.length ≤ 9223372036854775807 ∧ I64s xs := by
  refine ⟨h.1.1, fun x hx => ?_⟩
  obtain ⟨i, hi, rfl⟩ := List.getElem_of_mem hx
  have : I64 (xs.getD i 0) := h.1.2 i hi
  rwa [List.getD_eq_getElem?_getD, List.getElem?_eq_getElem hi] at this
theorem Nest.i64 {w : World} {b : Option Addr} {L : List (List Int)} (h : Nest w b L) : ∀ l ∈ L, l.length ≤ 9223372036854775807 ∧ I64s l := by
  intro l hl
  obtain ⟨i, hi, rfl⟩ := List.getElem_of_mem hl
  obtain ⟨bk, o, a, c, _, _, h3, _⟩ := h.at hi
  rw [List.getD_eq_getElem?_getD, List.getElem?_eq_getElem hi] at h3
  exact ints_I64s h3
theorem GivesD.read {xs : List Int} {L : List (List Int)} {w w' : World} {v1 v2 : Value} (h : GivesD xs L w w' v1 v2) (hx : xs.length ≤ 9223372036854775807 ∧ I64s xs) (hL : ∀ l ∈ L, l.length ≤ 9223372036854775807 ∧ I64s l) :
    DeskR w' (.agg #[v1, v2]) xs L ∧ Below w.heap.size w w' ∧ (∃ a c, v1 = .slice a xs.length c) ∧ ∃ a c, v2 = .slice a L.length c := by
  obtain ⟨rs, hg, rfl, hb⟩ := h
  refine ⟨hg.read hx (fun r hr => hL r.xs (List.mem_map.2 ⟨r, hr, rfl⟩)), hb, hg.now.slice, ?_⟩
  have := hg.past.seq.slice
  rw [List.length_map] at this ⊢
  exact this
end Go.Proofs.YthaickihoagnmaaGreatDoor
namespace Go.Proofs.YthaickihoagnmaaGreatDoor
open Go.RowKit Go.Maps Go.ChangeShapes Go.WideShapes
theorem ints_take {w : World} {a : Option Addr} {len : Nat} {zs : List Int} (h : Ints w a len (fun i => zs.getD i 0)) (hl : len ≤ zs.length) :
    (zs.take len).length = len ∧ Ints w a (zs.take len).length (fun i => (zs.take len).getD i 0) := by
  have e : (zs.take len).length = len := by rw [List.length_take]; omega
  have g : ∀ i, i < len → (zs.take len).getD i 0 = zs.getD i 0 := fun i hi => by
    rw [List.getD_eq_getElem?_getD, List.getElem?_take, if_pos hi, List.getD_eq_getElem?_getD]
  refine ⟨e, ?_⟩
  rw [e]
  obtain ⟨⟨h1, h2⟩, h3⟩ := h
  refine ⟨⟨h1, fun i hi => by show I64 ((zs.take len).getD i 0); rw [g i hi]; exact h2 i hi⟩, ?_⟩
  rcases h3 with h3 | ⟨b, o, h3, h4, h5⟩
  · exact .inl h3
  · exact .inr ⟨b, o, h3, h4, fun i hi => by
      have := h5 i hi
      show w.cell? _ = some (.int .i64 ((zs.take len).getD i 0))
      rw [g i hi]; exact this⟩
theorem now_open {H : Type} {enc : TypeId × Value → H} {W : World} {n : Nat} {v : Value} {y : DataW H × List MemPlace}
    (h : DataW.trod enc Tryz.prog W 0 (fun _ => true) true n 28 [v] = some y) : ∃ (a : Option Addr) (c : Nat) (xs : List Int), v = .slice a xs.length c ∧ xs.length ≤ c ∧ Ints W a xs.length (fun j => xs.getD j 0) := by
  rcases open_ints Tryz.underlying28 Tryz.underlying3 (by kernel_rfl) h with ⟨hcs, _⟩ | ⟨x, l, c, zs, hcs, _, hl, hm, hz, _, hcell, hwz⟩
  · simp at hcs
    subst hcs
    exact ⟨none, 0, [], rfl, Nat.le_refl _, ⟨by simp, fun i hi => absurd hi (Nat.not_lt_zero _)⟩, .inl rfl⟩
  · simp at hcs
    subst hcs
    have hzl : zs.length = c := by simpa using hz
    obtain ⟨e1, e2⟩ := ints_take (len := l) (ints_of (.inr ⟨x, rfl, hl, hm, hzl, hcell, hwz⟩)) (by omega)
    exact ⟨some x, c, zs.take l, by rw [e1], by rw [e1]; exact hl, e2⟩
theorem past_open {H : Type} {enc : TypeId × Value → H} {W : World} {n : Nat} {v : Value} {y : DataW H × List MemPlace}
    (h : DataW.trod enc Tryz.prog W 0 (fun _ => true) true n 29 [v] = some y) : ∃ (b : Option Addr) (c : Nat) (L : List (List Int)), v = .slice b L.length c ∧ L.length ≤ c ∧ Nest W b L := by
  rcases Go.Deep.open_int_rows Tryz.underlying29 Tryz.underlying28 Tryz.underlying3 (by kernel_rfl) (by kernel_rfl) h with ⟨hcs, _⟩ | ⟨a, len, cap, A, Ln, C, Z, hcs, _, hl, hm, _, hx⟩
  · simp at hcs
    subst hcs
    exact ⟨none, 0, [], rfl, Nat.le_refl _, by simp, .inl rfl⟩
  · simp at hcs
    subst hcs
    have hlen : ((List.range len).map (fun r => (Z r).take (Ln r))).length = len := by simp
    refine ⟨some a, cap, (List.range len).map (fun r => (Z r).take (Ln r)), by rw [hlen], by rw [hlen]; exact hl, by rw [hlen]; unfold maxLen at hm; omega, ?_⟩
    rw [hlen]
    by_cases h0 : len = 0
    · exact .inl h0
    · right
      obtain ⟨bk, o, spot⟩ := a
      have hspot : spot = none := by simpa [Addr.add] using World.cell?_spot (hx 0 (by omega)).1
      subst hspot
      have h1 := (hx 0 (by omega)).1
      rw [Go.WideShapes.add_plain] at h1
      refine ⟨bk, o, rfl, World.block_lt_of_cell? W _ h1, fun i hi => ?_⟩
      rw [hlen] at hi
      obtain ⟨g1, g2, g3, g4, g5, g6, g7⟩ := hx i (by omega)
      rw [Go.WideShapes.add_plain] at g1
      have hii : Ints W (A i) (Ln i) (fun j => (Z i).getD j 0) := by
        cases hA : A i with
        | none =>
          have hc := g6 hA
          have hln : Ln i = 0 := by omega
          rw [hln]
          exact ⟨⟨by omega, fun j hj => absurd hj (Nat.not_lt_zero _)⟩, .inl rfl⟩
        | some a' => exact ints_of (.inr ⟨a', rfl, g2, g3, g4, fun j hj => (g7 a' hA).2 j (by omega), g5⟩)
      obtain ⟨e1, e2⟩ := ints_take hii (by omega)
      have eg : ((List.range len).map (fun r => (Z r).take (Ln r)))[i]'(by rw [hlen]; exact hi) = (Z i).take (Ln i) := by simp
      refine ⟨A i, C i, ?_, ?_, ?_⟩
      · rw [eg, e1]; exact g1
      · rw [eg, e1]; exact g2
      · rw [eg]; exact e2
theorem desk_open {H : Type} {enc : TypeId × Value → H} {W : World} {n : Nat} {v0 v1 : Value} {y0 y1 : DataW H × List MemPlace}
    (h0 : DataW.trod enc Tryz.prog W 0 (fun _ => true) true n 28 [v0] = some y0) (h1 : DataW.trod enc Tryz.prog W 0 (fun _ => true) true n 29 [v1] = some y1) : ∃ xs L, DeskR W (.agg #[v0, v1]) xs L := by
  obtain ⟨a, c, xs, rfl, e1, e2⟩ := now_open h0
  obtain ⟨b, c2, L, rfl, e3, e4⟩ := past_open h1
  exact ⟨xs, L, ⟨a, c, b, c2, rfl, e1, e3, e2, e4⟩⟩
end Go.Proofs.YthaickihoagnmaaGreatDoor
