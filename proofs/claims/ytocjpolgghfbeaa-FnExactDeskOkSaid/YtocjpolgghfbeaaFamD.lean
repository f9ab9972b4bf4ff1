import Derived.Test.YtocjpolgghfbeaaFamC
namespace Go.Proofs.Ytocjpolgghfbeaa
open Go.RowKit Go.Maps

/-! ### a slice of one's own that begins anywhere in its row -/

/-- a slice whose elements, and the room behind them, are one's own -/
def WorkX (w : World) (B : Nat) (v : Value) (xs : List Int) : Prop :=
  ∃ g o cap, v = .slice (some ⟨g, o, none⟩) xs.length cap ∧ B ≤ g ∧ g < w.heap.size ∧ xs.length ≤ cap ∧ cap ≤ 9223372036854775807 ∧
    (∀ j, j < cap → (w.cell? ⟨g, o + j, none⟩).isSome = true) ∧ (∀ j, w.frozen? ⟨g, j, none⟩ = false) ∧ ∀ i, i < xs.length → w.cell? ⟨g, o + i, none⟩ = some (.int .i64 (xs.getD i 0))
theorem OwnX.work {w : World} {B : Nat} {t : TypeId} {v : Value} {xs : List Int} (h : OwnX w B t v xs) (h1 : 1 ≤ xs.length) : WorkX w B v xs := by
  obtain ⟨g, cap, cur, rfl, hB, hl, hc, hm, _, _, h2, h3, h4⟩ := h.room h1
  exact ⟨g, 0, cap, rfl, hB, hl, hc, hm, fun j hj => by rw [Nat.zero_add]; exact h2 j hj, h3, fun i hi => by rw [Nat.zero_add]; exact h4 i hi⟩
theorem WorkX.upon {w w' : World} {B : Nat} {v : Value} {xs : List Int} (h : WorkX w B v xs) {F : Nat → Prop} (u : Upon F w w') (hn : ∀ g, v.ownBlock = some g → ¬ F g) : WorkX w' B v xs := by
  obtain ⟨g, o, cap, rfl, hB, hl, hc, hm, h2, h3, h4⟩ := h
  have hg : ¬ F g := hn g rfl
  have hb := u.block g hl hg
  exact ⟨g, o, cap, rfl, hB, Nat.lt_of_lt_of_le hl u.size, hc, hm, fun j hj => by rw [World.cell?_of_block (a := ⟨g, o + j, none⟩) hb]; exact h2 j hj, fun j => by rw [World.frozen?_of_block (a := ⟨g, j, none⟩) hb]; exact h3 j, fun i hi => by rw [World.cell?_of_block (a := ⟨g, o + i, none⟩) hb]; exact h4 i hi⟩
theorem WorkX.lt {w : World} {B : Nat} {v : Value} {xs : List Int} (h : WorkX w B v xs) {k : Nat} (hk : v.ownBlock = some k) : B ≤ k ∧ k < w.heap.size := by
  obtain ⟨g, o, cap, rfl, hB, hl, _⟩ := h
  have : g = k := by simpa [Value.ownBlock] using hk
  subst this; exact ⟨hB, hl⟩
/-- without its first element -/
theorem WorkX.pop {w : World} {B g o cap : Nat} {y : Int} {xs : List Int} (h : WorkX w B (.slice (some ⟨g, o, none⟩) (xs.length + 1) cap) (y :: xs)) :
    WorkX w B (.slice (some ⟨g, if cap = 1 then o else o + 1, none⟩) xs.length (cap - 1)) xs := by
  obtain ⟨g', o', cap', e, hB, hl, hc, hm, h2, h3, h4⟩ := h
  injection e with e1 _ e3
  injection e1 with e1; injection e1 with e1 e4
  subst e1; subst e3; subst e4
  simp only [List.length_cons] at hc h4
  refine ⟨g, _, cap - 1, rfl, hB, hl, by omega, by omega, fun j hj => ?_, h3, fun i hi => ?_⟩
  · rw [if_neg (by omega), show o + 1 + j = o + (j + 1) by omega]; exact h2 _ (by omega)
  · rw [if_neg (by omega), show o + 1 + i = o + (i + 1) by omega]
    have := h4 (i + 1) (by omega)
    rw [this]; rfl

theorem work_append (B vb : Nat) (v : Value) (xs : List Int) (x : Int) (w : World) (hB : B ≤ w.heap.size) (h : WorkX w B v xs) (hl : xs.length ≤ 1000) (hx : w.cell? ⟨vb, 0, none⟩ = some (.int .i64 x)) :
    ∃ v' w', (Builtin.append_ #[69, 69] 69 #[v, .slice (some ⟨vb, 0, none⟩) 1 1]).run Try.prog w = .ok v' w' ∧ WorkX w' B v' (xs ++ [x]) ∧ Upon (fun k => v.ownBlock = some k) w w' ∧ NewOr w v v' := by
  obtain ⟨i0, hi, hz0, hz1, hz2⟩ := infoF
  obtain ⟨g, o, cap, rfl, hBg, hgl, hc, hm, h2, h3, h4⟩ := h
  have hsrc : Src Try.prog i0.size 69 (.slice (some ⟨vb, 0, none⟩) 1 1) 1 [.int .i64 x] w := by
    rw [hz1]
    exact Src.ofSlice w Try.underlying69 ⟨vb, 0, none⟩ 1 1 [.int .i64 x] (by simp) (fun j u hj => by
      match j, hj with
      | 0, hj => simp at hj; subst hj; exact hx) (fun u hu => by simp at hu; subst hu; rfl)
  have hlen : (xs ++ [x]).length = xs.length + 1 := by simp
  by_cases hroom : xs.length + 1 ≤ cap
  · have hr := run_append_room_src w 69 69 69 3 i0 Try.underlying69 hi g o xs.length cap _ 1 [.int .i64 x] hsrc hroom
      (fun j hj => by rw [hz1]; simp at hj; subst hj; rw [Nat.mul_one, Nat.add_zero]; exact h2 _ (by omega)) (fun j _ => h3 _)
    rw [hz1, Nat.mul_one] at hr
    refine ⟨_, _, hr, ⟨g, o, cap, by rw [hlen], hBg, ?_, by omega, hm, fun j hj => ?_, fun j => by rw [World.frozen?_setCells]; exact h3 j, fun i hi' => ?_⟩, ?_, .inl rfl⟩
    · have := (Upon.puts (F := fun k => k = g) (w := w) (b := g) rfl [Value.int .i64 x] (o + xs.length) (Upon.refl _ _)).size
      omega
    · exact some_sets g _ _ w (fun t ht => by simp at ht; subst ht; exact h2 _ (by omega)) _ (h2 j hj)
    · by_cases e : i = xs.length
      · subst e
        rw [append_getD_right (Nat.le_refl _), Nat.sub_self]
        have := World.cell?_setCells_in g [Value.int .i64 x] (o + xs.length) w (fun t ht => by simp at ht; subst ht; exact h2 _ (by omega)) 0 (by simp)
        simpa using this
      · rw [World.cell?_setCells_out g _ _ _ _ (fun _ _ => by show o + i < o + xs.length ∨ _; omega), append_getD_left (by omega)]
        exact h4 i (by omega)
    · exact Upon.puts (F := fun k => (Value.slice (some ⟨g, o, none⟩) xs.length cap).ownBlock = some k) rfl _ _ (Upon.refl _ _)
  · have hold : (Builtin.firstCells i0.size xs.length (.slice (some ⟨g, o, none⟩) xs.length cap)).run Try.prog w.drew = .ok (valsL xs).toArray w.drew := by
      rw [hz1]
      exact run_firstCells_some w.drew 1 xs.length ⟨g, o, none⟩ xs.length cap (valsL xs) (by rw [vals_len]; omega) (fun j u hj => by
        obtain ⟨hj1, rfl⟩ := vals_at hj
        rw [Addr.add_lit]; exact h4 j hj1)
    have hr := run_append_grow_src w 69 69 69 3 i0 (.int .i64 0) Try.underlying69 hi hz0 (some ⟨g, o, none⟩) xs.length cap (valsL xs) hold _ 1 [.int .i64 x] hsrc (by omega) (by omega) (by rw [hz2]; exact growslice_fits (by omega) (by omega))
    have hGn : xs.length + 1 ≤ grownCap w (xs.length + 1) cap 3 := grownCap_ge w _ _ _
    have hGm := grownCap_le_maxLen w (xs.length + 1) cap 3 (by unfold maxLen; omega)
    obtain ⟨G, hG⟩ : ∃ G, G = grownCap w (xs.length + 1) cap 3 := ⟨_, rfl⟩
    rw [← hG] at hr hGn hGm
    unfold maxLen at hGm
    obtain ⟨ROW, hROW⟩ : ∃ ROW : Array Value, ROW = (valsL xs ++ [Value.int .i64 x]).toArray ++ Builtin.zeroCells (Value.int .i64 0).cells (G - (xs.length + 1)) := ⟨_, rfl⟩
    have hRs : ROW.size = G := by
      rw [hROW]; simp [Builtin.zeroCells, Value.cells, vals_len]; omega
    have hRt : ∀ j, j < xs.length + 1 → ROW[j]? = some (.int .i64 ((xs ++ [x]).getD j 0)) := fun j hj => by
      rw [hROW, Array.getElem?_append_left (by simp [vals_len]; omega), List.getElem?_toArray]
      have : valsL xs ++ [Value.int .i64 x] = valsL (xs ++ [x]) := by unfold valsL; simp
      rw [this, List.getElem?_eq_getElem (by rw [vals_len, hlen]; exact hj), vals_getElem]
    rw [← hROW] at hr
    have hg0 : (w.drew.alloc (.cells ROW 3)).heap[w.heap.size]? = some (.cells ROW 3 (0, 0)) := heap_alloc_new w.drew _
    have hsz : (w.drew.alloc (.cells ROW 3)).heap.size = w.heap.size + 1 := alloc_size w.drew _
    refine ⟨_, _, hr, ⟨w.heap.size, 0, G, by rw [hlen], hB, by omega, by omega, hGm, fun j hj => ?_, fun j => World.frozen?_alloc_at (w := w.drew) ROW _ w.heap.size j rfl, fun i hi' => ?_⟩, ?_, .inr ⟨_, rfl, Nat.le_refl _⟩⟩
    · rw [Nat.zero_add, cell_of_row _ _ j _ _ _ hg0, Array.getElem?_eq_getElem (by omega)]; rfl
    · rw [Nat.zero_add, cell_of_row _ _ i _ _ _ hg0]; exact hRt i (by omega)
    · exact (Upon.refl _ w).drew.alloc _

/-- two slices that lie in two rows -/
def NoMeet (u v : Value) : Prop := ∀ g, u.ownBlock = some g → v.ownBlock ≠ some g
theorem NoMeet.swap {u v : Value} (h : NoMeet u v) : NoMeet v u := fun g h1 h2 => h g h2 h1
theorem NoMeet.new {u v v' : Value} {w : World} (h : NoMeet u v) (hn : NewOr w v v') (hu : ∀ g, u.ownBlock = some g → g < w.heap.size) : NoMeet u v' := by
  intro g h1 h2
  rcases hn with e | ⟨g', e, hg⟩
  · rw [e] at h2; exact h g h1 h2
  · rw [e] at h2; injection h2 with h2; have := hu g h1; omega
theorem NewOr.ne {w : World} {v v' : Value} {p : Nat} (h : NewOr w v v') (hp : p < w.heap.size) (hn : v.ownBlock ≠ some p) : v'.ownBlock ≠ some p := by
  rcases h with e | ⟨g, e, hg⟩
  · rw [e]; exact hn
  · rw [e]; intro e2; injection e2 with e2; omega

theorem NewOr.up {w1 w2 : World} {v v' : Value} (h : NewOr w2 v v') (hs : w1.heap.size ≤ w2.heap.size) : NewOr w1 v v' := by
  rcases h with h | ⟨g, h, hg⟩
  · exact .inl h
  · exact .inr ⟨g, h, Nat.le_trans hs hg⟩
def lenOfV : Value → Nat
  | .slice _ n _ => n
  | _ => 0
def lenAt (w : World) (p : Nat) : Nat :=
  match w.cell? ⟨p, 0, none⟩ with
  | some v => lenOfV v
  | none => 0
theorem FamAt.len {w : World} {B p : Nat} {v : Value} {S : Nat → Bool} (h : FamAt w B p v S) : lenAt w p = (fam S 16).length := by
  obtain ⟨a, c, e⟩ := h.slice
  unfold lenAt; rw [h.cell, e]; rfl
theorem WorkX.len {w : World} {B : Nat} {v : Value} {xs : List Int} (h : WorkX w B v xs) : lenOfV v = xs.length := by
  obtain ⟨g, o, c, e, _⟩ := h; rw [e]; rfl
theorem rowL_self (xs : List Int) : rowL (fun i => xs.getD i 0) xs.length = xs := by
  unfold rowL
  apply List.ext_getElem?
  intro i
  rw [List.getElem?_map]
  by_cases hi : i < xs.length
  · rw [List.getElem?_range hi, Option.map_some, List.getD_eq_getElem?_getD, List.getElem?_eq_getElem hi]; rfl
  · rw [List.getElem?_eq_none (by omega : xs.length ≤ i), List.getElem?_eq_none (by simp; omega)]; rfl
end Go.Proofs.Ytocjpolgghfbeaa
