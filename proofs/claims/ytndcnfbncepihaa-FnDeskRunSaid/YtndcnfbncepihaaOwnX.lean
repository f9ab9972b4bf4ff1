import Derived.Test.YtndcnfbncepihaaDraws
import Derived.Maps.AppendAt
import Derived.Maps.Own
import Derived.Maps.OwnOps
namespace Go.Proofs.Ytndcnfbncepihaa
open Go.RowKit Go.Maps

/-- a row of one's own that holds the list xs -/
def OwnX (w : World) (B : Nat) (t : TypeId) (v : Value) (xs : List Int) : Prop := w.ownsRow B t 1 v xs.length (xs.map (Value.int .i64))

theorem OwnX.nil (w : World) (B : Nat) (t : TypeId) : OwnX w B t (.slice none 0 0) [] := World.ownsRow_nil w B t 1
theorem OwnX.snoc {w : World} {B : Nat} {t : TypeId} {v : Value} {xs : List Int} {s : Int} (h : w.ownsRow B t 1 v (xs.length + 1) (xs.map (Value.int .i64) ++ [.int .i64 s])) : OwnX w B t v (xs ++ [s]) := by
  unfold OwnX; simpa using h
theorem OwnX.made (w : World) (B : Nat) (hB : B ≤ w.heap.size) (t : TypeId) : OwnX (w.alloc (.cells #[] t)) B t (.slice (some ⟨w.heap.size, 0, none⟩) 0 0) [] :=
  World.ownsRow_made w #[] 0 hB (by unfold maxLen; omega) rfl

theorem OwnX.other {w w' : World} {B : Nat} {t : TypeId} {v : Value} {xs : List Int} (h : OwnX w B t v xs) (hb : ∀ g, v.ownBlock = some g → B ≤ g → g < w.heap.size → w'.heap[g]? = w.heap[g]?) : OwnX w' B t v xs := by
  have hlt := World.ownsRow.lt h
  obtain ⟨h3, h4⟩ := h
  refine ⟨h3, ?_⟩
  rcases h4 with h4 | ⟨g, cap, cur, hv, hB, hg, hr⟩
  · exact .inl h4
  · subst hv
    have := hlt g rfl
    exact .inr ⟨g, cap, cur, rfl, hB, by rw [hb g rfl this.1 this.2]; exact hg, hr⟩
theorem OwnX.kept {w w' : World} {B : Nat} {t : TypeId} {v : Value} {xs : List Int} (h : OwnX w B t v xs) (hb : Below w.heap.size w w') : OwnX w' B t v xs := h.other (fun g _ _ hl => hb.block g hl)
theorem OwnX.lift {w w' : World} {B rb : Nat} {t : TypeId} {v : Value} {xs : List Int} (h : OwnX w B t v xs) (hb : Only rb w w') (hB : rb < B) : OwnX w' B t v xs := h.other (fun g _ hBg hl => hb.block g hl (by omega))
theorem OwnX.base {w : World} {B B' : Nat} {t : TypeId} {v : Value} {xs : List Int} (h : OwnX w B t v xs) (hB : B' ≤ B) : OwnX w B' t v xs := by
  obtain ⟨h3, h4⟩ := h
  refine ⟨h3, ?_⟩
  rcases h4 with h4 | ⟨g, cap, cur, hv, hBg, hr⟩
  · exact .inl h4
  · exact .inr ⟨g, cap, cur, hv, Nat.le_trans hB hBg, hr⟩
theorem OwnX.slice {w : World} {B : Nat} {t : TypeId} {v : Value} {xs : List Int} (h : OwnX w B t v xs) : ∃ (a : Option Addr) (cap : Nat), v = .slice a xs.length cap := by
  obtain ⟨_, h4⟩ := h
  rcases h4 with ⟨h4, h5⟩ | ⟨g, cap, cur, hv, _⟩
  · exact ⟨none, 0, by rw [h5]; exact h4⟩
  · exact ⟨_, cap, hv⟩
theorem OwnX.shape {w : World} {B : Nat} {t : TypeId} {v : Value} {xs : List Int} (h : OwnX w B t v xs) (h1 : 1 ≤ xs.length) :
    ∃ g cap, v = .slice (some ⟨g, 0, none⟩) xs.length cap ∧ B ≤ g ∧ g < w.heap.size ∧ xs.length ≤ cap ∧ cap ≤ 9223372036854775807 ∧ Row w g 0 xs.length (fun i => xs.getD i 0) ∧ ∀ j, w.frozen? ⟨g, j, none⟩ = false := by
  have hlt := World.ownsRow.lt h
  have h' : w.ownsRow B t 1 v xs.length (xs.map (Value.int .i64)) := h
  obtain ⟨h3, h4⟩ := h
  rcases h4 with ⟨_, h4⟩ | ⟨g, cap, cur, hv, hB, hg, hc, hm, _⟩
  · omega
  · subst hv
    unfold maxLen at hm
    refine ⟨g, cap, rfl, hB, (hlt g rfl).2, hc, hm, fun i hi => ?_, fun j => h'.frozenAt j⟩
    rw [Nat.zero_add, h'.cellAt i (by omega)]
    show _ = some (Value.int .i64 (xs.getD i 0))
    rw [List.getElem?_map, List.getD_eq_getElem?_getD, List.getElem?_eq_getElem (by omega : i < xs.length)]
    rfl
theorem OwnX.own {w : World} {B : Nat} {v : Value} {xs : List Int} (h : OwnX w B 3 v xs) (h64 : ∀ x ∈ xs, I64 x) : OwnI w B v xs.length := ⟨xs, rfl, h64, h⟩

theorem getD_mem {xs : List Int} {i : Nat} (hi : i < xs.length) : xs.getD i 0 ∈ xs := by
  rw [List.getD_eq_getElem?_getD, List.getElem?_eq_getElem hi]; exact List.getElem_mem _

/-- a slice that holds xs: its memory can be read, and written -/
def Has (w : World) (B : Nat) (a : Option Addr) (xs : List Int) : Prop :=
  xs.length ≤ 1000 ∧ (∀ x ∈ xs, I64 x) ∧ (xs.length = 0 ∨ ∃ g, a = some ⟨g, 0, none⟩ ∧ B ≤ g ∧ g < w.heap.size ∧ Row w g 0 xs.length (fun i => xs.getD i 0) ∧ ∀ j, w.frozen? ⟨g, j, none⟩ = false)
theorem OwnX.has {w : World} {B : Nat} {t : TypeId} {v : Value} {xs : List Int} (h : OwnX w B t v xs) (hl : xs.length ≤ 1000) (h64 : ∀ x ∈ xs, I64 x) : ∃ (a : Option Addr) (cap : Nat), v = .slice a xs.length cap ∧ Has w B a xs := by
  obtain ⟨a, cap, hv⟩ := h.slice
  by_cases h0 : xs.length = 0
  · exact ⟨a, cap, hv, hl, h64, .inl h0⟩
  · obtain ⟨g, c2, hv2, h1, h2, _, _, h3, h4⟩ := h.shape (by omega)
    rw [hv] at hv2
    injection hv2 with e1 e2 e3
    exact ⟨a, cap, hv, hl, h64, .inr ⟨g, e1, h1, h2, h3, h4⟩⟩
theorem Has.ints {w : World} {B : Nat} {a : Option Addr} {xs : List Int} (h : Has w B a xs) : Ints w a xs.length (fun i => xs.getD i 0) := by
  obtain ⟨h1, h2, h3⟩ := h
  refine ⟨⟨by omega, fun i hi => h2 _ (getD_mem hi)⟩, ?_⟩
  rcases h3 with h3 | ⟨g, h4, _, h5, h6, _⟩
  · exact .inl h3
  · exact .inr ⟨g, 0, h4, h5, h6⟩
theorem Has.next {w w' : World} {B : Nat} {a : Option Addr} {xs : List Int} (h : Has w B a xs) (hb : Below w.heap.size w w') : Has w' B a xs := by
  obtain ⟨h1, h2, h3⟩ := h
  refine ⟨h1, h2, ?_⟩
  rcases h3 with h3 | ⟨g, h4, hB, h5, h6, h7⟩
  · exact .inl h3
  · exact .inr ⟨g, h4, hB, Nat.lt_of_lt_of_le h5 hb.size, h6.below hb h5, fun j => (hb.frozen (p := ⟨g, j, none⟩) h5).trans (h7 j)⟩

/-- the first n values of F -/
def rowL (F : Nat → Int) (n : Nat) : List Int := (List.range n).map F
theorem rowL_len (F : Nat → Int) (n : Nat) : (rowL F n).length = n := by unfold rowL; simp
theorem rowL_succ (F : Nat → Int) (n : Nat) : rowL F (n + 1) = rowL F n ++ [F n] := by unfold rowL; rw [List.range_succ, List.map_append]; rfl
theorem rowL_getD (F : Nat → Int) (n i : Nat) (hi : i < n) : (rowL F n).getD i 0 = F i := by
  unfold rowL; rw [List.getD_eq_getElem?_getD, List.getElem?_map, List.getElem?_range hi]; rfl
theorem rowL_mem {F : Nat → Int} {n : Nat} {P : Int → Prop} (h : ∀ i, i < n → P (F i)) : ∀ x ∈ rowL F n, P x := by
  intro x hx
  obtain ⟨i, hi, rfl⟩ := List.mem_map.1 hx
  exact h i (List.mem_range.1 hi)
theorem row_of_list {w : World} {g n : Nat} {F : Nat → Int} (h : Row w g 0 (rowL F n).length (fun i => (rowL F n).getD i 0)) : Row w g 0 n F := by
  intro i hi
  have := h i (by rw [rowL_len]; exact hi)
  rw [this]
  show some (Value.int .i64 ((rowL F n).getD i 0)) = _
  rw [rowL_getD _ _ _ hi]

/-- the values of a row -/
def rowV (f : Nat → Int) (n : Nat) : List Value := (rowL f n).map (Value.int .i64)
theorem rowV_cells {w : World} {g o n : Nat} {f : Nat → Int} (h : Row w g o n f) : ∀ j u, (rowV f n)[j]? = some u → w.cell? ((⟨g, o, none⟩ : Addr).add j) = some u := by
  intro j u hj
  have hl : j < n := by
    have := (List.getElem?_eq_some_iff.1 hj).1
    unfold rowV at this; rw [List.length_map, rowL_len] at this; exact this
  rw [Addr.add_lit, h j hl]
  unfold rowV rowL at hj
  rw [List.map_map, List.getElem?_map, List.getElem?_range hl] at hj
  exact hj
theorem rowV_one (f : Nat → Int) (n : Nat) : ∀ u ∈ rowV f n, u.oneCell' = true := by
  intro u hu
  unfold rowV at hu
  obtain ⟨x, _, rfl⟩ := List.mem_map.1 hu; rfl
theorem rowV_len (f : Nat → Int) (n : Nat) : (rowV f n).length = n := by unfold rowV; rw [List.length_map, rowL_len]
theorem OwnX.rowV {w : World} {B : Nat} {t : TypeId} {v : Value} {f : Nat → Int} {n : Nat} (h : w.ownsRow B t 1 v n (rowV f n)) : OwnX w B t v (rowL f n) := by
  unfold OwnX; rw [rowL_len]; exact h

/-- a block of two cells -/
def Blk2 (w : World) (B : Nat) (t : TypeId) (x y : Value) : Prop := w.heap[B]? = some (.cells #[x, y] t (0, 0))
theorem Blk2.cell {w : World} {B : Nat} {t : TypeId} {x y : Value} (h : Blk2 w B t x y) : w.cell? ⟨B, 0, none⟩ = some x ∧ w.cell? ⟨B, 1, none⟩ = some y :=
  ⟨cell_of_row w B 0 _ t _ h, cell_of_row w B 1 _ t _ h⟩
theorem Blk2.frozen {w : World} {B : Nat} {t : TypeId} {x y : Value} (h : Blk2 w B t x y) (j : Nat) : w.frozen? ⟨B, j, none⟩ = false := by
  simp [World.frozen?, show w.heap[B]? = _ from h]
theorem Blk2.set1 {w : World} {B : Nat} {t : TypeId} {x y : Value} (h : Blk2 w B t x y) (u : Value) : Blk2 (w.setCell ⟨B, 1, none⟩ u) B t x u := by
  have := heap_setCell_same w B 1 #[x, y] t u h
  exact this
theorem Blk2.set0 {w : World} {B : Nat} {t : TypeId} {x y : Value} (h : Blk2 w B t x y) (u : Value) : Blk2 (w.setCell ⟨B, 0, none⟩ u) B t u y := by
  have := heap_setCell_same w B 0 #[x, y] t u h
  exact this
theorem Blk2.other {w : World} {B : Nat} {t : TypeId} {x y : Value} (h : Blk2 w B t x y) {b : Nat} (hb : B ≠ b) (j : Nat) (u : Value) : Blk2 (w.setCell ⟨b, j, none⟩ u) B t x y :=
  (heap_setCell_other w ⟨b, j, none⟩ B u hb).trans h
theorem Blk2.lt {w : World} {B : Nat} {t : TypeId} {x y : Value} (h : Blk2 w B t x y) : B < w.heap.size := by
  rcases Nat.lt_or_ge B w.heap.size with h1 | h1
  · exact h1
  · unfold Blk2 at h; rw [Array.getElem?_eq_none h1] at h; cases h
theorem Blk2.kept {w w' : World} {B C : Nat} {t : TypeId} {x y : Value} (h : Blk2 w B t x y) (hb : Below C w w') (hlt : B < C) : Blk2 w' B t x y := (hb.block B hlt).trans h
theorem Blk2.new (w : World) (t : TypeId) (x y : Value) : Blk2 (w.alloc (.cells #[x, y] t)) w.heap.size t x y := heap_alloc_new w _

/-- a block that holds h in its first n cells -/
def Rw (w : World) (g : Nat) (t : TypeId) (cap n : Nat) (h : Nat → Int) : Prop := ∃ cur : Array Value, w.heap[g]? = some (.cells cur t (0, 0)) ∧ cur.size = cap ∧ ∀ i, i < n → cur[i]? = some (.int .i64 (h i))
theorem Rw.cell {w : World} {g : Nat} {t : TypeId} {cap n : Nat} {h : Nat → Int} (hr : Rw w g t cap n h) (i : Nat) (hi : i < n) : w.cell? ⟨g, i, none⟩ = some (.int .i64 (h i)) := by
  obtain ⟨cur, h1, _, h2⟩ := hr
  rw [cell_of_row w g i cur t _ h1]; exact h2 i hi
theorem Rw.frozen {w : World} {g : Nat} {t : TypeId} {cap n : Nat} {h : Nat → Int} (hr : Rw w g t cap n h) (j : Nat) : w.frozen? ⟨g, j, none⟩ = false := by
  obtain ⟨cur, h1, _⟩ := hr
  simp [World.frozen?, h1]
theorem Rw.set {w : World} {g : Nat} {t : TypeId} {cap n : Nat} {h : Nat → Int} (hr : Rw w g t cap n h) (i : Nat) (v : Int) : Rw (w.setCell ⟨g, i, none⟩ (.int .i64 v)) g t cap n (fun j => if j = i then v else h j) := by
  obtain ⟨cur, h1, h2, h3⟩ := hr
  refine ⟨_, heap_setCell_same w g i cur t _ h1, by simpa using h2, fun j hj => ?_⟩
  show _ = some (Value.int .i64 (if j = i then v else h j))
  by_cases e : j = i
  · subst e
    rw [if_pos rfl, Array.getElem?_setIfInBounds_self_of_lt (Array.getElem?_eq_some_iff.1 (h3 j hj)).1]
  · rw [if_neg e, Array.getElem?_setIfInBounds_ne (by omega)]; exact h3 j hj
theorem Rw.less {w : World} {g : Nat} {t : TypeId} {cap n m : Nat} {h h' : Nat → Int} (hr : Rw w g t cap n h) (hm : m ≤ n) (e : ∀ i, i < m → h i = h' i) : Rw w g t cap m h' := by
  obtain ⟨cur, h1, h2, h3⟩ := hr
  exact ⟨cur, h1, h2, fun i hi => by rw [← e i hi]; exact h3 i (by omega)⟩
theorem Rw.cap {w : World} {g : Nat} {t : TypeId} {cap n : Nat} {h : Nat → Int} (hr : Rw w g t cap n h) {i : Nat} (hi : i < n) : i < cap := by
  obtain ⟨cur, _, h2, h3⟩ := hr
  have := (Array.getElem?_eq_some_iff.1 (h3 i hi)).1
  omega
theorem OwnX.rw {w : World} {B : Nat} {t : TypeId} {v : Value} {xs : List Int} (h : OwnX w B t v xs) (h1 : 1 ≤ xs.length) :
    ∃ g cap, v = .slice (some ⟨g, 0, none⟩) xs.length cap ∧ B ≤ g ∧ g < w.heap.size ∧ xs.length ≤ cap ∧ cap ≤ maxLen ∧ Rw w g t cap xs.length (fun i => xs.getD i 0) := by
  have hlt := World.ownsRow.lt h
  obtain ⟨h3, h4⟩ := h
  rcases h4 with ⟨_, h4⟩ | ⟨g, cap, cur, hv, hB, hg, hc, hm, hs, hx⟩
  · omega
  · subst hv
    refine ⟨g, cap, rfl, hB, (hlt g rfl).2, hc, hm, cur, hg, by simpa using hs, fun i hi => ?_⟩
    rw [Nat.mul_one] at hx
    have h5 : (cur.toList.take xs.length)[i]? = (xs.map (Value.int .i64))[i]? := by rw [hx]
    rw [List.getElem?_take_of_lt hi, List.getElem?_map, List.getElem?_eq_getElem hi] at h5
    show _ = some (Value.int .i64 (xs.getD i 0))
    rw [← Array.getElem?_toList, h5, List.getD_eq_getElem?_getD, List.getElem?_eq_getElem hi]
    rfl
theorem Rw.own {w : World} {g B : Nat} {t : TypeId} {cap m : Nat} {xs : List Int} (hr : Rw w g t cap m (fun i => xs.getD i 0)) (hm : m = xs.length) (hB : B ≤ g) (hc : m ≤ cap) (hM : cap ≤ maxLen) : OwnX w B t (.slice (some ⟨g, 0, none⟩) m cap) xs := by
  obtain ⟨cur, h1, h2, h3⟩ := hr
  subst hm
  refine ⟨by simp, .inr ⟨g, cap, cur, rfl, hB, h1, hc, hM, by simpa using h2, ?_⟩⟩
  rw [Nat.mul_one]
  apply List.ext_getElem?
  intro i
  by_cases hi : i < xs.length
  · rw [List.getElem?_take_of_lt hi, Array.getElem?_toList, h3 i hi, List.getElem?_map, List.getElem?_eq_getElem hi]
    show some (Value.int .i64 (xs.getD i 0)) = _
    rw [List.getD_eq_getElem?_getD, List.getElem?_eq_getElem hi]
    rfl
  · rw [List.getElem?_eq_none (by rw [List.length_take]; omega), List.getElem?_eq_none (by rw [List.length_map]; omega)]

/-- a slice that holds xs is handed back -/
def Gives (t : TypeId) (xs : List Int) (w : World) (e : Ending) (w' : World) : Prop := ∃ v, e = .returned v ∧ OwnX w' w.heap.size t v xs ∧ Below w.heap.size w w'
end Go.Proofs.Ytndcnfbncepihaa
