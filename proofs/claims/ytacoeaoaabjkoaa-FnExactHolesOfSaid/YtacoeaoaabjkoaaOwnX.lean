import Derived.Test.YtacoeaoaabjkoaaDraws
import Derived.Maps.AppendAt
import Derived.Maps.Own
import Derived.Maps.OwnOps
namespace Go.Proofs.Ytacoeaoaabjkoaa
open Go.RowKit Go.Maps

/-- a row of one's own that holds the list xs -/
def OwnX (w : World) (B : Nat) (t : TypeId) (v : Value) (xs : List Int) : Prop := w.ownsRow B t 1 v xs.length (xs.map (Value.int .i64))

theorem OwnX.nil (w : World) (B : Nat) (t : TypeId) : OwnX w B t (.slice none 0 0) [] := World.ownsRow_nil w B t 1
theorem OwnX.snoc {w : World} {B : Nat} {t : TypeId} {v : Value} {xs : List Int} {s : Int} (h : w.ownsRow B t 1 v (xs.length + 1) (xs.map (Value.int .i64) ++ [.int .i64 s])) : OwnX w B t v (xs ++ [s]) := by
  unfold OwnX; simpa using h
theorem OwnX.made (w : World) (B : Nat) (hB : B ≤ w.heap.size) (t : TypeId) : OwnX (w.alloc (.cells #[] t)) B t (.slice (some ⟨w.heap.size, 0, none⟩) 0 0) [] :=
  World.ownsRow_made w #[] 0 hB (by unfold maxLen; omega) rfl

theorem OwnX.other {w w' : World} {B : Nat} {t : TypeId} {v : Value} {xs : List Int} (h : OwnX w B t v xs) (hb : ∀ g, v.ownBlock = some g → B ≤ g → g < w.heap.size → w'.heap[g]? = w.heap[g]?) : OwnX w' B t v xs := by
  have hlt := World.ownsRow.lt h
  obtain ⟨h3, h4⟩ := h
  refine ⟨h3, ?_⟩
  rcases h4 with h4 | ⟨g, cap, cur, hv, hB, hg, hr⟩
  · exact .inl h4
  · subst hv
    have := hlt g rfl
    exact .inr ⟨g, cap, cur, rfl, hB, by rw [hb g rfl this.1 this.2]; exact hg, hr⟩
theorem OwnX.kept {w w' : World} {B : Nat} {t : TypeId} {v : Value} {xs : List Int} (h : OwnX w B t v xs) (hb : Below w.heap.size w w') : OwnX w' B t v xs := h.other (fun g _ _ hl => hb.block g hl)
theorem OwnX.lift {w w' : World} {B rb : Nat} {t : TypeId} {v : Value} {xs : List Int} (h : OwnX w B t v xs) (hb : Only rb w w') (hB : rb < B) : OwnX w' B t v xs := h.other (fun g _ hBg hl => hb.block g hl (by omega))
theorem OwnX.base {w : World} {B B' : Nat} {t : TypeId} {v : Value} {xs : List Int} (h : OwnX w B t v xs) (hB : B' ≤ B) : OwnX w B' t v xs := by
  obtain ⟨h3, h4⟩ := h
  refine ⟨h3, ?_⟩
  rcases h4 with h4 | ⟨g, cap, cur, hv, hBg, hr⟩
  · exact .inl h4
  · exact .inr ⟨g, cap, cur, hv, Nat.le_trans hB hBg, hr⟩
theorem OwnX.slice {w : World} {B : Nat} {t : TypeId} {v : Value} {xs : List Int} (h : OwnX w B t v xs) : ∃ (a : Option Addr) (cap : Nat), v = .slice a xs.length cap := by
  obtain ⟨_, h4⟩ := h
  rcases h4 with ⟨h4, h5⟩ | ⟨g, cap, cur, hv, _⟩
  · exact ⟨none, 0, by rw [h5]; exact h4⟩
  · exact ⟨_, cap, hv⟩
theorem OwnX.shape {w : World} {B : Nat} {t : TypeId} {v : Value} {xs : List Int} (h : OwnX w B t v xs) (h1 : 1 ≤ xs.length) :
    ∃ g cap, v = .slice (some ⟨g, 0, none⟩) xs.length cap ∧ B ≤ g ∧ g < w.heap.size ∧ xs.length ≤ cap ∧ cap ≤ 9223372036854775807 ∧ Row w g 0 xs.length (fun i => xs.getD i 0) ∧ ∀ j, w.frozen? ⟨g, j, none⟩ = false := by
  have hlt := World.ownsRow.lt h
  have h' : w.ownsRow B t 1 v xs.length (xs.map (Value.int .i64)) := h
  obtain ⟨h3, h4⟩ := h
  rcases h4 with ⟨_, h4⟩ | ⟨g, cap, cur, hv, hB, hg, hc, hm, _⟩
  · omega
  · subst hv
    unfold maxLen at hm
    refine ⟨g, cap, rfl, hB, (hlt g rfl).2, hc, hm, fun i hi => ?_, fun j => h'.frozenAt j⟩
    rw [Nat.zero_add, h'.cellAt i (by omega)]
    show _ = some (Value.int .i64 (xs.getD i 0))
    rw [List.getElem?_map, List.getD_eq_getElem?_getD, List.getElem?_eq_getElem (by omega : i < xs.length)]
    rfl
theorem OwnX.own {w : World} {B : Nat} {v : Value} {xs : List Int} (h : OwnX w B 3 v xs) (h64 : ∀ x ∈ xs, I64 x) : OwnI w B v xs.length := ⟨xs, rfl, h64, h⟩

theorem getD_mem {xs : List Int} {i : Nat} (hi : i < xs.length) : xs.getD i 0 ∈ xs := by
  rw [List.getD_eq_getElem?_getD, List.getElem?_eq_getElem hi]; exact List.getElem_mem _

/-- a slice that holds xs: its memory can be read, and written -/
def Has (w : World) (B : Nat) (a : Option Addr) (xs : List Int) : Prop :=
  xs.length ≤ 1000 ∧ (∀ x ∈ xs, I64 x) ∧ (xs.length = 0 ∨ ∃ g, a = some ⟨g, 0, none⟩ ∧ B ≤ g ∧ g < w.heap.size ∧ Row w g 0 xs.length (fun i => xs.getD i 0) ∧ ∀ j, w.frozen? ⟨g, j, none⟩ = false)
theorem OwnX.has {w : World} {B : Nat} {t : TypeId} {v : Value} {xs : List Int} (h : OwnX w B t v xs) (hl : xs.length ≤ 1000) (h64 : ∀ x ∈ xs, I64 x) : ∃ (a : Option Addr) (cap : Nat), v = .slice a xs.length cap ∧ Has w B a xs := by
  obtain ⟨a, cap, hv⟩ := h.slice
  by_cases h0 : xs.length = 0
  · exact ⟨a, cap, hv, hl, h64, .inl h0⟩
  · obtain ⟨g, c2, hv2, h1, h2, _, _, h3, h4⟩ := h.shape (by omega)
    rw [hv] at hv2
    injection hv2 with e1 e2 e3
    exact ⟨a, cap, hv, hl, h64, .inr ⟨g, e1, h1, h2, h3, h4⟩⟩
theorem Has.ints {w : World} {B : Nat} {a : Option Addr} {xs : List Int} (h : Has w B a xs) : Ints w a xs.length (fun i => xs.getD i 0) := by
  obtain ⟨h1, h2, h3⟩ := h
  refine ⟨⟨by omega, fun i hi => h2 _ (getD_mem hi)⟩, ?_⟩
  rcases h3 with h3 | ⟨g, h4, _, h5, h6, _⟩
  · exact .inl h3
  · exact .inr ⟨g, 0, h4, h5, h6⟩
theorem Has.next {w w' : World} {B : Nat} {a : Option Addr} {xs : List Int} (h : Has w B a xs) (hb : Below w.heap.size w w') : Has w' B a xs := by
  obtain ⟨h1, h2, h3⟩ := h
  refine ⟨h1, h2, ?_⟩
  rcases h3 with h3 | ⟨g, h4, hB, h5, h6, h7⟩
  · exact .inl h3
  · exact .inr ⟨g, h4, hB, Nat.lt_of_lt_of_le h5 hb.size, h6.below hb h5, fun j => (hb.frozen (p := ⟨g, j, none⟩) h5).trans (h7 j)⟩

/-- the first n values of F -/
def rowL (F : Nat → Int) (n : Nat) : List Int := (List.range n).map F
theorem rowL_len (F : Nat → Int) (n : Nat) : (rowL F n).length = n := by unfold rowL; simp
theorem rowL_succ (F : Nat → Int) (n : Nat) : rowL F (n + 1) = rowL F n ++ [F n] := by unfold rowL; rw [List.range_succ, List.map_append]; rfl
theorem rowL_getD (F : Nat → Int) (n i : Nat) (hi : i < n) : (rowL F n).getD i 0 = F i := by
  unfold rowL; rw [List.getD_eq_getElem?_getD, List.getElem?_map, List.getElem?_range hi]; rfl
theorem rowL_mem {F : Nat → Int} {n : Nat} {P : Int → Prop} (h : ∀ i, i < n → P (F i)) : ∀ x ∈ rowL F n, P x := by
  intro x hx
  obtain ⟨i, hi, rfl⟩ := List.mem_map.1 hx
  exact h i (List.mem_range.1 hi)
theorem row_of_list {w : World} {g n : Nat} {F : Nat → Int} (h : Row w g 0 (rowL F n).length (fun i => (rowL F n).getD i 0)) : Row w g 0 n F := by
  intro i hi
  have := h i (by rw [rowL_len]; exact hi)
  rw [this]
  show some (Value.int .i64 ((rowL F n).getD i 0)) = _
  rw [rowL_getD _ _ _ hi]

/-- a slice that holds xs is handed back -/
def Gives (t : TypeId) (xs : List Int) (w : World) (e : Ending) (w' : World) : Prop := ∃ v, e = .returned v ∧ OwnX w' w.heap.size t v xs ∧ Below w.heap.size w w'
end Go.Proofs.Ytacoeaoaabjkoaa
