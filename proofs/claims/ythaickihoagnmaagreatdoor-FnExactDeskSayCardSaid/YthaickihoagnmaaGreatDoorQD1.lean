import Derived.Test.YthaickihoagnmaaGreatDoorQD0
import Derived.Maps.AppendAt
import Derived.Maps.Own
import Derived.Maps.OwnOps
import Derived.RangeFuncWrites
import Derived.RangeFuncBox
import Derived.Lib.SliceRun
set_option linter.unusedVariables false
set_option linter.unusedSimpArgs false
set_option maxHeartbeats 12800000
namespace Go.Proofs.YthaickihoagnmaaGreatDoor
open Go.RowKit Go.Maps
def OwnX (w : World) (B : Nat) (t : TypeId) (v : Value) (xs : List Int) : Prop := w.ownsRow B t 1 v xs.length (xs.map (Value.int .i64))
theorem OwnX.nil (w : World) (B : Nat) (t : TypeId) : OwnX w B t (.slice none 0 0) [] := World.ownsRow_nil w B t 1
theorem OwnX.snoc {w : World} {B : Nat} {t : TypeId} {v : Value} {xs : List Int} {s : Int} (h : w.ownsRow B t 1 v (xs.length + 1) (xs.map (Value.int .i64) ++ [.int .i64 s])) : OwnX w B t v (xs ++ [s]) := by
  unfold OwnX; simpa using h
theorem OwnX.made (w : World) (B : Nat) (hB : B ≤ w.heap.size) (t : TypeId) : OwnX (w.alloc (.cells #[] t)) B t (.slice (some ⟨w.heap.size, 0, none⟩) 0 0) [] :=
  World.ownsRow_made w #[] 0 hB (by unfold maxLen; omega) rfl
theorem OwnX.other {w w' : World} {B : Nat} {t : TypeId} {v : Value} {xs : List Int} (h : OwnX w B t v xs) (hb : ∀ g, v.ownBlock = some g → B ≤ g → g < w.heap.size → w'.heap[g]? = w.heap[g]?) : OwnX w' B t v xs := by
  have hlt := World.ownsRow.lt h
  obtain ⟨h3, h4⟩ := h
  refine ⟨h3, ?_⟩
  rcases h4 with h4 | ⟨g, cap, cur, hv, hB, hg, hr⟩
  · exact .inl h4
  · subst hv
    have := hlt g rfl
    exact .inr ⟨g, cap, cur, rfl, hB, by rw [hb g rfl this.1 this.2]; exact hg, hr⟩
theorem OwnX.kept {w w' : World} {B : Nat} {t : TypeId} {v : Value} {xs : List Int} (h : OwnX w B t v xs) (hb : Below w.heap.size w w') : OwnX w' B t v xs := h.other (fun g _ _ hl => hb.block g hl)
theorem OwnX.base {w : World} {B B' : Nat} {t : TypeId} {v : Value} {xs : List Int} (h : OwnX w B t v xs) (hB : B' ≤ B) : OwnX w B' t v xs := by
  obtain ⟨h3, h4⟩ := h
  refine ⟨h3, ?_⟩
  rcases h4 with h4 | ⟨g, cap, cur, hv, hBg, hr⟩
  · exact .inl h4
  · exact .inr ⟨g, cap, cur, hv, Nat.le_trans hB hBg, hr⟩
theorem OwnX.slice {w : World} {B : Nat} {t : TypeId} {v : Value} {xs : List Int} (h : OwnX w B t v xs) : ∃ (a : Option Addr) (cap : Nat), v = .slice a xs.length cap := by
  obtain ⟨_, h4⟩ := h
  rcases h4 with ⟨h4, h5⟩ | ⟨g, cap, cur, hv, _⟩
  · exact ⟨none, 0, by rw [h5]; exact h4⟩
  · exact ⟨_, cap, hv⟩
theorem OwnX.shape {w : World} {B : Nat} {t : TypeId} {v : Value} {xs : List Int} (h : OwnX w B t v xs) (h1 : 1 ≤ xs.length) :
    ∃ g cap, v = .slice (some ⟨g, 0, none⟩) xs.length cap ∧ B ≤ g ∧ g < w.heap.size ∧ xs.length ≤ cap ∧ cap ≤ 9223372036854775807 ∧ Row w g 0 xs.length (fun i => xs.getD i 0) ∧ ∀ j, w.frozen? ⟨g, j, none⟩ = false := by
  have hlt := World.ownsRow.lt h
  have h' : w.ownsRow B t 1 v xs.length (xs.map (Value.int .i64)) := h
  obtain ⟨h3, h4⟩ := h
  rcases h4 with ⟨_, h4⟩ | ⟨g, cap, cur, hv, hB, hg, hc, hm, _⟩
  · omega
  · subst hv
    unfold maxLen at hm
    refine ⟨g, cap, rfl, hB, (hlt g rfl).2, hc, hm, fun i hi => ?_, fun j => h'.frozenAt j⟩
    rw [Nat.zero_add, h'.cellAt i (by omega)]
    show _ = some (Value.int .i64 (xs.getD i 0))
    rw [List.getElem?_map, List.getD_eq_getElem?_getD, List.getElem?_eq_getElem (by omega : i < xs.length)]
    rfl
theorem getD_mem {xs : List Int} {i : Nat} (hi : i < xs.length) : xs.getD i 0 ∈ xs := by
  rw [List.getD_eq_getElem?_getD, List.getElem?_eq_getElem hi]; exact List.getElem_mem _
def Has (w : World) (B : Nat) (a : Option Addr) (xs : List Int) : Prop :=
  xs.length ≤ 1000 ∧ (∀ x ∈ xs, I64 x) ∧ (xs.length = 0 ∨ ∃ g, a = some ⟨g, 0, none⟩ ∧ B ≤ g ∧ g < w.heap.size ∧ Row w g 0 xs.length (fun i => xs.getD i 0) ∧ ∀ j, w.frozen? ⟨g, j, none⟩ = false)
theorem OwnX.has {w : World} {B : Nat} {t : TypeId} {v : Value} {xs : List Int} (h : OwnX w B t v xs) (hl : xs.length ≤ 1000) (h64 : ∀ x ∈ xs, I64 x) : ∃ (a : Option Addr) (cap : Nat), v = .slice a xs.length cap ∧ Has w B a xs := by
  obtain ⟨a, cap, hv⟩ := h.slice
  by_cases h0 : xs.length = 0
  · exact ⟨a, cap, hv, hl, h64, .inl h0⟩
  · obtain ⟨g, c2, hv2, h1, h2, _, _, h3, h4⟩ := h.shape (by omega)
    rw [hv] at hv2
    injection hv2 with e1 e2 e3
    exact ⟨a, cap, hv, hl, h64, .inr ⟨g, e1, h1, h2, h3, h4⟩⟩
theorem Has.ints {w : World} {B : Nat} {a : Option Addr} {xs : List Int} (h : Has w B a xs) : Ints w a xs.length (fun i => xs.getD i 0) := by
  obtain ⟨h1, h2, h3⟩ := h
  refine ⟨⟨by omega, fun i hi => h2 _ (getD_mem hi)⟩, ?_⟩
  rcases h3 with h3 | ⟨g, h4, _, h5, h6, _⟩
  · exact .inl h3
  · exact .inr ⟨g, 0, h4, h5, h6⟩
def rowL (F : Nat → Int) (n : Nat) : List Int := (List.range n).map F
theorem rowL_len (F : Nat → Int) (n : Nat) : (rowL F n).length = n := by unfold rowL; simp
theorem rowL_succ (F : Nat → Int) (n : Nat) : rowL F (n + 1) = rowL F n ++ [F n] := by unfold rowL; rw [List.range_succ, List.map_append]; rfl
theorem rowL_getD (F : Nat → Int) (n i : Nat) (hi : i < n) : (rowL F n).getD i 0 = F i := by
  unfold rowL; rw [List.getD_eq_getElem?_getD, List.getElem?_map, List.getElem?_range hi]; rfl
theorem rowL_mem {F : Nat → Int} {n : Nat} {P : Int → Prop} (h : ∀ i, i < n → P (F i)) : ∀ x ∈ rowL F n, P x := by
  intro x hx
  obtain ⟨i, hi, rfl⟩ := List.mem_map.1 hx
  exact h i (List.mem_range.1 hi)
theorem row_of_list {w : World} {g n : Nat} {F : Nat → Int} (h : Row w g 0 (rowL F n).length (fun i => (rowL F n).getD i 0)) : Row w g 0 n F := by
  intro i hi
  have := h i (by rw [rowL_len]; exact hi)
  rw [this]
  show some (Value.int .i64 ((rowL F n).getD i 0)) = _
  rw [rowL_getD _ _ _ hi]
def rowV (f : Nat → Int) (n : Nat) : List Value := (rowL f n).map (Value.int .i64)
theorem rowV_cells {w : World} {g o n : Nat} {f : Nat → Int} (h : Row w g o n f) : ∀ j u, (rowV f n)[j]? = some u → w.cell? ((⟨g, o, none⟩ : Addr).add j) = some u := by
  intro j u hj
  have hl : j < n := by
    have := (List.getElem?_eq_some_iff.1 hj).1
    unfold rowV at this; rw [List.length_map, rowL_len] at this; exact this
  rw [Addr.add_lit, h j hl]
  unfold rowV rowL at hj
  rw [List.map_map, List.getElem?_map, List.getElem?_range hl] at hj
  exact hj
theorem rowV_one (f : Nat → Int) (n : Nat) : ∀ u ∈ rowV f n, u.oneCell' = true := by
  intro u hu
  unfold rowV at hu
  obtain ⟨x, _, rfl⟩ := List.mem_map.1 hu; rfl
theorem rowV_len (f : Nat → Int) (n : Nat) : (rowV f n).length = n := by unfold rowV; rw [List.length_map, rowL_len]
theorem OwnX.rowV {w : World} {B : Nat} {t : TypeId} {v : Value} {f : Nat → Int} {n : Nat} (h : w.ownsRow B t 1 v n (rowV f n)) : OwnX w B t v (rowL f n) := by
  unfold OwnX; rw [rowL_len]; exact h
def Blk2 (w : World) (B : Nat) (t : TypeId) (x y : Value) : Prop := w.heap[B]? = some (.cells #[x, y] t (0, 0))
theorem Blk2.cell {w : World} {B : Nat} {t : TypeId} {x y : Value} (h : Blk2 w B t x y) : w.cell? ⟨B, 0, none⟩ = some x ∧ w.cell? ⟨B, 1, none⟩ = some y :=
  ⟨cell_of_row w B 0 _ t _ h, cell_of_row w B 1 _ t _ h⟩
theorem Blk2.frozen {w : World} {B : Nat} {t : TypeId} {x y : Value} (h : Blk2 w B t x y) (j : Nat) : w.frozen? ⟨B, j, none⟩ = false := by
  simp [World.frozen?, show w.heap[B]? = _ from h]
theorem Blk2.set1 {w : World} {B : Nat} {t : TypeId} {x y : Value} (h : Blk2 w B t x y) (u : Value) : Blk2 (w.setCell ⟨B, 1, none⟩ u) B t x u := by
  have := heap_setCell_same w B 1 #[x, y] t u h
  exact this
theorem Blk2.set0 {w : World} {B : Nat} {t : TypeId} {x y : Value} (h : Blk2 w B t x y) (u : Value) : Blk2 (w.setCell ⟨B, 0, none⟩ u) B t u y := by
  have := heap_setCell_same w B 0 #[x, y] t u h
  exact this
theorem Blk2.other {w : World} {B : Nat} {t : TypeId} {x y : Value} (h : Blk2 w B t x y) {b : Nat} (hb : B ≠ b) (j : Nat) (u : Value) : Blk2 (w.setCell ⟨b, j, none⟩ u) B t x y :=
  (heap_setCell_other w ⟨b, j, none⟩ B u hb).trans h
theorem Blk2.lt {w : World} {B : Nat} {t : TypeId} {x y : Value} (h : Blk2 w B t x y) : B < w.heap.size := by
  rcases Nat.lt_or_ge B w.heap.size with h1 | h1
  · exact h1
  · unfold Blk2 at h; rw [Array.getElem?_eq_none h1] at h; cases h
theorem Blk2.kept {w w' : World} {B C : Nat} {t : TypeId} {x y : Value} (h : Blk2 w B t x y) (hb : Below C w w') (hlt : B < C) : Blk2 w' B t x y := (hb.block B hlt).trans h
theorem Blk2.new (w : World) (t : TypeId) (x y : Value) : Blk2 (w.alloc (.cells #[x, y] t)) w.heap.size t x y := heap_alloc_new w _
def Rw (w : World) (g : Nat) (t : TypeId) (cap n : Nat) (h : Nat → Int) : Prop := ∃ cur : Array Value, w.heap[g]? = some (.cells cur t (0, 0)) ∧ cur.size = cap ∧ ∀ i, i < n → cur[i]? = some (.int .i64 (h i))
theorem Rw.cell {w : World} {g : Nat} {t : TypeId} {cap n : Nat} {h : Nat → Int} (hr : Rw w g t cap n h) (i : Nat) (hi : i < n) : w.cell? ⟨g, i, none⟩ = some (.int .i64 (h i)) := by
  obtain ⟨cur, h1, _, h2⟩ := hr
  rw [cell_of_row w g i cur t _ h1]; exact h2 i hi
theorem Rw.frozen {w : World} {g : Nat} {t : TypeId} {cap n : Nat} {h : Nat → Int} (hr : Rw w g t cap n h) (j : Nat) : w.frozen? ⟨g, j, none⟩ = false := by
  obtain ⟨cur, h1, _⟩ := hr
  simp [World.frozen?, h1]
theorem Rw.set {w : World} {g : Nat} {t : TypeId} {cap n : Nat} {h : Nat → Int} (hr : Rw w g t cap n h) (i : Nat) (v : Int) : Rw (w.setCell ⟨g, i, none⟩ (.int .i64 v)) g t cap n (fun j => if j = i then v else h j) := by
  obtain ⟨cur, h1, h2, h3⟩ := hr
  refine ⟨_, heap_setCell_same w g i cur t _ h1, by simpa using h2, fun j hj => ?_⟩
  show _ = some (Value.int .i64 (if j = i then v else h j))
  by_cases e : j = i
  · subst e
    rw [if_pos rfl, Array.getElem?_setIfInBounds_self_of_lt (Array.getElem?_eq_some_iff.1 (h3 j hj)).1]
  · rw [if_neg e, Array.getElem?_setIfInBounds_ne (by omega)]; exact h3 j hj
theorem Rw.less {w : World} {g : Nat} {t : TypeId} {cap n m : Nat} {h h' : Nat → Int} (hr : Rw w g t cap n h) (hm : m ≤ n) (e : ∀ i, i < m → h i = h' i) : Rw w g t cap m h' := by
  obtain ⟨cur, h1, h2, h3⟩ := hr
  exact ⟨cur, h1, h2, fun i hi => by rw [← e i hi]; exact h3 i (by omega)⟩
theorem OwnX.rw {w : World} {B : Nat} {t : TypeId} {v : Value} {xs : List Int} (h : OwnX w B t v xs) (h1 : 1 ≤ xs.length) :
    ∃ g cap, v = .slice (some ⟨g, 0, none⟩) xs.length cap ∧ B ≤ g ∧ g < w.heap.size ∧ xs.length ≤ cap ∧ cap ≤ maxLen ∧ Rw w g t cap xs.length (fun i => xs.getD i 0) := by
  have hlt := World.ownsRow.lt h
  obtain ⟨h3, h4⟩ := h
  rcases h4 with ⟨_, h4⟩ | ⟨g, cap, cur, hv, hB, hg, hc, hm, hs, hx⟩
  · omega
  · subst hv
    refine ⟨g, cap, rfl, hB, (hlt g rfl).2, hc, hm, cur, hg, by simpa using hs, fun i hi => ?_⟩
    rw [Nat.mul_one] at hx
    have h5 : (cur.toList.take xs.length)[i]? = (xs.map (Value.int .i64))[i]? := by rw [hx]
    rw [List.getElem?_take_of_lt hi, List.getElem?_map, List.getElem?_eq_getElem hi] at h5
    show _ = some (Value.int .i64 (xs.getD i 0))
    rw [← Array.getElem?_toList, h5, List.getD_eq_getElem?_getD, List.getElem?_eq_getElem hi]
    rfl
theorem Rw.own {w : World} {g B : Nat} {t : TypeId} {cap m : Nat} {xs : List Int} (hr : Rw w g t cap m (fun i => xs.getD i 0)) (hm : m = xs.length) (hB : B ≤ g) (hc : m ≤ cap) (hM : cap ≤ maxLen) : OwnX w B t (.slice (some ⟨g, 0, none⟩) m cap) xs := by
  obtain ⟨cur, h1, h2, h3⟩ := hr
  subst hm
  refine ⟨by simp, .inr ⟨g, cap, cur, rfl, hB, h1, hc, hM, by simpa using h2, ?_⟩⟩
  rw [Nat.mul_one]
  apply List.ext_getElem?
  intro i
  by_cases hi : i < xs.length
  · rw [List.getElem?_take_of_lt hi, Array.getElem?_toList, h3 i hi, List.getElem?_map, List.getElem?_eq_getElem hi]
    show some (Value.int .i64 (xs.getD i 0)) = _
    rw [List.getD_eq_getElem?_getD, List.getElem?_eq_getElem hi]
    rfl
  · rw [List.getElem?_eq_none (by rw [List.length_take]; omega), List.getElem?_eq_none (by rw [List.length_map]; omega)]
def Gives (t : TypeId) (xs : List Int) (w : World) (e : Ending) (w' : World) : Prop := ∃ v, e = .returned v ∧ OwnX w' w.heap.size t v xs ∧ Below w.heap.size w w'
end Go.Proofs.YthaickihoagnmaaGreatDoor
namespace Go.Proofs.YthaickihoagnmaaGreatDoor
open Go.RowKit
variable {F : Fence} {n : Nat} {P : Program}
variable {F : Fence} {n : Nat} {P : Program}
end Go.Proofs.YthaickihoagnmaaGreatDoor
namespace Go.Proofs.YthaickihoagnmaaGreatDoor
open Go.RowKit Go.Maps
theorem Gives.row {t : TypeId} {F : Nat → Int} {n : Nat} {w w' : World} {e : Ending} (h : Gives t (rowL F n) w e w') (hn : 1 ≤ n) :
    ∃ g cap, e = .returned (.slice (some ⟨g, 0, none⟩) n cap) ∧ w.heap.size ≤ g ∧ g < w'.heap.size ∧ Row w' g 0 n F ∧ Below w.heap.size w w' := by
  obtain ⟨v, rfl, h1, h2⟩ := h
  obtain ⟨g, cap, rfl, h3, h4, _, _, h5, _⟩ := h1.shape (by rw [rowL_len]; exact hn)
  rw [rowL_len]
  exact ⟨g, cap, rfl, h3, h4, row_of_list h5, h2⟩
theorem ints_row {w : World} {g n : Nat} {F : Nat → Int} (h : Row w g 0 n F) (hg : g < w.heap.size) (hn : n ≤ 1000) (h64 : ∀ i, i < n → I64 (F i)) : Ints w (some ⟨g, 0, none⟩) n F := ⟨⟨by omega, h64⟩, .inr ⟨g, 0, rfl, hg, h⟩⟩
def ltB (n : Nat) (f g : Nat → Int) : Bool := decide (∃ k, k < n ∧ f k < g k ∧ ∀ i, i < k → f i = g i)
def sameB (n : Nat) (f g : Nat → Int) : Bool := decide (∀ i, i < n → f i = g i)
set_option maxRecDepth 100000 in
theorem equal_row (g1 o1 c1 g2 o2 c2 n : Nat) (f g : Nat → Int) (hn : n ≤ 1000) (w : World) (h1 : Row w g1 o1 n f) (h2 : Row w g2 o2 n g) :
    Calls Tryz.prog 146 #[.slice (some ⟨g1, o1, none⟩) n c1, .slice (some ⟨g2, o2, none⟩) n c2] w fun e w' => e = .returned (.bool (sameB n f g)) ∧ Drew w w' := by
  have hne : ((n : Int) != (n : Int)) = false := by simp
  have H1 := Lib.hid h1; have H2 := Lib.hid h2
  clear h1 h2
  go_enter Tryz.func146, Tryz.ntmps146
  go_wp2_with fail
  go_loopw [5, 13] (fun _ i wr => ∃ k : Nat, k ≤ n ∧ i = .int .i64 k ∧ Hid (∀ i, i < k → f i = g i) ∧ Drew w wr) (fun _ i _ => n - (intOf i).toNat)
  case atStart => exact ⟨0, Nat.zero_le _, rfl, Lib.hid (fun i hi => absurd hi (Nat.not_lt_zero _)), Drew.refl _⟩
  case round =>
    obtain ⟨k, hk, rfl, hb, hd⟩ := hrel
    by_cases hlt : k < n
    · have hki : (k : Int) < (n : Int) := by omega
      have hk0 : (0 : Int) ≤ (k : Int) := by omega
      have hc1 : wr.cell? ⟨g1, o1 + k, none⟩ = some (.int .i64 (f k)) := by
        obtain ⟨m, rfl⟩ := hd
        exact H1.out k hlt
      have hc2 : wr.cell? ⟨g2, o2 + k, none⟩ = some (.int .i64 (g k)) := by
        obtain ⟨m, rfl⟩ := hd
        exact H2.out k hlt
      obtain ⟨x, hx⟩ : ∃ x, f k = x := ⟨_, rfl⟩
      obtain ⟨y, hy⟩ : ∃ y, g k = y := ⟨_, rfl⟩
      rw [hx] at hc1; rw [hy] at hc2
      have HX := Lib.hid hx; have HY := Lib.hid hy
      clear hx hy
      cases hv : (x != y) with
      | true =>
        have HV := Lib.hid hv
        go_wp2_with fail
        go_quiet (fail)
        go_wp2_with fail
        go_ret
        refine ⟨retb ?_, hd.more _⟩
        unfold sameB
        rw [eq_comm, decide_eq_false_iff_not]
        intro h
        have := h k hlt
        rw [HX.out, HY.out] at this
        rw [this] at HV
        have := HV.out
        simp at this
      | false =>
        have HV := Lib.hid hv
        go_wp2_with fail
        go_quiet (fail)
        go_wp2_with fail
        go_roundw
        case rel => exact ⟨k + 1, by omega, by go_num, Lib.hid (fun i hi => by
          by_cases e : i = k
          · subst e; rw [HX.out, HY.out]; simpa using HV.out
          · exact hb.out i (by omega)), hd.more _⟩
        case measure => simp [intOf]; omega
    · have hki : ¬ (k : Int) < (n : Int) := by omega
      have hkn : k = n := by omega
      subst hkn
      go_wp2_with fail
      go_ret
      exact ⟨retb (decide_eq_true hb.out).symm, hd⟩
theorem Rw.puts {g : Nat} {t : TypeId} {cap : Nat} : ∀ (vs : List Value) (i : Nat) {w : World} {n : Nat} {h : Nat → Int}, Rw w g t cap n h → n ≤ i → (∀ v ∈ vs, ∃ x, v = .int .i64 x) → Rw (w.setCells g i vs) g t cap n h
  | [], _, _, _, _, hr, _, _ => hr
  | v :: vs, i, _, _, _, hr, hi, hv => by
    obtain ⟨x, rfl⟩ := hv v (by simp)
    exact Rw.puts vs (i + 1) ((hr.set i x).less (Nat.le_refl _) (fun j hj => by rw [if_neg (by omega)])) (by omega) (fun v h => hv v (by simp [h]))
theorem only_puts {g : Nat} {w : World} : ∀ (vs : List Value) (i : Nat) {w' : World}, Only g w w' → Only g w (w'.setCells g i vs)
  | [], _, _, h => h
  | v :: r, i, _, h => only_puts r (i + 1) (h.setCell i v)
def evL (p : Int → Bool) (xs : List Int) : List Int := xs.filter (fun x => !p x)
theorem take_nextI {xs : List Int} {j : Nat} (hj : j < xs.length) : xs.take (j + 1) = xs.take j ++ [xs.getD j 0] := by
  rw [List.take_add_one, List.getElem?_eq_getElem hj, List.getD_eq_getElem?_getD, List.getElem?_eq_getElem hj]
  rfl
theorem ev_yes {p : Int → Bool} {xs : List Int} {j : Nat} (hj : j < xs.length) (h : p (xs.getD j 0) = false) : evL p (xs.take (j + 1)) = evL p (xs.take j) ++ [xs.getD j 0] := by
  rw [take_nextI hj]
  unfold evL
  rw [List.filter_append]
  simp [-List.getD_eq_getElem?_getD, h]
theorem ev_no {p : Int → Bool} {xs : List Int} {j : Nat} (hj : j < xs.length) (h : p (xs.getD j 0) = true) : evL p (xs.take (j + 1)) = evL p (xs.take j) := by
  rw [take_nextI hj]
  unfold evL
  rw [List.filter_append]
  simp [-List.getD_eq_getElem?_getD, h]
theorem ev_all {p : Int → Bool} {xs : List Int} (h : ∀ x ∈ xs, p x = false) : evL p xs = xs := by
  unfold evL
  rw [List.filter_eq_self]
  intro x hx
  rw [h x hx]; rfl
def Asks (gp A g : Nat) (p : Int → Bool) (w : World) : Prop :=
  ∀ W, Only g w W → ∀ x, I64 x → Calls Tryz.prog gp #[.int .i64 x, .pointer (some ⟨A, 0, none⟩)] W fun e w' => e = .returned (.bool (p x)) ∧ W = w'
theorem Asks.val {gp A g : Nat} {p : Int → Bool} {w : World} (h : Asks gp A g p w) {W : World} (ho : Only g w W) {x : Int} (hx : I64 x) {v : Bool} (hv : p x = v) :
    Calls Tryz.prog gp #[.int .i64 x, .pointer (some ⟨A, 0, none⟩)] W fun e w' => e = .returned (.bool v) ∧ W = w' := by subst hv; exact h W ho x hx
set_option maxRecDepth 100000 in
theorem indexFunc_any (gp A : Nat) (hen : ∀ args w, (callFunc gp args).run Tryz.prog w = .ok (.enter gp args) w) (p : Int → Bool) (a : Option Addr) (n cap : Nat) (F : Nat → Int) (hn : n ≤ 1000) (w : World) (hi : Ints w a n F) (hp : ∀ x, I64 x → Calls Tryz.prog gp #[.int .i64 x, .pointer (some ⟨A, 0, none⟩)] w fun e w' => e = .returned (.bool (p x)) ∧ w = w') :
    Calls Tryz.prog 196 #[.slice a n cap, .func (.func gp) #[] #[.pointer (some ⟨A, 0, none⟩)]] w fun e w' => w = w' ∧ (((∀ i, i < n → p (F i) = false) ∧ e = .returned (.int .i64 (-1))) ∨ ∃ k : Nat, k < n ∧ p (F k) = true ∧ (∀ i, i < k → p (F i) = false) ∧ e = .returned (.int .i64 k)) := by
  have HI := Lib.hid hi; have HP := Lib.hid (fun x (hx : I64 x) (v : Bool) (hv : p x = v) => show Calls Tryz.prog gp #[.int .i64 x, .pointer (some ⟨A, 0, none⟩)] w fun e w' => e = .returned (.bool v) ∧ w = w' from hv ▸ hp x hx); clear hi hp
  go_enter Tryz.func196, Tryz.ntmps196
  go_wp2_with fail
  go_loopw [5, 8] (fun _ i wr => ∃ k : Nat, k ≤ n ∧ i = .int .i64 k ∧ Hid (∀ i, i < k → p (F i) = false) ∧ w = wr) (fun _ i _ => n - (intOf i).toNat)
  case atStart => exact ⟨0, Nat.zero_le _, rfl, Lib.hid (fun i hi => absurd hi (Nat.not_lt_zero _)), rfl⟩
  case round =>
    obtain ⟨k, hk, rfl, hall, rfl⟩ := hrel
    by_cases hlt : k < n
    · have hki : (k : Int) < (n : Int) := by omega
      have hk0 : (0 : Int) ≤ (k : Int) := by omega
      obtain ⟨b, o, rfl, hbl, hrow⟩ := HI.out.row (by omega)
      have hc := hrow k hlt
      clear hrow hbl
      cases hv : p (F k) with
      | true =>
        have HV := Lib.hid hv; clear hv
        go_wp2_with fail
        refine (HP.out _ (HI.out.1.2 k hlt) true HV.out).mono ?_
        rintro e w' ⟨rfl, rfl⟩
        go_wp2_with fail
        go_ret
        exact ⟨rfl, .inr ⟨k, hlt, HV.out, hall.out, rfl⟩⟩
      | false =>
        have HV := Lib.hid hv; clear hv
        go_wp2_with fail
        refine (HP.out _ (HI.out.1.2 k hlt) false HV.out).mono ?_
        rintro e w' ⟨rfl, rfl⟩
        go_wp2_with fail
        go_roundw
        case rel => exact ⟨k + 1, by omega, by go_num, Lib.hid (fun i hi => by
          by_cases e : i = k
          · subst e; exact HV.out
          · exact hall.out i (by omega)), by first | rfl | trivial⟩
        case measure => simp [intOf]; omega
    · have hki : ¬ (k : Int) < (n : Int) := by omega
      have hkn : k = n := by omega
      subst hkn
      go_wp2_with fail
      go_ret
      exact ⟨rfl, .inl ⟨hall.out, rfl⟩⟩
theorem run_low (g m n c : Nat) (hm : m < n) (hc : n ≤ c) (W : World) : (Instr.slice 28 (.slice (some ⟨g, 0, none⟩) n c) (some (.int .i64 m)) none none).run Tryz.prog W = .ok (.slice (some ⟨g, m, none⟩) (n - m) (c - m)) W := by
  have hz : ∀ w, (Go.sizeOf 3).run Tryz.prog w = .ok 1 w := fun w => by kernel_rfl
  have h0 : (0 : Int) ≤ (m : Int) := by omega
  have hc' : ¬ c = m := by omega
  have hnm : ¬ n < m := by omega
  simp [hnm, Instr.slice, Instr.sliceBounds, Instr.sliceBound, run_underlying Tryz.underlying28, asIntOf, hz, h0, hc', Addr.add_lit]
def DelEnd (B : Nat) (p : Int → Bool) (xs : List Int) (w : World) (e : Ending) (w' : World) : Prop := ∃ v, e = .returned v ∧ OwnX w' B 3 v (evL p xs) ∧ Below B w w'
theorem deleteFunc_none (gp A : Nat) (hen : ∀ args w, (callFunc gp args).run Tryz.prog w = .ok (.enter gp args) w) (p : Int → Bool) (B : Nat) (v : Value) (xs : List Int) (hl : xs.length ≤ 1000) (h64 : ∀ x ∈ xs, I64 x) (h1 : 1 ≤ xs.length) (h : ∀ x ∈ xs, p x = false) (w : World) (ho : OwnX w B 3 v xs) (hp : ∀ g, B ≤ g → v.ownBlock = some g → Asks gp A g p w) :
    Calls Tryz.prog 170 #[v, .func (.func gp) #[] #[.pointer (some ⟨A, 0, none⟩)]] w (DelEnd B p xs w) := by
  obtain ⟨g, cap, rfl, hBg, hgl, _, _, _⟩ := ho.rw h1
  obtain ⟨a, cap2, hv0, hh⟩ := ho.has hl h64
  injection hv0 with e1 e2 e3
  subst e1; subst e3; clear e2
  have HP := Lib.hid (hp g hBg rfl w (Only.refl _ _)); clear hp hBg hgl
  have HI := Lib.hid hh.ints
  have HF := Lib.hid (fun i (hi : i < xs.length) => h _ (getD_mem hi))
  have HE := Lib.hid (ev_all h)
  have HO := Lib.hid ho
  clear ho hh h h64
  go_enter Tryz.func170, Tryz.ntmps170
  go_wp2_with fail
  refine (indexFunc_any gp A hen p (some ⟨g, 0, none⟩) xs.length cap (fun i => xs.getD i 0) hl w HI.out HP.out).mono ?_
  rintro e w' ⟨rfl, ⟨_, rfl⟩ | ⟨k, hk, hv, _, rfl⟩⟩
  · go_wp2_with fail
    go_ret
    exact ⟨_, rfl, by rw [HE.out]; exact HO.out, Below.refl _ _⟩
  · have := HF.out k hk
    rw [this] at hv; cases hv
set_option maxRecDepth 100000 in
theorem deleteFunc_some (gp A : Nat) (hen : ∀ args w, (callFunc gp args).run Tryz.prog w = .ok (.enter gp args) w) (p : Int → Bool) (B : Nat) (v : Value) (xs : List Int) (hl : xs.length ≤ 1000) (h64 : ∀ x ∈ xs, I64 x) (h : ∃ x ∈ xs, p x = true) (w : World) (hB : B ≤ w.heap.size) (ho : OwnX w B 3 v xs) (hp : ∀ g, B ≤ g → v.ownBlock = some g → Asks gp A g p w) :
    Calls Tryz.prog 170 #[v, .func (.func gp) #[] #[.pointer (some ⟨A, 0, none⟩)]] w (DelEnd B p xs w) := by
  have hzv : ∀ w, (zeroValue 3).run Tryz.prog w = .ok (.int .i64 0) w := fun w => by kernel_rfl
  obtain ⟨x0, hx0, hx1⟩ := h
  have h1 : 1 ≤ xs.length := by
    cases xs with
    | nil => cases hx0
    | cons _ _ => simp
  obtain ⟨i0, hi0, hix⟩ := List.getElem_of_mem hx0
  have hbad : p (xs.getD i0 0) = true := by
    rw [List.getD_eq_getElem?_getD, List.getElem?_eq_getElem hi0]
    show p (xs[i0]) = true
    rw [hix]; exact hx1
  have hint := ho.has hl h64
  obtain ⟨a, cap0, hv0, hh⟩ := hint
  obtain ⟨g, cap, hv, hBg, hgl, hc, hM, hrw⟩ := ho.rw h1
  rw [hv] at hv0
  injection hv0 with e1 e2 e3
  subst hv; subst e1; subst e3; clear e2
  have HP := Lib.hid (hp g hBg rfl); have H64 := Lib.hid h64; clear hp
  have HI := Lib.hid hh.ints; have HRW := Lib.hid hrw; have HM := Lib.hid hM; have HC := Lib.hid hc; have HBG := Lib.hid hBg; have HGL := Lib.hid hgl; have HBAD := Lib.hid (show i0 < xs.length ∧ p (xs.getD i0 0) = true from ⟨hi0, hbad⟩)
  clear ho hh h64 hx0 hx1 hix hi0 hbad hrw hM hc hBg hgl
  obtain ⟨n, hn⟩ : ∃ n, xs.length = n := ⟨_, rfl⟩
  rw [hn] at HI HRW HC HBAD hl h1 ⊢
  have HN := Lib.hid hn; clear hn
  go_enter Tryz.func170, Tryz.ntmps170
  go_wp2_with fail
  refine (indexFunc_any gp A hen p (some ⟨g, 0, none⟩) n cap (fun i => xs.getD i 0) hl w HI.out (HP.out w (Only.refl _ _))).mono ?_
  rintro e w' ⟨rfl, ⟨hno, rfl⟩ | ⟨k, hk, hv, hbef, rfl⟩⟩
  · have := hno i0 HBAD.out.1
    rw [HBAD.out.2] at this; cases this
  · have hkm : ((k : Int) == -1) = false := by rw [beq_eq_false_iff_ne]; omega
    have HST := Lib.hid (show (evL p (xs.take (k + 1))).length = k ∧ ∀ t, t < k → xs.getD t 0 = (evL p (xs.take (k + 1))).getD t 0 by
      have e : evL p (xs.take (k + 1)) = xs.take k := by
        rw [ev_no (by rw [HN.out]; exact hk) hv]
        refine ev_all (fun x hx => ?_)
        obtain ⟨i, hi, rfl⟩ := List.getElem_of_mem hx
        have hik : i < k := by rw [List.length_take] at hi; omega
        have := hbef i hik
        rw [List.getElem_take]
        rw [List.getD_eq_getElem?_getD, List.getElem?_eq_getElem (by rw [HN.out]; omega)] at this
        exact this
      rw [e]
      refine ⟨by rw [List.length_take, HN.out]; omega, fun t ht => ?_⟩
      rw [List.getD_eq_getElem?_getD, List.getD_eq_getElem?_getD, List.getElem?_take_of_lt ht])
    clear hv hbef
    go_wp2_with fail
    go_loopw [5, 6, 7] (fun vi vj _ wr => ∃ (j m : Nat), j ≤ n ∧ k < j ∧ m < j ∧ vi = .int .i64 m ∧ vj = .int .i64 j ∧ Hid (m = (evL p (xs.take j)).length) ∧ (∃ h, Hid (Rw wr g 3 cap n h) ∧ Hid ((∀ t, t < m → h t = (evL p (xs.take j)).getD t 0) ∧ ∀ t, j ≤ t → t < n → h t = xs.getD t 0)) ∧ Hid (Only g w wr)) (fun _ vj _ _ => n - (intOf vj).toNat)
    case atStart => exact ⟨k + 1, k, by omega, by omega, by omega, rfl, by go_num, Lib.hid HST.out.1.symm, ⟨_, HRW, Lib.hid ⟨HST.out.2, fun t _ _ => rfl⟩⟩, Lib.hid (Only.refl _ _)⟩
    case round =>
      obtain ⟨j, m, hj, hkj, hmj, rfl, rfl, hm, ⟨h, hr, hh⟩, ho⟩ := hrel
      by_cases hlt : j < n
      · have hji : (j : Int) < (n : Int) := by omega
        have hj0 : (0 : Int) ≤ (j : Int) := by omega
        have hm0 : (0 : Int) ≤ (m : Int) := by omega
        have hmn : (m : Int) < (n : Int) := by omega
        have hcj := hr.out.cell j hlt
        have hcm := hr.out.cell m (by omega)
        have hfm := hr.out.frozen m
        have HX := Lib.hid (hh.out.2 j (Nat.le_refl _) hlt)
        obtain ⟨z, hz⟩ : ∃ z, h j = z := ⟨_, rfl⟩
        rw [hz] at hcj HX
        clear hz
        have HX64 := Lib.hid (show I64 z by rw [HX.out]; exact H64.out _ (getD_mem (by rw [HN.out]; exact hlt)))
        cases hv : p z with
        | true =>
          have HV := Lib.hid hv; clear hv
          have HE := Lib.hid (ev_no (p := p) (xs := xs) (j := j) (by rw [HN.out]; exact hlt) (by rw [← HX.out]; exact HV.out))
          go_wp2_with fail
          refine (HP.out.val ho.out HX64.out HV.out).mono ?_
          rintro e w' ⟨rfl, rfl⟩
          go_wp2_with fail
          go_roundw
          case rel => exact ⟨j + 1, m, by omega, by omega, by omega, rfl, by go_num, Lib.hid (by rw [HE.out]; exact hm.out), ⟨h, hr, Lib.hid ⟨by rw [HE.out]; exact hh.out.1, fun t h1 h2 => hh.out.2 t (by omega) h2⟩⟩, ho⟩
          case measure => simp [intOf]; omega
        | false =>
          have HV := Lib.hid hv; clear hv
          have HE := Lib.hid (ev_yes (p := p) (xs := xs) (j := j) (by rw [HN.out]; exact hlt) (by rw [← HX.out]; exact HV.out))
          go_wp2_with fail
          refine (HP.out.val ho.out HX64.out HV.out).mono ?_
          rintro e w' ⟨rfl, rfl⟩
          go_wp2_with fail
          go_roundw
          case rel =>
            refine ⟨j + 1, m + 1, by omega, by omega, by omega, by go_num, by go_num, Lib.hid (by rw [HE.out, List.length_append, ← hm.out]; rfl), ⟨_, Lib.hid (hr.out.set m z), Lib.hid ⟨fun t ht => ?_, fun t h1 h2 => ?_⟩⟩, Lib.hid (ho.out.setCell m _)⟩
            · rw [HE.out, ← HX.out, List.getD_eq_getElem?_getD]
              by_cases e : t = m
              · subst e
                rw [if_pos rfl, List.getElem?_append_right (by rw [← hm.out]; exact Nat.le_refl _), ← hm.out]
                simp
              · rw [if_neg e, List.getElem?_append_left (by rw [← hm.out]; omega), ← List.getD_eq_getElem?_getD]
                exact hh.out.1 t (by omega)
            · show (if t = m then z else h t) = _
              rw [if_neg (by omega)]
              exact hh.out.2 t (by omega) h2
          case measure => simp [intOf]; omega
      · have hji : ¬ (j : Int) < (n : Int) := by omega
        have hjn : j = n := by omega
        subst hjn
        have hmi : (m : Int) ≤ (j : Int) := by omega
        have hm0 : (0 : Int) ≤ (m : Int) := by omega
        have hlo := fun W => run_low g m j cap hmj HC.out W
        have hcl := Lib.run_clear_slice (P := Tryz.prog) wr 28 3 0 (.int .i64 0) Tryz.underlying28 hzv rfl rfl g m (j - m) (cap - m) (by omega) (fun t ht => by rw [hr.out.cell (m + t) (by omega)]; rfl) (fun t _ => hr.out.frozen _)
        have hmc : m ≤ cap := by have := HC.out; omega
        have hmc2 : (m : Int) ≤ (cap : Int) := by omega
        go_wp2_with fail
        go_ret
        have hm2 := hm.out
        rw [List.take_of_length_le (by rw [HN.out]; exact Nat.le_refl _)] at hm2
        have hh2 := hh.out.1
        rw [List.take_of_length_le (by rw [HN.out]; exact Nat.le_refl _)] at hh2
        refine ⟨_, rfl, ?_, (only_puts _ m ho.out).below HBG.out hB⟩
        exact (Rw.puts (List.replicate (j - m) (.int .i64 0)) m (hr.out.less (by omega) hh2) (Nat.le_refl _) (fun v hv => ⟨0, List.eq_of_mem_replicate hv⟩)).own hm2 HBG.out hmc HM.out
theorem deleteFunc_any (gp A : Nat) (hen : ∀ args w, (callFunc gp args).run Tryz.prog w = .ok (.enter gp args) w) (p : Int → Bool) (B : Nat) (v : Value) (xs : List Int) (hl : xs.length ≤ 1000) (h64 : ∀ x ∈ xs, I64 x) (h1 : 1 ≤ xs.length) (w : World) (hB : B ≤ w.heap.size) (ho : OwnX w B 3 v xs) (hp : ∀ g, B ≤ g → v.ownBlock = some g → Asks gp A g p w) :
    Calls Tryz.prog 170 #[v, .func (.func gp) #[] #[.pointer (some ⟨A, 0, none⟩)]] w (DelEnd B p xs w) := by
  by_cases h : ∃ x ∈ xs, p x = true
  · exact deleteFunc_some gp A hen p B v xs hl h64 h w hB ho hp
  · refine deleteFunc_none gp A hen p B v xs hl h64 h1 (fun x hx => ?_) w ho hp
    rw [Bool.eq_false_iff]
    exact fun hb => h ⟨x, hx, hb⟩
end Go.Proofs.YthaickihoagnmaaGreatDoor
