import Derived.Test.YthaickihoagnmaaGreatDoorBaseB
import Derived.Laws.OwnMore
import Derived.Deep.DeepCutAuto
import Derived.Deep.CutBlock
import Derived.Deep.RegionWith
namespace Go.Proofs.YthaickihoagnmaaGreatDoor
open Go.RowKit

/-- a truth is drawn -/
def PickedB (rb P : Nat) (w : World) (e : Ending) (w' : World) : Prop :=
  ∃ v : Bool, e = .returned (.bool v) ∧ Only rb w w' ∧ Rdr w' rb (P + 1)

set_option maxHeartbeats 800000 in
theorem odd_any (rb P : Nat) (n : Int) (hn : 1 ≤ n) (hn2 : n ≤ 100) (hP : P ≤ 1000000) (w : World) (h : Rdr w rb P) :
    Calls Tryz.prog 49 #[.pointer (some ⟨rb, 0, none⟩), .int .i64 n] w (PickedB rb P w) := by
  have hd : decide (0 < n) = true := by simp; omega
  have H := Lib.hid h; clear h
  go_enter Tryz.func49, Tryz.ntmps49
  go_wp2_with fail
  refine (pick_any rb P n hP w H.out).mono ?_
  rintro e w' ⟨x, rfl, hx, ho, hr⟩
  go_wp2_with fail
  go_ret
  exact ⟨_, rfl, ho, hr⟩

/-- bytes that came in -/
def BytesIn (w : World) (a : Option Addr) (n cap : Nat) : Prop :=
  n ≤ cap ∧ cap ≤ 9223372036854775807 ∧ (n = 0 ∨ ∃ b o g, a = some ⟨b, o, none⟩ ∧ b < w.heap.size ∧ Bytes w b o n g)

theorem reader_made (w : World) (a : Option Addr) (n cap : Nat) (hn : n ≤ 2000) (h : n = 0 ∨ ∃ b o g, a = some ⟨b, o, none⟩ ∧ b < w.heap.size ∧ Bytes w b o n g) (t : TypeId) :
    Rdr (w.alloc (.cells #[.slice a n cap, .int .i64 0] t)) w.heap.size 0 := by
  have hrow := World.rowIs_alloc w #[.slice a n cap, .int .i64 0] t (fun i => if i = 0 then .slice a n cap else .int .i64 0) (by
    intro i hi
    match i, hi with
    | 0, _ => rfl
    | 1, _ => rfl)
  have hb : Below w.heap.size w (w.alloc (.cells #[.slice a n cap, .int .i64 0] t)) := (Below.refl _ _).alloc (Nat.le_refl _) _
  have hsz : (w.alloc (.cells #[.slice a n cap, .int .i64 0] t)).heap.size = w.heap.size + 1 := by show (w.heap.push _).size = _; rw [Array.size_push]
  have h0 := hrow.cell (i := 0) (by show 0 < 2; omega)
  have h1 := hrow.cell (i := 1) (by show 1 < 2; omega)
  rcases h with h | ⟨b, o, g, ha, hlt, hby⟩
  · exact ⟨by omega, hrow.frozen 1, a, n, cap, fun _ => 0, 0, hn, Nat.le_refl _, h0, h1, .inl h⟩
  · exact ⟨by omega, hrow.frozen 1, a, n, cap, g, 0, hn, Nat.le_refl _, h0, h1, .inr ⟨b, o, ha, hlt, fun i hi => ⟨(hb.cell (p := ⟨b, o + i, none⟩) hlt).trans (hby i hi).1, (hby i hi).2⟩⟩⟩

/-- a reader is made -/
def Opened (w : World) (e : Ending) (w' : World) : Prop := e = .returned (.pointer (some ⟨w.heap.size, 0, none⟩)) ∧ Below w.heap.size w w' ∧ Rdr w' w.heap.size 0

set_option maxHeartbeats 800000 in
theorem open_any (a : Option Addr) (n cap : Nat) (w : World) (h : BytesIn w a n cap) :
    Calls Tryz.prog 39 #[.slice a n cap] w (Opened w) := by
  obtain ⟨hnc, hc, hb⟩ := h
  by_cases hn : n ≤ 2000
  · have hm := Lib.hid (reader_made w a n cap hn hb 113)
    have HB := Lib.hid hb; clear hb
    have hd : decide ((2000 : Int) < (n : Int)) = false := by simp; omega
    go_enter Tryz.func39, Tryz.ntmps39
    go_wp2_with fail
    go_ret

    exact ⟨rfl, (Below.refl _ _).alloc (Nat.le_refl _) _, hm.out⟩
  · have hb2 : (2000 : Nat) = 0 ∨ ∃ b o g, a = some ⟨b, o, none⟩ ∧ b < w.heap.size ∧ Bytes w b o 2000 g := by
      rcases hb with hb | ⟨b, o, g, ha, hlt, hby⟩
      · omega
      · exact .inr ⟨b, o, g, ha, hlt, fun i hi => hby i (by omega)⟩
    have hm := Lib.hid (reader_made w a 2000 cap (Nat.le_refl _) hb2 113)
    have HB := Lib.hid hb; clear hb hb2
    have hd : decide ((2000 : Int) < (n : Int)) = true := by simp; omega
    go_enter Tryz.func39, Tryz.ntmps39
    go_wp2_with fail
    go_ret

    exact ⟨rfl, (Below.refl _ _).alloc (Nat.le_refl _) _, hm.out⟩
end Go.Proofs.YthaickihoagnmaaGreatDoor

namespace Go.Proofs.YthaickihoagnmaaGreatDoor
open Go.RowKit

/-- a slice of n numbers in memory from block B on -/
def OwnI (w : World) (B : Nat) (v : Value) (n : Nat) : Prop :=
  ∃ xs : List Int, xs.length = n ∧ (∀ x ∈ xs, I64 x) ∧ w.ownsRow B 3 1 v n (xs.map (Value.int .i64))

theorem OwnI.kept {w w' : World} {B n : Nat} {v : Value} (h : OwnI w B v n) (hb : Below w.heap.size w w') : OwnI w' B v n := by
  obtain ⟨xs, h1, h2, h3, h4⟩ := h
  refine ⟨xs, h1, h2, h3, ?_⟩
  rcases h4 with h4 | ⟨g, cap, cur, hv, hB, hg, hr⟩
  · exact .inl h4
  · refine .inr ⟨g, cap, cur, hv, hB, ?_, hr⟩
    have hlt : g < w.heap.size := by
      rcases Nat.lt_or_ge g w.heap.size with h | h
      · exact h
      · rw [Array.getElem?_eq_none h] at hg; cases hg
    rw [hb.block g hlt]; exact hg

theorem OwnI.drewN {w : World} {B n : Nat} {v : Value} (h : OwnI w B v n) (m : Nat) : OwnI (w.drewN m) B v n := h.kept (below_drewN (Below.refl _ _) m)

theorem OwnI.shape {w : World} {B n : Nat} {v : Value} (h : OwnI w B v n) (h1 : 1 ≤ n) :
    ∃ (g cap : Nat) (f : Nat → Int), v = .slice (some ⟨g, 0, none⟩) n cap ∧ B ≤ g ∧ g < w.heap.size ∧ n ≤ cap ∧ cap ≤ 9223372036854775807 ∧ Row w g 0 n f ∧ (∀ i, i < n → I64 (f i)) ∧ ∀ j, w.frozen? ⟨g, j, none⟩ = false := by
  obtain ⟨xs, hl, h64, hown⟩ := h
  have hown2 := hown
  obtain ⟨h3, h4⟩ := hown
  rcases h4 with ⟨_, h4⟩ | ⟨g, cap, cur, hv, hB, hg, hc, hm, _⟩
  · omega
  · subst hv
    have hlt : g < w.heap.size := by
      rcases Nat.lt_or_ge g w.heap.size with h | h
      · exact h
      · rw [Array.getElem?_eq_none h] at hg; cases hg
    unfold maxLen at hm
    refine ⟨g, cap, fun i => xs.getD i 0, rfl, hB, hlt, hc, hm, ?_, ?_, fun j => hown2.frozenAt j⟩
    · intro i hi
      rw [Nat.zero_add, hown2.cellAt i (by omega)]
      show _ = some (Value.int .i64 (xs.getD i 0))
      rw [List.getElem?_map, List.getD_eq_getElem?_getD, List.getElem?_eq_getElem (by omega : i < xs.length)]
      rfl
    · intro i hi
      show I64 (xs.getD i 0)
      rw [List.getD_eq_getElem?_getD, List.getElem?_eq_getElem (by omega : i < xs.length)]
      exact h64 _ (List.getElem_mem _)

/-- a slice of its own is made -/
def Made (n : Nat) (w : World) (e : Ending) (w' : World) : Prop := ∃ v, e = .returned v ∧ OwnI w' w.heap.size v n ∧ Below w.heap.size w w'

theorem Row.drew {w w' : World} {b o n : Nat} {f : Nat → Int} (h : Row w b o n f) (hd : Drew w w') : Row w' b o n f := by
  obtain ⟨m, rfl⟩ := hd; exact h.drewN m

theorem pow20 (k : Nat) (hk : k < 20) : (1 : Int) ≤ 2 ^ k ∧ (2 : Int) ^ k ≤ 1048576 := by
  have h1 := Nat.one_le_two_pow (n := k)
  have h2 : 2 ^ k ≤ 2 ^ 20 := Nat.pow_le_pow_right (by decide) (by omega)
  have h3 : ((2 ^ k : Nat) : Int) = 2 ^ k := by simp
  omega

/-- one number is put behind an owned slice -/
theorem own_snoc {w' : World} {B : Nat} {v' : Value} {xs : List Int} {s : Int} (hl : ∀ x ∈ xs, I64 x) (hs : I64 s) (h : w'.ownsRow B 3 1 v' (xs.length + 1) (xs.map (Value.int .i64) ++ [.int .i64 s])) : OwnI w' B v' (xs.length + 1) :=
  ⟨xs ++ [s], by simp, fun x hx => by rcases List.mem_append.1 hx with h | h; exact hl x h; rw [List.mem_singleton.1 h]; exact hs, by simpa using h⟩

theorem grown_only {w w1 w2 : World} {B : Nat} {v : Value} {xs : List Value} {n : Nat} (hg : w1.grownBy w2 v.ownBlock) (hown : w1.ownsRow B 3 1 v n xs) (h : Below B w w1) (hB : B ≤ w1.heap.size) : Below B w w2 :=
  h.grown hg hB (fun k hk => (hown.lt k hk).1)

end Go.Proofs.YthaickihoagnmaaGreatDoor

namespace Go.Proofs.YthaickihoagnmaaGreatDoor
open Go.RowKit

theorem OwnI.lift {w w' : World} {B n rb : Nat} {v : Value} (h : OwnI w B v n) (hb : Only rb w w') (hB : rb < B) : OwnI w' B v n := by
  obtain ⟨xs, h1, h2, h3, h4⟩ := h
  refine ⟨xs, h1, h2, h3, ?_⟩
  rcases h4 with h4 | ⟨g, cap, cur, hv, hBg, hg, hr⟩
  · exact .inl h4
  · refine .inr ⟨g, cap, cur, hv, hBg, ?_, hr⟩
    have hlt : g < w.heap.size := by
      rcases Nat.lt_or_ge g w.heap.size with h | h
      · exact h
      · rw [Array.getElem?_eq_none h] at hg; cases hg
    rw [hb.block g hlt (by omega)]; exact hg

theorem OwnI.slice {w : World} {B n : Nat} {v : Value} (h : OwnI w B v n) : ∃ (a : Option Addr) (cap : Nat), v = .slice a n cap := by
  obtain ⟨xs, h1, h2, h3, h4⟩ := h
  rcases h4 with ⟨h4, rfl⟩ | ⟨g, cap, cur, hv, _⟩
  · exact ⟨none, 0, h4⟩
  · exact ⟨_, cap, hv⟩

theorem OwnI.lit (w : World) (B : Nat) (hB : B ≤ w.heap.size) (xs : List Int) (h : ∀ x ∈ xs, I64 x) (hl : xs.length ≤ 1000) (cs : Array Value) (hcs : cs = (xs.map (Value.int .i64)).toArray) :
    OwnI (w.alloc (.cells cs 3)) B (.slice (some ⟨w.heap.size, 0, none⟩) xs.length xs.length) xs.length := by
  subst hcs
  refine ⟨xs, rfl, h, ?_⟩
  have := World.ownsRow_lit (base := B) (e := 3) (size := 1) w (xs.map (Value.int .i64)).toArray xs.length hB (by unfold maxLen; omega) (by simp)
  simpa using this

theorem OwnI.put {w : World} {B n g cap j : Nat} {s : Int} (h : OwnI w B (.slice (some ⟨g, 0, none⟩) n cap) n) (hs : I64 s) : OwnI (w.setCell ⟨g, j, none⟩ (.int .i64 s)) B (.slice (some ⟨g, 0, none⟩) n cap) n := by
  obtain ⟨xs, hl, h64, hown⟩ := h
  refine ⟨xs.set j s, by simpa using hl, ?_, ?_⟩
  · intro x hx
    rcases List.mem_or_eq_of_mem_set hx with h | h
    · exact h64 x h
    · rw [h]; exact hs
  · have := hown.stored j (.int .i64 s)
    rw [List.map_set]
    exact this.1

theorem Only.alloc {rb : Nat} {w w' : World} (h : Only rb w w') (o : Obj) : Only rb w (w'.alloc o) :=
  h.trans (Only.of_below ((Below.refl _ _).alloc (Nat.le_refl _) o))
theorem Only.fresh {rb : Nat} {w w' : World} (h : Only rb w w') {g : Nat} (hg : w.heap.size ≤ g) (j : Nat) (v : Value) : Only rb w (w'.setCell ⟨g, j, none⟩ v) :=
  ⟨h.os, h.tape, h.output, by simp [World.setCell]; exact h.size, fun k hk hn => (Below.heap_setCell w' ⟨g, j, none⟩ v k (by show k ≠ g; omega)).trans (h.block k hk hn)⟩

theorem OwnI.base {w : World} {B B' n : Nat} {v : Value} (h : OwnI w B v n) (hB : B' ≤ B) : OwnI w B' v n := by
  obtain ⟨xs, h1, h2, h3, h4⟩ := h
  refine ⟨xs, h1, h2, h3, ?_⟩
  rcases h4 with h4 | ⟨g, cap, cur, hv, hBg, hr⟩
  · exact .inl h4
  · exact .inr ⟨g, cap, cur, hv, Nat.le_trans hB hBg, hr⟩

theorem lit_row (w : World) (xs : List Int) (cs : Array Value) (hcs : cs = (xs.map (Value.int .i64)).toArray) (m : Nat) (hm : m ≤ xs.length) (t : TypeId) :
    Row (w.alloc (.cells cs t)) w.heap.size 0 m (fun i => xs.getD i 0) := by
  subst hcs
  have hrow := World.rowIs_alloc w (xs.map (Value.int .i64)).toArray t (fun i => .int .i64 (xs.getD i 0)) (by
    intro i hi
    simp only [List.size_toArray, List.length_map] at hi
    rw [List.getElem?_toArray, List.getElem?_map, List.getD_eq_getElem?_getD, List.getElem?_eq_getElem hi]
    rfl)
  intro i hi
  rw [Nat.zero_add]
  exact hrow.cell (by simp; omega)

theorem alloc_size (w : World) (o : Obj) : (w.alloc o).heap.size = w.heap.size + 1 := by show (w.heap.push _).size = _; rw [Array.size_push]
theorem alloc_below (w : World) (o : Obj) : Below w.heap.size w (w.alloc o) := (Below.refl _ _).alloc (Nat.le_refl _) o

def tabW (w1 : World) : World := ((((((((w1.alloc (.cells #[.int .i64 1, .int .i64 3] 3)).alloc (.cells #[.int .i64 1, .int .i64 3, .int .i64 5] 3)).alloc (.cells #[.int .i64 1, .int .i64 2, .int .i64 7, .int .i64 11] 3)).alloc (.cells #[.int .i64 1, .int .i64 3, .int .i64 7, .int .i64 15] 3)).alloc (.cells #[.int .i64 1, .int .i64 2, .int .i64 7, .int .i64 15] 3)).alloc (.cells #[.int .i64 1, .int .i64 2, .int .i64 4, .int .i64 9, .int .i64 19] 3)).alloc (.cells #[.int .i64 1, .int .i64 2, .int .i64 4, .int .i64 7, .int .i64 15] 3)).alloc (.cells #[.slice (some ⟨w1.heap.size, 0, none⟩) 2 2, .slice (some ⟨w1.heap.size + 1, 0, none⟩) 3 3, .slice (some ⟨w1.heap.size + 2, 0, none⟩) 4 4, .slice (some ⟨w1.heap.size + 3, 0, none⟩) 4 4, .slice (some ⟨w1.heap.size + 4, 0, none⟩) 4 4, .slice (some ⟨w1.heap.size + 5, 0, none⟩) 5 5, .slice (some ⟨w1.heap.size + 6, 0, none⟩) 5 5] 28))

theorem lit_kept {w w' : World} {B a n : Nat} {v : Value} (h : OwnI w B v n) (_e : a = 0) (hb : Below w.heap.size w w') : OwnI w' B v n := h.kept hb

theorem small_I64 {xs : List Int} (h : xs.all (fun x => decide (0 ≤ x ∧ x ≤ 1000)) = true) : ∀ x ∈ xs, I64 x := by
  intro x hx
  have := List.all_eq_true.1 h x hx
  simp only [decide_eq_true_eq] at this
  unfold I64; omega

theorem tab_size (w1 : World) : (tabW w1).heap.size = w1.heap.size + 8 := by
  unfold tabW; simp only [alloc_size]
theorem tab_below (w1 : World) : Below w1.heap.size w1 (tabW w1) := by
  unfold tabW
  refine (((((((((Below.refl _ _).alloc ?_ _).alloc ?_ _).alloc ?_ _).alloc ?_ _).alloc ?_ _).alloc ?_ _).alloc ?_ _).alloc ?_ _) <;> (try simp only [alloc_size]) <;> omega

theorem tab_own (w1 : World) (B : Nat) (hB : B ≤ w1.heap.size) (y : Nat) (hy : y < 7) :
    ∃ L, 1 ≤ L ∧ L ≤ 5 ∧ (tabW w1).cell? ⟨w1.heap.size + 7, y, none⟩ = some (.slice (some ⟨w1.heap.size + y, 0, none⟩) L L) ∧ OwnI (tabW w1) B (.slice (some ⟨w1.heap.size + y, 0, none⟩) L L) L := by
  have hrow := World.rowIs_alloc (((((((w1.alloc (.cells #[.int .i64 1, .int .i64 3] 3)).alloc (.cells #[.int .i64 1, .int .i64 3, .int .i64 5] 3)).alloc (.cells #[.int .i64 1, .int .i64 2, .int .i64 7, .int .i64 11] 3)).alloc (.cells #[.int .i64 1, .int .i64 3, .int .i64 7, .int .i64 15] 3)).alloc (.cells #[.int .i64 1, .int .i64 2, .int .i64 7, .int .i64 15] 3)).alloc (.cells #[.int .i64 1, .int .i64 2, .int .i64 4, .int .i64 9, .int .i64 19] 3)).alloc (.cells #[.int .i64 1, .int .i64 2, .int .i64 4, .int .i64 7, .int .i64 15] 3)) #[.slice (some ⟨w1.heap.size, 0, none⟩) 2 2, .slice (some ⟨w1.heap.size + 1, 0, none⟩) 3 3, .slice (some ⟨w1.heap.size + 2, 0, none⟩) 4 4, .slice (some ⟨w1.heap.size + 3, 0, none⟩) 4 4, .slice (some ⟨w1.heap.size + 4, 0, none⟩) 4 4, .slice (some ⟨w1.heap.size + 5, 0, none⟩) 5 5, .slice (some ⟨w1.heap.size + 6, 0, none⟩) 5 5] 28 (fun i => .slice (some ⟨w1.heap.size + i, 0, none⟩) (([2, 3, 4, 4, 4, 5, 5] : List Nat).getD i 0) (([2, 3, 4, 4, 4, 5, 5] : List Nat).getD i 0)) (by
    intro i hi
    match i, hi with
    | 0, _ | 1, _ | 2, _ | 3, _ | 4, _ | 5, _ | 6, _ => rfl)
  have hs7 : (((((((w1.alloc (.cells #[.int .i64 1, .int .i64 3] 3)).alloc (.cells #[.int .i64 1, .int .i64 3, .int .i64 5] 3)).alloc (.cells #[.int .i64 1, .int .i64 2, .int .i64 7, .int .i64 11] 3)).alloc (.cells #[.int .i64 1, .int .i64 3, .int .i64 7, .int .i64 15] 3)).alloc (.cells #[.int .i64 1, .int .i64 2, .int .i64 7, .int .i64 15] 3)).alloc (.cells #[.int .i64 1, .int .i64 2, .int .i64 4, .int .i64 9, .int .i64 19] 3)).alloc (.cells #[.int .i64 1, .int .i64 2, .int .i64 4, .int .i64 7, .int .i64 15] 3)).heap.size = w1.heap.size + 7 := by simp only [alloc_size]
  rw [hs7] at hrow
  have hcell := hrow.cell (i := y) (by show y < 7; exact hy)
  refine ⟨([2, 3, 4, 4, 4, 5, 5] : List Nat).getD y 0, ?_, ?_, hcell, ?_⟩
  · match y, hy with
    | 0, _ | 1, _ | 2, _ | 3, _ | 4, _ | 5, _ | 6, _ => decide
  · match y, hy with
    | 0, _ | 1, _ | 2, _ | 3, _ | 4, _ | 5, _ | 6, _ => decide
  · match y, hy with
    | 0, _ =>
      have h0 := OwnI.lit w1 B hB [1, 3] (small_I64 (by decide)) (by decide) _ rfl
      have hz : w1.heap.size = w1.heap.size + 0 := by simp only [Nat.add_zero]
      rw [hz] at h0
      refine h0.kept ?_
      unfold tabW
      refine ((((((((Below.refl _ _).alloc ?_ _).alloc ?_ _).alloc ?_ _).alloc ?_ _).alloc ?_ _).alloc ?_ _).alloc ?_ _) <;> (try simp only [alloc_size]) <;> omega
    | 1, _ =>
      have h0 := OwnI.lit (w1.alloc (.cells #[.int .i64 1, .int .i64 3] 3)) B (by simp only [alloc_size]; omega) [1, 3, 5] (small_I64 (by decide)) (by decide) _ rfl
      have hz : (w1.alloc (.cells #[.int .i64 1, .int .i64 3] 3)).heap.size = w1.heap.size + 1 := by simp only [alloc_size]
      rw [hz] at h0
      refine h0.kept ?_
      unfold tabW
      refine (((((((Below.refl _ _).alloc ?_ _).alloc ?_ _).alloc ?_ _).alloc ?_ _).alloc ?_ _).alloc ?_ _) <;> (try simp only [alloc_size]) <;> omega
    | 2, _ =>
      have h0 := OwnI.lit ((w1.alloc (.cells #[.int .i64 1, .int .i64 3] 3)).alloc (.cells #[.int .i64 1, .int .i64 3, .int .i64 5] 3)) B (by simp only [alloc_size]; omega) [1, 2, 7, 11] (small_I64 (by decide)) (by decide) _ rfl
      have hz : ((w1.alloc (.cells #[.int .i64 1, .int .i64 3] 3)).alloc (.cells #[.int .i64 1, .int .i64 3, .int .i64 5] 3)).heap.size = w1.heap.size + 2 := by simp only [alloc_size]
      rw [hz] at h0
      refine h0.kept ?_
      unfold tabW
      refine ((((((Below.refl _ _).alloc ?_ _).alloc ?_ _).alloc ?_ _).alloc ?_ _).alloc ?_ _) <;> (try simp only [alloc_size]) <;> omega
    | 3, _ =>
      have h0 := OwnI.lit (((w1.alloc (.cells #[.int .i64 1, .int .i64 3] 3)).alloc (.cells #[.int .i64 1, .int .i64 3, .int .i64 5] 3)).alloc (.cells #[.int .i64 1, .int .i64 2, .int .i64 7, .int .i64 11] 3)) B (by simp only [alloc_size]; omega) [1, 3, 7, 15] (small_I64 (by decide)) (by decide) _ rfl
      have hz : (((w1.alloc (.cells #[.int .i64 1, .int .i64 3] 3)).alloc (.cells #[.int .i64 1, .int .i64 3, .int .i64 5] 3)).alloc (.cells #[.int .i64 1, .int .i64 2, .int .i64 7, .int .i64 11] 3)).heap.size = w1.heap.size + 3 := by simp only [alloc_size]
      rw [hz] at h0
      refine h0.kept ?_
      unfold tabW
      refine (((((Below.refl _ _).alloc ?_ _).alloc ?_ _).alloc ?_ _).alloc ?_ _) <;> (try simp only [alloc_size]) <;> omega
    | 4, _ =>
      have h0 := OwnI.lit ((((w1.alloc (.cells #[.int .i64 1, .int .i64 3] 3)).alloc (.cells #[.int .i64 1, .int .i64 3, .int .i64 5] 3)).alloc (.cells #[.int .i64 1, .int .i64 2, .int .i64 7, .int .i64 11] 3)).alloc (.cells #[.int .i64 1, .int .i64 3, .int .i64 7, .int .i64 15] 3)) B (by simp only [alloc_size]; omega) [1, 2, 7, 15] (small_I64 (by decide)) (by decide) _ rfl
      have hz : ((((w1.alloc (.cells #[.int .i64 1, .int .i64 3] 3)).alloc (.cells #[.int .i64 1, .int .i64 3, .int .i64 5] 3)).alloc (.cells #[.int .i64 1, .int .i64 2, .int .i64 7, .int .i64 11] 3)).alloc (.cells #[.int .i64 1, .int .i64 3, .int .i64 7, .int .i64 15] 3)).heap.size = w1.heap.size + 4 := by simp only [alloc_size]
      rw [hz] at h0
      refine h0.kept ?_
      unfold tabW
      refine ((((Below.refl _ _).alloc ?_ _).alloc ?_ _).alloc ?_ _) <;> (try simp only [alloc_size]) <;> omega
    | 5, _ =>
      have h0 := OwnI.lit (((((w1.alloc (.cells #[.int .i64 1, .int .i64 3] 3)).alloc (.cells #[.int .i64 1, .int .i64 3, .int .i64 5] 3)).alloc (.cells #[.int .i64 1, .int .i64 2, .int .i64 7, .int .i64 11] 3)).alloc (.cells #[.int .i64 1, .int .i64 3, .int .i64 7, .int .i64 15] 3)).alloc (.cells #[.int .i64 1, .int .i64 2, .int .i64 7, .int .i64 15] 3)) B (by simp only [alloc_size]; omega) [1, 2, 4, 9, 19] (small_I64 (by decide)) (by decide) _ rfl
      have hz : (((((w1.alloc (.cells #[.int .i64 1, .int .i64 3] 3)).alloc (.cells #[.int .i64 1, .int .i64 3, .int .i64 5] 3)).alloc (.cells #[.int .i64 1, .int .i64 2, .int .i64 7, .int .i64 11] 3)).alloc (.cells #[.int .i64 1, .int .i64 3, .int .i64 7, .int .i64 15] 3)).alloc (.cells #[.int .i64 1, .int .i64 2, .int .i64 7, .int .i64 15] 3)).heap.size = w1.heap.size + 5 := by simp only [alloc_size]
      rw [hz] at h0
      refine h0.kept ?_
      unfold tabW
      refine (((Below.refl _ _).alloc ?_ _).alloc ?_ _) <;> (try simp only [alloc_size]) <;> omega
    | 6, _ =>
      have h0 := OwnI.lit ((((((w1.alloc (.cells #[.int .i64 1, .int .i64 3] 3)).alloc (.cells #[.int .i64 1, .int .i64 3, .int .i64 5] 3)).alloc (.cells #[.int .i64 1, .int .i64 2, .int .i64 7, .int .i64 11] 3)).alloc (.cells #[.int .i64 1, .int .i64 3, .int .i64 7, .int .i64 15] 3)).alloc (.cells #[.int .i64 1, .int .i64 2, .int .i64 7, .int .i64 15] 3)).alloc (.cells #[.int .i64 1, .int .i64 2, .int .i64 4, .int .i64 9, .int .i64 19] 3)) B (by simp only [alloc_size]; omega) [1, 2, 4, 7, 15] (small_I64 (by decide)) (by decide) _ rfl
      have hz : ((((((w1.alloc (.cells #[.int .i64 1, .int .i64 3] 3)).alloc (.cells #[.int .i64 1, .int .i64 3, .int .i64 5] 3)).alloc (.cells #[.int .i64 1, .int .i64 2, .int .i64 7, .int .i64 11] 3)).alloc (.cells #[.int .i64 1, .int .i64 3, .int .i64 7, .int .i64 15] 3)).alloc (.cells #[.int .i64 1, .int .i64 2, .int .i64 7, .int .i64 15] 3)).alloc (.cells #[.int .i64 1, .int .i64 2, .int .i64 4, .int .i64 9, .int .i64 19] 3)).heap.size = w1.heap.size + 6 := by simp only [alloc_size]
      rw [hz] at h0
      refine h0.kept ?_
      unfold tabW
      refine ((Below.refl _ _).alloc ?_ _) <;> (try simp only [alloc_size]) <;> omega

/-- the numbers of a row, as cells -/
def src (m : Nat) (f : Nat → Int) : List Value := (List.range m).map (fun i => Value.int .i64 (f i))

theorem src_cells (w : World) (g m : Nat) (f : Nat → Int) (h : Row w g 0 m f) : ∀ j u, (src m f)[j]? = some u → w.cell? ((⟨g, 0, none⟩ : Addr).add j) = some u := by
  intro j u hj
  unfold src at hj
  rw [List.getElem?_map] at hj
  rcases Nat.lt_or_ge j m with hlt | hge
  · rw [List.getElem?_range hlt] at hj
    have := h j hlt
    rw [Go.WideShapes.add_plain, this]
    exact hj
  · rw [List.getElem?_eq_none (by simpa using hge)] at hj; cases hj

theorem src_one (m : Nat) (f : Nat → Int) : ∀ u ∈ src m f, u.oneCell' = true := by
  intro u hu
  unfold src at hu
  obtain ⟨i, _, rfl⟩ := List.mem_map.1 hu
  rfl

theorem src_own {w : World} {B : Nat} {v : Value} (m : Nat) (f : Nat → Int) (h64 : ∀ i, i < m → I64 (f i)) (h : w.ownsRow B 3 1 v m (src m f)) : OwnI w B v m := by
  refine ⟨(List.range m).map f, by simp, ?_, ?_⟩
  · intro x hx
    obtain ⟨i, hi, rfl⟩ := List.mem_map.1 hx
    exact h64 i (List.mem_range.1 hi)
  · have e : ((List.range m).map f).map (Value.int .i64) = src m f := by unfold src; rw [List.map_map]; rfl
    rw [e]
    exact h

/-- what l20World gives: n numbers at most, in new memory -/
def DrawnW (rb P : Nat) (w : World) (e : Ending) (w' : World) : Prop :=
  ∃ v m, e = .returned v ∧ m ≤ 8 ∧ OwnI w' w.heap.size v m ∧ Only rb w w' ∧ Rdr w' rb (P + 1000)

/-- the state behind a number that was put into the slice -/
def PutW (rb P : Nat) (w : World) (g cp m : Nat) (wx : World) : Prop :=
  OwnI wx w.heap.size (.slice (some ⟨g, 0, none⟩) m cp) m ∧ Only rb w wx ∧ Rdr wx rb (P + 600)

/-- the state at each try -/
def TriesR (rb P : Nat) (w1 : World) (v i : Value) (wr : World) : Prop :=
  ∃ (t m : Nat), t ≤ 20 ∧ m ≤ 7 ∧ i = .int .i64 t ∧ OwnI wr w1.heap.size v m ∧ Only rb w1 wr ∧ Rdr wr rb (P + 10 + 10 * t)

/-- the state at the switch's end -/
def MidW (rb P : Nat) (w : World) (v : Value) (wx : World) : Prop :=
  ∃ m, 1 ≤ m ∧ m ≤ 7 ∧ OwnI wx w.heap.size v m ∧ Only rb w wx ∧ Rdr wx rb (P + 500)

theorem one_I64 : ∀ x ∈ ([1] : List Int), I64 x := by intro x hx; simp at hx; subst hx; unfold I64; omega

end Go.Proofs.YthaickihoagnmaaGreatDoor

namespace Go.Proofs.YthaickihoagnmaaGreatDoor
open Go.RowKit

theorem OwnI.ints {w : World} {B n : Nat} {v : Value} (h : OwnI w B v n) (hn : n ≤ 1000) : ∃ (a : Option Addr) (cap : Nat) (f : Nat → Int), v = .slice a n cap ∧ Ints w a n f ∧ (1 ≤ n → n ≤ cap ∧ cap ≤ 9223372036854775807) := by
  by_cases h1 : 1 ≤ n
  · obtain ⟨g, cap, f, hv, _, hlt, hc1, hc2, hr, h64, _⟩ := h.shape h1
    exact ⟨_, cap, f, hv, ⟨⟨by omega, h64⟩, .inr ⟨g, 0, rfl, hlt, hr⟩⟩, fun _ => ⟨hc1, hc2⟩⟩
  · obtain ⟨a, cap, hv⟩ := h.slice
    exact ⟨a, cap, fun _ => 0, hv, ⟨⟨by omega, fun i hi => by omega⟩, .inl (by omega)⟩, fun h => absurd h h1⟩

/-- a world and two numbers are drawn -/
def DrawnTwo (rb : Nat) (w : World) (e : Ending) (w' : World) : Prop :=
  ∃ (v : Value) (m : Nat) (x y : Int), e = .returned (.tuple #[v, .int .i64 x, .int .i64 y]) ∧ m ≤ 8 ∧ I64 x ∧ I64 y ∧ OwnI w' w.heap.size v m ∧ Only rb w w'

/-- what a draw of a world gives the law -/
def DrawnOne (w : World) (e : Ending) (w' : World) : Prop :=
  ∃ (a : Option Addr) (m cap : Nat) (f : Nat → Int), e = .returned (.slice a m cap) ∧ m ≤ 8 ∧ Ints w' a m f ∧ Below w.heap.size w w' ∧ (1 ≤ m → m ≤ cap ∧ cap ≤ 9223372036854775807)

def DrawnThree (w : World) (e : Ending) (w' : World) : Prop :=
  ∃ (a : Option Addr) (m cap : Nat) (f : Nat → Int) (x y : Int), e = .returned (.tuple #[.slice a m cap, .int .i64 x, .int .i64 y]) ∧ m ≤ 8 ∧ I64 x ∧ I64 y ∧ Ints w' a m f ∧ Below w.heap.size w w'

def DrawnPair (w : World) (e : Ending) (w' : World) : Prop :=
  ∃ (a : Option Addr) (m cap : Nat) (f : Nat → Int) (x : Int), e = .returned (.tuple #[.slice a m cap, .int .i64 x]) ∧ m ≤ 8 ∧ I64 x ∧ Ints w' a m f ∧ Below w.heap.size w w'

end Go.Proofs.YthaickihoagnmaaGreatDoor

namespace Go.Proofs.YthaickihoagnmaaGreatDoor
open Go.RowKit

theorem WorldOk_val (a : Option Addr) (n cap : Nat) (f : Nat → Int) (v : Bool) (w : World) (hv : worldB n f = v) (hi : Ints w a n f) :
    Calls Tryz.prog 64 #[.slice a n cap] w fun e w' => e = .returned (.bool v) ∧ Below w.heap.size w w' := by
  subst hv; exact WorldOk_any a n cap f w hi
theorem lit_ints (w : World) (xs : List Int) (h : ∀ x ∈ xs, I64 x) (hl : xs.length ≤ 1000) (cs : Array Value) (hcs : cs = (xs.map (Value.int .i64)).toArray) (t : TypeId) :
    Ints (w.alloc (.cells cs t)) (some ⟨w.heap.size, 0, none⟩) xs.length (fun i => xs.getD i 0) := by
  refine ⟨⟨by omega, ?_⟩, .inr ⟨w.heap.size, 0, rfl, by rw [alloc_size]; omega, lit_row w xs cs hcs xs.length (Nat.le_refl _) t⟩⟩
  intro i hi
  show I64 (xs.getD i 0)
  rw [List.getD_eq_getElem?_getD, List.getElem?_eq_getElem hi]
  exact h _ (List.getElem_mem _)

theorem world_1 : worldB 1 (fun i => ([1] : List Int).getD i 0) = true := by decide
theorem world_0 : worldB 1 (fun i => ([0] : List Int).getD i 0) = false := by decide

set_option maxHeartbeats 800000 in
theorem alive_any (w : World) : Calls Tryz.prog 19 #[] w (TrueEnd w) := by
  have hi1 := lit_ints w [1] (small_I64 (by decide)) (by decide) _ rfl 3
  have hb0 := alloc_below w (.cells (([1] : List Int).map (Value.int .i64)).toArray 3)
  go_enter Tryz.func19, Tryz.ntmps19
  go_wp2_with fail
  refine (WorldOk_val _ 1 1 (fun i => ([1] : List Int).getD i 0) true _ world_1 hi1).mono ?_
  rintro e w1 ⟨rfl, hb1⟩
  have hbb : Below w.heap.size w w1 := hb0.trans (hb1.mono (by rw [alloc_size]; omega))
  have hi2 := lit_ints w1 [0] (small_I64 (by decide)) (by decide) _ rfl 3
  have hb2 := alloc_below w1 (.cells (([0] : List Int).map (Value.int .i64)).toArray 3)
  clear hi1 hb0 hb1
  go_wp2_with fail
  refine (WorldOk_val _ 1 1 (fun i => ([0] : List Int).getD i 0) false _ world_0 hi2).mono ?_
  rintro e w2 ⟨rfl, hb3⟩
  have hbc : Below w.heap.size w w2 := (hbb.trans (hb2.mono hbb.size)).trans (hb3.mono (by rw [alloc_size]; have := hbb.size; omega))
  clear hi2 hb2 hb3 hbb
  go_wp2_with fail
  go_ret
  exact ⟨rfl, hbc⟩

/-- bytes that came in, as the shell of a proof says it -/
theorem bytes_of {w : World} {a : Option Addr} {len cap : Nat} {zs : List Int} (h : (a = none ∧ len = 0 ∧ cap = 0 ∧ zs = []) ∨
    ∃ x, a = some x ∧ len ≤ cap ∧ cap ≤ maxLen ∧ zs.length = cap ∧ (∀ i, i < zs.length → w.cell? (x.add i) = some (.int .u8 (zs.getD i 0))) ∧ ∀ n ∈ zs, (Lit.int .u8 n).wf = true) :
    BytesIn w a len cap := by
  rcases h with ⟨rfl, rfl, rfl, rfl⟩ | ⟨x, rfl, hl, hm, hz, hc, hwf⟩
  · exact ⟨Nat.le_refl _, by omega, .inl rfl⟩
  · unfold maxLen at hm
    refine ⟨hl, by omega, ?_⟩
    by_cases h0 : len = 0
    · exact .inl h0
    · right
      obtain ⟨b, o, rfl, hcell⟩ := ints_at hc (by omega)
      have h1 := hcell 0 (by omega)
      refine ⟨b, o, fun i => zs.getD i 0, rfl, World.block_lt_of_cell? w _ h1, fun i hi => ⟨hcell i (by omega), ?_⟩⟩
      have hm2 : zs.getD i 0 ∈ zs := by
        rw [List.getD_eq_getElem?_getD, List.getElem?_eq_getElem (by omega : i < zs.length)]
        exact List.getElem_mem _
      exact bounds_u8 (hwf _ hm2)

theorem BytesIn.len {w : World} {a : Option Addr} {n cap : Nat} (h : BytesIn w a n cap) : n ≤ 9223372036854775807 := Nat.le_trans h.1 h.2.1

theorem proper_self (n : Nat) (f : Nat → Int) (x : Int) : properB n f x x = false := by
  unfold properB; rw [decide_eq_false (fun h => h rfl)]; simp
theorem proper_part {n : Nat} {f : Nat → Int} {x y : Int} (h : properB n f x y = true) : partB n f x y = true := by
  unfold properB at h; rw [Bool.and_eq_true] at h; exact h.1
theorem part_facts {n : Nat} {f : Nat → Int} {x y : Int} (h : partB n f x y = true) : worldB n f = true ∧ (0 ≤ x ∧ x < n) ∧ (0 ≤ y ∧ y < n) ∧ hasB (f y.toNat) x.toNat = true := by
  unfold partB at h; rw [Bool.and_eq_true, good2_iff] at h; exact ⟨h.1.1, h.1.2.1, h.1.2.2, h.2⟩
theorem part_anti {n : Nat} {f : Nat → Int} (h64 : ∀ i, i < n → I64 (f i)) {x y : Int} (h : partB n f x y = true) (hne : x ≠ y) : partB n f y x = false := by
  obtain ⟨hw, hx, hy, hh⟩ := part_facts h
  have hP := (worldB_iff n f h64).1 hw
  have h2 := hP.anti y.toNat (by omega) x.toNat (by omega) (by omega) hh
  unfold partB; rw [h2]; simp
theorem proper_anti {n : Nat} {f : Nat → Int} (h64 : ∀ i, i < n → I64 (f i)) {x y : Int} (h : properB n f x y = true) : properB n f y x = false := by
  have hne : x ≠ y := by
    intro e; subst e; rw [proper_self] at h; cases h
  unfold properB; rw [part_anti h64 (proper_part h) hne]; rfl

end Go.Proofs.YthaickihoagnmaaGreatDoor
