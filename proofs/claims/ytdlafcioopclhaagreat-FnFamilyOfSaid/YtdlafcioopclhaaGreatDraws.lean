import Derived.Test.YtdlafcioopclhaaGreatBaseB
import Derived.Laws.OwnMore
import Derived.Deep.DeepCutAuto
import Derived.Deep.CutBlock
import Derived.Deep.RegionWith
namespace Go.Proofs.YtdlafcioopclhaaGreat
open Go.RowKit

/-- a truth is drawn -/
def PickedB (rb P : Nat) (w : World) (e : Ending) (w' : World) : Prop :=
  ∃ v : Bool, e = .returned (.bool v) ∧ Only rb w w' ∧ Rdr w' rb (P + 1)

set_option maxHeartbeats 800000 in
theorem odd_any (rb P : Nat) (n : Int) (hn : 1 ≤ n) (hn2 : n ≤ 100) (hP : P ≤ 1000000) (w : World) (h : Rdr w rb P) :
    Calls Tryz.prog 35 #[.pointer (some ⟨rb, 0, none⟩), .int .i64 n] w (PickedB rb P w) := by
  have hd : decide (0 < n) = true := by simp; omega
  have H := Lib.hid h; clear h
  go_enter Tryz.func35, Tryz.ntmps35
  go_wp2_with fail
  refine (pick_any rb P n hP w H.out).mono ?_
  rintro e w' ⟨x, rfl, hx, ho, hr⟩
  go_wp2_with fail
  go_ret
  exact ⟨_, rfl, ho, hr⟩

/-- bytes that came in -/
def BytesIn (w : World) (a : Option Addr) (n cap : Nat) : Prop :=
  n ≤ cap ∧ cap ≤ 9223372036854775807 ∧ (n = 0 ∨ ∃ b o g, a = some ⟨b, o, none⟩ ∧ b < w.heap.size ∧ Bytes w b o n g)

theorem reader_made (w : World) (a : Option Addr) (n cap : Nat) (hn : n ≤ 2000) (h : n = 0 ∨ ∃ b o g, a = some ⟨b, o, none⟩ ∧ b < w.heap.size ∧ Bytes w b o n g) (t : TypeId) :
    Rdr (w.alloc (.cells #[.slice a n cap, .int .i64 0] t)) w.heap.size 0 := by
  have hrow := World.rowIs_alloc w #[.slice a n cap, .int .i64 0] t (fun i => if i = 0 then .slice a n cap else .int .i64 0) (by
    intro i hi
    match i, hi with
    | 0, _ => rfl
    | 1, _ => rfl)
  have hb : Below w.heap.size w (w.alloc (.cells #[.slice a n cap, .int .i64 0] t)) := (Below.refl _ _).alloc (Nat.le_refl _) _
  have hsz : (w.alloc (.cells #[.slice a n cap, .int .i64 0] t)).heap.size = w.heap.size + 1 := by show (w.heap.push _).size = _; rw [Array.size_push]
  have h0 := hrow.cell (i := 0) (by show 0 < 2; omega)
  have h1 := hrow.cell (i := 1) (by show 1 < 2; omega)
  rcases h with h | ⟨b, o, g, ha, hlt, hby⟩
  · exact ⟨by omega, hrow.frozen 1, a, n, cap, fun _ => 0, 0, hn, Nat.le_refl _, h0, h1, .inl h⟩
  · exact ⟨by omega, hrow.frozen 1, a, n, cap, g, 0, hn, Nat.le_refl _, h0, h1, .inr ⟨b, o, ha, hlt, fun i hi => ⟨(hb.cell (p := ⟨b, o + i, none⟩) hlt).trans (hby i hi).1, (hby i hi).2⟩⟩⟩

/-- a reader is made -/
def Opened (w : World) (e : Ending) (w' : World) : Prop := e = .returned (.pointer (some ⟨w.heap.size, 0, none⟩)) ∧ Below w.heap.size w w' ∧ Rdr w' w.heap.size 0

set_option maxHeartbeats 800000 in
theorem open_any (a : Option Addr) (n cap : Nat) (w : World) (h : BytesIn w a n cap) :
    Calls Tryz.prog 12 #[.slice a n cap] w (Opened w) := by
  obtain ⟨hnc, hc, hb⟩ := h
  by_cases hn : n ≤ 2000
  · have hm := Lib.hid (reader_made w a n cap hn hb 50)
    have HB := Lib.hid hb; clear hb
    have hd : decide ((2000 : Int) < (n : Int)) = false := by simp; omega
    go_enter Tryz.func12, Tryz.ntmps12
    go_wp2_with fail
    go_ret

    exact ⟨rfl, (Below.refl _ _).alloc (Nat.le_refl _) _, hm.out⟩
  · have hb2 : (2000 : Nat) = 0 ∨ ∃ b o g, a = some ⟨b, o, none⟩ ∧ b < w.heap.size ∧ Bytes w b o 2000 g := by
      rcases hb with hb | ⟨b, o, g, ha, hlt, hby⟩
      · omega
      · exact .inr ⟨b, o, g, ha, hlt, fun i hi => hby i (by omega)⟩
    have hm := Lib.hid (reader_made w a 2000 cap (Nat.le_refl _) hb2 50)
    have HB := Lib.hid hb; clear hb hb2
    have hd : decide ((2000 : Int) < (n : Int)) = true := by simp; omega
    go_enter Tryz.func12, Tryz.ntmps12
    go_wp2_with fail
    go_ret

    exact ⟨rfl, (Below.refl _ _).alloc (Nat.le_refl _) _, hm.out⟩
end Go.Proofs.YtdlafcioopclhaaGreat

namespace Go.Proofs.YtdlafcioopclhaaGreat
open Go.RowKit

/-- a slice of n numbers in memory from block B on -/
def OwnI (w : World) (B : Nat) (v : Value) (n : Nat) : Prop :=
  ∃ xs : List Int, xs.length = n ∧ (∀ x ∈ xs, I64 x) ∧ w.ownsRow B 3 1 v n (xs.map (Value.int .i64))

theorem OwnI.kept {w w' : World} {B n : Nat} {v : Value} (h : OwnI w B v n) (hb : Below w.heap.size w w') : OwnI w' B v n := by
  obtain ⟨xs, h1, h2, h3, h4⟩ := h
  refine ⟨xs, h1, h2, h3, ?_⟩
  rcases h4 with h4 | ⟨g, cap, cur, hv, hB, hg, hr⟩
  · exact .inl h4
  · refine .inr ⟨g, cap, cur, hv, hB, ?_, hr⟩
    have hlt : g < w.heap.size := by
      rcases Nat.lt_or_ge g w.heap.size with h | h
      · exact h
      · rw [Array.getElem?_eq_none h] at hg; cases hg
    rw [hb.block g hlt]; exact hg

theorem OwnI.drewN {w : World} {B n : Nat} {v : Value} (h : OwnI w B v n) (m : Nat) : OwnI (w.drewN m) B v n := h.kept (below_drewN (Below.refl _ _) m)

theorem OwnI.shape {w : World} {B n : Nat} {v : Value} (h : OwnI w B v n) (h1 : 1 ≤ n) :
    ∃ (g cap : Nat) (f : Nat → Int), v = .slice (some ⟨g, 0, none⟩) n cap ∧ B ≤ g ∧ g < w.heap.size ∧ n ≤ cap ∧ cap ≤ 9223372036854775807 ∧ Row w g 0 n f ∧ (∀ i, i < n → I64 (f i)) ∧ ∀ j, w.frozen? ⟨g, j, none⟩ = false := by
  obtain ⟨xs, hl, h64, hown⟩ := h
  have hown2 := hown
  obtain ⟨h3, h4⟩ := hown
  rcases h4 with ⟨_, h4⟩ | ⟨g, cap, cur, hv, hB, hg, hc, hm, _⟩
  · omega
  · subst hv
    have hlt : g < w.heap.size := by
      rcases Nat.lt_or_ge g w.heap.size with h | h
      · exact h
      · rw [Array.getElem?_eq_none h] at hg; cases hg
    unfold maxLen at hm
    refine ⟨g, cap, fun i => xs.getD i 0, rfl, hB, hlt, hc, hm, ?_, ?_, fun j => hown2.frozenAt j⟩
    · intro i hi
      rw [Nat.zero_add, hown2.cellAt i (by omega)]
      show _ = some (Value.int .i64 (xs.getD i 0))
      rw [List.getElem?_map, List.getD_eq_getElem?_getD, List.getElem?_eq_getElem (by omega : i < xs.length)]
      rfl
    · intro i hi
      show I64 (xs.getD i 0)
      rw [List.getD_eq_getElem?_getD, List.getElem?_eq_getElem (by omega : i < xs.length)]
      exact h64 _ (List.getElem_mem _)

/-- a slice of its own is made -/
def Made (n : Nat) (w : World) (e : Ending) (w' : World) : Prop := ∃ v, e = .returned v ∧ OwnI w' w.heap.size v n ∧ Below w.heap.size w w'

theorem Row.drew {w w' : World} {b o n : Nat} {f : Nat → Int} (h : Row w b o n f) (hd : Drew w w') : Row w' b o n f := by
  obtain ⟨m, rfl⟩ := hd; exact h.drewN m

theorem pow20 (k : Nat) (hk : k < 20) : (1 : Int) ≤ 2 ^ k ∧ (2 : Int) ^ k ≤ 1048576 := by
  have h1 := Nat.one_le_two_pow (n := k)
  have h2 : 2 ^ k ≤ 2 ^ 20 := Nat.pow_le_pow_right (by decide) (by omega)
  have h3 : ((2 ^ k : Nat) : Int) = 2 ^ k := by simp
  omega

/-- one number is put behind an owned slice -/
theorem own_snoc {w' : World} {B : Nat} {v' : Value} {xs : List Int} {s : Int} (hl : ∀ x ∈ xs, I64 x) (hs : I64 s) (h : w'.ownsRow B 3 1 v' (xs.length + 1) (xs.map (Value.int .i64) ++ [.int .i64 s])) : OwnI w' B v' (xs.length + 1) :=
  ⟨xs ++ [s], by simp, fun x hx => by rcases List.mem_append.1 hx with h | h; exact hl x h; rw [List.mem_singleton.1 h]; exact hs, by simpa using h⟩

theorem grown_only {w w1 w2 : World} {B : Nat} {v : Value} {xs : List Value} {n : Nat} (hg : w1.grownBy w2 v.ownBlock) (hown : w1.ownsRow B 3 1 v n xs) (h : Below B w w1) (hB : B ≤ w1.heap.size) : Below B w w2 :=
  h.grown hg hB (fun k hk => (hown.lt k hk).1)

set_option maxHeartbeats 1600000 in
theorem family_any (bk off n cap : Nat) (f : Nat → Int) (hn : n ≤ 20) (w : World) (hr : Row w bk off n f) (hbk : bk < w.heap.size) :
    Calls Tryz.prog 36 #[.slice (some ⟨bk, off, none⟩) n cap] w (Made n w) := by
  obtain ⟨i0, hi, hz0, hz1, hz2⟩ := info_parts Tryz.infoInt
  have hst : OwnI (w.alloc (.cells #[] 3)) w.heap.size (.slice (some ⟨w.heap.size, 0, none⟩) 0 0) 0 := ⟨[], rfl, fun x hx => by simp at hx, World.ownsRow_made w #[] 0 (Nat.le_refl _) (by unfold maxLen; omega) rfl⟩
  have hsb : Below w.heap.size w (w.alloc (.cells #[] 3)) := (Below.refl _ _).alloc (Nat.le_refl _) _
  go_enter Tryz.func36, Tryz.ntmps36
  go_wp2_with fail
  go_loopw [3, 4] (fun v i wr => ∃ k : Nat, k ≤ n ∧ i = .int .i64 k ∧ OwnI wr w.heap.size v k ∧ Below w.heap.size w wr) (fun _ i _ => n - (intOf i).toNat)
  case atStart => exact ⟨0, Nat.zero_le _, rfl, hst, hsb⟩
  case round =>
    clear hst hsb
    obtain ⟨k, hk, rfl, hown, hbel⟩ := hrel
    by_cases hlt : k < n
    · go_wp2_with fail
      obtain ⟨wo, rfl⟩ : ∃ wo : World, wo = wr := ⟨_, rfl⟩
      go_loopw [5, 6] (fun v i wr => ∃ (j : Nat) (s : Int), j ≤ n ∧ i = .int .i64 j ∧ v = .int .i64 s ∧ I64 s ∧ Drew wo wr) (fun _ i _ => n - (intOf i).toNat)
      case atStart => exact ⟨0, 0, Nat.zero_le _, rfl, rfl, I64_zero, Drew.refl _⟩
      case round =>
        obtain ⟨j, s, hj, rfl, rfl, hs, hd⟩ := hrel
        have hrr : Row wr bk off n f := (hr.below hbel hbk).drew hd
        by_cases hjn : j < n
        · have hck := hrr k hlt
          have hcj := hrr j hjn
          have hki : (k : Int) < (n : Int) := by omega
          have hji : (j : Int) < (n : Int) := by omega
          have ⟨hp1, hp2⟩ := pow20 j (by omega)
          cases hor : (bits .or .i64 (f k) (f j) == f k) with
          | true =>
            go_wp2_with fail
            go_quiet (fail)
            go_wp2_with fail
            go_roundw
            case rel => exact ⟨j + 1, _, by omega, by go_num, rfl, orI_I64 s (2 ^ j), hd.more _⟩
            case measure => simp [intOf]; omega
          | false =>
            go_wp2_with fail
            go_quiet (fail)
            go_wp2_with fail
            go_roundw
            case rel => exact ⟨j + 1, s, by omega, by go_num, rfl, hs, hd.more _⟩
            case measure => simp [intOf]; omega
        · have hown2 := hown.kept hd.below
          have hbel2 : Below w.heap.size w wr := hbel.trans (hd.below.mono hbel.size)
          obtain ⟨xs, hxl, hx64, hrow⟩ := hown2
          have hB := hbel2.size
          have HX := Lib.hid hxl; have HO := Lib.hid hrow; have HB := Lib.hid hbel2
          clear hxl hrow hbel2 hown hbel hrr hd
          have hkn : k < 20 := by omega
          go_wp2_with (at_builtin; refine wpList_append_own _ rfl (.tmp 38) (.tmp 40) 23 rfl w.heap.size 3 i0 (.int .i64 0) 1 8 Tryz.underlying23 hi hz0 hz1 hz2 rfl (by decide) _ _ _ rfl (HO.out.alloc _) ⟨wr.heap.size, 0, none⟩ 1 1 [.int .i64 s] rfl rfl ?c1 ?c2 ?c3 ?c4 ?c5 ?_)
          case c1 =>
            intro j u hj
            match j, hj with
            | 0, hj => simp at hj; subst hj; simp [Addr.add]
          case c2 => intro u hu; simp at hu; subst hu; rfl
          case c3 => unfold maxLen; omega
          case c4 => omega
          case c5 => simp; omega
          · intro v' w1 hown' hgrow _
            have hb1 : Below w.heap.size w w1 := (HB.out.alloc hB _).grown hgrow (by show _ ≤ (wr.heap.push _).size; rw [Array.size_push]; omega) (fun q hq => (HO.out.lt q hq).1)
            have ho1 : OwnI w1 w.heap.size v' (k + 1) := by
              have := HX.out; subst this
              exact own_snoc hx64 hs hown'
            clear hown' hgrow
            go_wp2_with fail
            go_roundw
            case rel => exact ⟨k + 1, by omega, by go_num, ho1, hb1⟩
            case measure => simp [intOf]; omega
    · have hkn : k = n := by omega
      subst hkn
      go_wp2_with fail
      go_ret
      exact ⟨_, rfl, hown, hbel⟩
end Go.Proofs.YtdlafcioopclhaaGreat

namespace Go.Proofs.YtdlafcioopclhaaGreat
open Go.RowKit

theorem OwnI.lift {w w' : World} {B n rb : Nat} {v : Value} (h : OwnI w B v n) (hb : Only rb w w') (hB : rb < B) : OwnI w' B v n := by
  obtain ⟨xs, h1, h2, h3, h4⟩ := h
  refine ⟨xs, h1, h2, h3, ?_⟩
  rcases h4 with h4 | ⟨g, cap, cur, hv, hBg, hg, hr⟩
  · exact .inl h4
  · refine .inr ⟨g, cap, cur, hv, hBg, ?_, hr⟩
    have hlt : g < w.heap.size := by
      rcases Nat.lt_or_ge g w.heap.size with h | h
      · exact h
      · rw [Array.getElem?_eq_none h] at hg; cases hg
    rw [hb.block g hlt (by omega)]; exact hg

theorem OwnI.slice {w : World} {B n : Nat} {v : Value} (h : OwnI w B v n) : ∃ (a : Option Addr) (cap : Nat), v = .slice a n cap := by
  obtain ⟨xs, h1, h2, h3, h4⟩ := h
  rcases h4 with ⟨h4, rfl⟩ | ⟨g, cap, cur, hv, _⟩
  · exact ⟨none, 0, h4⟩
  · exact ⟨_, cap, hv⟩

theorem OwnI.lit (w : World) (B : Nat) (hB : B ≤ w.heap.size) (xs : List Int) (h : ∀ x ∈ xs, I64 x) (hl : xs.length ≤ 1000) (cs : Array Value) (hcs : cs = (xs.map (Value.int .i64)).toArray) :
    OwnI (w.alloc (.cells cs 3)) B (.slice (some ⟨w.heap.size, 0, none⟩) xs.length xs.length) xs.length := by
  subst hcs
  refine ⟨xs, rfl, h, ?_⟩
  have := World.ownsRow_lit (base := B) (e := 3) (size := 1) w (xs.map (Value.int .i64)).toArray xs.length hB (by unfold maxLen; omega) (by simp)
  simpa using this

theorem OwnI.put {w : World} {B n g cap j : Nat} {s : Int} (h : OwnI w B (.slice (some ⟨g, 0, none⟩) n cap) n) (hs : I64 s) : OwnI (w.setCell ⟨g, j, none⟩ (.int .i64 s)) B (.slice (some ⟨g, 0, none⟩) n cap) n := by
  obtain ⟨xs, hl, h64, hown⟩ := h
  refine ⟨xs.set j s, by simpa using hl, ?_, ?_⟩
  · intro x hx
    rcases List.mem_or_eq_of_mem_set hx with h | h
    · exact h64 x h
    · rw [h]; exact hs
  · have := hown.stored j (.int .i64 s)
    rw [List.map_set]
    exact this.1

theorem Only.alloc {rb : Nat} {w w' : World} (h : Only rb w w') (o : Obj) : Only rb w (w'.alloc o) :=
  h.trans (Only.of_below ((Below.refl _ _).alloc (Nat.le_refl _) o))
theorem Only.fresh {rb : Nat} {w w' : World} (h : Only rb w w') {g : Nat} (hg : w.heap.size ≤ g) (j : Nat) (v : Value) : Only rb w (w'.setCell ⟨g, j, none⟩ v) :=
  ⟨h.os, h.tape, h.output, by simp [World.setCell]; exact h.size, fun k hk hn => (Below.heap_setCell w' ⟨g, j, none⟩ v k (by show k ≠ g; omega)).trans (h.block k hk hn)⟩

theorem OwnI.base {w : World} {B B' n : Nat} {v : Value} (h : OwnI w B v n) (hB : B' ≤ B) : OwnI w B' v n := by
  obtain ⟨xs, h1, h2, h3, h4⟩ := h
  refine ⟨xs, h1, h2, h3, ?_⟩
  rcases h4 with h4 | ⟨g, cap, cur, hv, hBg, hr⟩
  · exact .inl h4
  · exact .inr ⟨g, cap, cur, hv, Nat.le_trans hB hBg, hr⟩

theorem lit_row (w : World) (xs : List Int) (cs : Array Value) (hcs : cs = (xs.map (Value.int .i64)).toArray) (m : Nat) (hm : m ≤ xs.length) (t : TypeId) :
    Row (w.alloc (.cells cs t)) w.heap.size 0 m (fun i => xs.getD i 0) := by
  subst hcs
  have hrow := World.rowIs_alloc w (xs.map (Value.int .i64)).toArray t (fun i => .int .i64 (xs.getD i 0)) (by
    intro i hi
    simp only [List.size_toArray, List.length_map] at hi
    rw [List.getElem?_toArray, List.getElem?_map, List.getD_eq_getElem?_getD, List.getElem?_eq_getElem hi]
    rfl)
  intro i hi
  rw [Nat.zero_add]
  exact hrow.cell (by simp; omega)

theorem alloc_size (w : World) (o : Obj) : (w.alloc o).heap.size = w.heap.size + 1 := by show (w.heap.push _).size = _; rw [Array.size_push]
theorem alloc_below (w : World) (o : Obj) : Below w.heap.size w (w.alloc o) := (Below.refl _ _).alloc (Nat.le_refl _) o

def tabW (w1 : World) : World := ((((((((w1.alloc (.cells #[.int .i64 1, .int .i64 3] 3)).alloc (.cells #[.int .i64 1, .int .i64 3, .int .i64 5] 3)).alloc (.cells #[.int .i64 1, .int .i64 2, .int .i64 7, .int .i64 11] 3)).alloc (.cells #[.int .i64 1, .int .i64 3, .int .i64 7, .int .i64 15] 3)).alloc (.cells #[.int .i64 1, .int .i64 2, .int .i64 7, .int .i64 15] 3)).alloc (.cells #[.int .i64 1, .int .i64 2, .int .i64 4, .int .i64 9, .int .i64 19] 3)).alloc (.cells #[.int .i64 1, .int .i64 2, .int .i64 4, .int .i64 7, .int .i64 15] 3)).alloc (.cells #[.slice (some ⟨w1.heap.size, 0, none⟩) 2 2, .slice (some ⟨w1.heap.size + 1, 0, none⟩) 3 3, .slice (some ⟨w1.heap.size + 2, 0, none⟩) 4 4, .slice (some ⟨w1.heap.size + 3, 0, none⟩) 4 4, .slice (some ⟨w1.heap.size + 4, 0, none⟩) 4 4, .slice (some ⟨w1.heap.size + 5, 0, none⟩) 5 5, .slice (some ⟨w1.heap.size + 6, 0, none⟩) 5 5] 23))

theorem lit_kept {w w' : World} {B a n : Nat} {v : Value} (h : OwnI w B v n) (_e : a = 0) (hb : Below w.heap.size w w') : OwnI w' B v n := h.kept hb

theorem small_I64 {xs : List Int} (h : xs.all (fun x => decide (0 ≤ x ∧ x ≤ 1000)) = true) : ∀ x ∈ xs, I64 x := by
  intro x hx
  have := List.all_eq_true.1 h x hx
  simp only [decide_eq_true_eq] at this
  unfold I64; omega

theorem tab_size (w1 : World) : (tabW w1).heap.size = w1.heap.size + 8 := by
  unfold tabW; simp only [alloc_size]
theorem tab_below (w1 : World) : Below w1.heap.size w1 (tabW w1) := by
  unfold tabW
  refine (((((((((Below.refl _ _).alloc ?_ _).alloc ?_ _).alloc ?_ _).alloc ?_ _).alloc ?_ _).alloc ?_ _).alloc ?_ _).alloc ?_ _) <;> (try simp only [alloc_size]) <;> omega

theorem tab_own (w1 : World) (B : Nat) (hB : B ≤ w1.heap.size) (y : Nat) (hy : y < 7) :
    ∃ L, 1 ≤ L ∧ L ≤ 5 ∧ (tabW w1).cell? ⟨w1.heap.size + 7, y, none⟩ = some (.slice (some ⟨w1.heap.size + y, 0, none⟩) L L) ∧ OwnI (tabW w1) B (.slice (some ⟨w1.heap.size + y, 0, none⟩) L L) L := by
  have hrow := World.rowIs_alloc (((((((w1.alloc (.cells #[.int .i64 1, .int .i64 3] 3)).alloc (.cells #[.int .i64 1, .int .i64 3, .int .i64 5] 3)).alloc (.cells #[.int .i64 1, .int .i64 2, .int .i64 7, .int .i64 11] 3)).alloc (.cells #[.int .i64 1, .int .i64 3, .int .i64 7, .int .i64 15] 3)).alloc (.cells #[.int .i64 1, .int .i64 2, .int .i64 7, .int .i64 15] 3)).alloc (.cells #[.int .i64 1, .int .i64 2, .int .i64 4, .int .i64 9, .int .i64 19] 3)).alloc (.cells #[.int .i64 1, .int .i64 2, .int .i64 4, .int .i64 7, .int .i64 15] 3)) #[.slice (some ⟨w1.heap.size, 0, none⟩) 2 2, .slice (some ⟨w1.heap.size + 1, 0, none⟩) 3 3, .slice (some ⟨w1.heap.size + 2, 0, none⟩) 4 4, .slice (some ⟨w1.heap.size + 3, 0, none⟩) 4 4, .slice (some ⟨w1.heap.size + 4, 0, none⟩) 4 4, .slice (some ⟨w1.heap.size + 5, 0, none⟩) 5 5, .slice (some ⟨w1.heap.size + 6, 0, none⟩) 5 5] 23 (fun i => .slice (some ⟨w1.heap.size + i, 0, none⟩) (([2, 3, 4, 4, 4, 5, 5] : List Nat).getD i 0) (([2, 3, 4, 4, 4, 5, 5] : List Nat).getD i 0)) (by
    intro i hi
    match i, hi with
    | 0, _ | 1, _ | 2, _ | 3, _ | 4, _ | 5, _ | 6, _ => rfl)
  have hs7 : (((((((w1.alloc (.cells #[.int .i64 1, .int .i64 3] 3)).alloc (.cells #[.int .i64 1, .int .i64 3, .int .i64 5] 3)).alloc (.cells #[.int .i64 1, .int .i64 2, .int .i64 7, .int .i64 11] 3)).alloc (.cells #[.int .i64 1, .int .i64 3, .int .i64 7, .int .i64 15] 3)).alloc (.cells #[.int .i64 1, .int .i64 2, .int .i64 7, .int .i64 15] 3)).alloc (.cells #[.int .i64 1, .int .i64 2, .int .i64 4, .int .i64 9, .int .i64 19] 3)).alloc (.cells #[.int .i64 1, .int .i64 2, .int .i64 4, .int .i64 7, .int .i64 15] 3)).heap.size = w1.heap.size + 7 := by simp only [alloc_size]
  rw [hs7] at hrow
  have hcell := hrow.cell (i := y) (by show y < 7; exact hy)
  refine ⟨([2, 3, 4, 4, 4, 5, 5] : List Nat).getD y 0, ?_, ?_, hcell, ?_⟩
  · match y, hy with
    | 0, _ | 1, _ | 2, _ | 3, _ | 4, _ | 5, _ | 6, _ => decide
  · match y, hy with
    | 0, _ | 1, _ | 2, _ | 3, _ | 4, _ | 5, _ | 6, _ => decide
  · match y, hy with
    | 0, _ =>
      have h0 := OwnI.lit w1 B hB [1, 3] (small_I64 (by decide)) (by decide) _ rfl
      have hz : w1.heap.size = w1.heap.size + 0 := by simp only [Nat.add_zero]
      rw [hz] at h0
      refine h0.kept ?_
      unfold tabW
      refine ((((((((Below.refl _ _).alloc ?_ _).alloc ?_ _).alloc ?_ _).alloc ?_ _).alloc ?_ _).alloc ?_ _).alloc ?_ _) <;> (try simp only [alloc_size]) <;> omega
    | 1, _ =>
      have h0 := OwnI.lit (w1.alloc (.cells #[.int .i64 1, .int .i64 3] 3)) B (by simp only [alloc_size]; omega) [1, 3, 5] (small_I64 (by decide)) (by decide) _ rfl
      have hz : (w1.alloc (.cells #[.int .i64 1, .int .i64 3] 3)).heap.size = w1.heap.size + 1 := by simp only [alloc_size]
      rw [hz] at h0
      refine h0.kept ?_
      unfold tabW
      refine (((((((Below.refl _ _).alloc ?_ _).alloc ?_ _).alloc ?_ _).alloc ?_ _).alloc ?_ _).alloc ?_ _) <;> (try simp only [alloc_size]) <;> omega
    | 2, _ =>
      have h0 := OwnI.lit ((w1.alloc (.cells #[.int .i64 1, .int .i64 3] 3)).alloc (.cells #[.int .i64 1, .int .i64 3, .int .i64 5] 3)) B (by simp only [alloc_size]; omega) [1, 2, 7, 11] (small_I64 (by decide)) (by decide) _ rfl
      have hz : ((w1.alloc (.cells #[.int .i64 1, .int .i64 3] 3)).alloc (.cells #[.int .i64 1, .int .i64 3, .int .i64 5] 3)).heap.size = w1.heap.size + 2 := by simp only [alloc_size]
      rw [hz] at h0
      refine h0.kept ?_
      unfold tabW
      refine ((((((Below.refl _ _).alloc ?_ _).alloc ?_ _).alloc ?_ _).alloc ?_ _).alloc ?_ _) <;> (try simp only [alloc_size]) <;> omega
    | 3, _ =>
      have h0 := OwnI.lit (((w1.alloc (.cells #[.int .i64 1, .int .i64 3] 3)).alloc (.cells #[.int .i64 1, .int .i64 3, .int .i64 5] 3)).alloc (.cells #[.int .i64 1, .int .i64 2, .int .i64 7, .int .i64 11] 3)) B (by simp only [alloc_size]; omega) [1, 3, 7, 15] (small_I64 (by decide)) (by decide) _ rfl
      have hz : (((w1.alloc (.cells #[.int .i64 1, .int .i64 3] 3)).alloc (.cells #[.int .i64 1, .int .i64 3, .int .i64 5] 3)).alloc (.cells #[.int .i64 1, .int .i64 2, .int .i64 7, .int .i64 11] 3)).heap.size = w1.heap.size + 3 := by simp only [alloc_size]
      rw [hz] at h0
      refine h0.kept ?_
      unfold tabW
      refine (((((Below.refl _ _).alloc ?_ _).alloc ?_ _).alloc ?_ _).alloc ?_ _) <;> (try simp only [alloc_size]) <;> omega
    | 4, _ =>
      have h0 := OwnI.lit ((((w1.alloc (.cells #[.int .i64 1, .int .i64 3] 3)).alloc (.cells #[.int .i64 1, .int .i64 3, .int .i64 5] 3)).alloc (.cells #[.int .i64 1, .int .i64 2, .int .i64 7, .int .i64 11] 3)).alloc (.cells #[.int .i64 1, .int .i64 3, .int .i64 7, .int .i64 15] 3)) B (by simp only [alloc_size]; omega) [1, 2, 7, 15] (small_I64 (by decide)) (by decide) _ rfl
      have hz : ((((w1.alloc (.cells #[.int .i64 1, .int .i64 3] 3)).alloc (.cells #[.int .i64 1, .int .i64 3, .int .i64 5] 3)).alloc (.cells #[.int .i64 1, .int .i64 2, .int .i64 7, .int .i64 11] 3)).alloc (.cells #[.int .i64 1, .int .i64 3, .int .i64 7, .int .i64 15] 3)).heap.size = w1.heap.size + 4 := by simp only [alloc_size]
      rw [hz] at h0
      refine h0.kept ?_
      unfold tabW
      refine ((((Below.refl _ _).alloc ?_ _).alloc ?_ _).alloc ?_ _) <;> (try simp only [alloc_size]) <;> omega
    | 5, _ =>
      have h0 := OwnI.lit (((((w1.alloc (.cells #[.int .i64 1, .int .i64 3] 3)).alloc (.cells #[.int .i64 1, .int .i64 3, .int .i64 5] 3)).alloc (.cells #[.int .i64 1, .int .i64 2, .int .i64 7, .int .i64 11] 3)).alloc (.cells #[.int .i64 1, .int .i64 3, .int .i64 7, .int .i64 15] 3)).alloc (.cells #[.int .i64 1, .int .i64 2, .int .i64 7, .int .i64 15] 3)) B (by simp only [alloc_size]; omega) [1, 2, 4, 9, 19] (small_I64 (by decide)) (by decide) _ rfl
      have hz : (((((w1.alloc (.cells #[.int .i64 1, .int .i64 3] 3)).alloc (.cells #[.int .i64 1, .int .i64 3, .int .i64 5] 3)).alloc (.cells #[.int .i64 1, .int .i64 2, .int .i64 7, .int .i64 11] 3)).alloc (.cells #[.int .i64 1, .int .i64 3, .int .i64 7, .int .i64 15] 3)).alloc (.cells #[.int .i64 1, .int .i64 2, .int .i64 7, .int .i64 15] 3)).heap.size = w1.heap.size + 5 := by simp only [alloc_size]
      rw [hz] at h0
      refine h0.kept ?_
      unfold tabW
      refine (((Below.refl _ _).alloc ?_ _).alloc ?_ _) <;> (try simp only [alloc_size]) <;> omega
    | 6, _ =>
      have h0 := OwnI.lit ((((((w1.alloc (.cells #[.int .i64 1, .int .i64 3] 3)).alloc (.cells #[.int .i64 1, .int .i64 3, .int .i64 5] 3)).alloc (.cells #[.int .i64 1, .int .i64 2, .int .i64 7, .int .i64 11] 3)).alloc (.cells #[.int .i64 1, .int .i64 3, .int .i64 7, .int .i64 15] 3)).alloc (.cells #[.int .i64 1, .int .i64 2, .int .i64 7, .int .i64 15] 3)).alloc (.cells #[.int .i64 1, .int .i64 2, .int .i64 4, .int .i64 9, .int .i64 19] 3)) B (by simp only [alloc_size]; omega) [1, 2, 4, 7, 15] (small_I64 (by decide)) (by decide) _ rfl
      have hz : ((((((w1.alloc (.cells #[.int .i64 1, .int .i64 3] 3)).alloc (.cells #[.int .i64 1, .int .i64 3, .int .i64 5] 3)).alloc (.cells #[.int .i64 1, .int .i64 2, .int .i64 7, .int .i64 11] 3)).alloc (.cells #[.int .i64 1, .int .i64 3, .int .i64 7, .int .i64 15] 3)).alloc (.cells #[.int .i64 1, .int .i64 2, .int .i64 7, .int .i64 15] 3)).alloc (.cells #[.int .i64 1, .int .i64 2, .int .i64 4, .int .i64 9, .int .i64 19] 3)).heap.size = w1.heap.size + 6 := by simp only [alloc_size]
      rw [hz] at h0
      refine h0.kept ?_
      unfold tabW
      refine ((Below.refl _ _).alloc ?_ _) <;> (try simp only [alloc_size]) <;> omega

/-- the numbers of a row, as cells -/
def src (m : Nat) (f : Nat → Int) : List Value := (List.range m).map (fun i => Value.int .i64 (f i))

theorem src_cells (w : World) (g m : Nat) (f : Nat → Int) (h : Row w g 0 m f) : ∀ j u, (src m f)[j]? = some u → w.cell? ((⟨g, 0, none⟩ : Addr).add j) = some u := by
  intro j u hj
  unfold src at hj
  rw [List.getElem?_map] at hj
  rcases Nat.lt_or_ge j m with hlt | hge
  · rw [List.getElem?_range hlt] at hj
    have := h j hlt
    rw [Go.WideShapes.add_plain, this]
    exact hj
  · rw [List.getElem?_eq_none (by simpa using hge)] at hj; cases hj

theorem src_one (m : Nat) (f : Nat → Int) : ∀ u ∈ src m f, u.oneCell' = true := by
  intro u hu
  unfold src at hu
  obtain ⟨i, _, rfl⟩ := List.mem_map.1 hu
  rfl

theorem src_own {w : World} {B : Nat} {v : Value} (m : Nat) (f : Nat → Int) (h64 : ∀ i, i < m → I64 (f i)) (h : w.ownsRow B 3 1 v m (src m f)) : OwnI w B v m := by
  refine ⟨(List.range m).map f, by simp, ?_, ?_⟩
  · intro x hx
    obtain ⟨i, hi, rfl⟩ := List.mem_map.1 hx
    exact h64 i (List.mem_range.1 hi)
  · have e : ((List.range m).map f).map (Value.int .i64) = src m f := by unfold src; rw [List.map_map]; rfl
    rw [e]
    exact h

/-- what l20World gives: n numbers at most, in new memory -/
def DrawnW (rb P : Nat) (w : World) (e : Ending) (w' : World) : Prop :=
  ∃ v m, e = .returned v ∧ m ≤ 8 ∧ OwnI w' w.heap.size v m ∧ Only rb w w' ∧ Rdr w' rb (P + 1000)

/-- the state behind a number that was put into the slice -/
def PutW (rb P : Nat) (w : World) (g cp m : Nat) (wx : World) : Prop :=
  OwnI wx w.heap.size (.slice (some ⟨g, 0, none⟩) m cp) m ∧ Only rb w wx ∧ Rdr wx rb (P + 600)

/-- the state at each try -/
def TriesR (rb P : Nat) (w1 : World) (v i : Value) (wr : World) : Prop :=
  ∃ (t m : Nat), t ≤ 20 ∧ m ≤ 7 ∧ i = .int .i64 t ∧ OwnI wr w1.heap.size v m ∧ Only rb w1 wr ∧ Rdr wr rb (P + 10 + 10 * t)

/-- the state at the switch's end -/
def MidW (rb P : Nat) (w : World) (v : Value) (wx : World) : Prop :=
  ∃ m, 1 ≤ m ∧ m ≤ 7 ∧ OwnI wx w.heap.size v m ∧ Only rb w wx ∧ Rdr wx rb (P + 500)

theorem one_I64 : ∀ x ∈ ([1] : List Int), I64 x := by intro x hx; simp at hx; subst hx; unfold I64; omega

set_option maxRecDepth 100000 in
set_option maxHeartbeats 16000000 in
theorem world_any (rb P : Nat) (n : Int) (hn : 1 ≤ n) (hn2 : n ≤ 100) (hP : P ≤ 100000) (w : World) (h : Rdr w rb P) :
    Calls Tryz.prog 18 #[.pointer (some ⟨rb, 0, none⟩), .int .i64 n] w (DrawnW rb P w) := by
  have hrb : rb < w.heap.size := h.1
  obtain ⟨i0, hi, hz0, hz1, hz2⟩ := info_parts Tryz.infoInt
  have H0 := Lib.hid (h.below ((Below.refl _ _).alloc (Nat.le_refl _) (.cells #[.int .i64 1] 3)))
  clear h
  go_enter Tryz.func18, Tryz.ntmps18
  go_wp2_with fail
  refine (pick_any rb P 6 (by omega) _ H0.out).mono ?_
  rintro e w1 ⟨x, rfl, hx, ho, hr⟩
  have hon := ((Only.refl rb w).alloc (.cells #[.int .i64 1] 3)).trans ho
  have hini := (OwnI.lit w w.heap.size (Nat.le_refl _) [1] one_I64 (by decide) _ rfl).lift ho hrb
  have hw1 : w.heap.size + 1 ≤ w1.heap.size := by have := ho.size; rw [alloc_size] at this; exact this
  have hx6 : x < 6 := by omega
  clear H0 hx
  go_upto_block 0 with fail
  go_cut [5] (fun s5 wx => MidW rb P w s5 wx)
  case first =>
    by_cases hx0 : x < 1
    · clear hx6
      have hrow := lit_row w1 [1, 2, 3, 4, 5, 6, 7] _ rfl 7 (Nat.le_refl _) 3
      have hrd := hr.below (alloc_below w1 (.cells (([1, 2, 3, 4, 5, 6, 7] : List Int).map (Value.int .i64)).toArray 3))
      have hon2 := hon.alloc (.cells (([1, 2, 3, 4, 5, 6, 7] : List Int).map (Value.int .i64)).toArray 3)
      have hsz := alloc_size w1 (.cells (([1, 2, 3, 4, 5, 6, 7] : List Int).map (Value.int .i64)).toArray 3)
      have HR := Lib.hid hrow; have HD := Lib.hid hrd; have HO := Lib.hid hon2; have HZ := Lib.hid hsz; have HW := Lib.hid hw1
      clear hrow hrd hon2 hsz hr ho hini hon hw1
      go_wp2_with fail
      refine (pick_any rb _ 7 (by omega) _ HD.out).mono ?_
      rintro e w2 ⟨y, rfl, hy, ho2, hr2⟩
      have hy7 : y < 7 := by omega
      have HY := Lib.hid ho2; have HY2 := Lib.hid hr2; clear hy ho2 hr2
      go_wp2_with fail
      refine (family_any _ 0 _ _ (fun i => ([1, 2, 3, 4, 5, 6, 7] : List Int).getD i 0) (by omega) _ (fun i hi => (HR.out.only HY.out (by have := HZ.out; omega) (by have := HW.out; omega)) i (by omega)) (by have := HY.out.size; have := HZ.out; omega)).mono ?_
      rintro e w3 ⟨v, rfl, hown, hb⟩
      obtain ⟨a3, c3, rfl⟩ := hown.slice
      have HOW := Lib.hid hown; have HB := Lib.hid hb; clear hown hb
      go_wp2_with fail
      go_meet
      exact ⟨1 + y, by omega, by omega, HOW.out.base (by have := HY.out.size; have := HZ.out; have := HW.out; omega), (HO.out.trans HY.out).trans (Only.of_below HB.out), (HY2.out.below HB.out).mono (by omega)⟩
    by_cases hx1 : x < 2
    · clear hx6
      have hrow := lit_row w1 [1, 2, 4, 8, 3, 12, 15] _ rfl 7 (Nat.le_refl _) 3
      have hrd := hr.below (alloc_below w1 (.cells (([1, 2, 4, 8, 3, 12, 15] : List Int).map (Value.int .i64)).toArray 3))
      have hon2 := hon.alloc (.cells (([1, 2, 4, 8, 3, 12, 15] : List Int).map (Value.int .i64)).toArray 3)
      have hsz := alloc_size w1 (.cells (([1, 2, 4, 8, 3, 12, 15] : List Int).map (Value.int .i64)).toArray 3)
      have HR := Lib.hid hrow; have HD := Lib.hid hrd; have HO := Lib.hid hon2; have HZ := Lib.hid hsz; have HW := Lib.hid hw1
      clear hrow hrd hon2 hsz hr ho hini hon hw1
      go_wp2_with fail
      refine (pick_any rb _ 7 (by omega) _ HD.out).mono ?_
      rintro e w2 ⟨y, rfl, hy, ho2, hr2⟩
      have hy7 : y < 7 := by omega
      have HY := Lib.hid ho2; have HY2 := Lib.hid hr2; clear hy ho2 hr2
      go_wp2_with fail
      refine (family_any _ 0 _ _ (fun i => ([1, 2, 4, 8, 3, 12, 15] : List Int).getD i 0) (by omega) _ (fun i hi => (HR.out.only HY.out (by have := HZ.out; omega) (by have := HW.out; omega)) i (by omega)) (by have := HY.out.size; have := HZ.out; omega)).mono ?_
      rintro e w3 ⟨v, rfl, hown, hb⟩
      obtain ⟨a3, c3, rfl⟩ := hown.slice
      have HOW := Lib.hid hown; have HB := Lib.hid hb; clear hown hb
      go_wp2_with fail
      go_meet
      exact ⟨1 + y, by omega, by omega, HOW.out.base (by have := HY.out.size; have := HZ.out; have := HW.out; omega), (HO.out.trans HY.out).trans (Only.of_below HB.out), (HY2.out.below HB.out).mono (by omega)⟩
    by_cases hx2 : x < 3
    · clear hx6
      have hb0 : ((x : Int) == 0) = false := by rw [beq_eq_false_iff_ne]; omega
      have hb1 : ((x : Int) == 1) = false := by rw [beq_eq_false_iff_ne]; omega
      have hb2 : ((x : Int) == 2) = true := by rw [beq_iff_eq]; omega
      have HW := Lib.hid hw1; have HI := Lib.hid hon; have HRR := Lib.hid hr
      clear hr ho hini hon hw1
      go_wp2_with fail
      refine (pick_any rb _ 7 (by omega) _ HRR.out).mono ?_
      rintro e w2 ⟨y, rfl, hy, ho2, hr2⟩
      have hy7 : y < 7 := by omega
      have hsz2 : w.heap.size ≤ w2.heap.size := by have := ho2.size; have := HW.out; omega
      have hz : OwnI (w2.alloc (.cells #[] 3)) w.heap.size (.slice (some ⟨w2.heap.size, 0, none⟩) 0 0) 0 := OwnI.lit w2 w.heap.size hsz2 [] (fun x hx => by simp at hx) (by decide) _ rfl
      have hon3 : Only rb w (w2.alloc (.cells #[] 3)) := (HI.out.trans ho2).alloc _
      have hr3 : Rdr (w2.alloc (.cells #[] 3)) rb (P + 10 + 10 * 0) := (hr2.below (alloc_below w2 _)).mono (by omega)
      have HZ := Lib.hid hz; have HO3 := Lib.hid hon3; have HR3 := Lib.hid hr3
      clear hy ho2 hr2 hz hon3 hr3
      go_wp2_with fail
      go_loopw [5, 7] (fun v i wr => ∃ k : Nat, k ≤ 1 + y ∧ i = .int .i64 k ∧ OwnI wr w.heap.size v k ∧ Only rb w wr ∧ Rdr wr rb (P + 10 + 10 * k)) (fun _ i _ => 1 + y - (intOf i).toNat)
      case atStart => exact ⟨0, Nat.zero_le _, rfl, HZ.out, HO3.out, HR3.out⟩
      case round =>
        clear HZ HO3 HR3
        obtain ⟨k, hk, rfl, hown, hon, hrd⟩ := hrel
        by_cases hlt : k < 1 + y
        · have hdk : decide ((k : Int) < 1 + (y : Int)) = true := by simp; omega
          have ⟨hp1, hp2⟩ := pow20 k (by omega)
          have HON := Lib.hid hon; have HRD := Lib.hid hrd; have HOWN := Lib.hid hown; clear hon hrd hown
          obtain ⟨a9, c9, hv9⟩ := HOWN.out.slice
          subst hv9
          go_wp2_with fail
          obtain ⟨wo, rfl⟩ : ∃ wo : World, wo = wr := ⟨_, rfl⟩
          go_loopw [8, 9] (fun s i wr => ∃ (j : Nat) (sv : Int), j ≤ k ∧ i = .int .i64 j ∧ s = .int .i64 sv ∧ I64 sv ∧ Only rb wo wr ∧ Rdr wr rb (P + 10 + 10 * k + j)) (fun _ i _ => k - (intOf i).toNat)
          case atStart => exact ⟨0, _, Nat.zero_le _, rfl, rfl, by unfold I64; omega, Only.refl _ _, HRD.out⟩
          case round =>
            obtain ⟨j, sv, hj, rfl, rfl, hsv, hoi, hri⟩ := hrel
            by_cases hjk : j < k
            · obtain ⟨g, cp, f, hv, hBg, hgl, _, _, hrow, hf64, _⟩ := HOWN.out.shape (by omega)
              injection hv with hv1 hv2 hv3
              subst hv1; subst hv3
              have HRI := Lib.hid hri; have HOI := Lib.hid hoi; clear hri hoi
              go_wp2_with fail
              refine (pick_any rb _ 3 (by omega) _ HRI.out).mono ?_
              rintro e w3 ⟨z, rfl, hz, ho3, hr3⟩
              have hrow3 : Row w3 g 0 k f := hrow.only (HOI.out.trans ho3) hgl (by omega)
              have hc : w3.cell? ⟨g, j, none⟩ = some (.int .i64 (f j)) := by have := hrow3 j hjk; rwa [Nat.zero_add] at this
              have HO3 := Lib.hid ho3; have HR3 := Lib.hid hr3; clear ho3 hr3
              by_cases hz0' : z < 1
              · go_wp2_with fail
                go_roundw
                case rel => first | exact ⟨j + 1, _, by omega, by go_num, rfl, orI_I64 sv (f j), HOI.out.trans HO3.out, HR3.out⟩ | ((repeat apply Exists.intro); exact ⟨⟨j + 1, _, by omega, by go_num, rfl, orI_I64 sv (f j), HOI.out.trans HO3.out, HR3.out⟩, rfl⟩)
                case measure => simp [intOf]; omega
              · go_wp2_with fail
                go_roundw
                case rel => first | exact ⟨j + 1, sv, by omega, by go_num, rfl, hsv, HOI.out.trans HO3.out, HR3.out⟩ | ((repeat apply Exists.intro); exact ⟨⟨j + 1, sv, by omega, by go_num, rfl, hsv, HOI.out.trans HO3.out, HR3.out⟩, rfl⟩)
                case measure => simp [intOf]; omega
            · have hown2 := HOWN.out.lift hoi hrb
              have hon2 := HON.out.trans hoi
              have hB := hon2.size
              obtain ⟨xs, hxl, hx64, hrow⟩ := hown2
              have HX := Lib.hid hxl; have HO := Lib.hid hrow; have HB := Lib.hid hon2; have HRI := Lib.hid hri
              clear hxl hrow hon2 hri hoi
              have k1 := Lib.hid (fun (j : Nat) (u : Value) (h : [Value.int .i64 sv][j]? = some u) => cell_one_new wr (.int .i64 sv) 3 j u h)
              have k2 : Hid (∀ u ∈ [Value.int .i64 sv], u.oneCell' = true) := Lib.hid (by intro u hu; simp at hu; subst hu; rfl)
              have k3 : Hid (k + 1 ≤ maxLen) := Lib.hid (by unfold maxLen; omega)
              have k4 : Hid ((k + 1) * 8 ≤ 140737488355328) := Lib.hid (by omega)
              have k5 : Hid (w.heap.size ≤ (wr.alloc (.cells #[.int .i64 sv] 3)).heap.size) := Lib.hid (by rw [alloc_size]; omega)
              go_wp2_with (at_builtin; refine wpList_append_own _ rfl (.tmp 67) (.tmp 69) 23 rfl w.heap.size 3 i0 (.int .i64 0) 1 8 Tryz.underlying23 hi hz0 hz1 hz2 rfl (by decide) _ _ _ rfl (HO.out.alloc _) ⟨wr.heap.size, 0, none⟩ 1 1 [.int .i64 sv] rfl rfl k1.out k2.out k3.out k4.out k5.out ?_)
              · intro v' w5 hown' hgrow _
                have hb1 : Below w.heap.size wr w5 := ((Below.refl w.heap.size wr).alloc hB _).grown hgrow (by show _ ≤ (wr.heap.push _).size; rw [Array.size_push]; omega) (fun q hq => (HO.out.lt q hq).1)
                have ho1 : OwnI w5 w.heap.size v' (k + 1) := by
                  have := HX.out; subst this
                  exact own_snoc hx64 hsv hown'
                have HB1 := Lib.hid hb1; have HO1 := Lib.hid ho1
                clear hown' hgrow hb1 ho1
                go_wp2_with fail
                go_roundw
                case rel => exact ⟨k + 1, by omega, by go_num, HO1.out, HB.out.below_then HB1.out, (HRI.out.belowB HB1.out hrb).mono (by omega)⟩
                case measure => simp [intOf]; omega
        · have hky : k = 1 + y := by omega
          obtain ⟨a4, c4, rfl⟩ := hown.slice
          have HON := Lib.hid hon; have HRD := Lib.hid hrd; have HOWN := Lib.hid hown; clear hon hrd hown
          have HKY := Lib.hid hky; clear hky
          go_wp2_with fail
          go_meet
          exact ⟨k, by have := HKY.out; omega, by have := HKY.out; omega, HOWN.out, HON.out, HRD.out.mono (by have := HKY.out; omega)⟩
    by_cases hx3 : x < 4
    · clear hx6
      have hb0 : ((x : Int) == 0) = false := by rw [beq_eq_false_iff_ne]; omega
      have hb1 : ((x : Int) == 1) = false := by rw [beq_eq_false_iff_ne]; omega
      have hb2 : ((x : Int) == 2) = false := by rw [beq_eq_false_iff_ne]; omega
      have hb3 : ((x : Int) == 3) = true := by rw [beq_iff_eq]; omega
      have HW := Lib.hid hw1; have HI := Lib.hid hon; have HINI := Lib.hid hini
      have hz : OwnI (w1.alloc (.cells #[] 3)) w1.heap.size (.slice (some ⟨w1.heap.size, 0, none⟩) 0 0) 0 := OwnI.lit w1 w1.heap.size (Nat.le_refl _) [] (fun x hx => by simp at hx) (by decide) _ rfl
      have hon3 : Only rb w1 (w1.alloc (.cells #[] 3)) := (Only.refl rb w1).alloc _
      have hr3 : Rdr (w1.alloc (.cells #[] 3)) rb (P + 10 + 10 * 0) := (hr.below (alloc_below w1 _)).mono (by omega)
      have HZ := Lib.hid hz; have HO3 := Lib.hid hon3; have HR3 := Lib.hid hr3
      have hrb1 : rb < w1.heap.size := by omega
      clear hr ho hini hon hw1 hz hon3 hr3
      go_wp2_with fail
      go_loopw [10, 11] (fun v i wr => TriesR rb P w1 v i wr) (fun _ i _ => 20 - (intOf i).toNat)
      case atStart => exact ⟨0, 0, Nat.zero_le _, Nat.zero_le _, rfl, HZ.out, HO3.out, HR3.out⟩
      case round =>
        clear HZ HO3 HR3
        obtain ⟨t, m, ht, hm7, rfl, hown, hon, hrd⟩ := hrel
        by_cases hlt : t < 20
        · have HON := Lib.hid hon; have HRD := Lib.hid hrd; have HOWN := Lib.hid hown; clear hon hrd hown
          obtain ⟨a5, c5, hv5⟩ := HOWN.out.slice
          subst hv5
          go_wp2_with fail
          refine (pick_any rb _ 7 (by omega) _ HRD.out).mono ?_
          rintro e w2 ⟨y, rfl, hy, ho2, hr2⟩
          have hy7 : y < 7 := by omega
          have hon2 := HON.out.trans ho2
          have hown2 := HOWN.out.lift ho2 hrb1
          clear HON HRD HOWN hy
          by_cases hmy : m < 1 + y
          · have hd3 : decide ((m : Int) < 1 + (y : Int)) = true := by simp; omega
            have HON := Lib.hid hon2; have HRD := Lib.hid hr2; have HOWN := Lib.hid hown2; clear hon2 hr2 hown2 ho2
            go_wp2_with fail
            refine (pick_any rb _ 15 (by omega) _ HRD.out).mono ?_
            rintro e w3 ⟨z, rfl, hz, ho3, hr3⟩
            have hz15 : z < 15 := by omega
            have hon3 := HON.out.trans ho3
            have hown3 := HOWN.out.lift ho3 hrb1
            have HON3 := Lib.hid hon3; have HRD3 := Lib.hid hr3; have HOWN3 := Lib.hid hown3; clear hon3 hr3 hown3 ho3 HON HRD HOWN hz
            go_wp2_with fail
            go_loop [13, 14] (fun s i => ∃ (k : Nat) (bb : Bool), k ≤ m ∧ i = .int .i64 k ∧ s = .bool bb) (fun _ i => m - (intOf i).toNat)
            case atStart => exact ⟨0, false, Nat.zero_le _, rfl, rfl⟩
            case round =>
              obtain ⟨k, bb, hk, rfl, rfl⟩ := hrel
              by_cases hkm : k < m
              · obtain ⟨g, cp, f, hv, hBg, hgl, _, _, hrow, _, _⟩ := HOWN3.out.shape (by omega)
                injection hv with hv1 hv2 hv3
                subst hv1; subst hv3
                have hc : w3.cell? ⟨g, k, none⟩ = some (.int .i64 (f k)) := by have := hrow k hkm; rwa [Nat.zero_add] at this
                cases bb with
                | true =>
                  go_wp2_with fail
                  go_round
                  case rel => exact ⟨k + 1, _, by omega, by go_num, rfl⟩
                  case measure => simp [intOf]; omega
                | false =>
                  go_wp2_with fail
                  go_round
                  case rel => exact ⟨k + 1, _, by omega, by go_num, rfl⟩
                  case measure => simp [intOf]; omega
              · cases bb with
                | true =>
                  go_wp2_with fail
                  go_roundw
                  case rel => exact ⟨t + 1, m, by omega, hm7, by go_num, HOWN3.out, HON3.out, HRD3.out.mono (by omega)⟩
                  case measure => simp [intOf]; omega
                | false =>
                  have hB := HON3.out.size
                  obtain ⟨xs, hxl, hx64, hrow⟩ := HOWN3.out
                  have HX := Lib.hid hxl; have HO := Lib.hid hrow
                  clear hxl hrow
                  have k1 := Lib.hid (fun (j : Nat) (u : Value) (h : [Value.int .i64 (1 + (z : Int))][j]? = some u) => cell_one_new w3 (.int .i64 (1 + (z : Int))) 3 j u h)
                  have k2 : Hid (∀ u ∈ [Value.int .i64 (1 + (z : Int))], u.oneCell' = true) := Lib.hid (by intro u hu; simp at hu; subst hu; rfl)
                  have k3 : Hid (m + 1 ≤ maxLen) := Lib.hid (by unfold maxLen; omega)
                  have k4 : Hid ((m + 1) * 8 ≤ 140737488355328) := Lib.hid (by omega)
                  have k5 : Hid (w1.heap.size ≤ (w3.alloc (.cells #[.int .i64 (1 + (z : Int))] 3)).heap.size) := Lib.hid (by rw [alloc_size]; omega)
                  go_wp2_with (at_builtin; refine wpList_append_own _ rfl (.tmp 106) (.tmp 108) 23 rfl w1.heap.size 3 i0 (.int .i64 0) 1 8 Tryz.underlying23 hi hz0 hz1 hz2 rfl (by decide) _ _ _ rfl (HO.out.alloc _) ⟨w3.heap.size, 0, none⟩ 1 1 [.int .i64 (1 + (z : Int))] rfl rfl k1.out k2.out k3.out k4.out k5.out ?_)
                  · intro v' w5 hown' hgrow _
                    have hb1 : Below w1.heap.size w3 w5 := ((Below.refl w1.heap.size w3).alloc hB _).grown hgrow (by show _ ≤ (w3.heap.push _).size; rw [Array.size_push]; omega) (fun q hq => (HO.out.lt q hq).1)
                    have ho1 : OwnI w5 w1.heap.size v' (m + 1) := by
                      have := HX.out; subst this
                      exact own_snoc hx64 (by unfold I64; omega) hown'
                    have HB1 := Lib.hid hb1; have HO1 := Lib.hid ho1
                    clear hown' hgrow hb1 ho1
                    go_wp2_with fail
                    go_roundw
                    case rel => first | exact ⟨t + 1, m + 1, by omega, by omega, by go_num, HO1.out, HON3.out.below_then HB1.out, (HRD3.out.belowB HB1.out hrb1).mono (by omega)⟩ | ((repeat apply Exists.intro); exact ⟨⟨t + 1, m + 1, by omega, by omega, by go_num, HO1.out, HON3.out.below_then HB1.out, (HRD3.out.belowB HB1.out hrb1).mono (by omega)⟩, rfl⟩)
                    case measure => simp [intOf]; omega
          · have hd3 : decide ((m : Int) < 1 + (y : Int)) = false := by simp; omega
            have HON := Lib.hid hon2; have HRD := Lib.hid hr2; have HOWN := Lib.hid hown2; clear hon2 hr2 hown2 ho2
            by_cases hm0 : 0 < m
            · obtain ⟨g, cp, f, hv, hBg, hgl, _, _, hrow, _, _⟩ := HOWN.out.shape (by omega)
              injection hv with hv1 hv2 hv3
              subst hv1; subst hv3
              go_wp2_with fail
              refine (family_any _ 0 _ _ f (by omega) _ hrow hgl).mono ?_
              rintro e w6 ⟨v6, rfl, hown6, hb6⟩
              obtain ⟨a6, c6, rfl⟩ := hown6.slice
              have HOW := Lib.hid hown6; have HB6 := Lib.hid hb6; clear hown6 hb6
              go_wp2_with fail
              go_meet
              exact ⟨m, by omega, by omega, HOW.out.base (by have := HON.out.size; have := HW.out; omega), (HI.out.trans HON.out).trans (Only.of_below HB6.out), (HRD.out.below HB6.out).mono (by omega)⟩
            · exfalso; omega
        · have HON := Lib.hid hon; have HRD := Lib.hid hrd; have HOWN := Lib.hid hown; clear hon hrd hown
          obtain ⟨a5, c5, hv5⟩ := HOWN.out.slice
          subst hv5
          by_cases hm0 : 0 < m
          · obtain ⟨g, cp, f, hv, hBg, hgl, _, _, hrow, _, _⟩ := HOWN.out.shape (by omega)
            injection hv with hv1 hv2 hv3
            subst hv1; subst hv3
            go_wp2_with fail
            refine (family_any _ 0 _ _ f (by omega) _ hrow hgl).mono ?_
            rintro e w6 ⟨v6, rfl, hown6, hb6⟩
            obtain ⟨a6, c6, rfl⟩ := hown6.slice
            have HOW := Lib.hid hown6; have HB6 := Lib.hid hb6; clear hown6 hb6
            go_wp2_with fail
            go_meet
            exact ⟨m, by omega, by omega, HOW.out.base (by have := HON.out.size; have := HW.out; omega), (HI.out.trans HON.out).trans (Only.of_below HB6.out), (HRD.out.below HB6.out).mono (by omega)⟩
          · skip
            have hm00 : m = 0 := by omega
            subst hm00
            go_wp2_with fail
            go_meet
            exact ⟨1, by omega, by omega, HINI.out.lift HON.out hrb, HI.out.trans HON.out, HRD.out.mono (by omega)⟩
    by_cases hx4 : x < 5
    · clear hx6
      have hrd := (hr.below (tab_below w1))
      have hsz := tab_size w1
      have hon2 : Only rb w (tabW w1) := hon.trans (Only.of_below (tab_below w1))
      have htab := fun y hy => tab_own w1 w.heap.size (by omega) y hy
      have HD := Lib.hid hrd; have HO := Lib.hid hon2; have HT := Lib.hid htab; have HZ := Lib.hid hsz; have HW := Lib.hid hw1
      clear hrd hsz hon2 htab hr ho hini hon hw1
      go_wp2_with fail
      refine (pick_any rb _ 7 (by omega) _ HD.out).mono ?_
      rintro e w2 ⟨y, rfl, hy, ho2, hr2⟩
      have hy7 : y < 7 := by omega
      obtain ⟨L, hL1, hL5, hcell, hown⟩ := HT.out y hy7
      have hc2 : w2.cell? ⟨w1.heap.size + 7, y, none⟩ = some (.slice (some ⟨w1.heap.size + y, 0, none⟩) L L) :=
        (World.cell?_of_block (w := tabW w1) (ho2.block _ (by show w1.heap.size + 7 < _; have := HZ.out; omega) (by show w1.heap.size + 7 ≠ _; have := HW.out; omega))).trans hcell
      have hown2 := hown.lift ho2 hrb
      have HOW := Lib.hid hown2; have HY := Lib.hid ho2; have HR2 := Lib.hid hr2
      clear hown hown2 ho2 hr2 hcell hy
      go_wp2_with fail
      go_meet
      exact ⟨L, hL1, by omega, HOW.out, HO.out.trans HY.out, HR2.out.mono (by omega)⟩
    have hrow := lit_row w1 [1, 2, 4, 7, 3, 6, 5] _ rfl 7 (Nat.le_refl _) 3
    have hrd := hr.below (alloc_below w1 (.cells (([1, 2, 4, 7, 3, 6, 5] : List Int).map (Value.int .i64)).toArray 3))
    have hon2 := hon.alloc (.cells (([1, 2, 4, 7, 3, 6, 5] : List Int).map (Value.int .i64)).toArray 3)
    have hsz := alloc_size w1 (.cells (([1, 2, 4, 7, 3, 6, 5] : List Int).map (Value.int .i64)).toArray 3)
    have HR := Lib.hid hrow; have HD := Lib.hid hrd; have HO := Lib.hid hon2; have HZ := Lib.hid hsz; have HW := Lib.hid hw1
    clear hrow hrd hon2 hsz hr ho hini hon hw1
    go_wp2_with fail
    refine (pick_any rb _ 7 (by omega) _ HD.out).mono ?_
    rintro e w2 ⟨y, rfl, hy, ho2, hr2⟩
    have hy7 : y < 7 := by omega
    have HY := Lib.hid ho2; have HY2 := Lib.hid hr2; clear hy ho2 hr2
    go_wp2_with fail
    refine (family_any _ 0 _ _ (fun i => ([1, 2, 4, 7, 3, 6, 5] : List Int).getD i 0) (by omega) _ (fun i hi => (HR.out.only HY.out (by have := HZ.out; omega) (by have := HW.out; omega)) i (by omega)) (by have := HY.out.size; have := HZ.out; omega)).mono ?_
    rintro e w3 ⟨v, rfl, hown, hb⟩
    obtain ⟨a3, c3, rfl⟩ := hown.slice
    have HOW := Lib.hid hown; have HB := Lib.hid hb; clear hown hb
    go_wp2_with fail
    go_meet
    exact ⟨1 + y, by omega, by omega, HOW.out.base (by have := HY.out.size; have := HZ.out; have := HW.out; omega), (HO.out.trans HY.out).trans (Only.of_below HB.out), (HY2.out.below HB.out).mono (by omega)⟩
  case rest =>
    obtain ⟨m, hm1, hm7, hown, hon, hrd⟩ := hcut
    obtain ⟨g, cp, f, hv, hBg, hgl, _, _, hrow, hf64, _⟩ := hown.shape hm1
    subst hv
    clear hown hx6 hw1 hini
    have hz : OwnI (wc.alloc (.cells #[] 3)) w.heap.size (.slice (some ⟨wc.heap.size, 0, none⟩) 0 0) 0 := OwnI.lit wc w.heap.size hon.size [] (fun x hx => by simp at hx) (by decide) _ rfl
    obtain ⟨xs0, hx0, _, hz0'⟩ := hz
    have hxs0 : xs0 = [] := List.length_eq_zero_iff.1 hx0
    subst hxs0
    have HZ := Lib.hid hz0'; clear hz0' hx0
    have k1 := Lib.hid (src_cells (wc.alloc (.cells #[] 3)) g m f (hrow.below (alloc_below wc _) hgl))
    have k2 := Lib.hid (src_one m f)
    have k3 : Hid (0 + m ≤ maxLen) := Lib.hid (by unfold maxLen; omega)
    have k4 : Hid ((0 + m) * 8 ≤ 140737488355328) := Lib.hid (by omega)
    have k5 : Hid (w.heap.size ≤ (wc.alloc (.cells #[] 3)).heap.size) := Lib.hid (by rw [alloc_size]; have := hon.size; omega)
    have k6 : Hid ((src m f).length = m * 1) := Lib.hid (by unfold src; simp)
    have HON := Lib.hid hon; have HRD := Lib.hid hrd; clear hon hrd ho hr
    go_wp2_with (at_builtin; refine wpList_append_own _ rfl (.tmp 129) (.tmp 130) 23 rfl w.heap.size 3 i0 (.int .i64 0) 1 8 Tryz.underlying23 hi hz0 hz1 hz2 rfl (by decide) _ _ _ rfl HZ.out ⟨g, 0, none⟩ m cp (src m f) rfl k6.out k1.out k2.out k3.out k4.out k5.out ?_)
    intro v2 w3 hown' hgrow _
    have hb1 : Below w.heap.size wc w3 := ((Below.refl w.heap.size wc).alloc HON.out.size _).grown hgrow (by have := k5.out; exact this) (fun q hq => (HZ.out.lt q hq).1)
    have ho1 : OwnI w3 w.heap.size v2 m := by
      have h2 := src_own m f hf64 hown'
      exact h2
    have hon3 := HON.out.below_then hb1
    have hrd3 := HRD.out.belowB hb1 hrb
    obtain ⟨g2, cp2, f2, hv2, hBg2, hgl2, _, _, hrow2, hf264, hfr2⟩ := ho1.shape hm1
    subst hv2
    have HOW := Lib.hid ho1; have HO3 := Lib.hid hon3; have HR3 := Lib.hid hrd3
    clear hown' hgrow hb1 ho1 hon3 hrd3 HON HRD HZ k1 k2 k3 k4 k5 k6
    go_wp2_with fail
    refine (odd_any rb _ n hn hn2 (by omega) _ HR3.out).mono ?_
    rintro e w4 ⟨bb, rfl, ho4, hr4⟩
    have hown4 := HOW.out.lift ho4 hrb
    have hon4 := HO3.out.trans ho4
    have HOW4 := Lib.hid hown4; have HO4 := Lib.hid hon4; have HR4 := Lib.hid hr4
    have hrow4 := hrow2.only ho4 hgl2 (by omega)
    have hgl4 : g2 < w4.heap.size := by have := ho4.size; omega
    clear hown4 hon4 hr4 ho4 HOW HO3 HR3
    cases bb with
    | false =>
      go_wp2_with fail
      go_ret
      exact ⟨_, m, rfl, by omega, HOW4.out, HO4.out, HR4.out.mono (by omega)⟩
    | true =>
      have hfr4 : ∀ j, w4.frozen? ⟨g2, j, none⟩ = false := by
        intro j
        obtain ⟨g3, cp3, f3, hv3, _, _, _, _, _, _, hfr3⟩ := HOW4.out.shape hm1
        injection hv3 with h1 h2 h3
        injection h1 with h1
        injection h1 with h1
        subst h1; exact hfr3 j
      have hfr0 := hfr4 0
      have hc0 : w4.cell? ⟨g2, 0, none⟩ = some (.int .i64 (f2 0)) := by have := hrow4 0 (by omega); rwa [Nat.zero_add] at this
      have HF4 := Lib.hid hfr4; clear hfr4
      go_wp2_with fail
      refine (pick_any rb _ 4 (by omega) _ HR4.out).mono ?_
      rintro e w5 ⟨z, rfl, hz5, ho5, hr5⟩
      have hz4 : z < 4 := by omega
      have hown5 := HOW4.out.lift ho5 hrb
      have hon5 := HO4.out.trans ho5
      have hrow5 := hrow4.only ho5 hgl4 (by omega)
      have hc5 : w5.cell? ⟨g2, 0, none⟩ = some (.int .i64 (f2 0)) := by have := hrow5 0 (by omega); rwa [Nat.zero_add] at this
      have hfr5 : w5.frozen? ⟨g2, 0, none⟩ = false := (World.frozen?_of_block (w := w4) (ho5.block g2 hgl4 (by omega))).trans hfr0
      have HOW5 := Lib.hid hown5; have HO5 := Lib.hid hon5; have HR5 := Lib.hid hr5
      have HSZ := Lib.hid hon5.size
      have hgl5 : g2 < w5.heap.size := by have := ho5.size; omega
      clear hown5 hon5 hr5 HOW4 HO4 HR4 hc0 hfr0 hz5
      have HO55 := Lib.hid ho5; clear ho5
      have ⟨hp1, hp2⟩ := pow_bounds m hm7
      by_cases hz1' : z < 1
      · have hq0 : ((z : Int) == 0) = true := by rw [beq_iff_eq]; omega
        go_wp2_with fail
        go_ret
        exact ⟨_, 0, rfl, by omega, OwnI.lit w5 w.heap.size HSZ.out [] (fun x hx => by simp at hx) (by decide) _ rfl, HO5.out.alloc _, (HR5.out.below (alloc_below _ _)).mono (by omega)⟩
      by_cases hz2' : z < 2
      · have hq0 : ((z : Int) == 0) = false := by rw [beq_eq_false_iff_ne]; omega
        have hq1 : ((z : Int) == 1) = true := by rw [beq_iff_eq]; omega
        go_wp2_with fail
        go_ret
        exact ⟨_, m, rfl, by omega, HOW5.out.put I64_zero, HO5.out.fresh hBg2 0 _, (HR5.out.belowB ((Below.refl w.heap.size w5).setCell hBg2 _) hrb).mono (by omega)⟩
      by_cases hz3' : z < 3
      · have hq0 : ((z : Int) == 0) = false := by rw [beq_eq_false_iff_ne]; omega
        have hq1 : ((z : Int) == 1) = false := by rw [beq_eq_false_iff_ne]; omega
        have hq2 : ((z : Int) == 2) = true := by rw [beq_iff_eq]; omega
        have hm0 : (0 : Int) < (m : Int) := by omega
        go_wp2_with fail
        have HR5d := Lib.hid (HR5.out.below ((Below.refl w5.heap.size w5).drew))
        have HOd := Lib.hid (Only.of_below (rb := rb) ((Below.refl w5.heap.size w5).drew))
        go_cut [] (fun wx => PutW rb P w g2 cp2 m wx)
        case first =>
          go_region_with ((go_at_call 13; refine (pick_any rb _ m (by omega) _ HR5d.out).mono ?_; rintro e w6 ⟨q, rfl, hq, ho60, hr6⟩; have ho6 := HOd.out.trans ho60; clear ho60; have hqm : q < m := (by omega); have hc6 : w6.cell? ⟨g2, q, none⟩ = some (.int .i64 (f2 q)) := (by have := (hrow5.only ho6 hgl5 (by omega)) q hqm; rwa [Nat.zero_add] at this); have hfr6 : w6.frozen? ⟨g2, q, none⟩ = false := ((World.frozen?_of_block (w := w5) (ho6.block g2 hgl5 (by omega))).trans ((World.frozen?_of_block (w := w4) (HO55.out.block g2 hgl4 (by omega))).trans (HF4.out q))); have HO6 := Lib.hid ho6; have HR6 := Lib.hid hr6; clear ho6 hr6 hq))
          all_goals (go_wp2_with fail; go_meet; exact ⟨(HOW5.out.lift HO6.out hrb).put (wrap_I64 _), (HO5.out.trans HO6.out).fresh hBg2 q _, (HR6.out.belowB ((Below.refl w.heap.size w6).setCell hBg2 _) hrb).mono (by omega)⟩)
        case rest =>
          rename_i wq
          obtain ⟨hownq, honq, hrdq⟩ := hcut
          obtain ⟨g3, cp3, f3, hv3, _, _, _, _, hrow3, _, hfr3⟩ := hownq.shape hm1
          injection hv3 with h1 h2 h3
          injection h1 with h1
          injection h1 with h1
          subst h1; subst h3
          have hcq := hrow3 0 (by omega)
          rw [Nat.zero_add] at hcq
          have hfrq := hfr3 0
          have HWQ := Lib.hid hownq; have HOQ := Lib.hid honq; have HRQ := Lib.hid hrdq
          clear hownq honq hrdq hrow3 hfr3
          go_wp2_with fail
          go_ret
          refine ⟨_, m, rfl, by omega, ?_, HOQ.out.fresh hBg2 0 _, (HRQ.out.belowB (Below.setCell (Below.refl w.heap.size _) hBg2 _) hrb).mono (by omega)⟩
          refine HWQ.out.put ?_
          first
            | exact wrap_I64 _
            | (unfold I64; omega)
      · have hq0 : ((z : Int) == 0) = false := by rw [beq_eq_false_iff_ne]; omega
        have hq1 : ((z : Int) == 1) = false := by rw [beq_eq_false_iff_ne]; omega
        have hq2 : ((z : Int) == 2) = false := by rw [beq_eq_false_iff_ne]; omega
        obtain ⟨xs, hxl, hx64, hrw⟩ := HOW5.out
        have HX := Lib.hid hxl; have HO := Lib.hid hrw
        clear hxl hrw
        have k1 := Lib.hid (fun (j : Nat) (u : Value) (h : [Value.int .i64 1][j]? = some u) => cell_one_new w5 (.int .i64 1) 3 j u h)
        have k2 : Hid (∀ u ∈ [Value.int .i64 1], u.oneCell' = true) := Lib.hid (by intro u hu; simp at hu; subst hu; rfl)
        have k3 : Hid (m + 1 ≤ maxLen) := Lib.hid (by unfold maxLen; omega)
        have k4 : Hid ((m + 1) * 8 ≤ 140737488355328) := Lib.hid (by omega)
        have k5 : Hid (w.heap.size ≤ (w5.alloc (.cells #[.int .i64 1] 3)).heap.size) := Lib.hid (by rw [alloc_size]; have := HSZ.out; omega)
        go_wp2_with (at_builtin; refine wpList_append_own _ rfl (.tmp 137) (.tmp 138) 23 rfl w.heap.size 3 i0 (.int .i64 0) 1 8 Tryz.underlying23 hi hz0 hz1 hz2 rfl (by decide) _ _ _ rfl (HO.out.alloc _) ⟨w5.heap.size, 0, none⟩ 1 1 [.int .i64 1] rfl rfl k1.out k2.out k3.out k4.out k5.out ?_)
        intro v' w6 hown' hgrow _
        have hb1 : Below w.heap.size w5 w6 := ((Below.refl w.heap.size w5).alloc HSZ.out _).grown hgrow k5.out (fun q hq => (HO.out.lt q hq).1)
        have ho1 : OwnI w6 w.heap.size v' (m + 1) := by
          have := HX.out; subst this
          exact own_snoc hx64 (by unfold I64; omega) hown'
        have HB1 := Lib.hid hb1; have HO1 := Lib.hid ho1
        clear hown' hgrow hb1 ho1
        go_wp2_with fail
        go_ret
        exact ⟨_, m + 1, rfl, by omega, HO1.out, HO5.out.below_then HB1.out, (HR5.out.belowB HB1.out hrb).mono (by omega)⟩
end Go.Proofs.YtdlafcioopclhaaGreat

namespace Go.Proofs.YtdlafcioopclhaaGreat
open Go.RowKit

theorem OwnI.ints {w : World} {B n : Nat} {v : Value} (h : OwnI w B v n) (hn : n ≤ 1000) : ∃ (a : Option Addr) (cap : Nat) (f : Nat → Int), v = .slice a n cap ∧ Ints w a n f ∧ (1 ≤ n → n ≤ cap ∧ cap ≤ 9223372036854775807) := by
  by_cases h1 : 1 ≤ n
  · obtain ⟨g, cap, f, hv, _, hlt, hc1, hc2, hr, h64, _⟩ := h.shape h1
    exact ⟨_, cap, f, hv, ⟨⟨by omega, h64⟩, .inr ⟨g, 0, rfl, hlt, hr⟩⟩, fun _ => ⟨hc1, hc2⟩⟩
  · obtain ⟨a, cap, hv⟩ := h.slice
    exact ⟨a, cap, fun _ => 0, hv, ⟨⟨by omega, fun i hi => by omega⟩, .inl (by omega)⟩, fun h => absurd h h1⟩

/-- a world and two numbers are drawn -/
def DrawnTwo (rb : Nat) (w : World) (e : Ending) (w' : World) : Prop :=
  ∃ (v : Value) (m : Nat) (x y : Int), e = .returned (.tuple #[v, .int .i64 x, .int .i64 y]) ∧ m ≤ 8 ∧ I64 x ∧ I64 y ∧ OwnI w' w.heap.size v m ∧ Only rb w w'

/-- what a draw of a world gives the law -/
def DrawnOne (w : World) (e : Ending) (w' : World) : Prop :=
  ∃ (a : Option Addr) (m cap : Nat) (f : Nat → Int), e = .returned (.slice a m cap) ∧ m ≤ 8 ∧ Ints w' a m f ∧ Below w.heap.size w w' ∧ (1 ≤ m → m ≤ cap ∧ cap ≤ 9223372036854775807)

def DrawnThree (w : World) (e : Ending) (w' : World) : Prop :=
  ∃ (a : Option Addr) (m cap : Nat) (f : Nat → Int) (x y : Int), e = .returned (.tuple #[.slice a m cap, .int .i64 x, .int .i64 y]) ∧ m ≤ 8 ∧ I64 x ∧ I64 y ∧ Ints w' a m f ∧ Below w.heap.size w w'

def DrawnPair (w : World) (e : Ending) (w' : World) : Prop :=
  ∃ (a : Option Addr) (m cap : Nat) (f : Nat → Int) (x : Int), e = .returned (.tuple #[.slice a m cap, .int .i64 x]) ∧ m ≤ 8 ∧ I64 x ∧ Ints w' a m f ∧ Below w.heap.size w w'

end Go.Proofs.YtdlafcioopclhaaGreat

namespace Go.Proofs.YtdlafcioopclhaaGreat
open Go.RowKit

theorem WorldOk_val (a : Option Addr) (n cap : Nat) (f : Nat → Int) (v : Bool) (w : World) (hv : worldB n f = v) (hi : Ints w a n f) :
    Calls Tryz.prog 27 #[.slice a n cap] w fun e w' => e = .returned (.bool v) ∧ Below w.heap.size w w' := by
  subst hv; exact WorldOk_any a n cap f w hi
theorem lit_ints (w : World) (xs : List Int) (h : ∀ x ∈ xs, I64 x) (hl : xs.length ≤ 1000) (cs : Array Value) (hcs : cs = (xs.map (Value.int .i64)).toArray) (t : TypeId) :
    Ints (w.alloc (.cells cs t)) (some ⟨w.heap.size, 0, none⟩) xs.length (fun i => xs.getD i 0) := by
  refine ⟨⟨by omega, ?_⟩, .inr ⟨w.heap.size, 0, rfl, by rw [alloc_size]; omega, lit_row w xs cs hcs xs.length (Nat.le_refl _) t⟩⟩
  intro i hi
  show I64 (xs.getD i 0)
  rw [List.getD_eq_getElem?_getD, List.getElem?_eq_getElem hi]
  exact h _ (List.getElem_mem _)

theorem world_1 : worldB 1 (fun i => ([1] : List Int).getD i 0) = true := by decide
theorem world_0 : worldB 1 (fun i => ([0] : List Int).getD i 0) = false := by decide

set_option maxHeartbeats 800000 in
theorem alive_any (w : World) : Calls Tryz.prog 8 #[] w (TrueEnd w) := by
  have hi1 := lit_ints w [1] (small_I64 (by decide)) (by decide) _ rfl 3
  have hb0 := alloc_below w (.cells (([1] : List Int).map (Value.int .i64)).toArray 3)
  go_enter Tryz.func8, Tryz.ntmps8
  go_wp2_with fail
  refine (WorldOk_val _ 1 1 (fun i => ([1] : List Int).getD i 0) true _ world_1 hi1).mono ?_
  rintro e w1 ⟨rfl, hb1⟩
  have hbb : Below w.heap.size w w1 := hb0.trans (hb1.mono (by rw [alloc_size]; omega))
  have hi2 := lit_ints w1 [0] (small_I64 (by decide)) (by decide) _ rfl 3
  have hb2 := alloc_below w1 (.cells (([0] : List Int).map (Value.int .i64)).toArray 3)
  clear hi1 hb0 hb1
  go_wp2_with fail
  refine (WorldOk_val _ 1 1 (fun i => ([0] : List Int).getD i 0) false _ world_0 hi2).mono ?_
  rintro e w2 ⟨rfl, hb3⟩
  have hbc : Below w.heap.size w w2 := (hbb.trans (hb2.mono hbb.size)).trans (hb3.mono (by rw [alloc_size]; have := hbb.size; omega))
  clear hi2 hb2 hb3 hbb
  go_wp2_with fail
  go_ret
  exact ⟨rfl, hbc⟩

/-- bytes that came in, as the shell of a proof says it -/
theorem bytes_of {w : World} {a : Option Addr} {len cap : Nat} {zs : List Int} (h : (a = none ∧ len = 0 ∧ cap = 0 ∧ zs = []) ∨
    ∃ x, a = some x ∧ len ≤ cap ∧ cap ≤ maxLen ∧ zs.length = cap ∧ (∀ i, i < zs.length → w.cell? (x.add i) = some (.int .u8 (zs.getD i 0))) ∧ ∀ n ∈ zs, (Lit.int .u8 n).wf = true) :
    BytesIn w a len cap := by
  rcases h with ⟨rfl, rfl, rfl, rfl⟩ | ⟨x, rfl, hl, hm, hz, hc, hwf⟩
  · exact ⟨Nat.le_refl _, by omega, .inl rfl⟩
  · unfold maxLen at hm
    refine ⟨hl, by omega, ?_⟩
    by_cases h0 : len = 0
    · exact .inl h0
    · right
      obtain ⟨b, o, rfl, hcell⟩ := ints_at hc (by omega)
      have h1 := hcell 0 (by omega)
      refine ⟨b, o, fun i => zs.getD i 0, rfl, World.block_lt_of_cell? w _ h1, fun i hi => ⟨hcell i (by omega), ?_⟩⟩
      have hm2 : zs.getD i 0 ∈ zs := by
        rw [List.getD_eq_getElem?_getD, List.getElem?_eq_getElem (by omega : i < zs.length)]
        exact List.getElem_mem _
      exact bounds_u8 (hwf _ hm2)

theorem BytesIn.len {w : World} {a : Option Addr} {n cap : Nat} (h : BytesIn w a n cap) : n ≤ 9223372036854775807 := Nat.le_trans h.1 h.2.1

theorem proper_self (n : Nat) (f : Nat → Int) (x : Int) : properB n f x x = false := by
  unfold properB; rw [decide_eq_false (fun h => h rfl)]; simp
theorem proper_part {n : Nat} {f : Nat → Int} {x y : Int} (h : properB n f x y = true) : partB n f x y = true := by
  unfold properB at h; rw [Bool.and_eq_true] at h; exact h.1
theorem part_facts {n : Nat} {f : Nat → Int} {x y : Int} (h : partB n f x y = true) : worldB n f = true ∧ (0 ≤ x ∧ x < n) ∧ (0 ≤ y ∧ y < n) ∧ hasB (f y.toNat) x.toNat = true := by
  unfold partB at h; rw [Bool.and_eq_true, good2_iff] at h; exact ⟨h.1.1, h.1.2.1, h.1.2.2, h.2⟩
theorem part_anti {n : Nat} {f : Nat → Int} (h64 : ∀ i, i < n → I64 (f i)) {x y : Int} (h : partB n f x y = true) (hne : x ≠ y) : partB n f y x = false := by
  obtain ⟨hw, hx, hy, hh⟩ := part_facts h
  have hP := (worldB_iff n f h64).1 hw
  have h2 := hP.anti y.toNat (by omega) x.toNat (by omega) (by omega) hh
  unfold partB; rw [h2]; simp
theorem proper_anti {n : Nat} {f : Nat → Int} (h64 : ∀ i, i < n → I64 (f i)) {x y : Int} (h : properB n f x y = true) : properB n f y x = false := by
  have hne : x ≠ y := by
    intro e; subst e; rw [proper_self] at h; cases h
  unfold properB; rw [part_anti h64 (proper_part h) hne]; rfl

end Go.Proofs.YtdlafcioopclhaaGreat
