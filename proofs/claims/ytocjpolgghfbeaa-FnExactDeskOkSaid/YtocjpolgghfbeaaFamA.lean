import Derived.Test.YtocjpolgghfbeaaFamM
import Derived.Test.YtocjpolgghfbeaaClass
import Derived.Laws.IdiomCopy
import Derived.Laws.Externs
import Derived.Lib.Overlaps
import Derived.Lib.AppendZerosOnto
import Derived.Lib.Walk
import Derived.Deep.RegionLaw
namespace Go.Proofs.Ytocjpolgghfbeaa
open Go.RowKit Go.Maps

/-! ### what has turned -/

/-- nothing but the blocks of F has turned -/
structure Upon (F : Nat → Prop) (w w' : World) : Prop where
  os : w'.os = w.os
  tape : w'.tape = w.tape
  output : w'.output = w.output
  size : w.heap.size ≤ w'.heap.size
  block : ∀ k, k < w.heap.size → ¬ F k → w'.heap[k]? = w.heap[k]?

theorem Upon.refl (F : Nat → Prop) (w : World) : Upon F w w := ⟨rfl, rfl, rfl, Nat.le_refl _, fun _ _ _ => rfl⟩
theorem Upon.trans {F G : Nat → Prop} {a b c : World} (h : Upon F a b) (k : Upon G b c) (hG : ∀ i, i < a.heap.size → G i → F i) : Upon F a c :=
  ⟨k.os.trans h.os, k.tape.trans h.tape, k.output.trans h.output, Nat.le_trans h.size k.size, fun i hi hn => (k.block i (Nat.lt_of_lt_of_le hi h.size) (fun e => hn (hG i hi e))).trans (h.block i hi hn)⟩
theorem Upon.mono {F G : Nat → Prop} {a b : World} (h : Upon F a b) (hG : ∀ i, i < a.heap.size → F i → G i) : Upon G a b := ⟨h.os, h.tape, h.output, h.size, fun i hi hn => h.block i hi (fun e => hn (hG i hi e))⟩
theorem Upon.of_below {F : Nat → Prop} {w w' : World} (h : Below w.heap.size w w') : Upon F w w' := ⟨h.os, h.tape, h.output, h.size, fun k hk _ => h.block k hk⟩
theorem Upon.of_grown {w w' : World} {r : Option Nat} (h : w.grownBy w' r) : Upon (fun k => r = some k) w w' := ⟨h.os, h.tape, h.output, h.size, fun k hk hn => h.block k hk (fun e => hn e.symm)⟩
theorem Upon.of_only {rb : Nat} {w w' : World} (h : Only rb w w') : Upon (fun k => k = rb) w w' := ⟨h.os, h.tape, h.output, h.size, fun k hk hn => h.block k hk hn⟩
theorem Upon.below {F : Nat → Prop} {w w' : World} (h : Upon F w w') {B : Nat} (hF : ∀ k, F k → B ≤ k) (hB : B ≤ w.heap.size) : Below B w w' :=
  ⟨h.os, h.tape, h.output, h.size, fun k hk => h.block k (by omega) (fun e => by have := hF k e; omega)⟩
theorem Upon.cell {F : Nat → Prop} {w w' : World} (h : Upon F w w') {a : Addr} {v : Value} (hc : w.cell? a = some v) (hn : ¬ F a.block) : w'.cell? a = some v :=
  (World.cell?_of_block (h.block a.block (World.block_lt_of_cell? w a hc) hn)).trans hc
theorem Upon.row {F : Nat → Prop} {w w' : World} (h : Upon F w w') {b o n : Nat} {f : Nat → Int} (hr : Row w b o n f) (hn : ¬ F b) : Row w' b o n f := fun i hi => h.cell (hr i hi) hn
theorem Upon.frozen {F : Nat → Prop} {w w' : World} (h : Upon F w w') {a : Addr} (hl : a.block < w.heap.size) (hn : ¬ F a.block) : w'.frozen? a = w.frozen? a := World.frozen?_of_block (h.block a.block hl hn)
theorem Upon.ownX {F : Nat → Prop} {w w' : World} (h : Upon F w w') {B : Nat} {t : TypeId} {v : Value} {xs : List Int} (ho : OwnX w B t v xs) (hn : ∀ g, v.ownBlock = some g → ¬ F g) : OwnX w' B t v xs :=
  ho.other (fun g hg _ hl => h.block g hl (hn g hg))
theorem Upon.put {F : Nat → Prop} {w w' : World} (h : Upon F w w') {b : Nat} (hb : F b) (i : Nat) (v : Value) : Upon F w (w'.setCell ⟨b, i, none⟩ v) :=
  ⟨h.os, h.tape, h.output, by simp [World.setCell]; exact h.size, fun k hk hn => (Below.heap_setCell w' ⟨b, i, none⟩ v k (by show k ≠ b; intro e; subst e; exact hn hb)).trans (h.block k hk hn)⟩
theorem Upon.puts {F : Nat → Prop} {w : World} {b : Nat} (hb : F b) : ∀ (vs : List Value) (i : Nat) {w' : World}, Upon F w w' → Upon F w (w'.setCells b i vs)
  | [], _, _, h => h
  | v :: r, i, _, h => Upon.puts hb r (i + 1) (h.put hb i v)
theorem Upon.drew {F : Nat → Prop} {w w' : World} (h : Upon F w w') : Upon F w w'.drew := ⟨h.os, h.tape, h.output, h.size, h.block⟩
theorem Upon.alloc {F : Nat → Prop} {w w' : World} (h : Upon F w w') (o : Obj) : Upon F w (w'.alloc o) :=
  ⟨h.os, h.tape, h.output, by rw [alloc_size]; have := h.size; omega, fun k hk hn => ((alloc_below w' o).block k (Nat.lt_of_lt_of_le hk h.size)).trans (h.block k hk hn)⟩

theorem OwnX.lt {w : World} {B : Nat} {t : TypeId} {v : Value} {xs : List Int} (h : OwnX w B t v xs) {g : Nat} (hg : v.ownBlock = some g) : B ≤ g ∧ g < w.heap.size := World.ownsRow.lt h g hg

/-! ### a row whose cells are set -/

theorem blockCells_set {w : World} {g : Nat} {t : TypeId} {cur : Array Value} (h : w.heap[g]? = some (.cells cur t (0, 0))) (i : Nat) (v : Value) :
    ∃ cur', (w.setCell ⟨g, i, none⟩ v).heap[g]? = some (.cells cur' t (0, 0)) ∧ cur'.size = cur.size := by
  refine ⟨cur.setIfInBounds i v, ?_, by simp⟩
  simp [World.setCell, Array.getElem?_modify, h]
theorem blockCells_sets {g : Nat} {t : TypeId} : ∀ (vs : List Value) (i : Nat) {w : World} {cur : Array Value}, w.heap[g]? = some (.cells cur t (0, 0)) → ∃ cur', (w.setCells g i vs).heap[g]? = some (.cells cur' t (0, 0)) ∧ cur'.size = cur.size
  | [], _, _, cur, h => ⟨cur, h, rfl⟩
  | v :: r, i, _, _, h => by
    obtain ⟨c1, h1, h2⟩ := blockCells_set h i v
    obtain ⟨c2, h3, h4⟩ := blockCells_sets r (i + 1) h1
    exact ⟨c2, h3, h4.trans h2⟩
/-- a row is one's own if its block is known and its cells hold the list -/
theorem OwnX.of_cells {w : World} {B g cap : Nat} {t : TypeId} {cur : Array Value} {xs : List Int} (hg : w.heap[g]? = some (.cells cur t (0, 0))) (hsz : cur.size = cap) (hB : B ≤ g) (hl : xs.length ≤ cap) (hc : cap ≤ maxLen)
    (h : ∀ i, i < xs.length → w.cell? ⟨g, i, none⟩ = some (.int .i64 (xs.getD i 0))) : OwnX w B t (.slice (some ⟨g, 0, none⟩) xs.length cap) xs := by
  refine ⟨by simp, .inr ⟨g, cap, cur, rfl, hB, hg, hl, hc, by omega, ?_⟩⟩
  apply List.ext_getElem?
  intro i
  rw [List.getElem?_take]
  by_cases hi : i < xs.length
  · rw [if_pos (by omega)]
    have := h i hi
    rw [cell_of_row w g i cur t (0, 0) hg] at this
    rw [Array.getElem?_toList, this, List.getElem?_map, List.getD_eq_getElem?_getD, List.getElem?_eq_getElem hi]
    rfl
  · rw [if_neg (by omega), List.getElem?_eq_none (by simp; omega)]

/-- what lies in one's own row, and that it may be written -/
theorem OwnX.room {w : World} {B : Nat} {t : TypeId} {v : Value} {xs : List Int} (h : OwnX w B t v xs) (h1 : 1 ≤ xs.length) :
    ∃ g cap cur, v = .slice (some ⟨g, 0, none⟩) xs.length cap ∧ B ≤ g ∧ g < w.heap.size ∧ xs.length ≤ cap ∧ cap ≤ 9223372036854775807 ∧ w.heap[g]? = some (.cells cur t (0, 0)) ∧ cur.size = cap ∧
      (∀ j, j < cap → (w.cell? ⟨g, j, none⟩).isSome = true) ∧ (∀ j, w.frozen? ⟨g, j, none⟩ = false) ∧ (∀ i, i < xs.length → w.cell? ⟨g, i, none⟩ = some (.int .i64 (xs.getD i 0))) := by
  obtain ⟨g0, c0, hv0, _, _, _, _, hrow, hfz⟩ := h.shape h1
  have hlt := World.ownsRow.lt h
  obtain ⟨h3, h4⟩ := h
  rcases h4 with ⟨_, h4⟩ | ⟨g, cap, cur, hv, hB, hg, hc, hm, hs, ht⟩
  · omega
  · subst hv
    injection hv0 with e1 e2 e3
    injection e1 with e1; injection e1 with e1
    subst e1; subst e3
    unfold maxLen at hm
    refine ⟨g, cap, cur, rfl, hB, (hlt g rfl).2, hc, hm, hg, by omega, fun j hj => ?_, hfz, fun i hi => ?_⟩
    · rw [cell_of_row w g j cur t (0, 0) hg, Array.getElem?_eq_getElem (by omega)]; rfl
    · have := hrow i hi; rwa [Nat.zero_add] at this

/-! ### the library's search -/

set_option maxHeartbeats 800000 in
theorem isNaN_any (x : Int) (w : World) : Calls Try.prog 125 #[.int .i64 x] w fun e w' => e = .returned (.bool false) ∧ w = w' := by
  go_enter Try.func125, Try.ntmps125
  go_wp2
  go_ret
  exact ⟨by simp, rfl⟩
set_option maxHeartbeats 800000 in
theorem slIsNaN_any (x : Int) (w : World) : Calls Try.prog 114 #[.int .i64 x] w fun e w' => e = .returned (.bool false) ∧ w = w' := by
  go_enter Try.func114, Try.ntmps114
  go_wp2
  go_ret
  exact ⟨by simp, rfl⟩
set_option maxHeartbeats 800000 in
theorem less_any (x y : Int) (v : Bool) (hv : decide (x < y) = v) (w : World) : Calls Try.prog 113 #[.int .i64 x, .int .i64 y] w fun e w' => e = .returned (.bool v) ∧ w = w' := by
  have HV := Lib.hid hv; clear hv
  go_enter Try.func113, Try.ntmps113
  go_wp2_with (go_at_call 125; refine (isNaN_any _ _).mono ?_; rintro e w' ⟨rfl, rfl⟩)
  go_ret
  exact ⟨retb HV.out, rfl⟩

/-- a place and whether it is there are handed back -/
def PlaceEnd (p : Nat) (v : Bool) (w : World) (e : Ending) (w' : World) : Prop := e = .returned (.tuple #[.int .i64 p, .bool v]) ∧ Drew w w'

set_option maxRecDepth 100000 in
set_option maxHeartbeats 3200000 in
theorem search_any (g n cap p : Nat) (f : Nat → Int) (x : Int) (v : Bool) (hp : p ≤ n) (hn : n ≤ 1000) (w : World) (hr : Row w g 0 n f) (hlo : ∀ i, i < p → f i < x) (hhi : ∀ i, p ≤ i → i < n → x ≤ f i) (hv : (decide (p < n) && (f p == x)) = v) :
    Calls Try.prog 94 #[.slice (some ⟨g, 0, none⟩) n cap, .int .i64 x] w (PlaceEnd p v w) := by
  have HLO := Lib.hid hlo; have HHI := Lib.hid hhi; have HR := Lib.hid hr; have HV := Lib.hid hv
  clear hlo hhi hr hv
  go_enter Try.func94, Try.ntmps94
  go_wp2_with fail
  go_loopw [7, 8] (fun s7 s8 wr => ∃ lo hi : Nat, s7 = .int .i64 lo ∧ s8 = .int .i64 hi ∧ lo ≤ p ∧ p ≤ hi ∧ hi ≤ n ∧ Drew w wr) (fun s7 s8 _ => (intOf s8).toNat - (intOf s7).toNat)
  case atStart => exact ⟨0, n, rfl, rfl, Nat.zero_le _, hp, Nat.le_refl _, Drew.refl _⟩
  case round =>
    obtain ⟨lo, hi, rfl, rfl, hlp, hph, hhn, hd⟩ := hrel
    have hr := row_drew HR.out hd
    have HD := Lib.hid hd; clear hd
    by_cases hlt : lo < hi
    · obtain ⟨m, hm⟩ : ∃ m, (lo + hi) / 2 = m := ⟨_, rfl⟩
      have hm1 : lo ≤ m := by omega
      have hm2 : m < hi := by omega
      have hmi : ((lo : Int) + (hi : Int)) / 2 = (m : Int) := by omega
      have hmn : m < n := by omega
      have hc := hr m hmn
      rw [Nat.zero_add] at hc
      have hli : (lo : Int) < (hi : Int) := by omega
      have HM := Lib.hid hmi
      clear hmi
      have hmd : ((lo : Int) + (hi : Int)) / 2 = (m : Int) := HM.out
      clear hr
      by_cases hmp : m < p
      · have HLS := Lib.hid (show decide (f m < x) = true from decide_eq_true (HLO.out m hmp))
        go_wp2_with (go_at_call 113; refine (less_any _ _ true HLS.out _).mono ?_; rintro e w' ⟨rfl, rfl⟩)
        go_roundw
        case rel => exact ⟨m + 1, hi, by go_num, rfl, by omega, hph, hhn, by first | exact HD.out | exact HD.out.more _⟩
        case measure => simp [intOf]; omega
      · have HLS := Lib.hid (show decide (f m < x) = false from decide_eq_false (by have := HHI.out m (by omega) hmn; omega))
        go_wp2_with (go_at_call 113; refine (less_any _ _ false HLS.out _).mono ?_; rintro e w' ⟨rfl, rfl⟩)
        go_roundw
        case rel => exact ⟨lo, m, rfl, by go_num, hlp, by omega, by omega, by first | exact HD.out | exact HD.out.more _⟩
        case measure => simp [intOf]; omega
    · have e1 : lo = p := by omega
      have e2 : hi = p := by omega
      subst e1; subst e2
      have hli : ¬ ((hi : Int) < (hi : Int)) := by omega
      by_cases hpn : hi < n
      · have hc := hr hi hpn
        rw [Nat.zero_add] at hc
        have hpi : (hi : Int) < (n : Int) := by omega
        have hdp : decide (hi < n) = true := decide_eq_true hpn
        clear hr
        obtain ⟨y, hy⟩ : ∃ y, f hi = y := ⟨_, rfl⟩
        rw [hy] at hc
        have HY := Lib.hid hy; clear hy
        by_cases hxy : y = x
        · subst hxy
          have HF := Lib.hid (show v = true by rw [← HV.out, hdp, HY.out]; simp)
          have hxb : (y == y) = true := by simp
          clear hdp
          go_wp2_with (go_at_call 114; refine (slIsNaN_any _ _).mono ?_; rintro e w' ⟨rfl, rfl⟩)
          go_ret2
          exact ⟨by first | rfl | (rw [HF.out]; rfl), by first | exact HD.out | exact HD.out.more _⟩
        · have HF := Lib.hid (show v = false by rw [← HV.out, hdp, HY.out]; simp [hxy])
          have hxb : (y == x) = false := by rw [beq_eq_false_iff_ne]; exact hxy
          clear hdp
          go_wp2_with (go_at_call 114; refine (slIsNaN_any _ _).mono ?_; rintro e w' ⟨rfl, rfl⟩)
          go_ret2
          exact ⟨by first | rfl | (rw [HF.out]; rfl), by first | exact HD.out | exact HD.out.more _⟩
      · have hpi : ¬ ((hi : Int) < (n : Int)) := by omega
        have HF := Lib.hid (show v = false by rw [← HV.out, decide_eq_false hpn, Bool.false_and])
        clear hr
        go_wp2_with fail
        go_ret2
        exact ⟨by first | rfl | (rw [HF.out]; rfl), by first | exact HD.out | exact HD.out.more _⟩
end Go.Proofs.Ytocjpolgghfbeaa
