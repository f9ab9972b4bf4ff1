import Derived.Test.YthaickihoagnmaaGreatDoorQD4
import Derived.Maps.AppendAt
import Derived.Maps.Own
import Derived.Maps.OwnOps
import Derived.Laws.IdiomCopy
import Derived.Laws.Externs
import Derived.Lib.Overlaps
import Derived.Lib.AppendZerosOnto
import Derived.Lib.Walk
import Derived.Deep.RegionLaw
import Derived.Laws.NewBlocks
import Derived.Deep.RegionHeld3
import Derived.Lib.SliceRun
set_option linter.unusedVariables false
set_option linter.unusedSimpArgs false
set_option maxHeartbeats 12800000
namespace Go.Proofs.YthaickihoagnmaaGreatDoor
open Go.RowKit Go.Maps
theorem withinInt_any (x y : Int) (w : World) :
    Calls Tryz.prog 247 #[.int .i64 x, .int .i64 y] w fun e w' => e = .returned (.bool (withinB x y)) ∧ w = w' := by
  go_enter Tryz.func247, Tryz.ntmps247
  go_wp2
  go_ret
  exact ⟨rfl, rfl⟩
theorem withinInt_val (x y : Int) (v : Bool) (w : World) (hv : withinB x y = v) :
    Calls Tryz.prog 247 #[.int .i64 x, .int .i64 y] w fun e w' => e = .returned (.bool v) ∧ w = w' := by subst hv; exact withinInt_any x y w
set_option maxRecDepth 100000 in
theorem partsAmong_any (a : Option Addr) (n cap : Nat) (w : World) :
    Calls Tryz.prog 234 #[.slice a n cap] w fun e w' => e = .returned (.func (.func 246) #[] #[.pointer (some ⟨w.heap.size, 0, none⟩)]) ∧ w' = w.alloc (.cells #[.slice a n cap] 28) := by
  have hmf : ∀ (fn : Fn) (first cap : Array Value) (w : World), (Instr.makeFunc fn first cap).run Tryz.prog w = .ok (.func fn first cap) w := fun _ _ _ _ => rfl
  go_enter Tryz.func234, Tryz.ntmps234
  go_wp2_with fail
  go_ret
  exact ⟨rfl, rfl⟩
set_option maxRecDepth 100000 in
theorem partsC_any (p g o N cap : Nat) (f : Nat → Int) (y : Int) (hN : N ≤ 7) (w : World) (hr : Row w g o N f) (hp : w.cell? ⟨p, 0, none⟩ = some (.slice (some ⟨g, o, none⟩) N cap)) :
    Calls Tryz.prog 246 #[.int .i64 y, .pointer (some ⟨p, 0, none⟩)] w fun e w' => e = .returned (.int .i64 (setOf (fun b => withinB (f b) y) N)) ∧ w = w' := by
  go_enter Tryz.func246, Tryz.ntmps246
  go_wp2_with fail
  go_loopw [4, 9] (fun v i wr => ∃ k : Nat, k ≤ N ∧ i = .int .i64 k ∧ v = .int .i64 (setOf (fun b => withinB (f b) y) k) ∧ w = wr) (fun _ i _ => N - (intOf i).toNat)
  case atStart => exact ⟨0, Nat.zero_le _, rfl, rfl, rfl⟩
  case round =>
    obtain ⟨k, hk, rfl, rfl, rfl⟩ := hrel
    by_cases hlt : k < N
    · have hc := hr k hlt
      have hki : (k : Int) < (N : Int) := by omega
      have ⟨hp1, hp2⟩ := pow_bounds k (by omega)
      cases hg : withinB (f k) y with
      | true =>
        have HS := Lib.hid (setOf_yes (fun b => withinB (f b) y) k hg); have HG := Lib.hid hg; clear hg
        go_wp2_with fail
        refine (withinInt_val _ _ true _ HG.out).mono ?_
        rintro e w' ⟨rfl, rfl⟩
        go_wp2_with fail
        go_roundw
        case rel => exact ⟨k + 1, by omega, by go_num, by rw [HS.out], by first | rfl | trivial⟩
        case measure => simp [intOf]; omega
      | false =>
        have HS := Lib.hid (setOf_no (fun b => withinB (f b) y) k hg); have HG := Lib.hid hg; clear hg
        go_wp2_with fail
        refine (withinInt_val _ _ false _ HG.out).mono ?_
        rintro e w' ⟨rfl, rfl⟩
        go_wp2_with fail
        go_roundw
        case rel => exact ⟨k + 1, by omega, by go_num, by rw [HS.out], by first | rfl | trivial⟩
        case measure => simp [intOf]; omega
    · have hkn : k = N := by omega
      subst hkn
      go_wp2_with fail
      go_ret
      exact ⟨rfl, rfl⟩
set_option maxRecDepth 100000 in
theorem worldAmong_any (g o N cap : Nat) (f : Nat → Int) (hN7 : N ≤ 7) (w : World) (hr : Row w g o N f) (hgl : g < w.heap.size) :
    Calls Tryz.prog 210 #[.slice (some ⟨g, o, none⟩) N cap] w (Gives 3 (rowL (wfF N f) N) w) := by
  obtain ⟨i0, hi, hz0, hz1, hz2⟩ := info_parts Tryz.infoInt
  have HROW := Lib.hid hr; clear hr
  go_enter Tryz.func210, Tryz.ntmps210
  go_wp2_with fail
  refine (partsAmong_any _ _ _ _).mono ?_
  rintro e w2 ⟨rfl, hw2⟩
  have hb2 : Below w.heap.size w w2 := by rw [hw2]; exact alloc_below w _
  have hcell : w2.cell? ⟨w.heap.size, 0, none⟩ = some (.slice (some ⟨g, o, none⟩) N cap) := by rw [hw2]; exact (cell_new w _ _).1
  have hs2 : w2.heap.size = w.heap.size + 1 := by rw [hw2, alloc_size]
  have HB2 := Lib.hid hb2; have HC := Lib.hid hcell; have HS2 := Lib.hid hs2; have HR2 := Lib.hid (HROW.out.below hb2 hgl)
  have HE := Lib.hid (enters_of (P := Tryz.prog) Tryz.func246 (by kernel_rfl) rfl)
  clear hb2 hcell hs2 hw2
  obtain ⟨w3, hmk, hown3, hgr3⟩ := run_make_own (P := Tryz.prog) w2 w2.heap.size 28 3 i0 (.int .i64 0) 1 Tryz.underlying28 hi hz0 hz1 .i64 .i64 N (by rw [hz2]; omega) (by unfold maxLen; omega) (Nat.le_refl _)
  have hb3 : Below w2.heap.size w2 w3 := (Below.refl _ _).grown hgr3 (Nat.le_refl _) (fun q hq => by cases hq)
  have hst : OwnX w3 w2.heap.size 3 (.slice (some ⟨w2.heap.size, 0, none⟩) 0 N) (rowL (wfF N f) 0) := hown3
  have hsb := hb3
  clear hown3 hgr3 hb3
  go_wp2_with fail
  go_loopw [4, 14] (fun v i wr => ∃ k : Nat, k ≤ N ∧ i = .int .i64 k ∧ OwnX wr w2.heap.size 3 v (rowL (wfF N f) k) ∧ Below w2.heap.size w2 wr) (fun _ i _ => N - (intOf i).toNat)
  case atStart => exact ⟨0, Nat.zero_le _, rfl, hst, hsb⟩
  case round =>
    clear hst hsb
    obtain ⟨k, hk, rfl, hown, hbel⟩ := hrel
    obtain ⟨a9, c9, rfl⟩ := hown.slice
    by_cases hlt : k < N
    · have hki : (k : Int) < (N : Int) := by omega
      have hgl2 : g < w2.heap.size := by have := HS2.out; omega
      have hpl2 : w.heap.size < w2.heap.size := by have := HS2.out; omega
      have hr := HR2.out.below hbel hgl2
      have hc := hr k hlt
      have hcp : wr.cell? ⟨w.heap.size, 0, none⟩ = some (.slice (some ⟨g, o, none⟩) N cap) := (hbel.cell (p := ⟨w.heap.size, 0, none⟩) hpl2).trans HC.out
      have HR := Lib.hid hr; have HCP := Lib.hid hcp
      have HS := Lib.hid (rowL_succ (wfF N f) k)
      have HL := Lib.hid (show (rowL (wfF N f) k).length ≤ 1000 by rw [rowL_len]; omega)
      have HSZ := Lib.hid hbel.size; have HB := Lib.hid hbel
      have HO : Hid (wr.ownsRow w2.heap.size 3 1 (.slice a9 (rowL (wfF N f) k).length c9) (rowL (wfF N f) k).length ((rowL (wfF N f) k).map (Value.int .i64))) := Lib.hid hown
      clear hown hbel hr hcp
      have hen := HE.out
      go_wp2_with fail
      refine (partsC_any _ g o N cap f _ hN7 _ HR.out HCP.out).mono ?_
      rintro e w' ⟨rfl, rfl⟩
      have k1 := Lib.hid (fun (j : Nat) (u : Value) (h : [Value.int .i64 (setOf (fun b => withinB (f b) (f k)) N)][j]? = some u) => cell_one_new wr (.int .i64 (setOf (fun b => withinB (f b) (f k)) N)) 3 j u h)
      have k2 : Hid (∀ u ∈ [Value.int .i64 (setOf (fun b => withinB (f b) (f k)) N)], u.oneCell' = true) := Lib.hid (by intro u hu; simp at hu; subst hu; rfl)
      have k3 : Hid ((rowL (wfF N f) k).length + 1 ≤ maxLen) := Lib.hid (by have := HL.out; unfold maxLen; omega)
      have k4 : Hid (((rowL (wfF N f) k).length + 1) * 8 ≤ 140737488355328) := Lib.hid (by have := HL.out; omega)
      have k5 : Hid (w2.heap.size ≤ (wr.alloc (.cells #[.int .i64 (setOf (fun b => withinB (f b) (f k)) N)] 3)).heap.size) := Lib.hid (by rw [alloc_size]; have := HSZ.out; omega)
      go_wp2_with (at_builtin; refine wpList_append_own _ rfl (.tmp 18) (.tmp 22) 28 rfl w2.heap.size 3 i0 (.int .i64 0) 1 8 Tryz.underlying28 hi hz0 hz1 hz2 rfl (by decide) _ _ _ rfl (HO.out.alloc _) ⟨wr.heap.size, 0, none⟩ 1 1 [.int .i64 (setOf (fun b => withinB (f b) (f k)) N)] rfl rfl k1.out k2.out k3.out k4.out k5.out ?_)
      intro v' w5 hown' hgrow _
      have hg5 : Below w2.heap.size wr w5 := ((Below.refl w2.heap.size wr).alloc HSZ.out _).grown hgrow (by have := HSZ.out; rw [alloc_size]; omega) (fun q hq => (HO.out.lt q hq).1)
      have ho5 := OwnX.snoc hown'
      clear hown' hgrow k1 k2 k3 k4 k5
      have HO5 := Lib.hid ho5; have HG5 := Lib.hid hg5; clear ho5 hg5
      go_wp2_with fail
      go_roundw
      case rel => exact ⟨k + 1, by omega, by go_num, by rw [HS.out]; exact HO5.out, HB.out.trans HG5.out⟩
      case measure => simp [intOf]; omega
    · have hki : ¬ (k : Int) < (N : Int) := by omega
      have hkn : k = N := by omega
      subst hkn
      have HO := Lib.hid hown; have HB := Lib.hid hbel; clear hown hbel
      go_wp2_with fail
      go_ret
      exact ⟨_, rfl, HO.out.base HB2.out.size, below_onto HB2.out HB.out⟩
structure Upon (F : Nat → Prop) (w w' : World) : Prop where
  os : w'.os = w.os
  tape : w'.tape = w.tape
  output : w'.output = w.output
  size : w.heap.size ≤ w'.heap.size
  block : ∀ k, k < w.heap.size → ¬ F k → w'.heap[k]? = w.heap[k]?
theorem Upon.refl (F : Nat → Prop) (w : World) : Upon F w w := ⟨rfl, rfl, rfl, Nat.le_refl _, fun _ _ _ => rfl⟩
theorem Upon.trans {F G : Nat → Prop} {a b c : World} (h : Upon F a b) (k : Upon G b c) (hG : ∀ i, i < a.heap.size → G i → F i) : Upon F a c :=
  ⟨k.os.trans h.os, k.tape.trans h.tape, k.output.trans h.output, Nat.le_trans h.size k.size, fun i hi hn => (k.block i (Nat.lt_of_lt_of_le hi h.size) (fun e => hn (hG i hi e))).trans (h.block i hi hn)⟩
theorem Upon.mono {F G : Nat → Prop} {a b : World} (h : Upon F a b) (hG : ∀ i, i < a.heap.size → F i → G i) : Upon G a b := ⟨h.os, h.tape, h.output, h.size, fun i hi hn => h.block i hi (fun e => hn (hG i hi e))⟩
theorem Upon.of_below {F : Nat → Prop} {w w' : World} (h : Below w.heap.size w w') : Upon F w w' := ⟨h.os, h.tape, h.output, h.size, fun k hk _ => h.block k hk⟩
theorem Upon.of_grown {w w' : World} {r : Option Nat} (h : w.grownBy w' r) : Upon (fun k => r = some k) w w' := ⟨h.os, h.tape, h.output, h.size, fun k hk hn => h.block k hk (fun e => hn e.symm)⟩
theorem Upon.of_only {rb : Nat} {w w' : World} (h : Only rb w w') : Upon (fun k => k = rb) w w' := ⟨h.os, h.tape, h.output, h.size, fun k hk hn => h.block k hk hn⟩
theorem Upon.below {F : Nat → Prop} {w w' : World} (h : Upon F w w') {B : Nat} (hF : ∀ k, F k → B ≤ k) (hB : B ≤ w.heap.size) : Below B w w' :=
  ⟨h.os, h.tape, h.output, h.size, fun k hk => h.block k (by omega) (fun e => by have := hF k e; omega)⟩
theorem Upon.cell {F : Nat → Prop} {w w' : World} (h : Upon F w w') {a : Addr} {v : Value} (hc : w.cell? a = some v) (hn : ¬ F a.block) : w'.cell? a = some v :=
  (World.cell?_of_block (h.block a.block (World.block_lt_of_cell? w a hc) hn)).trans hc
theorem Upon.row {F : Nat → Prop} {w w' : World} (h : Upon F w w') {b o n : Nat} {f : Nat → Int} (hr : Row w b o n f) (hn : ¬ F b) : Row w' b o n f := fun i hi => h.cell (hr i hi) hn
theorem Upon.frozen {F : Nat → Prop} {w w' : World} (h : Upon F w w') {a : Addr} (hl : a.block < w.heap.size) (hn : ¬ F a.block) : w'.frozen? a = w.frozen? a := World.frozen?_of_block (h.block a.block hl hn)
theorem Upon.ownX {F : Nat → Prop} {w w' : World} (h : Upon F w w') {B : Nat} {t : TypeId} {v : Value} {xs : List Int} (ho : OwnX w B t v xs) (hn : ∀ g, v.ownBlock = some g → ¬ F g) : OwnX w' B t v xs :=
  ho.other (fun g hg _ hl => h.block g hl (hn g hg))
theorem Upon.put {F : Nat → Prop} {w w' : World} (h : Upon F w w') {b : Nat} (hb : F b) (i : Nat) (v : Value) : Upon F w (w'.setCell ⟨b, i, none⟩ v) :=
  ⟨h.os, h.tape, h.output, by simp [World.setCell]; exact h.size, fun k hk hn => (Below.heap_setCell w' ⟨b, i, none⟩ v k (by show k ≠ b; intro e; subst e; exact hn hb)).trans (h.block k hk hn)⟩
theorem Upon.puts {F : Nat → Prop} {w : World} {b : Nat} (hb : F b) : ∀ (vs : List Value) (i : Nat) {w' : World}, Upon F w w' → Upon F w (w'.setCells b i vs)
  | [], _, _, h => h
  | v :: r, i, _, h => Upon.puts hb r (i + 1) (h.put hb i v)
theorem Upon.drew {F : Nat → Prop} {w w' : World} (h : Upon F w w') : Upon F w w'.drew := ⟨h.os, h.tape, h.output, h.size, h.block⟩
theorem Upon.alloc {F : Nat → Prop} {w w' : World} (h : Upon F w w') (o : Obj) : Upon F w (w'.alloc o) :=
  ⟨h.os, h.tape, h.output, by rw [alloc_size]; have := h.size; omega, fun k hk hn => ((alloc_below w' o).block k (Nat.lt_of_lt_of_le hk h.size)).trans (h.block k hk hn)⟩
theorem OwnX.lt {w : World} {B : Nat} {t : TypeId} {v : Value} {xs : List Int} (h : OwnX w B t v xs) {g : Nat} (hg : v.ownBlock = some g) : B ≤ g ∧ g < w.heap.size := World.ownsRow.lt h g hg
theorem blockCells_set {w : World} {g : Nat} {t : TypeId} {cur : Array Value} (h : w.heap[g]? = some (.cells cur t (0, 0))) (i : Nat) (v : Value) :
    ∃ cur', (w.setCell ⟨g, i, none⟩ v).heap[g]? = some (.cells cur' t (0, 0)) ∧ cur'.size = cur.size := by
  refine ⟨cur.setIfInBounds i v, ?_, by simp⟩
  simp [World.setCell, Array.getElem?_modify, h]
theorem blockCells_sets {g : Nat} {t : TypeId} : ∀ (vs : List Value) (i : Nat) {w : World} {cur : Array Value}, w.heap[g]? = some (.cells cur t (0, 0)) → ∃ cur', (w.setCells g i vs).heap[g]? = some (.cells cur' t (0, 0)) ∧ cur'.size = cur.size
  | [], _, _, cur, h => ⟨cur, h, rfl⟩
  | v :: r, i, _, _, h => by
    obtain ⟨c1, h1, h2⟩ := blockCells_set h i v
    obtain ⟨c2, h3, h4⟩ := blockCells_sets r (i + 1) h1
    exact ⟨c2, h3, h4.trans h2⟩
theorem OwnX.of_cells {w : World} {B g cap : Nat} {t : TypeId} {cur : Array Value} {xs : List Int} (hg : w.heap[g]? = some (.cells cur t (0, 0))) (hsz : cur.size = cap) (hB : B ≤ g) (hl : xs.length ≤ cap) (hc : cap ≤ maxLen)
    (h : ∀ i, i < xs.length → w.cell? ⟨g, i, none⟩ = some (.int .i64 (xs.getD i 0))) : OwnX w B t (.slice (some ⟨g, 0, none⟩) xs.length cap) xs := by
  refine ⟨by simp, .inr ⟨g, cap, cur, rfl, hB, hg, hl, hc, by omega, ?_⟩⟩
  apply List.ext_getElem?
  intro i
  rw [List.getElem?_take]
  by_cases hi : i < xs.length
  · rw [if_pos (by omega)]
    have := h i hi
    rw [cell_of_row w g i cur t (0, 0) hg] at this
    rw [Array.getElem?_toList, this, List.getElem?_map, List.getD_eq_getElem?_getD, List.getElem?_eq_getElem hi]
    rfl
  · rw [if_neg (by omega), List.getElem?_eq_none (by simp; omega)]
theorem OwnX.room {w : World} {B : Nat} {t : TypeId} {v : Value} {xs : List Int} (h : OwnX w B t v xs) (h1 : 1 ≤ xs.length) :
    ∃ g cap cur, v = .slice (some ⟨g, 0, none⟩) xs.length cap ∧ B ≤ g ∧ g < w.heap.size ∧ xs.length ≤ cap ∧ cap ≤ 9223372036854775807 ∧ w.heap[g]? = some (.cells cur t (0, 0)) ∧ cur.size = cap ∧
      (∀ j, j < cap → (w.cell? ⟨g, j, none⟩).isSome = true) ∧ (∀ j, w.frozen? ⟨g, j, none⟩ = false) ∧ (∀ i, i < xs.length → w.cell? ⟨g, i, none⟩ = some (.int .i64 (xs.getD i 0))) := by
  obtain ⟨g0, c0, hv0, _, _, _, _, hrow, hfz⟩ := h.shape h1
  have hlt := World.ownsRow.lt h
  obtain ⟨h3, h4⟩ := h
  rcases h4 with ⟨_, h4⟩ | ⟨g, cap, cur, hv, hB, hg, hc, hm, hs, ht⟩
  · omega
  · subst hv
    injection hv0 with e1 e2 e3
    injection e1 with e1; injection e1 with e1
    subst e1; subst e3
    unfold maxLen at hm
    refine ⟨g, cap, cur, rfl, hB, (hlt g rfl).2, hc, hm, hg, by omega, fun j hj => ?_, hfz, fun i hi => ?_⟩
    · rw [cell_of_row w g j cur t (0, 0) hg, Array.getElem?_eq_getElem (by omega)]; rfl
    · have := hrow i hi; rwa [Nat.zero_add] at this
theorem isNaN_any (x : Int) (w : World) : Calls Tryz.prog 227 #[.int .i64 x] w fun e w' => e = .returned (.bool false) ∧ w = w' := by
  go_enter Tryz.func227, Tryz.ntmps227
  go_wp2
  go_ret
  exact ⟨by simp, rfl⟩
theorem slIsNaN_any (x : Int) (w : World) : Calls Tryz.prog 201 #[.int .i64 x] w fun e w' => e = .returned (.bool false) ∧ w = w' := by
  go_enter Tryz.func201, Tryz.ntmps201
  go_wp2
  go_ret
  exact ⟨by simp, rfl⟩
theorem less_any (x y : Int) (v : Bool) (hv : decide (x < y) = v) (w : World) : Calls Tryz.prog 200 #[.int .i64 x, .int .i64 y] w fun e w' => e = .returned (.bool v) ∧ w = w' := by
  have HV := Lib.hid hv; clear hv
  go_enter Tryz.func200, Tryz.ntmps200
  go_wp2_with (go_at_call 227; refine (isNaN_any _ _).mono ?_; rintro e w' ⟨rfl, rfl⟩)
  go_ret
  exact ⟨retb HV.out, rfl⟩
def PlaceEnd (p : Nat) (v : Bool) (w : World) (e : Ending) (w' : World) : Prop := e = .returned (.tuple #[.int .i64 p, .bool v]) ∧ Drew w w'
set_option maxRecDepth 100000 in
theorem search_any (g n cap p : Nat) (f : Nat → Int) (x : Int) (v : Bool) (hp : p ≤ n) (hn : n ≤ 1000) (w : World) (hr : Row w g 0 n f) (hlo : ∀ i, i < p → f i < x) (hhi : ∀ i, p ≤ i → i < n → x ≤ f i) (hv : (decide (p < n) && (f p == x)) = v) :
    Calls Tryz.prog 179 #[.slice (some ⟨g, 0, none⟩) n cap, .int .i64 x] w (PlaceEnd p v w) := by
  have HLO := Lib.hid hlo; have HHI := Lib.hid hhi; have HR := Lib.hid hr; have HV := Lib.hid hv
  clear hlo hhi hr hv
  go_enter Tryz.func179, Tryz.ntmps179
  go_wp2_with fail
  go_loopw [7, 8] (fun s7 s8 wr => ∃ lo hi : Nat, s7 = .int .i64 lo ∧ s8 = .int .i64 hi ∧ lo ≤ p ∧ p ≤ hi ∧ hi ≤ n ∧ Drew w wr) (fun s7 s8 _ => (intOf s8).toNat - (intOf s7).toNat)
  case atStart => exact ⟨0, n, rfl, rfl, Nat.zero_le _, hp, Nat.le_refl _, Drew.refl _⟩
  case round =>
    obtain ⟨lo, hi, rfl, rfl, hlp, hph, hhn, hd⟩ := hrel
    have hr := row_drew HR.out hd
    have HD := Lib.hid hd; clear hd
    by_cases hlt : lo < hi
    · obtain ⟨m, hm⟩ : ∃ m, (lo + hi) / 2 = m := ⟨_, rfl⟩
      have hm1 : lo ≤ m := by omega
      have hm2 : m < hi := by omega
      have hmi : ((lo : Int) + (hi : Int)) / 2 = (m : Int) := by omega
      have hmn : m < n := by omega
      have hc := hr m hmn
      rw [Nat.zero_add] at hc
      have hli : (lo : Int) < (hi : Int) := by omega
      have HM := Lib.hid hmi
      clear hmi
      have hmd : ((lo : Int) + (hi : Int)) / 2 = (m : Int) := HM.out
      clear hr
      by_cases hmp : m < p
      · have HLS := Lib.hid (show decide (f m < x) = true from decide_eq_true (HLO.out m hmp))
        go_wp2_with (go_at_call 200; refine (less_any _ _ true HLS.out _).mono ?_; rintro e w' ⟨rfl, rfl⟩)
        go_roundw
        case rel => exact ⟨m + 1, hi, by go_num, rfl, by omega, hph, hhn, by first | exact HD.out | exact HD.out.more _⟩
        case measure => simp [intOf]; omega
      · have HLS := Lib.hid (show decide (f m < x) = false from decide_eq_false (by have := HHI.out m (by omega) hmn; omega))
        go_wp2_with (go_at_call 200; refine (less_any _ _ false HLS.out _).mono ?_; rintro e w' ⟨rfl, rfl⟩)
        go_roundw
        case rel => exact ⟨lo, m, rfl, by go_num, hlp, by omega, by omega, by first | exact HD.out | exact HD.out.more _⟩
        case measure => simp [intOf]; omega
    · have e1 : lo = p := by omega
      have e2 : hi = p := by omega
      subst e1; subst e2
      have hli : ¬ ((hi : Int) < (hi : Int)) := by omega
      by_cases hpn : hi < n
      · have hc := hr hi hpn
        rw [Nat.zero_add] at hc
        have hpi : (hi : Int) < (n : Int) := by omega
        have hdp : decide (hi < n) = true := decide_eq_true hpn
        clear hr
        obtain ⟨y, hy⟩ : ∃ y, f hi = y := ⟨_, rfl⟩
        rw [hy] at hc
        have HY := Lib.hid hy; clear hy
        by_cases hxy : y = x
        · subst hxy
          have HF := Lib.hid (show v = true by rw [← HV.out, hdp, HY.out]; simp)
          have hxb : (y == y) = true := by simp
          clear hdp
          go_wp2_with (go_at_call 201; refine (slIsNaN_any _ _).mono ?_; rintro e w' ⟨rfl, rfl⟩)
          go_ret2
          exact ⟨by first | rfl | (rw [HF.out]; rfl), by first | exact HD.out | exact HD.out.more _⟩
        · have HF := Lib.hid (show v = false by rw [← HV.out, hdp, HY.out]; simp [hxy])
          have hxb : (y == x) = false := by rw [beq_eq_false_iff_ne]; exact hxy
          clear hdp
          go_wp2_with (go_at_call 201; refine (slIsNaN_any _ _).mono ?_; rintro e w' ⟨rfl, rfl⟩)
          go_ret2
          exact ⟨by first | rfl | (rw [HF.out]; rfl), by first | exact HD.out | exact HD.out.more _⟩
      · have hpi : ¬ ((hi : Int) < (n : Int)) := by omega
        have HF := Lib.hid (show v = false by rw [← HV.out, decide_eq_false hpn, Bool.false_and])
        clear hr
        go_wp2_with fail
        go_ret2
        exact ⟨by first | rfl | (rw [HF.out]; rfl), by first | exact HD.out | exact HD.out.more _⟩
theorem append_types {P : Program} (w : World) (t tx ty e : TypeId) (i : TypeInfo) (a b : Option Addr) (n c m d : Nat) (ht : P.underlying t = some (.slice e)) (hx : P.underlying tx = some (.slice e)) (hi : P.info? e = some i) :
    (Builtin.append_ #[t, tx] ty #[.slice a n c, .slice b m d]).run P w = (Builtin.append_ #[t, t] ty #[.slice a n c, .slice b m d]).run P w := by
  simp [Builtin.append_, run_underlying ht, run_underlying hx, sizeOf, typeInfo, hi]
theorem step_copied {P : Program} {ops : Array Oper} {o : Oper} {a : Act} {w : World} {K : Act → World → Prop} {Q : Exit → Act → World → Prop} {E : Prop}
    (hg : o.guard = none) (d s : Operand) (t t' : TypeId) (ho : o.op = .call { callee := .builtin .copy, args := #[d, s], argTypes := #[t, t'] })
    (v u : Value) (hd : a.eval d = v) (hs : a.eval s = u) {v' : Value} {w' : World} (hr : (Builtin.copy_ #[t, t'] o.type #[v, u]).run P w = .ok v' w') (h : K (a.put o.dst v') w') :
    if Region.wanted o (yielded ops a.tmps) = true then Oper.wp P o a w K Q else E := by
  rw [if_pos (by simp [Region.wanted, hg])]
  unfold Oper.wp
  simp [execOp, ho, resolve, invoke, builtin, hd, hs, hr, Result.andThen]
  exact h
theorem some_sets (b : Nat) (vs : List Value) (o : Nat) (w : World) (h : ∀ j, j < vs.length → (w.cell? ⟨b, o + j, none⟩).isSome = true) (k : Nat) (hk : (w.cell? ⟨b, k, none⟩).isSome = true) : ((w.setCells b o vs).cell? ⟨b, k, none⟩).isSome = true := by
  by_cases hin : o ≤ k ∧ k < o + vs.length
  · have := World.cell?_setCells_in b vs o w h (k - o) (by omega)
    rw [show o + (k - o) = k by omega] at this
    rw [this]; rfl
  · rw [World.cell?_setCells_out b vs o w ⟨b, k, none⟩ (fun _ _ => by show k < o ∨ o + vs.length ≤ k; omega)]
    exact hk
def NewOr (w : World) (v v' : Value) : Prop := v'.ownBlock = v.ownBlock ∨ ∃ g, v'.ownBlock = some g ∧ w.heap.size ≤ g
def Ins (B : Nat) (v : Value) (ys : List Int) (w : World) (e : Ending) (w' : World) : Prop :=
  ∃ v', e = .returned v' ∧ OwnX w' B 3 v' ys ∧ Upon (fun k => v.ownBlock = some k) w w' ∧ NewOr w v v'
theorem infoF : ∃ i0, Tryz.prog.info? 3 = some i0 ∧ i0.zero = some (.int .i64 0) ∧ i0.size = 1 ∧ i0.bytes = 8 := info_parts Tryz.infoInt
set_option maxRecDepth 100000 in
/-- at the end -/
theorem insert_end (B vb : Nat) (v : Value) (xs : List Int) (x : Int) (hl : xs.length ≤ 1000) (w : World) (hB : B ≤ w.heap.size) (hown : OwnX w B 3 v xs) (hx : w.cell? ⟨vb, 0, none⟩ = some (.int .i64 x)) :
    Calls Tryz.prog 180 #[v, .int .i64 (xs.length : Nat), .slice (some ⟨vb, 0, none⟩) 1 1] w (Ins B v (xs ++ [x]) w) := by
  obtain ⟨i0, hi, hz0, hz1, hz2⟩ := infoF
  obtain ⟨a, cap, rfl⟩ := hown.slice
  obtain ⟨n, hn⟩ : ∃ n, xs.length = n := ⟨_, rfl⟩
  have hnb : n ≤ 1000 := by omega
  have hcn : a = none → n = 0 ∧ cap = 0 := fun e => by
    subst e
    rcases hown.2 with ⟨e1, e2⟩ | ⟨g, c, cur, e1, _⟩
    · injection e1 with _ e3 e4; omega
    · injection e1 with e1; cases e1
  have hcap : n ≤ cap ∧ cap ≤ 9223372036854775807 := by
    rcases hown.2 with ⟨e1, e2⟩ | ⟨g, c, cur, e1, _, _, h5, h6, _⟩
    · injection e1 with _ e3 e4; omega
    · injection e1 with _ _ e4; unfold maxLen at h6; omega
  obtain ⟨v', w', hr, hown', hgr, _, hat⟩ := run_append_own_at (P := Tryz.prog) w B 144 144 3 i0 (.int .i64 0) 1 8 Tryz.underlying144 hi hz0 hz1 hz2 rfl (by decide) _ _ _ hown ⟨vb, 0, none⟩ 1 1 [.int .i64 x] rfl
    (fun j u hj => by
      match j, hj with
      | 0, hj => simp at hj; subst hj; exact hx)
    (fun u hu => by simp at hu; subst hu; rfl) (by unfold maxLen; omega) (by omega) hB
  rw [← append_types w 144 28 144 3 i0 _ _ _ _ _ _ Tryz.underlying144 Tryz.underlying28 hi] at hr
  have hfin : Ins B (.slice a xs.length cap) (xs ++ [x]) w (.returned v') w' := ⟨v', rfl, OwnX.snoc hown', Upon.of_grown hgr, by
    rcases hat with h | h
    · exact .inl h
    · exact .inr ⟨_, h, Nat.le_refl _⟩⟩
  have HF := Lib.hid hfin
  clear hfin hown hown' hgr hat hx
  rw [hn] at hr HF ⊢
  have HR := Lib.hid hr
  clear hr hn hl
  obtain ⟨hc1, hc2⟩ := hcap
  cases a with
  | none =>
    obtain ⟨rfl, rfl⟩ := hcn rfl
    clear hcn hc1 hc2 hnb
    go_enter Tryz.func180, Tryz.ntmps180
    go_wp2_with (at_builtin; refine Lib.wpList_append_run _ rfl _ _ _ _ rfl _ _ rfl rfl _ _ HR.out ?_)
    go_ret
    exact HF.out
  | some q =>
    obtain ⟨ab, ao, asp⟩ := q
    clear hcn
    go_enter Tryz.func180, Tryz.ntmps180
    go_wp2_with (at_builtin; refine Lib.wpList_append_run _ rfl _ _ _ _ rfl _ _ rfl rfl _ _ HR.out ?_)
    all_goals (go_ret; exact HF.out)
set_option maxRecDepth 100000 in
/-- ahead of another one, where there is room -/
theorem insert_room (g o n c i vb : Nat) (x : Int) (cs : List Value) (w : World) (hi : i < n) (hroom : n + 1 ≤ c) (hc63 : c ≤ 9223372036854775807) (hvb : vb ≠ g) (hcl : cs.length = n)
    (hcs : ∀ j v, cs[j]? = some v → w.cell? ⟨g, o + j, none⟩ = some v) (hsp : ∀ j, j < n + 1 → (w.cell? ⟨g, o + j, none⟩).isSome = true) (hfz : ∀ j, w.frozen? ⟨g, j, none⟩ = false)
    (hx : w.cell? ⟨vb, 0, none⟩ = some (.int .i64 x)) (h1c : ∀ v ∈ cs, v.oneCell' = true)
    (tA tB : TypeId) (kA kB : Nat) (hsa : w.shape? vb = some (tA, kA)) (hsb : w.shape? g = some (tB, kB)) (hkB : kB ≠ 0) (hfa : w.frozen? ⟨vb, 0, none⟩ = false) (hfe : w.frozen? ⟨vb, kA, none⟩ = false) :
    Calls Tryz.prog 180 #[.slice (some ⟨g, o, none⟩) n c, .int .i64 i, .slice (some ⟨vb, 0, none⟩) 1 1] w fun e w' =>
      e = .returned (.slice (some ⟨g, o, none⟩) (n + 1) c) ∧ w' = (w.drew.setCells g (o + (i + 1)) (cs.drop i)).setCells g (o + i) [.int .i64 x] := by
  have hz2 : ¬ ((i : Int) = (n : Int)) := by omega
  have hsz : (Tryz.prog.info? 3).map (·.size) = some 1 := by
    obtain ⟨i0, hi0, h0, h1, h2⟩ := infoF
    rw [hi0]; simp [h1]
  have hov : ∀ lb cb, (callFunc 202 #[.slice (some ⟨vb, 0, none⟩) 1 1, .slice (some ⟨g, o + (i + 1), none⟩) lb cb]).run Tryz.prog w = .ok (.value (.bool false)) w := fun lb cb => by
    rw [run_callFunc_extern Tryz.func202 (by kernel_rfl) (by kernel_rfl) (by kernel_rfl) (e := Extern.SlicesOverlaps.overlaps #[28, 28] #[4]) (by kernel_rfl),
      Lib.run_overlaps_apart w 28 4 3 Tryz.underlying28 1 (fun w => by kernel_rfl) ⟨vb, 0, none⟩ ⟨g, o + (i + 1), none⟩ 1 1 lb cb hvb tA tB kA kB hsa hsb hkB hfa hfe]
    rfl
  have hdl : (cs.drop i).length = n - i := by rw [List.length_drop, hcl]
  have hw1 : IntKind.i64.wrap ((i : Int) + 1) = (i : Int) + 1 := by rw [IntKind.wrap_i64]; omega
  have hb1 : (0 : Int) ≤ (i : Int) + 1 := by omega
  have hin : i ≤ n := by omega
  have htn : ((i : Int) + 1).toNat = i + 1 := by omega
  have hb2 : ¬ (c = i + 1) := by omega
  have hb3 : (i : Int) ≤ (n : Int) + 1 := by omega
  have hb4 : ¬ (c = i) := by omega
  have hb5 : ¬ ((n : Int) + 1 > (c : Int)) := by omega
  have hcp1 : ∀ ty dc sc, (Builtin.copy_ #[144, 144] ty #[.slice (some ⟨g, o + (i + 1), none⟩) (n - i) dc, .slice (some ⟨g, o + i, none⟩) (n + 1 - i) sc]).run Tryz.prog w.drew = .ok (goInt (cs.drop i).length) (w.drew.setCells g (o + (i + 1)) (cs.drop i)) := fun ty dc sc =>
    run_copy_cells w.drew _ _ ty 3 g (o + (i + 1)) (n - i) dc ⟨g, o + i, none⟩ (n + 1 - i) sc (cs.drop i) Tryz.underlying144 hsz (by rw [hdl]; simp only [Nat.min_def]; split <;> omega)
      (fun j v hj => by rw [Addr.add_lit, Nat.add_assoc]; exact hcs (i + j) v (by rwa [List.getElem?_drop] at hj))
      (fun j hj => by rw [Nat.add_assoc]; exact hsp _ (by omega)) (fun j hj => hfz _) (fun v hv => h1c v (List.mem_of_mem_drop hv))
  obtain ⟨W1, hW1⟩ : ∃ W1, W1 = w.drew.setCells g (o + (i + 1)) (cs.drop i) := ⟨_, rfl⟩
  have hsp1 : ∀ k, k < n + 1 → (W1.cell? ⟨g, o + k, none⟩).isSome = true := fun k hk => by
    rw [hW1]
    exact some_sets g _ _ _ (fun j hj => by rw [Nat.add_assoc]; exact hsp _ (by omega)) _ (hsp k hk)
  have hcp2 : ∀ (W : World), (∀ x, W.cell? x = W1.cell? x) → (∀ x, W.frozen? x = W1.frozen? x) → ∀ ty dc, (Builtin.copy_ #[144, 28] ty #[.slice (some ⟨g, o + i, none⟩) (n + 1 - i) dc, .slice (some ⟨vb, 0, none⟩) 1 1]).run Tryz.prog W = .ok (goInt 1) (W.setCells g (o + i) [.int .i64 x]) := fun W hWc hWf ty dc =>
    run_copy_cells W _ _ ty 3 g (o + i) (n + 1 - i) dc ⟨vb, 0, none⟩ 1 1 [.int .i64 x] Tryz.underlying144 hsz (by simp only [List.length_cons, List.length_nil, Nat.min_def]; split <;> omega)
      (fun j v hj => by
        match j, hj with
        | 0, hj =>
          simp at hj; subst hj
          rw [Addr.add_lit, hWc, hW1, World.cell?_setCells_out g _ _ _ _ (fun h _ => absurd h hvb)]
          exact hx)
      (fun j hj => by rw [hWc, Nat.add_assoc]; exact hsp1 _ (by simp at hj; omega)) (fun j hj => by rw [hWf, hW1, World.frozen?_setCells]; exact hfz _) (fun u hu => by simp at hu; subst hu; rfl)
  rw [← hW1] at hcp1
  go_enter Tryz.func180, Tryz.ntmps180
  go_wp2_with (simp only [hov])
  go_region_law (refine step_copied rfl _ _ 144 144 rfl _ _ (by simp [Act.eval, Act.put]) (by simp [Act.eval, Act.put]) (hcp1 _ _ _) ?_)
  go_wp2_with (at_builtin; refine wpList_copied _ rfl _ _ 144 28 rfl _ _ rfl rfl (hcp2 _ (fun _ => rfl) (fun _ => rfl) _ _) ?_)
  go_ret
  first | exact ⟨rfl, rfl⟩ | exact ⟨rfl, by rw [hW1]⟩
def growR (cs : List Value) (n i G : Nat) : Array Value := (cs.take i).toArray ++ Builtin.zeroCells (Value.int .i64 0).cells (n + 1 - i) ++ Builtin.zeroCells (Value.int .i64 0).cells (G - (n + 1))
theorem growR_size {cs : List Value} {n i G : Nat} (hcl : cs.length = n) (hi : i < n) (hG : n + 1 ≤ G) : (growR cs n i G).size = G := by
  unfold growR
  simp [Builtin.zeroCells, Value.cells, List.length_take, hcl]
  omega
set_option maxRecDepth 100000 in
/-- ahead of another one, where there is no room -/
theorem insert_grow (g o n c i vb : Nat) (x : Int) (cs : List Value) (w : World) (hi : i < n) (hnc : n ≤ c) (hroom : c < n + 1) (hbig : n ≤ 1000) (hcl : cs.length = n)
    (hcs : ∀ j v, cs[j]? = some v → w.cell? ⟨g, o + j, none⟩ = some v) (hx : w.cell? ⟨vb, 0, none⟩ = some (.int .i64 x)) (h1c : ∀ v ∈ cs, v.oneCell' = true) :
    Calls Tryz.prog 180 #[.slice (some ⟨g, o, none⟩) n c, .int .i64 i, .slice (some ⟨vb, 0, none⟩) 1 1] w fun e w' =>
      e = .returned (.slice (some ⟨w.heap.size, 0, none⟩) (n + 1) (grownCap w (n + 1) c 3)) ∧
      w' = (((w.alloc (.cells (growR cs n i (grownCap w (n + 1) c 3)) 3)).drew.setCells w.heap.size i [.int .i64 x]).drew).setCells w.heap.size (i + 1) (cs.drop i) := by
  obtain ⟨i0, hi0, hz0, hzs, hzb⟩ := infoF
  have hz2 : ¬ ((i : Int) = (n : Int)) := by omega
  have hz3 : (c : Int) < (n : Int) + 1 := by omega
  have hsz : (Tryz.prog.info? 3).map (·.size) = some 1 := by rw [hi0]; simp [hzs]
  have hbw : g < w.heap.size := block_lt_of_cell (hcs 0 _ (List.getElem?_eq_getElem (by omega)))
  have hvw : vb < w.heap.size := block_lt_of_cell hx
  have hkk : (n : Int) + 1 - (i : Int) = ((n + 1 - i : Nat) : Int) := by omega
  have hik : i + (n + 1 - i) = n + 1 := by omega
  have hold : (Builtin.firstCells i0.size i (.slice (some ⟨g, o, none⟩) i c)).run Tryz.prog w.drew = .ok (cs.take i).toArray w.drew := by
    rw [hzs]
    exact run_firstCells_some w.drew 1 i ⟨g, o, none⟩ i c (cs.take i) (by rw [List.length_take]; omega) (fun j v hj => by
      rw [Addr.add_lit]
      rw [List.getElem?_take] at hj
      split at hj
      · exact hcs j v hj
      · cases hj)
  have hrz : ∀ ty, (Builtin.append_ #[144, 3] ty #[.slice (some ⟨g, o, none⟩) i c, .int .i64 ((n : Int) + 1 - (i : Int))]).run Tryz.prog w =
      .ok (.slice (some ⟨w.heap.size, 0, none⟩) (n + 1) (grownCap w (n + 1) c 3)) (w.drew.alloc (.cells (growR cs n i (grownCap w (n + 1) c 3)) 3)) := fun ty => by
    have h := Lib.run_append_grow_zeros w 144 3 ty 3 i0 _ .i64 .i64 Tryz.underlying144 Tryz.underlying3 hi0 hz0 (some ⟨g, o, none⟩) i c (cs.take i) hold (n + 1 - i) (by omega) (by omega) (by omega) (by omega) (by rw [hzb]; omega) (by rw [hzb, hik]; exact growslice_fits hroom (by omega))
    rw [hik] at h
    rw [hkk]
    exact h
  have hGn : n + 1 ≤ grownCap w (n + 1) c 3 := grownCap_ge w _ _ _
  have hG63 : grownCap w (n + 1) c 3 ≤ 9223372036854775807 := by
    have := grownCap_le_maxLen w (n + 1) c 3 (by unfold maxLen; omega)
    unfold maxLen at this
    omega
  obtain ⟨G, hG⟩ : ∃ G, G = grownCap w (n + 1) c 3 := ⟨_, rfl⟩
  rw [← hG] at hrz hGn hG63 ⊢
  have hRl := growR_size hcl hi hGn
  obtain ⟨ROW, hROW⟩ : ∃ ROW : Array Value, ROW = growR cs n i G := ⟨_, rfl⟩
  rw [← hROW] at hrz hRl ⊢
  obtain ⟨W1, hW1⟩ : ∃ W1, W1 = w.drew.alloc (.cells ROW 3) := ⟨_, rfl⟩
  rw [← hW1] at hrz
  have hN : ∀ j, j < n + 1 → (W1.cell? ⟨w.heap.size, j, none⟩).isSome = true := fun j hj => by
    rw [hW1, World.cell?_alloc_at (w := w.drew) ROW _ w.heap.size j rfl, Array.getElem?_eq_getElem (by omega)]; rfl
  have hNf : ∀ j, W1.frozen? ⟨w.heap.size, j, none⟩ = false := fun j => by rw [hW1]; exact World.frozen?_alloc_at (w := w.drew) ROW _ w.heap.size j rfl
  have hOb : ∀ j v, w.cell? ⟨g, j, none⟩ = some v → W1.cell? ⟨g, j, none⟩ = some v := fun j v h => by rw [hW1, World.cell?_alloc_past (w := w.drew) _ g j hbw]; exact h
  have hOv : ∀ j v, w.cell? ⟨vb, j, none⟩ = some v → W1.cell? ⟨vb, j, none⟩ = some v := fun j v h => by rw [hW1, World.cell?_alloc_past (w := w.drew) _ vb j hvw]; exact h
  have hcpA : ∀ (W : World), (∀ x, W.cell? x = W1.cell? x) → (∀ x, W.frozen? x = W1.frozen? x) → ∀ ty dc, (Builtin.copy_ #[144, 28] ty #[.slice (some ⟨w.heap.size, i, none⟩) (n + 1 - i) dc, .slice (some ⟨vb, 0, none⟩) 1 1]).run Tryz.prog W = .ok (goInt 1) (W.setCells w.heap.size i [.int .i64 x]) := fun W hWc hWf ty dc =>
    run_copy_cells W _ _ ty 3 w.heap.size i (n + 1 - i) dc ⟨vb, 0, none⟩ 1 1 [.int .i64 x] Tryz.underlying144 hsz (by simp only [List.length_cons, List.length_nil, Nat.min_def]; split <;> omega)
      (fun j v hj => by
        match j, hj with
        | 0, hj =>
          simp at hj; subst hj
          rw [Addr.add_lit, hWc]
          exact hOv _ _ hx)
      (fun j hj => by rw [hWc]; exact hN _ (by simp at hj; omega)) (fun j hj => by rw [hWf]; exact hNf _) (fun u hu => by simp at hu; subst hu; rfl)
  have hGi : ¬ (G = i) := by omega
  have hGim : ¬ (G = i + 1) := by omega
  have hci : ¬ (c = i) := by omega
  have hbN : g ≠ w.heap.size := by omega
  have hdl : (cs.drop i).length = n - i := by rw [List.length_drop, hcl]
  have hcpB : ∀ (W : World), (∀ y, W.cell? y = (W1.setCells w.heap.size i [.int .i64 x]).cell? y) → (∀ y, W.frozen? y = (W1.setCells w.heap.size i [.int .i64 x]).frozen? y) → ∀ ty dc sc, (Builtin.copy_ #[144, 144] ty #[.slice (some ⟨w.heap.size, i + 1, none⟩) (n - i) dc, .slice (some ⟨g, o + i, none⟩) (n - i) sc]).run Tryz.prog W = .ok (goInt (cs.drop i).length) (W.setCells w.heap.size (i + 1) (cs.drop i)) := fun W hWc hWf ty dc sc =>
    run_copy_cells W _ _ ty 3 w.heap.size (i + 1) (n - i) dc ⟨g, o + i, none⟩ (n - i) sc (cs.drop i) Tryz.underlying144 hsz (by rw [hdl]; simp only [Nat.min_def]; split <;> omega)
      (fun j v hj => by
        rw [Addr.add_lit, hWc, World.cell?_setCells_out _ _ _ _ _ (fun h _ => absurd h hbN), Nat.add_assoc]
        exact hOb _ v (hcs (i + j) v (by rwa [List.getElem?_drop] at hj)))
      (fun j hj => by rw [hWc]; exact some_sets _ _ _ _ (fun t ht => hN _ (by simp at ht; omega)) _ (hN _ (by omega)))
      (fun j hj => by rw [hWf, World.frozen?_setCells]; exact hNf _) (fun v hv => h1c v (List.mem_of_mem_drop hv))
  subst hW1
  have hE1 : ∀ x, ((w.alloc (.cells ROW 3)).drew).cell? x = (w.drew.alloc (.cells ROW 3)).cell? x := fun x => rfl
  have hE2 : ∀ x, ((w.alloc (.cells ROW 3)).drew).frozen? x = (w.drew.alloc (.cells ROW 3)).frozen? x := fun x => rfl
  have hF1 : ∀ y, (((w.alloc (.cells ROW 3)).drew.setCells w.heap.size i [.int .i64 x]).drew).cell? y = ((w.drew.alloc (.cells ROW 3)).setCells w.heap.size i [.int .i64 x]).cell? y := fun x => rfl
  have hF2 : ∀ y, (((w.alloc (.cells ROW 3)).drew.setCells w.heap.size i [.int .i64 x]).drew).frozen? y = ((w.drew.alloc (.cells ROW 3)).setCells w.heap.size i [.int .i64 x]).frozen? y := fun x => rfl
  have hw1 : IntKind.i64.wrap ((i : Int) + 1) = (i : Int) + 1 := by rw [IntKind.wrap_i64]; omega
  have hb1 : (0 : Int) ≤ (i : Int) + 1 := by omega
  have hin : i ≤ n := by omega
  have htn : ((i : Int) + 1).toNat = i + 1 := by omega
  have hb3 : (i : Int) ≤ (n : Int) := by omega
  clear hkk hik hold hROW hG hRl
  go_enter Tryz.func180, Tryz.ntmps180
  go_wp2_with (first
    | (at_builtin; refine Lib.wpList_append_run _ rfl _ _ _ _ rfl _ _ rfl rfl _ _ (hrz _) ?_)
    | (at_builtin; refine wpList_copied _ rfl _ _ 144 28 rfl _ _ rfl rfl (hcpA _ hE1 hE2 _ _) ?_)
    | (at_builtin; refine wpList_copied _ rfl _ _ 144 144 rfl _ _ rfl rfl (hcpB _ (fun _ => rfl) (fun _ => rfl) _ _ _) ?_))
  go_region_law (refine step_copied rfl _ _ 144 144 rfl (.slice (some ⟨w.heap.size, i + 1, none⟩) (n - i) (G - (i + 1))) (.slice (some ⟨g, o + i, none⟩) (n - i) (c - i)) (by simp [Act.eval, Act.put]) (by simp [Act.eval, Act.put]) (hcpB _ hF1 hF2 3 (G - (i + 1)) (c - i)) ?_)
  go_wp2
  go_ret
  exact ⟨rfl, rfl⟩
theorem drop_getD (xs : List Int) (i j : Nat) : (xs.drop i).getD j 0 = xs.getD (i + j) 0 := by
  rw [List.getD_eq_getElem?_getD, List.getD_eq_getElem?_getD, List.getElem?_drop]
def putL (xs : List Int) (i : Nat) (x : Int) : List Int := xs.take i ++ x :: xs.drop i
theorem putL_len {xs : List Int} {i : Nat} (hi : i ≤ xs.length) (x : Int) : (putL xs i x).length = xs.length + 1 := by
  unfold putL; simp [List.length_take]; omega
theorem putL_getD {xs : List Int} {i : Nat} (hi : i ≤ xs.length) (x : Int) (j : Nat) : (putL xs i x).getD j 0 = if j < i then xs.getD j 0 else if j = i then x else xs.getD (j - 1) 0 := by
  unfold putL
  by_cases h1 : j < i
  · rw [if_pos h1, append_getD_left (by simp [List.length_take]; omega), List.getD_eq_getElem?_getD, List.getD_eq_getElem?_getD, List.getElem?_take, if_pos h1]
  · rw [if_neg h1, append_getD_right (by simp [List.length_take]; omega)]
    have hl : (xs.take i).length = i := by rw [List.length_take]; omega
    rw [hl]
    by_cases h2 : j = i
    · subst h2; rw [if_pos rfl, Nat.sub_self]; rfl
    · rw [if_neg h2]
      obtain ⟨m, hm⟩ : ∃ m, j - i = m + 1 := ⟨j - i - 1, by omega⟩
      rw [hm]
      show (xs.drop i).getD m 0 = _
      rw [drop_getD, show i + m = j - 1 by omega]
def valsL (xs : List Int) : List Value := xs.map (Value.int .i64)
theorem vals_len (xs : List Int) : (valsL xs).length = xs.length := by unfold valsL; simp
theorem vals_at {xs : List Int} {j : Nat} {v : Value} (h : (valsL xs)[j]? = some v) : j < xs.length ∧ v = .int .i64 (xs.getD j 0) := by
  unfold valsL at h
  have hj : j < xs.length := by
    have := (List.getElem?_eq_some_iff.1 h).1
    simpa using this
  rw [List.getElem?_map, List.getElem?_eq_getElem hj] at h
  simp at h
  refine ⟨hj, ?_⟩
  rw [List.getD_eq_getElem?_getD, List.getElem?_eq_getElem hj]
  exact h.symm
theorem vals_drop (xs : List Int) (i : Nat) : (valsL xs).drop i = valsL (xs.drop i) := by unfold valsL; simp
theorem vals_one (xs : List Int) : ∀ v ∈ valsL xs, v.oneCell' = true := by
  intro v hv; unfold valsL at hv
  obtain ⟨x, _, rfl⟩ := List.mem_map.1 hv; rfl
theorem vals_getElem {xs : List Int} {j : Nat} (hj : j < (valsL xs).length) : (valsL xs)[j] = .int .i64 (xs.getD j 0) := by
  have h := vals_at (xs := xs) (j := j) (v := (valsL xs)[j]) (List.getElem?_eq_getElem hj)
  exact h.2
theorem shape_of {w : World} {g : Nat} {cur : Array Value} {t : TypeId} (h : w.heap[g]? = some (.cells cur t (0, 0))) : w.shape? g = some (t, cur.size) := by
  unfold World.shape?; rw [h]
theorem insert_any (B vb : Nat) (v : Value) (xs : List Int) (x : Int) (i : Nat) (hi : i ≤ xs.length) (hl : xs.length ≤ 1000) (w : World) (hB : B ≤ w.heap.size) (hown : OwnX w B 3 v xs)
    (hvb : w.heap[vb]? = some (.cells #[.int .i64 x] 3 (0, 0))) (hne : v.ownBlock ≠ some vb) :
    Calls Tryz.prog 180 #[v, .int .i64 i, .slice (some ⟨vb, 0, none⟩) 1 1] w (Ins B v (putL xs i x) w) := by
  have hx : w.cell? ⟨vb, 0, none⟩ = some (.int .i64 x) := by rw [cell_of_row w vb 0 _ _ _ hvb]; rfl
  have hxf : ∀ j, w.frozen? ⟨vb, j, none⟩ = false := fun j => by simp [World.frozen?, hvb]
  by_cases he : i = xs.length
  · subst he
    have := insert_end B vb v xs x hl w hB hown hx
    unfold putL
    rwa [List.take_length, List.drop_length]
  · obtain ⟨g, cap, cur, rfl, hBg, hgl, hlc, hc63, hg, hcs, hsp, hfz, hrow⟩ := hown.room (by omega)
    have hne' : vb ≠ g := by intro e; subst e; exact hne rfl
    have hil : i < xs.length := by omega
    by_cases hroom : xs.length + 1 ≤ cap
    · refine (insert_room g 0 xs.length cap i vb x (valsL xs) w hil hroom hc63 hne' (vals_len xs) (fun j u hj => by
        obtain ⟨h1, rfl⟩ := vals_at hj
        rw [Nat.zero_add]; exact hrow j h1) (fun j hj => by rw [Nat.zero_add]; exact hsp j (by omega)) hfz hx (vals_one xs) _ _ _ _ (shape_of hvb) (shape_of hg) (by omega) (hxf 0) (hxf _)).mono ?_
      rintro e w' ⟨rfl, hw'⟩
      rw [Nat.zero_add, Nat.zero_add, vals_drop] at hw'
      have hup : Upon (fun k => (Value.slice (some ⟨g, 0, none⟩) xs.length cap).ownBlock = some k) w w' := by
        rw [hw']
        exact Upon.puts (F := fun k => (Value.slice (some ⟨g, 0, none⟩) xs.length cap).ownBlock = some k) rfl _ _ (Upon.puts (F := fun k => (Value.slice (some ⟨g, 0, none⟩) xs.length cap).ownBlock = some k) rfl _ _ (Upon.refl _ _).drew)
      obtain ⟨c1, hc1, hs1⟩ := blockCells_sets (valsL (xs.drop i)) (i + 1) (w := w.drew) hg
      obtain ⟨c2, hc2, hs2⟩ := blockCells_sets [Value.int .i64 x] i hc1
      have hsome1 : ∀ j, j < cap → ((w.drew.setCells g (i + 1) (valsL (xs.drop i))).cell? ⟨g, j, none⟩).isSome = true := fun j hj =>
        some_sets g _ _ w.drew (fun t ht => hsp _ (by rw [vals_len, List.length_drop] at ht; omega)) j (hsp j hj)
      refine ⟨_, rfl, ?_, hup, .inl rfl⟩
      have hlen := putL_len (xs := xs) (i := i) (by omega) x
      rw [← hlen]
      refine OwnX.of_cells (cur := c2) (by rw [hw']; exact hc2) (by omega) hBg (by omega) (by unfold maxLen; omega) (fun j hj => ?_)
      rw [putL_getD (by omega), hw']
      by_cases hji : j = i
      · subst hji
        rw [if_neg (by omega), if_pos rfl]
        have := World.cell?_setCells_in g [Value.int .i64 x] j (w.drew.setCells g (j + 1) (valsL (xs.drop j))) (fun t ht => by
          simp at ht; subst ht; exact hsome1 _ (by omega)) 0 (by simp)
        simpa using this
      · rw [World.cell?_setCells_out g _ _ _ _ (fun _ _ => by show j < i ∨ i + 1 ≤ j; omega)]
        by_cases hlt : j < i
        · rw [if_pos hlt, World.cell?_setCells_out g _ _ _ _ (fun _ _ => by show j < i + 1 ∨ _; omega)]
          exact hrow j (by omega)
        · rw [if_neg hlt, if_neg hji]
          have := World.cell?_setCells_in g (valsL (xs.drop i)) (i + 1) w.drew (fun t ht => hsp _ (by rw [vals_len, List.length_drop] at ht; omega)) (j - (i + 1)) (by rw [vals_len, List.length_drop]; omega)
          rw [show i + 1 + (j - (i + 1)) = j by omega, vals_getElem, drop_getD, show i + (j - (i + 1)) = j - 1 by omega] at this
          exact this
    · refine (insert_grow g 0 xs.length cap i vb x (valsL xs) w hil hlc (by omega) hl (vals_len xs) (fun j u hj => by
        obtain ⟨h1, rfl⟩ := vals_at hj
        rw [Nat.zero_add]; exact hrow j h1) hx (vals_one xs)).mono ?_
      rintro e w' ⟨rfl, hw'⟩
      have hGn : xs.length + 1 ≤ grownCap w (xs.length + 1) cap 3 := grownCap_ge w _ _ _
      have hGm := grownCap_le_maxLen w (xs.length + 1) cap 3 (by unfold maxLen; omega)
      obtain ⟨G, hG⟩ : ∃ G, G = grownCap w (xs.length + 1) cap 3 := ⟨_, rfl⟩
      rw [← hG] at hw' hGn hGm ⊢
      have hR := growR_size (vals_len xs) hil hGn
      obtain ⟨ROW, hROW⟩ : ∃ ROW : Array Value, ROW = growR (valsL xs) xs.length i G := ⟨_, rfl⟩
      have hRt : ∀ j, j < i → ROW[j]? = some (.int .i64 (xs.getD j 0)) := fun j hj => by
        rw [hROW]; unfold growR
        rw [Array.append_assoc, Array.getElem?_append_left (by simp [List.length_take, vals_len]; omega)]
        simp only [List.getElem?_toArray, List.getElem?_take, if_pos hj]
        rw [List.getElem?_eq_getElem (by rw [vals_len]; omega), vals_getElem]
      rw [← hROW] at hw' hR
      clear hROW
      rw [vals_drop] at hw'
      have hup : Upon (fun k => (Value.slice (some ⟨g, 0, none⟩) xs.length cap).ownBlock = some k) w w' := by
        rw [hw']
        have h0 : Upon (fun k => k = w.heap.size) w (w.alloc (.cells ROW 3)) := Upon.of_below (alloc_below _ _)
        exact ((Upon.puts (F := fun k => k = w.heap.size) rfl _ _ (Upon.puts (F := fun k => k = w.heap.size) rfl _ _ h0.drew).drew)).mono (fun k hk e => by omega)
      have hg0 : (w.alloc (.cells ROW 3)).drew.heap[w.heap.size]? = some (.cells ROW 3 (0, 0)) := heap_alloc_new w _
      obtain ⟨c1, hc1, hs1⟩ := blockCells_sets [Value.int .i64 x] i hg0
      have hc1' : ((w.alloc (.cells ROW 3)).drew.setCells w.heap.size i [Value.int .i64 x]).drew.heap[w.heap.size]? = some (.cells c1 3 (0, 0)) := hc1
      obtain ⟨c2, hc2, hs2⟩ := blockCells_sets (valsL (xs.drop i)) (i + 1) hc1'
      have hsome0 : ∀ j, j < G → ((w.alloc (.cells ROW 3)).drew.cell? ⟨w.heap.size, j, none⟩).isSome = true := fun j hj => by
        rw [cell_of_row _ _ j _ _ _ hg0, Array.getElem?_eq_getElem (by omega)]; rfl
      have hsome1 : ∀ j, j < G → (((w.alloc (.cells ROW 3)).drew.setCells w.heap.size i [Value.int .i64 x]).drew.cell? ⟨w.heap.size, j, none⟩).isSome = true := fun j hj => by
        rw [cell_of_row _ _ j _ _ _ hc1', Array.getElem?_eq_getElem (by omega)]; rfl
      refine ⟨_, rfl, ?_, hup, .inr ⟨_, rfl, Nat.le_refl _⟩⟩
      have hlen := putL_len (xs := xs) (i := i) (by omega) x
      rw [← hlen]
      refine OwnX.of_cells (cur := c2) (by rw [hw']; exact hc2) (by omega) hB (by omega) hGm (fun j hj => ?_)
      rw [putL_getD (by omega), hw']
      by_cases hlt : j ≤ i
      · rw [World.cell?_setCells_out _ _ _ _ _ (fun _ _ => by show j < i + 1 ∨ _; omega)]
        by_cases hji : j = i
        · subst hji
          rw [if_neg (by omega), if_pos rfl]
          have := World.cell?_setCells_in w.heap.size [Value.int .i64 x] j (w.alloc (.cells ROW 3)).drew (fun t ht => by
            simp at ht; subst ht; exact hsome0 _ (by omega)) 0 (by simp)
          simpa using this
        · rw [if_pos (by omega)]
          show ((w.alloc (.cells ROW 3)).drew.setCells w.heap.size i [Value.int .i64 x]).cell? _ = _
          rw [World.cell?_setCells_out _ _ _ _ _ (fun _ _ => by show j < i ∨ _; omega), cell_of_row _ _ j _ _ _ hg0]
          exact hRt j (by omega)
      · rw [if_neg (by omega), if_neg (by omega)]
        have := World.cell?_setCells_in w.heap.size (valsL (xs.drop i)) (i + 1) ((w.alloc (.cells ROW 3)).drew.setCells w.heap.size i [Value.int .i64 x]).drew (fun t ht => hsome1 _ (by rw [vals_len, List.length_drop] at ht; omega)) (j - (i + 1)) (by rw [vals_len, List.length_drop]; omega)
        rw [show i + 1 + (j - (i + 1)) = j by omega, vals_getElem, drop_getD, show i + (j - (i + 1)) = j - 1 by omega] at this
        exact this
theorem search_empty (a : Option Addr) (cap : Nat) (x : Int) (w : World) :
    Calls Tryz.prog 179 #[.slice a 0 cap, .int .i64 x] w (PlaceEnd 0 false w) := by
  go_enter Tryz.func179, Tryz.ntmps179
  go_wp2_with fail
  go_loopw [7, 8] (fun s7 s8 wr => s7 = .int .i64 0 ∧ s8 = .int .i64 0 ∧ w = wr) (fun _ _ _ => 0)
  case atStart => exact ⟨rfl, rfl, rfl⟩
  case round =>
    obtain ⟨rfl, rfl, rfl⟩ := hrel
    go_wp2_with fail
    go_ret2
    exact ⟨by first | rfl | trivial, Drew.refl _⟩
theorem search_own (B : Nat) (a : Option Addr) (n cap p : Nat) (xs : List Int) (x : Int) (v : Bool) (w : World) (hn : xs.length = n) (ho : OwnX w B 3 (.slice a n cap) xs) (hl : n ≤ 1000) (hp : p ≤ n)
    (hlo : ∀ i, i < p → xs.getD i 0 < x) (hhi : ∀ i, p ≤ i → i < n → x ≤ xs.getD i 0) (hv : (decide (p < n) && (xs.getD p 0 == x)) = v) :
    Calls Tryz.prog 179 #[.slice a n cap, .int .i64 x] w (PlaceEnd p v w) := by
  subst hn
  by_cases h0 : xs.length = 0
  · have hp0 : p = 0 := by omega
    subst hp0
    have : v = false := by rw [← hv, decide_eq_false (by omega), Bool.false_and]
    subst this
    rw [h0]
    exact search_empty a cap x w
  · obtain ⟨g, c, e1, _, _, _, _, hrow, _⟩ := ho.shape (by omega)
    injection e1 with e2 _ e3
    subst e2; subst e3
    exact search_any g xs.length cap p (fun i => xs.getD i 0) x v hp hl w hrow hlo hhi hv
structure FamAt (w : World) (B p : Nat) (v : Value) (S : Nat → Bool) : Prop where
  cell : w.cell? ⟨p, 0, none⟩ = some v
  own : OwnX w B 3 v (fam S 16)
  fz : w.frozen? ⟨p, 0, none⟩ = false
  ne : v.ownBlock ≠ some p
  base : B ≤ p
theorem FamAt.lt {w : World} {B p : Nat} {v : Value} {S : Nat → Bool} (h : FamAt w B p v S) : p < w.heap.size := World.block_lt_of_cell? w _ h.cell
theorem FamAt.upon {w w' : World} {B p : Nat} {v : Value} {S : Nat → Bool} (h : FamAt w B p v S) {F : Nat → Prop} (u : Upon F w w') (hp : ¬ F p) (hv : ∀ g, v.ownBlock = some g → ¬ F g) : FamAt w' B p v S :=
  ⟨u.cell h.cell hp, u.ownX h.own hv, (u.frozen (a := ⟨p, 0, none⟩) h.lt hp).trans h.fz, h.ne, h.base⟩
theorem FamAt.next {w w' : World} {B p : Nat} {v : Value} {S : Nat → Bool} (h : FamAt w B p v S) (hb : Below w.heap.size w w') : FamAt w' B p v S :=
  h.upon (F := fun _ => False) (Upon.of_below hb) (fun e => e) (fun _ _ e => e)
theorem FamAt.slice {w : World} {B p : Nat} {v : Value} {S : Nat → Bool} (h : FamAt w B p v S) : ∃ (a : Option Addr) (cap : Nat), v = .slice a (fam S 16).length cap := h.own.slice
def Mine (p : Nat) (v : Value) (k : Nat) : Prop := k = p ∨ v.ownBlock = some k
theorem FamAt.mine {w : World} {B p : Nat} {v : Value} {S : Nat → Bool} (h : FamAt w B p v S) : ∀ k, Mine p v k → B ≤ k := by
  rintro k (rfl | hk)
  · exact h.base
  · exact (h.own.lt hk).1
def PutEnd (B p : Nat) (v : Value) (S : Nat → Bool) (x : Nat) (w : World) (e : Ending) (w' : World) : Prop :=
  e = .returned (.bool (!S x)) ∧ ∃ v', FamAt w' B p v' (addS S x) ∧ Upon (Mine p v) w w' ∧ NewOr w v v'
theorem fam_put {S : Nat → Bool} {x k : Nat} (hx : x < k) (hn : S x = false) : putL (fam S k) (fam S x).length x = fam (addS S x) k := by
  obtain ⟨R, h1, h2, _⟩ := fam_add hx hn
  unfold putL
  rw [h1, h2, List.take_left, List.drop_left]
set_option maxRecDepth 100000 in
theorem put_any (B p : Nat) (v : Value) (S : Nat → Bool) (x : Nat) (hx : x < 16) (w : World) (hB : B ≤ w.heap.size) (h : FamAt w B p v S) :
    Calls Tryz.prog 154 #[.pointer (some ⟨p, 0, none⟩), .int .i64 x] w (PutEnd B p v S x w) := by
  obtain ⟨hp1, hp2, hp3, hp4⟩ := fam_place S x 16 hx
  obtain ⟨a, cap, rfl⟩ := h.slice
  have hplt := h.lt
  obtain ⟨n, hn⟩ : ∃ n, (fam S 16).length = n := ⟨_, rfl⟩
  obtain ⟨q, hq⟩ : ∃ q, (fam S x).length = q := ⟨_, rfl⟩
  have hn16 : n ≤ 16 := by rw [← hn]; exact fam_len_le _ _
  rw [hn] at hp1 hp3 hp4 h ⊢
  rw [hq] at hp1 hp2 hp3 hp4
  have HLO := Lib.hid hp2; have HHI := Lib.hid hp3; have HN := Lib.hid hn; have HQ := Lib.hid hq; have HH := Lib.hid h
  have hcell := h.cell
  have hqi : (q : Int) ≤ (n : Int) := by omega
  cases hs : S x with
  | true =>
    have HV := Lib.hid (hp4.trans hs); have HSX := Lib.hid hs
    clear hp2 hp3 hp4 hn hq h hs
    go_enter Tryz.func154, Tryz.ntmps154
    go_wp2_with fail
    refine (search_own B a n cap q (fam S 16) x true _ HN.out HH.out.own (by omega) hp1 HLO.out HHI.out HV.out).mono ?_
    rintro e w1 ⟨rfl, hd⟩
    go_wp2_with fail
    go_ret
    refine ⟨by rw [HSX.out]; rfl, _, ?_, Upon.of_below hd.below, .inl rfl⟩
    rw [addS_have HSX.out]
    exact HH.out.next hd.below
  | false =>
    have HV := Lib.hid (hp4.trans hs); have HSX := Lib.hid hs
    clear hp2 hp3 hp4 hn hq h hs
    go_enter Tryz.func154, Tryz.ntmps154
    go_wp2_with fail
    refine (search_own B a n cap q (fam S 16) x false _ HN.out HH.out.own (by omega) hp1 HLO.out HHI.out HV.out).mono ?_
    rintro e w1 ⟨rfl, hd⟩
    have hb1 := hd.below
    have H1 := HH.out.next hb1
    have hc1 := H1.cell
    have hplt1 := H1.lt
    have hal := alloc_below w1 (.cells #[.int .i64 x] 3)
    have H2 := H1.next hal
    have HB2 := Lib.hid (below_onto hb1 hal)
    have HVB := Lib.hid (heap_alloc_new w1 (.cells #[.int .i64 x] 3) : (w1.alloc (.cells #[.int .i64 x] 3)).heap[w1.heap.size]? = some (.cells #[.int .i64 x] 3 (0, 0)))
    have HNE := Lib.hid (show (Value.slice a n cap).ownBlock ≠ some w1.heap.size by
      intro e
      have := (H1.own.lt e).2
      omega)
    have HH2 := Lib.hid H2
    have HSZ := Lib.hid (show B ≤ (w1.alloc (.cells #[.int .i64 x] 3)).heap.size by have := hb1.size; have := hal.size; omega)
    have HSW := Lib.hid (show w.heap.size ≤ (w1.alloc (.cells #[.int .i64 x] 3)).heap.size by have := hb1.size; have := hal.size; omega)
    clear hd hb1 H1 hal H2
    go_wp2_with fail
    refine (insert_any B w1.heap.size _ (fam S 16) x q (by rw [HN.out]; exact hp1) (by rw [HN.out]; omega) _ HSZ.out HH2.out.own HVB.out HNE.out).mono ?_
    rintro e w3 ⟨v', rfl, hown, hup, hnew⟩
    have hc3 := hup.cell HH2.out.cell (fun e => HH2.out.ne e)
    have hf3 : w3.frozen? ⟨p, 0, none⟩ = false := (hup.frozen (a := ⟨p, 0, none⟩) HH2.out.lt (fun e => HH2.out.ne e)).trans HH2.out.fz
    rw [show putL (fam S 16) q x = fam (addS S x) 16 by rw [← HQ.out]; exact fam_put hx HSX.out] at hown
    obtain ⟨a3, c3, rfl⟩ := hown.slice
    have hne3 : (Value.slice a3 (fam (addS S x) 16).length c3).ownBlock ≠ some p := by
      rcases hnew with h | ⟨g, h, hg⟩
      · rw [h]; exact HH2.out.ne
      · rw [h]; intro e; injection e with e; have := HH2.out.lt; omega
    have hfin : PutEnd B p (.slice a n cap) S x w (.returned (.bool true)) (w3.setCell ⟨p, 0, none⟩ (.slice a3 (fam (addS S x) 16).length c3)) := by
      refine ⟨by rw [HSX.out]; rfl, _, ⟨World.cell?_setCell_same _ _ _ hc3, ?_, by rw [World.frozen?_setCell]; exact hf3, hne3, HH2.out.base⟩, ?_, ?_⟩
      · exact hown.other (fun g hg _ _ => Below.heap_setCell w3 ⟨p, 0, none⟩ _ g (by show g ≠ p; intro e; subst e; exact hne3 hg))
      · exact ((Upon.of_below HB2.out).trans (F := Mine p (.slice a n cap)) (hup.mono (G := Mine p (.slice a n cap)) (fun k _ e => .inr e)) (fun _ _ e => e)).put (.inl rfl) 0 _
      · rcases hnew with h | ⟨g, h, hg⟩
        · exact .inl h
        · exact .inr ⟨g, h, Nat.le_trans HSW.out hg⟩
    have HF := Lib.hid hfin
    clear hfin hown hup hnew hne3
    go_wp2_with fail
    go_ret
    exact HF.out
def PutV (r : Bool) (B p : Nat) (v : Value) (S : Nat → Bool) (x : Nat) (w : World) (e : Ending) (w' : World) : Prop :=
  e = .returned (.bool r) ∧ ∃ v', FamAt w' B p v' (addS S x) ∧ Upon (Mine p v) w w' ∧ NewOr w v v'
theorem put_old (B p : Nat) (v : Value) (S : Nat → Bool) (x : Nat) (hx : x < 16) (w : World) (hB : B ≤ w.heap.size) (h : FamAt w B p v S) (hs : S x = true) :
    Calls Tryz.prog 154 #[.pointer (some ⟨p, 0, none⟩), .int .i64 x] w (PutV false B p v S x w) :=
  (put_any B p v S x hx w hB h).mono fun e w' k => by unfold PutEnd at k; rw [hs] at k; exact k
theorem put_new (B p : Nat) (v : Value) (S : Nat → Bool) (x : Nat) (hx : x < 16) (w : World) (hB : B ≤ w.heap.size) (h : FamAt w B p v S) (hs : S x = false) :
    Calls Tryz.prog 154 #[.pointer (some ⟨p, 0, none⟩), .int .i64 x] w (PutV true B p v S x w) :=
  (put_any B p v S x hx w hB h).mono fun e w' k => by unfold PutEnd at k; rw [hs] at k; exact k
set_option maxRecDepth 100000 in
theorem cloneF_any (g o n cap : Nat) (f : Nat → Int) (h1 : 1 ≤ n) (hn : n ≤ 1000) (w : World) (hr : Row w g o n f) (hgl : g < w.heap.size) :
    Calls Tryz.prog 240 #[.slice (some ⟨g, o, none⟩) n cap] w (Gives 3 (rowL f n) w) := by
  obtain ⟨i0, hi, hz0, hz1, hz2⟩ := info_parts Tryz.infoInt
  have hmade : OwnX (w.alloc (.cells #[] 3)) w.heap.size 3 (.slice (some ⟨w.heap.size, 0, none⟩) 0 0) [] := OwnX.made w _ (Nat.le_refl _) _
  have HO : Hid ((w.alloc (.cells #[] 3)).ownsRow w.heap.size 3 1 (.slice (some ⟨w.heap.size, 0, none⟩) 0 0) 0 []) := Lib.hid hmade
  have k1 := Lib.hid (rowV_cells (hr.below (alloc_below w (.cells #[] 3)) hgl))
  have k2 := Lib.hid (rowV_one f n)
  have k3 : Hid (0 + n ≤ maxLen) := Lib.hid (by unfold maxLen; omega)
  have k4 : Hid ((0 + n) * 8 ≤ 140737488355328) := Lib.hid (by omega)
  have k5 : Hid (w.heap.size ≤ (w.alloc (.cells #[] 3)).heap.size) := Lib.hid (by rw [alloc_size]; omega)
  have k6 : Hid ((rowV f n).length = n * 1) := Lib.hid (by rw [rowV_len]; omega)
  have HAB := Lib.hid (alloc_below w (.cells #[] 3))
  have heq : ∀ W : World, (binOp .eql 144 (.slice (some ⟨g, o, none⟩) n cap) (.slice none 0 0)).run Tryz.prog W = .ok (.bool false) W := fun W => Lib.run_eql_slice_nil W 144 3 _ _ _ _ _ Tryz.underlying144
  clear hmade hr
  go_enter Tryz.func240, Tryz.ntmps240
  go_wp2_with (at_builtin; refine wpList_append_own _ rfl (.tmp 5) (.tmp 6) 144 rfl w.heap.size 3 i0 (.int .i64 0) 1 8 Tryz.underlying144 hi hz0 hz1 hz2 rfl (by decide) _ _ _ rfl HO.out ⟨g, o, none⟩ n cap (rowV f n) rfl k6.out k1.out k2.out k3.out k4.out k5.out ?_)
  intro v' w5 hown' hgrow _
  have hg5 : Below w.heap.size w w5 := HAB.out.trans ((Below.refl w.heap.size _).grown hgrow k5.out (fun q hq => (HO.out.lt q hq).1))
  have HO5 := Lib.hid (OwnX.rowV hown'); have HG5 := Lib.hid hg5
  clear hown' hgrow hg5
  go_wp2_with fail
  go_ret
  exact ⟨_, rfl, HO5.out, HG5.out⟩
set_option maxRecDepth 100000 in
theorem cloneI_any (g o n cap : Nat) (f : Nat → Int) (h1 : 1 ≤ n) (hn : n ≤ 1000) (w : World) (hr : Row w g o n f) (hgl : g < w.heap.size) :
    Calls Tryz.prog 110 #[.slice (some ⟨g, o, none⟩) n cap] w (Gives 3 (rowL f n) w) := by
  obtain ⟨i0, hi, hz0, hz1, hz2⟩ := info_parts Tryz.infoInt
  have hmade : OwnX (w.alloc (.cells #[] 3)) w.heap.size 3 (.slice (some ⟨w.heap.size, 0, none⟩) 0 0) [] := OwnX.made w _ (Nat.le_refl _) _
  have HO : Hid ((w.alloc (.cells #[] 3)).ownsRow w.heap.size 3 1 (.slice (some ⟨w.heap.size, 0, none⟩) 0 0) 0 []) := Lib.hid hmade
  have k1 := Lib.hid (rowV_cells (hr.below (alloc_below w (.cells #[] 3)) hgl))
  have k2 := Lib.hid (rowV_one f n)
  have k3 : Hid (0 + n ≤ maxLen) := Lib.hid (by unfold maxLen; omega)
  have k4 : Hid ((0 + n) * 8 ≤ 140737488355328) := Lib.hid (by omega)
  have k5 : Hid (w.heap.size ≤ (w.alloc (.cells #[] 3)).heap.size) := Lib.hid (by rw [alloc_size]; omega)
  have k6 : Hid ((rowV f n).length = n * 1) := Lib.hid (by rw [rowV_len]; omega)
  have HAB := Lib.hid (alloc_below w (.cells #[] 3))
  have heq : ∀ W : World, (binOp .eql 28 (.slice (some ⟨g, o, none⟩) n cap) (.slice none 0 0)).run Tryz.prog W = .ok (.bool false) W := fun W => Lib.run_eql_slice_nil W 28 3 _ _ _ _ _ Tryz.underlying28
  clear hmade hr
  go_enter Tryz.func110, Tryz.ntmps110
  go_wp2_with (at_builtin; refine wpList_append_own _ rfl (.tmp 5) (.tmp 6) 28 rfl w.heap.size 3 i0 (.int .i64 0) 1 8 Tryz.underlying28 hi hz0 hz1 hz2 rfl (by decide) _ _ _ rfl HO.out ⟨g, o, none⟩ n cap (rowV f n) rfl k6.out k1.out k2.out k3.out k4.out k5.out ?_)
  intro v' w5 hown' hgrow _
  have hg5 : Below w.heap.size w w5 := HAB.out.trans ((Below.refl w.heap.size _).grown hgrow k5.out (fun q hq => (HO.out.lt q hq).1))
  have HO5 := Lib.hid (OwnX.rowV hown'); have HG5 := Lib.hid hg5
  clear hown' hgrow hg5
  go_wp2_with fail
  go_ret
  exact ⟨_, rfl, HO5.out, HG5.out⟩
def FromR (n : Nat) (f : Nat → Int) (w : World) (i : Value) (wr : World) : Prop :=
  ∃ (k : Nat) (v : Value), k ≤ n ∧ i = .int .i64 k ∧ FamAt wr w.heap.size w.heap.size v (memS k f) ∧ Below w.heap.size w wr ∧ ∀ j, j < k → (1 ≤ f j ∧ f j ≤ 15) ∧ ∀ i, i < j → f i ≠ f j
def FromEnd (n : Nat) (f : Nat → Int) (w : World) (e : Ending) (w' : World) : Prop :=
  Below w.heap.size w w' ∧ ((famOkB n f = true ∧ ∃ v, e = .returned (.tuple #[v, .bool true]) ∧ OwnX w' w.heap.size 3 v (fam (memS n f) 16)) ∨ (famOkB n f = false ∧ e = .returned (.tuple #[.slice none 0 0, .bool false])))
set_option maxRecDepth 100000 in
theorem familyFrom_len (a : Option Addr) (n cap : Nat) (f : Nat → Int) (h : n < 1 ∨ 7 < n) (hm : n ≤ 9223372036854775807) (w : World) :
    Calls Tryz.prog 128 #[.slice a n cap] w (FromEnd n f w) := by
  have HF := Lib.hid (famOk_len (n := n) (f := f) (by omega))
  rcases h with h | h
  · have hd1 : decide ((n : Int) < 1) = true := by simp; omega
    go_enter Tryz.func128, Tryz.ntmps128
    go_wp2_with fail
    go_ret2
    exact ⟨Below.refl _ _, .inr ⟨HF.out, by first | rfl | trivial⟩⟩
  · have hd1 : decide ((n : Int) < 1) = false := by simp; omega
    have hd2 : decide ((7 : Int) < (n : Int)) = true := by simp; omega
    go_enter Tryz.func128, Tryz.ntmps128
    go_wp2_with fail
    go_ret2
    exact ⟨Below.refl _ _, .inr ⟨HF.out, by first | rfl | trivial⟩⟩
set_option maxRecDepth 100000 in
theorem familyFrom_in (g o n cap : Nat) (f : Nat → Int) (h1 : 1 ≤ n) (h7 : n ≤ 7) (w : World) (hr : Row w g o n f) (hg : g < w.heap.size) :
    Calls Tryz.prog 128 #[.slice (some ⟨g, o, none⟩) n cap] w (FromEnd n f w) := by
  have hd1 : decide ((n : Int) < 1) = false := by simp; omega
  have hd2 : decide ((7 : Int) < (n : Int)) = false := by simp; omega
  have hst : FromR n f w (.int .i64 0) (w.alloc (.cells #[.slice none 0 0] 144)) := by
    refine ⟨0, .slice none 0 0, Nat.zero_le _, rfl, ?_, alloc_below w _, fun j hj => absurd hj (Nat.not_lt_zero _)⟩
    rw [memS_zero]
    refine ⟨(cell_new w _ _).1, ?_, World.frozen?_alloc_at _ _ w.heap.size 0 rfl, (by intro e; cases e), Nat.le_refl _⟩
    rw [fam_none]; exact OwnX.nil _ _ _
  have HR := Lib.hid hr; clear hr
  go_enter Tryz.func128, Tryz.ntmps128
  go_wp2_with fail
  go_loopw [17] (fun i wr => FromR n f w i wr) (fun i _ => n - (intOf i).toNat)
  case atStart => exact hst
  case round =>
    clear hst
    obtain ⟨k, v, hk, rfl, hfam, hbel, hall⟩ := hrel
    have hr := HR.out.below hbel hg
    have HB := Lib.hid hbel; have HALL := Lib.hid hall; have HFAM := Lib.hid hfam
    have hcell := hfam.cell
    clear hbel hall hfam
    by_cases hlt : k < n
    · have hki : (k : Int) < (n : Int) := by omega
      have hc := hr k hlt
      clear hr
      by_cases hx1 : ¬ (1 ≤ f k ∧ f k ≤ 15)
      · have HX0 := Lib.hid (okX_no.2 hx1)
        have HF := Lib.hid (famOk_no (f := f) hlt (fun e => hx1 e.1))
        clear hx1
        go_wp2_with fail
        refine (pointsOk_val _ false HX0.out _).mono ?_
        rintro e w' ⟨rfl, rfl⟩
        go_wp2_with fail
        go_ret2
        exact ⟨HB.out, .inr ⟨HF.out, by first | rfl | trivial⟩⟩
      · obtain ⟨x, hx⟩ : ∃ x : Nat, f k = (x : Int) := ⟨(f k).toNat, by omega⟩
        have hx16 : x < 16 := by omega
        have hx0 : 1 ≤ x := by omega
        rw [hx] at hc
        have HX := Lib.hid hx
        have HX0 : Hid (okX (x : Int) = true) := Lib.hid (okX_iff.2 (by omega))
        clear hx1 hx
        cases hs : memS k f x with
        | true =>
          have HF := Lib.hid (famOk_no (f := f) hlt (fun e => by
            have := (memS_new HX.out).2 e.2
            rw [hs] at this; cases this))
          have HSX := Lib.hid hs
          clear hs
          go_wp2_with fail
          refine (pointsOk_val _ true HX0.out _).mono ?_
          rintro e w' ⟨rfl, rfl⟩
          go_wp2_with fail
          refine (put_old w.heap.size w.heap.size v (memS k f) x hx16 _ HB.out.size HFAM.out HSX.out).mono ?_
          rintro e w1 ⟨rfl, v', hf1, hu1, hn1⟩
          have HB1 := Lib.hid (HB.out.trans (hu1.below (B := w.heap.size) HFAM.out.mine HB.out.size))
          clear hf1 hu1 hn1
          go_wp2_with fail
          go_ret2
          exact ⟨HB1.out, .inr ⟨HF.out, by first | rfl | trivial⟩⟩
        | false =>
          have HSX := Lib.hid hs
          clear hs
          go_wp2_with fail
          refine (pointsOk_val _ true HX0.out _).mono ?_
          rintro e w' ⟨rfl, rfl⟩
          go_wp2_with fail
          refine (put_new w.heap.size w.heap.size v (memS k f) x hx16 _ HB.out.size HFAM.out HSX.out).mono ?_
          rintro e w1 ⟨rfl, v', hf1, hu1, hn1⟩
          have HB1 := Lib.hid (HB.out.trans (hu1.below (B := w.heap.size) HFAM.out.mine HB.out.size))
          have hrel : FromR n f w (.int .i64 ((k + 1 : Nat) : Int)) w1 := by
            refine ⟨k + 1, v', by omega, rfl, by rw [memS_succ HX.out]; exact hf1, HB1.out, fun j hj => ?_⟩
            by_cases e : j = k
            · subst e
              exact ⟨by have := HX.out; omega, (memS_new HX.out).1 HSX.out⟩
            · exact HALL.out j (by omega)
          have HREL := Lib.hid hrel
          clear hf1 hu1 hn1 hrel
          go_wp2_with fail
          go_roundw
          case rel => exact HREL.out
          case measure => simp [intOf]; omega
    · have hki : ¬ (k : Int) < (n : Int) := by omega
      have hkn : k = n := by omega
      subst hkn
      have HF := Lib.hid (famOk_of h1 h7 HALL.out)
      clear hr
      obtain ⟨a3, c3, rfl⟩ := HFAM.out.slice
      go_wp2_with fail
      go_ret2
      exact ⟨HB.out, .inl ⟨HF.out, _, rfl, HFAM.out.own⟩⟩
theorem familyFrom_any (a : Option Addr) (n cap : Nat) (f : Nat → Int) (w : World) (hi : Ints w a n f) :
    Calls Tryz.prog 128 #[.slice a n cap] w (FromEnd n f w) := by
  by_cases h : 1 ≤ n ∧ n ≤ 7
  · obtain ⟨b, o, rfl, hbl, hrow⟩ := hi.row h.1
    exact familyFrom_in b o n cap f h.1 h.2 w hrow hbl
  · exact familyFrom_len a n cap f (by omega) hi.1.1 w
set_option maxRecDepth 100000 in
theorem FamilyOk_any (a : Option Addr) (n cap : Nat) (f : Nat → Int) (w : World) (hi : Ints w a n f) :
    Calls Tryz.prog 83 #[.slice a n cap] w fun e w' => e = .returned (.bool (famOkB n f)) ∧ Below w.heap.size w w' := by
  have HI := Lib.hid hi; clear hi
  go_enter Tryz.func83, Tryz.ntmps83
  go_wp2_with fail
  refine (familyFrom_any a n cap f _ HI.out).mono ?_
  rintro e w1 ⟨hb, ⟨hf, v, rfl, hown⟩ | ⟨hf, rfl⟩⟩
  · have HF := Lib.hid hf; have HB := Lib.hid hb
    clear hf hb hown
    go_wp2_with fail
    go_ret
    exact ⟨retb HF.out.symm, HB.out⟩
  · have HF := Lib.hid hf; have HB := Lib.hid hb
    clear hf hb
    go_wp2_with fail
    go_ret
    exact ⟨retb HF.out.symm, HB.out⟩
theorem FamilyOk_val (a : Option Addr) (n cap : Nat) (f : Nat → Int) (v : Bool) (w : World) (hv : famOkB n f = v) (hi : Ints w a n f) :
    Calls Tryz.prog 83 #[.slice a n cap] w fun e w' => e = .returned (.bool v) ∧ Below w.heap.size w w' := by subst hv; exact FamilyOk_any a n cap f w hi
def wfL (n : Nat) (f : Nat → Int) : List Int := if famOkB n f then rowL (wfF n f) n else []
set_option maxRecDepth 100000 in
theorem WorldFrom_any (a : Option Addr) (n cap : Nat) (f : Nat → Int) (w : World) (hi : Ints w a n f) :
    Calls Tryz.prog 186 #[.slice a n cap] w (Gives 3 (wfL n f) w) := by
  have HI := Lib.hid hi; clear hi
  cases hf : famOkB n f with
  | true =>
    rw [show wfL n f = rowL (wfF n f) n by unfold wfL; rw [if_pos hf]]
    have hP := famOk_iff.1 hf
    have HF := Lib.hid hf; clear hf
    have h7 := hP.hi
    obtain ⟨b, o, rfl, hbl, hrow⟩ := HI.out.row hP.lo
    have HR := Lib.hid hrow
    clear hP hrow
    go_enter Tryz.func186, Tryz.ntmps186
    go_wp2_with fail
    refine (FamilyOk_val _ n cap f true _ HF.out HI.out).mono ?_
    rintro e w1 ⟨rfl, hb1⟩
    have HB := Lib.hid hb1; have HR1 := Lib.hid (HR.out.below hb1 hbl)
    have hbl1 : b < w1.heap.size := Nat.lt_of_lt_of_le hbl hb1.size
    clear hb1
    go_wp2_with fail
    refine (worldAmong_any b o n cap f h7 _ HR1.out hbl1).mono ?_
    rintro e w2 ⟨v, rfl, hown, hb2⟩
    have HO := Lib.hid hown; have HB2 := Lib.hid hb2; clear hown hb2
    go_wp2_with fail
    go_ret
    exact ⟨_, rfl, HO.out.base HB.out.size, below_onto HB.out HB2.out⟩
  | false =>
    rw [show wfL n f = [] by unfold wfL; rw [if_neg (by rw [hf]; decide)]]
    have HF := Lib.hid hf; clear hf
    go_enter Tryz.func186, Tryz.ntmps186
    go_wp2_with fail
    refine (FamilyOk_val _ n cap f false _ HF.out HI.out).mono ?_
    rintro e w1 ⟨rfl, hb1⟩
    have HB := Lib.hid hb1; have HN := Lib.hid (OwnX.nil w1 w.heap.size 3); clear hb1
    go_wp2_with fail
    go_ret
    exact ⟨_, rfl, HN.out, HB.out⟩
theorem pow20i (k : Nat) (hk : k < 4) : (1 : Int) ≤ 2 ^ k ∧ (2 : Int) ^ k ≤ 8 := by
  rcases (show k = 0 ∨ k = 1 ∨ k = 2 ∨ k = 3 by omega) with rfl | rfl | rfl | rfl <;> decide
set_option maxRecDepth 100000 in
theorem points_any (vin : Value) (s : Int) (w : World) :
    Calls Tryz.prog 198 #[vin, .int .i64 s] w (Gives 3 (ptsL s 4) w) := by
  obtain ⟨i0, hi, hz0, hz1, hz2⟩ := info_parts Tryz.infoInt
  have hst : OwnX w w.heap.size 3 (.slice none 0 0) (ptsL s 0) := OwnX.nil _ _ _
  go_enter Tryz.func198, Tryz.ntmps198
  go_wp2_with fail
  go_loopw [5, 7] (fun v i wr => ∃ k : Nat, k ≤ 4 ∧ i = .int .i64 k ∧ OwnX wr w.heap.size 3 v (ptsL s k) ∧ Below w.heap.size w wr) (fun _ i _ => 4 - (intOf i).toNat)
  case atStart => exact ⟨0, Nat.zero_le _, rfl, hst, Below.refl _ _⟩
  case round =>
    clear hst
    obtain ⟨k, hk, rfl, hown, hbel⟩ := hrel
    obtain ⟨a9, c9, rfl⟩ := hown.slice
    by_cases hlt : k < 4
    · have hki : (k : Int) < 4 := by omega
      have ⟨hp1, hp2⟩ := pow20i k hlt
      cases hg : hasB s k with
      | true =>
        have HS := Lib.hid (pts_yes hg)
        have HG := Lib.hid hg; clear hg
        have HL := Lib.hid (show (ptsL s k).length ≤ 1000 by have := pts_len s k; omega)
        have HSZ := Lib.hid hbel.size; have HB := Lib.hid hbel
        have HO : Hid (wr.ownsRow w.heap.size 3 1 (.slice a9 (ptsL s k).length c9) (ptsL s k).length ((ptsL s k).map (Value.int .i64))) := Lib.hid hown
        clear hown hbel
        go_wp2_with fail
        refine (hasInt_any _ k true (by omega) _ HG.out).mono ?_
        rintro e w' ⟨rfl, rfl⟩
        have k1 := Lib.hid (fun (j : Nat) (u : Value) (h : [Value.int .i64 ((2 : Int) ^ k)][j]? = some u) => cell_one_new wr (.int .i64 ((2 : Int) ^ k)) 3 j u h)
        have k2 : Hid (∀ u ∈ [Value.int .i64 ((2 : Int) ^ k)], u.oneCell' = true) := Lib.hid (by intro u hu; simp at hu; subst hu; rfl)
        have k3 : Hid ((ptsL s k).length + 1 ≤ maxLen) := Lib.hid (by have := HL.out; unfold maxLen; omega)
        have k4 : Hid (((ptsL s k).length + 1) * 8 ≤ 140737488355328) := Lib.hid (by have := HL.out; omega)
        have k5 : Hid (w.heap.size ≤ (wr.alloc (.cells #[.int .i64 ((2 : Int) ^ k)] 3)).heap.size) := Lib.hid (by rw [alloc_size]; have := HSZ.out; omega)
        go_wp2_with (at_builtin; refine wpList_append_own _ rfl (.tmp 13) (.tmp 16) 28 rfl w.heap.size 3 i0 (.int .i64 0) 1 8 Tryz.underlying28 hi hz0 hz1 hz2 rfl (by decide) _ _ _ rfl (HO.out.alloc _) ⟨wr.heap.size, 0, none⟩ 1 1 [.int .i64 ((2 : Int) ^ k)] rfl rfl k1.out k2.out k3.out k4.out k5.out ?_)
        intro v' w5 hown' hgrow _
        have hg5 : Below w.heap.size wr w5 := ((Below.refl w.heap.size wr).alloc HSZ.out _).grown hgrow (by have := HSZ.out; rw [alloc_size]; omega) (fun q hq => (HO.out.lt q hq).1)
        have ho5 := OwnX.snoc hown'
        clear hown' hgrow k1 k2 k3 k4 k5
        have HO5 := Lib.hid ho5; have HG5 := Lib.hid hg5; clear ho5 hg5
        go_wp2_with fail
        go_roundw
        case rel => exact ⟨k + 1, by omega, by go_num, by rw [HS.out]; exact HO5.out, HB.out.trans HG5.out⟩
        case measure => simp [intOf]; omega
      | false =>
        have HS := Lib.hid (pts_no hg)
        have HG := Lib.hid hg; clear hg
        have HB := Lib.hid hbel; have HO := Lib.hid hown
        clear hown hbel
        go_wp2_with fail
        refine (hasInt_any _ k false (by omega) _ HG.out).mono ?_
        rintro e w' ⟨rfl, rfl⟩
        go_wp2_with fail
        go_roundw
        case rel => exact ⟨k + 1, by omega, by go_num, by rw [HS.out]; exact HO.out, HB.out⟩
        case measure => simp [intOf]; omega
    · have hki : ¬ (k : Int) < 4 := by omega
      have hkn : k = 4 := by omega
      subst hkn
      have HO := Lib.hid hown; have HB := Lib.hid hbel; clear hown hbel
      go_wp2_with fail
      go_ret
      exact ⟨_, rfl, HO.out, HB.out⟩
set_option maxRecDepth 100000 in
theorem sums_row (g o n cap : Nat) (f : Nat → Int) (s : Int) (hn : n ≤ 1000) (w : World) (hr : Row w g o n f) (hgl : g < w.heap.size) :
    Calls Tryz.prog 199 #[.slice (some ⟨g, o, none⟩) n cap, .int .i64 s] w (Gives 3 (rowL (fun k => orI s (f k)) n) w) := by
  obtain ⟨i0, hi, hz0, hz1, hz2⟩ := info_parts Tryz.infoInt
  obtain ⟨w3, hmk, hown3, hgr3⟩ := run_make_own (P := Tryz.prog) w w.heap.size 28 3 i0 (.int .i64 0) 1 Tryz.underlying28 hi hz0 hz1 .i64 .i64 n (by rw [hz2]; omega) (by unfold maxLen; omega) (Nat.le_refl _)
  have hb3 : Below w.heap.size w w3 := (Below.refl _ _).grown hgr3 (Nat.le_refl _) (fun q hq => by cases hq)
  have hst : OwnX w3 w.heap.size 3 (.slice (some ⟨w.heap.size, 0, none⟩) 0 n) (rowL (fun k => orI s (f k)) 0) := hown3
  have hsb := hb3
  have HROW := Lib.hid hr
  clear hown3 hgr3 hb3 hr
  go_enter Tryz.func199, Tryz.ntmps199
  go_wp2_with fail
  go_loopw [5, 13] (fun v i wr => ∃ k : Nat, k ≤ n ∧ i = .int .i64 k ∧ OwnX wr w.heap.size 3 v (rowL (fun k => orI s (f k)) k) ∧ Below w.heap.size w wr) (fun _ i _ => n - (intOf i).toNat)
  case atStart => exact ⟨0, Nat.zero_le _, rfl, hst, hsb⟩
  case round =>
    clear hst hsb
    obtain ⟨k, hk, rfl, hown, hbel⟩ := hrel
    obtain ⟨a9, c9, rfl⟩ := hown.slice
    by_cases hlt : k < n
    · have hki : (k : Int) < (n : Int) := by omega
      have hc := (HROW.out.below hbel hgl) k hlt
      have HS := Lib.hid (rowL_succ (fun k => orI s (f k)) k)
      have HL := Lib.hid (show (rowL (fun k => orI s (f k)) k).length ≤ 1000 by rw [rowL_len]; omega)
      have HSZ := Lib.hid hbel.size; have HB := Lib.hid hbel
      have HO : Hid (wr.ownsRow w.heap.size 3 1 (.slice a9 (rowL (fun k => orI s (f k)) k).length c9) (rowL (fun k => orI s (f k)) k).length ((rowL (fun k => orI s (f k)) k).map (Value.int .i64))) := Lib.hid hown
      clear hown hbel
      have k1 := Lib.hid (fun (j : Nat) (u : Value) (h : [Value.int .i64 (bits .or .i64 s (f k))][j]? = some u) => cell_one_new wr (.int .i64 (bits .or .i64 s (f k))) 3 j u h)
      have k2 : Hid (∀ u ∈ [Value.int .i64 (bits .or .i64 s (f k))], u.oneCell' = true) := Lib.hid (by intro u hu; simp at hu; subst hu; rfl)
      have k3 : Hid ((rowL (fun k => orI s (f k)) k).length + 1 ≤ maxLen) := Lib.hid (by have := HL.out; unfold maxLen; omega)
      have k4 : Hid (((rowL (fun k => orI s (f k)) k).length + 1) * 8 ≤ 140737488355328) := Lib.hid (by have := HL.out; omega)
      have k5 : Hid (w.heap.size ≤ (wr.alloc (.cells #[.int .i64 (bits .or .i64 s (f k))] 3)).heap.size) := Lib.hid (by rw [alloc_size]; have := HSZ.out; omega)
      go_wp2_with (at_builtin; refine wpList_append_own _ rfl (.tmp 17) (.tmp 21) 28 rfl w.heap.size 3 i0 (.int .i64 0) 1 8 Tryz.underlying28 hi hz0 hz1 hz2 rfl (by decide) _ _ _ rfl (HO.out.alloc _) ⟨wr.heap.size, 0, none⟩ 1 1 [.int .i64 (bits .or .i64 s (f k))] rfl rfl k1.out k2.out k3.out k4.out k5.out ?_)
      intro v' w5 hown' hgrow _
      have hg5 : Below w.heap.size wr w5 := ((Below.refl w.heap.size wr).alloc HSZ.out _).grown hgrow (by have := HSZ.out; rw [alloc_size]; omega) (fun q hq => (HO.out.lt q hq).1)
      have ho5 := OwnX.snoc hown'
      clear hown' hgrow k1 k2 k3 k4 k5
      have HO5 := Lib.hid ho5; have HG5 := Lib.hid hg5; clear ho5 hg5
      go_wp2_with fail
      go_roundw
      case rel => exact ⟨k + 1, by omega, by go_num, by rw [HS.out]; exact HO5.out, HB.out.trans HG5.out⟩
      case measure => simp [intOf]; omega
    · have hki : ¬ (k : Int) < (n : Int) := by omega
      have hkn : k = n := by omega
      subst hkn
      have HO := Lib.hid hown; have HB := Lib.hid hbel; clear hown hbel
      go_wp2_with fail
      go_ret
      exact ⟨_, rfl, HO.out, HB.out⟩
theorem sumL_row (S : Nat → Bool) (s : Int) : sumL S s = rowL (fun k => orI s ((fam S 16).getD k 0)) (fam S 16).length := by
  unfold sumL rowL
  apply List.ext_getElem?
  intro i
  rw [List.getElem?_map, List.getElem?_map]
  by_cases hi : i < (fam S 16).length
  · rw [List.getElem?_range hi, Option.map_some, List.getD_eq_getElem?_getD, List.getElem?_eq_getElem hi]; rfl
  · rw [List.getElem?_eq_none (by omega), List.getElem?_eq_none (by simp; omega)]; rfl
end Go.Proofs.YthaickihoagnmaaGreatDoor
