import Derived.Test.YthaickihoagnmaaGreatDoorTxOne
import Derived.Test.YthaickihoagnmaaGreatDoorOwnH
import Derived.Deep.RegionHeld3
namespace Go.Proofs.YthaickihoagnmaaGreatDoor
set_option linter.unusedVariables false
set_option linter.unusedSimpArgs false
open Go.RowKit Go.Maps

/-- n pairs lie in a row from a cell on -/
def RowQ (w : World) (b o n : Nat) (P Q : Nat → Int) : Prop := ∀ i, i < n → w.cell? ⟨b, o + i * 2, none⟩ = some (.int .i64 (P i)) ∧ w.cell? ⟨b, o + i * 2 + 1, none⟩ = some (.int .i64 (Q i))
theorem RowQ.below {w w' : World} {b o n B : Nat} {P Q : Nat → Int} (h : RowQ w b o n P Q) (hb : Below B w w') (hB : b < B) : RowQ w' b o n P Q := fun i hi =>
  ⟨(hb.cell (p := ⟨b, o + i * 2, none⟩) hB).trans (h i hi).1, (hb.cell (p := ⟨b, o + i * 2 + 1, none⟩) hB).trans (h i hi).2⟩
theorem RowQ.same {w w' : World} {b o n : Nat} {P Q : Nat → Int} (h : RowQ w b o n P Q) (hb : w'.heap[b]? = w.heap[b]?) : RowQ w' b o n P Q := fun i hi =>
  ⟨(World.cell?_of_block hb).trans (h i hi).1, (World.cell?_of_block hb).trans (h i hi).2⟩
/-- a slice of pairs: nil or empty, or in a row -/
def Prq (w : World) (a : Option Addr) (n : Nat) (P Q : Nat → Int) : Prop :=
  (n ≤ 9223372036854775807 ∧ ∀ i, i < n → I64 (P i) ∧ I64 (Q i)) ∧ (n = 0 ∨ ∃ b o, a = some ⟨b, o, none⟩ ∧ b < w.heap.size ∧ RowQ w b o n P Q)
theorem Prq.below {w w' : World} {B n : Nat} {a : Option Addr} {P Q : Nat → Int} (h : Prq w a n P Q) (hb : Below B w w') (hB : w.heap.size ≤ B) : Prq w' a n P Q := by
  obtain ⟨hm, h | ⟨b, o, rfl, hlt, hr⟩⟩ := h
  · exact ⟨hm, .inl h⟩
  · exact ⟨hm, .inr ⟨b, o, rfl, Nat.lt_of_lt_of_le hlt hb.size, hr.below hb (Nat.lt_of_lt_of_le hlt hB)⟩⟩
theorem Prq.next {w w' : World} {n : Nat} {a : Option Addr} {P Q : Nat → Int} (h : Prq w a n P Q) (hb : Below w.heap.size w w') : Prq w' a n P Q := h.below hb (Nat.le_refl _)
theorem Prq.row {w : World} {n : Nat} {a : Option Addr} {P Q : Nat → Int} (h : Prq w a n P Q) (h1 : 1 ≤ n) : ∃ b o, a = some ⟨b, o, none⟩ ∧ b < w.heap.size ∧ RowQ w b o n P Q := by
  obtain ⟨_, h | h⟩ := h
  · omega
  · exact h

theorem results_deed1 {fn : Func} {p : Tmp} (h : fn.results = #[.cell p 39]) (tmps : Array Value) (w : World) (B : Nat) {x y : Value} (hB : Blk2 w B 39 x y) (hp : tmps.getD p undef = .pointer (some ⟨B, 0, none⟩))
    (hi : (Tryz.prog.info? 39).map (·.size) = some 2) : (results fn tmps).run Tryz.prog w = .ok (.agg #[x, y]) w :=
  results_cell_row h tmps w B 39 #[x, y] (0, 0) _ hp hB Tryz.underlying39 rfl hi

/-- a block of n pairs -/
def prQ (P Q : Nat → Int) (j : Nat) : Int := if j % 2 = 0 then P (j / 2) else Q (j / 2)
theorem prQ_0 (P Q : Nat → Int) (i : Nat) : prQ P Q (i * 2) = P i := by unfold prQ; rw [if_pos (by omega)]; congr 1; omega
theorem prQ_1 (P Q : Nat → Int) (i : Nat) : prQ P Q (i * 2 + 1) = Q i := by unfold prQ; rw [if_neg (by omega)]; congr 1; omega
theorem Rw.pairq {w : World} {g n cap : Nat} {t : TypeId} {P Q : Nat → Int} (h : Rw w g t cap (n * 2) (prQ P Q)) : RowQ w g 0 n P Q := fun i hi =>
  ⟨by rw [Nat.zero_add, h.cell (i * 2) (by omega), prQ_0], by rw [Nat.zero_add, h.cell (i * 2 + 1) (by omega), prQ_1]⟩
theorem Rw.ltq {w : World} {g : Nat} {t : TypeId} {cap n : Nat} {h : Nat → Int} (hr : Rw w g t cap n h) : g < w.heap.size := by
  obtain ⟨cur, h1, _⟩ := hr
  exact (Array.getElem?_eq_some_iff.1 h1).1
theorem Rw.atq {w w' : World} {g : Nat} {t : TypeId} {cap n : Nat} {h : Nat → Int} (hr : Rw w g t cap n h) (hb : w'.heap[g]? = w.heap[g]?) : Rw w' g t cap n h := by
  obtain ⟨cur, h1, h2, h3⟩ := hr
  exact ⟨cur, hb.trans h1, h2, h3⟩
theorem Tryz.infoDeedZ : (Tryz.prog.info? 39).map (fun i => (i.zero, i.size, i.bytes)) = some (some (.agg #[.int .i64 0, .int .i64 0]), 2, 16) := by kernel_rfl
theorem made_pairq (n : Nat) (j : Nat) (hj : j < n * 2) : (madeCells #[.int .i64 0, .int .i64 0] (n * 2))[j]? = some (.int .i64 0) := by
  unfold madeCells
  rw [Array.getElem?_map, Array.getElem?_range]
  rw [if_pos hj]
  have : j % 2 = 0 ∨ j % 2 = 1 := by omega
  rcases this with e | e
  · show some ((#[Value.int .i64 0, .int .i64 0] : Array Value)[j % 2]!) = _
    rw [e]; rfl
  · show some ((#[Value.int .i64 0, .int .i64 0] : Array Value)[j % 2]!) = _
    rw [e]; rfl
theorem run_made_pairq (n : Nat) (hn : n ≤ 1048576) (w : World) : (Instr.makeSlice 24 (.int .i64 (n : Int)) (.int .i64 (n : Int))).run Tryz.prog w =
    .ok (.slice (some ⟨w.heap.size, 0, none⟩) n n) (w.alloc (.cells (madeCells #[.int .i64 0, .int .i64 0] (n * 2)) 39)) := by
  obtain ⟨i, hi, hzz⟩ := Option.map_eq_some_iff.1 Tryz.infoDeedZ
  simp only [Prod.mk.injEq] at hzz
  obtain ⟨hz, hs, hb⟩ := hzz
  have hr := run_make (P := Tryz.prog) w 24 39 i _ Tryz.underlying24 hi hz .i64 .i64 n n (by omega) (Int.le_refl _) (by rw [hb]; omega) (by omega)
  rw [hs, Int.toNat_natCast] at hr
  exact hr

/-- a copy of pairs is made -/
def CopiedQ (n : Nat) (P Q : Nat → Int) (w : World) (e : Ending) (w' : World) : Prop :=
  e = .returned (.slice (some ⟨w.heap.size, 0, none⟩) n n) ∧ Below w.heap.size w w' ∧ Rw w' w.heap.size 39 (n * 2) (n * 2) (prQ P Q)
theorem CopiedQ.prs {n : Nat} {P Q : Nat → Int} {w w' : World} (h : Rw w' w.heap.size 39 (n * 2) (n * 2) (prQ P Q)) (h64 : n ≤ 9223372036854775807 ∧ ∀ i, i < n → I64 (P i) ∧ I64 (Q i)) : Prq w' (some ⟨w.heap.size, 0, none⟩) n P Q :=
  ⟨h64, .inr ⟨w.heap.size, 0, rfl, h.ltq, h.pairq⟩⟩

def fstF (ds : List (Int × Int)) (i : Nat) : Int := (ds.getD i (0, 0)).1
def sndF (ds : List (Int × Int)) (i : Nat) : Int := (ds.getD i (0, 0)).2
theorem fst_at {ds : List (Int × Int)} {i : Nat} (hi : i < ds.length) : fstF ds i = ds[i].1 := by unfold fstF; rw [List.getD_eq_getElem?_getD, List.getElem?_eq_getElem hi]; rfl
theorem snd_at {ds : List (Int × Int)} {i : Nat} (hi : i < ds.length) : sndF ds i = ds[i].2 := by unfold sndF; rw [List.getD_eq_getElem?_getD, List.getElem?_eq_getElem hi]; rfl
theorem Dds.prq {w : World} {a : Option Addr} {ds : List (Int × Int)} (h : Dds w a ds) : Prq w a ds.length (fstF ds) (sndF ds) := by
  obtain ⟨⟨h1, h2⟩, h3⟩ := h
  refine ⟨⟨h1, fun i hi => by rw [fst_at hi, snd_at hi]; exact h2 _ (List.getElem_mem hi)⟩, ?_⟩
  rcases h3 with h3 | ⟨b, o, e, hl, hr⟩
  · exact .inl h3
  · exact .inr ⟨b, o, e, hl, fun i hi => by rw [fst_at hi, snd_at hi]; exact hr i hi⟩
theorem Prq.dds {w : World} {a : Option Addr} {ds : List (Int × Int)} (h : Prq w a ds.length (fstF ds) (sndF ds)) : Dds w a ds := by
  obtain ⟨⟨h1, h2⟩, h3⟩ := h
  refine ⟨⟨h1, fun d hd => ?_⟩, ?_⟩
  · obtain ⟨i, hi, rfl⟩ := List.getElem_of_mem hd
    have := h2 i hi
    rw [fst_at hi, snd_at hi] at this
    exact this
  · rcases h3 with h3 | ⟨b, o, e, hl, hr⟩
    · exact .inl h3
    · exact .inr ⟨b, o, e, hl, fun i hi => by have := hr i hi; rw [fst_at hi, snd_at hi] at this; exact this⟩
theorem Prq.list {w : World} {a : Option Addr} {n : Nat} {P Q : Nat → Int} (h : Prq w a n P Q) : ∃ ds : List (Int × Int), ds.length = n ∧ Dds w a ds := by
  refine ⟨(List.range n).map (fun i => (P i, Q i)), by simp, ?_⟩
  have hl : ((List.range n).map (fun i => (P i, Q i))).length = n := by simp
  have e : ∀ i (hi : i < ((List.range n).map (fun i => (P i, Q i))).length), ((List.range n).map (fun i => (P i, Q i)))[i] = (P i, Q i) := fun i hi => by simp
  obtain ⟨⟨h1, h2⟩, h3⟩ := h
  refine ⟨⟨by rw [hl]; exact h1, fun d hd => ?_⟩, ?_⟩
  · obtain ⟨i, hi, rfl⟩ := List.getElem_of_mem hd
    rw [e i hi]
    exact h2 i (by rw [hl] at hi; exact hi)
  · rcases h3 with h3 | ⟨b, o, ea, hb, hr⟩
    · exact .inl (by rw [hl]; exact h3)
    · refine .inr ⟨b, o, ea, hb, fun i hi => ?_⟩
      rw [e i hi]
      exact hr i (by rw [hl] at hi; exact hi)
end Go.Proofs.YthaickihoagnmaaGreatDoor

namespace Go.Proofs.YthaickihoagnmaaGreatDoor
set_option linter.unusedVariables false
set_option linter.unusedSimpArgs false
open Go.RowKit Go.Maps

/-- s, s + 1; s + 2, s + 3; .. -/
def mkD (n s : Nat) : List (Int × Int) := (List.range n).map (fun i => (((s + i * 2 : Nat) : Int), ((s + i * 2 + 1 : Nat) : Int)))
theorem mkD_len (n s : Nat) : (mkD n s).length = n := by unfold mkD; simp
theorem mkD_at {n s i : Nat} (hi : i < (mkD n s).length) : (mkD n s)[i] = (((s + i * 2 : Nat) : Int), ((s + i * 2 + 1 : Nat) : Int)) := by unfold mkD; simp
theorem cellsD_get (ds : List (Int × Int)) (i : Nat) (hi : i < ds.length * 2) : (cellsD ds)[i]? = some (.int .i64 (prQ (fstF ds) (sndF ds) i)) := by
  have hk : i / 2 < ds.length := by omega
  obtain ⟨h1, h2⟩ := cellsD_at hk
  unfold prQ
  by_cases e : i % 2 = 0
  · rw [if_pos e, fst_at hk]
    rw [show i / 2 * 2 = i by omega] at h1
    exact h1
  · rw [if_neg e, snd_at hk]
    rw [show i / 2 * 2 + 1 = i by omega] at h2
    exact h2
theorem OwnD.rw {w : World} {B : Nat} {v : Value} {ds : List (Int × Int)} (h : OwnD w B v ds) (h1 : 1 ≤ ds.length) :
    ∃ g c, v = .slice (some ⟨g, 0, none⟩) ds.length c ∧ B ≤ g ∧ g < w.heap.size ∧ ds.length ≤ c ∧ c ≤ maxLen ∧ Rw w g 39 (c * 2) (ds.length * 2) (prQ (fstF ds) (sndF ds)) := by
  have hlt := World.ownsRow.lt h
  have hl := h.1
  rcases h.2 with ⟨_, h2⟩ | ⟨g, cap, cur, hv, hB, hg, hc, hm, hs, ht⟩
  · omega
  · subst hv
    refine ⟨g, cap, rfl, hB, (hlt g rfl).2, hc, hm, cur, hg, hs, fun i hi => ?_⟩
    rw [← cellsD_get ds i hi, ← ht, List.getElem?_take, if_pos hi]
    simp
theorem Rw.ownD {w : World} {g B c : Nat} {ds : List (Int × Int)} (hr : Rw w g 39 (c * 2) (ds.length * 2) (prQ (fstF ds) (sndF ds))) (hB : B ≤ g) (hc : ds.length ≤ c) (hm : c ≤ maxLen) : OwnD w B (.slice (some ⟨g, 0, none⟩) ds.length c) ds := by
  obtain ⟨cur, h1, h2, h3⟩ := hr
  refine ⟨cellsD_len ds, .inr ⟨g, c, cur, rfl, hB, h1, hc, hm, h2, ?_⟩⟩
  apply List.ext_getElem?
  intro i
  by_cases hi : i < ds.length * 2
  · rw [List.getElem?_take, if_pos hi, cellsD_get ds i hi]
    have := h3 i hi
    simpa using this
  · rw [List.getElem?_eq_none (by rw [List.length_take]; omega), List.getElem?_eq_none (by rw [cellsD_len]; omega)]
/-- nothing has changed but the slice's own block -/
structure Upd (v : Value) (w w' : World) : Prop where
  os : w'.os = w.os
  tape : w'.tape = w.tape
  output : w'.output = w.output
  size : w.heap.size ≤ w'.heap.size
  block : ∀ k, k < w.heap.size → v.ownBlock ≠ some k → w'.heap[k]? = w.heap[k]?
theorem Upd.refl (v : Value) (w : World) : Upd v w w := ⟨rfl, rfl, rfl, Nat.le_refl _, fun _ _ _ => rfl⟩
theorem Upd.below {v : Value} {w w' : World} (h : Upd v w w') {C : Nat} (hC : C ≤ w.heap.size) (hv : ∀ g, v.ownBlock = some g → C ≤ g) : Below C w w' :=
  ⟨h.os, h.tape, h.output, h.size, fun k hk => h.block k (by omega) (fun e => by have := hv k e; omega)⟩
theorem Upd.of_only {g o n c : Nat} {w w' : World} (h : Only g w w') : Upd (.slice (some ⟨g, o, none⟩) n c) w w' :=
  ⟨h.os, h.tape, h.output, h.size, fun k hk hn => h.block k hk (fun e => hn (by rw [e]; rfl))⟩
theorem OwnD.upd {w w' : World} {B : Nat} {v u : Value} {ds : List (Int × Int)} (h : OwnD w B u ds) (hu : Upd v w w') (hn : ∀ g, u.ownBlock = some g → v.ownBlock ≠ some g) : OwnD w' B u ds := by
  refine ⟨h.1, ?_⟩
  rcases h.2 with h1 | ⟨g, cap, cur, hv, hBg, hg, hr⟩
  · exact .inl h1
  · exact .inr ⟨g, cap, cur, hv, hBg, (hu.block g (Array.getElem?_eq_some_iff.1 hg).1 (hn g (by rw [hv]; rfl))).trans hg, hr⟩
theorem OwnD.kept {w w' : World} {B : Nat} {u : Value} {ds : List (Int × Int)} (h : OwnD w B u ds) (hb : Below w.heap.size w w') : OwnD w' B u ds := by
  refine ⟨h.1, ?_⟩
  rcases h.2 with h1 | ⟨g, cap, cur, hv, hBg, hg, hr⟩
  · exact .inl h1
  · exact .inr ⟨g, cap, cur, hv, hBg, (hb.block g (Array.getElem?_eq_some_iff.1 hg).1).trans hg, hr⟩
theorem OwnD.dds {w : World} {B : Nat} {v : Value} {ds : List (Int × Int)} (h : OwnD w B v ds) (h64 : ∀ d ∈ ds, I64 d.1 ∧ I64 d.2) (hl : ds.length ≤ 9223372036854775807) : ∃ a c, v = .slice a ds.length c ∧ Dds w a ds := by
  by_cases h1 : 1 ≤ ds.length
  · obtain ⟨g, c, rfl, _, h3, _, h4⟩ := h.row h1
    exact ⟨_, c, rfl, ⟨hl, h64⟩, .inr ⟨g, 0, rfl, h3, h4⟩⟩
  · obtain ⟨a, c, rfl⟩ := h.slice
    exact ⟨a, c, rfl, ⟨hl, h64⟩, .inl (by omega)⟩

theorem prq_mk {n s j : Nat} (hj : j < n * 2) : prQ (fstF (mkD n s)) (sndF (mkD n s)) j = (s : Int) + j := by
  have hk : j / 2 < (mkD n s).length := by rw [mkD_len]; omega
  unfold prQ
  by_cases e : j % 2 = 0
  · rw [if_pos e, fst_at hk, mkD_at]; show ((s + j / 2 * 2 : Nat) : Int) = _; omega
  · rw [if_neg e, snd_at hk, mkD_at]; show ((s + j / 2 * 2 + 1 : Nat) : Int) = _; omega
end Go.Proofs.YthaickihoagnmaaGreatDoor
