import Derived.Test.YthaickihoagnmaaGreatDoorQD5
import Derived.Deep.QuietTactic
set_option linter.unusedVariables false
set_option linter.unusedSimpArgs false
set_option maxHeartbeats 12800000
namespace Go.Proofs.YthaickihoagnmaaGreatDoor
open Go.RowKit Go.Maps
def WorkX (w : World) (B : Nat) (v : Value) (xs : List Int) : Prop :=
  ∃ g o cap, v = .slice (some ⟨g, o, none⟩) xs.length cap ∧ B ≤ g ∧ g < w.heap.size ∧ xs.length ≤ cap ∧ cap ≤ 9223372036854775807 ∧
    (∀ j, j < cap → (w.cell? ⟨g, o + j, none⟩).isSome = true) ∧ (∀ j, w.frozen? ⟨g, j, none⟩ = false) ∧ ∀ i, i < xs.length → w.cell? ⟨g, o + i, none⟩ = some (.int .i64 (xs.getD i 0))
theorem OwnX.work {w : World} {B : Nat} {t : TypeId} {v : Value} {xs : List Int} (h : OwnX w B t v xs) (h1 : 1 ≤ xs.length) : WorkX w B v xs := by
  obtain ⟨g, cap, cur, rfl, hB, hl, hc, hm, _, _, h2, h3, h4⟩ := h.room h1
  exact ⟨g, 0, cap, rfl, hB, hl, hc, hm, fun j hj => by rw [Nat.zero_add]; exact h2 j hj, h3, fun i hi => by rw [Nat.zero_add]; exact h4 i hi⟩
theorem WorkX.upon {w w' : World} {B : Nat} {v : Value} {xs : List Int} (h : WorkX w B v xs) {F : Nat → Prop} (u : Upon F w w') (hn : ∀ g, v.ownBlock = some g → ¬ F g) : WorkX w' B v xs := by
  obtain ⟨g, o, cap, rfl, hB, hl, hc, hm, h2, h3, h4⟩ := h
  have hg : ¬ F g := hn g rfl
  have hb := u.block g hl hg
  exact ⟨g, o, cap, rfl, hB, Nat.lt_of_lt_of_le hl u.size, hc, hm, fun j hj => by rw [World.cell?_of_block (a := ⟨g, o + j, none⟩) hb]; exact h2 j hj, fun j => by rw [World.frozen?_of_block (a := ⟨g, j, none⟩) hb]; exact h3 j, fun i hi => by rw [World.cell?_of_block (a := ⟨g, o + i, none⟩) hb]; exact h4 i hi⟩
theorem WorkX.lt {w : World} {B : Nat} {v : Value} {xs : List Int} (h : WorkX w B v xs) {k : Nat} (hk : v.ownBlock = some k) : B ≤ k ∧ k < w.heap.size := by
  obtain ⟨g, o, cap, rfl, hB, hl, _⟩ := h
  have : g = k := by simpa [Value.ownBlock] using hk
  subst this; exact ⟨hB, hl⟩
theorem WorkX.pop {w : World} {B g o cap : Nat} {y : Int} {xs : List Int} (h : WorkX w B (.slice (some ⟨g, o, none⟩) (xs.length + 1) cap) (y :: xs)) :
    WorkX w B (.slice (some ⟨g, if cap = 1 then o else o + 1, none⟩) xs.length (cap - 1)) xs := by
  obtain ⟨g', o', cap', e, hB, hl, hc, hm, h2, h3, h4⟩ := h
  injection e with e1 _ e3
  injection e1 with e1; injection e1 with e1 e4
  subst e1; subst e3; subst e4
  simp only [List.length_cons] at hc h4
  refine ⟨g, _, cap - 1, rfl, hB, hl, by omega, by omega, fun j hj => ?_, h3, fun i hi => ?_⟩
  · rw [if_neg (by omega), show o + 1 + j = o + (j + 1) by omega]; exact h2 _ (by omega)
  · rw [if_neg (by omega), show o + 1 + i = o + (i + 1) by omega]
    have := h4 (i + 1) (by omega)
    rw [this]; rfl
theorem work_append (B vb : Nat) (v : Value) (xs : List Int) (x : Int) (w : World) (hB : B ≤ w.heap.size) (h : WorkX w B v xs) (hl : xs.length ≤ 1000) (hx : w.cell? ⟨vb, 0, none⟩ = some (.int .i64 x)) :
    ∃ v' w', (Builtin.append_ #[144, 144] 144 #[v, .slice (some ⟨vb, 0, none⟩) 1 1]).run Tryz.prog w = .ok v' w' ∧ WorkX w' B v' (xs ++ [x]) ∧ Upon (fun k => v.ownBlock = some k) w w' ∧ NewOr w v v' := by
  obtain ⟨i0, hi, hz0, hz1, hz2⟩ := infoF
  obtain ⟨g, o, cap, rfl, hBg, hgl, hc, hm, h2, h3, h4⟩ := h
  have hsrc : Src Tryz.prog i0.size 144 (.slice (some ⟨vb, 0, none⟩) 1 1) 1 [.int .i64 x] w := by
    rw [hz1]
    exact Src.ofSlice w Tryz.underlying144 ⟨vb, 0, none⟩ 1 1 [.int .i64 x] (by simp) (fun j u hj => by
      match j, hj with
      | 0, hj => simp at hj; subst hj; exact hx) (fun u hu => by simp at hu; subst hu; rfl)
  have hlen : (xs ++ [x]).length = xs.length + 1 := by simp
  by_cases hroom : xs.length + 1 ≤ cap
  · have hr := run_append_room_src w 144 144 144 3 i0 Tryz.underlying144 hi g o xs.length cap _ 1 [.int .i64 x] hsrc hroom
      (fun j hj => by rw [hz1]; simp at hj; subst hj; rw [Nat.mul_one, Nat.add_zero]; exact h2 _ (by omega)) (fun j _ => h3 _)
    rw [hz1, Nat.mul_one] at hr
    refine ⟨_, _, hr, ⟨g, o, cap, by rw [hlen], hBg, ?_, by omega, hm, fun j hj => ?_, fun j => by rw [World.frozen?_setCells]; exact h3 j, fun i hi' => ?_⟩, ?_, .inl rfl⟩
    · have := (Upon.puts (F := fun k => k = g) (w := w) (b := g) rfl [Value.int .i64 x] (o + xs.length) (Upon.refl _ _)).size
      omega
    · exact some_sets g _ _ w (fun t ht => by simp at ht; subst ht; exact h2 _ (by omega)) _ (h2 j hj)
    · by_cases e : i = xs.length
      · subst e
        rw [append_getD_right (Nat.le_refl _), Nat.sub_self]
        have := World.cell?_setCells_in g [Value.int .i64 x] (o + xs.length) w (fun t ht => by simp at ht; subst ht; exact h2 _ (by omega)) 0 (by simp)
        simpa using this
      · rw [World.cell?_setCells_out g _ _ _ _ (fun _ _ => by show o + i < o + xs.length ∨ _; omega), append_getD_left (by omega)]
        exact h4 i (by omega)
    · exact Upon.puts (F := fun k => (Value.slice (some ⟨g, o, none⟩) xs.length cap).ownBlock = some k) rfl _ _ (Upon.refl _ _)
  · have hold : (Builtin.firstCells i0.size xs.length (.slice (some ⟨g, o, none⟩) xs.length cap)).run Tryz.prog w.drew = .ok (valsL xs).toArray w.drew := by
      rw [hz1]
      exact run_firstCells_some w.drew 1 xs.length ⟨g, o, none⟩ xs.length cap (valsL xs) (by rw [vals_len]; omega) (fun j u hj => by
        obtain ⟨hj1, rfl⟩ := vals_at hj
        rw [Addr.add_lit]; exact h4 j hj1)
    have hr := run_append_grow_src w 144 144 144 3 i0 (.int .i64 0) Tryz.underlying144 hi hz0 (some ⟨g, o, none⟩) xs.length cap (valsL xs) hold _ 1 [.int .i64 x] hsrc (by omega) (by omega) (by rw [hz2]; exact growslice_fits (by omega) (by omega))
    have hGn : xs.length + 1 ≤ grownCap w (xs.length + 1) cap 3 := grownCap_ge w _ _ _
    have hGm := grownCap_le_maxLen w (xs.length + 1) cap 3 (by unfold maxLen; omega)
    obtain ⟨G, hG⟩ : ∃ G, G = grownCap w (xs.length + 1) cap 3 := ⟨_, rfl⟩
    rw [← hG] at hr hGn hGm
    unfold maxLen at hGm
    obtain ⟨ROW, hROW⟩ : ∃ ROW : Array Value, ROW = (valsL xs ++ [Value.int .i64 x]).toArray ++ Builtin.zeroCells (Value.int .i64 0).cells (G - (xs.length + 1)) := ⟨_, rfl⟩
    have hRs : ROW.size = G := by
      rw [hROW]; simp [Builtin.zeroCells, Value.cells, vals_len]; omega
    have hRt : ∀ j, j < xs.length + 1 → ROW[j]? = some (.int .i64 ((xs ++ [x]).getD j 0)) := fun j hj => by
      rw [hROW, Array.getElem?_append_left (by simp [vals_len]; omega), List.getElem?_toArray]
      have : valsL xs ++ [Value.int .i64 x] = valsL (xs ++ [x]) := by unfold valsL; simp
      rw [this, List.getElem?_eq_getElem (by rw [vals_len, hlen]; exact hj), vals_getElem]
    rw [← hROW] at hr
    have hg0 : (w.drew.alloc (.cells ROW 3)).heap[w.heap.size]? = some (.cells ROW 3 (0, 0)) := heap_alloc_new w.drew _
    have hsz : (w.drew.alloc (.cells ROW 3)).heap.size = w.heap.size + 1 := alloc_size w.drew _
    refine ⟨_, _, hr, ⟨w.heap.size, 0, G, by rw [hlen], hB, by omega, by omega, hGm, fun j hj => ?_, fun j => World.frozen?_alloc_at (w := w.drew) ROW _ w.heap.size j rfl, fun i hi' => ?_⟩, ?_, .inr ⟨_, rfl, Nat.le_refl _⟩⟩
    · rw [Nat.zero_add, cell_of_row _ _ j _ _ _ hg0, Array.getElem?_eq_getElem (by omega)]; rfl
    · rw [Nat.zero_add, cell_of_row _ _ i _ _ _ hg0]; exact hRt i (by omega)
    · exact (Upon.refl _ w).drew.alloc _
def NoMeet (u v : Value) : Prop := ∀ g, u.ownBlock = some g → v.ownBlock ≠ some g
theorem NoMeet.swap {u v : Value} (h : NoMeet u v) : NoMeet v u := fun g h1 h2 => h g h2 h1
theorem NoMeet.new {u v v' : Value} {w : World} (h : NoMeet u v) (hn : NewOr w v v') (hu : ∀ g, u.ownBlock = some g → g < w.heap.size) : NoMeet u v' := by
  intro g h1 h2
  rcases hn with e | ⟨g', e, hg⟩
  · rw [e] at h2; exact h g h1 h2
  · rw [e] at h2; injection h2 with h2; have := hu g h1; omega
theorem NewOr.ne {w : World} {v v' : Value} {p : Nat} (h : NewOr w v v') (hp : p < w.heap.size) (hn : v.ownBlock ≠ some p) : v'.ownBlock ≠ some p := by
  rcases h with e | ⟨g, e, hg⟩
  · rw [e]; exact hn
  · rw [e]; intro e2; injection e2 with e2; omega
theorem NewOr.up {w1 w2 : World} {v v' : Value} (h : NewOr w2 v v') (hs : w1.heap.size ≤ w2.heap.size) : NewOr w1 v v' := by
  rcases h with h | ⟨g, h, hg⟩
  · exact .inl h
  · exact .inr ⟨g, h, Nat.le_trans hs hg⟩
def lenOfV : Value → Nat
  | .slice _ n _ => n
  | _ => 0
def lenAt (w : World) (p : Nat) : Nat :=
  match w.cell? ⟨p, 0, none⟩ with
  | some v => lenOfV v
  | none => 0
theorem FamAt.len {w : World} {B p : Nat} {v : Value} {S : Nat → Bool} (h : FamAt w B p v S) : lenAt w p = (fam S 16).length := by
  obtain ⟨a, c, e⟩ := h.slice
  unfold lenAt; rw [h.cell, e]; rfl
theorem WorkX.len {w : World} {B : Nat} {v : Value} {xs : List Int} (h : WorkX w B v xs) : lenOfV v = xs.length := by
  obtain ⟨g, o, c, e, _⟩ := h; rw [e]; rfl
theorem rowL_self (xs : List Int) : rowL (fun i => xs.getD i 0) xs.length = xs := by
  unfold rowL
  apply List.ext_getElem?
  intro i
  rw [List.getElem?_map]
  by_cases hi : i < xs.length
  · rw [List.getElem?_range hi, Option.map_some, List.getD_eq_getElem?_getD, List.getElem?_eq_getElem hi]; rfl
  · rw [List.getElem?_eq_none (by omega : xs.length ≤ i), List.getElem?_eq_none (by simp; omega)]; rfl
structure CloS (S F : Nat → Bool) (L : Nat → List Int) (p : Nat) (w : World) (va : Value) (T : Nat → Bool) (ws : List Int) (vw : Value) (wr : World) : Prop where
  fa : FamAt wr w.heap.size p va T
  wk : WorkX wr w.heap.size vw ws
  wp : vw.ownBlock ≠ some p
  wa : NoMeet vw va
  bel : Below w.heap.size w wr
  len : ws.length ≤ (fam T 16).length
  sub : ∀ t, S t = true → T t = true
  top : ∀ t, T t = true → F t = true
  inn : ∀ y ∈ ws, ∃ t : Nat, y = t ∧ T t = true
def CloR (S F : Nat → Bool) (L : Nat → List Int) (p : Nat) (w : World) (vw : Value) (wr : World) : Prop :=
  ∃ (va : Value) (T : Nat → Bool) (ws : List Int), CloS S F L p w va T ws vw wr ∧ ∀ t : Nat, T t = true → (t : Int) ∈ ws ∨ ∀ m : Nat, (m : Int) ∈ L t → T m = true
structure InS (S F : Nat → Bool) (L : Nat → List Int) (p : Nat) (w : World) (s : Nat) (vl : Value) (A0 W0 k : Nat) (va : Value) (T : Nat → Bool) (ws : List Int) (vw : Value) (wr : World) : Prop where
  clo : CloS S F L p w va T ws vw wr
  own : OwnX wr w.heap.size 3 vl (L s)
  lp : vl.ownBlock ≠ some p
  la : NoMeet vl va
  lw : NoMeet vl vw
  bal : ws.length + A0 = (fam T 16).length + W0
  mono : A0 ≤ (fam T 16).length
  slf : T s = true
  clos : ∀ t : Nat, T t = true → (t : Int) ∈ ws ∨ t = s ∨ ∀ m : Nat, (m : Int) ∈ L t → T m = true
  upto : ∀ j, j < k → ∀ m : Nat, (L s).getD j 0 = m → T m = true
def InR (S F : Nat → Bool) (L : Nat → List Int) (p : Nat) (w : World) (s : Nat) (vl : Value) (A0 W0 : Nat) (vw i : Value) (wr : World) : Prop :=
  ∃ (k : Nat) (va : Value) (T : Nat → Bool) (ws : List Int), k ≤ (L s).length ∧ i = .int .i64 k ∧ InS S F L p w s vl A0 W0 k va T ws vw wr
section
variable {S F : Nat → Bool} {L : Nat → List Int} {p : Nat} {w : World} {s : Nat} {vl : Value} {A0 W0 k m : Nat} {va vw : Value} {T : Nat → Bool} {ws : List Int} {wr : World}
theorem InS.done (h : InS S F L p w s vl A0 W0 (L s).length va T ws vw wr) : CloR S F L p w vw wr := by
  refine ⟨va, T, ws, h.clo, fun t ht => ?_⟩
  rcases h.clos t ht with h1 | rfl | h1
  · exact .inl h1
  · right
    intro m hm
    obtain ⟨j, hj, e⟩ := List.getElem_of_mem hm
    exact h.upto j hj m (by rw [List.getD_eq_getElem?_getD, List.getElem?_eq_getElem hj]; exact e)
  · exact .inr h1
theorem InS.measure (h : InS S F L p w s vl A0 W0 k va T ws vw wr) : lenOfV vw + A0 = lenAt wr p + W0 ∧ lenAt wr p ≤ 16 ∧ A0 ≤ lenAt wr p := by
  rw [h.clo.fa.len, h.clo.wk.len]
  exact ⟨h.bal, fam_len_le _ _, h.mono⟩
theorem CloS.mine (h : CloS S F L p w va T ws vw wr) : ∀ g, vw.ownBlock = some g → ¬ Mine p va g := fun g hg e => by
  rcases e with e | e
  · subst e; exact h.wp hg
  · exact h.wa g hg e
theorem InS.mine (h : InS S F L p w s vl A0 W0 k va T ws vw wr) : ∀ g, vl.ownBlock = some g → ¬ Mine p va g := fun g hg e => by
  rcases e with e | e
  · subst e; exact h.lp hg
  · exact h.la g hg e
theorem InS.old (h : InS S F L p w s vl A0 W0 k va T ws vw wr) (hm : (L s).getD k 0 = m) (hT : T m = true) {v' : Value} {w' : World} (hf' : FamAt w' w.heap.size p v' (addS T m)) (hu : Upon (Mine p va) wr w') (hn : NewOr wr va v') :
    InS S F L p w s vl A0 W0 (k + 1) v' T ws vw w' := by
  rw [addS_have hT] at hf'
  have c := h.clo
  exact ⟨⟨hf', c.wk.upon hu c.mine, c.wp, c.wa.new hn (fun g hg => (c.wk.lt hg).2), c.bel.trans (hu.below c.fa.mine c.bel.size), c.len, c.sub, c.top, c.inn⟩,
    hu.ownX h.own h.mine, h.lp, h.la.new hn (fun g hg => (h.own.lt hg).2), h.lw, h.bal, h.mono, h.slf, h.clos, fun j hj m' e => by
      by_cases e2 : j = k
      · subst e2; rw [hm] at e
        have : m = m' := by omega
        subst this; exact hT
      · exact h.upto j (by omega) m' e⟩
theorem InS.new (h : InS S F L p w s vl A0 W0 k va T ws vw wr) (hm16 : m < 16) (hm : (L s).getD k 0 = m) (hT : T m = false) (hFm : F m = true) {v' vw' : Value} {w' w'' : World} (hf' : FamAt w' w.heap.size p v' (addS T m)) (hu : Upon (Mine p va) wr w') (hn : NewOr wr va v')
    (hw' : WorkX w'' w.heap.size vw' (ws ++ [(m : Int)])) (hu2 : Upon (fun g => vw.ownBlock = some g) w' w'') (hn2 : NewOr w' vw vw') :
    InS S F L p w s vl A0 W0 (k + 1) v' (addS T m) (ws ++ [(m : Int)]) vw' w'' := by
  have c := h.clo
  have hwa : NoMeet vw v' := c.wa.new hn (fun g hg => (c.wk.lt hg).2)
  have hla : NoMeet vl v' := h.la.new hn (fun g hg => (h.own.lt hg).2)
  have hpl : p < w'.heap.size := hf'.lt
  have hpw : ¬ vw.ownBlock = some p := c.wp
  have hbel : Below w.heap.size w w' := c.bel.trans (hu.below c.fa.mine c.bel.size)
  have hwl : ∀ g, vw.ownBlock = some g → w.heap.size ≤ g := fun g hg => (c.wk.lt hg).1
  have hlen := fam_add_len hm16 hT
  refine ⟨⟨hf'.upon hu2 hpw (fun g hg e => hwa g e hg), hw', hn2.ne hpl c.wp, ?_, hbel.trans (hu2.below hwl hbel.size), ?_, fun t ht => addS_sub (c.sub t ht), fun t ht => ?_, fun y hy => ?_⟩,
    hu2.ownX (hu.ownX h.own h.mine) (fun g hg e => h.lw g hg e), h.lp, hla, ?_, ?_, by rw [hlen]; have := h.mono; omega, addS_sub h.slf, fun t ht => ?_, fun j hj m' e => ?_⟩
  · exact (hwa.swap.new hn2 (fun g hg => (hf'.own.lt hg).2)).swap
  · rw [hlen, List.length_append]; have := c.len; simp; omega
  · rcases addS_iff.1 ht with h1 | rfl
    · exact c.top t h1
    · exact hFm
  · rcases List.mem_append.1 hy with h1 | h1
    · obtain ⟨t, e, h2⟩ := c.inn y h1
      exact ⟨t, e, addS_sub h2⟩
    · exact ⟨m, List.mem_singleton.1 h1, addS_self T m⟩
  · refine h.lw.new hn2 (fun g hg => ?_)
    have := (h.own.lt hg).2
    have := hu.size
    omega
  · rw [hlen, List.length_append]; have := h.bal; simp; omega
  · rcases addS_iff.1 ht with h1 | rfl
    · rcases h.clos t h1 with h2 | h2 | h2
      · exact .inl (List.mem_append.2 (.inl h2))
      · exact .inr (.inl h2)
      · exact .inr (.inr (fun m' hm' => addS_sub (h2 m' hm')))
    · exact .inl (List.mem_append.2 (.inr (List.mem_singleton.2 rfl)))
  · by_cases e2 : j = k
    · subst e2; rw [hm] at e
      have : m = m' := by omega
      subst this; exact addS_self T m
    · exact addS_sub (h.upto j (by omega) m' e)
end
theorem run_tail (g o m c : Nat) (W : World) : (Instr.slice 144 (.slice (some ⟨g, o, none⟩) (m + 1) c) (some (.int .i64 1)) none none).run Tryz.prog W = .ok (.slice (some ⟨g, if c = 1 then o else o + 1, none⟩) m (c - 1)) W := by
  have hz : ∀ w, (Go.sizeOf 3).run Tryz.prog w = .ok 1 w := fun w => by kernel_rfl
  have h1 : (1 : Int) ≤ (m : Int) + 1 := by omega
  by_cases hc : c = 1
  · subst hc
    simp [Instr.slice, Instr.sliceBounds, Instr.sliceBound, run_underlying Tryz.underlying144, asIntOf, hz, h1]
  · have hc' : ¬ c = 1 := hc
    simp [Instr.slice, Instr.sliceBounds, Instr.sliceBound, run_underlying Tryz.underlying144, asIntOf, hz, h1, hc', Addr.add_lit]
theorem WorkX.none {w : World} {B : Nat} {v : Value} (h : WorkX w B v []) : ∃ (a : Option Addr) (cap : Nat), v = .slice a 0 cap := by
  obtain ⟨g, o, cap, e, _⟩ := h; exact ⟨_, _, e⟩
theorem WorkX.some {w : World} {B : Nat} {v : Value} {y : Int} {xs : List Int} (h : WorkX w B v (y :: xs)) :
    ∃ g o cap, v = .slice (Option.some ⟨g, o, Option.none⟩) (xs.length + 1) cap ∧ w.cell? ⟨g, o, Option.none⟩ = Option.some (.int .i64 y) ∧ 1 ≤ cap ∧ cap ≤ 9223372036854775807 ∧ xs.length + 1 ≤ cap := by
  obtain ⟨g, o, cap, e, _, _, hc, hm, _, _, h4⟩ := h
  refine ⟨g, o, cap, e, ?_, by simp at hc; omega, hm, hc⟩
  have := h4 0 (by simp)
  simpa using this
set_option maxRecDepth 100000 in
theorem closure_any (K g n cap : Nat) (S F : Nat → Bool) (L : Nat → List Int) (hn : (fam S 16).length = n) (h1 : 1 ≤ n) (hC : Clos S L F) (w : World) (hr : Row w g 0 n (fun i => (fam S 16).getD i 0)) (hg : g < w.heap.size)
    (hE : ∀ (args : Array Value) (w : World), Sem.run Tryz.prog (callFunc K args) w = .ok (.enter K args) w)
    (hF : Hid (∀ (wr : World) (s : Nat), 1 ≤ s → s < 16 → Row wr g 0 n (fun i => (fam S 16).getD i 0) → g < wr.heap.size → Calls Tryz.prog K #[.slice (some ⟨g, 0, none⟩) n cap, .int .i64 s] wr (Gives 3 (L s) wr))) :
    Calls Tryz.prog 226 #[.slice (some ⟨g, 0, none⟩) n cap, .func (.func K) #[] #[]] w (Gives 3 (fam F 16) w) := by
  have hn16 : n ≤ 16 := by rw [← hn]; exact fam_len_le _ _
  have HR := Lib.hid hr; have HC := Lib.hid hC; have HN := Lib.hid hn
  clear hr hC hn
  go_enter Tryz.func226, Tryz.ntmps226
  go_wp2_with fail
  refine (cloneF_any g 0 n cap _ h1 (by omega) _ HR.out hg).mono ?_
  rintro e w1 ⟨v1, rfl, hown1, hb1⟩
  rw [show rowL (fun i => (fam S 16).getD i 0) n = fam S 16 by rw [← HN.out]; exact rowL_self _] at hown1
  obtain ⟨a1, c1, rfl⟩ := hown1.slice
  rw [HN.out] at hown1
  rw [HN.out]
  have HO1 := Lib.hid hown1; have HB1 := Lib.hid hb1
  have hb2 : Below w.heap.size w (w1.alloc (.cells #[.slice a1 n c1] 144)) := below_onto hb1 (alloc_below _ _)
  have HB2 := Lib.hid hb2
  have HR2 := Lib.hid (HR.out.below hb2 hg)
  have hg2 : g < (w1.alloc (.cells #[.slice a1 n c1] 144)).heap.size := Nat.lt_of_lt_of_le hg hb2.size
  clear hown1 hb1 hb2
  go_wp2_with fail
  refine (cloneF_any g 0 n cap _ h1 (by omega) _ HR2.out hg2).mono ?_
  rintro e w3 ⟨v2, rfl, hown2, hb3⟩
  rw [show rowL (fun i => (fam S 16).getD i 0) n = fam S 16 by rw [← HN.out]; exact rowL_self _] at hown2
  have hsz : (w1.alloc (.cells #[.slice a1 n c1] 144)).heap.size = w1.heap.size + 1 := alloc_size _ _
  have hst : CloR S F L w1.heap.size w v2 w3 := by
    have hf2 : FamAt (w1.alloc (.cells #[.slice a1 n c1] 144)) w.heap.size w1.heap.size (.slice a1 n c1) S :=
      ⟨(cell_new w1 _ _).1, HO1.out.kept (alloc_below _ _), World.frozen?_alloc_at _ _ w1.heap.size 0 rfl, fun e => by have := (HO1.out.lt e).2; omega, HB1.out.size⟩
    refine ⟨_, S, fam S 16, ⟨hf2.next hb3, (hown2.base HB2.out.size).work (by rw [HN.out]; exact h1), fun e => ?_, fun q h1 h2 => ?_, below_onto HB2.out hb3, Nat.le_refl _, fun _ h => h, fun t h => HC.out.sub t h, fun y hy => ?_⟩, fun t ht => .inl ?_⟩
    · have := (hown2.lt e).1; omega
    · have := (hown2.lt h1).1; have := (HO1.out.lt h2).2; omega
    · obtain ⟨t, _, h2, rfl⟩ := fam_mem.1 hy; exact ⟨t, rfl, h2⟩
    · exact fam_mem.2 ⟨t, (HC.out.pos t (HC.out.sub t ht)).2, ht, rfl⟩
  obtain ⟨a2, c2, rfl⟩ := hown2.slice
  clear hown2 hb3 hsz HR2 HB2 HB1 HO1 hg2
  obtain ⟨p, hp⟩ : ∃ p, w1.heap.size = p := ⟨_, rfl⟩
  rw [hp] at hst ⊢
  clear hp
  rw [HN.out] at hst ⊢
  go_wp2_with fail
  go_loopw [6] (fun v wr => CloR S F L p w v wr) (fun v wr => lenOfV v + 2 * (16 - lenAt wr p))
  case atStart => exact hst
  case round =>
    clear hst
    obtain ⟨va, T, ws, hc, hcl⟩ := hrel
    have HCC := Lib.hid hc; have HCL := Lib.hid hcl
    have hcell := hc.fa.cell
    clear hc hcl
    cases ws with
    | nil =>
      obtain ⟨aw, cw, rfl⟩ := HCC.out.wk.none
      have HFIN : Hid (OwnX wr w.heap.size 3 va (fam F 16)) := Lib.hid (by
        have h := HCC.out.fa.own
        rwa [fam_congr 16 (fun t _ => by
          rw [Bool.eq_iff_iff]
          exact ⟨HCC.out.top t, HC.out.least T HCC.out.sub HCC.out.top (fun t ht m hm => by
            rcases HCL.out t ht with h2 | h2
            · cases h2
            · exact h2 m hm) t⟩ : ∀ t, t < 16 → T t = F t)] at h)
      obtain ⟨a5, c5, rfl⟩ := HFIN.out.slice
      go_wp2_with fail
      go_ret
      exact ⟨_, rfl, HFIN.out, HCC.out.bel⟩
    | cons y rest =>
      obtain ⟨s, rfl, hTs⟩ := HCC.out.inn y List.mem_cons_self
      obtain ⟨gw, ow, cw, rfl, hcw, hcw1, hcw2, hcw3⟩ := HCC.out.wk.some
      have hs1 := HC.out.pos s (HCC.out.top s hTs)
      obtain ⟨hs0, hs16⟩ := hs1
      obtain ⟨m, hm⟩ : ∃ m, rest.length = m := ⟨_, rfl⟩
      have HM := Lib.hid hm
      obtain ⟨o1, ho1⟩ : ∃ o1, (if cw = 1 then ow else ow + 1) = o1 := ⟨_, rfl⟩
      obtain ⟨c1, hc1⟩ : ∃ c1, cw - 1 = c1 := ⟨_, rfl⟩
      have HPOP := Lib.hid HCC.out.wk.pop
      rw [ho1, hc1, hm] at HPOP
      rw [hm] at hcw3 HCC
      rw [hm]
      have hsl : ∀ W : World, (Instr.slice 144 (.slice (some ⟨gw, ow, none⟩) (m + 1) cw) (some (.int .i64 1)) none none).run Tryz.prog W = .ok (.slice (some ⟨gw, o1, none⟩) m c1) W := fun W => by
        rw [← ho1, ← hc1]; exact run_tail gw ow m cw W
      have HL0 := Lib.hid HCC.out.fa.len
      clear hm ho1 hc1
      have hrw := HR.out.below HCC.out.bel hg
      have HRW := Lib.hid hrw
      have hgw : g < wr.heap.size := Nat.lt_of_lt_of_le hg HCC.out.bel.size
      clear hrw
      have HTS := Lib.hid hTs
      clear hTs
      go_wp2_with fail
      refine (hF.out wr s hs0 hs16 HRW.out hgw).mono ?_
      rintro e w4 ⟨vl, rfl, hownl, hb4⟩
      obtain ⟨ll, hll⟩ : ∃ ll, (L s).length = ll := ⟨_, rfl⟩
      have hll16 : ll ≤ 16 := by rw [← hll]; exact (HC.out.rng s hs0 hs16).1
      have HLL := Lib.hid hll
      obtain ⟨al, cl, rfl⟩ := hownl.slice
      rw [hll] at hownl
      rw [hll]
      have hup4 : Upon (fun _ => False) wr w4 := Upon.of_below hb4
      have hin : InR S F L p w s (.slice al ll cl) (fam T 16).length m (.slice (some ⟨gw, o1, none⟩) m c1) (.int .i64 0) w4 := by
        have c := HCC.out
        have hnl : ∀ q, (Value.slice al ll cl).ownBlock = some q → wr.heap.size ≤ q := fun q hq => (hownl.lt hq).1
        refine ⟨0, va, T, rest, Nat.zero_le _, rfl, ⟨⟨c.fa.next hb4, HPOP.out.upon hup4 (fun _ _ e => e), c.wp, c.wa, below_onto c.bel hb4, ?_, c.sub, c.top, fun z hz => c.inn z (List.mem_cons_of_mem _ hz)⟩, hownl.base c.bel.size, fun e => ?_, fun q h1 h2 => ?_, fun q h1 h2 => ?_, ?_, Nat.le_refl _, HTS.out, fun t ht => ?_, fun j hj => absurd hj (Nat.not_lt_zero _)⟩⟩
        · have := c.len; rw [List.length_cons] at this; omega
        · have := hnl _ e; have := c.fa.lt; omega
        · have := hnl _ h1; have := (c.fa.own.lt h2).2; omega
        · have := hnl _ h1; have := (HPOP.out.lt h2).2; omega
        · have := HM.out; omega
        · rcases HCL.out t ht with h2 | h2
          · rcases List.mem_cons.1 h2 with h3 | h3
            · exact .inr (.inl (by omega))
            · exact .inl h3
          · exact .inr (.inr h2)
      have HL1 := Lib.hid (HCC.out.fa.len)
      have hA0 : (fam T 16).length ≤ 16 := fam_len_le _ _
      obtain ⟨A0, hA⟩ : ∃ A0, (fam T 16).length = A0 := ⟨_, rfl⟩
      rw [hA] at hin HL1 hA0
      clear hownl hb4 hup4 hll hcell hcw HPOP HRW HL0 hA HCL
      go_wp2_with fail
      go_loopw [6, 27] (fun v i wq => InR S F L p w s (.slice al ll cl) A0 m v i wq) (fun _ i _ => ll - (intOf i).toNat)
      case atStart => exact hin
      case round =>
        clear hin hsl
        obtain ⟨k, va, T, ws, hk, rfl, h⟩ := hrel
        rw [HLL.out] at hk
        have HH := Lib.hid h
        by_cases hlt : k < ll
        · have hki : (k : Int) < (ll : Int) := by omega
          obtain ⟨gl, cl', e1, _, _, _, _, hrowl, _⟩ := h.own.shape (by rw [HLL.out]; omega)
          rw [HLL.out] at e1 hrowl
          injection e1 with e2 _ e3
          subst e2; subst e3
          have hc := hrowl k hlt
          rw [Nat.zero_add] at hc
          have hmem := getD_in (xs := L s) (i := k) (by rw [HLL.out]; exact hlt)
          obtain ⟨q, hq1, hq16, hq⟩ := (HC.out.rng s hs0 hs16).2 _ hmem
          have HFq := Lib.hid (HC.out.step s (h.clo.top s h.slf) q (by rw [← hq]; exact hmem))
          have hc2 : wr.cell? ⟨gl, k, none⟩ = some (.int .i64 q) := by rw [hc]; show some (Value.int .i64 ((L s).getD k 0)) = _; rw [hq]
          have HQ := Lib.hid hq
          have hBq := h.clo.bel.size
          clear hc hmem hq hrowl h
          cases hT : T q with
          | true =>
            have HT := Lib.hid hT
            clear hT
            go_wp2_with fail
            refine (put_old w.heap.size p va T q hq16 _ hBq HH.out.clo.fa HT.out).mono ?_
            rintro e w5 ⟨rfl, v', hf', hu, hnw⟩
            have HNX := Lib.hid (HH.out.old HQ.out HT.out hf' hu hnw)
            clear hf' hu hnw
            go_wp2_with fail
            go_roundw
            case rel => exact ⟨k + 1, _, _, _, by rw [HLL.out]; omega, by go_num, HNX.out⟩
            case measure => simp [intOf]; omega
          | false =>
            have HT := Lib.hid hT
            clear hT
            go_wp2_with fail
            refine (put_new w.heap.size p va T q hq16 _ hBq HH.out.clo.fa HT.out).mono ?_
            rintro e w5 ⟨rfl, v', hf', hu, hnw⟩
            have hwk5 := HH.out.clo.wk.upon hu HH.out.clo.mine
            have hal := alloc_below w5 (.cells #[.int .i64 q] 3)
            have hB5 : w.heap.size ≤ w5.heap.size := Nat.le_trans hBq hu.size
            have hwl : ws.length ≤ 1000 := by have := HH.out.clo.len; have := fam_len_le T 16; omega
            obtain ⟨vw', w6, hr6, hwk6, hu6, hn6⟩ := work_append w.heap.size w5.heap.size _ ws q _ (Nat.le_trans hB5 hal.size) (hwk5.upon (F := fun _ => False) (Upon.of_below hal) (fun _ _ e => e)) hwl (cell_new w5 (.int .i64 q) 3).1
            have hnn := hn6.up hal.size
            have HNX := Lib.hid (HH.out.new hq16 HQ.out HT.out HFq.out hf' hu hnw hwk6 ((Upon.of_below hal).trans hu6 (fun _ _ e => e)) hnn)
            have HR6 := Lib.hid hr6
            clear hf' hu hnw hwk5 hal hB5 hwl hr6 hwk6 hu6 hn6 hnn
            go_wp2_with (at_builtin; refine Lib.wpList_append_run _ rfl _ _ _ _ rfl _ _ rfl rfl _ _ HR6.out ?_)
            go_roundw
            case rel => exact ⟨k + 1, _, _, _, by rw [HLL.out]; omega, by go_num, HNX.out⟩
            case measure => simp [intOf]; omega
        · have hki : ¬ (k : Int) < (ll : Int) := by omega
          have hkn : k = ll := by omega
          subst hkn
          have HD := Lib.hid (show CloR S F L p w _ wr by
            have := HH.out
            rw [← HLL.out] at this
            exact this.done)
          have HME := Lib.hid HH.out.measure
          clear h
          go_wp2_with fail
          go_roundw
          case rel => exact HD.out
          case measure =>
            have h1 := HME.out
            have h2 := HL1.out
            show lenOfV _ + 2 * (16 - lenAt _ p) < lenOfV _ + 2 * (16 - lenAt _ p)
            rw [h2]
            show _ < (m + 1) + _
            omega
theorem fam_len_mono (F : Nat → Bool) {k l : Nat} (h : k ≤ l) : (fam F k).length ≤ (fam F l).length := by
  obtain ⟨R, e, _⟩ := fam_split F k l h
  rw [e, List.length_append]; omega
theorem fam_gap {G : Nat → Bool} {k l : Nat} (h : k ≤ l) (hG : ∀ t, k ≤ t → t < l → G t = false) : fam G l = fam G k := by
  induction l with
  | zero => have : k = 0 := by omega
            subst this; rfl
  | succ l ih =>
    by_cases e : k = l + 1
    · rw [e]
    · rw [fam_no (hG l (by omega) (by omega))]
      exact ih (by omega) (fun t h1 h2 => hG t h1 (by omega))
theorem fam_between {F : Nat → Bool} {k l : Nat} (e : (fam F k).length = (fam F l).length) : ∀ t, k ≤ t → t < l → F t = false := by
  intro t h1 h2
  cases hf : F t with
  | false => rfl
  | true =>
    have h3 := fam_len_mono F h1
    have h4 := fam_len_mono F (show t + 1 ≤ l by omega)
    rw [fam_yes hf, List.length_append] at h4
    simp at h4; omega
theorem fam_next {F : Nat → Bool} : ∀ {k i : Nat}, i < (fam F k).length → ∃ y : Nat, y < k ∧ F y = true ∧ (fam F k).getD i 0 = y ∧ (fam F y).length = i
  | 0, i, h => by simp [fam] at h
  | k + 1, i, h => by
    cases hf : F k with
    | false =>
      rw [fam_no hf] at h ⊢
      obtain ⟨y, h1, h2, h3, h4⟩ := fam_next h
      exact ⟨y, by omega, h2, h3, h4⟩
    | true =>
      rw [fam_yes hf] at h ⊢
      by_cases hi : i < (fam F k).length
      · obtain ⟨y, h1, h2, h3, h4⟩ := fam_next hi
        exact ⟨y, by omega, h2, by rw [append_getD_left hi]; exact h3, h4⟩
      · rw [List.length_append] at h
        have : i = (fam F k).length := by simp at h; omega
        subst this
        exact ⟨k, by omega, hf, by rw [append_getD_right (Nat.le_refl _), Nat.sub_self]; rfl, rfl⟩
def GivesB (xs : List Int) (b : Bool) (w : World) (e : Ending) (w' : World) : Prop := ∃ v, e = .returned (.tuple #[v, .bool b]) ∧ OwnX w' w.heap.size 3 v xs ∧ Below w.heap.size w w'
structure CompS (n : Nat) (f : Nat → Int) (F : Nat → Bool) (p : Nat) (w : World) (vall : Value) (k i : Nat) (vi : Value) (T : Nat → Bool) (vw : Value) (wr : World) : Prop where
  fi : FamAt wr w.heap.size p vi T
  out : OwnX wr w.heap.size 3 vw (withL n f F k)
  all : OwnX wr w.heap.size 3 vall (fam F 16)
  wp : vw.ownBlock ≠ some p
  wi : NoMeet vw vi
  ap : vall.ownBlock ≠ some p
  ai : NoMeet vall vi
  aw : NoMeet vall vw
  bel : Below w.heap.size w wr
  len : (fam F k).length = i
  k16 : k ≤ 16
  fresh : ∀ t, k ≤ t → T t = memS n f t
def CompR (n : Nat) (f : Nat → Int) (F : Nat → Bool) (p : Nat) (w : World) (vall : Value) (vw i : Value) (wr : World) : Prop :=
  ∃ (k j : Nat) (vi : Value) (T : Nat → Bool), i = .int .i64 j ∧ j ≤ (fam F 16).length ∧ CompS n f F p w vall k j vi T vw wr
section
variable {n : Nat} {f : Nat → Int} {F : Nat → Bool} {p : Nat} {w : World} {vall : Value} {k i y : Nat} {vi : Value} {T : Nat → Bool} {vw : Value} {wr : World}
theorem CompS.at (h : CompS n f F p w vall k i vi T vw wr) (hF : F y = true) (hl : (fam F y).length = i) : k ≤ y ∧ fam (newS F (memS n f)) y = fam (newS F (memS n f)) k := by
  have h1 : k ≤ y := by
    apply Classical.byContradiction; intro hlt
    have := fam_len_mono F (show y + 1 ≤ k by omega)
    rw [fam_yes hF, List.length_append] at this
    have := h.len
    simp at *; omega
  exact ⟨h1, fam_gap h1 (fun t h2 h3 => by unfold newS; rw [fam_between (h.len.trans hl.symm) t h2 h3]; rfl)⟩
theorem CompS.mine (h : CompS n f F p w vall k i vi T vw wr) : ∀ g, vw.ownBlock = some g → ¬ Mine p vi g := fun g hg e => by
  rcases e with e | e
  · subst e; exact h.wp hg
  · exact h.wi g hg e
theorem CompS.mineA (h : CompS n f F p w vall k i vi T vw wr) : ∀ g, vall.ownBlock = some g → ¬ Mine p vi g := fun g hg e => by
  rcases e with e | e
  · subst e; exact h.ap hg
  · exact h.ai g hg e
theorem CompS.old (h : CompS n f F p w vall k i vi T vw wr) (hF : F y = true) (hl : (fam F y).length = i) (hy : y < 16) (hT : T y = true) {v' : Value} {w' : World} (hf' : FamAt w' w.heap.size p v' (addS T y)) (hu : Upon (Mine p vi) wr w') (hn : NewOr wr vi v') :
    CompS n f F p w vall (y + 1) (i + 1) v' (addS T y) vw w' := by
  obtain ⟨h1, h2⟩ := h.at hF hl
  have hm : memS n f y = true := by rw [← h.fresh y h1]; exact hT
  have hw : withL n f F (y + 1) = withL n f F k := by
    unfold withL
    rw [fam_no (S := newS F (memS n f)) (by unfold newS; rw [hm]; simp), h2]
  exact ⟨hf', by rw [hw]; exact hu.ownX h.out h.mine, hu.ownX h.all h.mineA, h.wp, h.wi.new hn (fun g hg => (h.out.lt hg).2), h.ap, h.ai.new hn (fun g hg => (h.all.lt hg).2), h.aw, h.bel.trans (hu.below h.fi.mine h.bel.size),
    by rw [fam_yes hF, List.length_append, hl]; rfl, by omega, fun t ht => by rw [addS_old (by omega)]; exact h.fresh t (by omega)⟩
theorem CompS.new (h : CompS n f F p w vall k i vi T vw wr) (hF : F y = true) (hl : (fam F y).length = i) (hy : y < 16) (hT : T y = false) {v' vw' : Value} {w' w'' : World} (hf' : FamAt w' w.heap.size p v' (addS T y)) (hu : Upon (Mine p vi) wr w') (hn : NewOr wr vi v')
    (hw' : OwnX w'' w.heap.size 3 vw' (withL n f F k ++ [(y : Int)])) (hu2 : Upon (fun g => vw.ownBlock = some g) w' w'') (hn2 : NewOr w' vw vw') :
    CompS n f F p w vall (y + 1) (i + 1) v' (addS T y) vw' w'' := by
  obtain ⟨h1, h2⟩ := h.at hF hl
  have hm : memS n f y = false := by rw [← h.fresh y h1]; exact hT
  have hw : withL n f F (y + 1) = withL n f F k ++ [(y : Int)] := by
    unfold withL
    rw [fam_yes (S := newS F (memS n f)) (by unfold newS; rw [hm, hF]; rfl), h2, List.append_assoc]
  have hwi : NoMeet vw v' := h.wi.new hn (fun g hg => (h.out.lt hg).2)
  have hai : NoMeet vall v' := h.ai.new hn (fun g hg => (h.all.lt hg).2)
  have hbel : Below w.heap.size w w' := h.bel.trans (hu.below h.fi.mine h.bel.size)
  refine ⟨hf'.upon hu2 h.wp (fun g hg e => hwi g e hg), by rw [hw]; exact hw', hu2.ownX (hu.ownX h.all h.mineA) (fun g hg e => h.aw g hg e), hn2.ne hf'.lt h.wp, ?_, h.ap, hai, ?_, hbel.trans (hu2.below (fun g hg => (h.out.lt hg).1) hbel.size),
    by rw [fam_yes hF, List.length_append, hl]; rfl, by omega, fun t ht => by rw [addS_old (by omega)]; exact h.fresh t (by omega)⟩
  · exact (hwi.swap.new hn2 (fun g hg => (hf'.own.lt hg).2)).swap
  · refine h.aw.new hn2 (fun g hg => ?_)
    have := (h.all.lt hg).2
    have := hu.size
    omega
end
set_option maxRecDepth 100000 in
theorem completed_any (K : Nat) (a : Option Addr) (n cap : Nat) (f : Nat → Int) (F : Nat → Bool) (L : Nat → List Int) (w : World) (hi : Ints w a n f) (hC : Hid (famOkB n f = true → Clos (memS n f) L F))
    (hE : ∀ (args : Array Value) (w : World), Sem.run Tryz.prog (callFunc K args) w = .ok (.enter K args) w)
    (hF : Hid (famOkB n f = true → ∀ (g cp : Nat) (wr : World) (s : Nat), 1 ≤ s → s < 16 → Row wr g 0 n (fun i => (fam (memS n f) 16).getD i 0) → g < wr.heap.size → Calls Tryz.prog K #[.slice (some ⟨g, 0, none⟩) n cp, .int .i64 s] wr (Gives 3 (L s) wr))) :
    Calls Tryz.prog 197 #[.slice a n cap, .func (.func K) #[] #[]] w (GivesB (doneL n f F) (roomB n f F) w) := by
  obtain ⟨i0, hii, hz0, hz1, hz2⟩ := info_parts Tryz.infoInt
  have HI := Lib.hid hi; clear hi
  cases hf : famOkB n f with
  | false =>
    have hrm : roomB n f F = false := by unfold roomB; rw [hf]; rfl
    have HRM := Lib.hid hrm
    have HDL := Lib.hid (show doneL n f F = [] by unfold doneL; rw [if_neg (by rw [hrm]; decide)])
    have HFF := Lib.hid hf
    clear hrm hf hC hF
    go_enter Tryz.func197, Tryz.ntmps197
    go_wp2_with fail
    refine (familyFrom_any a n cap f _ HI.out).mono ?_
    rintro e w1 ⟨hb, ⟨hf, v, rfl, hown⟩ | ⟨hf, rfl⟩⟩
    · rw [HFF.out] at hf; cases hf
    · clear hf
      have HB := Lib.hid (below_onto hb (alloc_below w1 (.cells #[.slice none 0 0] 144)))
      clear hb
      go_wp2_with fail
      go_ret2
      rw [HDL.out, HRM.out]
      exact ⟨_, by first | rfl | trivial, OwnX.nil _ _ _, HB.out⟩
  | true =>
    have hP := famOk_iff.1 hf
    have HP := Lib.hid hP
    have HC := Lib.hid (hC.out hf)
    have HFF := Lib.hid hf
    have HFO := Lib.hid (hF.out hf)
    have h1 := hP.lo
    have h7 := hP.hi
    have HN := Lib.hid (mem_len hP n (Nat.le_refl _))
    have HSUB := Lib.hid HC.out.sub
    clear hf hP hC hF
    go_enter Tryz.func197, Tryz.ntmps197
    go_wp2_with fail
    refine (familyFrom_any a n cap f _ HI.out).mono ?_
    rintro e w1 ⟨hb, ⟨hf, v, rfl, hown⟩ | ⟨hf, rfl⟩⟩
    · clear hf
      obtain ⟨gi, ci, e1, hgi1, hgi2, _, _, hrowi, _⟩ := hown.shape (by rw [HN.out]; exact h1)
      rw [HN.out] at e1 hrowi
      subst e1
      have hal := alloc_below w1 (.cells #[.slice (some ⟨gi, 0, none⟩) n ci] 144)
      have HF2 : Hid (FamAt (w1.alloc (.cells #[.slice (some ⟨gi, 0, none⟩) n ci] 144)) w.heap.size w1.heap.size (.slice (some ⟨gi, 0, none⟩) n ci) (memS n f)) :=
        Lib.hid ⟨(cell_new w1 _ _).1, hown.kept hal, World.frozen?_alloc_at _ _ w1.heap.size 0 rfl, fun e => by have := (hown.lt e).2; omega, hb.size⟩
      have HB2 := Lib.hid (below_onto hb hal)
      have HR2 := Lib.hid (hrowi.below hal hgi2)
      have hg2 := Nat.lt_of_lt_of_le hgi2 hal.size
      clear hown hb hal hrowi
      go_wp2_with fail
      refine (closure_any K gi n ci (memS n f) F L HN.out h1 HC.out _ HR2.out hg2 hE (Lib.hid (HFO.out gi ci))).mono ?_
      rintro e w3 ⟨vall, rfl, hall, hb3⟩
      obtain ⟨q, hq⟩ : ∃ q, (fam F 16).length = q := ⟨_, rfl⟩
      have HQ := Lib.hid hq
      have hq16 : q ≤ 16 := by rw [← hq]; exact fam_len_le _ _
      obtain ⟨aa, ca, rfl⟩ := hall.slice
      rw [hq] at hall
      rw [hq]
      have HF3 := Lib.hid (HF2.out.next hb3)
      have HB3 := Lib.hid (below_onto HB2.out hb3)
      have HALL := Lib.hid hall
      have HALT := Lib.hid (fun g (hg : (Value.slice aa q ca).ownBlock = some g) => hall.lt hg)
      have hsz := alloc_size w1 (.cells #[.slice (some ⟨gi, 0, none⟩) n ci] 144)
      have HSZ := Lib.hid hsz
      clear hall hb3 hsz hq
      obtain ⟨p, hp⟩ : ∃ p, w1.heap.size = p := ⟨_, rfl⟩
      rw [hp] at HF2 HF3 HSZ hgi2 ⊢
      by_cases hq7 : q ≤ 7
      · have hrm : roomB n f F = true := by
          unfold roomB
          rw [HFF.out, with_all HP.out HSUB.out, HQ.out, decide_eq_true hq7]; rfl
        have HRM := Lib.hid hrm
        have HDL := Lib.hid (show doneL n f F = withL n f F 16 by unfold doneL; rw [if_pos hrm])
        clear hrm
        have hqi : ¬ (q : Int) > 7 := by omega
        have hi3 := HI.out.below HB3.out (Nat.le_refl _)
        obtain ⟨b, o, rfl, hbl, hrow⟩ := hi3.row h1
        have HR3 := Lib.hid hrow
        clear hi3 hrow
        go_wp2_with fail
        refine (cloneI_any b o n cap f h1 (by omega) _ HR3.out hbl).mono ?_
        rintro e w4 ⟨vw, rfl, hvw, hb4⟩
        have hF4 := HF3.out.next hb4
        have hst : CompR n f F p w (.slice aa q ca) vw (.int .i64 0) w4 := by
          have hvl : ∀ g, vw.ownBlock = some g → w3.heap.size ≤ g := fun g hg => (hvw.lt hg).1
          have hw0 : withL n f F 0 = rowL f n := by unfold withL rowL; rw [fam]; simp
          refine ⟨0, 0, _, memS n f, rfl, Nat.zero_le _, hF4, by rw [hw0]; exact hvw.base HB3.out.size, (HALL.out.kept hb4).base HB2.out.size, fun e => ?_, fun g h2 h3 => ?_, fun e => ?_, fun g h2 h3 => ?_, fun g h2 h3 => ?_, below_onto HB3.out hb4, rfl, by omega, fun t _ => rfl⟩
          · have := hvl _ e; have := HF3.out.lt; omega
          · have := hvl _ h2; have := (HF3.out.own.lt h3).2; omega
          · have := (HALT.out _ e).1; have := HSZ.out; omega
          · have := (HALT.out _ h2).1; have := (HF2.out.own.lt h3).2; omega
          · have := (HALT.out _ h2).2; have := hvl _ h3; omega
        obtain ⟨a4, c4, rfl⟩ := hvw.slice
        clear hvw hb4 hF4
        go_wp2_with fail
        go_loopw [9, 29] (fun v i wr => CompR n f F p w (.slice aa q ca) v i wr) (fun _ i _ => q - (intOf i).toNat)
        case atStart => exact hst
        case round =>
          clear hst
          obtain ⟨k, j, vi, T, rfl, hj, h⟩ := hrel
          rw [HQ.out] at hj
          have HH := Lib.hid h
          obtain ⟨a9, c9, rfl⟩ := h.out.slice
          by_cases hlt : j < q
          · have hji : (j : Int) < (q : Int) := by omega
            obtain ⟨ga, ca', e1, _, _, _, _, hrowa, _⟩ := h.all.shape (by rw [HQ.out]; omega)
            rw [HQ.out] at e1 hrowa
            injection e1 with e2 _ e3
            subst e2; subst e3
            have hc := hrowa j hlt
            rw [Nat.zero_add] at hc
            obtain ⟨y, hy16, hFy, hy, hyl⟩ := fam_next (F := F) (k := 16) (i := j) (by rw [HQ.out]; exact hlt)
            have hc2 : wr.cell? ⟨ga, j, none⟩ = some (.int .i64 y) := by rw [hc]; show some (Value.int .i64 ((fam F 16).getD j 0)) = _; rw [hy]
            have HY := Lib.hid hFy; have HYL := Lib.hid hyl
            have hBq := h.bel.size
            clear hc hrowa h hy hFy hyl
            cases hT : T y with
            | true =>
              have HT := Lib.hid hT
              clear hT
              go_wp2_with fail
              refine (put_old w.heap.size p vi T y hy16 _ hBq HH.out.fi HT.out).mono ?_
              rintro e w5 ⟨rfl, v', hf', hu, hnw⟩
              have HNX := Lib.hid (HH.out.old HY.out HYL.out hy16 HT.out hf' hu hnw)
              clear hf' hu hnw
              go_wp2_with fail
              go_roundw
              case rel => exact ⟨_, j + 1, _, _, by go_num, by rw [HQ.out]; omega, HNX.out⟩
              case measure => simp [intOf]; omega
            | false =>
              have HT := Lib.hid hT
              clear hT
              go_wp2_with fail
              refine (put_new w.heap.size p vi T y hy16 _ hBq HH.out.fi HT.out).mono ?_
              rintro e w5 ⟨rfl, v', hf', hu, hnw⟩
              have hal := alloc_below w5 (.cells #[.int .i64 y] 3)
              have hB5 : w.heap.size ≤ w5.heap.size := Nat.le_trans hBq hu.size
              have hL5 : (withL n f F k).length ≤ 1000 := by rw [with_len]; have := fam_len_le (newS F (memS n f)) k; have := HH.out.k16; omega
              obtain ⟨vw', w6, hr6, hown6, hgr6, _, hat6⟩ := run_append_own_at (P := Tryz.prog) (w5.alloc (.cells #[.int .i64 y] 3)) w.heap.size 28 28 3 i0 (.int .i64 0) 1 8 Tryz.underlying28 hii hz0 hz1 hz2 rfl (by decide) _ _ _
                ((hu.ownX HH.out.out HH.out.mine).kept hal) ⟨w5.heap.size, 0, none⟩ 1 1 [.int .i64 y] rfl (cell_one_new w5 (.int .i64 y) 3) (fun u hu => by simp at hu; subst hu; rfl) (by unfold maxLen; omega) (by omega) (Nat.le_trans hB5 hal.size)
              have hn6 : NewOr (w5.alloc (.cells #[.int .i64 y] 3)) (.slice a9 (withL n f F k).length c9) vw' := by
                rcases hat6 with h | h
                · exact .inl h
                · exact .inr ⟨_, h, Nat.le_refl _⟩
              have HNX := Lib.hid (HH.out.new HY.out HYL.out hy16 HT.out hf' hu hnw (OwnX.snoc hown6) ((Upon.of_below hal).trans (Upon.of_grown hgr6) (fun _ _ e => e)) (hn6.up hal.size))
              have HR6 := Lib.hid hr6
              clear hf' hu hnw hal hB5 hL5 hr6 hown6 hgr6 hat6 hn6
              go_wp2_with (at_builtin; refine Lib.wpList_append_run _ rfl _ _ _ _ rfl _ _ rfl rfl _ _ HR6.out ?_)
              go_roundw
              case rel => exact ⟨_, j + 1, _, _, by go_num, by rw [HQ.out]; omega, HNX.out⟩
              case measure => simp [intOf]; omega
          · have hji : ¬ (j : Int) < (q : Int) := by omega
            have hjq : j = q := by omega
            subst hjq
            have HOUT : Hid (OwnX wr w.heap.size 3 (.slice a9 (withL n f F k).length c9) (withL n f F 16)) := Lib.hid (by
              have hw : withL n f F 16 = withL n f F k := by
                unfold withL
                rw [fam_gap h.k16 (fun t h2 h3 => by unfold newS; rw [fam_between (h.len.trans HQ.out.symm) t h2 h3]; rfl)]
              rw [hw]; exact h.out)
            clear h
            go_wp2_with fail
            go_ret2
            rw [HDL.out, HRM.out]
            exact ⟨_, by first | rfl | trivial, HOUT.out, HH.out.bel⟩
      · have hrm : roomB n f F = false := by
          unfold roomB
          rw [HFF.out, with_all HP.out HSUB.out, HQ.out, decide_eq_false hq7]; rfl
        have HRM := Lib.hid hrm
        have HDL := Lib.hid (show doneL n f F = [] by unfold doneL; rw [if_neg (by rw [hrm]; decide)])
        clear hrm
        have hqi : (q : Int) > 7 := by omega
        go_wp2_with fail
        go_ret2
        rw [HDL.out, HRM.out]
        exact ⟨_, by first | rfl | trivial, OwnX.nil _ _ _, HB3.out⟩
    · rw [HFF.out] at hf; cases hf
set_option maxRecDepth 100000 in
theorem WithPoints_any (a : Option Addr) (n cap : Nat) (f : Nat → Int) (w : World) (hi : Ints w a n f) :
    Calls Tryz.prog 172 #[.slice a n cap] w (GivesB (doneL n f (FP (memS n f))) (roomB n f (FP (memS n f))) w) := by
  have HI := Lib.hid hi; clear hi
  have HE := Lib.hid (enters_of (P := Tryz.prog) Tryz.func198 (by kernel_rfl) rfl)
  go_enter Tryz.func172, Tryz.ntmps172
  go_wp2_with fail
  refine (completed_any 198 a n cap f (FP (memS n f)) (fun s => ptsL (s : Int) 4) _ HI.out (Lib.hid fun h => clos_pts (fun t ht => memS_rng (famOk_iff.1 h) ht)) HE.out (Lib.hid fun _ g cp wr s _ _ _ _ => points_any _ _ wr)).mono ?_
  rintro e w1 ⟨v, rfl, hown, hb⟩
  have HO := Lib.hid hown; have HB := Lib.hid hb; clear hown hb
  go_wp2_with fail
  go_ret2
  exact ⟨_, by first | rfl | trivial, HO.out, HB.out⟩
set_option maxRecDepth 100000 in
theorem WithSums_any (a : Option Addr) (n cap : Nat) (f : Nat → Int) (w : World) (hi : Ints w a n f) :
    Calls Tryz.prog 173 #[.slice a n cap] w (GivesB (doneL n f (FS n f)) (roomB n f (FS n f)) w) := by
  have HI := Lib.hid hi; clear hi
  have HE := Lib.hid (enters_of (P := Tryz.prog) Tryz.func199 (by kernel_rfl) rfl)
  go_enter Tryz.func173, Tryz.ntmps173
  go_wp2_with fail
  refine (completed_any 199 a n cap f (FS n f) (fun s => sumL (memS n f) (s : Int)) _ HI.out (Lib.hid fun h => clos_sums (famOk_iff.1 h)) HE.out (Lib.hid fun h g cp wr s _ _ hr hg => by
    have hl := mem_len (famOk_iff.1 h) n (Nat.le_refl _)
    have e : sumL (memS n f) (s : Int) = rowL (fun k => orI (s : Int) ((fam (memS n f) 16).getD k 0)) n := by rw [sumL_row, hl]
    rw [e]
    exact sums_row g 0 n cp _ (s : Int) (by have := (famOk_iff.1 h).hi; omega) wr hr hg)).mono ?_
  rintro e w1 ⟨v, rfl, hown, hb⟩
  have HO := Lib.hid hown; have HB := Lib.hid hb; clear hown hb
  go_wp2_with fail
  go_ret2
  exact ⟨_, by first | rfl | trivial, HO.out, HB.out⟩
theorem famOk_len_eq {n : Nat} {f : Nat → Int} (h : ∀ k, k < n → (1 ≤ f k ∧ f k ≤ 15) ∧ ∀ j, j < k → f j ≠ f k) : inB 1 (n : Int) 7 = famOkB n f := by
  by_cases hn : 1 ≤ n ∧ n ≤ 7
  · rw [inB_true (by omega) (by omega), famOk_of hn.1 hn.2 h]
  · rw [inB_false (by omega), famOk_len hn]
set_option maxRecDepth 100000 in
theorem specFamilyOk_in (g o n cap : Nat) (f : Nat → Int) (h1 : 1 ≤ n) (hm : n ≤ 9223372036854775807) (w : World) (hr : Row w g o n f) :
    Calls Tryz.prog 51 #[.slice (some ⟨g, o, none⟩) n cap] w fun e w' => e = .returned (.bool (famOkB n f)) ∧ Drew w w' := by
  have HR := Lib.hid hr; clear hr
  go_enter Tryz.func51, Tryz.ntmps51
  go_wp2_with fail
  go_loopw [3] (fun i wr => ∃ k : Nat, k ≤ n ∧ i = .int .i64 k ∧ Drew w wr ∧ Hid (∀ j, j < k → (1 ≤ f j ∧ f j ≤ 15) ∧ ∀ i, i < j → f i ≠ f j)) (fun i _ => n - (intOf i).toNat)
  case atStart => exact ⟨0, Nat.zero_le _, rfl, Drew.refl _, fun j hj => absurd hj (Nat.not_lt_zero _)⟩
  case round =>
    obtain ⟨k, hk, rfl, hd, hall⟩ := hrel
    have hrw := row_drew HR.out hd
    by_cases hlt : k < n
    · have hki : (k : Int) < (n : Int) := by omega
      have hck := hrw k hlt
      have HRW := Lib.hid hrw; clear hrw
      by_cases hx : 1 ≤ f k ∧ f k ≤ 15
      · have HIN := Lib.hid (inB_true hx.1 hx.2)
        have HX := Lib.hid hx
        clear hx
        go_wp2_with fail
        refine (l1In_val _ _ _ true _ HIN.out).mono ?_
        rintro e w' ⟨rfl, rfl⟩
        go_wp2_with fail
        obtain ⟨wo, rfl⟩ : ∃ wo : World, wo = wr := ⟨_, rfl⟩
        go_loopw [4] (fun i wr => ∃ j : Nat, j ≤ k ∧ i = .int .i64 j ∧ Drew wo wr ∧ Hid (∀ i, i < j → f i ≠ f k)) (fun i _ => k - (intOf i).toNat)
        case atStart => exact ⟨0, Nat.zero_le _, rfl, Drew.refl _, fun j hj => absurd hj (Nat.not_lt_zero _)⟩
        case round =>
          obtain ⟨j, hj, rfl, hd2, hall2⟩ := hrel
          have hrw2 := row_drew HRW.out hd2
          by_cases hjk : j < k
          · have hji : (j : Int) < (k : Int) := by omega
            have hjn : (j : Int) < (n : Int) := by omega
            have hcj := hrw2 j (by omega)
            have hckk := hrw2 k hlt
            clear hrw2 hck
            cases heq : (f j == f k) with
            | true =>
              have HF := Lib.hid (famOk_no (f := f) hlt (fun e => e.2 j hjk (beq_iff_eq.1 heq)))
              have HD2 := Lib.hid hd2; clear hd2
              go_wp2_with fail
              go_quiet (fail)
              go_wp2_with fail
              go_ret
              exact ⟨retb HF.out.symm, (hd.onto HD2.out).more _⟩
            | false =>
              have HNE := Lib.hid (show f j ≠ f k by rwa [beq_eq_false_iff_ne] at heq)
              have HD2 := Lib.hid hd2; clear hd2
              go_wp2_with fail
              go_quiet (fail)
              go_wp2_with fail
              go_roundw
              case rel => exact ⟨j + 1, by omega, by go_num, HD2.out.more _, fun i hi => by
                by_cases e : i = j
                · subst e; exact HNE.out
                · exact hall2 i (by omega)⟩
              case measure => simp [intOf]; omega
          · have hji : ¬ (j : Int) < (k : Int) := by omega
            have hjk2 : j = k := by omega
            subst hjk2
            have HD2 := Lib.hid (hd.onto hd2); clear hd2 hrw2 hck
            go_wp2_with fail
            go_roundw
            case rel => exact ⟨j + 1, by omega, by go_num, HD2.out, fun i hi => by
              by_cases e : i = j
              · subst e; exact ⟨HX.out, hall2⟩
              · exact hall i (by omega)⟩
            case measure => simp [intOf]; omega
      · have HIN := Lib.hid (inB_false hx)
        have HF := Lib.hid (famOk_no (f := f) hlt (fun e => hx e.1))
        clear hx
        go_wp2_with fail
        refine (l1In_val _ _ _ false _ HIN.out).mono ?_
        rintro e w' ⟨rfl, rfl⟩
        go_wp2_with fail
        go_ret
        exact ⟨retb HF.out.symm, hd⟩
    · have hki : ¬ (k : Int) < (n : Int) := by omega
      have hkn : k = n := by omega
      subst hkn
      have HV := Lib.hid (famOk_len_eq hall)
      clear hrw
      go_wp2_with fail
      refine (l1In_val _ _ _ _ _ HV.out).mono ?_
      rintro e w' ⟨rfl, rfl⟩
      go_wp2_with fail
      go_ret
      exact ⟨rfl, hd⟩
set_option maxRecDepth 100000 in
theorem specFamilyOk_nil (a : Option Addr) (cap : Nat) (f : Nat → Int) (w : World) :
    Calls Tryz.prog 51 #[.slice a 0 cap] w fun e w' => e = .returned (.bool (famOkB 0 f)) ∧ Drew w w' := by
  have HV := Lib.hid (famOk_len_eq (n := 0) (f := f) (fun k hk => absurd hk (Nat.not_lt_zero _)))
  go_enter Tryz.func51, Tryz.ntmps51
  go_wp2_with fail
  go_loopw [3] (fun i wr => i = .int .i64 0 ∧ w = wr) (fun _ _ => 0)
  case atStart => exact ⟨rfl, rfl⟩
  case round =>
    obtain ⟨rfl, rfl⟩ := hrel
    go_wp2_with fail
    refine (l1In_val _ _ _ _ _ HV.out).mono ?_
    rintro e w' ⟨rfl, rfl⟩
    go_wp2_with fail
    go_ret
    exact ⟨rfl, Drew.refl _⟩
theorem specFamilyOk_any (a : Option Addr) (n cap : Nat) (f : Nat → Int) (w : World) (hi : Ints w a n f) :
    Calls Tryz.prog 51 #[.slice a n cap] w fun e w' => e = .returned (.bool (famOkB n f)) ∧ Drew w w' := by
  by_cases h : n = 0
  · subst h; exact specFamilyOk_nil a cap f w
  · obtain ⟨b, o, rfl, hbl, hrow⟩ := hi.row (by omega)
    exact specFamilyOk_in b o n cap f (by omega) hi.1.1 w hrow
theorem specFamilyOk_val (a : Option Addr) (n cap : Nat) (f : Nat → Int) (v : Bool) (w : World) (hv : famOkB n f = v) (hi : Ints w a n f) :
    Calls Tryz.prog 51 #[.slice a n cap] w fun e w' => e = .returned (.bool v) ∧ Drew w w' := by subst hv; exact specFamilyOk_any a n cap f w hi
set_option maxRecDepth 100000 in
theorem specWorldFrom_in (b o n cap : Nat) (f : Nat → Int) (hf : famOkB n f = true) (w : World) (hi : Ints w (some ⟨b, o, none⟩) n f) (hr : Row w b o n f) (hbl : b < w.heap.size) :
    Calls Tryz.prog 68 #[.slice (some ⟨b, o, none⟩) n cap] w (Gives 3 (rowL (wfF n f) n) w) := by
  obtain ⟨i0, hii, hz0, hz1, hz2⟩ := info_parts Tryz.infoInt
  have hP := famOk_iff.1 hf
  have h7 := hP.hi
  have h1n := hP.lo
  have HI64 := Lib.hid hi.i64
  have HI := Lib.hid hi; have HF := Lib.hid hf; have HR := Lib.hid hr
  have hst : OwnX (w.alloc (.cells #[] 3)) w.heap.size 3 (.slice (some ⟨w.heap.size, 0, none⟩) 0 0) (rowL (wfF n f) 0) := OwnX.made w _ (Nat.le_refl _) _
  have hsb := alloc_below w (.cells #[] 3)
  clear hi hf hr hP
  go_enter Tryz.func68, Tryz.ntmps68
  go_wp2_with fail
  go_loopw [3, 4] (fun v i wr => ∃ k : Nat, k ≤ n ∧ i = .int .i64 k ∧ OwnX wr w.heap.size 3 v (rowL (wfF n f) k) ∧ Below w.heap.size w wr) (fun _ i _ => n - (intOf i).toNat)
  case atStart => exact ⟨0, Nat.zero_le _, rfl, hst, hsb⟩
  case round =>
    clear hst hsb
    obtain ⟨k, hk, rfl, hown, hbel⟩ := hrel
    obtain ⟨a9, c9, rfl⟩ := hown.slice
    have HOW := Lib.hid hown; have HB := Lib.hid hbel; clear hown hbel
    by_cases hlt : k < n
    · have hki : (k : Int) < (n : Int) := by omega
      go_wp2_with fail
      refine (specFamilyOk_val _ n cap f true _ HF.out (HI.out.below HB.out (Nat.le_refl _))).mono ?_
      rintro e w1 ⟨rfl, hd1⟩
      have HB1 := Lib.hid (HB.out.trans (hd1.below.mono HB.out.size)); have HOW1 := Lib.hid (HOW.out.kept hd1.below)
      clear hd1
      go_wp2_with fail
      go_loopw [5, 6] (fun v i wr => ∃ j : Nat, j ≤ n ∧ i = .int .i64 j ∧ v = .int .i64 (setOf (fun b => withinB (f b) (f k)) j) ∧ Drew w1 wr) (fun _ i _ => n - (intOf i).toNat)
      case atStart => exact ⟨0, Nat.zero_le _, rfl, rfl, Drew.refl _⟩
      case round =>
        obtain ⟨j, hj, rfl, rfl, hd⟩ := hrel
        have hbw : Below w.heap.size w wr := HB1.out.trans (hd.below.mono HB1.out.size)
        have hrw := HR.out.below hbw hbl
        by_cases hjn : j < n
        · have hji : (j : Int) < (n : Int) := by omega
          have hck := hrw k hlt
          have hcj := hrw j hjn
          have ⟨hq1, hq2⟩ := pow_bounds j (by omega)
          have hew := or_eq_within (f k) (f j) (HI64.out k hlt)
          have HBW := Lib.hid hbw
          clear hbw hrw
          cases hg : withinB (f j) (f k) with
          | true =>
            have HS := Lib.hid (setOf_yes (fun b => withinB (f b) (f k)) j hg)
            rw [hg] at hew; clear hg
            go_wp2_with fail
            go_quiet (fail)
            go_wp2_with fail
            go_roundw
            case rel => exact ⟨j + 1, by omega, by go_num, by rw [HS.out], hd.more _⟩
            case measure => simp [intOf]; omega
          | false =>
            have HS := Lib.hid (setOf_no (fun b => withinB (f b) (f k)) j hg)
            rw [hg] at hew; clear hg
            go_wp2_with fail
            go_quiet (fail)
            go_wp2_with fail
            go_roundw
            case rel => exact ⟨j + 1, by omega, by go_num, by rw [HS.out], hd.more _⟩
            case measure => simp [intOf]; omega
        · have hje : j = n := by omega
          subst hje
          have hji : ¬ ((j : Int) < (j : Int)) := by omega
          have HS := Lib.hid (rowL_succ (wfF j f) k)
          have HL := Lib.hid (show (rowL (wfF j f) k).length ≤ 1000 by rw [rowL_len]; omega)
          have HSZ := Lib.hid hbw.size; have HBW := Lib.hid hbw
          have HO : Hid (wr.ownsRow w.heap.size 3 1 (.slice a9 (rowL (wfF j f) k).length c9) (rowL (wfF j f) k).length ((rowL (wfF j f) k).map (Value.int .i64))) := Lib.hid (HOW1.out.kept hd.below)
          clear hbw hrw hd
          have k1 := Lib.hid (fun (i : Nat) (u : Value) (h : [Value.int .i64 (setOf (fun b => withinB (f b) (f k)) j)][i]? = some u) => cell_one_new wr (.int .i64 (setOf (fun b => withinB (f b) (f k)) j)) 3 i u h)
          have k2 : Hid (∀ u ∈ [Value.int .i64 (setOf (fun b => withinB (f b) (f k)) j)], u.oneCell' = true) := Lib.hid (by intro u hu; simp at hu; subst hu; rfl)
          have k3 : Hid ((rowL (wfF j f) k).length + 1 ≤ maxLen) := Lib.hid (by have := HL.out; unfold maxLen; omega)
          have k4 : Hid (((rowL (wfF j f) k).length + 1) * 8 ≤ 140737488355328) := Lib.hid (by have := HL.out; omega)
          have k5 : Hid (w.heap.size ≤ (wr.alloc (.cells #[.int .i64 (setOf (fun b => withinB (f b) (f k)) j)] 3)).heap.size) := Lib.hid (by rw [alloc_size]; have := HSZ.out; omega)
          go_wp2_with (at_builtin; refine wpList_append_own _ rfl (.tmp 42) (.tmp 44) 28 rfl w.heap.size 3 i0 (.int .i64 0) 1 8 Tryz.underlying28 hii hz0 hz1 hz2 rfl (by decide) _ _ _ rfl (HO.out.alloc _) ⟨wr.heap.size, 0, none⟩ 1 1 [.int .i64 (setOf (fun b => withinB (f b) (f k)) j)] rfl rfl k1.out k2.out k3.out k4.out k5.out ?_)
          intro v' w5 hown' hgrow _
          have hg5 : Below w.heap.size wr w5 := ((Below.refl w.heap.size wr).alloc HSZ.out _).grown hgrow (by have := HSZ.out; rw [alloc_size]; omega) (fun q hq => (HO.out.lt q hq).1)
          have ho5 := OwnX.snoc hown'
          clear hown' hgrow k1 k2 k3 k4 k5
          have HO5 := Lib.hid ho5; have HG5 := Lib.hid hg5; clear ho5 hg5
          go_wp2_with fail
          go_roundw
          case rel => exact ⟨k + 1, by omega, by go_num, by rw [HS.out]; exact HO5.out, HBW.out.trans HG5.out⟩
          case measure => simp [intOf]; omega
    · have hki : ¬ (k : Int) < (n : Int) := by omega
      have hkn : k = n := by omega
      subst hkn
      go_wp2_with fail
      go_ret
      exact ⟨_, rfl, HOW.out, HB.out⟩
set_option maxRecDepth 100000 in
theorem specWorldFrom_no (a : Option Addr) (n cap : Nat) (f : Nat → Int) (hf : famOkB n f = false) (w : World) (hi : Ints w a n f) :
    Calls Tryz.prog 68 #[.slice a n cap] w (Gives 3 [] w) := by
  have HI := Lib.hid hi; have HF := Lib.hid hf
  have hnm := hi.1.1
  have hst : OwnX (w.alloc (.cells #[] 3)) w.heap.size 3 (.slice (some ⟨w.heap.size, 0, none⟩) 0 0) [] := OwnX.made w _ (Nat.le_refl _) _
  have HST := Lib.hid hst
  have HSB := Lib.hid (alloc_below w (.cells #[] 3))
  clear hi hf hst
  go_enter Tryz.func68, Tryz.ntmps68
  go_wp2_with fail
  go_loopw [3, 4] (fun v i wr => i = .int .i64 0 ∧ v = .slice (some ⟨w.heap.size, 0, none⟩) 0 0 ∧ wr = w.alloc (.cells #[] 3)) (fun _ _ _ => 0)
  case atStart => exact ⟨rfl, rfl, rfl⟩
  case round =>
    obtain ⟨rfl, rfl, rfl⟩ := hrel
    by_cases h0 : n = 0
    · subst h0
      go_wp2_with fail
      go_ret
      exact ⟨_, rfl, HST.out, HSB.out⟩
    · have h0i : (0 : Int) < (n : Int) := by omega
      go_wp2_with fail
      refine (specFamilyOk_val _ n cap f false _ HF.out (HI.out.below HSB.out (Nat.le_refl _))).mono ?_
      rintro e w1 ⟨rfl, hd1⟩
      have HD := Lib.hid hd1; clear hd1
      go_wp2_with fail
      go_ret
      exact ⟨_, rfl, HST.out.kept HD.out.below, below_onto HSB.out HD.out.below⟩
theorem specWorldFrom_any (a : Option Addr) (n cap : Nat) (f : Nat → Int) (w : World) (hi : Ints w a n f) :
    Calls Tryz.prog 68 #[.slice a n cap] w (Gives 3 (wfL n f) w) := by
  cases hf : famOkB n f with
  | true =>
    rw [show wfL n f = rowL (wfF n f) n by unfold wfL; rw [if_pos hf]]
    obtain ⟨b, o, rfl, hbl, hrow⟩ := hi.row (famOk_iff.1 hf).lo
    exact specWorldFrom_in b o n cap f hf w hi hrow hbl
  | false =>
    rw [show wfL n f = [] by unfold wfL; rw [if_neg (by rw [hf]; decide)]]
    exact specWorldFrom_no a n cap f hf w hi
set_option maxRecDepth 100000 in
theorem l7Put_old (B : Nat) (a : Option Addr) (n cap : Nat) (xs : List Int) (t : Int) (hn : xs.length = n) (hl : n ≤ 1000) (w : World) (h : OwnX w B 3 (.slice a n cap) xs) (ht : t ∈ xs) :
    Calls Tryz.prog 178 #[.slice a n cap, .int .i64 t] w fun e w' => e = .returned (.slice a n cap) ∧ Drew w w' := by
  have hn1 : 1 ≤ xs.length := List.length_pos_of_mem ht
  obtain ⟨g, c, e1, _, _, _, _, hrow, _⟩ := h.shape hn1
  rw [hn] at e1 hrow hn1
  injection e1 with e2 _ e3
  subst e2; subst e3
  have HR := Lib.hid hrow
  have HT : Hid (∃ j, j < n ∧ xs.getD j 0 = t) := Lib.hid (by
    obtain ⟨j, hj, e⟩ := List.getElem_of_mem ht
    exact ⟨j, by omega, by rw [List.getD_eq_getElem?_getD, List.getElem?_eq_getElem hj]; exact e⟩)
  clear h hrow ht hn
  go_enter Tryz.func178, Tryz.ntmps178
  go_wp2_with fail
  go_loopw [5] (fun i wr => ∃ k : Nat, k ≤ n ∧ i = .int .i64 k ∧ w = wr ∧ Hid (∀ j, j < k → xs.getD j 0 ≠ t)) (fun i _ => n - (intOf i).toNat)
  case atStart => exact ⟨0, Nat.zero_le _, rfl, rfl, fun j hj => absurd hj (Nat.not_lt_zero _)⟩
  case round =>
    obtain ⟨k, hk, rfl, rfl, hall⟩ := hrel
    by_cases hlt : k < n
    · have hki : (k : Int) < (n : Int) := by omega
      have hc : w.cell? ⟨g, k, none⟩ = some (.int .i64 (xs.getD k 0)) := by have := HR.out k hlt; rwa [Nat.zero_add] at this
      obtain ⟨y, hy⟩ : ∃ y, xs.getD k 0 = y := ⟨_, rfl⟩
      rw [hy] at hc
      cases heq : (y == t) with
      | true =>
        clear hy
        go_wp2_with fail
        go_ret
        exact ⟨rfl, Drew.refl _⟩
      | false =>
        have HNE := Lib.hid (show xs.getD k 0 ≠ t by rw [hy]; rwa [beq_eq_false_iff_ne] at heq)
        clear hy
        go_wp2_with fail
        go_roundw
        case rel => exact ⟨k + 1, by omega, by go_num, by first | rfl | trivial, fun i hi => by
          by_cases e : i = k
          · subst e; exact HNE.out
          · exact hall i (by omega)⟩
        case measure => simp [intOf]; omega
    · obtain ⟨j, hj, e⟩ := HT.out
      exact absurd e (hall j (by omega))
def Putted (B : Nat) (ys : List Int) (w : World) (e : Ending) (w' : World) : Prop := ∃ v, e = .returned v ∧ OwnX w' B 3 v ys ∧ Below B w w'
set_option maxRecDepth 100000 in
theorem l7Put_new (B : Nat) (a : Option Addr) (n cap : Nat) (xs : List Int) (t : Int) (hn : xs.length = n) (hl : n ≤ 1000) (w : World) (hB : B ≤ w.heap.size) (h : OwnX w B 3 (.slice a n cap) xs) (ht : t ∉ xs) :
    Calls Tryz.prog 178 #[.slice a n cap, .int .i64 t] w (Putted B (xs ++ [t]) w) := by
  obtain ⟨i0, hii, hz0, hz1, hz2⟩ := info_parts Tryz.infoInt
  have HSH := Lib.hid (fun (h1 : 1 ≤ n) => h.shape (by omega))
  have HT := Lib.hid (fun j (hj : j < n) => (fun e => ht (by rw [← e]; exact getD_in (by omega)) : xs.getD j 0 ≠ t))
  have HH := Lib.hid h; have HN := Lib.hid hn
  clear h ht hn
  go_enter Tryz.func178, Tryz.ntmps178
  go_wp2_with fail
  go_loopw [5] (fun i wr => ∃ k : Nat, k ≤ n ∧ i = .int .i64 k ∧ w = wr) (fun i _ => n - (intOf i).toNat)
  case atStart => exact ⟨0, Nat.zero_le _, rfl, rfl⟩
  case round =>
    obtain ⟨k, hk, rfl, rfl⟩ := hrel
    by_cases hlt : k < n
    · have hki : (k : Int) < (n : Int) := by omega
      obtain ⟨g, c, e1, _, _, _, _, hrow, _⟩ := HSH.out (by omega)
      rw [HN.out] at hrow e1
      injection e1 with e2 _ e3
      subst e2; subst e3
      have hc : w.cell? ⟨g, k, none⟩ = some (.int .i64 (xs.getD k 0)) := by have := hrow k hlt; rwa [Nat.zero_add] at this
      obtain ⟨y, hy⟩ : ∃ y, xs.getD k 0 = y := ⟨_, rfl⟩
      rw [hy] at hc
      have heq : (y == t) = false := by rw [beq_eq_false_iff_ne, ← hy]; exact HT.out k hlt
      clear hy hrow
      go_wp2_with fail
      go_roundw
      case rel => exact ⟨k + 1, by omega, by go_num, by first | rfl | trivial⟩
      case measure => simp [intOf]; omega
    · have hki : ¬ (k : Int) < (n : Int) := by omega
      have hkn : k = n := by omega
      subst hkn
      have hal := alloc_below w (.cells #[.int .i64 t] 3)
      have hown := HH.out.kept hal
      unfold OwnX at hown
      rw [HN.out] at hown
      obtain ⟨v', w1, hr, hown', hgr, _, _⟩ := run_append_own_at (P := Tryz.prog) (w.alloc (.cells #[.int .i64 t] 3)) B 28 28 3 i0 (.int .i64 0) 1 8 Tryz.underlying28 hii hz0 hz1 hz2 rfl (by decide) _ _ _
        hown ⟨w.heap.size, 0, none⟩ 1 1 [.int .i64 t] rfl (cell_one_new w (.int .i64 t) 3) (fun u hu => by simp at hu; subst hu; rfl) (by unfold maxLen; omega) (by omega) (Nat.le_trans hB hal.size)
      have HR := Lib.hid hr
      have HB := Lib.hid (show Below B w w1 from ((Below.refl B w).trans (hal.mono hB)).trans ((Upon.of_grown hgr).below (fun g hg => (World.ownsRow.lt hown g hg).1) (Nat.le_trans hB hal.size)))
      have HO := Lib.hid (OwnX.snoc (xs := xs) (by rw [HN.out]; exact hown'))
      clear hr hown hown' hgr hal
      go_wp2_with (at_builtin; refine Lib.wpList_append_run _ rfl _ _ _ _ rfl _ _ rfl rfl _ _ HR.out ?_)
      go_ret
      exact ⟨_, rfl, HO.out, HB.out⟩
def allK (f : Nat → Int) : Nat → Int
  | 0 => 0
  | k + 1 => orI (allK f k) (f k)
theorem all_succ (f : Nat → Int) (k : Nat) : allK f (k + 1) = bits .or .i64 (allK f k) (f k) := rfl
theorem all_bit {f : Nat → Int} {k i : Nat} (hi : i < 64) : hasB (allK f k) i = true ↔ ∃ j, j < k ∧ hasB (f j) i = true := by
  induction k with
  | zero => rw [allK, hasB_zero]; simp
  | succ k ih =>
    rw [allK, or_bit _ _ _ hi, Bool.or_eq_true, ih]
    constructor
    · rintro (⟨j, h1, h2⟩ | h2)
      · exact ⟨j, by omega, h2⟩
      · exact ⟨k, by omega, h2⟩
    · rintro ⟨j, h1, h2⟩
      by_cases e : j = k
      · subst e; exact .inr h2
      · exact .inl ⟨j, by omega, h2⟩
theorem all_I64 (f : Nat → Int) (k : Nat) : I64 (allK f k) := by
  cases k with
  | zero => exact I64_zero
  | succ k => exact orI_I64 _ _
theorem all_rng {n : Nat} {f : Nat → Int} (h : FamP n f) (k : Nat) (hk : k ≤ n) : 0 ≤ allK f k ∧ allK f k < 2 ^ 4 :=
  lt_of_bits _ 4 (by omega) (all_I64 f k) (fun i hi h4 => by
    cases hb : hasB (allK f k) i with
    | false => rfl
    | true =>
      obtain ⟨j, hj, h1⟩ := (all_bit hi).1 hb
      obtain ⟨x, e, _, hx⟩ := h.nat (k := j) (by omega)
      rw [e] at h1
      have := bit16 hx h1
      omega)
theorem pts_turn {n : Nat} {f : Nat → Int} (h : FamP n f) {p m : Nat} (hp : p < 4) (hm : (2 : Int) ^ p = m) :
    newS (FP (memS n f)) (memS n f) m = (hasB (allK f n) p && !memS n f m) := by
  obtain ⟨m', e, h1, h16, hpt, _⟩ := pow4 hp
  have : m' = m := by omega
  subst this
  unfold newS
  cases hs : memS n f m' with
  | true => simp
  | false =>
    simp only [Bool.not_false, Bool.and_true]
    rw [Bool.eq_iff_iff, FP_iff, all_bit (by omega)]
    constructor
    · rintro (h2 | ⟨_, s, hs16, h2, hw⟩)
      · rw [hs] at h2; cases h2
      · obtain ⟨k, hk, ek⟩ := memS_iff.1 h2
        refine ⟨k, hk, ?_⟩
        rw [ek]; rw [← hm] at hw
        exact pow_within.1 hw (by omega)
    · rintro ⟨j, hj, hb⟩
      obtain ⟨x, ex, _, hx⟩ := h.nat hj
      refine .inr ⟨hpt, x, hx, memS_iff.2 ⟨j, hj, ex⟩, ?_⟩
      rw [← hm, ← ex]
      exact pow_within.2 (fun _ => hb)
theorem pts_none (S : Nat → Bool) {t : Nat} (h : ptB t = false) : newS (FP S) S t = false := by
  unfold newS FP; rw [h]; cases S t <;> rfl
theorem pts_next (n : Nat) (f : Nat → Int) {p m : Nat} (hp : p < 4) (hm : m = 2 ^ p) :
    withL n f (FP (memS n f)) (2 ^ (p + 1)) = if newS (FP (memS n f)) (memS n f) m then withL n f (FP (memS n f)) m ++ [(m : Int)] else withL n f (FP (memS n f)) m := by
  have hg : fam (newS (FP (memS n f)) (memS n f)) (2 ^ (p + 1)) = fam (newS (FP (memS n f)) (memS n f)) (m + 1) := by
    subst hm
    refine fam_gap (by rw [Nat.pow_succ]; have := Nat.one_le_two_pow (n := p); omega) (fun t h1 h2 => pts_none _ ?_)
    rcases (show p = 0 ∨ p = 1 ∨ p = 2 ∨ p = 3 by omega) with rfl | rfl | rfl | rfl
    · simp at h1 h2; omega
    · have : t = 3 := by simp at h1 h2; omega
      subst this; rfl
    · have : t = 5 ∨ t = 6 ∨ t = 7 := by simp at h1 h2; omega
      rcases this with rfl | rfl | rfl <;> rfl
    · have : t = 9 ∨ t = 10 ∨ t = 11 ∨ t = 12 ∨ t = 13 ∨ t = 14 ∨ t = 15 := by simp at h1 h2; omega
      rcases this with rfl | rfl | rfl | rfl | rfl | rfl | rfl <;> rfl
  unfold withL
  rw [hg]
  split
  · next h => rw [fam_yes h, List.append_assoc]
  · next h => rw [fam_no (by simpa using h)]
theorem with_in {n : Nat} {f : Nat → Int} {F : Nat → Bool} {m : Nat} (hm : memS n f m = true) (k : Nat) : (m : Int) ∈ withL n f F k := by
  obtain ⟨j, hj, e⟩ := memS_iff.1 hm
  unfold withL
  exact List.mem_append.2 (.inl (List.mem_map.2 ⟨j, List.mem_range.2 hj, e⟩))
theorem with_out {n : Nat} {f : Nat → Int} {F : Nat → Bool} {m : Nat} (hm : memS n f m = false) : (m : Int) ∉ withL n f F m := by
  unfold withL
  intro h
  rcases List.mem_append.1 h with h | h
  · obtain ⟨j, hj, e⟩ := List.mem_map.1 h
    rw [memS_iff.2 ⟨j, List.mem_range.1 hj, e⟩] at hm; cases hm
  · have := (fam_lo h).2; omega
theorem with_small (n : Nat) (f : Nat → Int) (F : Nat → Bool) {k : Nat} (hk : k ≤ 16) : (withL n f F k).length ≤ n + 16 := by
  rw [with_len]; have := fam_len_le (newS F (memS n f)) k; omega
theorem with_start {n : Nat} {f : Nat → Int} {F : Nat → Bool} (h : F 0 = false) : withL n f F 1 = rowL f n := by
  unfold withL rowL
  rw [fam_no (by unfold newS; rw [h]; rfl), fam, List.append_nil]
set_option maxRecDepth 100000 in
theorem specWithPoints_no (a : Option Addr) (n cap : Nat) (f : Nat → Int) (hf : famOkB n f = false) (w : World) (hi : Ints w a n f) :
    Calls Tryz.prog 152 #[.slice a n cap] w (GivesB [] false w) := by
  have HI := Lib.hid hi; have HF := Lib.hid hf; clear hi hf
  go_enter Tryz.func152, Tryz.ntmps152
  go_wp2_with fail
  refine (specFamilyOk_val _ n cap f false _ HF.out HI.out).mono ?_
  rintro e w1 ⟨rfl, hd1⟩
  have HST := Lib.hid (OwnX.made w1 w1.heap.size (Nat.le_refl _) 3)
  have HB := Lib.hid (below_onto hd1.below (alloc_below w1 (.cells #[] 3)))
  have HS := Lib.hid hd1.below.size
  clear hd1
  go_wp2_with fail
  go_ret2
  exact ⟨_, by first | rfl | trivial, HST.out.base HS.out, HB.out⟩
set_option maxRecDepth 100000 in
theorem specWithSums_no (a : Option Addr) (n cap : Nat) (f : Nat → Int) (hf : famOkB n f = false) (w : World) (hi : Ints w a n f) :
    Calls Tryz.prog 153 #[.slice a n cap] w (GivesB [] false w) := by
  have HI := Lib.hid hi; have HF := Lib.hid hf; clear hi hf
  go_enter Tryz.func153, Tryz.ntmps153
  go_wp2_with fail
  refine (specFamilyOk_val _ n cap f false _ HF.out HI.out).mono ?_
  rintro e w1 ⟨rfl, hd1⟩
  have HST := Lib.hid (OwnX.made w1 w1.heap.size (Nat.le_refl _) 3)
  have HB := Lib.hid (below_onto hd1.below (alloc_below w1 (.cells #[] 3)))
  have HS := Lib.hid hd1.below.size
  clear hd1
  go_wp2_with fail
  go_ret2
  exact ⟨_, by first | rfl | trivial, HST.out.base HS.out, HB.out⟩
theorem copied_own (w : World) (g o n cap : Nat) (f : Nat → Int) (hn : n ≤ 1000) (hr : Row w g o n f) (hg : g < w.heap.size) :
    ∃ v' w', (Builtin.append_ #[28, 28] 28 #[.slice (some ⟨w.heap.size, 0, none⟩) 0 0, .slice (some ⟨g, o, none⟩) n cap]).run Tryz.prog (w.alloc (.cells #[] 3)) = .ok v' w' ∧ OwnX w' w.heap.size 3 v' (rowL f n) ∧ Below w.heap.size w w' := by
  obtain ⟨i0, hii, hz0, hz1, hz2⟩ := info_parts Tryz.infoInt
  have hmade : (w.alloc (.cells #[] 3)).ownsRow w.heap.size 3 1 (.slice (some ⟨w.heap.size, 0, none⟩) 0 0) 0 [] := OwnX.made w _ (Nat.le_refl _) _
  have hab := alloc_below w (.cells #[] 3)
  obtain ⟨v', w1, hr1, hown', hgr, _, _⟩ := run_append_own_at (P := Tryz.prog) (w.alloc (.cells #[] 3)) w.heap.size 28 28 3 i0 (.int .i64 0) 1 8 Tryz.underlying28 hii hz0 hz1 hz2 rfl (by decide) _ _ _
    hmade ⟨g, o, none⟩ n cap (rowV f n) (by rw [rowV_len]; omega) (rowV_cells (hr.below hab hg)) (rowV_one f n) (by unfold maxLen; omega) (by omega) hab.size
  rw [Nat.zero_add, List.nil_append] at hown'
  exact ⟨v', w1, hr1, OwnX.rowV hown', hab.trans ((Upon.of_grown hgr).below (fun q hq => (World.ownsRow.lt hmade q hq).1) hab.size)⟩
set_option maxRecDepth 100000 in
theorem specWithPoints_in (b o n cap : Nat) (f : Nat → Int) (hf : famOkB n f = true) (w : World) (hi : Ints w (some ⟨b, o, none⟩) n f) (hr : Row w b o n f) (hbl : b < w.heap.size) :
    Calls Tryz.prog 152 #[.slice (some ⟨b, o, none⟩) n cap] w (GivesB (doneL n f (FP (memS n f))) (roomB n f (FP (memS n f))) w) := by
  have hP := famOk_iff.1 hf
  have h7 := hP.hi
  have h1n := hP.lo
  have HP := Lib.hid hP
  have HI := Lib.hid hi; have HF := Lib.hid hf; have HR := Lib.hid hr
  clear hi hf hr hP
  go_enter Tryz.func152, Tryz.ntmps152
  go_wp2_with fail
  refine (specFamilyOk_val _ n cap f true _ HF.out HI.out).mono ?_
  rintro e w1 ⟨rfl, hd1⟩
  have HB1 := Lib.hid hd1.below
  have HR1 := Lib.hid (HR.out.below hd1.below hbl)
  have hbl1 : b < w1.heap.size := Nat.lt_of_lt_of_le hbl hd1.below.size
  clear hd1
  go_wp2_with fail
  go_loopw [4, 5] (fun v i wr => ∃ k : Nat, k ≤ n ∧ i = .int .i64 k ∧ v = .int .i64 (allK f k) ∧ w1 = wr) (fun _ i _ => n - (intOf i).toNat)
  case atStart => exact ⟨0, Nat.zero_le _, rfl, rfl, rfl⟩
  case round =>
    obtain ⟨k, hk, rfl, rfl, rfl⟩ := hrel
    by_cases hlt : k < n
    · have hki : (k : Int) < (n : Int) := by omega
      have hc := HR1.out k hlt
      have HS := Lib.hid (all_succ f k)
      go_wp2_with fail
      go_roundw
      case rel => exact ⟨k + 1, by omega, by go_num, by rw [HS.out], by first | rfl | trivial⟩
      case measure => simp [intOf]; omega
    · have hki : ¬ (k : Int) < (n : Int) := by omega
      have hkn : k = n := by omega
      subst hkn
      obtain ⟨v2, w2, hr2, hown2, hb2⟩ := copied_own w1 b o k cap f (by omega) HR1.out hbl1
      have hst : OwnX w2 w1.heap.size 3 v2 (withL k f (FP (memS k f)) (2 ^ 0)) := by
        rw [show (2 : Nat) ^ 0 = 1 from rfl, with_start (by
          rw [Bool.eq_false_iff]; intro h
          rcases FP_iff.1 h with h | ⟨h, _⟩
          · have := memS_rng HP.out h; omega
          · cases h)]
        exact hown2
      have HRUN := Lib.hid hr2
      have hA0 := (all_rng HP.out k (Nat.le_refl _)).1
      obtain ⟨AL, hAL⟩ : ∃ AL, allK f k = AL := ⟨_, rfl⟩
      have HAL := Lib.hid hAL
      rw [hAL] at hA0 ⊢
      obtain ⟨a2, c2, rfl⟩ := hown2.slice
      have hst2 := hst
      have HB2 := Lib.hid hb2
      clear hr2 hown2 hb2 hAL hst
      go_wp2_with (at_builtin; refine Lib.wpList_append_run _ rfl _ _ _ _ rfl _ _ rfl rfl _ _ HRUN.out ?_)
      go_loopw [6, 7] (fun v i wr => ∃ p : Nat, p ≤ 4 ∧ i = .int .i64 p ∧ OwnX wr w1.heap.size 3 v (withL k f (FP (memS k f)) (2 ^ p)) ∧ Below w1.heap.size w1 wr) (fun _ i _ => 4 - (intOf i).toNat)
      case atStart => exact ⟨0, by omega, rfl, hst2, HB2.out⟩
      case round =>
        clear hst2
        obtain ⟨p, hp, rfl, hown, hbel⟩ := hrel
        obtain ⟨a9, c9, rfl⟩ := hown.slice
        obtain ⟨q, hq⟩ : ∃ q, (withL k f (FP (memS k f)) (2 ^ p)).length = q := ⟨_, rfl⟩
        have hq1 : q ≤ 1000 := by
          rw [← hq]
          have : (2 : Nat) ^ p ≤ 2 ^ 4 := Nat.pow_le_pow_right (by omega) hp
          have := with_small k f (FP (memS k f)) (k := 2 ^ p) (by simpa using this)
          omega
        have HQ := Lib.hid hq
        have HB := Lib.hid hbel; have HOW := Lib.hid hown
        rw [hq] at HOW
        rw [hq]
        clear hown hbel hq
        by_cases hlt : p < 4
        · have hpi : (p : Int) < 4 := by omega
          have ⟨hp1, hp2⟩ := pow20i p hlt
          obtain ⟨m, hm, hm1, hm16, _, hm2⟩ := pow4 hlt
          have HT := Lib.hid (pts_turn HP.out hlt hm)
          have HNX := Lib.hid (pts_next k f hlt hm2)
          have HM2 := Lib.hid hm2
          have HM := Lib.hid hm
          rw [HAL.out] at HT
          rw [← hm2] at HQ HOW
          clear hm hm2
          cases hg : hasB AL p with
          | false =>
            have HS := Lib.hid (show withL k f (FP (memS k f)) (2 ^ (p + 1)) = withL k f (FP (memS k f)) m by rw [HNX.out, HT.out, hg]; rfl)
            have HG := Lib.hid hg; clear hg
            go_wp2_with fail
            refine (l1Has_val _ p false _ HG.out (by omega) hA0).mono ?_
            rintro e w' ⟨rfl, rfl⟩
            go_wp2_with fail
            go_roundw
            case rel => exact ⟨p + 1, by omega, by go_num, by rw [HS.out]; exact HOW.out, HB.out⟩
            case measure => simp [intOf]; omega
          | true =>
            cases hs : memS k f m with
            | true =>
              have HS := Lib.hid (show withL k f (FP (memS k f)) (2 ^ (p + 1)) = withL k f (FP (memS k f)) m by rw [HNX.out, HT.out, hg, hs]; rfl)
              have HG := Lib.hid hg; have HSM := Lib.hid hs; clear hg hs
              go_wp2_with fail
              refine (l1Has_val _ p true _ HG.out (by omega) hA0).mono ?_
              rintro e w' ⟨rfl, rfl⟩
              go_wp2_with fail
              refine (l7Put_old w1.heap.size a9 q c9 _ _ HQ.out hq1 _ HOW.out (by rw [HM.out]; exact with_in HSM.out m)).mono ?_
              rintro e w3 ⟨rfl, hd3⟩
              have HD3 := Lib.hid hd3; clear hd3
              go_wp2_with fail
              go_roundw
              case rel => exact ⟨p + 1, by omega, by go_num, by rw [HS.out]; exact HOW.out.kept HD3.out.below, below_onto HB.out HD3.out.below⟩
              case measure => simp [intOf]; omega
            | false =>
              have HS := Lib.hid (show withL k f (FP (memS k f)) (2 ^ (p + 1)) = withL k f (FP (memS k f)) m ++ [(2 : Int) ^ p] by rw [HNX.out, HT.out, hg, hs, HM.out]; rfl)
              have HG := Lib.hid hg; have HSM := Lib.hid hs; clear hg hs
              have HBS := Lib.hid HB.out.size
              go_wp2_with fail
              refine (l1Has_val _ p true _ HG.out (by omega) hA0).mono ?_
              rintro e w' ⟨rfl, rfl⟩
              go_wp2_with fail
              refine (l7Put_new w1.heap.size a9 q c9 _ _ HQ.out hq1 _ HBS.out HOW.out (by rw [HM.out]; exact with_out HSM.out)).mono ?_
              rintro e w3 ⟨v3, rfl, ho3, hb3⟩
              have HO3 := Lib.hid ho3; have HB3 := Lib.hid hb3; clear ho3 hb3
              go_wp2_with fail
              go_roundw
              case rel => exact ⟨p + 1, by omega, by go_num, by rw [HS.out]; exact HO3.out, HB.out.trans HB3.out⟩
              case measure => simp [intOf]; omega
        · have hpi : ¬ (p : Int) < 4 := by omega
          have hp4 : p = 4 := by omega
          subst hp4
          have HLAST := Lib.hid (show (2 : Nat) ^ 4 = 16 from rfl)
          rw [HLAST.out] at HQ HOW
          have HOF := Lib.hid (HOW.out.base HB1.out.size)
          have HBF := Lib.hid (below_onto HB1.out HB.out)
          by_cases hq7 : q ≤ 7
          · have hrm : roomB k f (FP (memS k f)) = true := by
              unfold roomB; rw [HF.out, HQ.out, decide_eq_true hq7]; rfl
            have HRM := Lib.hid hrm
            have HDL := Lib.hid (show doneL k f (FP (memS k f)) = withL k f (FP (memS k f)) 16 by unfold doneL; rw [if_pos hrm])
            have hqi : ¬ (q : Int) > 7 := by omega
            clear hrm
            go_wp2_with fail
            go_ret2
            rw [HDL.out, HRM.out]
            exact ⟨_, by first | rfl | trivial, HOF.out, HBF.out⟩
          · have hrm : roomB k f (FP (memS k f)) = false := by
              unfold roomB; rw [HF.out, HQ.out, decide_eq_false hq7]; rfl
            have HRM := Lib.hid hrm
            have HDL := Lib.hid (show doneL k f (FP (memS k f)) = [] by unfold doneL; rw [if_neg (by rw [hrm]; decide)])
            have hqi : (q : Int) > 7 := by omega
            have HMD := Lib.hid (OwnX.made wr w.heap.size HBF.out.size 3)
            have HBA := Lib.hid (below_onto HBF.out (alloc_below wr (.cells #[] 3)))
            clear hrm
            go_wp2_with fail
            go_ret2
            rw [HDL.out, HRM.out]
            exact ⟨_, by first | rfl | trivial, HMD.out, HBA.out⟩
theorem specWithPoints_any (a : Option Addr) (n cap : Nat) (f : Nat → Int) (w : World) (hi : Ints w a n f) :
    Calls Tryz.prog 152 #[.slice a n cap] w (GivesB (doneL n f (FP (memS n f))) (roomB n f (FP (memS n f))) w) := by
  cases hf : famOkB n f with
  | true =>
    obtain ⟨b, o, rfl, hbl, hrow⟩ := hi.row (famOk_iff.1 hf).lo
    exact specWithPoints_in b o n cap f hf w hi hrow hbl
  | false =>
    have hrm : roomB n f (FP (memS n f)) = false := by unfold roomB; rw [hf]; rfl
    rw [show doneL n f (FP (memS n f)) = [] by unfold doneL; rw [if_neg (by rw [hrm]; decide)], hrm]
    exact specWithPoints_no a n cap f hf w hi
set_option maxRecDepth 100000 in
theorem specWithSums_in (b o n cap : Nat) (f : Nat → Int) (hf : famOkB n f = true) (w : World) (hi : Ints w (some ⟨b, o, none⟩) n f) (hr : Row w b o n f) (hbl : b < w.heap.size) :
    Calls Tryz.prog 153 #[.slice (some ⟨b, o, none⟩) n cap] w (GivesB (doneL n f (FS n f)) (roomB n f (FS n f)) w) := by
  have hP := famOk_iff.1 hf
  have h7 := hP.hi
  have h1n := hP.lo
  have HP := Lib.hid hP
  have HI := Lib.hid hi; have HF := Lib.hid hf; have HR := Lib.hid hr
  clear hi hf hr hP
  go_enter Tryz.func153, Tryz.ntmps153
  go_wp2_with fail
  refine (specFamilyOk_val _ n cap f true _ HF.out HI.out).mono ?_
  rintro e w1 ⟨rfl, hd1⟩
  have HB1 := Lib.hid hd1.below
  have HR1 := Lib.hid (HR.out.below hd1.below hbl)
  have hbl1 : b < w1.heap.size := Nat.lt_of_lt_of_le hbl hd1.below.size
  obtain ⟨v2, w2, hr2, hown2, hb2⟩ := copied_own w1 b o n cap f (by omega) HR1.out hbl1
  have hst : OwnX w2 w1.heap.size 3 v2 (withL n f (FS n f) 1) := by
    rw [with_start (by unfold FS; rw [decide_eq_false (by omega)]; rfl)]
    exact hown2
  have HRUN := Lib.hid hr2
  obtain ⟨a2, c2, rfl⟩ := hown2.slice
  have HB2 := Lib.hid hb2
  clear hr2 hown2 hb2 hd1
  go_wp2_with (at_builtin; refine Lib.wpList_append_run _ rfl _ _ _ _ rfl _ _ rfl rfl _ _ HRUN.out ?_)
  go_loopw [4, 5] (fun v i wr => ∃ t : Nat, 1 ≤ t ∧ t ≤ 16 ∧ i = .int .i64 t ∧ OwnX wr w1.heap.size 3 v (withL n f (FS n f) t) ∧ Below w1.heap.size w1 wr) (fun _ i _ => 16 - (intOf i).toNat)
  case atStart => exact ⟨1, Nat.le_refl _, by omega, rfl, hst, HB2.out⟩
  case round =>
    clear hst
    obtain ⟨t, ht1, ht, rfl, hown, hbel⟩ := hrel
    obtain ⟨a9, c9, rfl⟩ := hown.slice
    obtain ⟨q, hq⟩ : ∃ q, (withL n f (FS n f) t).length = q := ⟨_, rfl⟩
    have hq1 : q ≤ 1000 := by rw [← hq]; have := with_small n f (FS n f) ht; omega
    have HQ := Lib.hid hq
    have HB := Lib.hid hbel; have HOW := Lib.hid hown
    rw [hq] at HOW
    rw [hq]
    have HRW := Lib.hid (HR1.out.below hbel hbl1)
    clear hown hbel hq
    by_cases hlt : t < 16
    · have hti : (t : Int) < 16 := by omega
      go_wp2_with fail
      obtain ⟨wo, rfl⟩ : ∃ wo : World, wo = wr := ⟨_, rfl⟩
      go_loopw [6, 7] (fun v i wr => ∃ k : Nat, k ≤ n ∧ i = .int .i64 k ∧ v = .int .i64 (gotK f t k) ∧ wo = wr) (fun _ i _ => n - (intOf i).toNat)
      case atStart => exact ⟨0, Nat.zero_le _, rfl, rfl, rfl⟩
      case round =>
        obtain ⟨k, hk, rfl, rfl, rfl⟩ := hrel
        by_cases hkn : k < n
        · have hki : (k : Int) < (n : Int) := by omega
          have hc := HRW.out k hkn
          have hew := or_within (f k) (t : Int) (by unfold I64; omega)
          cases hg : withinB (f k) (t : Int) with
          | true =>
            have HS := Lib.hid (got_yes hg)
            rw [hg] at hew; clear hg
            go_wp2_with fail
            go_roundw
            case rel => exact ⟨k + 1, by omega, by go_num, by rw [HS.out], by first | rfl | trivial⟩
            case measure => simp [intOf]; omega
          | false =>
            have HS := Lib.hid (got_no hg)
            rw [hg] at hew; clear hg
            go_wp2_with fail
            go_roundw
            case rel => exact ⟨k + 1, by omega, by go_num, by rw [HS.out], by first | rfl | trivial⟩
            case measure => simp [intOf]; omega
        · have hki : ¬ (k : Int) < (n : Int) := by omega
          have hkn2 : k = n := by omega
          subst hkn2
          have HFS := Lib.hid (show FS k f t = (gotK f (t : Int) k == (t : Int)) by unfold FS; rw [decide_eq_true ⟨ht1, hlt⟩, Bool.true_and])
          have HBS := Lib.hid HB.out.size
          cases hg : (gotK f (t : Int) k == (t : Int)) with
          | false =>
            have HS := Lib.hid (show withL k f (FS k f) (t + 1) = withL k f (FS k f) t by
              unfold withL; rw [fam_no (by unfold newS; rw [HFS.out, hg]; rfl)])
            go_wp2_with fail
            go_roundw
            case rel => exact ⟨t + 1, by omega, by omega, by go_num, by rw [HS.out]; exact HOW.out, HB.out⟩
            case measure => simp [intOf]; omega
          | true =>
            cases hs : memS k f t with
            | true =>
              have HS := Lib.hid (show withL k f (FS k f) (t + 1) = withL k f (FS k f) t by
                unfold withL; rw [fam_no (by unfold newS; rw [hs]; simp)])
              have HSM := Lib.hid hs; clear hs
              go_wp2_with fail
              refine (l7Put_old w1.heap.size a9 q c9 _ _ HQ.out hq1 _ HOW.out (with_in HSM.out t)).mono ?_
              rintro e w3 ⟨rfl, hd3⟩
              have HD3 := Lib.hid hd3; clear hd3
              go_wp2_with fail
              go_roundw
              case rel => exact ⟨t + 1, by omega, by omega, by go_num, by rw [HS.out]; exact HOW.out.kept HD3.out.below, below_onto HB.out HD3.out.below⟩
              case measure => simp [intOf]; omega
            | false =>
              have HS := Lib.hid (show withL k f (FS k f) (t + 1) = withL k f (FS k f) t ++ [(t : Int)] by
                unfold withL; rw [fam_yes (by unfold newS; rw [HFS.out, hg, hs]; rfl), List.append_assoc])
              have HSM := Lib.hid hs; clear hs
              go_wp2_with fail
              refine (l7Put_new w1.heap.size a9 q c9 _ _ HQ.out hq1 _ HBS.out HOW.out (with_out HSM.out)).mono ?_
              rintro e w3 ⟨v3, rfl, ho3, hb3⟩
              have HO3 := Lib.hid ho3; have HB3 := Lib.hid hb3; clear ho3 hb3
              go_wp2_with fail
              go_roundw
              case rel => exact ⟨t + 1, by omega, by omega, by go_num, by rw [HS.out]; exact HO3.out, HB.out.trans HB3.out⟩
              case measure => simp [intOf]; omega
    · have hti : ¬ (t : Int) < 16 := by omega
      have ht16 : t = 16 := by omega
      subst ht16
      have HOF := Lib.hid (HOW.out.base HB1.out.size)
      have HBF := Lib.hid (below_onto HB1.out HB.out)
      by_cases hq7 : q ≤ 7
      · have hrm : roomB n f (FS n f) = true := by
          unfold roomB; rw [HF.out, HQ.out, decide_eq_true hq7]; rfl
        have HRM := Lib.hid hrm
        have HDL := Lib.hid (show doneL n f (FS n f) = withL n f (FS n f) 16 by unfold doneL; rw [if_pos hrm])
        have hqi : ¬ (q : Int) > 7 := by omega
        clear hrm
        go_wp2_with fail
        go_ret2
        rw [HDL.out, HRM.out]
        exact ⟨_, by first | rfl | trivial, HOF.out, HBF.out⟩
      · have hrm : roomB n f (FS n f) = false := by
          unfold roomB; rw [HF.out, HQ.out, decide_eq_false hq7]; rfl
        have HRM := Lib.hid hrm
        have HDL := Lib.hid (show doneL n f (FS n f) = [] by unfold doneL; rw [if_neg (by rw [hrm]; decide)])
        have hqi : (q : Int) > 7 := by omega
        have HMD := Lib.hid (OwnX.made wr w.heap.size HBF.out.size 3)
        have HBA := Lib.hid (below_onto HBF.out (alloc_below wr (.cells #[] 3)))
        clear hrm
        go_wp2_with fail
        go_ret2
        rw [HDL.out, HRM.out]
        exact ⟨_, by first | rfl | trivial, HMD.out, HBA.out⟩
theorem specWithSums_any (a : Option Addr) (n cap : Nat) (f : Nat → Int) (w : World) (hi : Ints w a n f) :
    Calls Tryz.prog 153 #[.slice a n cap] w (GivesB (doneL n f (FS n f)) (roomB n f (FS n f)) w) := by
  cases hf : famOkB n f with
  | true =>
    obtain ⟨b, o, rfl, hbl, hrow⟩ := hi.row (famOk_iff.1 hf).lo
    exact specWithSums_in b o n cap f hf w hi hrow hbl
  | false =>
    have hrm : roomB n f (FS n f) = false := by unfold roomB; rw [hf]; rfl
    rw [show doneL n f (FS n f) = [] by unfold doneL; rw [if_neg (by rw [hrm]; decide)], hrm]
    exact specWithSums_no a n cap f hf w hi
end Go.Proofs.YthaickihoagnmaaGreatDoor
