import Derived.Test.YtglnefffkcillaaPlOne
import Derived.Test.YtglnefffkcillaaHeldX
import Derived.Deep.RegionHeld3
namespace Go.Proofs.Ytglnefffkcillaa
set_option linter.unusedVariables false
set_option linter.unusedSimpArgs false
open Go.RowKit Go.Maps
attribute [local go_sem] Oper.semAt_some

/-- what the loop of what was taken out knows of its own memory -/
structure TkI (n : Nat) (f P Q : Nat → Int) (R0 V : Nat) (w : World) (xs : List Shp) (T : Nat → Prop) (W : World) : Prop where
  box : ∃ v, Boxed W V 23 v ∧ OwnX W R0 3 v (xs.map (fun x => outI n f P Q x.k)) ∧ ∀ g, v.ownBlock = some g → ¬ T g
  nV : ¬ T V
  bel : Below R0 w W
  tl : ∀ k, T k → R0 ≤ k ∧ k < W.heap.size
theorem TkI.abide {n R0 V Bs : Nat} {f P Q : Nat → Int} {w : World} (hB : R0 ≤ Bs) (hV : R0 ≤ V) : AbideT Bs (TkI n f P Q R0 V w) := by
  rintro xs T T' W W' h hm hT'
  obtain ⟨v, h1, h2, h3⟩ := h.box
  have hs := h.bel.size
  have hw : w.heap.size ≤ W'.heap.size := Nat.le_trans hs hm.size
  have hVl := h1.lt
  have hT2 : ∀ k, k < W.heap.size → ¬ T k → ¬ T' k := fun k hk hn h => by rcases hT' k h with h | h; exact hn h; omega
  have eV : W'.heap[V]? = W.heap[V]? := hm.block V hVl h.nV (fun _ o ho => by rw [show W.heap[V]? = _ from h1] at ho; cases ho; rfl)
  refine ⟨⟨v, eV.trans h1, ownsRow_same h2 (fun g hg => hm.block g (World.ownsRow.lt h2 g hg).2 (h3 g hg) (fun _ o ho => ownsRow_cells h2 hg ho)), fun g hg => hT2 g (World.ownsRow.lt h2 g hg).2 (h3 g hg)⟩, hT2 V hVl h.nV, ?_, fun k hk => ?_⟩
  · have hR := h.bel
    refine ⟨hm.os.trans hR.os, hm.tape.trans hR.tape, hm.output.trans hR.output, hw, fun k hk => ?_⟩
    rw [hm.block k (by omega) (fun h5 => by have := h.tl k h5; omega) (fun h5 => by omega)]
    exact hR.block k hk
  · have := hm.size
    rcases hT' k hk with h5 | h5
    · have := h.tl k h5; omega
    · omega
theorem TkI.more {n R0 V : Nat} {f P Q : Nat → Int} {w W w1 : World} {xs : List Shp} {T : Nat → Prop} {v v' : Value} {tmp : Obj} (x : Shp) (h : TkI n f P Q R0 V w xs T W)
    (hv : Boxed W V 23 v) (hrow : OwnX W R0 3 v (xs.map (fun x => outI n f P Q x.k))) (hap : ∀ g, v.ownBlock = some g → ¬ T g)
    (hown' : OwnX w1 R0 3 v' (xs.map (fun x => outI n f P Q x.k) ++ [outI n f P Q x.k])) (hgrow : (W.alloc tmp).grownBy w1 v.ownBlock) (hat : v'.ownBlock = v.ownBlock ∨ v'.ownBlock = some (W.heap.size + 1))
    (hR : R0 ≤ W.heap.size) (hVR : R0 ≤ V) :
    Boxed w1 V 23 v ∧ KeepsOthers W (w1.setCell ⟨V, 0, none⟩ v') ∧ (∀ k, T k ∨ k < R0 → (w1.setCell ⟨V, 0, none⟩ v').heap[k]? = W.heap[k]?) ∧ TkI n f P Q R0 V w (xs ++ [x]) T (w1.setCell ⟨V, 0, none⟩ v') := by
  obtain ⟨hv1, hv2, hr2, hk2, hb2⟩ := hv.appended (by decide) hrow hR hVR hown' hgrow
  have hs : (w1.setCell ⟨V, 0, none⟩ v').heap.size = w1.heap.size := by simp [World.setCell]
  have hs1 : W.heap.size + 1 ≤ w1.heap.size := by have := hgrow.size; rw [alloc_size] at this; exact this
  have hsame : ∀ k, k < W.heap.size → k ≠ V → some k ≠ v.ownBlock → (w1.setCell ⟨V, 0, none⟩ v').heap[k]? = W.heap[k]? := fun k hk h1 h2 => (Below.heap_setCell _ _ _ k h1).trans (grown_at hgrow hk h2)
  refine ⟨hv1, hk2, fun k hk => ?_, ⟨v', hv2, ?_, fun g hg => ?_⟩, h.nV, h.bel.trans hb2, fun k hk => ?_⟩
  · rcases hk with hk | hk
    · exact hsame k (h.tl k hk).2 (fun e => h.nV (e ▸ hk)) (fun e => hap k e.symm hk)
    · exact hb2.block k hk
  · rw [List.map_append]
    exact hr2
  · rcases hat with e | e
    · rw [e] at hg; exact hap g hg
    · rw [e] at hg
      have hg : W.heap.size + 1 = g := by simpa using hg
      exact fun ht => by have := h.tl g ht; omega
  · have := h.tl k hk
    rw [hs]; omega

end Go.Proofs.Ytglnefffkcillaa

namespace Go.Proofs.Ytglnefffkcillaa
set_option linter.unusedVariables false
set_option linter.unusedSimpArgs false
open Go.RowKit Go.Maps

theorem inL {v : Int} {L : List Int} : inF v L.length (fun i => L.getD i 0) = L.contains v := by
  rw [Bool.eq_iff_iff, inF_iff, List.contains_iff_mem]
  constructor
  · rintro ⟨k, hk, e⟩
    rw [← e]; exact getD_mem hk
  · intro h
    obtain ⟨k, hk, e⟩ := List.getElem_of_mem h
    exact ⟨k, hk, by show L.getD k 0 = v; rw [List.getD_eq_getElem?_getD, List.getElem?_eq_getElem hk]; exact e⟩
theorem all_cnt {n m : Nat} {f g : Nat → Int} : (List.range n).all (fun k => inF (f k) m g) = decide (cntF n f m g = n) := by
  rw [Bool.eq_iff_iff, List.all_eq_true, decide_eq_true_eq, cntF_all]
  exact ⟨fun h k hk => h k (List.mem_range.2 hk), fun h k hk => h k (List.mem_range.1 hk)⟩
theorem ty_len (n : Nat) (f P Q : Nat → Int) (m : Nat) : (tyL n f P Q m).length ≤ 20 := by
  unfold tyL
  cases h : syB n f m with
  | false => simp
  | true =>
    have h2 := of_decide_eq_true (Bool.and_eq_true_iff.1 h).2
    have := dn_len n f P Q m
    rw [if_pos rfl, tk_len]; omega
theorem out_rng {n : Nat} {f P Q : Nat → Int} {k : Nat} (hs : shipB n f = true) (h : goB n f P Q k = true) : 0 ≤ outI n f P Q k ∧ outI n f P Q k ≤ 99 := by
  obtain ⟨h1, h2, _⟩ := okC_iff.1 h
  exact ship_pk (now_ship hs k) (by omega)
theorem ty_64 {n : Nat} {f P Q : Nat → Int} {m : Nat} : ∀ x ∈ tyL n f P Q m, I64 x := by
  intro x hx
  unfold tyL at hx
  cases h : syB n f m with
  | false => rw [h] at hx; cases hx
  | true =>
    rw [h, if_pos rfl] at hx
    unfold tkL at hx
    obtain ⟨k, hk, rfl⟩ := List.mem_map.1 hx
    have := out_rng (Bool.and_eq_true_iff.1 h).1 (List.mem_filter.1 hk).2
    unfold outI at this
    unfold I64; omega
theorem bu_no {n : Nat} {f P Q : Nat → Int} {m : Nat} (h : syB n f m = false) : buB n f P Q m = false := by
  unfold buB; rw [show (shipB n f && decide (m ≤ 20)) = false from h]; rfl
theorem bu_yes {n : Nat} {f P Q : Nat → Int} {m : Nat} (h : syB n f m = true) : buB n f P Q m = decide (cntF n f (tyL n f P Q m).length (fun i => (tyL n f P Q m).getD i 0) = n) := by
  rw [← all_cnt]
  unfold buB
  rw [show (shipB n f && decide (m ≤ 20)) = true from h, Bool.true_and]
  have : tyL n f P Q m = tkL n f P Q m := by unfold tyL; rw [h]; rfl
  rw [this]
  congr 1
  funext k
  rw [inL]

end Go.Proofs.Ytglnefffkcillaa

namespace Go.Proofs.Ytglnefffkcillaa
set_option linter.unusedVariables false
set_option linter.unusedSimpArgs false
open Go.RowKit Go.Maps

theorem ship_no {n : Nat} {f : Nat → Int} (h : shipK n f = false) : shipB n f = false := by unfold shipB; rw [h, Bool.and_false]
theorem shipK_first {n k : Nat} {f : Nat → Int} (hk : k < n) (h : ¬ (pkB (f k) = true ∧ inF (f k) k f = false)) : shipK n f = false := by
  cases e : shipK n f with
  | true => exact absurd (shipK_at e hk) h
  | false => rfl
theorem inB_pk {x : Int} : inB 0 x 99 = pkB x := rfl
theorem inB_len {n : Nat} {f : Nat → Int} (h : shipK n f = true) : inB 1 n 6 = shipB n f := by
  unfold shipB inB
  rw [h, Bool.and_true]
  congr 1
  · rw [decide_eq_decide]; omega
  · rw [decide_eq_decide]; omega

theorem one_more {n m i j : Nat} {f g : Nat → Int} (hg : shipB m g = true) (hj : j < m) :
    cntF i f m g + (if inF (f i) (j + 1) g then 1 else 0) = (cntF i f m g + (if inF (f i) j g then 1 else 0)) + (if f i == g j then 1 else 0) := by
  rw [inF_succ]
  cases h : inF (f i) j g with
  | false =>
    by_cases e : f i = g j
    · rw [e]; simp
    · have h1 : (f i == g j) = false := by simpa using e
      have h2 : (g j == f i) = false := by simpa using Ne.symm e
      rw [h1, h2]; simp
  | true =>
    obtain ⟨q, hq, e⟩ := inF_iff.1 h
    have h1 : (f i == g j) = false := by
      rw [beq_eq_false_iff_ne]
      intro e2
      rw [← e] at e2
      exact ship_lt hg hq hj e2
    rw [h1]; simp

theorem moB_neg {n m : Nat} {f g : Nat → Int} {b : Int} (h : b < 0) : moB n f m g b = false := by
  cases e : moB n f m g b with
  | false => rfl
  | true =>
    have := (moB_iff.1 e).2.2.2
    have := cntF_le n f m g
    omega

end Go.Proofs.Ytglnefffkcillaa

namespace Go.Proofs.Ytglnefffkcillaa
set_option linter.unusedVariables false
set_option linter.unusedSimpArgs false
open Go.RowKit Go.Maps

theorem Blk2.drewN {w : World} {B : Nat} {t : TypeId} {x y : Value} (h : Blk2 w B t x y) (m : Nat) : Blk2 (w.drewN m) B t x y := h.kept (below_drewN (Below.refl _ _) m) h.lt
theorem OwnX.drewN {w : World} {B : Nat} {t : TypeId} {v : Value} {xs : List Int} (h : OwnX w B t v xs) (m : Nat) : OwnX (w.drewN m) B t v xs := h.kept (below_drewN (Below.refl _ _) m)

theorem ch_len (n : Nat) (f : Nat → Int) (p q : Int) : (chL n f p q).length ≤ 6 ∧ ∀ x ∈ chL n f p q, I64 x := by
  unfold chL
  cases h : shipB n f with
  | false => exact ⟨by simp, fun x hx => (by cases hx)⟩
  | true =>
    rw [if_pos rfl, rowL_len]
    refine ⟨(shipB_iff.1 h).2.1, rowL_mem (P := I64) (fun i hi => ?_)⟩
    unfold chF
    cases h2 : okC n f p q with
    | false => have := ship_pk h hi; rw [if_neg (by simp)]; unfold I64; omega
    | true =>
      rw [if_pos rfl]
      obtain ⟨_, hpn, hq, _⟩ := okC_iff.1 h2
      unfold setF
      split
      · have := pkB_iff.1 hq; unfold I64; omega
      · have := ship_pk h hi; unfold I64; omega

end Go.Proofs.Ytglnefffkcillaa

namespace Go.Proofs.Ytglnefffkcillaa
set_option linter.unusedVariables false
set_option linter.unusedSimpArgs false
open Go.RowKit Go.Maps

theorem Ships.lt {w : World} {B n : Nat} {v : Value} {L : List (List Int)} {rs : List (Nat × Nat)} (h : Ships w B n v L rs) : ∀ r ∈ rs, B ≤ r.1 ∧ r.1 < w.heap.size := by
  intro r hr
  obtain ⟨i, hi, e⟩ := List.getElem_of_mem hr
  have h1 := (h.row i (by rw [← h.len]; exact hi)).1
  have e2 : rs.getD i (0, 0) = r := by rw [List.getD_eq_getElem?_getD, List.getElem?_eq_getElem hi, ← e]; rfl
  rw [e2] at h1
  exact World.ownsRow.lt h1 _ rfl
theorem Ships.kept {w w' : World} {B n : Nat} {v : Value} {L : List (List Int)} {rs : List (Nat × Nat)} (h : Ships w B n v L rs) (hb : Below w.heap.size w w') : Ships w' B n v L rs :=
  ⟨ownsRow_same h.own (fun g hg => hb.block g (World.ownsRow.lt h.own g hg).2), fun i hi => ⟨(h.row i hi).1.kept hb, (h.row i hi).2⟩, h.dis, h.apart⟩
theorem Ships.snoc {w w' : World} {B n : Nat} {v v' : Value} {L : List (List Int)} {rs : List (Nat × Nat)} {tmp : Obj} (h : Ships w B n v L rs) {g c : Nat} {l : List Int} (hl : OwnX w B 3 (.slice (some ⟨g, 0, none⟩) n c) l) (hc : n ≤ c)
    (hg : ∀ r ∈ rs, r.1 ≠ g) (hv : v.ownBlock ≠ some g)
    (hown' : w'.ownsRow B 23 1 v' (L.length + 1) (rs.map (fun r => Value.slice (some ⟨r.1, 0, none⟩) n r.2) ++ [.slice (some ⟨g, 0, none⟩) n c])) (hgrow : (w.alloc tmp).grownBy w' v.ownBlock) (hat : v'.ownBlock = v.ownBlock ∨ v'.ownBlock = some (w.heap.size + 1)) :
    Ships w' B n v' (L ++ [l]) (rs ++ [(g, c)]) := by
  have hlen := h.len
  have hgl := World.ownsRow.lt hl g rfl
  refine ⟨?_, fun i hi => ?_, ?_, fun r hr e => ?_⟩
  · rw [List.length_append, List.map_append]; exact hown'
  · rw [List.length_append] at hi
    by_cases e : i < L.length
    · have h1 := h.row i e
      have e2 : (rs ++ [(g, c)]).getD i (0, 0) = rs.getD i (0, 0) := by rw [List.getD_eq_getElem?_getD, List.getElem?_append_left (by omega), ← List.getD_eq_getElem?_getD]
      have e3 : (L ++ [l]).getD i [] = L.getD i [] := by rw [List.getD_eq_getElem?_getD, List.getElem?_append_left (by omega), ← List.getD_eq_getElem?_getD]
      rw [e2, e3]
      have hm : rs.getD i (0, 0) ∈ rs := by rw [List.getD_eq_getElem?_getD, List.getElem?_eq_getElem (by omega : i < rs.length)]; exact List.getElem_mem _
      exact ⟨OwnX.at h1.1 (grown_at hgrow (h.lt _ hm).2 (fun e => h.apart _ hm e.symm)), h1.2⟩
    · have : i = L.length := by simp at hi; omega
      subst this
      have e2 : (rs ++ [(g, c)]).getD L.length (0, 0) = (g, c) := by rw [List.getD_eq_getElem?_getD, List.getElem?_append_right (by omega), hlen, Nat.sub_self]; rfl
      have e3 : (L ++ [l]).getD L.length [] = l := by rw [List.getD_eq_getElem?_getD, List.getElem?_append_right (by omega), Nat.sub_self]; rfl
      rw [e2, e3]
      exact ⟨OwnX.at hl (grown_at hgrow hgl.2 (fun e => hv e.symm)), hc⟩
  · rw [List.map_append, List.nodup_append]
    refine ⟨h.dis, by simp, fun a ha b hb e => ?_⟩
    simp at hb
    subst hb; subst e
    obtain ⟨r, hr, e⟩ := List.mem_map.1 ha
    exact hg r hr e
  · rcases List.mem_append.1 hr with hr | hr
    · rcases hat with e2 | e2
      · rw [e2] at e; exact h.apart r hr e
      · rw [e2] at e
        have := (h.lt r hr).2
        have e : w.heap.size + 1 = r.1 := by simpa using e
        omega
    · rw [List.mem_singleton] at hr
      subst hr
      rcases hat with e2 | e2
      · rw [e2] at e; exact hv e
      · rw [e2] at e
        have e : w.heap.size + 1 = g := by simpa using e
        have := hgl.2
        omega

/-- the state of the model's loop: the ships so far, and the last of them -/
def SyS (n : Nat) (f P Q : Nat → Int) (R0 : Nat) (w : World) (k : Nat) (vo vn : Value) (wr : World) : Prop :=
  ∃ rs g c, vn = .slice (some ⟨g, 0, none⟩) n c ∧ n ≤ c ∧ OwnX wr R0 3 (.slice (some ⟨g, 0, none⟩) n c) (rowL (nowF n f P Q k) n) ∧ Ships wr R0 n vo (stL n f P Q k) rs ∧ Below R0 w wr

theorem specStory_made (w : World) (n : Nat) : Ships (w.alloc (.cells #[] 23)) w.heap.size n (.slice (some ⟨w.heap.size, 0, none⟩) 0 0) [] [] :=
  ⟨World.ownsRow_made w #[] 0 (Nat.le_refl _) (by unfold maxLen; omega) rfl, fun i hi => (by cases hi), List.nodup_nil, fun r hr => (by cases hr)⟩

end Go.Proofs.Ytglnefffkcillaa

namespace Go.Proofs.Ytglnefffkcillaa
set_option linter.unusedVariables false
set_option linter.unusedSimpArgs false
open Go.RowKit Go.Maps

theorem getD_left {α : Type} {a b : List α} {i : Nat} {d : α} (h : i < a.length) : (a ++ b).getD i d = a.getD i d := by
  rw [List.getD_eq_getElem?_getD, List.getElem?_append_left h, ← List.getD_eq_getElem?_getD]
theorem getD_last {α : Type} {a : List α} {x d : α} {i : Nat} (h : i = a.length) : (a ++ [x]).getD i d = x := by
  subst h
  rw [List.getD_eq_getElem?_getD, List.getElem?_append_right (Nat.le_refl _), Nat.sub_self]; rfl
/-- the last ship of a story -/
theorem st_last (n : Nat) (f P Q : Nat → Int) : ∀ m, (stL n f P Q m).getD (dnL n f P Q m).length [] = rowL (nowF n f P Q m) n
  | 0 => rfl
  | m + 1 => by
    cases hg : goB n f P Q m with
    | true =>
      rw [st_yes hg, dn_yes hg, List.length_append]
      exact getD_last (by rw [st_len]; rfl)
    | false => rw [st_no hg, dn_no hg, now_no hg]; exact st_last n f P Q m
/-- the ships ahead of a change that is done, and behind it -/
theorem st_pair (n : Nat) (f P Q : Nat → Int) : ∀ m i, i < (dnL n f P Q m).length →
    (stL n f P Q m).getD i [] = rowL (nowF n f P Q ((dnL n f P Q m).getD i 0)) n ∧ (stL n f P Q m).getD (i + 1) [] = rowL (nowF n f P Q ((dnL n f P Q m).getD i 0 + 1)) n ∧ goB n f P Q ((dnL n f P Q m).getD i 0) = true
  | 0, i, h => by simp [dnL] at h
  | m + 1, i, h => by
    cases hg : goB n f P Q m with
    | true =>
      rw [dn_yes hg] at h ⊢
      rw [st_yes hg]
      have hl := st_len n f P Q m
      by_cases hi : i < (dnL n f P Q m).length
      · rw [getD_left (a := stL n f P Q m) (i := i) (by omega), getD_left (a := stL n f P Q m) (i := i + 1) (by omega), getD_left hi]
        exact st_pair n f P Q m i hi
      · have e : i = (dnL n f P Q m).length := by rw [List.length_append] at h; simp at h; omega
        rw [getD_last (a := dnL n f P Q m) e, getD_left (a := stL n f P Q m) (i := i) (by omega), getD_last (a := stL n f P Q m) (i := i + 1) (by omega), e]
        exact ⟨st_last n f P Q m, rfl, hg⟩
    | false =>
      rw [dn_no hg] at h ⊢
      rw [st_no hg]
      exact st_pair n f P Q m i h
theorem tk_take {n : Nat} {f P Q : Nat → Int} {m i : Nat} (h : i < (dnL n f P Q m).length) : (tkL n f P Q m).take (i + 1) = (tkL n f P Q m).take i ++ [outI n f P Q ((dnL n f P Q m).getD i 0)] := by
  rw [List.take_add_one]
  congr 1
  unfold tkL
  rw [List.getElem?_map, List.getD_eq_getElem?_getD, List.getElem?_eq_getElem h]
  rfl
theorem Ships.other {w w' : World} {B n : Nat} {v : Value} {L : List (List Int)} {rs : List (Nat × Nat)} (h : Ships w B n v L rs) (hb : ∀ g, (v.ownBlock = some g ∨ ∃ r ∈ rs, r.1 = g) → w'.heap[g]? = w.heap[g]?) : Ships w' B n v L rs := by
  refine ⟨ownsRow_same h.own (fun g hg => hb g (.inl hg)), fun i hi => ⟨OwnX.at (h.row i hi).1 (hb _ (.inr ⟨_, ?_, rfl⟩)), (h.row i hi).2⟩, h.dis, h.apart⟩
  rw [List.getD_eq_getElem?_getD, List.getElem?_eq_getElem (by rw [h.len]; exact hi)]
  exact List.getElem_mem _
theorem Ships.cell {w : World} {B n g c : Nat} {L : List (List Int)} {rs : List (Nat × Nat)} (h : Ships w B n (.slice (some ⟨g, 0, none⟩) L.length c) L rs) {i : Nat} (hi : i < L.length) :
    w.cell? ⟨g, i, none⟩ = some (.slice (some ⟨(rs.getD i (0, 0)).1, 0, none⟩) n (rs.getD i (0, 0)).2) := by
  rw [World.ownsRow.cellAt h.own i (by omega), List.getElem?_map, List.getD_eq_getElem?_getD, List.getElem?_eq_getElem (by rw [h.len]; exact hi)]
  rfl
theorem Ships.rowAt {w : World} {B n : Nat} {v : Value} {L : List (List Int)} {rs : List (Nat × Nat)} (h : Ships w B n v L rs) {i : Nat} (hi : i < L.length) (hn : 1 ≤ n) {F : Nat → Int} (hL : L.getD i [] = rowL F n) : Row w (rs.getD i (0, 0)).1 0 n F := by
  have h1 := (h.row i hi).1
  rw [hL] at h1
  obtain ⟨g', c', e, _, _, _, _, h5, _⟩ := h1.shape (by rw [rowL_len]; exact hn)
  rw [rowL_len] at e
  cases e
  exact row_of_list h5
theorem Ships.shape {w : World} {B n : Nat} {v : Value} {L : List (List Int)} {rs : List (Nat × Nat)} (h : Ships w B n v L rs) (h1 : 1 ≤ L.length) : ∃ g c, v = .slice (some ⟨g, 0, none⟩) L.length c := by
  obtain ⟨_, ⟨_, h0⟩ | ⟨g, cap, cur, hv, _⟩⟩ := h.own
  · omega
  · exact ⟨g, cap, hv⟩

/-- the state of the model's loops: the story, and what has been gathered -/
structure TkS (n : Nat) (B0 : Nat) (w : World) (gs cs : Nat) (L : List (List Int)) (rs : List (Nat × Nat)) (xs : List Int) (v : Value) (wr : World) : Prop where
  ships : Ships wr B0 n (.slice (some ⟨gs, 0, none⟩) L.length cs) L rs
  out : OwnX wr B0 3 v xs
  apart : ∀ g, v.ownBlock = some g → g ≠ gs ∧ ∀ r ∈ rs, r.1 ≠ g
  bel : Below B0 w wr
theorem TkS.drewN {n B0 gs cs : Nat} {w : World} {L : List (List Int)} {rs : List (Nat × Nat)} {xs : List Int} {v : Value} {wr : World} (h : TkS n B0 w gs cs L rs xs v wr) (m : Nat) : TkS n B0 w gs cs L rs xs v (wr.drewN m) :=
  ⟨h.ships.kept (below_drewN (Below.refl _ _) m), h.out.drewN m, h.apart, below_drewN h.bel m⟩
theorem TkS.more {n B0 gs cs : Nat} {w : World} {L : List (List Int)} {rs : List (Nat × Nat)} {xs : List Int} {v : Value} {wr : World} (h : TkS n B0 w gs cs L rs xs v wr) {z : Int} {v' : Value} {w' : World} {tmp : Obj}
    (ho : OwnX w' B0 3 v' (xs ++ [z])) (hg : (wr.alloc tmp).grownBy w' v.ownBlock) (hat : v'.ownBlock = v.ownBlock ∨ v'.ownBlock = some (wr.heap.size + 1)) (hB : B0 ≤ wr.heap.size) : TkS n B0 w gs cs L rs (xs ++ [z]) v' w' := by
  have hgs := (World.ownsRow.lt h.ships.own gs rfl).2
  refine ⟨h.ships.other (fun g hg2 => grown_at hg ?_ ?_), ho, ?_, (h.bel.alloc hB _).grown hg (by rw [alloc_size]; omega) (fun q hq => (World.ownsRow.lt h.out q hq).1)⟩
  · rcases hg2 with e | ⟨r, hr, rfl⟩
    · have e : gs = g := by simpa [Value.ownBlock] using e
      omega
    · exact (h.ships.lt r hr).2
  · intro e
    rcases hg2 with e2 | ⟨r, hr, rfl⟩
    · have e2 : gs = g := by simpa [Value.ownBlock] using e2
      exact (h.apart g e.symm).1 e2.symm
    · exact (h.apart _ e.symm).2 r hr rfl
  · intro g hg2
    rcases hat with e | e
    · rw [e] at hg2; exact h.apart g hg2
    · rw [e] at hg2
      have e : wr.heap.size + 1 = g := by simpa using hg2
      exact ⟨by omega, fun r hr e2 => by have := (h.ships.lt r hr).2; omega⟩

end Go.Proofs.Ytglnefffkcillaa

namespace Go.Proofs.Ytglnefffkcillaa
set_option linter.unusedVariables false
set_option linter.unusedSimpArgs false
open Go.RowKit Go.Maps

theorem bu_at {n : Nat} {f P Q : Nat → Int} {m k : Nat} (hk : k < n) (h : inF (f k) (tyL n f P Q m).length (fun i => (tyL n f P Q m).getD i 0) = false) : buB n f P Q m = false := by
  cases hs : syB n f m with
  | false => exact bu_no hs
  | true =>
    rw [bu_yes hs, decide_eq_false]
    rw [cntF_all]
    intro h2
    rw [h2 k hk] at h; cases h
theorem bu_all {n : Nat} {f P Q : Nat → Int} {m : Nat} (h : ∀ k, k < n → inF (f k) (tyL n f P Q m).length (fun i => (tyL n f P Q m).getD i 0) = true) : buB n f P Q m = syB n f m := by
  cases hs : syB n f m with
  | false => exact bu_no hs
  | true => rw [bu_yes hs, decide_eq_true]; rw [cntF_all]; exact h

end Go.Proofs.Ytglnefffkcillaa

namespace Go.Proofs.Ytglnefffkcillaa
set_option linter.unusedVariables false
set_option linter.unusedSimpArgs false
open Go.RowKit Go.Maps

/-- a block of n pairs -/
def prF (P Q : Nat → Int) (j : Nat) : Int := if j % 2 = 0 then P (j / 2) else Q (j / 2)
theorem prF_0 (P Q : Nat → Int) (i : Nat) : prF P Q (i * 2) = P i := by unfold prF; rw [if_pos (by omega)]; congr 1; omega
theorem prF_1 (P Q : Nat → Int) (i : Nat) : prF P Q (i * 2 + 1) = Q i := by unfold prF; rw [if_neg (by omega)]; congr 1; omega
theorem Rw.pairs {w : World} {g n cap : Nat} {t : TypeId} {P Q : Nat → Int} (h : Rw w g t cap (n * 2) (prF P Q)) : RowP w g 0 n P Q := fun i hi =>
  ⟨by rw [Nat.zero_add, h.cell (i * 2) (by omega), prF_0], by rw [Nat.zero_add, h.cell (i * 2 + 1) (by omega), prF_1]⟩
theorem Rw.lt {w : World} {g : Nat} {t : TypeId} {cap n : Nat} {h : Nat → Int} (hr : Rw w g t cap n h) : g < w.heap.size := by
  obtain ⟨cur, h1, _⟩ := hr
  exact (Array.getElem?_eq_some_iff.1 h1).1
theorem Rw.at {w w' : World} {g : Nat} {t : TypeId} {cap n : Nat} {h : Nat → Int} (hr : Rw w g t cap n h) (hb : w'.heap[g]? = w.heap[g]?) : Rw w' g t cap n h := by
  obtain ⟨cur, h1, h2, h3⟩ := hr
  exact ⟨cur, hb.trans h1, h2, h3⟩
theorem made_pairs (n : Nat) (j : Nat) (hj : j < n * 2) : (madeCells #[.int .i64 0, .int .i64 0] (n * 2))[j]? = some (.int .i64 0) := by
  unfold madeCells
  rw [Array.getElem?_map, Array.getElem?_range]
  rw [if_pos hj]
  have : j % 2 = 0 ∨ j % 2 = 1 := by omega
  rcases this with e | e
  · show some ((#[Value.int .i64 0, .int .i64 0] : Array Value)[j % 2]!) = _
    rw [e]; rfl
  · show some ((#[Value.int .i64 0, .int .i64 0] : Array Value)[j % 2]!) = _
    rw [e]; rfl
end Go.Proofs.Ytglnefffkcillaa

namespace Go.Proofs.Ytglnefffkcillaa
set_option linter.unusedVariables false
set_option linter.unusedSimpArgs false
open Go.RowKit Go.Maps

set_option maxRecDepth 100000 in
set_option maxHeartbeats 1600000 in
theorem mark_from (g cap n c s : Nat) (t : TypeId) (F : Nat → Int) (hs : s + n ≤ 1099511627776) (w : World) (hr : Rw w g t cap n F) :
    Calls Try.prog 37 #[.slice (some ⟨g, 0, none⟩) n c, .int .i64 s] w fun e w' => e = .returned (.int .i64 ((s : Int) + n)) ∧ Only g w w' ∧ Rw w' g t cap n (fun i => (s : Int) + i) := by
  have HR := Lib.hid (hr.less (h' := fun j => if j < 0 then (s : Int) + j else F j) (Nat.le_refl _) (fun i _ => by rw [if_neg (by omega)])); clear hr
  go_enter Try.func37, Try.ntmps37
  go_wp2_with fail
  go_loopw [1, 5] (fun v i wr => ∃ k : Nat, k ≤ n ∧ i = .int .i64 k ∧ v = .int .i64 ((s : Int) + k) ∧ Hid (Rw wr g t cap n (fun j => if j < k then (s : Int) + j else F j)) ∧ Hid (Only g w wr)) (fun _ i _ => n - (intOf i).toNat)
  case atStart => exact ⟨0, Nat.zero_le _, rfl, by simp, HR, Lib.hid (Only.refl _ _)⟩
  case round =>
    clear HR
    obtain ⟨k, hk, rfl, rfl, HR, HO⟩ := hrel
    by_cases hlt : k < n
    · have hki : (k : Int) < (n : Int) := by omega
      have hk0 : (0 : Int) ≤ (k : Int) := by omega
      have hold := HR.out.cell k hlt
      have hfr := HR.out.frozen k
      obtain ⟨u, hu⟩ : ∃ u, (if k < k then (s : Int) + k else F k) = u := ⟨_, rfl⟩
      rw [hu] at hold
      clear hu
      have HR2 := Lib.hid ((HR.out.set k ((s : Int) + k)).less (h' := fun j => if j < k + 1 then (s : Int) + j else F j) (Nat.le_refl _) (fun j _ => by
        by_cases e : j = k
        · subst e; rw [if_pos rfl, if_pos (by omega)]
        · rw [if_neg e]
          by_cases e2 : j < k
          · rw [if_pos e2, if_pos (by omega)]
          · rw [if_neg e2, if_neg (by omega)]))
      have HO2 := Lib.hid (HO.out.setCell k (.int .i64 ((s : Int) + k)))
      clear HR HO
      go_wp2_with fail
      go_roundw
      case rel => exact ⟨k + 1, by omega, by go_num, by go_num, HR2, HO2⟩
      case measure => simp [intOf]; omega
    · have hki : ¬ (k : Int) < (n : Int) := by omega
      have hkn : k = n := by omega
      subst hkn
      have HR2 := Lib.hid (HR.out.less (h' := fun j => (s : Int) + j) (Nat.le_refl _) (fun j hj => by rw [if_pos hj]))
      clear HR
      go_wp2_with fail
      go_ret
      exact ⟨rfl, HO.out, HR2.out⟩

set_option maxRecDepth 100000 in
set_option maxHeartbeats 1600000 in
theorem held_from (g n c s : Nat) (hs : s + n ≤ 1099511627776) (w : World) (hr : Row w g 0 n (fun i => (s : Int) + i)) :
    Calls Try.prog 38 #[.slice (some ⟨g, 0, none⟩) n c, .int .i64 s] w fun e w' => e = .returned (.int .i64 ((s : Int) + n)) ∧ w = w' := by
  have HR := Lib.hid hr; clear hr
  go_enter Try.func38, Try.ntmps38
  go_wp2_with fail
  go_loopw [1, 5] (fun v i wr => ∃ k : Nat, k ≤ n ∧ i = .int .i64 k ∧ v = .int .i64 ((s : Int) + k) ∧ w = wr) (fun _ i _ => n - (intOf i).toNat)
  case atStart => exact ⟨0, Nat.zero_le _, rfl, by simp, rfl⟩
  case round =>
    obtain ⟨k, hk, rfl, rfl, rfl⟩ := hrel
    by_cases hlt : k < n
    · have hki : (k : Int) < (n : Int) := by omega
      have hk0 : (0 : Int) ≤ (k : Int) := by omega
      have hold := HR.out k hlt
      rw [Nat.zero_add] at hold
      have hne : (((s : Int) + k) != ((s : Int) + k)) = false := by simp
      go_wp2_with fail
      go_roundw
      case rel => exact ⟨k + 1, by omega, by go_num, by go_num, by first | rfl | trivial⟩
      case measure => simp [intOf]; omega
    · have hki : ¬ (k : Int) < (n : Int) := by omega
      have hkn : k = n := by omega
      subst hkn
      go_wp2_with fail
      go_ret
      exact ⟨rfl, rfl⟩

theorem Ships.slice {w : World} {B n : Nat} {v : Value} {L : List (List Int)} {rs : List (Nat × Nat)} (h : Ships w B n v L rs) : ∃ a c, v = .slice a L.length c := by
  obtain ⟨_, ⟨hv, h0⟩ | ⟨g, cap, cur, hv, _⟩⟩ := h.own
  · exact ⟨none, 0, by rw [h0]; exact hv⟩
  · exact ⟨_, cap, hv⟩
theorem Ships.rowI {w : World} {B n : Nat} {v : Value} {L : List (List Int)} {rs : List (Nat × Nat)} (h : Ships w B n v L rs) {i : Nat} (hi : i < L.length) : (L.getD i []).length = n := by
  obtain ⟨a, c, e⟩ := (h.row i hi).1.slice
  injection e with _ e2 _
  exact e2.symm
theorem Ships.rowG {w : World} {B n : Nat} {v : Value} {L : List (List Int)} {rs : List (Nat × Nat)} (h : Ships w B n v L rs) {i : Nat} (hi : i < L.length) (hn : 1 ≤ n) : Row w (rs.getD i (0, 0)).1 0 n (fun j => (L.getD i []).getD j 0) := by
  have h1 := (h.row i hi).1
  have h2 := h.rowI hi
  obtain ⟨g', c', e, _, _, _, _, h5, _⟩ := h1.shape (by rw [h2]; exact hn)
  rw [h2] at e h5
  cases e
  exact h5

set_option maxRecDepth 100000 in
set_option maxHeartbeats 3200000 in
theorem eqIntSS_any (n : Nat) (hn : 1 ≤ n ∧ n ≤ 6) (v1 v2 : Value) (B1 B2 : Nat) (L : List (List Int)) (r1 r2 : List (Nat × Nat)) (hL : L.length ≤ 100) (w : World) (h1 : Ships w B1 n v1 L r1) (h2 : Ships w B2 n v2 L r2) :
    Calls Try.prog 34 #[v1, v2] w fun e w' => e = .returned (.bool true) ∧ Drew w w' := by
  obtain ⟨a1, c1, rfl⟩ := h1.slice
  obtain ⟨a2, c2, rfl⟩ := h2.slice
  have H1 := Lib.hid h1; have H2 := Lib.hid h2; clear h1 h2
  obtain ⟨len, hlen⟩ : ∃ len, L.length = len := ⟨_, rfl⟩
  have HL := Lib.hid hlen
  have hl1 : len ≤ 100 := by omega
  rw [hlen]
  clear hlen hL
  have hne : ((len : Int) != (len : Int)) = false := by simp
  go_enter Try.func34, Try.ntmps34
  go_wp2_with fail
  clear hne
  go_loopw [5] (fun i wr => ∃ k : Nat, k ≤ len ∧ i = .int .i64 k ∧ Drew w wr) (fun i _ => len - (intOf i).toNat)
  case atStart => exact ⟨0, Nat.zero_le _, rfl, Drew.refl w⟩
  case round =>
    obtain ⟨k, hk, rfl, hd⟩ := hrel
    by_cases hlt : k < len
    · have hki : (k : Int) < (len : Int) := by omega
      have hk0 : (0 : Int) ≤ (k : Int) := by omega
      have H1w := H1.out.kept hd.below
      have H2w := H2.out.kept hd.below
      have hkL : k < L.length := by rw [HL.out]; exact hlt
      obtain ⟨g1, d1, e1⟩ := H1w.shape (by omega)
      obtain ⟨g2, d2, e2⟩ := H2w.shape (by omega)
      rw [e1] at H1w
      rw [e2] at H2w
      rw [HL.out] at e1 e2
      cases e1; cases e2
      have hc1 := H1w.cell hkL
      have hc2 := H2w.cell hkL
      have hr1 := H1w.rowG hkL hn.1
      have hr2 := H2w.rowG hkL hn.1
      have hg1 := (World.ownsRow.lt (H1w.row k hkL).1 _ rfl).2
      have hg2 := (World.ownsRow.lt (H2w.row k hkL).1 _ rfl).2
      obtain ⟨x1, hx1⟩ : ∃ r, r1.getD k (0, 0) = r := ⟨_, rfl⟩
      obtain ⟨x2, hx2⟩ : ∃ r, r2.getD k (0, 0) = r := ⟨_, rfl⟩
      rw [hx1] at hc1 hr1 hg1
      rw [hx2] at hc2 hr2 hg2
      obtain ⟨b1, q1⟩ := x1
      obtain ⟨b2, q2⟩ := x2
      dsimp only at hc1 hc2 hr1 hr2 hg1 hg2
      have HR1 := Lib.hid hr1; have HR2 := Lib.hid hr2
      clear H1w H2w hx1 hx2 hr1 hr2
      go_wp2_with fail
      go_quiet ((go_at_call 33; exact quiet_drew (eqIntS_row b1 0 q1 b2 0 q2 n _ (by omega) _ (HR1.out.drewN _) (HR2.out.drewN _))))
      go_wp2_with fail
      go_roundw
      case rel => exact ⟨k + 1, by omega, by go_num, hd.more _⟩
      case measure => simp [intOf]; omega
    · have hki : ¬ (k : Int) < (len : Int) := by omega
      have hkn : k = len := by omega
      subst hkn
      go_wp2_with fail
      go_ret
      exact ⟨rfl, hd⟩
end Go.Proofs.Ytglnefffkcillaa

namespace Go.Proofs.Ytglnefffkcillaa
set_option linter.unusedVariables false
set_option linter.unusedSimpArgs false
open Go.RowKit Go.Maps

/-- nothing of old has changed but the ships themselves -/
structure Among (rs : List (Nat × Nat)) (w w' : World) : Prop where
  os : w'.os = w.os
  tape : w'.tape = w.tape
  output : w'.output = w.output
  size : w.heap.size ≤ w'.heap.size
  block : ∀ k, k < w.heap.size → (∀ r ∈ rs, r.1 ≠ k) → w'.heap[k]? = w.heap[k]?
theorem Among.refl (rs : List (Nat × Nat)) (w : World) : Among rs w w := ⟨rfl, rfl, rfl, Nat.le_refl _, fun _ _ _ => rfl⟩
theorem Among.only {rs : List (Nat × Nat)} {w w1 w2 : World} (h : Among rs w w1) {r : Nat × Nat} (hr : r ∈ rs) (ho : Only r.1 w1 w2) : Among rs w w2 :=
  ⟨ho.os.trans h.os, ho.tape.trans h.tape, ho.output.trans h.output, Nat.le_trans h.size ho.size, fun k hk hn => (ho.block k (Nat.lt_of_lt_of_le hk h.size) (fun e => hn r hr e.symm)).trans (h.block k hk hn)⟩
theorem Among.below {rs : List (Nat × Nat)} {w w' : World} (h : Among rs w w') {B : Nat} (hB : ∀ r ∈ rs, B ≤ r.1) (hs : B ≤ w.heap.size) : Below B w w' :=
  ⟨h.os, h.tape, h.output, h.size, fun k hk => h.block k (by omega) (fun r hr e => by have := hB r hr; omega)⟩

/-- the first i ships marked, the others as they were -/
def mkL (s n : Nat) (L : List (List Int)) (i : Nat) : List (List Int) := (List.range L.length).map (fun j => if j < i then rowL (fun q => ((s + j * n : Nat) : Int) + q) n else L.getD j [])
theorem mkL_len (s n : Nat) (L : List (List Int)) (i : Nat) : (mkL s n L i).length = L.length := by unfold mkL; simp
theorem mkL_at {s n : Nat} {L : List (List Int)} {i j : Nat} (hj : j < L.length) : (mkL s n L i).getD j [] = if j < i then rowL (fun q => ((s + j * n : Nat) : Int) + q) n else L.getD j [] := by
  unfold mkL
  rw [List.getD_eq_getElem?_getD, List.getElem?_map, List.getElem?_range hj]
  rfl
theorem mkL_zero {s n : Nat} {L : List (List Int)} : mkL s n L 0 = L := by
  apply List.ext_getElem?
  intro j
  by_cases hj : j < L.length
  · have := mkL_at (s := s) (n := n) (i := 0) hj
    rw [if_neg (by omega), List.getD_eq_getElem?_getD, List.getD_eq_getElem?_getD, List.getElem?_eq_getElem (by rw [mkL_len]; exact hj), List.getElem?_eq_getElem hj] at this
    rw [List.getElem?_eq_getElem (by rw [mkL_len]; exact hj), List.getElem?_eq_getElem hj]
    exact congrArg some this
  · rw [List.getElem?_eq_none (by rw [mkL_len]; omega), List.getElem?_eq_none (by omega)]

theorem Ships.mem {w : World} {B n : Nat} {v : Value} {L : List (List Int)} {rs : List (Nat × Nat)} (h : Ships w B n v L rs) {i : Nat} (hi : i < L.length) : rs.getD i (0, 0) ∈ rs := by
  rw [List.getD_eq_getElem?_getD, List.getElem?_eq_getElem (by rw [h.len]; exact hi)]; exact List.getElem_mem _
theorem Ships.ne {w : World} {B n : Nat} {v : Value} {L : List (List Int)} {rs : List (Nat × Nat)} (h : Ships w B n v L rs) {i j : Nat} (hi : i < L.length) (hj : j < L.length) (hne : j ≠ i) : (rs.getD j (0, 0)).1 ≠ (rs.getD i (0, 0)).1 := by
  have hl := h.len
  have hd := h.dis
  intro e
  rw [List.getD_eq_getElem?_getD, List.getD_eq_getElem?_getD, List.getElem?_eq_getElem (by omega : i < rs.length), List.getElem?_eq_getElem (by omega : j < rs.length)] at e
  have e : (rs[j]'(by omega)).1 = (rs[i]'(by omega)).1 := e
  have hp := List.pairwise_iff_getElem.1 (show List.Pairwise (· ≠ ·) (rs.map (fun r => r.1)) from hd)
  rcases Nat.lt_or_gt_of_ne hne with h1 | h1
  · exact hp j i (by simp; omega) (by simp; omega) h1 (by simpa using e)
  · exact hp i j (by simp; omega) (by simp; omega) h1 (by simpa using e.symm)

set_option maxRecDepth 100000 in
set_option maxHeartbeats 3200000 in
theorem markSS_any (n s : Nat) (hn : 1 ≤ n ∧ n ≤ 6) (v : Value) (B : Nat) (L : List (List Int)) (rs : List (Nat × Nat)) (hL : L.length ≤ 100) (hs : s ≤ 10) (w : World) (h : Ships w B n v L rs) :
    Calls Try.prog 35 #[v, .int .i64 s] w fun e w' => e = .returned (.int .i64 ((s + L.length * n : Nat) : Int)) ∧ Among rs w w' ∧ Ships w' B n v (mkL s n L L.length) rs := by
  obtain ⟨a, c, rfl⟩ := h.slice
  obtain ⟨len, hlen⟩ : ∃ len, L.length = len := ⟨_, rfl⟩
  have HL := Lib.hid hlen
  have HS : Hid (Ships w B n (.slice a len c) (mkL s n L 0) rs) := Lib.hid (by rw [mkL_zero, ← hlen]; exact h)
  rw [hlen]
  have hl1 : len ≤ 100 := by omega
  clear hlen hL h
  go_enter Try.func35, Try.ntmps35
  go_wp2_with fail
  go_loopw [1, 5] (fun v i wr => ∃ k t : Nat, k ≤ len ∧ t = s + k * n ∧ i = .int .i64 k ∧ v = .int .i64 t ∧ Hid (Ships wr B n (.slice a len c) (mkL s n L k) rs) ∧ Hid (Among rs w wr)) (fun _ i _ => len - (intOf i).toNat)
  case atStart => exact ⟨0, s, Nat.zero_le _, by simp, rfl, rfl, HS, Lib.hid (Among.refl _ _)⟩
  case round =>
    clear HS
    obtain ⟨k, t, hk, ht, rfl, rfl, HS, HA⟩ := hrel
    have HT := Lib.hid ht
    have htb : t ≤ 10 + 100 * 6 := by
      have : k * n ≤ 100 * 6 := Nat.mul_le_mul (by omega) hn.2
      omega
    clear ht
    by_cases hlt : k < len
    · have hki : (k : Int) < (len : Int) := by omega
      have hk0 : (0 : Int) ≤ (k : Int) := by omega
      have hkL : k < (mkL s n L k).length := by rw [mkL_len, HL.out]; exact hlt
      obtain ⟨g1, d1, e1⟩ := HS.out.shape (by omega)
      rw [mkL_len, HL.out] at e1
      cases e1
      have hS := HS.out
      have hS2 : Ships wr B n (.slice (some ⟨g1, 0, none⟩) (mkL s n L k).length c) (mkL s n L k) rs := by rw [mkL_len, HL.out]; exact hS
      have hc1 := hS2.cell hkL
      have hrow := (hS.row k hkL)
      have hrl := hS.rowI hkL
      obtain ⟨g', cp, e, _, _, hcp, hM, hrw⟩ := hrow.1.rw (by rw [hrl]; exact hn.1)
      rw [hrl] at e hcp hrw
      have hm := hS.mem hkL
      obtain ⟨x1, hx1⟩ : ∃ r, rs.getD k (0, 0) = r := ⟨_, rfl⟩
      rw [hx1] at hc1 hrow e hm
      obtain ⟨b1, q1⟩ := x1
      dsimp only at hc1 hrow e
      cases e
      have HRW := Lib.hid hrw; have HX := Lib.hid hx1; have HMM := Lib.hid hm; have HM := Lib.hid hM; have HCP := Lib.hid hcp
      have HBb := Lib.hid (World.ownsRow.lt hrow.1 _ rfl)
      clear hS hS2 hrow hrl hcp hM hrw hx1 hm
      go_wp2_with fail
      refine (mark_from g' cp n cp t 3 _ (by omega) _ HRW.out).mono ?_
      rintro e w5 ⟨rfl, ho5, hr5⟩
      have HA5 := Lib.hid (HA.out.only HMM.out ho5)
      have hown5 : OwnX w5 B 3 (.slice (some ⟨g', 0, none⟩) n cp) (rowL (fun q => ((s + k * n : Nat) : Int) + q) n) := by
        rw [← HT.out]
        exact Rw.own (m := n) (Rw.rowL hr5 (fun i hi => rfl)) (rowL_len _ _).symm HBb.out.1 HCP.out HM.out
      have HS5 : Hid (Ships w5 B n (.slice (some ⟨g1, 0, none⟩) len c) (mkL s n L (k + 1)) rs) := Lib.hid (by
        have hl : (mkL s n L (k + 1)).length = (mkL s n L k).length := by rw [mkL_len, mkL_len]
        have hS := HS.out
        refine ⟨?_, fun j hj => ?_, hS.dis, hS.apart⟩
        · rw [hl]
          exact ownsRow_same hS.own (fun g hg => ho5.block g (World.ownsRow.lt hS.own g hg).2 (fun e => hS.apart _ HMM.out (by rw [hg, e])))
        · rw [mkL_len] at hj
          rw [mkL_at hj]
          by_cases e : j = k
          · subst e
            rw [if_pos (by omega), HX.out]
            refine ⟨hown5, ?_⟩
            have := (hS.row j (by rw [mkL_len]; exact hj)).2
            rw [HX.out] at this; exact this
          · have hj2 : j < (mkL s n L k).length := by rw [mkL_len]; exact hj
            have h1 := hS.row j hj2
            have h2 := hS.ne (i := k) (j := j) (by rw [mkL_len, HL.out]; exact hlt) hj2 e
            rw [HX.out] at h2
            rw [mkL_at hj] at h1
            have e3 : (if j < k + 1 then rowL (fun q => ((s + j * n : Nat) : Int) + q) n else L.getD j []) = (if j < k then rowL (fun q => ((s + j * n : Nat) : Int) + q) n else L.getD j []) := by
              by_cases e4 : j < k
              · rw [if_pos e4, if_pos (by omega)]
              · rw [if_neg e4, if_neg (by omega)]
            rw [e3]
            exact ⟨OwnX.at h1.1 (ho5.block _ (World.ownsRow.lt h1.1 _ rfl).2 h2), h1.2⟩)
      have HT2 := Lib.hid (show t + n = s + (k + 1) * n by rw [HT.out, Nat.add_mul]; omega)
      have hcs : ((t : Int) + (n : Int)) = ((t + n : Nat) : Int) := by omega
      rw [hcs]
      clear hr5 ho5 hown5 HS HA hc1 hcs
      go_wp2_with fail
      go_roundw
      case rel => exact ⟨k + 1, t + n, by omega, HT2.out, by go_num, by first | rfl | go_num, HS5, HA5⟩
      case measure => simp [intOf]; omega
    · have hki : ¬ (k : Int) < (len : Int) := by omega
      have hkn : k = len := by omega
      subst hkn
      go_wp2_with fail
      go_ret
      exact ⟨reti (by rw [HT.out]; first | rfl | simp), HA.out, HS.out⟩

set_option maxRecDepth 100000 in
set_option maxHeartbeats 3200000 in
theorem heldSS_any (n s : Nat) (hn : 1 ≤ n ∧ n ≤ 6) (v : Value) (B : Nat) (L : List (List Int)) (rs : List (Nat × Nat)) (hL : L.length ≤ 100) (hs : s ≤ 10) (w : World) (h : Ships w B n v (mkL s n L L.length) rs) :
    Calls Try.prog 36 #[v, .int .i64 s] w fun e w' => e = .returned (.int .i64 ((s + L.length * n : Nat) : Int)) ∧ w = w' := by
  obtain ⟨a, c, rfl⟩ := h.slice
  obtain ⟨len, hlen⟩ : ∃ len, L.length = len := ⟨_, rfl⟩
  rw [mkL_len] at h ⊢
  have HL := Lib.hid hlen
  rw [hlen] at h ⊢
  have HS := Lib.hid h
  have hl1 : len ≤ 100 := by omega
  clear hlen hL h
  go_enter Try.func36, Try.ntmps36
  go_wp2_with fail
  go_loopw [1, 5] (fun v i wr => ∃ k t : Nat, k ≤ len ∧ t = s + k * n ∧ i = .int .i64 k ∧ v = .int .i64 t ∧ w = wr) (fun _ i _ => len - (intOf i).toNat)
  case atStart => exact ⟨0, s, Nat.zero_le _, by simp, rfl, rfl, rfl⟩
  case round =>
    obtain ⟨k, t, hk, ht, rfl, rfl, rfl⟩ := hrel
    have HT := Lib.hid ht
    have htb : t ≤ 10 + 100 * 6 := by
      have : k * n ≤ 100 * 6 := Nat.mul_le_mul (by omega) hn.2
      omega
    clear ht
    by_cases hlt : k < len
    · have hki : (k : Int) < (len : Int) := by omega
      have hk0 : (0 : Int) ≤ (k : Int) := by omega
      have hkL : k < (mkL s n L len).length := by rw [mkL_len, HL.out]; exact hlt
      obtain ⟨g1, d1, e1⟩ := HS.out.shape (by omega)
      rw [mkL_len, HL.out] at e1
      cases e1
      have hS2 : Ships w B n (.slice (some ⟨g1, 0, none⟩) (mkL s n L len).length c) (mkL s n L len) rs := by rw [mkL_len, HL.out]; exact HS.out
      have hc1 := hS2.cell hkL
      have hr1 := hS2.rowAt hkL hn.1 (show (mkL s n L len).getD k [] = rowL (fun q => ((s + k * n : Nat) : Int) + q) n by rw [mkL_at (by rw [HL.out]; exact hlt), if_pos hlt])
      obtain ⟨x1, hx1⟩ : ∃ r, rs.getD k (0, 0) = r := ⟨_, rfl⟩
      rw [hx1] at hc1 hr1
      obtain ⟨b1, q1⟩ := x1
      dsimp only at hc1 hr1
      rw [← HT.out] at hr1
      have HR := Lib.hid hr1
      have hnn : decide (((t + n : Nat) : Int) < 0) = false := by simp; omega
      have HT2 := Lib.hid (show t + n = s + (k + 1) * n by rw [HT.out, Nat.add_mul]; omega)
      have hcs : ((t : Int) + (n : Int)) = ((t + n : Nat) : Int) := by omega
      have HCS := Lib.hid hcs
      obtain ⟨u, hu⟩ : ∃ u, t + n = u := ⟨_, rfl⟩
      rw [hu] at HCS HT2 hnn
      clear hS2 hx1 hr1 hcs hu
      go_wp2_with fail
      refine (held_from b1 n q1 t (by omega) _ HR.out).mono ?_
      rintro e w5 ⟨rfl, rfl⟩
      rw [HCS.out]
      clear hc1
      go_wp2_with fail
      go_roundw
      case rel => exact ⟨k + 1, u, by omega, HT2.out, by go_num, by first | rfl | go_num, by first | rfl | trivial⟩
      case measure => simp [intOf]; omega
    · have hki : ¬ (k : Int) < (len : Int) := by omega
      have hkn : k = len := by omega
      subst hkn
      go_wp2_with fail
      go_ret
      exact ⟨reti (by rw [HT.out]; first | rfl | simp), rfl⟩

theorem markSS_one (n : Nat) (hn : 1 ≤ n ∧ n ≤ 6) (v : Value) (B : Nat) (L : List (List Int)) (rs : List (Nat × Nat)) (hL : L.length ≤ 100) (w : World) (h : Ships w B n v L rs) :
    Calls Try.prog 35 #[v, .int .i64 1] w fun e w' => e = .returned (.int .i64 ((1 + L.length * n : Nat) : Int)) ∧ Among rs w w' ∧ Ships w' B n v (mkL 1 n L L.length) rs :=
  markSS_any n 1 hn v B L rs hL (by omega) w h
theorem heldSS_one (n : Nat) (hn : 1 ≤ n ∧ n ≤ 6) (v : Value) (B : Nat) (L : List (List Int)) (rs : List (Nat × Nat)) (hL : L.length ≤ 100) (w : World) (h : Ships w B n v (mkL 1 n L L.length) rs) :
    Calls Try.prog 36 #[v, .int .i64 1] w fun e w' => e = .returned (.int .i64 ((1 + L.length * n : Nat) : Int)) ∧ w = w' :=
  heldSS_any n 1 hn v B L rs hL (by omega) w h
theorem Ships.ltB {w : World} {B n : Nat} {v : Value} {L : List (List Int)} {rs : List (Nat × Nat)} (h : Ships w B n v L rs) : ∀ g, (v.ownBlock = some g ∨ ∃ r ∈ rs, r.1 = g) → B ≤ g ∧ g < w.heap.size := by
  rintro g (hg | ⟨r, hr, rfl⟩)
  · exact World.ownsRow.lt h.own g hg
  · exact h.lt r hr
/-- as many planks as a story's ships have; one, where there is no story -/
def nnN (n : Nat) (f : Nat → Int) (m : Nat) : Nat := if syB n f m then n else 1
theorem nn_rng (n : Nat) (f : Nat → Int) (m : Nat) : 1 ≤ nnN n f m ∧ nnN n f m ≤ 6 := by
  unfold nnN
  cases h : syB n f m with
  | true =>
    rw [if_pos rfl]
    have := shipB_iff.1 (Bool.and_eq_true_iff.1 h).1
    exact ⟨this.1, this.2.1⟩
  | false => rw [if_neg (by simp)]; omega
theorem sy_len (n : Nat) (f P Q : Nat → Int) (m : Nat) : (syL n f P Q m).length ≤ 21 := by
  unfold syL
  cases h : syB n f m with
  | false => simp
  | true =>
    have h2 := of_decide_eq_true (Bool.and_eq_true_iff.1 h).2
    have := dn_len n f P Q m
    rw [if_pos rfl, st_len]; omega
theorem StoryGives.nn {n : Nat} {f P Q : Nat → Int} {m : Nat} {w w' : World} {e : Ending} (h : StoryGives n (syL n f P Q m) w e w') : StoryGives (nnN n f m) (syL n f P Q m) w e w' := by
  obtain ⟨v, rs, h1, h2, h3⟩ := h
  refine ⟨v, rs, h1, ?_, h3⟩
  unfold nnN
  cases hs : syB n f m with
  | true => rw [if_pos rfl]; exact h2
  | false =>
    rw [if_neg (by simp)]
    have e : syL n f P Q m = [] := by unfold syL; rw [hs]; rfl
    rw [e] at h2 ⊢
    have hl := h2.len
    have hr : rs = [] := List.eq_nil_of_length_eq_zero hl
    subst hr
    exact ⟨h2.own, fun i hi => (by cases hi), h2.dis, fun r hr => (by cases hr)⟩
end Go.Proofs.Ytglnefffkcillaa
