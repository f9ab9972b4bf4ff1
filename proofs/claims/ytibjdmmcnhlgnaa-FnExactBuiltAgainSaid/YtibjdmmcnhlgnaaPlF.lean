import Derived.Test.YtibjdmmcnhlgnaaPlE
import Derived.Maps.OwnIn
namespace Go.Proofs.Ytibjdmmcnhlgnaa
set_option linter.unusedVariables false
set_option linter.unusedSimpArgs false
open Go.RowKit Go.Maps
attribute [local go_sem] Oper.semAt_some

theorem Try.infoIntS : (Try.prog.info? 23).map (fun i => (i.zero, i.size, i.bytes)) = some (some (.slice none 0 0), 1, 24) := by kernel_rfl

/-- ships, each of n planks, in slices of one's own -/
structure Ships (w : World) (B n : Nat) (v : Value) (L : List (List Int)) (rs : List (Nat × Nat)) : Prop where
  own : w.ownsRow B 23 1 v L.length (rs.map (fun r => Value.slice (some ⟨r.1, 0, none⟩) n r.2))
  row : ∀ i, i < L.length → OwnX w B 3 (.slice (some ⟨(rs.getD i (0, 0)).1, 0, none⟩) n (rs.getD i (0, 0)).2) (L.getD i []) ∧ n ≤ (rs.getD i (0, 0)).2
  dis : (rs.map (fun r => r.1)).Nodup
  apart : ∀ r ∈ rs, v.ownBlock ≠ some r.1
theorem Ships.len {w : World} {B n : Nat} {v : Value} {L : List (List Int)} {rs : List (Nat × Nat)} (h : Ships w B n v L rs) : rs.length = L.length := by
  have := h.own.1
  rw [List.length_map, Nat.mul_one] at this
  exact this
def StoryGives (n : Nat) (L : List (List Int)) (w : World) (e : Ending) (w' : World) : Prop := ∃ v rs, e = .returned v ∧ Ships w' w.heap.size n v L rs ∧ Below w.heap.size w w'

def syB (n : Nat) (f : Nat → Int) (m : Nat) : Bool := shipB n f && decide (m ≤ 20)
def syL (n : Nat) (f P Q : Nat → Int) (m : Nat) : List (List Int) := if syB n f m then stL n f P Q m else []
def tyL (n : Nat) (f P Q : Nat → Int) (m : Nat) : List Int := if syB n f m then tkL n f P Q m else []

theorem storyOk_any (a b : Option Addr) (n cap m c2 : Nat) (f : Nat → Int) (hc : n ≤ cap) (hm : m ≤ 9223372036854775807) (w : World) (hi : Ints w a n f) :
    Calls Try.prog 64 #[.slice a n cap, .slice b m c2] w fun e w' => e = .returned (.bool (syB n f m)) ∧ w = w' := by
  have HI := Lib.hid hi; clear hi
  cases hs : shipB n f with
  | false =>
    have HS := Lib.hid hs; clear hs
    go_enter Try.func64, Try.ntmps64
    go_wp2_with fail
    refine (ShipOk_val _ _ _ _ false HS.out hc _ HI.out).mono ?_
    rintro e w' ⟨rfl, rfl⟩
    go_wp2_with fail
    go_ret
    exact ⟨retb (by unfold syB; rw [HS.out]; rfl), rfl⟩
  | true =>
    have HS := Lib.hid hs; clear hs
    go_enter Try.func64, Try.ntmps64
    go_wp2_with fail
    refine (ShipOk_val _ _ _ _ true HS.out hc _ HI.out).mono ?_
    rintro e w' ⟨rfl, rfl⟩
    go_wp2_with fail
    go_ret
    refine ⟨retb ?_, rfl⟩
    unfold syB
    rw [HS.out, Bool.true_and]
    by_cases h : m ≤ 20
    · rw [decide_eq_true h, decide_eq_true (by omega)]
    · rw [decide_eq_false h, decide_eq_false (by omega)]
theorem storyOk_val (a b : Option Addr) (n cap m c2 : Nat) (f : Nat → Int) (v : Bool) (hv : syB n f m = v) (hc : n ≤ cap) (hm : m ≤ 9223372036854775807) (w : World) (hi : Ints w a n f) :
    Calls Try.prog 64 #[.slice a n cap, .slice b m c2] w fun e w' => e = .returned (.bool v) ∧ w = w' := by subst hv; exact storyOk_any a b n cap m c2 f hc hm w hi

theorem StoryOf_no (a b : Option Addr) (n cap m c2 : Nat) (f P Q : Nat → Int) (hc : n ≤ cap) (hm : m ≤ 9223372036854775807) (hs : syB n f m = false) (w : World) (hi : Ints w a n f) :
    Calls Try.prog 32 #[.slice a n cap, .slice b m c2] w (StoryGives n (syL n f P Q m) w) := by
  have HI := Lib.hid hi; have HS := Lib.hid hs; have HL := Lib.hid (show syL n f P Q m = [] by unfold syL; rw [hs]; rfl); clear hi hs
  rw [HL.out]
  go_enter Try.func32, Try.ntmps32
  go_wp2_with fail
  refine (storyOk_val _ _ _ _ _ _ _ false HS.out hc hm _ HI.out).mono ?_
  rintro e w' ⟨rfl, rfl⟩
  go_wp2_with fail
  go_ret
  exact ⟨_, [], rfl, ⟨World.ownsRow_nil _ _ _ _, (fun i hi => by cases hi), List.nodup_nil, (fun r hr => by cases hr)⟩, Below.refl _ _⟩

theorem holdG {p : Prop} (h : p ∧ True) : p := h.1
/-- what the loop of a story knows of its own memory -/
structure StI (n : Nat) (f : Nat → Int) (R0 V g1 c1 : Nat) (w : World) (xs : List Shp) (T : Nat → Prop) (W : World) : Prop where
  box : ∃ v, Boxed W V 45 v ∧ W.ownsRow R0 23 1 v (xs.length + 1) (Value.slice (some ⟨g1, 0, none⟩) n c1 :: xs.map (Shp.v n)) ∧ ∀ g, v.ownBlock = some g → ¬ T g ∧ g ≠ g1
  first : OwnX W R0 3 (.slice (some ⟨g1, 0, none⟩) n c1) (rowL f n)
  nV : ¬ T V
  ng : ¬ T g1
  bel : Below R0 w W
  tl : ∀ k, T k → R0 ≤ k ∧ k < W.heap.size

theorem ownsRow_same {w w' : World} {B n : Nat} {e : TypeId} {v : Value} {xs : List Value} (h : w.ownsRow B e 1 v n xs) (hb : ∀ g, v.ownBlock = some g → w'.heap[g]? = w.heap[g]?) : w'.ownsRow B e 1 v n xs := by
  obtain ⟨h3, h4⟩ := h
  refine ⟨h3, ?_⟩
  rcases h4 with h4 | ⟨g, cap, cur, hv, hB, hg, hr⟩
  · exact .inl h4
  · subst hv
    exact .inr ⟨g, cap, cur, rfl, hB, by rw [hb g rfl]; exact hg, hr⟩
theorem ownsRow_base' {w : World} {B B' n : Nat} {e : TypeId} {v : Value} {xs : List Value} (h : w.ownsRow B e 1 v n xs) (hB : B' ≤ B) : w.ownsRow B' e 1 v n xs := by
  obtain ⟨h3, h4⟩ := h
  refine ⟨h3, ?_⟩
  rcases h4 with h4 | ⟨g, cap, cur, hv, hBg, hr⟩
  · exact .inl h4
  · exact .inr ⟨g, cap, cur, hv, Nat.le_trans hB hBg, hr⟩
theorem ownsRow_cells {w : World} {B n : Nat} {e : TypeId} {v : Value} {xs : List Value} (h : w.ownsRow B e 1 v n xs) {g : Nat} (hg : v.ownBlock = some g) {o : Obj} (ho : w.heap[g]? = some o) : o.isCells = true := by
  obtain ⟨_, ⟨rfl, _⟩ | ⟨g2, cap, cur, rfl, _, hh, _⟩⟩ := h
  · simp [Value.ownBlock] at hg
  · simp [Value.ownBlock] at hg
    subst hg
    rw [hh] at ho; cases ho; rfl
theorem StI.abide {n R0 V g1 c1 Bs : Nat} {f : Nat → Int} {w : World} (hB : R0 ≤ Bs) : AbideT Bs (StI n f R0 V g1 c1 w) := by
  rintro xs T T' W W' h hm hT'
  obtain ⟨v, h1, h2, h3⟩ := h.box
  have hs := h.bel.size
  have hw : w.heap.size ≤ W'.heap.size := Nat.le_trans hs hm.size
  have hVl := h1.lt
  have hgl := (World.ownsRow.lt h.first g1 rfl)
  have hT2 : ∀ k, k < W.heap.size → ¬ T k → ¬ T' k := fun k hk hn h => by rcases hT' k h with h | h; exact hn h; omega
  have eV : W'.heap[V]? = W.heap[V]? := hm.block V hVl h.nV (fun _ o ho => by rw [show W.heap[V]? = _ from h1] at ho; cases ho; rfl)
  have eg : W'.heap[g1]? = W.heap[g1]? := hm.block g1 hgl.2 h.ng (fun _ o ho => ownsRow_cells h.first rfl ho)
  refine ⟨⟨v, eV.trans h1, ownsRow_same h2 (fun g hg => hm.block g (World.ownsRow.lt h2 g hg).2 (h3 g hg).1 (fun _ o ho => ownsRow_cells h2 hg ho)), fun g hg => ⟨hT2 g (World.ownsRow.lt h2 g hg).2 (h3 g hg).1, (h3 g hg).2⟩⟩, OwnX.at h.first eg, hT2 V hVl h.nV, hT2 g1 hgl.2 h.ng, ?_, fun k hk => ?_⟩
  · have hR := h.bel
    refine ⟨hm.os.trans hR.os, hm.tape.trans hR.tape, hm.output.trans hR.output, hw, fun k hk => ?_⟩
    by_cases hkW : k < W.heap.size
    · rw [hm.block k hkW (fun h5 => by have := h.tl k h5; omega) (fun h5 => by omega)]
      exact hR.block k hk
    · have hR0 : R0 ≤ W.heap.size := Nat.le_trans (by have := hgl.1; omega) (Nat.le_of_lt hgl.2)
      omega
  · have hR0 : R0 ≤ W.heap.size := by omega
    have := hm.size
    rcases hT' k hk with h5 | h5
    · have := h.tl k h5; omega
    · omega

theorem grown_at {W w1 : World} {t : Obj} {row : Option Nat} (hg : (W.alloc t).grownBy w1 row) {k : Nat} (hk : k < W.heap.size) (hn : some k ≠ row) : w1.heap[k]? = W.heap[k]? := by
  rw [hg.block k (by rw [alloc_size]; omega) hn]
  exact Below.heap_alloc _ _ _ hk
theorem StI.more {n R0 V g1 c1 : Nat} {f : Nat → Int} {w W w1 : World} {xs : List Shp} {T : Nat → Prop} {v v' : Value} {tmp : Obj} (x : Shp) (h : StI n f R0 V g1 c1 w xs T W)
    (hv : Boxed W V 45 v) (hrow : W.ownsRow R0 23 1 v (xs.length + 1) (Value.slice (some ⟨g1, 0, none⟩) n c1 :: xs.map (Shp.v n))) (hap : ∀ g, v.ownBlock = some g → ¬ T g ∧ g ≠ g1)
    (hown' : w1.ownsRow R0 23 1 v' (xs.length + 1 + 1) (Value.slice (some ⟨g1, 0, none⟩) n c1 :: (xs.map (Shp.v n) ++ [x.v n]))) (hgrow : (W.alloc tmp).grownBy w1 v.ownBlock) (hat : v'.ownBlock = v.ownBlock ∨ v'.ownBlock = some (W.heap.size + 1))
    (hR : R0 ≤ W.heap.size) (hVR : R0 ≤ V) (hVg : V ≠ g1) :
    Boxed w1 V 45 v ∧ KeepsOthers W (w1.setCell ⟨V, 0, none⟩ v') ∧ (∀ k, T k ∨ k < R0 → (w1.setCell ⟨V, 0, none⟩ v').heap[k]? = W.heap[k]?) ∧ StI n f R0 V g1 c1 w (xs ++ [x]) T (w1.setCell ⟨V, 0, none⟩ v') := by
  obtain ⟨hv1, hv2, hr2, hk2, hb2⟩ := hv.appended (by decide) hrow hR hVR hown' hgrow
  have hgl := World.ownsRow.lt h.first g1 rfl
  have hs : (w1.setCell ⟨V, 0, none⟩ v').heap.size = w1.heap.size := by simp [World.setCell]
  have hs1 : W.heap.size + 1 ≤ w1.heap.size := by have := hgrow.size; rw [alloc_size] at this; exact this
  have hsame : ∀ k, k < W.heap.size → k ≠ V → some k ≠ v.ownBlock → (w1.setCell ⟨V, 0, none⟩ v').heap[k]? = W.heap[k]? := fun k hk h1 h2 => (Below.heap_setCell _ _ _ k h1).trans (grown_at hgrow hk h2)
  refine ⟨hv1, hk2, fun k hk => ?_, ⟨v', hv2, ?_, fun g hg => ?_⟩, OwnX.at h.first (hsame g1 hgl.2 (Ne.symm hVg) (fun e => (hap g1 e.symm).2 rfl)), h.nV, h.ng, h.bel.trans hb2, fun k hk => ?_⟩
  · rcases hk with hk | hk
    · exact hsame k (h.tl k hk).2 (fun e => h.nV (e ▸ hk)) (fun e => (hap k e.symm).1 hk)
    · exact hb2.block k hk
  · rw [List.length_append, List.map_append]
    exact hr2
  · rcases hat with e | e
    · rw [e] at hg; exact hap g hg
    · rw [e] at hg
      have hg : W.heap.size + 1 = g := by simpa using hg
      exact ⟨fun ht => by have := h.tl g ht; omega, by omega⟩
  · have := h.tl k hk
    rw [hs]; omega
theorem st_getD {n : Nat} {f P Q : Nat → Int} {m i : Nat} {xs : List Shp} (h : xs.map (fun x => x.k) = dnL n f P Q m) (hi : i < xs.length) : (stL n f P Q m).getD (i + 1) [] = rowL (nowF n f P Q ((xs[i]'hi).k + 1)) n := by
  unfold stL
  rw [← h, List.getD_cons_succ, List.map_map, List.getD_eq_getElem?_getD, List.getElem?_map, List.getElem?_eq_getElem hi]
  rfl
theorem StI.ships {n R0 V g1 c1 B m : Nat} {f P Q : Nat → Int} {w W : World} {xs : List Shp} {T : Nat → Prop} (h : StI n f R0 V g1 c1 w xs T W) (hs : ShpAll n f P Q m B xs T W) (hB : R0 ≤ B) (hc : n ≤ c1) :
    ∃ v, Boxed W V 45 v ∧ Ships W R0 n v (stL n f P Q m) ((g1, c1) :: xs.map (fun x => (x.g, x.c))) := by
  obtain ⟨v, h1, h2, h3⟩ := h.box
  have hl : (stL n f P Q m).length = xs.length + 1 := by rw [st_len, hs.len]
  have hT : ∀ x ∈ xs, T x.g := fun x hx => (hs.2.2 x hx).1
  refine ⟨v, h1, ?_, fun i hi => ?_, ?_, ?_⟩
  · rw [hl, List.map_cons, List.map_map]; exact h2
  · rw [hl] at hi
    match i, hi with
    | 0, _ => exact ⟨h.first, hc⟩
    | i + 1, hi =>
      have hi : i < xs.length := by omega
      rw [st_getD hs.1 hi, List.getD_cons_succ, List.getD_eq_getElem?_getD, List.getElem?_map, List.getElem?_eq_getElem hi]
      have := hs.2.2 _ (List.getElem_mem hi)
      exact ⟨this.2.1.base hB, this.2.2⟩
  · rw [List.map_cons, List.map_map, List.nodup_cons]
    refine ⟨fun hm => ?_, hs.2.1⟩
    obtain ⟨x, hx, e⟩ := List.mem_map.1 hm
    exact h.ng (by have := hT x hx; rw [show x.g = g1 from e] at this; exact this)
  · intro r hr e
    rcases List.mem_cons.1 hr with rfl | hr
    · exact (h3 g1 e).2 rfl
    · obtain ⟨x, hx, rfl⟩ := List.mem_map.1 hr
      exact (h3 _ e).1 (hT x hx)
theorem Ships.put {w : World} {B n : Nat} {v : Value} {L : List (List Int)} {rs : List (Nat × Nat)} (h : Ships w B n v L rs) {l : Nat} {o : Obj} (o' : Obj) (hl : w.heap[l]? = some o) (ho : o.isCells = false) : Ships (w.putObj l o') B n v L rs :=
  ⟨ownsRow_putObj h.own o' hl ho, fun i hi => ⟨ownsRow_putObj (h.row i hi).1 o' hl ho, (h.row i hi).2⟩, h.dis, h.apart⟩

set_option maxRecDepth 100000 in
set_option maxHeartbeats 4000000 in
theorem StoryOf_in (g0 o0 n c m c2 : Nat) (b : Option Addr) (f P Q : Nat → Int) (hc : n ≤ c) (hs : syB n f m = true) (w : World) (hi : Ints w (some ⟨g0, o0, none⟩) n f) (hr : Row w g0 o0 n f) (hg0 : g0 < w.heap.size) (hp : Prs w b m P Q) :
    Calls Try.prog 32 #[.slice (some ⟨g0, o0, none⟩) n c, .slice b m c2] w (StoryGives n (syL n f P Q m) w) := by
  have h2 := Bool.and_eq_true_iff.1 hs
  have hm := of_decide_eq_true h2.2
  have HI := Lib.hid hi; have HS := Lib.hid hs; have HR := Lib.hid hr; have HSH := Lib.hid h2.1; have HN := Lib.hid (shipB_iff.1 h2.1); have HP := Lib.hid hp
  have HL := Lib.hid (show syL n f P Q m = stL n f P Q m by unfold syL; rw [hs]; rfl)
  have HRB : Hid (∀ q o, b = some ⟨q, o, none⟩ → 1 ≤ m → q < w.heap.size) := Lib.hid (fun q o hb h1 => by
    obtain ⟨b', o', e, hl, _⟩ := hp.row h1
    rw [hb] at e; cases e; exact hl)
  rw [HL.out]
  clear hi hs hr h2 hp
  refine (callsIn_wide (n := 3)).1 ?_
  refine callsIn_of_wp_marks Try.func32 rfl trivial ?_ rfl
  simp only [Try.ntmps32, List.size_toArray, List.length_cons, List.length_nil, Nat.reduceAdd, Nat.reduceSub, Array.replicate_succ, Array.replicate_zero, List.push_toArray, List.append_toArray, List.nil_append, List.cons_append]
  gi_wp2_with fail
  refine ⟨trivial, (callsIn_wide.2 (storyOk_val _ _ _ _ _ _ _ true HS.out hc (by omega) _ HI.out)).mono ?_⟩
  rintro e w' ⟨rfl, rfl⟩
  gi_wp2_with fail
  refine ⟨trivial, (callsIn_wide.2 (cloneS_any g0 o0 n c f HN.out.1 (by have := HN.out.2.1; omega) _ HR.out hg0)).mono ?_⟩
  rintro e w1 ⟨v0, rfl, hown, hb1⟩
  obtain ⟨g1, c1, hv, hBg, hgl1, hc1, _, _, _⟩ := hown.shape (by rw [rowL_len]; exact HN.out.1)
  rw [rowL_len] at hv hc1
  subst hv
  have HO := Lib.hid hown; have HB1 := Lib.hid hb1; clear hown hb1
  gi_wp2_with fail
  refine ⟨trivial, (callsIn_wide.2 (changesDone_any _ _ _ _ _ _ _)).mono ?_⟩
  rintro e w' ⟨rfl, rfl⟩
  gi_wp2_with fail
  have q1 := alloc_below w1 (.cells #[.slice (some ⟨g1, 0, none⟩) n c1] 23)
  have q2 := alloc_below (w1.alloc (.cells #[.slice (some ⟨g1, 0, none⟩) n c1] 23)) (.cells #[.slice (some ⟨w1.heap.size, 0, none⟩) 1 1] 45)
  have q3 := alloc_below ((w1.alloc (.cells #[.slice (some ⟨g1, 0, none⟩) n c1] 23)).alloc (.cells #[.slice (some ⟨w1.heap.size, 0, none⟩) 1 1] 45)) (.cells #[.slice (some ⟨g0, o0, none⟩) n c] 23)
  have q4 := alloc_below (((w1.alloc (.cells #[.slice (some ⟨g1, 0, none⟩) n c1] 23)).alloc (.cells #[.slice (some ⟨w1.heap.size, 0, none⟩) 1 1] 45)).alloc (.cells #[.slice (some ⟨g0, o0, none⟩) n c] 23)) (.cells #[.slice b m c2] 42)
  have b2 := Boxed.new (w1.alloc (.cells #[.slice (some ⟨g1, 0, none⟩) n c1] 23)) 45 (.slice (some ⟨w1.heap.size, 0, none⟩) 1 1)
  have b3 := Boxed.new ((w1.alloc (.cells #[.slice (some ⟨g1, 0, none⟩) n c1] 23)).alloc (.cells #[.slice (some ⟨w1.heap.size, 0, none⟩) 1 1] 45)) 23 (.slice (some ⟨g0, o0, none⟩) n c)
  have b4 := Boxed.new (((w1.alloc (.cells #[.slice (some ⟨g1, 0, none⟩) n c1] 23)).alloc (.cells #[.slice (some ⟨w1.heap.size, 0, none⟩) 1 1] 45)).alloc (.cells #[.slice (some ⟨g0, o0, none⟩) n c] 23)) 42 (.slice b m c2)
  have r1 : (w1.alloc (.cells #[.slice (some ⟨g1, 0, none⟩) n c1] 23)).ownsRow w1.heap.size 23 1 (.slice (some ⟨w1.heap.size, 0, none⟩) 1 1) 1 [.slice (some ⟨g1, 0, none⟩) n c1] :=
    World.ownsRow_lit w1 #[.slice (some ⟨g1, 0, none⟩) n c1] 1 (Nat.le_refl _) (by unfold maxLen; omega) rfl
  simp only [alloc_size] at q1 q2 q3 q4 b2 b3 b4
  replace b2 := (b2.alloc (.cells #[.slice (some ⟨g0, o0, none⟩) n c] 23)).alloc (.cells #[.slice b m c2] 42)
  replace b3 := b3.alloc (.cells #[.slice b m c2] 42)
  replace r1 := ((r1.alloc (.cells #[.slice (some ⟨w1.heap.size, 0, none⟩) 1 1] 45)).alloc (.cells #[.slice (some ⟨g0, o0, none⟩) n c] 23)).alloc (.cells #[.slice b m c2] 42)
  have hb5 : Below w1.heap.size w1 ((((w1.alloc (.cells #[.slice (some ⟨g1, 0, none⟩) n c1] 23)).alloc (.cells #[.slice (some ⟨w1.heap.size, 0, none⟩) 1 1] 45)).alloc (.cells #[.slice (some ⟨g0, o0, none⟩) n c] 23)).alloc (.cells #[.slice b m c2] 42)) :=
    (((q1.trans (q2.mono (by omega))).trans (q3.mono (by omega))).trans (q4.mono (by omega)))
  have hz5 : ((((w1.alloc (.cells #[.slice (some ⟨g1, 0, none⟩) n c1] 23)).alloc (.cells #[.slice (some ⟨w1.heap.size, 0, none⟩) 1 1] 45)).alloc (.cells #[.slice (some ⟨g0, o0, none⟩) n c] 23)).alloc (.cells #[.slice b m c2] 42)).heap.size = w1.heap.size + 4 := by simp only [alloc_size]
  obtain ⟨w5, hw5⟩ : ∃ w5, ((((w1.alloc (.cells #[.slice (some ⟨g1, 0, none⟩) n c1] 23)).alloc (.cells #[.slice (some ⟨w1.heap.size, 0, none⟩) 1 1] 45)).alloc (.cells #[.slice (some ⟨g0, o0, none⟩) n c] 23)).alloc (.cells #[.slice b m c2] 42)) = w5 := ⟨_, rfl⟩
  rw [hw5] at b2 b3 b4 r1 hb5 hz5 ⊢
  clear hw5 q1 q2 q3 q4
  have hs1 := HB1.out.size
  have HB5 : Hid (Below w.heap.size w w5) := Lib.hid (below_onto HB1.out hb5)
  obtain ⟨U, hU⟩ : ∃ U, w1.heap.size = U := ⟨_, rfl⟩
  obtain ⟨R0, hR0⟩ : ∃ R0, w.heap.size = R0 := ⟨_, rfl⟩
  have HRZ := Lib.hid hR0
  replace HO := Lib.hid (OwnX.at HO.out (hb5.block g1 hgl1))
  replace HP := Lib.hid (HP.out.next (hR0 ▸ HB5.out : Below w.heap.size w w5))
  replace HR := Lib.hid (HR.out.below HB5.out hg0)
  rw [hU] at b2 b3 b4 r1 hz5 hs1 hgl1 hb5 ⊢
  rw [hR0] at HO HB5 hs1 hg0 hBg
  rw [hR0] at HRB
  clear hU hR0
  have HS5 := Lib.hid (show g0 < R0 ∧ R0 ≤ g1 ∧ g1 < U ∧ R0 ≤ U ∧ w5.heap.size = U + 4 ∧ n ≤ c1 from ⟨hg0, hBg, hgl1, hs1, hz5, hc1⟩)
  obtain ⟨i0, hii, hz0, hz1, hz2⟩ := info_parts Try.infoIntS
  refine wpIn_rangeFunc_st (R := fun k => k < R0) (Hx := ShpAt n f P Q w5.heap.size) (S := ShpAll n f P Q m w5.heap.size) (N := m) rfl (by omega) (gf := 70) (lb := #[.pointer (some ⟨U + 1 + 1, 0, none⟩), .pointer (some ⟨U + 1 + 1 + 1, 0, none⟩)]) rfl trivial (enters_of Try.func70 (by kernel_rfl) rfl)
    (changesC_stops _ (U + 1 + 1) (U + 1 + 1 + 1) g0 o0 n c m c2 b f P Q HSH.out (fun k => k < R0) w5 b3 b4 hc HR.out (by omega) hg0 HP.out (fun q o hb h1 => HRB.out q o hb h1) (fun i hi => by omega))
    (fun k hk => by omega) (fun x T => ShpAt.stays x T) (fun xs T => ShpAll.stays xs T) (Below.refl _ _) (fun _ => rfl)
    (StI n f R0 (U + 1) g1 c1 w) (StI.abide (by omega))
    ⟨⟨_, b2, ownsRow_base' r1 hs1, fun g hg => ⟨fun h => h, by simp [Value.ownBlock] at hg; omega⟩⟩, HO.out, (fun h => h), (fun h => h), HB5.out, fun k h => h.elim⟩
    (fun x => { tmps := #[.slice (some ⟨g0, o0, none⟩) n c, .slice b m c2, undef, undef, .slice none 0 0, .pointer (some ⟨U + 1, 0, none⟩), x.v n, .slice (some ⟨g0, o0, none⟩) n c, .slice b m c2, .bool true, .bool false, .slice (some ⟨g0, o0, none⟩) n c,
      .slice (some ⟨g1, 0, none⟩) n c1, .slice (some ⟨U, 0, none⟩) 1 1, .slice (some ⟨g0, o0, none⟩) n c, .slice b m c2,
      .func (.func 70) #[] #[.pointer (some ⟨U + 1 + 1, 0, none⟩), .pointer (some ⟨U + 1 + 1 + 1, 0, none⟩)], x.v n, .int .i64 (outI n f P Q x.k), undef, undef, undef, undef, undef], defers := [] })
    ?assign ?body ?done
  case assign =>
    intro l x W K hK
    dsimp only [encS]
    gi_wp2_with fail
    exact hK
  case body =>
    rintro l pre x T W hI hlen hx hTl
    obtain ⟨v, hv, hrow, hap⟩ := hI.box
    have hcell := hv.cell
    have hfz := hv.frozen
    have HI2 := Lib.hid hI; have HV := Lib.hid hv; have HX := Lib.hid hx; have HAP := Lib.hid hap; have HTL := Lib.hid hTl
    have HSZ := Lib.hid hI.bel.size
    have HRW := Lib.hid hrow
    clear hI hx hap hTl hv
    obtain ⟨gx, cx, kx⟩ := x
    dsimp only [Shp.v]
    have k1 := Lib.hid (fun (j : Nat) (u : Value) (h : [Value.slice (some ⟨gx, 0, none⟩) n cx][j]? = some u) => cell_one_new W (.slice (some ⟨gx, 0, none⟩) n cx) 23 j u h)
    have k2 : Hid (∀ u ∈ [Value.slice (some ⟨gx, 0, none⟩) n cx], u.oneCell' = true) := Lib.hid (by intro u hu; simp at hu; subst hu; rfl)
    have k3 : Hid ((pre.length + 1) + 1 ≤ maxLen) := Lib.hid (by unfold maxLen; omega)
    have k4 : Hid (((pre.length + 1) + 1) * 24 ≤ 140737488355328) := Lib.hid (by omega)
    have k5 : Hid (R0 ≤ (W.alloc (.cells #[.slice (some ⟨gx, 0, none⟩) n cx] 23)).heap.size) := Lib.hid (by rw [alloc_size]; have := HSZ.out; have := HS5.out; have := HRZ.out; omega)
    clear hrow hlen
    gi_wp2_with (gi_at_builtin; refine wpListIn_append_own_at _ rfl (.tmp 19) (.tmp 21) 45 rfl R0 23 i0 (.slice none 0 0) 1 24 Try.underlying45 hii hz0 hz1 hz2 rfl (by decide) _ _ _ rfl (HRW.out.alloc _) ⟨W.heap.size, 0, none⟩ 1 1 [.slice (some ⟨gx, 0, none⟩) n cx] rfl rfl k1.out k2.out k3.out k4.out k5.out ?_)
    intro v' w6 hown' hgrow _ hat
    obtain ⟨g', cap', rfl⟩ := ownsRow_succ hown'
    obtain ⟨hv1, hk2, hT2, hI2⟩ := HI2.out.more ⟨gx, cx, kx⟩ HV.out HRW.out HAP.out hown' hgrow hat (by have := HSZ.out; have := HRZ.out; omega) (by omega) (by have := HS5.out; omega)
    have hc1 := hv1.cell
    have hf1 := hv1.frozen
    have HK2 := Lib.hid hk2; have HT2 := Lib.hid hT2; have HI3 := Lib.hid hI2
    clear hv1 hk2 hT2 hI2 hown' hgrow hat
    gi_wp2_with fail
    exact ⟨HK2.out.from _, HT2.out, HI3.out⟩
  case done =>
    rintro D xs T W hD hall hI hTl hnT hK
    obtain ⟨v, hv, hsh⟩ := hI.ships hall (by omega) HS5.out.2.2.2.2.2
    have hcell := hv.cell
    have HB := Lib.hid hI.bel; have HSH2 := Lib.hid hsh
    clear hv hsh hI hall hTl
    gi_wp2_with fail
    refine ⟨by simp, .inl ⟨_, _, rfl, run_takeDeferred hK, ?_⟩⟩
    refine ⟨_, results_tmp rfl _ _ _, _, (g1, c1) :: xs.map (fun x => (x.g, x.c)), rfl, ?_, ?_⟩
    · rw [HRZ.out]; exact HSH2.out.put _ hK rfl
    · rw [HRZ.out]; exact HB.out.trans (belowK_b (n₀ := R0) (w := w5) (by omega) W D _ (.deferred none) hD hK rfl rfl)

theorem StoryOf_any (a b : Option Addr) (n c m c2 : Nat) (f P Q : Nat → Int) (hc : n ≤ c) (w : World) (hi : Ints w a n f) (hp : Prs w b m P Q) :
    Calls Try.prog 32 #[.slice a n c, .slice b m c2] w (StoryGives n (syL n f P Q m) w) := by
  cases hs : syB n f m with
  | false => exact StoryOf_no a b n c m c2 f P Q hc hp.1.1 hs w hi
  | true =>
    obtain ⟨g, o, rfl, hlt, hr⟩ := hi.row (shipB_iff.1 (Bool.and_eq_true_iff.1 hs).1).1
    exact StoryOf_in g o n c m c2 b f P Q hc hs w hi hr hlt hp
end Go.Proofs.Ytibjdmmcnhlgnaa
