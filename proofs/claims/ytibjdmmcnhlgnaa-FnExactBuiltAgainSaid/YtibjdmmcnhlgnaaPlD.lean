import Derived.Test.YtibjdmmcnhlgnaaPlC
namespace Go.Proofs.Ytibjdmmcnhlgnaa
set_option linter.unusedVariables false
set_option linter.unusedSimpArgs false
open Go.RowKit Go.Maps
attribute [local go_sem] Oper.semAt_some

/-- a ship of a story: where it lies, and the number of its change -/
structure Shp where
  g : Nat
  c : Nat
  k : Nat
/-- a ship, as a slice of n planks -/
def Shp.v (n : Nat) (x : Shp) : Value := .slice (some ⟨x.g, 0, none⟩) n x.c
/-- the ship after change k lies in memory of the iterator's -/
def ShpAt (n : Nat) (f : Nat → Int) (P Q : Nat → Int) (B : Nat) (x : Shp) (T : Nat → Prop) (w : World) : Prop :=
  T x.g ∧ OwnX w B 3 (x.v n) (rowL (nowF n f P Q (x.k + 1)) n) ∧ n ≤ x.c
/-- all ships have come that are made by the first m changes, each in memory of its own -/
def ShpAll (n : Nat) (f : Nat → Int) (P Q : Nat → Int) (m B : Nat) (xs : List Shp) (T : Nat → Prop) (w : World) : Prop :=
  xs.map (fun x => x.k) = dnL n f P Q m ∧ (xs.map (fun x => x.g)).Nodup ∧ ∀ x ∈ xs, ShpAt n f P Q B x T w
/-- what was taken out by change k -/
def outI (n : Nat) (f : Nat → Int) (P Q : Nat → Int) (k : Nat) : Int := nowF n f P Q k (P k).toNat
def encS (n : Nat) (f : Nat → Int) (P Q : Nat → Int) (x : Shp) : Array Value := #[x.v n, .int .i64 (outI n f P Q x.k)]

theorem OwnX.at {w w' : World} {B g n c : Nat} {t : TypeId} {xs : List Int} (h : OwnX w B t (.slice (some ⟨g, 0, none⟩) n c) xs) (hb : w'.heap[g]? = w.heap[g]?) : OwnX w' B t (.slice (some ⟨g, 0, none⟩) n c) xs :=
  h.other (fun gg hg _ _ => by simp [Value.ownBlock] at hg; subst hg; exact hb)
theorem ShpAt.moved {n B : Nat} {f P Q : Nat → Int} {x : Shp} {T T' : Nat → Prop} {w w' : World} (h : ShpAt n f P Q B x T w) (hT : ∀ k, T k → T' k) (hb : w'.heap[x.g]? = w.heap[x.g]?) : ShpAt n f P Q B x T' w' :=
  ⟨hT _ h.1, OwnX.at h.2.1 hb, h.2.2⟩
theorem ShpAt.stays {n B : Nat} {f P Q : Nat → Int} (x : Shp) (T : Nat → Prop) : Stays (ShpAt n f P Q B x T) := fun _ l _ o' h hl ho =>
  ⟨h.1, ownsRow_putObj h.2.1 o' hl ho, h.2.2⟩
theorem ShpAll.stays {n m B : Nat} {f P Q : Nat → Int} (xs : List Shp) (T : Nat → Prop) : Stays (ShpAll n f P Q m B xs T) := fun W l o o' h hl ho =>
  ⟨h.1, h.2.1, fun x hx => ShpAt.stays x T W l o o' (h.2.2 x hx) hl ho⟩
theorem ShpAll.len {n m B : Nat} {f P Q : Nat → Int} {xs : List Shp} {T : Nat → Prop} {w : World} (h : ShpAll n f P Q m B xs T w) : xs.length = (dnL n f P Q m).length := by rw [← h.1, List.length_map]
theorem ShpAll.none (n B : Nat) (f P Q : Nat → Int) (T : Nat → Prop) (w : World) : ShpAll n f P Q 0 B [] T w := ⟨rfl, List.nodup_nil, fun _ h => by cases h⟩
theorem ShpAll.skip {n m B : Nat} {f P Q : Nat → Int} {xs : List Shp} {T T' : Nat → Prop} {w w' : World} (h : ShpAll n f P Q m B xs T w) (hg : goB n f P Q m = false) (hT : ∀ k, T k → T' k) (hb : ∀ x ∈ xs, w'.heap[x.g]? = w.heap[x.g]?) : ShpAll n f P Q (m + 1) B xs T' w' :=
  ⟨by rw [dn_no hg]; exact h.1, h.2.1, fun x hx => (h.2.2 x hx).moved hT (hb x hx)⟩
theorem ShpAll.keep {n m B : Nat} {f P Q : Nat → Int} {xs : List Shp} {T : Nat → Prop} {w w' : World} (h : ShpAll n f P Q m B xs T w) (hb : ∀ k, T k → w'.heap[k]? = w.heap[k]?) : ShpAll n f P Q m B xs T w' :=
  ⟨h.1, h.2.1, fun x hx => (h.2.2 x hx).moved (fun _ h => h) (hb _ (h.2.2 x hx).1)⟩
theorem ShpAll.more {n m B : Nat} {f P Q : Nat → Int} {xs : List Shp} {T T' : Nat → Prop} {w w' : World} {y : Shp} (h : ShpAll n f P Q m B xs T w) (hy : y.k = m) (hg : goB n f P Q m = true) (hn : ¬ T y.g) (ha : ShpAt n f P Q B y T' w') (hT : ∀ k, T k → T' k) (hb : ∀ x ∈ xs, w'.heap[x.g]? = w.heap[x.g]?) : ShpAll n f P Q (m + 1) B (xs ++ [y]) T' w' := by
  refine ⟨by rw [dn_yes hg, List.map_append, h.1]; simp [hy], ?_, fun x hx => ?_⟩
  · rw [List.map_append, List.nodup_append]
    refine ⟨h.2.1, by simp, fun a ha b hb e => ?_⟩
    simp at hb
    subst hb; subst e
    obtain ⟨x, hx, hxg⟩ := List.mem_map.1 ha
    exact hn (by have := (h.2.2 x hx).1; rw [hxg] at this; exact this)
  · rw [List.mem_append, List.mem_singleton] at hx
    rcases hx with hx | rfl
    · exact (h.2.2 x hx).moved hT (hb x hx)
    · exact ha

/-- the iterator's state between two rounds: k changes are over -/
structure ItS (n : Nat) (f P Q : Nat → Int) (B Bb k : Nat) (R : Nat → Prop) (J : List Shp → (Nat → Prop) → World → Prop) (xs : List Shp) (T : Nat → Prop) (W0 wr : World) : Prop where
  all : ShpAll n f P Q k B xs T wr
  nb : ∀ x ∈ xs, x.g ≠ Bb
  j : J xs T wr
  tb : T Bb
  bf : ∃ g o c, Bfr wr Bb g o n c (nowF n f P Q k) ∧ (T g ∨ R g) ∧ g ≠ Bb
  tl : ∀ i, T i → W0.heap.size ≤ i ∧ i < wr.heap.size
  keep : ∀ i, R i → wr.heap[i]? = W0.heap[i]?
  size : W0.heap.size ≤ wr.heap.size

/-- the iterator's own blocks behind a step -/
def TNew (T : Nat → Prop) (w w' : World) (i : Nat) : Prop := T i ∨ (w.heap.size ≤ i ∧ i < w'.heap.size)
theorem mvd_of_only {T : Nat → Prop} {Bb B : Nat} {w w' : World} (h : Only Bb w w') (hT : T Bb) : Mvd T B w w' :=
  ⟨h.os, h.tape, h.output, h.size, fun k hk hn _ => h.block k hk (fun e => hn (e ▸ hT))⟩
theorem mvd_of_below {T : Nat → Prop} {B : Nat} {w w' : World} (h : Below w.heap.size w w') : Mvd T B w w' :=
  ⟨h.os, h.tape, h.output, h.size, fun k hk _ _ => h.block k hk⟩

section
variable {n : Nat} {f P Q : Nat → Int} {B Bb k : Nat} {R : Nat → Prop} {J : List Shp → (Nat → Prop) → World → Prop} {xs : List Shp} {T : Nat → Prop} {W0 wr : World}
theorem ItS.no (h : ItS n f P Q B Bb k R J xs T W0 wr) (hJ : AbideT W0.heap.size J) (hR : ∀ i, R i → i < W0.heap.size) (hg : goB n f P Q k = false) {w' : World} (hb : Below wr.heap.size wr w') : ItS n f P Q B Bb (k + 1) R J xs (TNew T wr w') W0 w' := by
  obtain ⟨g, o, c, h1, h2, h3⟩ := h.bf
  have hs := hb.size
  refine ⟨h.all.skip hg (fun _ h => .inl h) (fun x hx => hb.block _ (h.tl _ (h.all.2.2 x hx).1).2), h.nb, hJ _ _ _ _ _ h.j (mvd_of_below hb) (fun i hi => hi), .inl h.tb, ⟨g, o, c, ?_, ?_, h3⟩, ?_, ?_, Nat.le_trans h.size hb.size⟩
  · rw [now_no hg]
    exact ⟨(hb.block _ h1.cell.lt).trans h1.cell, h1.row.below hb h1.lt, Nat.lt_of_lt_of_le h1.lt hb.size, h1.cap⟩
  · rcases h2 with h2 | h2
    · exact .inl (.inl h2)
    · exact .inr h2
  · rintro i (hi | hi)
    · have := h.tl i hi; omega
    · have := h.size; omega
  · intro i hi
    rw [hb.block i (by have := hR i hi; have := h.size; omega)]
    exact h.keep i hi

/-- the state behind a change that is done, ahead of the yield -/
structure ItY (n : Nat) (f P Q : Nat → Int) (B Bb k : Nat) (R : Nat → Prop) (J : List Shp → (Nat → Prop) → World → Prop) (xs : List Shp) (y : Shp) (T : Nat → Prop) (W0 wr : World) : Prop where
  all : ShpAll n f P Q (k + 1) B (xs ++ [y]) T wr
  nb : ∀ x ∈ xs ++ [y], x.g ≠ Bb
  j : J xs T wr
  tb : T Bb
  bf : Bfr wr Bb y.g 0 n y.c (nowF n f P Q (k + 1))
  tl : ∀ i, T i → W0.heap.size ≤ i ∧ i < wr.heap.size
  keep : ∀ i, R i → wr.heap[i]? = W0.heap[i]?
  size : W0.heap.size ≤ wr.heap.size
theorem ItY.hx {y : Shp} (h : ItY n f P Q B Bb k R J xs y T W0 wr) : ShpAt n f P Q B y T wr := h.all.2.2 y (List.mem_append.2 (.inr (List.mem_singleton.2 rfl)))
theorem ItS.yes (h : ItS n f P Q B Bb k R J xs T W0 wr) (hJ : AbideT W0.heap.size J) (hR : ∀ i, R i → i < W0.heap.size) (hB : B ≤ W0.heap.size) (hg : goB n f P Q k = true) {w' : World} (hb : Only Bb wr w') {g2 c2 : Nat} (hg2 : wr.heap.size ≤ g2)
    (ho : OwnX w' wr.heap.size 3 (.slice (some ⟨g2, 0, none⟩) n c2) (rowL (setF (nowF n f P Q k) (P k).toNat (Q k)) n)) (hf : Bfr w' Bb g2 0 n c2 (setF (nowF n f P Q k) (P k).toNat (Q k))) : ItY n f P Q B Bb k R J xs ⟨g2, c2, k⟩ (TNew T wr w') W0 w' := by
  have hs := hb.size
  have hBb := h.tl _ h.tb
  have hnw := now_yes hg
  refine ⟨h.all.more rfl hg (fun hT => by have := h.tl _ hT; exact absurd (show g2 < wr.heap.size from this.2) (by omega)) ⟨.inr ⟨hg2, hf.lt⟩, ?_, hf.cap⟩ (fun _ h => .inl h) (fun x hx => hb.block _ (h.tl _ (h.all.2.2 x hx).1).2 (h.nb x hx)), ?_, hJ _ _ _ _ _ h.j (mvd_of_only hb h.tb) (fun i hi => hi), .inl h.tb, ?_, ?_, ?_, Nat.le_trans h.size hb.size⟩
  · show OwnX w' B 3 (.slice (some ⟨g2, 0, none⟩) n c2) (rowL (nowF n f P Q (k + 1)) n)
    rw [hnw]
    exact ho.base (by have := h.size; omega)
  · intro x hx
    rw [List.mem_append, List.mem_singleton] at hx
    rcases hx with hx | rfl
    · exact h.nb x hx
    · show g2 ≠ Bb; omega
  · rw [hnw]; exact hf
  · rintro i (hi | hi)
    · have := h.tl i hi; omega
    · have := h.size; omega
  · intro i hi
    rw [hb.block i (by have := hR i hi; have := h.size; omega) (fun e => by have := hR i hi; omega)]
    exact h.keep i hi
theorem ItY.next {y : Shp} (h : ItY n f P Q B Bb k R J xs y T W0 wr) {w' : World} (hj : J (xs ++ [y]) T w') (hs : wr.heap.size ≤ w'.heap.size) (hk : ∀ i, T i ∨ R i → w'.heap[i]? = wr.heap[i]?) : ItS n f P Q B Bb (k + 1) R J (xs ++ [y]) T W0 w' := by
  have hy := h.hx.1
  refine ⟨h.all.keep (fun i hi => hk i (.inl hi)), h.nb, hj, h.tb, ⟨y.g, 0, y.c, ⟨(hk _ (.inl h.tb)).trans h.bf.cell, fun i hi => (World.cell?_of_block (hk _ (.inl hy))).trans (h.bf.row i hi), Nat.lt_of_lt_of_le h.bf.lt hs, h.bf.cap⟩, .inl hy, h.nb y (List.mem_append.2 (.inr (List.mem_singleton.2 rfl)))⟩, fun i hi => by have := h.tl i hi; omega, fun i hi => (hk i (.inr hi)).trans (h.keep i hi), Nat.le_trans h.size hs⟩
end
theorem Bfr.kept {w w' : World} {Bb g o n c : Nat} {f : Nat → Int} (h : Bfr w Bb g o n c f) (hb : Below w.heap.size w w') : Bfr w' Bb g o n c f :=
  ⟨(hb.block _ h.cell.lt).trans h.cell, h.row.below hb h.lt, Nat.lt_of_lt_of_le h.lt hb.size, h.cap⟩
end Go.Proofs.Ytibjdmmcnhlgnaa
