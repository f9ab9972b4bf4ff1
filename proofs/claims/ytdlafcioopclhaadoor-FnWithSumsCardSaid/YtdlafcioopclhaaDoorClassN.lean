import Derived.Test.YtdlafcioopclhaaDoorClass
namespace Go.Proofs.YtdlafcioopclhaaDoor
open Go.RowKit Go.Maps

set_option maxRecDepth 100000 in
theorem within_valT (x y : Int) (v : Bool) (w : World) (hv : withinB x y = v) :
    Calls Tryd.prog 29 #[.int .i64 x, .int .i64 y] w fun e w' => e = .returned (.bool v) ∧ w = w' := by subst hv; exact within_any x y w

/-- what the map of names reads as behind k of the list's numbers -/
def mapK (L : List Int) : Nat → DataW Empty
  | 0 => .map []
  | k + 1 => (mapK L k).put (.int .i64 (L.getD k 0)) (.lit (.int .i64 k))
theorem mapK_is (L : List Int) : ∀ k, IsMap (mapK L k)
  | 0 => isMap_empty
  | k + 1 => (mapK_is L k).put _ _
theorem mapK_at (L : List Int) (hinj : ∀ i j, i < L.length → j < L.length → L.getD i 0 = L.getD j 0 → i = j) : ∀ k i, i < k → k ≤ L.length → (mapK L k).atKey (.int .i64 (L.getD i 0)) (.lit (.int .i64 0)) = .lit (.int .i64 i) := by
  intro k
  induction k with
  | zero => intro i hi; omega
  | succ k ih =>
    intro i hi hk
    rw [mapK]
    by_cases e : i = k
    · subst e; exact atKey_put_same (k := .int .i64 (L.getD i 0)) (mapK_is L i) trivial _ _
    · rw [atKey_put_other (fun h => e (hinj i k (by omega) (by omega) (by injection h))) _ _]
      exact ih i (by omega) (by omega)
theorem subs_inj {X : Nat} (hX : X < 128) (i j : Nat) (hi : i < (subsL X (X + 1)).length) (hj : j < (subsL X (X + 1)).length) (h : (subsL X (X + 1)).getD i 0 = (subsL X (X + 1)).getD j 0) : i = j := by
  have h1 := rank_at hX hi
  have h2 := rank_at hX hj
  rw [h] at h1; omega
theorem subs_I64 {X : Nat} (hX : X < 128) : ∀ x ∈ subsL X (X + 1), I64 x := by
  intro x hx
  obtain ⟨t, h1, _, rfl⟩ := subs_mem.1 hx
  unfold I64; omega
theorem wf_i64 {x : Int} (h : I64 x) : (Lit.int .i64 x).wf = true := by
  unfold I64 at h
  simp [Lit.wf, IntKind.min, IntKind.max, IntKind.signed, IntKind.bits]; omega

theorem law_things : Keyed Tryd.prog 44 := int_keyed Tryd.underlying44
theorem key_thing (x : Int) (h : I64 x) : keyOf Tryd.prog 44 (.int .i64 x) = some (.int .i64 x) := keyOf_int_mk Tryd.underlying44 (wf_i64 h)

theorem AtomW.belowB {w w' : World} {b g n cap B : Nat} {f : Nat → Int} (h : AtomW w b g n cap f) (hb : Below B w w') (h1 : b < B) (h2 : g < B) : AtomW w' b g n cap f := by
  obtain ⟨⟨d, x, h3, h4⟩, h5, h6, h7⟩ := h
  exact ⟨⟨d, x, h3.below hb h1, h4⟩, h5.below hb h2, Nat.lt_of_lt_of_le h6 hb.size, h7⟩
theorem AtomW.glt {w : World} {b g n cap : Nat} {f : Nat → Int} (h : AtomW w b g n cap f) : g < w.heap.size := h.2.2.1
theorem Only.grownBy {rb : Nat} {w w' : World} (h : Only rb w w') : w.grownBy w' (some rb) := ⟨h.os, h.tape, h.output, h.size, fun k hk hn => h.block k hk (fun e => hn (by rw [e]))⟩
theorem Only.belowB {rb B : Nat} {w w1 w2 : World} (h : Only rb w w1) (k : Below B w1 w2) (hB : w.heap.size ≤ B) : Only rb w w2 :=
  ⟨k.os.trans h.os, k.tape.trans h.tape, k.output.trans h.output, Nat.le_trans h.size k.size, fun i hi hn => (k.block i (by omega)).trans (h.block i hi hn)⟩
theorem Row.grownBy {w w' : World} {r : Option Nat} {b o n : Nat} {f : Nat → Int} (h : Row w b o n f) (hg : w.grownBy w' r) (hne : some b ≠ r) : Row w' b o n f := fun i hi => hg.cell (h i hi) hne

/-- the map of names is made -/
def NamesMade (b g n cap : Nat) (f : Nat → Int) (X : Nat) (w : World) (e : Ending) (w' : World) : Prop :=
  e = .returned (.map (some w.heap.size)) ∧ w'.ownsMap Tryd.prog 44 (plainElem (H := Empty) Tryd.prog 3) w.heap.size (subsL X (X + 1)).length (mapK (subsL X (X + 1)) (subsL X (X + 1)).length) ∧ AtomW w' b g n cap f ∧ Only b w w' ∧ w.heap.size < w'.heap.size

/-- the names of a classical world's things -/
def namesL (n : Nat) (f : Nat → Int) : List Int := if classB n f then rowL (nameI n f) n else []

/-- the names are handed back -/
def NamedEnd (b g n cap : Nat) (f : Nat → Int) (w : World) (e : Ending) (w' : World) : Prop := ∃ v, e = .returned v ∧ OwnX w' w.heap.size 3 v (rowL (nameI n f) n) ∧ Only b w w' ∧ AtomW w' b g n cap f

end Go.Proofs.YtdlafcioopclhaaDoor
