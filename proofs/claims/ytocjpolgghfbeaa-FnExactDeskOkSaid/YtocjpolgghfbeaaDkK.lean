import Derived.Test.YtocjpolgghfbeaaDkA
import Derived.Deep.Matrix
import Derived.ChangeSlices
import Derived.Lib.SmallJoins
namespace Go.Proofs.Ytocjpolgghfbeaa
set_option linter.unusedVariables false
set_option linter.unusedSimpArgs false
open Go.RowKit Go.Maps Go.ChangeShapes Go.WideShapes

theorem ints_take {w : World} {a : Option Addr} {len : Nat} {zs : List Int} (h : Ints w a len (fun i => zs.getD i 0)) (hl : len ≤ zs.length) :
    (zs.take len).length = len ∧ Ints w a (zs.take len).length (fun i => (zs.take len).getD i 0) := by
  have e : (zs.take len).length = len := by rw [List.length_take]; omega
  have g : ∀ i, i < len → (zs.take len).getD i 0 = zs.getD i 0 := fun i hi => by
    rw [List.getD_eq_getElem?_getD, List.getElem?_take, if_pos hi, List.getD_eq_getElem?_getD]
  refine ⟨e, ?_⟩
  rw [e]
  obtain ⟨⟨h1, h2⟩, h3⟩ := h
  refine ⟨⟨h1, fun i hi => by show I64 ((zs.take len).getD i 0); rw [g i hi]; exact h2 i hi⟩, ?_⟩
  rcases h3 with h3 | ⟨b, o, h3, h4, h5⟩
  · exact .inl h3
  · exact .inr ⟨b, o, h3, h4, fun i hi => by
      have := h5 i hi
      show w.cell? _ = some (.int .i64 ((zs.take len).getD i 0))
      rw [g i hi]; exact this⟩

theorem now_open {H : Type} {enc : TypeId × Value → H} {W : World} {n : Nat} {v : Value} {y : DataW H × List MemPlace}
    (h : DataW.trod enc Try.prog W 0 (fun _ => true) true n 23 [v] = some y) : ∃ (a : Option Addr) (c : Nat) (xs : List Int), v = .slice a xs.length c ∧ xs.length ≤ c ∧ Ints W a xs.length (fun j => xs.getD j 0) := by
  rcases open_ints Try.underlying23 Try.underlying3 (by kernel_rfl) h with ⟨hcs, _⟩ | ⟨x, l, c, zs, hcs, _, hl, hm, hz, _, hcell, hwz⟩
  · simp at hcs
    subst hcs
    exact ⟨none, 0, [], rfl, Nat.le_refl _, ⟨by simp, fun i hi => absurd hi (Nat.not_lt_zero _)⟩, .inl rfl⟩
  · simp at hcs
    subst hcs
    have hzl : zs.length = c := by simpa using hz
    obtain ⟨e1, e2⟩ := ints_take (len := l) (ints_of (.inr ⟨x, rfl, hl, hm, hzl, hcell, hwz⟩)) (by omega)
    exact ⟨some x, c, zs.take l, by rw [e1], by rw [e1]; exact hl, e2⟩

theorem past_open {H : Type} {enc : TypeId × Value → H} {W : World} {n : Nat} {v : Value} {y : DataW H × List MemPlace}
    (h : DataW.trod enc Try.prog W 0 (fun _ => true) true n 24 [v] = some y) : ∃ (b : Option Addr) (c : Nat) (L : List (List Int)), v = .slice b L.length c ∧ L.length ≤ c ∧ Nest W b L := by
  rcases Go.Deep.open_int_rows Try.underlying24 Try.underlying23 Try.underlying3 (by kernel_rfl) (by kernel_rfl) h with ⟨hcs, _⟩ | ⟨a, len, cap, A, Ln, C, Z, hcs, _, hl, hm, _, hx⟩
  · simp at hcs
    subst hcs
    exact ⟨none, 0, [], rfl, Nat.le_refl _, by simp, .inl rfl⟩
  · simp at hcs
    subst hcs
    have hlen : ((List.range len).map (fun r => (Z r).take (Ln r))).length = len := by simp
    refine ⟨some a, cap, (List.range len).map (fun r => (Z r).take (Ln r)), by rw [hlen], by rw [hlen]; exact hl, by rw [hlen]; unfold maxLen at hm; omega, ?_⟩
    rw [hlen]
    by_cases h0 : len = 0
    · exact .inl h0
    · right
      obtain ⟨bk, o, spot⟩ := a
      have hspot : spot = none := by simpa [Addr.add] using World.cell?_spot (hx 0 (by omega)).1
      subst hspot
      have h1 := (hx 0 (by omega)).1
      rw [Go.WideShapes.add_plain] at h1
      refine ⟨bk, o, rfl, World.block_lt_of_cell? W _ h1, fun i hi => ?_⟩
      rw [hlen] at hi
      obtain ⟨g1, g2, g3, g4, g5, g6, g7⟩ := hx i (by omega)
      rw [Go.WideShapes.add_plain] at g1
      have hii : Ints W (A i) (Ln i) (fun j => (Z i).getD j 0) := by
        cases hA : A i with
        | none =>
          have hc := g6 hA
          have hln : Ln i = 0 := by omega
          rw [hln]
          exact ⟨⟨by omega, fun j hj => absurd hj (Nat.not_lt_zero _)⟩, .inl rfl⟩
        | some a' => exact ints_of (.inr ⟨a', rfl, g2, g3, g4, fun j hj => (g7 a' hA).2 j (by omega), g5⟩)
      obtain ⟨e1, e2⟩ := ints_take hii (by omega)
      have eg : ((List.range len).map (fun r => (Z r).take (Ln r)))[i]'(by rw [hlen]; exact hi) = (Z i).take (Ln i) := by simp
      refine ⟨A i, C i, ?_, ?_, ?_⟩
      · rw [eg, e1]; exact g1
      · rw [eg, e1]; exact g2
      · rw [eg]; exact e2

/-- a desk that came in can be read -/
theorem desk_open {H : Type} {enc : TypeId × Value → H} {W : World} {n : Nat} {v0 v1 : Value} {y0 y1 : DataW H × List MemPlace}
    (h0 : DataW.trod enc Try.prog W 0 (fun _ => true) true n 23 [v0] = some y0) (h1 : DataW.trod enc Try.prog W 0 (fun _ => true) true n 24 [v1] = some y1) : ∃ xs L, DeskR W (.agg #[v0, v1]) xs L := by
  obtain ⟨a, c, xs, rfl, e1, e2⟩ := now_open h0
  obtain ⟨b, c2, L, rfl, e3, e4⟩ := past_open h1
  exact ⟨xs, L, ⟨a, c, b, c2, rfl, e1, e3, e2, e4⟩⟩
end Go.Proofs.Ytocjpolgghfbeaa
