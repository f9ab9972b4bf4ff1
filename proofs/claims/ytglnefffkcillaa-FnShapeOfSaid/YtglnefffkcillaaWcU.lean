import Derived.Test.YtglnefffkcillaaWcT
namespace Go.Proofs.Ytglnefffkcillaa
set_option linter.unusedVariables false
set_option linter.unusedSimpArgs false
open Go.RowKit Go.Maps

theorem run_append_no2 (w : World) (ty : TypeId) (s g c : Nat) : (Builtin.append_ #[23, 23] ty #[.slice (some ⟨s, 0, none⟩) 0 0, .slice (some ⟨g, 0, none⟩) 0 c]).run Try.prog w = .ok (.slice (some ⟨s, 0, none⟩) 0 0) w := by
  obtain ⟨i0, hi, hz0, hz1, hz2⟩ := info_parts Try.infoInt
  simp [Builtin.append_, storeCells, Builtin.lenOf, Builtin.firstCells, loadCells, loadCellsFrom, Result.andThen, run_underlying Try.underlying23, sizeOf, typeInfo, zeroValue, hi, hz0, hz1]

/-- the numbers below n -/
def idL (n : Nat) : List Int := rowL (fun i => (i : Int)) n
def flL (C : List Int → List Int) (LL : List (List Int)) : List (List Int) := LL.flatMap (fun L => (C L).map (fun x => L ++ [x]))
theorem flL_len (C : List Int → List Int) (M : Nat) (hM : ∀ L, (C L).length ≤ M) : ∀ LL : List (List Int), (flL C LL).length ≤ LL.length * M
  | [] => by simp [flL]
  | L :: LL => by
    have h1 := flL_len C M hM LL
    have h2 := hM L
    unfold flL at *
    rw [List.flatMap_cons, List.length_append, List.length_map, List.length_cons, Nat.succ_mul]
    omega
theorem flL_snoc (C : List Int → List Int) (LL : List (List Int)) (L : List Int) : flL C (LL ++ [L]) = flL C LL ++ (C L).map (fun y => L ++ [y]) := by
  unfold flL; rw [List.flatMap_append]; simp
theorem llK_size (C : List Int → List Int) (hM : ∀ L, (C L).length ≤ 16) : ∀ k, (llK C k).length ≤ 16 ^ k
  | 0 => by simp [llK]
  | k + 1 => by
    have h1 := llK_size C hM k
    have h2 := flL_len C 16 hM (llK C k)
    have h3 : (llK C (k + 1)) = flL C (llK C k) := rfl
    rw [h3, Nat.pow_succ]
    exact Nat.le_trans h2 (Nat.mul_le_mul_right _ h1)
/-- those of the first x numbers that are not in L -/
def ptL (n : Nat) (L : List Int) (x : Nat) : List Int := evL (fun y => inF y L.length (rv L)) ((idL n).take x)
theorem ptL_all (n : Nat) (L : List Int) : ptL n L n = otherC (idL n) L := by
  unfold ptL otherC
  rw [List.take_of_length_le (by unfold idL; rw [rowL_len]; exact Nat.le_refl _)]
  rfl
theorem idL_take (n x : Nat) (hx : x < n) : (idL n).take (x + 1) = (idL n).take x ++ [(x : Int)] := by
  have h := take_next (xs := idL n) (j := x) (by unfold idL; rw [rowL_len]; exact hx)
  rw [h]
  unfold idL
  rw [rowL_getD _ _ _ hx]
theorem ptL_no (n : Nat) (L : List Int) (x : Nat) (hx : x < n) (h : inF (x : Int) L.length (rv L) = true) : ptL n L (x + 1) = ptL n L x := by
  unfold ptL evL
  rw [idL_take n x hx, List.filter_append]
  simp [h]
theorem ptL_yes (n : Nat) (L : List Int) (x : Nat) (hx : x < n) (h : inF (x : Int) L.length (rv L) = false) : ptL n L (x + 1) = ptL n L x ++ [(x : Int)] := by
  unfold ptL evL
  rw [idL_take n x hx, List.filter_append]
  simp [h]
theorem ptL_len (n : Nat) (L : List Int) (x : Nat) : (ptL n L x).length ≤ n := by
  unfold ptL evL
  refine Nat.le_trans (List.length_filter_le _ _) ?_
  rw [List.length_take]; unfold idL; rw [rowL_len]; omega
theorem other_id_len (n : Nat) (hn : n ≤ 16) : ∀ L, (otherC (idL n) L).length ≤ 16 := other_len (by unfold idL; rw [rowL_len]; exact hn)

theorem Ships.lower {w : World} {B B' n : Nat} {v : Value} {L : List (List Int)} {rs : List (Nat × Nat)} (h : Ships w B n v L rs) (hB : B' ≤ B) : Ships w B' n v L rs :=
  ⟨ownsRow_base' h.own hB, fun i hi => ⟨(h.row i hi).1.base hB, (h.row i hi).2⟩, h.dis, h.apart⟩
/-- 'one row, and nothing in it' -/
theorem Ships.first (w : World) : Ships ((w.alloc (.cells #[] 3)).alloc (.cells #[.slice (some ⟨w.heap.size, 0, none⟩) 0 0] 23)) w.heap.size 0 (.slice (some ⟨w.heap.size + 1, 0, none⟩) 1 1) [[]] [(w.heap.size, 0)] := by
  have h1 : (w.alloc (.cells #[] 3)).heap.size = w.heap.size + 1 := alloc_size _ _
  have h2 := World.ownsRow_lit (base := w.heap.size) (e := 23) (size := 1) (w.alloc (.cells #[] 3)) #[.slice (some ⟨w.heap.size, 0, none⟩) 0 0] 1 (by omega) (by unfold maxLen; omega) rfl
  rw [h1] at h2
  refine ⟨h2, fun i hi => ?_, by simp, fun r hr e => ?_⟩
  · have hi0 : i = 0 := by simp at hi; exact hi
    subst hi0
    refine ⟨?_, Nat.le_refl _⟩
    exact (OwnX.made w w.heap.size (Nat.le_refl _) 3).kept (alloc_below _ _)
  · simp at hr
    subst hr
    simp [Value.ownBlock] at e

/-- a list is copied behind what is empty -/
theorem copied_row (w : World) (g k c : Nat) (L : List Int) (hL : L.length = k) (hk : k ≤ 100) (hr : 1 ≤ k → Row w g 0 k (rv L)) (hg : 1 ≤ k → g < w.heap.size) :
    ∃ g1 c1 w1, (Builtin.append_ #[23, 23] 23 #[.slice (some ⟨w.heap.size, 0, none⟩) 0 0, .slice (some ⟨g, 0, none⟩) k c]).run Try.prog (w.alloc (.cells #[] 3)) = .ok (.slice (some ⟨g1, 0, none⟩) k c1) w1 ∧
      OwnX w1 w.heap.size 3 (.slice (some ⟨g1, 0, none⟩) k c1) L ∧ Below w.heap.size w w1 := by
  obtain ⟨i0, hi, hz0, hz1, hz2⟩ := info_parts Try.infoInt
  have hmade : OwnX (w.alloc (.cells #[] 3)) w.heap.size 3 (.slice (some ⟨w.heap.size, 0, none⟩) 0 0) [] := OwnX.made w _ (Nat.le_refl _) _
  have hab := alloc_below w (.cells #[] 3)
  by_cases h0 : k = 0
  · subst h0
    have hLn : L = [] := List.length_eq_zero_iff.1 hL
    subst hLn
    exact ⟨w.heap.size, 0, _, run_append_no2 _ _ _ _ _, hmade, hab⟩
  · have h1 : 1 ≤ k := by omega
    obtain ⟨v', w', hr', hown', hgr, _, _⟩ := run_append_own_at (P := Try.prog) (w.alloc (.cells #[] 3)) w.heap.size 23 23 3 i0 (.int .i64 0) 1 8 Try.underlying23 hi hz0 hz1 hz2 rfl (by decide) _ _ _ hmade ⟨g, 0, none⟩ k c (rowV (rv L) k) (by rw [rowV_len]; omega)
      (rowV_cells ((hr h1).below hab (hg h1))) (rowV_one _ _) (by unfold maxLen; simp; omega) (by simp; omega) (by rw [alloc_size]; omega)
    have hx : OwnX w' w.heap.size 3 v' (rowL (rv L) k) := OwnX.rowV (by simpa using hown')
    have e : rowL (rv L) k = L := by have := rowL_self L; rw [hL] at this; exact this
    rw [e] at hx
    obtain ⟨g1, c1, rfl, _⟩ := hx.shape (by omega)
    rw [hL] at hr' hx
    exact ⟨g1, c1, w', hr', hx, hab.trans ((Below.refl w.heap.size _).grown hgr (by rw [alloc_size]; omega) (fun q hq => (World.ownsRow.lt hmade q hq).1))⟩

theorem joined_two {w w1 w5 : World} {g1 c1 k x : Nat} {L : List Int} {v2 : Value} {o : Obj} (hL : L.length = k) (ho1 : w1.ownsRow w.heap.size 3 1 (.slice (some ⟨g1, 0, none⟩) k c1) k (L.map (Value.int .i64))) (hb1 : Below w.heap.size w w1)
    (hown2 : w5.ownsRow w.heap.size 3 1 v2 (k + 1) (L.map (Value.int .i64) ++ [.int .i64 (x : Int)])) (hgrow2 : (w1.alloc o).grownBy w5 (Value.slice (some ⟨g1, 0, none⟩) k c1).ownBlock) :
    ∃ g2 c2, v2 = .slice (some ⟨g2, 0, none⟩) (k + 1) c2 ∧ k + 1 ≤ c2 ∧ w.heap.size ≤ g2 ∧ OwnX w5 w.heap.size 3 (.slice (some ⟨g2, 0, none⟩) (k + 1) c2) (L ++ [(x : Int)]) ∧ Below w.heap.size w w5 := by
  have hs1 := hb1.size
  have hb5 : Below w.heap.size w w5 := hb1.trans (((alloc_below w1 o).mono (by omega)).trans ((Below.refl w.heap.size _).grown hgrow2 (by rw [alloc_size]; omega) (fun q hq => (ho1.lt q hq).1)))
  have ho5 : OwnX w5 w.heap.size 3 v2 (L ++ [(x : Int)]) := OwnX.snoc (by rw [hL]; exact hown2)
  obtain ⟨g2, c2, hv2, hg2, hgl2, hc2, _, _, _⟩ := ho5.shape (by simp)
  have hlen2 : (L ++ [(x : Int)]).length = k + 1 := by rw [List.length_append, hL]; rfl
  rw [hlen2] at hv2 hc2
  subst hv2
  exact ⟨g2, c2, rfl, hc2, hg2, ho5, hb5⟩
end Go.Proofs.Ytglnefffkcillaa
