import Derived.Test.YtglnefffkcillaaWdN
namespace Go.Proofs.Ytglnefffkcillaa
set_option linter.unusedVariables false
set_option linter.unusedSimpArgs false
open Go.RowKit Go.Maps

/-! ### the same lists, over natural numbers -/
def cst (P : List Nat) : List Int := P.map (fun x : Nat => (x : Int))
theorem cst_len (P : List Nat) : (cst P).length = P.length := List.length_map _
theorem cst_getD (P : List Nat) (i : Nat) : rv (cst P) i = (P.getD i 0 : Int) := by
  unfold rv cst
  rw [List.getD_eq_getElem?_getD, List.getD_eq_getElem?_getD, List.getElem?_map]
  cases P[i]? <;> rfl
theorem cst_inj {P Q : List Nat} (h : cst P = cst Q) : P = Q := by
  have := congrArg (List.map Int.toNat) h
  simpa [cst, Function.comp_def] using this
theorem has_nat (x i : Nat) : hasB (x : Int) i = Nat.testBit x i := by
  unfold hasB
  rw [Nat.testBit_eq_decide_div_mod_eq]
  have e : ((x : Int) / 2 ^ i % 2) = ((x / 2 ^ i % 2 : Nat) : Int) := by
    rw [Int.natCast_emod, Int.natCast_ediv]; rfl
  rw [e]
  rw [Bool.eq_iff_iff]
  simp
  omega

theorem llK_nat (C : List Int → List Int) (CN : List Nat → List Nat) (h : ∀ L, C (cst L) = cst (CN L)) : ∀ k, llK C k = (llN CN k).map cst
  | 0 => rfl
  | k + 1 => by
    rw [llK, llK_nat C CN h k, llN, List.flatMap_map, List.map_flatMap]
    congr 1
    funext L
    show (C (cst L)).map (fun x => cst L ++ [x]) = ((CN L).map (fun x => L ++ [x])).map cst
    rw [h L]
    unfold cst
    rw [List.map_map, List.map_map]
    congr 1
    funext x
    simp
theorem sets_nat (n : Nat) (h1 : 1 ≤ n) (h4 : n ≤ 4) : setsL n = cst ((List.range (2 ^ n)).tail) := by
  have hc : n = 1 ∨ n = 2 ∨ n = 3 ∨ n = 4 := by omega
  rcases hc with rfl | rfl | rfl | rfl <;> decide +kernel
theorem self_nat (n : Nat) (h1 : 1 ≤ n) (h4 : n ≤ 4) (L : List Nat) : selfC (setsL n) (cst L) = cst (selfN n L) := by
  unfold selfC evL selfN
  rw [sets_nat n h1 h4, cst_len]
  have e : List.range (2 ^ n) = 0 :: (List.range (2 ^ n)).tail := by
    have hc : n = 1 ∨ n = 2 ∨ n = 3 ∨ n = 4 := by omega
    rcases hc with rfl | rfl | rfl | rfl <;> rfl
  rw [e]
  rw [List.filter_cons_of_neg (by simp), List.tail_cons]
  unfold cst
  rw [List.filter_map]
  congr 1
  refine List.filter_congr (fun x _ => ?_)
  show (!(!hasB (x : Int) L.length)) = _
  rw [has_nat, Bool.not_not]

theorem dgL_nat (n m : Nat) : dgL n m = cst (dgLN n m) := by
  unfold dgL dgLN cst rowL
  rw [List.map_map]
  refine List.map_congr_left (fun i _ => ?_)
  unfold dgR
  rw [if_pos (Nat.zero_le _)]; rfl
theorem ft_nat (n m : Nat) : ftB n m 0 = ftN n m := by
  unfold ftB ftN
  rw [Bool.eq_iff_iff, decide_eq_true_eq, List.all_eq_true]
  refine ⟨fun h i hi => ?_, fun h i hi _ => ?_⟩
  · rw [← has_nat]; exact h i (List.mem_range.1 hi) (Nat.zero_le _)
  · rw [has_nat]; exact h i (List.mem_range.2 hi)
/-- the model's list of worlds is the program's -/
theorem al_wl (n : Nat) (h1 : 1 ≤ n) (h4 : n ≤ 4) : alL n = wlL n := by
  have e1 : wlL n = ((llN (selfN n) n).filter (fun P => wlB (cst P))).map cst := by
    unfold wlL
    rw [llK_nat _ (selfN n) (self_nat n h1 h4), List.filter_map]; rfl
  rw [e1, ← digits_nat n h1 h4, List.filter_map, List.filter_filter, List.map_map]
  unfold alL alK
  have e2 : (List.range (2 ^ (n * n))).filter (akB n) = (List.range (2 ^ (n * n))).filter (fun a => ((fun P => wlB (cst P)) ∘ dgLN n) a && ftN n a) := by
    refine List.filter_congr (fun m _ => ?_)
    unfold akB
    rw [ft_nat]
    have e3 : worldB n (dgR n m 0) = wlB (cst (dgLN n m)) := by
      unfold wlB
      rw [← dgL_nat]
      have hl : (dgL n m).length = n := rowL_len _ _
      rw [hl]
      exact worldB_congr (fun i hi => (rowL_getD _ _ _ hi).symm)
    rw [e3, Bool.and_comm]; rfl
  rw [e2]
  exact List.map_congr_left (fun m _ => dgL_nat n m)
end Go.Proofs.Ytglnefffkcillaa
