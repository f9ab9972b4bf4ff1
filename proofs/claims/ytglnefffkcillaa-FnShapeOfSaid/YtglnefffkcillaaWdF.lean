import Derived.Test.YtglnefffkcillaaWdD
import Derived.Test.YtglnefffkcillaaWdE
namespace Go.Proofs.Ytglnefffkcillaa
set_option linter.unusedVariables false
set_option linter.unusedSimpArgs false
open Go.RowKit Go.Maps

theorem tabB_all : ∀ p ∈ tab4, shN p.1 = p.2 ∧ shSN 4 p.1 = p.2 := by
  intro p hp
  have h : tabB p = true := by
    unfold tab4 at hp
    simp only [List.mem_append] at hp
    rcases hp with ((((((hp | hp) | hp) | hp) | hp) | hp) | hp) | hp
    · exact List.all_eq_true.1 tabB_0 p hp
    · exact List.all_eq_true.1 tabB_1 p hp
    · exact List.all_eq_true.1 tabB_2 p hp
    · exact List.all_eq_true.1 tabB_3 p hp
    · exact List.all_eq_true.1 tabB_4 p hp
    · exact List.all_eq_true.1 tabB_5 p hp
    · exact List.all_eq_true.1 tabB_6 p hp
    · exact List.all_eq_true.1 tabB_7 p hp
  unfold tabB at h
  rw [Bool.and_eq_true, beq_iff_eq, beq_iff_eq] at h
  exact h
/-- what holds of the shape of a world -/
structure ShapeN (n : Nat) (P : List Nat) : Prop where
  model : shSN n P = shN P
  world : shN P ∈ wlN n
  again : shN (shN P) = shN P
  parts : cntN n P = cntN n (shN P)
  turned : exN P ∈ wlN n
  same : shN (exN P) = shN P
theorem shape_n {n : Nat} (h1 : 1 ≤ n) (h4 : n ≤ 4) {P : List Nat} (hP : P ∈ wlN n) : ShapeN n P := by
  by_cases h : n = 4
  · subst h
    rw [tab4_wl] at hP
    obtain ⟨p, hp, rfl⟩ := List.mem_map.1 hP
    obtain ⟨e1, e2⟩ := tabB_all p hp
    have hc := List.all_eq_true.1 tabC_all p hp
    unfold tabC at hc
    simp only [Bool.and_eq_true, beq_iff_eq, List.contains_iff_mem] at hc
    obtain ⟨⟨⟨_, h5⟩, h6⟩, h7⟩ := hc
    have m1 : p.2 ∈ wlN 4 := by rw [tab4_wl]; exact List.mem_map.2 ⟨_, h5, rfl⟩
    have m2 : exN p.1 ∈ wlN 4 := by rw [tab4_wl]; exact List.mem_map.2 ⟨_, h7, rfl⟩
    have a1 := (tabB_all _ h5).1
    have a2 := (tabB_all _ h7).1
    dsimp only at a1 a2
    exact ⟨by rw [e1, e2], by rw [e1]; exact m1, by rw [e1]; exact a1, by rw [e1]; exact h6, m2, by rw [e1]; exact a2⟩
  · have hc : n = 1 ∨ n = 2 ∨ n = 3 := by omega
    have hk : chkN n P = true := by
      rcases hc with rfl | rfl | rfl
      · exact List.all_eq_true.1 chk_1 P hP
      · exact List.all_eq_true.1 chk_2 P hP
      · exact List.all_eq_true.1 chk_3 P hP
    unfold chkN at hk
    simp only [Bool.and_eq_true, beq_iff_eq, List.contains_iff_mem] at hk
    obtain ⟨⟨⟨⟨⟨k1, k2⟩, k3⟩, k4⟩, k5⟩, k6⟩ := hk
    exact ⟨k1, k2, k3, k4, k6, k5⟩

theorem wlN_len {n : Nat} {P : List Nat} (hP : P ∈ wlN n) : P.length = n := llN_len (List.mem_filter.1 hP).1
theorem wlN_lt {n : Nat} (h4 : n ≤ 4) {P : List Nat} (hP : P ∈ wlN n) : ∀ x ∈ P, x < 16 := fun x hx => by
  have h := llN_all (p := fun x => x < 2 ^ n) (fun L x hx => List.mem_range.1 (List.mem_filter.1 hx).1) (List.mem_filter.1 hP).1 x hx
  have hp : 2 ^ n ≤ 2 ^ 4 := Nat.pow_le_pow_right (by omega) h4
  have : x < 2 ^ n := h
  omega
theorem shL_row {n : Nat} {f g : Nat → Int} (h : rowL f n = rowL g n) : shL n f = shL n g := by unfold shL; rw [h]
theorem rnK_congr {f g : Nat → Int} {a : Nat} (h : f a = g a) (o : Nat → Nat) : ∀ b, rnK f o a b = rnK g o a b
  | 0 => rfl
  | b + 1 => by rw [rnK, rnK, rnK_congr h o b, h]
theorem rnF_congr {n : Nat} {f g : Nat → Int} (h : ∀ i, i < n → f i = g i) (o : Nat → Nat) : ∀ a i, a ≤ n → rnF f o n a i = rnF g o n a i
  | 0, _, _ => rfl
  | a + 1, i, ha => by
    show (if i = o a then rnK f o a n else rnF f o n a i) = (if i = o a then rnK g o a n else rnF g o n a i)
    rw [rnK_congr (h a (by omega)) o n, rnF_congr h o a i (by omega)]
theorem shS_row {n : Nat} {f g : Nat → Int} (h : ∀ i, i < n → f i = g i) : shS n f = shS n g := by
  unfold shS rnO
  congr 1
  refine List.map_congr_left (fun o _ => ?_)
  unfold rnL rowL
  exact List.map_congr_left (fun i _ => rnF_congr h _ n i (Nat.le_refl _))
/-- a world of at most four things, as the kernel has it -/
theorem world_nat {n : Nat} {f : Nat → Int} (h64 : ∀ i, i < n → I64 (f i)) (hs : shB n f = true) : ∃ P, P ∈ wlN n ∧ rowL f n = cst P ∧ shL n f = cst (shN P) ∧ shS n f = cst (shN P) ∧ 1 ≤ n ∧ n ≤ 4 := by
  have hsb := Bool.and_eq_true_iff.1 hs
  have h1 := (worldB_pos hsb.1).1
  have h4 := of_decide_eq_true hsb.2
  have hm := world_mem h64 h4 hsb.1
  rw [wl_nat n h1 h4] at hm
  obtain ⟨P, hP, he⟩ := List.mem_map.1 hm
  have hl := wlN_len hP
  have hlt := wlN_lt h4 hP
  have hS := shape_n h1 h4 hP
  have er : rowL (rv (cst P)) n = cst P := by have := rowL_self (cst P); rw [cst_len, hl] at this; exact this
  have ef : ∀ i, i < n → f i = rv (cst P) i := fun i hi => by
    have e := rowL_getD f n i hi
    rw [← e, ← he]; rfl
  refine ⟨P, hP, he.symm, ?_, ?_, h1, h4⟩
  · rw [shL_row (g := rv (cst P)) (by rw [er, he])]
    have := sh_nat P (by omega) hlt
    rw [hl] at this
    exact this
  · rw [shS_row ef, shS_nat n h4 P, hS.model]

theorem specShapeOf_none (a : Option Addr) (n cap : Nat) (f : Nat → Int) (h : shB n f = false) (w : World) (hi : Ints w a n f) :
    Calls Try.prog 27 #[.slice a n cap] w (Gives 3 [] w) := by
  have hal := alloc_below w (.cells #[] 3)
  have HI := Lib.hid (hi.next hal); clear hi
  have HAL := Lib.hid hal; clear hal
  have HMD := Lib.hid (OwnX.made w w.heap.size (Nat.le_refl _) 3)
  cases hw : worldB n f with
  | false =>
    have HW := Lib.hid hw; clear hw h
    go_enter Try.func27, Try.ntmps27
    go_wp2_with fail
    refine (specWorldOk_at _ _ _ _ false _ HW.out HI.out).mono ?_
    rintro e w1 ⟨rfl, hd⟩
    have HB := Lib.hid (HAL.out.trans (hd.below.mono HAL.out.size)); have HM := Lib.hid (HMD.out.kept hd.below); clear hd
    go_wp2_with fail
    go_ret
    exact ⟨_, rfl, HM.out, HB.out⟩
  | true =>
    have h4 : (4 : Int) < (n : Int) := by
      unfold shB at h; rw [hw, Bool.true_and, decide_eq_false_iff_not] at h; omega
    have HW := Lib.hid hw; clear hw h
    go_enter Try.func27, Try.ntmps27
    go_wp2_with fail
    refine (specWorldOk_at _ _ _ _ true _ HW.out HI.out).mono ?_
    rintro e w1 ⟨rfl, hd⟩
    have HB := Lib.hid (HAL.out.trans (hd.below.mono HAL.out.size)); have HM := Lib.hid (HMD.out.kept hd.below); clear hd
    go_wp2_with fail
    go_ret
    exact ⟨_, rfl, HM.out, HB.out⟩


theorem specShapeOf_any (a : Option Addr) (n c : Nat) (f : Nat → Int) (w : World) (hi : Ints w a n f) :
    Calls Try.prog 27 #[.slice a n c] w (Gives 3 (shV n f) w) := by
  cases hs : shB n f with
  | false =>
    unfold shV
    rw [hs, if_neg (by decide)]
    exact specShapeOf_none a n c f hs w hi
  | true =>
    unfold shV
    rw [hs, if_pos rfl]
    obtain ⟨g, o, rfl, hlt, hr⟩ := hi.row (worldB_pos (Bool.and_eq_true_iff.1 hs).1).1
    obtain ⟨P, _, _, e1, e2, _, _⟩ := world_nat hi.i64 hs
    have hP := (worldB_iff n f hi.i64).1 (Bool.and_eq_true_iff.1 hs).1
    rw [e1, ← e2]
    exact specShapeOf_in g o n c f hs w hi hr hlt (fun i hi => (hP.rng i hi).1)
theorem shV_I64 {n : Nat} {f : Nat → Int} (h64 : ∀ i, i < n → I64 (f i)) : (shV n f).length ≤ 1000 ∧ ∀ x ∈ shV n f, I64 x := by
  unfold shV
  cases hs : shB n f with
  | false => exact ⟨by simp, by simp⟩
  | true =>
    rw [if_pos rfl]
    obtain ⟨P, hP, _, e1, _, h1, h4⟩ := world_nat h64 hs
    have hS := shape_n h1 h4 hP
    refine ⟨by rw [shL_len]; omega, fun x hx => ?_⟩
    rw [e1] at hx
    obtain ⟨y, hy, rfl⟩ := List.mem_map.1 hx
    have := wlN_lt h4 hS.world y hy
    unfold I64; omega

theorem own_same (n : Nat) (h1 : 1 ≤ n) (h4 : n ≤ 4) (L : List Int) (hL : L ∈ wlL n) : ownS n L = ownB n L := by
  obtain ⟨hl, hw, h64, hr⟩ := wl_facts h1 h4 hL
  have h64' : ∀ i, i < n → I64 (rv L i) := fun i hi => h64 _ (getD_mem (by omega))
  have hs : shB n (rv L) = true := by unfold shB; rw [hw, decide_eq_true h4]; rfl
  obtain ⟨P, _, _, e1, e2, _, _⟩ := world_nat h64' hs
  unfold ownS ownB
  rw [e1, e2]
  unfold sameB
  rw [Bool.eq_iff_iff, decide_eq_true_eq, decide_eq_true_eq]
  exact ⟨fun h i hi => (h i hi).symm, fun h i hi => (h i hi).symm⟩
theorem cs_same (n : Nat) (h1 : 1 ≤ n) (h4 : n ≤ 4) : csS n = csN n := by
  unfold csS csN
  rw [al_wl n h1 h4]
  congr 2
  exact List.filter_congr (fun L hL => own_same n h1 h4 L hL)
theorem specCountShapes_any (t : Int) (w : World) :
    Calls Try.prog 31 #[.int .i64 t] w fun e w' => e = .returned (.int .i64 (csV t)) ∧ Below w.heap.size w w' := by
  by_cases h : 1 ≤ t ∧ t ≤ 3
  · unfold csV
    rw [if_pos h, ← cs_same t.toNat (by omega) (by omega)]
    have hne : 1 ≤ (alL t.toNat).length := by
      rw [al_wl t.toNat (by omega) (by omega)]
      obtain ⟨k1, k2, k3⟩ := wl_count
      have hc : t = 1 ∨ t = 2 ∨ t = 3 := by omega
      rcases hc with rfl | rfl | rfl
      · show 1 ≤ (wlL 1).length; omega
      · show 1 ≤ (wlL 2).length; omega
      · show 1 ≤ (wlL 3).length; omega
    have := specCountShapes_in t.toNat (by omega) (by omega) hne w
    rw [Int.toNat_of_nonneg (by omega)] at this
    exact this
  · unfold csV
    rw [if_neg h]
    exact specCountShapes_no t h w

set_option maxRecDepth 100000 in
set_option maxHeartbeats 3200000 in
theorem exactCountShapes (t : Int) (w : World) :
    Calls Try.prog 12 #[.int .i64 t] w (TrueEnd w) := by
  obtain ⟨v, hv⟩ : ∃ v, csV t = v := ⟨_, rfl⟩
  have HV := Lib.hid hv
  have hne : (v != v) = false := by simp
  clear hv
  go_enter Try.func12, Try.ntmps12
  go_wp2_with fail
  refine (specCountShapes_any t w).mono ?_
  rintro e w1 ⟨rfl, hb1⟩
  rw [HV.out]
  go_wp2_with fail
  refine (CountShapes_any t w1).mono ?_
  rintro e w2 ⟨rfl, hb2⟩
  rw [HV.out]
  have HB := Lib.hid (below_onto hb1 hb2)
  clear hb1 hb2
  go_wp2_with fail
  go_ret
  exact ⟨rfl, HB.out⟩
end Go.Proofs.Ytglnefffkcillaa
