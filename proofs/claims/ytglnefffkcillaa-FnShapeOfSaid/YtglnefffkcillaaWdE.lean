import Derived.Test.YtglnefffkcillaaWdC
import Derived.Test.YtglnefffkcillaaPlTwo
import Derived.Test.YtglnefffkcillaaBaseB
namespace Go.Proofs.Ytglnefffkcillaa
set_option linter.unusedVariables false
set_option linter.unusedSimpArgs false
open Go.RowKit Go.Maps

set_option maxRecDepth 100000 in
theorem specWorldsOf_none (t : Int) (h : ¬ (1 ≤ t ∧ t ≤ 3)) (w : World) :
    Calls Try.prog 18 #[.int .i64 t] w (RowsGive 1 [] w) := by
  have HIN := Lib.hid (show inB 1 t 3 = false by unfold inB; rw [Bool.and_eq_false_iff, decide_eq_false_iff_not, decide_eq_false_iff_not]; omega)
  have HM := Lib.hid (alloc_below w (.cells #[] 23))
  have HS := Lib.hid (specStory_made w 1)
  clear h
  go_enter Try.func18, Try.ntmps18
  go_wp2_with fail
  refine (l1In_at _ _ _ false HIN.out _).mono ?_
  rintro e w' ⟨rfl, rfl⟩
  go_wp2_with fail
  go_ret
  exact ⟨_, [], rfl, HS.out, HM.out⟩
/-- how long the rows are; one, where there are none -/
def ntN (t : Int) : Nat := if 1 ≤ t ∧ t ≤ 3 then t.toNat else 1
theorem nt_rng (t : Int) : 1 ≤ ntN t ∧ ntN t ≤ 6 := by unfold ntN; split <;> omega
theorem specWorldsOf_rows (t : Int) (w : World) : Calls Try.prog 18 #[.int .i64 t] w (RowsGive (ntN t) (wsL t) w) := by
  by_cases h : 1 ≤ t ∧ t ≤ 3
  · unfold ntN wsL
    rw [if_pos h, if_pos h]
    have := specWorldsOf_in t.toNat (by omega) (by omega) w
    rw [Int.toNat_of_nonneg (by omega), al_wl t.toNat (by omega) (by omega)] at this
    exact this
  · unfold ntN wsL
    rw [if_neg h, if_neg h]
    exact specWorldsOf_none t h w
theorem WorldsOf_rows (t : Int) (w : World) : Calls Try.prog 17 #[.int .i64 t] w (RowsGive (ntN t) (wsL t) w) := by
  by_cases h : 1 ≤ t ∧ t ≤ 3
  · unfold ntN wsL
    rw [if_pos h, if_pos h]
    have := WorldsOf_in t.toNat (by omega) (by omega) w
    rw [Int.toNat_of_nonneg (by omega)] at this
    exact this
  · unfold ntN wsL
    rw [if_neg h, if_neg h]
    refine (WorldsOf_no t h w).mono ?_
    rintro e w' ⟨rfl, rfl⟩
    exact ⟨_, [], rfl, Ships.empty _ _ _, Below.refl _ _⟩
theorem wl_count : (wlL 1).length = 1 ∧ (wlL 2).length = 3 ∧ (wlL 3).length = 19 := by
  rw [wl_nat 1 (by omega) (by omega), wl_nat 2 (by omega) (by omega), wl_nat 3 (by omega) (by omega), List.length_map, List.length_map, List.length_map]
  exact ⟨by decide +kernel, by decide +kernel, by decide +kernel⟩
theorem wl_count4 : (wlL 4).length = 219 := by
  rw [wl_nat 4 (by omega) (by omega), List.length_map]
  exact wlN_4
theorem ws_len (t : Int) : (wsL t).length ≤ 100 := by
  unfold wsL
  by_cases h : 1 ≤ t ∧ t ≤ 3
  · rw [if_pos h]
    obtain ⟨h1, h2, h3⟩ := wl_count
    have hc : t = 1 ∨ t = 2 ∨ t = 3 := by omega
    rcases hc with rfl | rfl | rfl
    · show (wlL 1).length ≤ 100; omega
    · show (wlL 2).length ≤ 100; omega
    · show (wlL 3).length ≤ 100; omega
  · rw [if_neg h]; simp

theorem cw_same (n k : Nat) (h1 : 1 ≤ n) (h4 : n ≤ 4) : cwS n k = cwN n k := by
  unfold cwS cwN
  rw [al_wl n h1 h4]
  congr 1
  refine List.filter_congr (fun L hL => ?_)
  unfold kdB
  rw [wl_len L hL]
theorem cwV_same (t k : Int) : cwVS t k = cwV t k := by
  unfold cwVS cwV
  by_cases h : (1 ≤ t ∧ t ≤ 4) ∧ (0 ≤ k ∧ k < 6)
  · rw [if_pos h, if_pos h, cw_same _ _ (by omega) (by omega)]
  · rw [if_neg h, if_neg h]

set_option maxRecDepth 100000 in
set_option maxHeartbeats 3200000 in
theorem exactCountWorlds (t k : Int) (w : World) :
    Calls Try.prog 10 #[.int .i64 t, .int .i64 k] w (TrueEnd w) := by
  have HS := Lib.hid (cwV_same t k)
  have hne : (cwV t k != cwV t k) = false := by simp
  go_enter Try.func10, Try.ntmps10
  go_wp2_with fail
  refine (specCountWorlds_any t k w).mono ?_
  rintro e w1 ⟨rfl, hb1⟩
  rw [HS.out]
  go_wp2_with fail
  refine (CountWorlds_any t k w1).mono ?_
  rintro e w2 ⟨rfl, hb2⟩
  have HB := Lib.hid (below_onto hb1 hb2)
  clear hb1 hb2
  go_wp2_with fail
  go_ret
  exact ⟨rfl, HB.out⟩

set_option maxRecDepth 100000 in
set_option maxHeartbeats 6400000 in
theorem exactWorldsOf (t : Int) (w : World) :
    Calls Try.prog 9 #[.int .i64 t] w (TrueEnd w) := by
  have HK := Lib.hid (nt_rng t); have HSE := Lib.hid (ws_len t)
  have HSP := Lib.hid (fun w => specWorldsOf_rows t w); have HIM := Lib.hid (fun w => WorldsOf_rows t w)
  obtain ⟨SL, hSL⟩ : ∃ SL, wsL t = SL := ⟨_, rfl⟩
  obtain ⟨k, hk⟩ : ∃ k, ntN t = k := ⟨_, rfl⟩
  rw [hSL] at HSE; rw [hk] at HK; rw [hSL, hk] at HSP HIM
  clear hSL hk
  go_enter Try.func9, Try.ntmps9
  go_wp2_with fail
  refine (HSP.out _).mono ?_
  rintro e w3 ⟨v3, r3, rfl, h3, hb3⟩
  obtain ⟨a3, c3, rfl⟩ := h3.slice
  have H1 := Lib.hid h3; have LT1 := Lib.hid h3.ltB
  have HB := Lib.hid hb3
  clear h3 hb3
  go_wp2_with fail
  refine (HIM.out _).mono ?_
  rintro e w6 ⟨v6, r6, rfl, h6, hb6⟩
  obtain ⟨a6, c6, rfl⟩ := h6.slice
  have H2 := Lib.hid h6; have LT2 := Lib.hid h6.ltB
  have S3 := Lib.hid HB.out.size
  replace H1 := Lib.hid (H1.out.kept hb6); replace HB := Lib.hid (below_onto HB.out hb6)
  clear h6 hb6
  go_wp2_with fail
  refine (eqIntSS_any k HK.out _ _ _ _ SL _ _ HSE.out _ H2.out H1.out).mono ?_
  rintro e w7 ⟨rfl, hd7⟩
  replace H1 := Lib.hid (H1.out.kept hd7.below); replace H2 := Lib.hid (H2.out.kept hd7.below); replace HB := Lib.hid (below_onto HB.out hd7.below)
  clear hd7
  go_wp2_with fail
  refine (markSS_one k HK.out _ _ SL _ HSE.out _ H2.out).mono ?_
  rintro e wc ⟨rfl, hb, h2⟩
  replace H1 := Lib.hid (H1.out.other (fun g hg => hb.block g (H1.out.ltB g hg).2 (fun r hr e => by have := (LT2.out r.1 (.inr ⟨r, hr, rfl⟩)).1; have := (LT1.out g hg).2; omega))); replace H2 := Lib.hid h2
  replace HB := Lib.hid (HB.out.trans (hb.below (B := w.heap.size) (fun r hr => by have := (LT2.out r.1 (.inr ⟨r, hr, rfl⟩)).1; have := S3.out; omega) HB.out.size))
  clear hb h2
  obtain ⟨y, hy⟩ : ∃ y, 1 + SL.length * k = y := ⟨_, rfl⟩
  rw [hy]
  have HY := Lib.hid hy; clear hy
  have hyn : ¬ ((y : Int) < 0) := by omega
  have hyy : ((y : Int) != (y : Int)) = false := by simp
  go_wp2_with fail
  refine (heldSS_one k HK.out _ _ SL _ HSE.out _ H2.out).mono ?_
  rintro e w' ⟨rfl, rfl⟩
  rw [HY.out]
  go_wp2_with fail
  refine (HIM.out _).mono ?_
  rintro e w15 ⟨v15, r15, rfl, h15, hb15⟩
  obtain ⟨a15, c15, rfl⟩ := h15.slice
  have H5 := Lib.hid h15
  replace H1 := Lib.hid (H1.out.kept hb15); replace H2 := Lib.hid (H2.out.kept hb15); replace HB := Lib.hid (below_onto HB.out hb15)
  clear h15 hb15
  go_wp2_with fail
  refine (eqIntSS_any k HK.out _ _ _ _ SL _ _ HSE.out _ H5.out H1.out).mono ?_
  rintro e w16 ⟨rfl, hd16⟩
  replace H2 := Lib.hid (H2.out.kept hd16.below); replace HB := Lib.hid (below_onto HB.out hd16.below)
  clear hd16
  go_wp2_with fail
  refine (heldSS_one k HK.out _ _ SL _ HSE.out _ H2.out).mono ?_
  rintro e w' ⟨rfl, rfl⟩
  rw [HY.out]
  go_wp2_with fail
  go_ret
  exact ⟨rfl, HB.out⟩
end Go.Proofs.Ytglnefffkcillaa
