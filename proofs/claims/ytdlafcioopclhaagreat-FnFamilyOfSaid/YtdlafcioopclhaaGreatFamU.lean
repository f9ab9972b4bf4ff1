import Derived.Test.YtdlafcioopclhaaGreatFamT
namespace Go.Proofs.YtdlafcioopclhaaGreat
open Go.RowKit Go.Maps

set_option maxRecDepth 100000 in
set_option maxHeartbeats 1600000 in
theorem specWithPoints_no (a : Option Addr) (n cap : Nat) (f : Nat → Int) (hf : famOkB n f = false) (w : World) (hi : Ints w a n f) :
    Calls Tryz.prog 15 #[.slice a n cap] w (GivesB [] false w) := by
  have HI := Lib.hid hi; have HF := Lib.hid hf; clear hi hf
  go_enter Tryz.func15, Tryz.ntmps15
  go_wp2_with fail
  refine (specFamilyOk_val _ n cap f false _ HF.out HI.out).mono ?_
  rintro e w1 ⟨rfl, hd1⟩
  have HST := Lib.hid (OwnX.made w1 w1.heap.size (Nat.le_refl _) 3)
  have HB := Lib.hid (below_onto hd1.below (alloc_below w1 (.cells #[] 3)))
  have HS := Lib.hid hd1.below.size
  clear hd1
  go_wp2_with fail
  go_ret2
  exact ⟨_, by first | rfl | trivial, HST.out.base HS.out, HB.out⟩

/-- a copy of a list, told by its list -/
theorem copied_own (w : World) (g o n cap : Nat) (f : Nat → Int) (hn : n ≤ 1000) (hr : Row w g o n f) (hg : g < w.heap.size) :
    ∃ v' w', (Builtin.append_ #[23, 23] 23 #[.slice (some ⟨w.heap.size, 0, none⟩) 0 0, .slice (some ⟨g, o, none⟩) n cap]).run Tryz.prog (w.alloc (.cells #[] 3)) = .ok v' w' ∧ OwnX w' w.heap.size 3 v' (rowL f n) ∧ Below w.heap.size w w' := by
  obtain ⟨i0, hii, hz0, hz1, hz2⟩ := info_parts Tryz.infoInt
  have hmade : (w.alloc (.cells #[] 3)).ownsRow w.heap.size 3 1 (.slice (some ⟨w.heap.size, 0, none⟩) 0 0) 0 [] := OwnX.made w _ (Nat.le_refl _) _
  have hab := alloc_below w (.cells #[] 3)
  obtain ⟨v', w1, hr1, hown', hgr, _, _⟩ := run_append_own_at (P := Tryz.prog) (w.alloc (.cells #[] 3)) w.heap.size 23 23 3 i0 (.int .i64 0) 1 8 Tryz.underlying23 hii hz0 hz1 hz2 rfl (by decide) _ _ _
    hmade ⟨g, o, none⟩ n cap (rowV f n) (by rw [rowV_len]; omega) (rowV_cells (hr.below hab hg)) (rowV_one f n) (by unfold maxLen; omega) (by omega) hab.size
  rw [Nat.zero_add, List.nil_append] at hown'
  exact ⟨v', w1, hr1, OwnX.rowV hown', hab.trans ((Upon.of_grown hgr).below (fun q hq => (World.ownsRow.lt hmade q hq).1) hab.size)⟩

set_option maxRecDepth 100000 in
set_option maxHeartbeats 6400000 in
theorem specWithPoints_in (b o n cap : Nat) (f : Nat → Int) (hf : famOkB n f = true) (w : World) (hi : Ints w (some ⟨b, o, none⟩) n f) (hr : Row w b o n f) (hbl : b < w.heap.size) :
    Calls Tryz.prog 15 #[.slice (some ⟨b, o, none⟩) n cap] w (GivesB (doneL n f (FP (memS n f))) (roomB n f (FP (memS n f))) w) := by
  have hP := famOk_iff.1 hf
  have h7 := hP.hi
  have h1n := hP.lo
  have HP := Lib.hid hP
  have HI := Lib.hid hi; have HF := Lib.hid hf; have HR := Lib.hid hr
  clear hi hf hr hP
  go_enter Tryz.func15, Tryz.ntmps15
  go_wp2_with fail
  refine (specFamilyOk_val _ n cap f true _ HF.out HI.out).mono ?_
  rintro e w1 ⟨rfl, hd1⟩
  have HB1 := Lib.hid hd1.below
  have HR1 := Lib.hid (HR.out.below hd1.below hbl)
  have hbl1 : b < w1.heap.size := Nat.lt_of_lt_of_le hbl hd1.below.size
  clear hd1
  go_wp2_with fail
  go_loopw [4, 5] (fun v i wr => ∃ k : Nat, k ≤ n ∧ i = .int .i64 k ∧ v = .int .i64 (allK f k) ∧ w1 = wr) (fun _ i _ => n - (intOf i).toNat)
  case atStart => exact ⟨0, Nat.zero_le _, rfl, rfl, rfl⟩
  case round =>
    obtain ⟨k, hk, rfl, rfl, rfl⟩ := hrel
    by_cases hlt : k < n
    · have hki : (k : Int) < (n : Int) := by omega
      have hc := HR1.out k hlt
      have HS := Lib.hid (all_succ f k)
      go_wp2_with fail
      go_roundw
      case rel => exact ⟨k + 1, by omega, by go_num, by rw [HS.out], by first | rfl | trivial⟩
      case measure => simp [intOf]; omega
    · have hki : ¬ (k : Int) < (n : Int) := by omega
      have hkn : k = n := by omega
      subst hkn
      obtain ⟨v2, w2, hr2, hown2, hb2⟩ := copied_own w1 b o k cap f (by omega) HR1.out hbl1
      have hst : OwnX w2 w1.heap.size 3 v2 (withL k f (FP (memS k f)) (2 ^ 0)) := by
        rw [show (2 : Nat) ^ 0 = 1 from rfl, with_start (by
          rw [Bool.eq_false_iff]; intro h
          rcases FP_iff.1 h with h | ⟨h, _⟩
          · have := memS_rng HP.out h; omega
          · cases h)]
        exact hown2
      have HRUN := Lib.hid hr2
      have hA0 := (all_rng HP.out k (Nat.le_refl _)).1
      obtain ⟨AL, hAL⟩ : ∃ AL, allK f k = AL := ⟨_, rfl⟩
      have HAL := Lib.hid hAL
      rw [hAL] at hA0 ⊢
      obtain ⟨a2, c2, rfl⟩ := hown2.slice
      have hst2 := hst
      have HB2 := Lib.hid hb2
      clear hr2 hown2 hb2 hAL hst
      go_wp2_with (at_builtin; refine Lib.wpList_append_run _ rfl _ _ _ _ rfl _ _ rfl rfl _ _ HRUN.out ?_)
      go_loopw [6, 7] (fun v i wr => ∃ p : Nat, p ≤ 4 ∧ i = .int .i64 p ∧ OwnX wr w1.heap.size 3 v (withL k f (FP (memS k f)) (2 ^ p)) ∧ Below w1.heap.size w1 wr) (fun _ i _ => 4 - (intOf i).toNat)
      case atStart => exact ⟨0, by omega, rfl, hst2, HB2.out⟩
      case round =>
        clear hst2
        obtain ⟨p, hp, rfl, hown, hbel⟩ := hrel
        obtain ⟨a9, c9, rfl⟩ := hown.slice
        obtain ⟨q, hq⟩ : ∃ q, (withL k f (FP (memS k f)) (2 ^ p)).length = q := ⟨_, rfl⟩
        have hq1 : q ≤ 1000 := by
          rw [← hq]
          have : (2 : Nat) ^ p ≤ 2 ^ 4 := Nat.pow_le_pow_right (by omega) hp
          have := with_small k f (FP (memS k f)) (k := 2 ^ p) (by simpa using this)
          omega
        have HQ := Lib.hid hq
        have HB := Lib.hid hbel; have HOW := Lib.hid hown
        rw [hq] at HOW
        rw [hq]
        clear hown hbel hq
        by_cases hlt : p < 4
        · have hpi : (p : Int) < 4 := by omega
          have ⟨hp1, hp2⟩ := pow20i p hlt
          obtain ⟨m, hm, hm1, hm16, _, hm2⟩ := pow4 hlt
          have HT := Lib.hid (pts_turn HP.out hlt hm)
          have HNX := Lib.hid (pts_next k f hlt hm2)
          have HM2 := Lib.hid hm2
          have HM := Lib.hid hm
          rw [HAL.out] at HT
          rw [← hm2] at HQ HOW
          clear hm hm2
          cases hg : hasB AL p with
          | false =>
            have HS := Lib.hid (show withL k f (FP (memS k f)) (2 ^ (p + 1)) = withL k f (FP (memS k f)) m by rw [HNX.out, HT.out, hg]; rfl)
            have HG := Lib.hid hg; clear hg
            go_wp2_with fail
            refine (l1Has_val _ p false _ HG.out (by omega) hA0).mono ?_
            rintro e w' ⟨rfl, rfl⟩
            go_wp2_with fail
            go_roundw
            case rel => exact ⟨p + 1, by omega, by go_num, by rw [HS.out]; exact HOW.out, HB.out⟩
            case measure => simp [intOf]; omega
          | true =>
            cases hs : memS k f m with
            | true =>
              have HS := Lib.hid (show withL k f (FP (memS k f)) (2 ^ (p + 1)) = withL k f (FP (memS k f)) m by rw [HNX.out, HT.out, hg, hs]; rfl)
              have HG := Lib.hid hg; have HSM := Lib.hid hs; clear hg hs
              go_wp2_with fail
              refine (l1Has_val _ p true _ HG.out (by omega) hA0).mono ?_
              rintro e w' ⟨rfl, rfl⟩
              go_wp2_with fail
              refine (l7Put_old w1.heap.size a9 q c9 _ _ HQ.out hq1 _ HOW.out (by rw [HM.out]; exact with_in HSM.out m)).mono ?_
              rintro e w3 ⟨rfl, hd3⟩
              have HD3 := Lib.hid hd3; clear hd3
              go_wp2_with fail
              go_roundw
              case rel => exact ⟨p + 1, by omega, by go_num, by rw [HS.out]; exact HOW.out.kept HD3.out.below, below_onto HB.out HD3.out.below⟩
              case measure => simp [intOf]; omega
            | false =>
              have HS := Lib.hid (show withL k f (FP (memS k f)) (2 ^ (p + 1)) = withL k f (FP (memS k f)) m ++ [(2 : Int) ^ p] by rw [HNX.out, HT.out, hg, hs, HM.out]; rfl)
              have HG := Lib.hid hg; have HSM := Lib.hid hs; clear hg hs
              have HBS := Lib.hid HB.out.size
              go_wp2_with fail
              refine (l1Has_val _ p true _ HG.out (by omega) hA0).mono ?_
              rintro e w' ⟨rfl, rfl⟩
              go_wp2_with fail
              refine (l7Put_new w1.heap.size a9 q c9 _ _ HQ.out hq1 _ HBS.out HOW.out (by rw [HM.out]; exact with_out HSM.out)).mono ?_
              rintro e w3 ⟨v3, rfl, ho3, hb3⟩
              have HO3 := Lib.hid ho3; have HB3 := Lib.hid hb3; clear ho3 hb3
              go_wp2_with fail
              go_roundw
              case rel => exact ⟨p + 1, by omega, by go_num, by rw [HS.out]; exact HO3.out, HB.out.trans HB3.out⟩
              case measure => simp [intOf]; omega
        · have hpi : ¬ (p : Int) < 4 := by omega
          have hp4 : p = 4 := by omega
          subst hp4
          have HLAST := Lib.hid (show (2 : Nat) ^ 4 = 16 from rfl)
          rw [HLAST.out] at HQ HOW
          have HOF := Lib.hid (HOW.out.base HB1.out.size)
          have HBF := Lib.hid (below_onto HB1.out HB.out)
          by_cases hq7 : q ≤ 7
          · have hrm : roomB k f (FP (memS k f)) = true := by
              unfold roomB; rw [HF.out, HQ.out, decide_eq_true hq7]; rfl
            have HRM := Lib.hid hrm
            have HDL := Lib.hid (show doneL k f (FP (memS k f)) = withL k f (FP (memS k f)) 16 by unfold doneL; rw [if_pos hrm])
            have hqi : ¬ (q : Int) > 7 := by omega
            clear hrm
            go_wp2_with fail
            go_ret2
            rw [HDL.out, HRM.out]
            exact ⟨_, by first | rfl | trivial, HOF.out, HBF.out⟩
          · have hrm : roomB k f (FP (memS k f)) = false := by
              unfold roomB; rw [HF.out, HQ.out, decide_eq_false hq7]; rfl
            have HRM := Lib.hid hrm
            have HDL := Lib.hid (show doneL k f (FP (memS k f)) = [] by unfold doneL; rw [if_neg (by rw [hrm]; decide)])
            have hqi : (q : Int) > 7 := by omega
            have HMD := Lib.hid (OwnX.made wr w.heap.size HBF.out.size 3)
            have HBA := Lib.hid (below_onto HBF.out (alloc_below wr (.cells #[] 3)))
            clear hrm
            go_wp2_with fail
            go_ret2
            rw [HDL.out, HRM.out]
            exact ⟨_, by first | rfl | trivial, HMD.out, HBA.out⟩

theorem specWithPoints_any (a : Option Addr) (n cap : Nat) (f : Nat → Int) (w : World) (hi : Ints w a n f) :
    Calls Tryz.prog 15 #[.slice a n cap] w (GivesB (doneL n f (FP (memS n f))) (roomB n f (FP (memS n f))) w) := by
  cases hf : famOkB n f with
  | true =>
    obtain ⟨b, o, rfl, hbl, hrow⟩ := hi.row (famOk_iff.1 hf).lo
    exact specWithPoints_in b o n cap f hf w hi hrow hbl
  | false =>
    have hrm : roomB n f (FP (memS n f)) = false := by unfold roomB; rw [hf]; rfl
    rw [show doneL n f (FP (memS n f)) = [] by unfold doneL; rw [if_neg (by rw [hrm]; decide)], hrm]
    exact specWithPoints_no a n cap f hf w hi

end Go.Proofs.YtdlafcioopclhaaGreat
