import Derived.Test.YtdlafcioopclhaaDoorFamT
namespace Go.Proofs.YtdlafcioopclhaaDoor
open Go.RowKit Go.Maps

set_option maxRecDepth 100000 in
set_option maxHeartbeats 1600000 in
theorem specWithSums_no (a : Option Addr) (n cap : Nat) (f : Nat → Int) (hf : famOkB n f = false) (w : World) (hi : Ints w a n f) :
    Calls Tryd.prog 6 #[.slice a n cap] w (GivesB [] false w) := by
  have HI := Lib.hid hi; have HF := Lib.hid hf; clear hi hf
  go_enter Tryd.func6, Tryd.ntmps6
  go_wp2_with fail
  refine (specFamilyOk_val _ n cap f false _ HF.out HI.out).mono ?_
  rintro e w1 ⟨rfl, hd1⟩
  have HST := Lib.hid (OwnX.made w1 w1.heap.size (Nat.le_refl _) 3)
  have HB := Lib.hid (below_onto hd1.below (alloc_below w1 (.cells #[] 3)))
  have HS := Lib.hid hd1.below.size
  clear hd1
  go_wp2_with fail
  go_ret2
  exact ⟨_, by first | rfl | trivial, HST.out.base HS.out, HB.out⟩

/-- a copy of a list, told by its list -/
theorem copied_own (w : World) (g o n cap : Nat) (f : Nat → Int) (hn : n ≤ 1000) (hr : Row w g o n f) (hg : g < w.heap.size) :
    ∃ v' w', (Builtin.append_ #[23, 23] 23 #[.slice (some ⟨w.heap.size, 0, none⟩) 0 0, .slice (some ⟨g, o, none⟩) n cap]).run Tryd.prog (w.alloc (.cells #[] 3)) = .ok v' w' ∧ OwnX w' w.heap.size 3 v' (rowL f n) ∧ Below w.heap.size w w' := by
  obtain ⟨i0, hii, hz0, hz1, hz2⟩ := info_parts Tryd.infoInt
  have hmade : (w.alloc (.cells #[] 3)).ownsRow w.heap.size 3 1 (.slice (some ⟨w.heap.size, 0, none⟩) 0 0) 0 [] := OwnX.made w _ (Nat.le_refl _) _
  have hab := alloc_below w (.cells #[] 3)
  obtain ⟨v', w1, hr1, hown', hgr, _, _⟩ := run_append_own_at (P := Tryd.prog) (w.alloc (.cells #[] 3)) w.heap.size 23 23 3 i0 (.int .i64 0) 1 8 Tryd.underlying23 hii hz0 hz1 hz2 rfl (by decide) _ _ _
    hmade ⟨g, o, none⟩ n cap (rowV f n) (by rw [rowV_len]; omega) (rowV_cells (hr.below hab hg)) (rowV_one f n) (by unfold maxLen; omega) (by omega) hab.size
  rw [Nat.zero_add, List.nil_append] at hown'
  exact ⟨v', w1, hr1, OwnX.rowV hown', hab.trans ((Upon.of_grown hgr).below (fun q hq => (World.ownsRow.lt hmade q hq).1) hab.size)⟩

set_option maxRecDepth 100000 in
set_option maxHeartbeats 6400000 in
theorem specWithSums_in (b o n cap : Nat) (f : Nat → Int) (hf : famOkB n f = true) (w : World) (hi : Ints w (some ⟨b, o, none⟩) n f) (hr : Row w b o n f) (hbl : b < w.heap.size) :
    Calls Tryd.prog 6 #[.slice (some ⟨b, o, none⟩) n cap] w (GivesB (doneL n f (FS n f)) (roomB n f (FS n f)) w) := by
  have hP := famOk_iff.1 hf
  have h7 := hP.hi
  have h1n := hP.lo
  have HP := Lib.hid hP
  have HI := Lib.hid hi; have HF := Lib.hid hf; have HR := Lib.hid hr
  clear hi hf hr hP
  go_enter Tryd.func6, Tryd.ntmps6
  go_wp2_with fail
  refine (specFamilyOk_val _ n cap f true _ HF.out HI.out).mono ?_
  rintro e w1 ⟨rfl, hd1⟩
  have HB1 := Lib.hid hd1.below
  have HR1 := Lib.hid (HR.out.below hd1.below hbl)
  have hbl1 : b < w1.heap.size := Nat.lt_of_lt_of_le hbl hd1.below.size
  obtain ⟨v2, w2, hr2, hown2, hb2⟩ := copied_own w1 b o n cap f (by omega) HR1.out hbl1
  have hst : OwnX w2 w1.heap.size 3 v2 (withL n f (FS n f) 1) := by
    rw [with_start (by unfold FS; rw [decide_eq_false (by omega)]; rfl)]
    exact hown2
  have HRUN := Lib.hid hr2
  obtain ⟨a2, c2, rfl⟩ := hown2.slice
  have HB2 := Lib.hid hb2
  clear hr2 hown2 hb2 hd1
  go_wp2_with (at_builtin; refine Lib.wpList_append_run _ rfl _ _ _ _ rfl _ _ rfl rfl _ _ HRUN.out ?_)
  go_loopw [4, 5] (fun v i wr => ∃ t : Nat, 1 ≤ t ∧ t ≤ 16 ∧ i = .int .i64 t ∧ OwnX wr w1.heap.size 3 v (withL n f (FS n f) t) ∧ Below w1.heap.size w1 wr) (fun _ i _ => 16 - (intOf i).toNat)
  case atStart => exact ⟨1, Nat.le_refl _, by omega, rfl, hst, HB2.out⟩
  case round =>
    clear hst
    obtain ⟨t, ht1, ht, rfl, hown, hbel⟩ := hrel
    obtain ⟨a9, c9, rfl⟩ := hown.slice
    obtain ⟨q, hq⟩ : ∃ q, (withL n f (FS n f) t).length = q := ⟨_, rfl⟩
    have hq1 : q ≤ 1000 := by rw [← hq]; have := with_small n f (FS n f) ht; omega
    have HQ := Lib.hid hq
    have HB := Lib.hid hbel; have HOW := Lib.hid hown
    rw [hq] at HOW
    rw [hq]
    have HRW := Lib.hid (HR1.out.below hbel hbl1)
    clear hown hbel hq
    by_cases hlt : t < 16
    · have hti : (t : Int) < 16 := by omega
      go_wp2_with fail
      obtain ⟨wo, rfl⟩ : ∃ wo : World, wo = wr := ⟨_, rfl⟩
      go_loopw [6, 7] (fun v i wr => ∃ k : Nat, k ≤ n ∧ i = .int .i64 k ∧ v = .int .i64 (gotK f t k) ∧ wo = wr) (fun _ i _ => n - (intOf i).toNat)
      case atStart => exact ⟨0, Nat.zero_le _, rfl, rfl, rfl⟩
      case round =>
        obtain ⟨k, hk, rfl, rfl, rfl⟩ := hrel
        by_cases hkn : k < n
        · have hki : (k : Int) < (n : Int) := by omega
          have hc := HRW.out k hkn
          have hew := or_within (f k) (t : Int) (by unfold I64; omega)
          cases hg : withinB (f k) (t : Int) with
          | true =>
            have HS := Lib.hid (got_yes hg)
            rw [hg] at hew; clear hg
            go_wp2_with fail
            go_roundw
            case rel => exact ⟨k + 1, by omega, by go_num, by rw [HS.out], by first | rfl | trivial⟩
            case measure => simp [intOf]; omega
          | false =>
            have HS := Lib.hid (got_no hg)
            rw [hg] at hew; clear hg
            go_wp2_with fail
            go_roundw
            case rel => exact ⟨k + 1, by omega, by go_num, by rw [HS.out], by first | rfl | trivial⟩
            case measure => simp [intOf]; omega
        · have hki : ¬ (k : Int) < (n : Int) := by omega
          have hkn2 : k = n := by omega
          subst hkn2
          have HFS := Lib.hid (show FS k f t = (gotK f (t : Int) k == (t : Int)) by unfold FS; rw [decide_eq_true ⟨ht1, hlt⟩, Bool.true_and])
          have HBS := Lib.hid HB.out.size
          cases hg : (gotK f (t : Int) k == (t : Int)) with
          | false =>
            have HS := Lib.hid (show withL k f (FS k f) (t + 1) = withL k f (FS k f) t by
              unfold withL; rw [fam_no (by unfold newS; rw [HFS.out, hg]; rfl)])
            go_wp2_with fail
            go_roundw
            case rel => exact ⟨t + 1, by omega, by omega, by go_num, by rw [HS.out]; exact HOW.out, HB.out⟩
            case measure => simp [intOf]; omega
          | true =>
            cases hs : memS k f t with
            | true =>
              have HS := Lib.hid (show withL k f (FS k f) (t + 1) = withL k f (FS k f) t by
                unfold withL; rw [fam_no (by unfold newS; rw [hs]; simp)])
              have HSM := Lib.hid hs; clear hs
              go_wp2_with fail
              refine (l7Put_old w1.heap.size a9 q c9 _ _ HQ.out hq1 _ HOW.out (with_in HSM.out t)).mono ?_
              rintro e w3 ⟨rfl, hd3⟩
              have HD3 := Lib.hid hd3; clear hd3
              go_wp2_with fail
              go_roundw
              case rel => exact ⟨t + 1, by omega, by omega, by go_num, by rw [HS.out]; exact HOW.out.kept HD3.out.below, below_onto HB.out HD3.out.below⟩
              case measure => simp [intOf]; omega
            | false =>
              have HS := Lib.hid (show withL k f (FS k f) (t + 1) = withL k f (FS k f) t ++ [(t : Int)] by
                unfold withL; rw [fam_yes (by unfold newS; rw [HFS.out, hg, hs]; rfl), List.append_assoc])
              have HSM := Lib.hid hs; clear hs
              go_wp2_with fail
              refine (l7Put_new w1.heap.size a9 q c9 _ _ HQ.out hq1 _ HBS.out HOW.out (with_out HSM.out)).mono ?_
              rintro e w3 ⟨v3, rfl, ho3, hb3⟩
              have HO3 := Lib.hid ho3; have HB3 := Lib.hid hb3; clear ho3 hb3
              go_wp2_with fail
              go_roundw
              case rel => exact ⟨t + 1, by omega, by omega, by go_num, by rw [HS.out]; exact HO3.out, HB.out.trans HB3.out⟩
              case measure => simp [intOf]; omega
    · have hti : ¬ (t : Int) < 16 := by omega
      have ht16 : t = 16 := by omega
      subst ht16
      have HOF := Lib.hid (HOW.out.base HB1.out.size)
      have HBF := Lib.hid (below_onto HB1.out HB.out)
      by_cases hq7 : q ≤ 7
      · have hrm : roomB n f (FS n f) = true := by
          unfold roomB; rw [HF.out, HQ.out, decide_eq_true hq7]; rfl
        have HRM := Lib.hid hrm
        have HDL := Lib.hid (show doneL n f (FS n f) = withL n f (FS n f) 16 by unfold doneL; rw [if_pos hrm])
        have hqi : ¬ (q : Int) > 7 := by omega
        clear hrm
        go_wp2_with fail
        go_ret2
        rw [HDL.out, HRM.out]
        exact ⟨_, by first | rfl | trivial, HOF.out, HBF.out⟩
      · have hrm : roomB n f (FS n f) = false := by
          unfold roomB; rw [HF.out, HQ.out, decide_eq_false hq7]; rfl
        have HRM := Lib.hid hrm
        have HDL := Lib.hid (show doneL n f (FS n f) = [] by unfold doneL; rw [if_neg (by rw [hrm]; decide)])
        have hqi : (q : Int) > 7 := by omega
        have HMD := Lib.hid (OwnX.made wr w.heap.size HBF.out.size 3)
        have HBA := Lib.hid (below_onto HBF.out (alloc_below wr (.cells #[] 3)))
        clear hrm
        go_wp2_with fail
        go_ret2
        rw [HDL.out, HRM.out]
        exact ⟨_, by first | rfl | trivial, HMD.out, HBA.out⟩

theorem specWithSums_any (a : Option Addr) (n cap : Nat) (f : Nat → Int) (w : World) (hi : Ints w a n f) :
    Calls Tryd.prog 6 #[.slice a n cap] w (GivesB (doneL n f (FS n f)) (roomB n f (FS n f)) w) := by
  cases hf : famOkB n f with
  | true =>
    obtain ⟨b, o, rfl, hbl, hrow⟩ := hi.row (famOk_iff.1 hf).lo
    exact specWithSums_in b o n cap f hf w hi hrow hbl
  | false =>
    have hrm : roomB n f (FS n f) = false := by unfold roomB; rw [hf]; rfl
    rw [show doneL n f (FS n f) = [] by unfold doneL; rw [if_neg (by rw [hrm]; decide)], hrm]
    exact specWithSums_no a n cap f hf w hi
end Go.Proofs.YtdlafcioopclhaaDoor
