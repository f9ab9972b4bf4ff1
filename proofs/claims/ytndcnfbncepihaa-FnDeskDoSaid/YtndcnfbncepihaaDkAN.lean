import Derived.Test.YtndcnfbncepihaaDkAM
import Derived.Test.YtndcnfbncepihaaFamW
namespace Go.Proofs.Ytndcnfbncepihaa
set_option linter.unusedVariables false
set_option linter.unusedSimpArgs false
open Go.RowKit Go.Maps

theorem ints_own9 {w : World} {B n c : Nat} {g : Option Addr} {F : Nat → Int} (h : OwnX w B 3 (.slice g (rowL F n).length c) (rowL F n)) (hn : n ≤ 1000) (h64 : ∀ i, I64 (F i)) : Ints w g n F := by
  have hi := ints_own h (by rw [rowL_len]; omega) (fun y hy => by
    obtain ⟨i, hi, rfl⟩ := List.getElem_of_mem hy
    have e := rowL_getD F n i (by rw [rowL_len] at hi; exact hi)
    rw [List.getD_eq_getElem?_getD, List.getElem?_eq_getElem hi] at e
    have e : (rowL F n)[i] = F i := e
    rw [e]; exact h64 i)
  rw [rowL_len] at hi
  exact ⟨⟨hi.1.1, fun i _ => h64 i⟩, hi.2.imp id (fun ⟨b, o, e, hl, hr⟩ => ⟨b, o, e, hl, hr.congr (fun i hi => rowL_getD F n i hi)⟩)⟩
theorem memS_rowL (m : Nat) (g : Nat → Int) (t : Nat) : memS (rowL g m).length (fun i => (rowL g m).getD i 0) t = memS m g t := by
  rw [rowL_len, Bool.eq_iff_iff, memS_iff, memS_iff]
  constructor
  · rintro ⟨k, hk, e⟩
    exact ⟨k, hk, by rw [rowL_getD _ _ _ hk] at e; exact e⟩
  · rintro ⟨k, hk, e⟩
    exact ⟨k, hk, by rw [rowL_getD _ _ _ hk]; exact e⟩
/-- behind points the world is strong -/
theorem pts_strong {xs : List Int} {x : Int} (h : famL (mdL xs 2 x) = true) : strongB (mdL xs 2 x).length (wfF (mdL xs 2 x).length (fun i => (mdL xs 2 x).getD i 0)) = true := by
  have e : mdL xs 2 x = doneL xs.length (fun i => xs.getD i 0) (FP (memS xs.length (fun i => xs.getD i 0))) := by
    unfold mdL
    rw [if_neg (by decide), if_neg (by decide), if_pos rfl]
  have hr : roomB xs.length (fun i => xs.getD i 0) (FP (memS xs.length (fun i => xs.getD i 0))) = true := by
    cases hr : roomB xs.length (fun i => xs.getD i 0) (FP (memS xs.length (fun i => xs.getD i 0))) with
    | true => rfl
    | false =>
      have e0 : mdL xs 2 x = [] := by rw [e]; unfold doneL; rw [hr]; rfl
      rw [e0, famL_nil] at h
      cases h
  obtain ⟨hPf, M, G, hdl, hPG, hmM, hmem, hhead⟩ := room_fam hr (fun hf => ⟨fun t ht => FP_iff.2 (.inl ht), (clos_pts (fun t ht => memS_rng (famOk_iff.1 hf) ht)).pos⟩)
  refine point_strong (famL_P h) (FP_closed hPf (fun t => ?_))
  rw [e, hdl, memS_rowL]
  exact hmem t
theorem do_strong {xs : List Int} {L : List (List Int)} {x : Int} (hd : deskB xs L = true) (h : dkB xs L 2 x = true) : famOkB (dkX xs L 2 x).length (fun i => (dkX xs L 2 x).getD i 0) = true ∧ strongB (dkX xs L 2 x).length (wfF (dkX xs L 2 x).length (fun i => (dkX xs L 2 x).getD i 0)) = true := by
  rw [dkB_ch hd (by decide)] at h
  rw [(dk_ch hd (by decide) h).1]
  have hf := (chB_iff.1 h).2.1
  exact ⟨hf, pts_strong hf⟩
theorem do_desk {xs : List Int} {L : List (List Int)} {k x : Int} (h : dkB xs L k x = true) : deskB xs L = true := by
  cases hd : deskB xs L with
  | true => rfl
  | false => rw [(dk_none hd).1] at h; cases h

set_option maxRecDepth 100000 in
set_option maxHeartbeats 6400000 in
theorem lawDeskDo (a : Option Addr) (n cap : Nat) (w : World) (h : BytesIn w a n cap) :
    Calls Try.prog 5 #[.slice a n cap] w (TrueEnd w) := by
  have hlen := h.len
  have H := Lib.hid h; clear h
  by_cases hn : 1048576 < n
  · go_enter Try.func5, Try.ntmps5
    go_wp2_with fail
    go_ret
    exact ⟨rfl, Below.refl _ _⟩
  · go_enter Try.func5, Try.ntmps5
    go_wp2_with fail
    refine (DrawDeskDo_any _ _ _ _ H.out).mono ?_
    rintro e w1 ⟨p1, e1, p2, e2, xs, L, k, x, rfl, hd, hk, hx, hb1⟩
    have q1 := alloc_below w1 (.cells #[.slice p1 xs.length e1, .slice p2 L.length e2] 26)
    have q2 := alloc_below (w1.alloc (.cells #[.slice p1 xs.length e1, .slice p2 L.length e2] 26)) (.cells #[.int .i64 k, .int .i64 x] 38)
    have HV := Lib.hid ((VarD.new hd).kept q2)
    have hbd := Blk2.new (w1.alloc (.cells #[.slice p1 xs.length e1, .slice p2 L.length e2] 26)) 38 (.int .i64 k) (.int .i64 x)
    rw [alloc_size] at hbd
    have HD := Lib.hid hbd
    have HB := Lib.hid (below_onto hb1 (below_onto q1 q2))
    have HK := Lib.hid hk; have HX := Lib.hid hx
    obtain ⟨w2, hw2⟩ : ∃ w2, (w1.alloc (.cells #[.slice p1 xs.length e1, .slice p2 L.length e2] 26)).alloc (.cells #[.int .i64 k, .int .i64 x] 38) = w2 := ⟨_, rfl⟩
    rw [hw2] at HV HB HD
    have ha0 := HV.out.blk.cell.1; have ha1 := HV.out.blk.cell.2; have hd0 := HD.out.cell.1; have hd1 := HD.out.cell.2
    clear H hb1 hd hk hx q1 q2 hbd
    go_wp2_with fail
    clear hw2
    obtain ⟨A, hA⟩ : ∃ A, w1.heap.size = A := ⟨_, rfl⟩
    rw [hA] at HV HD ha0 ha1 hd0 hd1 ⊢
    clear hA
    refine (DeskDo_any _ xs L k x HX.out _ HV.out.d).mono ?_
    rintro e w3 ⟨v1, v2, rfl, hg⟩
    obtain ⟨ok, hok⟩ : ∃ ok, dkB xs L k x = ok := ⟨_, rfl⟩
    obtain ⟨ys, hys⟩ : ∃ ys, dkX xs L k x = ys := ⟨_, rfl⟩
    obtain ⟨M, hM⟩ : ∃ M, dkL xs L k x = M := ⟨_, rfl⟩
    have hkd := okD_do xs L k x
    rw [hys, hM] at hg hkd
    rw [hok]
    have HOK := Lib.hid hok; have HYS := Lib.hid hys; have HMM := Lib.hid hM; have HKD := Lib.hid hkd
    clear hok hys hM hkd
    obtain ⟨p3, e3, p4, e4, rfl, rfl, hd, hb⟩ := HKD.out.gives hg
    have hal := alloc_below w3 (.cells #[.slice p3 ys.length e3, .slice p4 M.length e4] 26)
    have HS := Lib.hid (VarD.new hd)
    replace hb := below_onto hb hal
    replace HV := Lib.hid (HV.out.kept hb); replace HD := Lib.hid (HD.out.kept hb HD.out.lt); replace HB := Lib.hid (below_onto HB.out hb)
    obtain ⟨w4, hw4⟩ : ∃ w4, w3.alloc (.cells #[.slice p3 ys.length e3, .slice p4 M.length e4] 26) = w4 := ⟨_, rfl⟩
    obtain ⟨S, hS⟩ : ∃ S, w3.heap.size = S := ⟨_, rfl⟩
    rw [hw4] at HV HB HD HS
    rw [hS] at HS
    clear hg hd hb hal ha0 ha1 hd0 hd1
    have ha0 := HV.out.blk.cell.1; have ha1 := HV.out.blk.cell.2; have hd0 := HD.out.cell.1; have hd1 := HD.out.cell.2
    go_wp2_with fail
    clear hw4 hS
    refine (specDeskDo_any _ xs L k x HX.out _ HV.out.d).mono ?_
    rintro e w5 ⟨v3, v4, rfl, hg⟩
    rw [HYS.out, HMM.out] at hg
    rw [HOK.out]
    obtain ⟨p5, e5, p6, e6, rfl, rfl, hd, hb⟩ := HKD.out.gives hg.gives
    have hal := alloc_below w5 (.cells #[.slice p5 ys.length e5, .slice p6 M.length e6] 26)
    have HT := Lib.hid (VarD.new hd)
    replace hb := below_onto hb hal
    replace HV := Lib.hid (HV.out.kept hb); replace HS := Lib.hid (HS.out.kept hb); replace HD := Lib.hid (HD.out.kept hb HD.out.lt); replace HB := Lib.hid (below_onto HB.out hb)
    obtain ⟨w6, hw6⟩ : ∃ w6, w5.alloc (.cells #[.slice p5 ys.length e5, .slice p6 M.length e6] 26) = w6 := ⟨_, rfl⟩
    obtain ⟨T, hT⟩ : ∃ T, w5.heap.size = T := ⟨_, rfl⟩
    rw [hw6] at HV HS HB HD HT
    rw [hT] at HT
    clear hg hd hb hal ha0 ha1 hd0 hd1
    have hs0 := HS.out.blk.cell.1; have hs1 := HS.out.blk.cell.2; have ht0 := HT.out.blk.cell.1; have ht1 := HT.out.blk.cell.2
    go_wp2_with fail
    clear hw6 hT
    refine (HKD.out.nine.same _ _ _ HS.out.d HT.out.d).mono ?_
    rintro e w7 ⟨rfl, hb⟩
    replace HV := Lib.hid (HV.out.kept hb); replace HS := Lib.hid (HS.out.kept hb); replace HD := Lib.hid (HD.out.kept hb HD.out.lt); replace HB := Lib.hid (below_onto HB.out hb)
    clear hb hs0 hs1 ht0 ht1 HT
    cases ok with
    | false =>
      have hne : (false != false) = false := rfl
      have ha0 := HV.out.blk.cell.1; have ha1 := HV.out.blk.cell.2; have hs0 := HS.out.blk.cell.1; have hs1 := HS.out.blk.cell.2
      go_wp2_with fail
      cases hdk : deskB xs L with
      | true =>
        obtain ⟨f1, f2⟩ := dk_no HOK.out hdk
        rw [HYS.out] at f1; rw [HMM.out] at f2
        subst f1; subst f2
        refine (HKD.out.nine.same _ _ _ HS.out.d HV.out.d).mono ?_
        rintro e w8 ⟨rfl, hb⟩
        replace HB := Lib.hid (below_onto HB.out hb)
        clear hb ha0 ha1 hs0 hs1
        go_wp2_with fail
        refine (alive_any _).mono ?_
        rintro e w20 ⟨rfl, hb⟩
        replace HB := Lib.hid (below_onto HB.out hb); clear hb
        go_wp2_with fail
        go_ret
        exact ⟨rfl, HB.out⟩
      | false =>
        obtain ⟨_, f1, f2⟩ := dk_none (k := k) (x := x) hdk
        rw [HYS.out] at f1; rw [HMM.out] at f2
        subst f1; subst f2
        have HDK := Lib.hid hdk
        clear hdk
        refine (sameDesk_zero _ _ xs L _ HS.out.d HV.out.d).mono ?_
        rintro e w8 ⟨⟨o, rfl⟩, hb⟩
        replace HV := Lib.hid (HV.out.kept hb); replace HB := Lib.hid (below_onto HB.out hb)
        clear hb ha0 ha1 hs0 hs1
        cases o with
        | true =>
          go_wp2_with fail
          refine (alive_any _).mono ?_
          rintro e w20 ⟨rfl, hb⟩
          replace HB := Lib.hid (below_onto HB.out hb); clear hb
          go_wp2_with fail
          go_ret
          exact ⟨rfl, HB.out⟩
        | false =>
          have ha0 := HV.out.blk.cell.1; have ha1 := HV.out.blk.cell.2
          go_wp2_with fail
          refine (DeskOk_any _ xs L _ HV.out.d).mono ?_
          rintro e w9 ⟨rfl, hb⟩
          rw [HDK.out]
          replace HB := Lib.hid (below_onto HB.out hb)
          clear hb ha0 ha1
          go_wp2_with fail
          refine (alive_any _).mono ?_
          rintro e w20 ⟨rfl, hb⟩
          replace HB := Lib.hid (below_onto HB.out hb); clear hb
          go_wp2_with fail
          go_ret
          exact ⟨rfl, HB.out⟩
    | true =>
      have hne : (true != true) = false := rfl
      have HDK := Lib.hid (do_desk HOK.out)
      have hs0 := HS.out.blk.cell.1; have hs1 := HS.out.blk.cell.2
      go_wp2_with fail
      refine (DeskDo_any _ ys M 4 0 (by unfold I64; omega) _ HS.out.d).mono ?_
      rintro e w8 ⟨v5, v6, rfl, hg⟩
      obtain ⟨zs, hzs⟩ : ∃ zs, dkX ys M 4 0 = zs := ⟨_, rfl⟩
      obtain ⟨N, hN⟩ : ∃ N, dkL ys M 4 0 = N := ⟨_, rfl⟩
      obtain ⟨can, hcan⟩ : ∃ can, dkB ys M 4 0 = can := ⟨_, rfl⟩
      have hkz := okD_do ys M 4 0
      rw [hzs, hN] at hg hkz
      rw [hcan]
      have HCAN := Lib.hid hcan; have HZS := Lib.hid hzs; have HNN := Lib.hid hN; have HKZ := Lib.hid hkz
      clear hcan hzs hN hkz
      obtain ⟨p7, e7, p8, e8, rfl, rfl, hd, hb⟩ := HKZ.out.gives hg
      have hal := alloc_below w8 (.cells #[.slice p7 zs.length e7, .slice p8 N.length e8] 26)
      have HU := Lib.hid (VarD.new hd)
      replace hb := below_onto hb hal
      replace HV := Lib.hid (HV.out.kept hb); replace HS := Lib.hid (HS.out.kept hb); replace HD := Lib.hid (HD.out.kept hb HD.out.lt); replace HB := Lib.hid (below_onto HB.out hb)
      obtain ⟨w9, hw9⟩ : ∃ w9, w8.alloc (.cells #[.slice p7 zs.length e7, .slice p8 N.length e8] 26) = w9 := ⟨_, rfl⟩
      obtain ⟨U, hU⟩ : ∃ U, w8.heap.size = U := ⟨_, rfl⟩
      rw [hw9] at HV HS HB HD HU
      rw [hU] at HU
      clear hg hd hb hal hs0 hs1
      have hs0 := HS.out.blk.cell.1; have hs1 := HS.out.blk.cell.2
      go_wp2_with fail
      clear hw9 hU
      refine (DeskOk_any _ ys M _ HS.out.d).mono ?_
      rintro e w10 ⟨rfl, hb⟩
      have hdy : deskB ys M = true := by rw [← HYS.out, ← HMM.out]; exact dk_desk HDK.out
      rw [hdy]
      replace HV := Lib.hid (HV.out.kept hb); replace HS := Lib.hid (HS.out.kept hb); replace HU := Lib.hid (HU.out.kept hb); replace HD := Lib.hid (HD.out.kept hb HD.out.lt); replace HB := Lib.hid (below_onto HB.out hb)
      clear hb hs0 hs1 hdy
      have ha0 := HV.out.blk.cell.1; have ha1 := HV.out.blk.cell.2; have hs0 := HS.out.blk.cell.1; have hs1 := HS.out.blk.cell.2; have hu0 := HU.out.blk.cell.1; have hu1 := HU.out.blk.cell.2; have hd0 := HD.out.cell.1; have hd1 := HD.out.cell.2
      by_cases hk4 : k = 4
      · subst hk4
        go_wp2_with fail
        go_ret
        exact ⟨rfl, HB.out⟩
      · have hk4b : (k == 4) = false := by simpa using hk4
        by_cases hl8 : 8 ≤ L.length
        · have hl8b : decide ((8 : Int) ≤ (L.length : Int)) = true := decide_eq_true (by omega)
          by_cases hk2 : k = 2
          · subst hk2
            go_wp2_with fail
            have hst := do_strong HDK.out HOK.out
            rw [HYS.out] at hst
            refine (WorldFrom_any _ _ _ _ _ HS.out.d.now).mono ?_
            rintro e w13 ⟨v7, rfl, hown, hb⟩
            have hwl : wfL ys.length (fun j => ys.getD j 0) = rowL (wfF ys.length (fun j => ys.getD j 0)) ys.length := by unfold wfL; rw [if_pos hst.1]
            rw [hwl] at hown
            obtain ⟨p9, e9, rfl⟩ := hown.slice
            have HI9 := Lib.hid (ints_own9 hown (by have := HKD.out.1.1; omega) (fun i => wf_I64 _ _ i))
            replace HB := Lib.hid (below_onto HB.out hb)
            have HST := Lib.hid hst.2
            rw [rowL_len]
            clear hb hst hwl hown hs0 hs1 hd0 hd1
            go_wp2_with fail
            refine (StrongOk_any _ _ _ _ _ HI9.out).mono ?_
            rintro e w14 ⟨rfl, hb⟩
            rw [HST.out]
            replace HB := Lib.hid (below_onto HB.out hb); clear hb
            go_wp2_with fail
            go_ret
            exact ⟨rfl, HB.out⟩
          · have hk2b : (k != 2) = true := by simpa using hk2
            go_wp2_with fail
            go_ret
            exact ⟨rfl, HB.out⟩
        · have hl8b : decide ((8 : Int) ≤ (L.length : Int)) = false := decide_eq_false (by omega)
          obtain ⟨u1, u2, u3⟩ := dk_undo (k := k) (x := x) HDK.out hk4 HOK.out (by omega)
          rw [HYS.out, HMM.out] at u1 u2 u3
          rw [HCAN.out] at u1; rw [HZS.out] at u2; rw [HNN.out] at u3
          subst u1; subst u2; subst u3
          go_wp2_with fail
          refine (HKZ.out.nine.same _ _ _ HU.out.d HV.out.d).mono ?_
          rintro e w11 ⟨rfl, hb⟩
          replace HS := Lib.hid (HS.out.kept hb); replace HD := Lib.hid (HD.out.kept hb HD.out.lt); replace HB := Lib.hid (below_onto HB.out hb)
          clear hb hs0 hs1 ha0 ha1 hu0 hu1 hd0 hd1
          have hs0 := HS.out.blk.cell.1; have hs1 := HS.out.blk.cell.2; have hd0 := HD.out.cell.1; have hd1 := HD.out.cell.2
          by_cases hk2 : k = 2
          · subst hk2
            go_wp2_with fail
            have hst := do_strong HDK.out HOK.out
            rw [HYS.out] at hst
            refine (WorldFrom_any _ _ _ _ _ HS.out.d.now).mono ?_
            rintro e w13 ⟨v7, rfl, hown, hb⟩
            have hwl : wfL ys.length (fun j => ys.getD j 0) = rowL (wfF ys.length (fun j => ys.getD j 0)) ys.length := by unfold wfL; rw [if_pos hst.1]
            rw [hwl] at hown
            obtain ⟨p9, e9, rfl⟩ := hown.slice
            have HI9 := Lib.hid (ints_own9 hown (by have := HKD.out.1.1; omega) (fun i => wf_I64 _ _ i))
            replace HB := Lib.hid (below_onto HB.out hb)
            have HST := Lib.hid hst.2
            rw [rowL_len]
            clear hb hst hwl hown hs0 hs1 hd0 hd1
            go_wp2_with fail
            refine (StrongOk_any _ _ _ _ _ HI9.out).mono ?_
            rintro e w14 ⟨rfl, hb⟩
            rw [HST.out]
            replace HB := Lib.hid (below_onto HB.out hb); clear hb
            go_wp2_with fail
            go_ret
            exact ⟨rfl, HB.out⟩
          · have hk2b : (k != 2) = true := by simpa using hk2
            go_wp2_with fail
            go_ret
            exact ⟨rfl, HB.out⟩
end Go.Proofs.Ytndcnfbncepihaa
