import Derived.Test.YtndcnfbncepihaaDkAP
namespace Go.Proofs.Ytndcnfbncepihaa
set_option linter.unusedVariables false
set_option linter.unusedSimpArgs false
open Go.RowKit Go.Maps

/-- a desk lies in a variable, and a number -/
def CutL (w : World) (ys : List Int) (M : List (List Int)) (m : Nat) (s1 s2 : Value) (wx : World) : Prop :=
  ∃ (A : Nat) (a b : Option Addr) (c c2 : Nat), s1 = .pointer (some ⟨A, 0, none⟩) ∧ s2 = .int .i64 m ∧ VarD wx A a b c c2 ys M ∧ Below w.heap.size w wx
theorem cutL_last {w w8 w9 : World} {v1 v2 : Value} {ys : List Int} {M : List (List Int)} {m : Nat} (hk : okD ys M) (h : GivesD ys M w8 w9 v1 v2) (hb : Below w.heap.size w w9) :
    CutL w ys M m (.pointer (some ⟨w9.heap.size, 0, none⟩)) (.int .i64 m) (w9.alloc (.cells #[v1, v2] 26)) := by
  obtain ⟨a, c, b, c2, rfl, rfl, hd, _⟩ := hk.gives h
  exact ⟨_, a, b, c, c2, rfl, rfl, VarD.new hd, hb.alloc hb.size _⟩
theorem cutL_set {w w8 w9 : World} {g : Nat} {v1 v2 : Value} {ys : List Int} {M : List (List Int)} {m : Nat} (hk : okD ys M) (h : GivesD ys M w8 w9 v1 v2) (hz : Blk2 w9 g 26 (.slice none 0 0) (.slice none 0 0)) (hl : g < w8.heap.size) (hb : Below w.heap.size w w9) (hwb : w.heap.size ≤ g) :
    CutL w ys M m (.pointer (some ⟨g, 0, none⟩)) (.int .i64 m) ((w9.setCell ⟨g, 0, none⟩ v1).setCell ⟨g, 1, none⟩ v2) := by
  obtain ⟨a, c, b, c2, rfl, rfl, _, _⟩ := hk.gives h
  obtain ⟨rs, hg, hrs, _⟩ := h
  have hR := hk.nine.read ((hg.put (p := ⟨g, 0, none⟩) (u := .slice a ys.length c) hl).put (p := ⟨g, 1, none⟩) (u := .slice b M.length c2) hl) hrs
  exact ⟨g, a, b, c, c2, rfl, rfl, ⟨(hz.set0 _).set1 _, hR⟩, (hb.setCell (p := ⟨g, 0, none⟩) hwb _).setCell (p := ⟨g, 1, none⟩) hwb _⟩
theorem dr_okD (xs : List Int) (L : List (List Int)) (ds : List (Int × Int)) : okD (drX xs L ds) (drL xs L ds) := by
  cases h : drB xs L ds with
  | true =>
    obtain ⟨e1, e2, _⟩ := dr_yes h
    rw [e1, e2]
    unfold drB at h
    rw [Bool.and_eq_true] at h
    exact run_okD h.1 ds
  | false =>
    obtain ⟨e1, e2, _⟩ := dr_no h
    rw [e1, e2]
    exact okD_nil
theorem dr_desk {xs : List Int} {L : List (List Int)} {ds : List (Int × Int)} (h : drB xs L ds = true) : deskB (drX xs L ds) (drL xs L ds) = true := by
  obtain ⟨e1, e2, _⟩ := dr_yes h
  rw [e1, e2]
  unfold drB at h
  rw [Bool.and_eq_true] at h
  exact run_desk h.1 ds
/-- in two parts it is the same -/
theorem dr_parts {xs : List Int} {L : List (List Int)} {ds d1 d2 : List (Int × Int)} (h : drB xs L ds = true) (e : d1 ++ d2 = ds) :
    drX (drX xs L d1) (drL xs L d1) d2 = drX xs L ds ∧ drL (drX xs L d1) (drL xs L d1) d2 = drL xs L ds ∧ drN xs L d1 + drN (drX xs L d1) (drL xs L d1) d2 = drN xs L ds := by
  have hl : d1.length + d2.length = ds.length := by rw [← e, List.length_append]
  have h' := h
  unfold drB at h'
  rw [Bool.and_eq_true, decide_eq_true_eq] at h'
  have h1 : drB xs L d1 = true := by unfold drB; rw [h'.1, decide_eq_true (by omega)]; rfl
  have h2 : drB (drX xs L d1) (drL xs L d1) d2 = true := by unfold drB; rw [dr_desk h1, decide_eq_true (by omega)]; rfl
  obtain ⟨a1, a2, a3⟩ := dr_yes h
  obtain ⟨c1, c2, c3⟩ := dr_yes h2
  obtain ⟨b1, b2, b3⟩ := dr_yes h1
  rw [c1, c2, c3, a1, a2, a3, b3, b1, b2, ← e, run_app]
  exact ⟨rfl, rfl, rfl⟩

set_option maxRecDepth 100000 in
set_option maxHeartbeats 12800000 in
theorem lawDeskRun (a : Option Addr) (n cap : Nat) (w : World) (h : BytesIn w a n cap) :
    Calls Try.prog 6 #[.slice a n cap] w (TrueEnd w) := by
  have hlen := h.len
  have H := Lib.hid h; clear h
  by_cases hn : 1048576 < n
  · go_enter Try.func6, Try.ntmps6
    go_wp2_with fail
    go_ret
    exact ⟨rfl, Below.refl _ _⟩
  · go_enter Try.func6, Try.ntmps6
    go_wp2_with fail
    refine (DrawDeskRun_any _ _ _ _ H.out).mono ?_
    rintro e w1 ⟨p1, e1, p2, e2, xs, L, p, cp, ds, rfl, hd, hk, hdd, hda, h41, hb1⟩
    have hal := alloc_below w1 (.cells #[.slice p1 xs.length e1, .slice p2 L.length e2] 26)
    have HV := Lib.hid (VarD.new hd)
    have HDD := Lib.hid (hdd.kept hal)
    have HB := Lib.hid (below_onto hb1 hal)
    have HDA := Lib.hid hda; have H41 := Lib.hid h41
    obtain ⟨w2, hw2⟩ : ∃ w2, w1.alloc (.cells #[.slice p1 xs.length e1, .slice p2 L.length e2] 26) = w2 := ⟨_, rfl⟩
    obtain ⟨A, hA⟩ : ∃ A, w1.heap.size = A := ⟨_, rfl⟩
    rw [hw2] at HV HB HDD
    rw [hA] at HV
    have ha0 := HV.out.blk.cell.1; have ha1 := HV.out.blk.cell.2
    clear H hb1 hd hk hdd hda hal
    obtain ⟨dn, hdn⟩ : ∃ dn, ds.length = dn := ⟨_, rfl⟩
    have HDN := Lib.hid hdn
    rw [hdn] at h41 ⊢
    clear hdn
    go_wp2_with fail
    clear hw2 hA
    rw [← HDN.out]
    refine (DeskRun_any _ xs L p ds cp _ HV.out.d HDD.out).mono ?_
    rw [HDN.out]
    rintro e w3 ⟨v1, v2, rfl, hg⟩
    have hkd := dr_okD xs L ds
    obtain ⟨ys, hys⟩ : ∃ ys, drX xs L ds = ys := ⟨_, rfl⟩
    obtain ⟨M, hM⟩ : ∃ M, drL xs L ds = M := ⟨_, rfl⟩
    obtain ⟨m, hm⟩ : ∃ m, drN xs L ds = m := ⟨_, rfl⟩
    rw [hys, hM] at hg hkd
    rw [hm]
    have HYS := Lib.hid hys; have HMM := Lib.hid hM; have HNN := Lib.hid hm; have HKD := Lib.hid hkd
    clear hys hM hm hkd
    obtain ⟨p3, e3, p4, e4, rfl, rfl, hd, hb⟩ := HKD.out.gives hg
    have hal := alloc_below w3 (.cells #[.slice p3 ys.length e3, .slice p4 M.length e4] 26)
    have HS := Lib.hid (VarD.new hd)
    replace hb := below_onto hb hal
    replace HV := Lib.hid (HV.out.kept hb); replace HDD := Lib.hid (HDD.out.kept hb); replace HB := Lib.hid (below_onto HB.out hb)
    obtain ⟨w4, hw4⟩ : ∃ w4, w3.alloc (.cells #[.slice p3 ys.length e3, .slice p4 M.length e4] 26) = w4 := ⟨_, rfl⟩
    obtain ⟨S, hS⟩ : ∃ S, w3.heap.size = S := ⟨_, rfl⟩
    rw [hw4] at HV HB HDD HS
    rw [hS] at HS
    clear hg hd hb hal ha0 ha1
    have ha0 := HV.out.blk.cell.1; have ha1 := HV.out.blk.cell.2
    go_wp2_with fail
    clear hw4 hS
    rw [← HDN.out]
    refine (specDeskRun_any _ xs L p ds cp _ HV.out.d HDD.out).mono ?_
    rw [HDN.out]
    rintro e w5 ⟨v3, v4, rfl, hg⟩
    rw [HYS.out, HMM.out] at hg
    rw [HNN.out]
    obtain ⟨p5, e5, p6, e6, rfl, rfl, hd, hb⟩ := HKD.out.gives hg
    have hal := alloc_below w5 (.cells #[.slice p5 ys.length e5, .slice p6 M.length e6] 26)
    have HT := Lib.hid (VarD.new hd)
    replace hb := below_onto hb hal
    replace HV := Lib.hid (HV.out.kept hb); replace HS := Lib.hid (HS.out.kept hb); replace HDD := Lib.hid (HDD.out.kept hb); replace HB := Lib.hid (below_onto HB.out hb)
    obtain ⟨w6, hw6⟩ : ∃ w6, w5.alloc (.cells #[.slice p5 ys.length e5, .slice p6 M.length e6] 26) = w6 := ⟨_, rfl⟩
    obtain ⟨T, hT⟩ : ∃ T, w5.heap.size = T := ⟨_, rfl⟩
    rw [hw6] at HV HS HB HDD HT
    rw [hT] at HT
    clear hg hd hb hal ha0 ha1
    have hs0 := HS.out.blk.cell.1; have hs1 := HS.out.blk.cell.2; have ht0 := HT.out.blk.cell.1; have ht1 := HT.out.blk.cell.2
    go_wp2_with fail
    clear hw6 hT
    refine (HKD.out.nine.same _ _ _ HS.out.d HT.out.d).mono ?_
    rintro e w7 ⟨rfl, hb⟩
    replace HV := Lib.hid (HV.out.kept hb); replace HS := Lib.hid (HS.out.kept hb); replace HDD := Lib.hid (HDD.out.kept hb); replace HB := Lib.hid (below_onto HB.out hb)
    clear hb hs0 hs1 ht0 ht1 HT
    have hne : ((m : Int) != (m : Int)) = false := by simp
    have ha0 := HV.out.blk.cell.1; have ha1 := HV.out.blk.cell.2
    go_wp2_with fail
    refine (specDeskOk_any _ xs L _ HV.out.d).mono ?_
    rintro e w8 ⟨rfl, hb⟩
    replace HV := Lib.hid (HV.out.kept hb); replace HS := Lib.hid (HS.out.kept hb); replace HDD := Lib.hid (HDD.out.kept hb); replace HB := Lib.hid (below_onto HB.out hb)
    clear hb ha0 ha1 hne
    have hs0 := HS.out.blk.cell.1; have hs1 := HS.out.blk.cell.2
    cases hdk : deskB xs L with
    | false =>
      obtain ⟨f1, f2, f3⟩ := dr_no (show drB xs L ds = false by unfold drB; rw [hdk]; rfl)
      rw [HYS.out] at f1; rw [HMM.out] at f2; rw [HNN.out] at f3
      subst f1; subst f2; subst f3
      clear hdk
      go_wp2_with fail
      refine (noDesk_any _ _ HS.out.d).mono ?_
      rintro e w9 ⟨rfl, hb⟩
      replace HB := Lib.hid (below_onto HB.out hb)
      clear hb hs0 hs1
      go_wp2_with fail
      refine (alive_any _).mono ?_
      rintro e w20 ⟨rfl, hb⟩
      replace HB := Lib.hid (below_onto HB.out hb); clear hb
      go_wp2_with fail
      go_ret
      exact ⟨rfl, HB.out⟩
    | true =>
      by_cases h40 : 40 < dn
      · have h40b : decide ((40 : Int) < (dn : Int)) = true := decide_eq_true (by omega)
        obtain ⟨f1, f2, f3⟩ := dr_no (show drB xs L ds = false by unfold drB; rw [HDN.out, decide_eq_false (by omega), Bool.and_false])
        rw [HYS.out] at f1; rw [HMM.out] at f2; rw [HNN.out] at f3
        subst f1; subst f2; subst f3
        clear hdk
        go_wp2_with fail
        refine (noDesk_any _ _ HS.out.d).mono ?_
        rintro e w9 ⟨rfl, hb⟩
        replace HB := Lib.hid (below_onto HB.out hb)
        clear hb hs0 hs1
        go_wp2_with fail
        refine (alive_any _).mono ?_
        rintro e w20 ⟨rfl, hb⟩
        replace HB := Lib.hid (below_onto HB.out hb); clear hb
        go_wp2_with fail
        go_ret
        exact ⟨rfl, HB.out⟩
      · have h40b : decide ((40 : Int) < (dn : Int)) = false := decide_eq_false (by omega)
        have hB : drB xs L ds = true := by unfold drB; rw [hdk, HDN.out, decide_eq_true (by omega)]; rfl
        obtain ⟨q2, c2, hsl1, hsl2, hdd2⟩ := dparts p cp ds HDA.out
        obtain ⟨g1, g2, g3⟩ := dr_parts hB (List.take_append_drop (ds.length / 2) ds)
        have hd1 := HDD.out.take (ds.length / 2)
        have hd2 := hdd2 _ HDD.out
        obtain ⟨d1, hd1e⟩ : ∃ d1, ds.take (ds.length / 2) = d1 := ⟨_, rfl⟩
        obtain ⟨d2, hd2e⟩ : ∃ d2, ds.drop (ds.length / 2) = d2 := ⟨_, rfl⟩
        rw [hd1e] at hsl1 hd1 g1 g2 g3
        rw [hd2e] at hsl2 hd2 g1 g2 g3
        obtain ⟨n1, hn1⟩ : ∃ n1, d1.length = n1 := ⟨_, rfl⟩
        obtain ⟨n2, hn2⟩ : ∃ n2, d2.length = n2 := ⟨_, rfl⟩
        rw [hn1] at hsl1
        rw [hn2] at hsl2
        rw [HDN.out] at hsl1 hsl2
        obtain ⟨hf, hhf⟩ : ∃ hf, dn / 2 = hf := ⟨_, rfl⟩
        have hquo : ((dn : Int)).tdiv 2 = (hf : Int) := by rw [Int.tdiv_eq_ediv_of_nonneg (by omega)]; omega
        rw [hhf] at hsl1 hsl2
        have hfb : hf ≤ 20 := by omega
        have hwr : wrap64 (hf : Int) = (hf : Int) := by unfold wrap64; omega
        have hk1 := dr_okD xs L d1
        obtain ⟨y1, hy1⟩ : ∃ y1, drX xs L d1 = y1 := ⟨_, rfl⟩
        obtain ⟨M1, hM1⟩ : ∃ M1, drL xs L d1 = M1 := ⟨_, rfl⟩
        obtain ⟨m1, hm1⟩ : ∃ m1, drN xs L d1 = m1 := ⟨_, rfl⟩
        obtain ⟨m2, hm2⟩ : ∃ m2, drN y1 M1 d2 = m2 := ⟨_, rfl⟩
        rw [hy1, hM1] at g1 g2 g3 hk1
        rw [hm1, hm2, HNN.out] at g3
        rw [HYS.out] at g1
        rw [HMM.out] at g2
        have hm40 : m ≤ 40 := by
          rw [← HNN.out, (dr_yes hB).2.2]
          exact Nat.le_trans (run_count xs L ds) (by rw [HDN.out]; omega)
        have HK1 := Lib.hid hk1
        have HDY := Lib.hid (show deskB ys M = true by rw [← HYS.out, ← HMM.out]; exact dr_desk hB)
        have HD2 := Lib.hid hd2
        have HC1 := Lib.hid (show ∀ W, Below w8.heap.size w8 W → Calls Try.prog 28 #[.agg #[.slice p1 xs.length e1, .slice p2 L.length e2], .slice p n1 cp] W (RunEnd y1 M1 m1 W) from fun W hW => by
          have := DeskRun_any _ xs L p d1 cp W (HV.out.d.kept hW) (hd1.kept hW)
          rw [hy1, hM1, hm1, hn1] at this
          exact this)
        have HC2 := Lib.hid (show ∀ W b1 b2 c1 c2', DeskR W (.agg #[.slice b1 y1.length c1, .slice b2 M1.length c2']) y1 M1 → Dds W q2 d2 → Calls Try.prog 28 #[.agg #[.slice b1 y1.length c1, .slice b2 M1.length c2'], .slice q2 n2 c2] W (RunEnd ys M m2 W) from fun W b1 b2 c1 c2' h1 h2 => by
          have := DeskRun_any _ y1 M1 q2 d2 c2 W h1 h2
          rw [g1, g2, hm2, hn2] at this
          exact this)
        have HKS := Lib.hid (show ∀ W, Below w8.heap.size w8 W → (W.cell? ⟨A, 0, none⟩ = some (.slice p1 xs.length e1) ∧ W.cell? ⟨A, 1, none⟩ = some (.slice p2 L.length e2)) from fun W hW => (HV.out.kept hW).blk.cell)
        have HG3 := Lib.hid g3; have HM40 := Lib.hid hm40; have HSL2 := Lib.hid hsl2; have HHF := Lib.hid hhf
        clear hdk hd1 hd2 hd1e hd2e hdd2 g1 g2 g3 hy1 hM1 hm1 hm2 hn1 hn2 hhf hk1 hB hs0 hs1 hsl2 hm40
        go_upto_region 11 with fail
        go_cut [10, 11] (fun s1 s2 wx => CutL w8 y1 M1 m1 s1 s2 wx)
        case first =>
          have HB6 := Lib.hid (Below.refl w8.heap.size w8)
          go_region_held3 (fun W => W.cell? ⟨A, 0, none⟩ = some (.slice p1 xs.length e1) ∧ W.cell? ⟨A, 1, none⟩ = some (.slice p2 L.length e2)) (first | exact HKS.out _ HB6.out | exact HKS.out _ HB6.out.drew | exact HKS.out _ (HB6.out.alloc HB6.out.size _) | exact HKS.out _ (HB6.out.alloc HB6.out.size _).drew | exact HKS.out _ ((HB6.out.setCell (p := ⟨_, 0, none⟩) (Nat.le_refl _) _).setCell (p := ⟨_, 1, none⟩) (Nat.le_refl _) _) | exact HKS.out _ ((HB6.out.setCell (p := ⟨_, 0, none⟩) HS7.out _).setCell (p := ⟨_, 1, none⟩) HS7.out _) | go_keep)
            (first | (go_at_call 28; refine (HC1.out _ (by first | with_reducible exact HB6.out | with_reducible exact HB6.out.drew | with_reducible exact HB6.out.alloc HB6.out.size _ | with_reducible exact (HB6.out.alloc HB6.out.size _).drew)).mono ?_; rintro e w9 ⟨v3, v4, rfl, hg9⟩; obtain ⟨z1, z2, rfl⟩ := hg9.one; obtain ⟨z3, z4, rfl⟩ := hg9.two; have HS7 := Lib.hid (show w8.heap.size ≤ w9.heap.size from (below_onto (show Below w8.heap.size w8 _ from (by first | with_reducible exact HB6.out | with_reducible exact HB6.out.drew | with_reducible exact HB6.out.alloc HB6.out.size _ | with_reducible exact (HB6.out.alloc HB6.out.size _).drew)) hg9.below).size); (try (have HZB : Hid (Blk2 w9 w8.heap.size 26 (.slice none 0 0) (.slice none 0 0)) := Lib.hid (by with_reducible exact blk2_new_dr3 hg9.below))); (try (have hx0 := HZB.out.cell.1; have hx1 := HZB.out.cell.2; have hx2 := HZB.out.frozen 0; have hx3 := HZB.out.frozen 1)); have HG9 := Lib.hid hg9; have HZ := Lib.hid (below_onto (show Below w8.heap.size w8 _ from (by first | with_reducible exact HB6.out | with_reducible exact HB6.out.drew | with_reducible exact HB6.out.alloc HB6.out.size _ | with_reducible exact (HB6.out.alloc HB6.out.size _).drew)) hg9.below); clear HB6; have HB6 := HZ; clear HZ; clear hg9))
          all_goals
            go_wp2_with fail
            go_meet
            first
              | exact cutL_last HK1.out HG9.out HB6.out
              | exact cutL_set HK1.out HG9.out HZB.out (alloc_lt3 _ _) HB6.out (Nat.le_refl _)
        case rest =>
        obtain ⟨w10, hw10⟩ : ∃ w10, w10 = wc := ⟨_, rfl⟩
        subst hw10
        obtain ⟨A1, a1, b1, c1, c3, rfl, rfl, hv1, hbx⟩ := hcut
        replace HS := Lib.hid (HS.out.kept hbx); replace HB := Lib.hid (below_onto HB.out hbx)
        have HDD2 := Lib.hid (HD2.out.kept hbx)
        have HC3 := Lib.hid (show ∀ W, Below w10.heap.size w10 W → Calls Try.prog 28 #[.agg #[.slice a1 y1.length c1, .slice b1 M1.length c3], .slice q2 n2 c2] W (RunEnd ys M m2 W) from fun W hW => HC2.out W _ _ _ _ (hv1.d.kept hW) (HDD2.out.kept hW))
        clear HKS HC1 HC2 hsl1 hquo HDD HD2
        have HKS := Lib.hid (show ∀ W, Below w10.heap.size w10 W → (W.cell? ⟨A1, 0, none⟩ = some (.slice a1 y1.length c1) ∧ W.cell? ⟨A1, 1, none⟩ = some (.slice b1 M1.length c3)) from fun W hW => (hv1.kept hW).blk.cell)
        have hsl2 := HSL2.out
        clear hbx hv1
        go_upto_region 12 with fail
        go_cut [12, 13] (fun s1 s2 wx => CutL w10 ys M m2 s1 s2 wx)
        case first =>
          have HB6 := Lib.hid (Below.refl w10.heap.size w10)
          go_region_held3 (fun W => W.cell? ⟨A1, 0, none⟩ = some (.slice a1 y1.length c1) ∧ W.cell? ⟨A1, 1, none⟩ = some (.slice b1 M1.length c3)) (first | exact HKS.out _ HB6.out | exact HKS.out _ HB6.out.drew | exact HKS.out _ (HB6.out.alloc HB6.out.size _) | exact HKS.out _ (HB6.out.alloc HB6.out.size _).drew | exact HKS.out _ ((HB6.out.setCell (p := ⟨_, 0, none⟩) (Nat.le_refl _) _).setCell (p := ⟨_, 1, none⟩) (Nat.le_refl _) _) | exact HKS.out _ ((HB6.out.setCell (p := ⟨_, 0, none⟩) HS7.out _).setCell (p := ⟨_, 1, none⟩) HS7.out _) | go_keep)
            (first | (go_at_call 28; refine (HC3.out _ (by first | with_reducible exact HB6.out | with_reducible exact HB6.out.drew | with_reducible exact HB6.out.alloc HB6.out.size _ | with_reducible exact (HB6.out.alloc HB6.out.size _).drew)).mono ?_; rintro e w9 ⟨v3, v4, rfl, hg9⟩; obtain ⟨z1, z2, rfl⟩ := hg9.one; obtain ⟨z3, z4, rfl⟩ := hg9.two; have HS7 := Lib.hid (show w10.heap.size ≤ w9.heap.size from (below_onto (show Below w10.heap.size w10 _ from (by first | with_reducible exact HB6.out | with_reducible exact HB6.out.drew | with_reducible exact HB6.out.alloc HB6.out.size _ | with_reducible exact (HB6.out.alloc HB6.out.size _).drew)) hg9.below).size); (try (have HZB : Hid (Blk2 w9 w10.heap.size 26 (.slice none 0 0) (.slice none 0 0)) := Lib.hid (by with_reducible exact blk2_new_dr3 hg9.below))); (try (have hx0 := HZB.out.cell.1; have hx1 := HZB.out.cell.2; have hx2 := HZB.out.frozen 0; have hx3 := HZB.out.frozen 1)); have HG9 := Lib.hid hg9; have HZ := Lib.hid (below_onto (show Below w10.heap.size w10 _ from (by first | with_reducible exact HB6.out | with_reducible exact HB6.out.drew | with_reducible exact HB6.out.alloc HB6.out.size _ | with_reducible exact (HB6.out.alloc HB6.out.size _).drew)) hg9.below); clear HB6; have HB6 := HZ; clear HZ; clear hg9))
          all_goals
            go_wp2_with fail
            go_meet
            first
              | exact cutL_last HKD.out HG9.out HB6.out
              | exact cutL_set HKD.out HG9.out HZB.out (alloc_lt3 _ _) HB6.out (Nat.le_refl _)
        case rest =>
        obtain ⟨w11, hw11⟩ : ∃ w11, w11 = wc := ⟨_, rfl⟩
        subst hw11
        obtain ⟨A2, a2, b2, c4, c5, rfl, rfl, hv2, hbx⟩ := hcut
        replace HS := Lib.hid (HS.out.kept hbx); replace HB := Lib.hid (below_onto HB.out hbx)
        have HW := Lib.hid hv2
        clear HKS HC3 hsl2 hbx hv2
        have hs0 := HS.out.blk.cell.1; have hs1 := HS.out.blk.cell.2
        go_wp2_with fail
        refine (DeskOk_any _ ys M _ HS.out.d).mono ?_
        rintro e w12 ⟨rfl, hb⟩
        rw [HDY.out]
        replace HS := Lib.hid (HS.out.kept hb); replace HW := Lib.hid (HW.out.kept hb); replace HB := Lib.hid (below_onto HB.out hb)
        clear hb hs0 hs1
        have hs0 := HS.out.blk.cell.1; have hs1 := HS.out.blk.cell.2; have ht0 := HW.out.blk.cell.1; have ht1 := HW.out.blk.cell.2
        go_wp2_with fail
        refine (HKD.out.nine.same _ _ _ HW.out.d HS.out.d).mono ?_
        rintro e w13 ⟨rfl, hb⟩
        replace HB := Lib.hid (below_onto HB.out hb)
        clear hb hs0 hs1 ht0 ht1
        have hm40 := HM40.out
        have hg3 := HG3.out
        have hsum : (m1 : Int) + (m2 : Int) = (m : Int) := by omega
        have hm1b : m1 ≤ 40 := by omega
        have hm2b : m2 ≤ 40 := by omega
        have heq : ((m : Int) == (m : Int)) = true := by simp
        have hsumw : wrap64 ((m1 : Int) + (m2 : Int)) = (m : Int) := by unfold wrap64; omega
        go_wp2_with fail
        go_ret
        exact ⟨rfl, HB.out⟩
end Go.Proofs.Ytndcnfbncepihaa
