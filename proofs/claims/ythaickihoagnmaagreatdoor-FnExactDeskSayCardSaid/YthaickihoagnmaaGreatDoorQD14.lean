import Derived.Test.YthaickihoagnmaaGreatDoorQD13
import Derived.Laws.IdiomStrings
import Derived.Deep.DeepMust
set_option linter.unusedVariables false
set_option linter.unusedSimpArgs false
set_option maxHeartbeats 12800000
namespace Go.Proofs.YthaickihoagnmaaGreatDoor
open Go.RowKit Go.Maps
set_option maxRecDepth 100000 in
theorem specLine_no (d : Value) (xs : List Int) (L : List (List Int)) (s : ByteArray) (hdk : deskB xs L = false) (w : World) (h : DeskR w d xs L) :
    Calls Tryz.prog 21 #[d, .string s] w (LineD [] [] [] w) := by
  have HDK := Lib.hid hdk
  clear hdk
  have hdd := h
  obtain ⟨a, c, b, c2, rfl, _⟩ := h.parts
  have q1 := alloc_below w (.cells #[.slice a xs.length c, .slice b L.length c2] 31)
  have q2 := alloc_below (w.alloc (.cells #[.slice a xs.length c, .slice b L.length c2] 31)) (.cells #[.slice none 0 0, .slice none 0 0] 31)
  have HV := Lib.hid ((VarD.new hdd).kept q2)
  have hbr := Blk2.new (w.alloc (.cells #[.slice a xs.length c, .slice b L.length c2] 31)) 31 (.slice none 0 0) (.slice none 0 0)
  rw [alloc_size] at hbr
  have HBR := Lib.hid hbr
  have HB := Lib.hid (below_onto q1 q2)
  obtain ⟨w2, hw2⟩ : ∃ w2, (w.alloc (.cells #[.slice a xs.length c, .slice b L.length c2] 31)).alloc (.cells #[.slice none 0 0, .slice none 0 0] 31) = w2 := ⟨_, rfl⟩
  rw [hw2] at HV HBR HB
  have hd0 := HV.out.blk.cell.1; have hd1 := HV.out.blk.cell.2
  clear h hdd q1 q2 hbr
  go_enter Tryz.func21, Tryz.ntmps21
  go_wp2_with fail
  clear hw2
  refine (specDeskOk_any _ xs L _ HV.out.d).mono ?_
  rintro e w3 ⟨rfl, hb⟩
  rw [HDK.out]
  replace HBR := Lib.hid (HBR.out.kept hb HBR.out.lt); replace HB := Lib.hid (below_onto HB.out hb)
  clear hb hd0 hd1
  have hx0 := HBR.out.cell.1; have hx1 := HBR.out.cell.2; have hx2 := HBR.out.frozen 0; have hx3 := HBR.out.frozen 1
  go_wp2_with fail
  refine bodyPost_ret (results_desk rfl _ _ (w.heap.size + 1) ((HBR.out.set0 (.slice none 0 0)).set1 (.slice none 0 0)) rfl rfl (by kernel_rfl)) rfl ?_
  exact ⟨_, _, rfl, noDesk_gives ((HB.out.setCell (p := ⟨w.heap.size + 1, 0, none⟩) (show w.heap.size ≤ w.heap.size + 1 by omega) _).setCell (p := ⟨w.heap.size + 1, 1, none⟩) (show w.heap.size ≤ w.heap.size + 1 by omega) _)⟩
set_option maxRecDepth 100000 in
theorem specLine_deed (d : Value) (xs : List Int) (L : List (List Int)) (s : ByteArray) (hs : s.size ≤ 1048600) (hdk : deskB xs L = true) (hrd : rdDB s.data.toList = true) (w : World) (h : DeskR w d xs L) :
    Calls Tryz.prog 21 #[d, .string s] w (LineD (liX xs L s.data.toList) (liL xs L s.data.toList) (liT (fun _ _ => []) xs L s.data.toList) w) := by
  obtain ⟨f1, f2, f3⟩ := li_deed (A := fun _ _ => []) hdk hrd
  rw [f1, f2, f3]
  have hky := rdY_I64 s.data.toList
  have hkd : okD (dkX xs L (rdK s.data.toList) (rdY s.data.toList)) (dkL xs L (rdK s.data.toList) (rdY s.data.toList)) := okD_desk (dk_desk hdk)
  obtain ⟨ok, hok⟩ : ∃ ok, dkB xs L (rdK s.data.toList) (rdY s.data.toList) = ok := ⟨_, rfl⟩
  obtain ⟨ys, hys⟩ : ∃ ys, dkX xs L (rdK s.data.toList) (rdY s.data.toList) = ys := ⟨_, rfl⟩
  obtain ⟨M, hM⟩ : ∃ M, dkL xs L (rdK s.data.toList) (rdY s.data.toList) = M := ⟨_, rfl⟩
  rw [hys, hM] at hkd
  rw [hys, hM, hok]
  have HDO := Lib.hid (show ∀ W d, DeskR W d xs L → Calls Tryz.prog 67 #[d, .agg #[.int .i64 (rdK s.data.toList), .int .i64 (rdY s.data.toList)]] W (DoneP ok ys M W) from fun W d hW => by
    have := specDeskDo_any d xs L (rdK s.data.toList) (rdY s.data.toList) hky W hW
    rw [hok, hys, hM] at this
    exact this)
  have HKD := Lib.hid hkd
  have HDK := Lib.hid hdk; have HRD := Lib.hid hrd
  have HE1 := Lib.hid (show ({ data := #[111, 107] } : ByteArray) = bs okW from rfl); have HE2 := Lib.hid (show ({ data := #[110, 111, 116] } : ByteArray) = bs notW from rfl)
  clear hdk hrd f1 f2 f3 hky hkd hok hys hM
  cases ok with
  | true =>
    rw [if_pos rfl]
    have hdd := h
    obtain ⟨a, c, b, c2, rfl, _⟩ := h.parts
    have q1 := alloc_below w (.cells #[.slice a xs.length c, .slice b L.length c2] 31)
    have q2 := alloc_below (w.alloc (.cells #[.slice a xs.length c, .slice b L.length c2] 31)) (.cells #[.slice none 0 0, .slice none 0 0] 31)
    have HV := Lib.hid ((VarD.new hdd).kept q2)
    have hbr := Blk2.new (w.alloc (.cells #[.slice a xs.length c, .slice b L.length c2] 31)) 31 (.slice none 0 0) (.slice none 0 0)
    rw [alloc_size] at hbr
    have HBR := Lib.hid hbr
    have HB := Lib.hid (below_onto q1 q2)
    obtain ⟨w2, hw2⟩ : ∃ w2, (w.alloc (.cells #[.slice a xs.length c, .slice b L.length c2] 31)).alloc (.cells #[.slice none 0 0, .slice none 0 0] 31) = w2 := ⟨_, rfl⟩
    rw [hw2] at HV HBR HB
    have hd0 := HV.out.blk.cell.1; have hd1 := HV.out.blk.cell.2
    clear h hdd q1 q2 hbr
    go_enter Tryz.func21, Tryz.ntmps21
    go_wp2_with fail
    clear hw2
    refine (specDeskOk_any _ xs L _ HV.out.d).mono ?_
    rintro e w3 ⟨rfl, hb⟩
    rw [HDK.out]
    replace HV := Lib.hid (HV.out.kept hb); replace HBR := Lib.hid (HBR.out.kept hb HBR.out.lt); replace HB := Lib.hid (below_onto HB.out hb)
    clear hb hd0 hd1
    have hd0 := HV.out.blk.cell.1; have hd1 := HV.out.blk.cell.2
    have HB3 := HB
    have HLT := Lib.hid (show w.heap.size + 1 < w3.heap.size from HBR.out.lt)
    go_wp2_with fail
    refine (l12Copy_any _ xs L HDK.out _ HV.out.d).mono ?_
    rintro e w4 ⟨v1, v2, rfl, hgo⟩
    have hg := hgo.desk
    obtain ⟨p1, e1, rfl⟩ := hg.one
    obtain ⟨p2, e2, rfl⟩ := hg.two
    have HG := Lib.hid hg
    have hal := alloc_below w4 (.cells #[.slice p1 xs.length e1, .slice p2 L.length e2] 31)
    have HO := Lib.hid (Blk2.new w4 31 (.slice p1 xs.length e1) (.slice p2 L.length e2))
    have HB4 := Lib.hid hal
    have hb := below_onto hg.below hal
    have HNO := Lib.hid (show w.heap.size + 1 < w4.heap.size from Nat.lt_of_lt_of_le HLT.out hg.below.size)
    replace HV := Lib.hid (HV.out.kept hb); replace HBR := Lib.hid (HBR.out.kept hb HBR.out.lt); replace HB := Lib.hid (below_onto HB.out hb)
    obtain ⟨w5, hw5⟩ : ∃ w5, w4.alloc (.cells #[.slice p1 xs.length e1, .slice p2 L.length e2] 31) = w5 := ⟨_, rfl⟩
    obtain ⟨O, hO⟩ : ∃ O, w4.heap.size = O := ⟨_, rfl⟩
    rw [hw5] at HV HBR HB HO HB4
    rw [hO] at HO HNO
    clear hgo hg hal hb hd0 hd1
    go_wp2_with fail
    clear hw5 hO
    refine (specReadDeed_any s hs _).mono ?_
    rintro e w6 ⟨rfl, hb⟩
    rw [HRD.out]
    obtain ⟨rk, hrk⟩ : ∃ rk, rdK s.data.toList = rk := ⟨_, rfl⟩
    obtain ⟨ry, hry⟩ : ∃ ry, rdY s.data.toList = ry := ⟨_, rfl⟩
    rw [hrk, hry]
    have hal := alloc_below w6 (.cells #[.int .i64 rk, .int .i64 ry] 39)
    have HE7 := Lib.hid (Blk2.new w6 39 (.int .i64 rk) (.int .i64 ry))
    replace hb := below_onto hb hal
    replace HV := Lib.hid (HV.out.kept hb); replace HBR := Lib.hid (HBR.out.kept hb HBR.out.lt); replace HB := Lib.hid (below_onto HB.out hb)
    replace HO := Lib.hid (HO.out.kept hb HO.out.lt); replace HB4 := Lib.hid (below_onto HB4.out hb)
    obtain ⟨w7, hw7⟩ : ∃ w7, w6.alloc (.cells #[.int .i64 rk, .int .i64 ry] 39) = w7 := ⟨_, rfl⟩
    obtain ⟨E, hE⟩ : ∃ E, w6.heap.size = E := ⟨_, rfl⟩
    rw [hw7] at HV HBR HB HO HB4 HE7
    rw [hE] at HE7
    have hd0 := HV.out.blk.cell.1; have hd1 := HV.out.blk.cell.2
    have HRK := Lib.hid hrk; have HRY := Lib.hid hry
    clear hb hal hrk hry
    have HDO7 := Lib.hid (HDO.out w7 _ HV.out.d)
    rw [HRK.out, HRY.out] at HDO7
    have he0 := HE7.out.cell.1; have he1 := HE7.out.cell.2
    have HLT7 := Lib.hid (show w.heap.size + 1 < w7.heap.size from HBR.out.lt)
    have HB7 := HB
    go_wp2_with fail
    clear hw7 hE
    refine HDO7.out.mono ?_
    rintro e w8 ⟨v3, v4, rfl, hgp⟩
    have hg := hgp.gives
    obtain ⟨p3, e3, rfl⟩ := hg.one
    obtain ⟨p4, e4, rfl⟩ := hg.two
    have HG8 := Lib.hid hg
    have hal := alloc_below w8 (.cells #[.slice p3 ys.length e3, .slice p4 M.length e4] 31)
    have HX := Lib.hid (Blk2.new w8 31 (.slice p3 ys.length e3) (.slice p4 M.length e4))
    have HAL := Lib.hid hal
    replace HBR := Lib.hid (HBR.out.kept (below_onto hg.below hal) HBR.out.lt)
    obtain ⟨w9, hw9⟩ : ∃ w9, w8.alloc (.cells #[.slice p3 ys.length e3, .slice p4 M.length e4] 31) = w9 := ⟨_, rfl⟩
    rw [hw9] at HX HAL HBR
    have hx0 := HX.out.cell.1; have hx1 := HX.out.cell.2
    have hr0 := HBR.out.cell.1; have hr1 := HBR.out.cell.2; have hr2 := HBR.out.frozen 0; have hr3 := HBR.out.frozen 1
    clear hgp hg hal hd0 hd1 he0 he1
    go_wp2_with fail
    clear hw9
    refine bodyPost_ret (results_desk rfl _ _ (w.heap.size + 1) ((HBR.out.set0 _).set1 _) rfl rfl (by kernel_rfl)) rfl ?_
    exact ⟨_, _, retdt HE1.out, HG8.out.fin HB7.out (Nat.le_succ _) HLT7.out HAL.out⟩
  | false =>
    rw [if_neg (by decide)]
    have hdd := h
    obtain ⟨a, c, b, c2, rfl, _⟩ := h.parts
    have q1 := alloc_below w (.cells #[.slice a xs.length c, .slice b L.length c2] 31)
    have q2 := alloc_below (w.alloc (.cells #[.slice a xs.length c, .slice b L.length c2] 31)) (.cells #[.slice none 0 0, .slice none 0 0] 31)
    have HV := Lib.hid ((VarD.new hdd).kept q2)
    have hbr := Blk2.new (w.alloc (.cells #[.slice a xs.length c, .slice b L.length c2] 31)) 31 (.slice none 0 0) (.slice none 0 0)
    rw [alloc_size] at hbr
    have HBR := Lib.hid hbr
    have HB := Lib.hid (below_onto q1 q2)
    obtain ⟨w2, hw2⟩ : ∃ w2, (w.alloc (.cells #[.slice a xs.length c, .slice b L.length c2] 31)).alloc (.cells #[.slice none 0 0, .slice none 0 0] 31) = w2 := ⟨_, rfl⟩
    rw [hw2] at HV HBR HB
    have hd0 := HV.out.blk.cell.1; have hd1 := HV.out.blk.cell.2
    clear h hdd q1 q2 hbr
    go_enter Tryz.func21, Tryz.ntmps21
    go_wp2_with fail
    clear hw2
    refine (specDeskOk_any _ xs L _ HV.out.d).mono ?_
    rintro e w3 ⟨rfl, hb⟩
    rw [HDK.out]
    replace HV := Lib.hid (HV.out.kept hb); replace HBR := Lib.hid (HBR.out.kept hb HBR.out.lt); replace HB := Lib.hid (below_onto HB.out hb)
    clear hb hd0 hd1
    have hd0 := HV.out.blk.cell.1; have hd1 := HV.out.blk.cell.2
    have HB3 := HB
    have HLT := Lib.hid (show w.heap.size + 1 < w3.heap.size from HBR.out.lt)
    go_wp2_with fail
    refine (l12Copy_any _ xs L HDK.out _ HV.out.d).mono ?_
    rintro e w4 ⟨v1, v2, rfl, hgo⟩
    have hg := hgo.desk
    obtain ⟨p1, e1, rfl⟩ := hg.one
    obtain ⟨p2, e2, rfl⟩ := hg.two
    have HG := Lib.hid hg
    have hal := alloc_below w4 (.cells #[.slice p1 xs.length e1, .slice p2 L.length e2] 31)
    have HO := Lib.hid (Blk2.new w4 31 (.slice p1 xs.length e1) (.slice p2 L.length e2))
    have HB4 := Lib.hid hal
    have hb := below_onto hg.below hal
    have HNO := Lib.hid (show w.heap.size + 1 < w4.heap.size from Nat.lt_of_lt_of_le HLT.out hg.below.size)
    replace HV := Lib.hid (HV.out.kept hb); replace HBR := Lib.hid (HBR.out.kept hb HBR.out.lt); replace HB := Lib.hid (below_onto HB.out hb)
    obtain ⟨w5, hw5⟩ : ∃ w5, w4.alloc (.cells #[.slice p1 xs.length e1, .slice p2 L.length e2] 31) = w5 := ⟨_, rfl⟩
    obtain ⟨O, hO⟩ : ∃ O, w4.heap.size = O := ⟨_, rfl⟩
    rw [hw5] at HV HBR HB HO HB4
    rw [hO] at HO HNO
    clear hgo hg hal hb hd0 hd1
    go_wp2_with fail
    clear hw5 hO
    refine (specReadDeed_any s hs _).mono ?_
    rintro e w6 ⟨rfl, hb⟩
    rw [HRD.out]
    obtain ⟨rk, hrk⟩ : ∃ rk, rdK s.data.toList = rk := ⟨_, rfl⟩
    obtain ⟨ry, hry⟩ : ∃ ry, rdY s.data.toList = ry := ⟨_, rfl⟩
    rw [hrk, hry]
    have hal := alloc_below w6 (.cells #[.int .i64 rk, .int .i64 ry] 39)
    have HE7 := Lib.hid (Blk2.new w6 39 (.int .i64 rk) (.int .i64 ry))
    replace hb := below_onto hb hal
    replace HV := Lib.hid (HV.out.kept hb); replace HBR := Lib.hid (HBR.out.kept hb HBR.out.lt); replace HB := Lib.hid (below_onto HB.out hb)
    replace HO := Lib.hid (HO.out.kept hb HO.out.lt); replace HB4 := Lib.hid (below_onto HB4.out hb)
    obtain ⟨w7, hw7⟩ : ∃ w7, w6.alloc (.cells #[.int .i64 rk, .int .i64 ry] 39) = w7 := ⟨_, rfl⟩
    obtain ⟨E, hE⟩ : ∃ E, w6.heap.size = E := ⟨_, rfl⟩
    rw [hw7] at HV HBR HB HO HB4 HE7
    rw [hE] at HE7
    have hd0 := HV.out.blk.cell.1; have hd1 := HV.out.blk.cell.2
    have HRK := Lib.hid hrk; have HRY := Lib.hid hry
    clear hb hal hrk hry
    have HDO7 := Lib.hid (HDO.out w7 _ HV.out.d)
    rw [HRK.out, HRY.out] at HDO7
    have he0 := HE7.out.cell.1; have he1 := HE7.out.cell.2
    have HLT7 := Lib.hid (show w.heap.size + 1 < w7.heap.size from HBR.out.lt)
    have HB7 := HB
    go_wp2_with fail
    clear hw7 hE
    refine HDO7.out.mono ?_
    rintro e w8 ⟨v3, v4, rfl, hgp⟩
    have hg := hgp.gives
    obtain ⟨p3, e3, rfl⟩ := hg.one
    obtain ⟨p4, e4, rfl⟩ := hg.two
    have HG8 := Lib.hid hg
    have hal := alloc_below w8 (.cells #[.slice p3 ys.length e3, .slice p4 M.length e4] 31)
    have HX := Lib.hid (Blk2.new w8 31 (.slice p3 ys.length e3) (.slice p4 M.length e4))
    have HAL := Lib.hid hal
    replace HBR := Lib.hid (HBR.out.kept (below_onto hg.below hal) HBR.out.lt)
    obtain ⟨w9, hw9⟩ : ∃ w9, w8.alloc (.cells #[.slice p3 ys.length e3, .slice p4 M.length e4] 31) = w9 := ⟨_, rfl⟩
    rw [hw9] at HX HAL HBR
    have hx0 := HX.out.cell.1; have hx1 := HX.out.cell.2
    have hr0 := HBR.out.cell.1; have hr1 := HBR.out.cell.2; have hr2 := HBR.out.frozen 0; have hr3 := HBR.out.frozen 1
    clear hgp hg hal hd0 hd1 he0 he1
    go_wp2_with fail
    clear hw9
    refine bodyPost_ret (results_desk rfl _ _ (w.heap.size + 1) ((HBR.out.set0 _).set1 _) rfl rfl (by kernel_rfl)) rfl ?_
    exact ⟨_, _, retdt HE2.out, HG8.out.fin HB7.out (Nat.le_succ _) HLT7.out HAL.out⟩
theorem specDeskLine_any (d : Value) (xs : List Int) (L : List (List Int)) (s : ByteArray) (hs : s.size ≤ 1048600) (w : World) (h : DeskR w d xs L) :
    Calls Tryz.prog 21 #[d, .string s] w (LineD (liX xs L s.data.toList) (liL xs L s.data.toList) (liT ansW xs L s.data.toList) w) := by
  cases hdk : deskB xs L with
  | false =>
    obtain ⟨e1, e2, e3⟩ := li_none (A := ansW) (l := s.data.toList) hdk
    rw [e1, e2, e3]
    exact specLine_no d xs L s hdk w h
  | true =>
    cases hrd : rdDB s.data.toList with
    | true =>
      rw [liT_deed (A := ansW) (B := fun _ _ => []) hdk hrd]
      exact specLine_deed d xs L s hs hdk hrd w h
    | false =>
      obtain ⟨e1, e2, e3⟩ := li_ask (A := ansW) hdk hrd
      rw [e1, e2, e3]
      have hf := (deskB_iff.1 hdk).1
      by_cases h0 : s.data.toList = allW
      · rw [show ansW xs s.data.toList = allA xs by unfold ansW; rw [if_pos h0]]
        exact specLine_all d xs L s hs hdk hrd h0 w h
      by_cases h1 : s.data.toList = companyW
      · rw [show ansW xs s.data.toList = companyA xs by unfold ansW; rw [if_neg h0, if_pos h1]]
        exact specLine_company d xs L s hs hdk hrd h0 h1 w h
      by_cases h2 : s.data.toList = weakW
      · rw [show ansW xs s.data.toList = weakA xs by unfold ansW; rw [if_neg h0, if_neg h1, if_pos h2]]
        exact specLine_weak d xs L s hs hdk hrd h0 h1 h2 w h
      by_cases h3 : s.data.toList = strongW
      · rw [show ansW xs s.data.toList = strongA xs by unfold ansW; rw [if_neg h0, if_neg h1, if_neg h2, if_pos h3]]
        exact specLine_strong d xs L s hs hdk hrd h0 h1 h2 h3 w h
      by_cases h4 : s.data.toList = summedW
      · rw [show ansW xs s.data.toList = summedA xs by unfold ansW; rw [if_neg h0, if_neg h1, if_neg h2, if_neg h3, if_pos h4]]
        exact specLine_summed d xs L s hs hdk hrd h0 h1 h2 h3 h4 w h
      by_cases h5 : s.data.toList = classicalW
      · rw [show ansW xs s.data.toList = classicalA xs by unfold ansW; rw [if_neg h0, if_neg h1, if_neg h2, if_neg h3, if_neg h4, if_pos h5]]
        exact specLine_classical d xs L s hs hdk hrd h0 h1 h2 h3 h4 h5 w h
      by_cases h6 : s.data.toList = atomsW
      · rw [show ansW xs s.data.toList = atomsA xs by unfold ansW; rw [if_neg h0, if_neg h1, if_neg h2, if_neg h3, if_neg h4, if_neg h5, if_pos h6]]
        exact specLine_atoms d xs L s hs hdk hrd h0 h1 h2 h3 h4 h5 h6 w h
      by_cases h7 : s.data.toList = wholeW
      · rw [show ansW xs s.data.toList = wholeA xs by unfold ansW; rw [if_neg h0, if_neg h1, if_neg h2, if_neg h3, if_neg h4, if_neg h5, if_neg h6, if_pos h7]]
        unfold wholeA oneW
        cases ho : wholeOk xs.length (wdF xs) with
        | false =>
          rw [if_neg (by decide)]
          exact specLine_whole0 d xs L s hs hdk hrd h0 h1 h2 h3 h4 h5 h6 h7 ho w h
        | true =>
          obtain ⟨C, hC, hN⟩ := whole_at hf ho
          rw [if_pos rfl, hN, Int.toNat_natCast]
          exact specLine_whole1 d xs L s hs hdk hrd h0 h1 h2 h3 h4 h5 h6 h7 C hC hN ho w h
      have hq : ¬ isQ s.data.toList := by
        rintro (e | e | e | e | e | e | e | e)
        · exact h0 e
        · exact h1 e
        · exact h2 e
        · exact h3 e
        · exact h4 e
        · exact h5 e
        · exact h6 e
        · exact h7 e
      rw [ans_two hq]
      by_cases hw : (spL s.data.toList 32).length = 3
      · by_cases hp : pA xs s.data.toList < 0
        · rw [if_pos (.inl hp)]
          exact specLine_whatp d xs L s hs hdk hrd h0 h1 h2 h3 h4 h5 h6 h7 hw hp w h
        · by_cases hq : pB xs s.data.toList < 0
          · rw [if_pos (.inr hq)]
            exact specLine_whatq d xs L s hs hdk hrd h0 h1 h2 h3 h4 h5 h6 h7 hw (by omega) hq w h
          · rw [if_neg (by omega)]
            have hpl := (plI_lt xs (rdI (cut1 (cut2 s.data.toList)))).2
            have hql := (plI_lt xs (rdI (cut2 (cut2 s.data.toList)))).2
            have hpl : pA xs s.data.toList < xs.length := hpl
            have hql : pB xs s.data.toList < xs.length := hql
            obtain ⟨X, hX⟩ := Int.eq_ofNat_of_zero_le (show 0 ≤ pA xs s.data.toList by omega)
            obtain ⟨Y, hY⟩ := Int.eq_ofNat_of_zero_le (show 0 ≤ pB xs s.data.toList by omega)
            rw [hX] at hpl
            rw [hY] at hql
            rw [hX, hY]
            unfold twoW
            by_cases g0 : cut1 s.data.toList = sumW
            · rw [if_pos g0]
              exact specLine_sum d xs L s hs hdk hrd h0 h1 h2 h3 h4 h5 h6 h7 hw X Y hX hY (by omega) (by omega) g0 w h
            rw [if_neg g0]
            by_cases g1 : cut1 s.data.toList = commonW
            · rw [if_pos g1]
              unfold commonA oneW
              cases ho : commonOk xs.length (wdF xs) X Y with
              | false =>
                rw [if_neg (by decide)]
                exact specLine_common0 d xs L s hs hdk hrd h0 h1 h2 h3 h4 h5 h6 h7 hw X Y hX hY g0 g1 ho w h
              | true =>
                obtain ⟨C, hC, hN⟩ := common_at hf ho
                rw [if_pos rfl, hN, Int.toNat_natCast]
                exact specLine_common1 d xs L s hs hdk hrd h0 h1 h2 h3 h4 h5 h6 h7 hw X Y hX hY g0 g1 C hC hN ho w h
            rw [if_neg g1]
            by_cases g2 : cut1 s.data.toList = leftW
            · rw [if_pos g2]
              unfold leftA oneW
              cases ho : leftOk xs.length (wdF xs) X Y with
              | false =>
                rw [if_neg (by decide)]
                exact specLine_left0 d xs L s hs hdk hrd h0 h1 h2 h3 h4 h5 h6 h7 hw X Y hX hY g0 g1 g2 ho w h
              | true =>
                obtain ⟨C, hC, hN⟩ := left_at hf ho
                rw [if_pos rfl, hN, Int.toNat_natCast]
                exact specLine_left1 d xs L s hs hdk hrd h0 h1 h2 h3 h4 h5 h6 h7 hw X Y hX hY g0 g1 g2 C hC hN ho w h
            rw [if_neg g2]
            exact specLine_whatw d xs L s hs hdk hrd h0 h1 h2 h3 h4 h5 h6 h7 hw X Y hX hY g0 g1 g2 w h
      · have hno : pA xs s.data.toList < 0 ∨ pB xs s.data.toList < 0 := by
          rcases (three_words s.data.toList).2 hw with e | e
          · refine .inl ?_
            unfold pA
            rw [e, plI_bad hf]; omega
          · refine .inr ?_
            unfold pB
            rw [e, plI_bad hf]; omega
        rw [if_pos hno]
        exact specLine_what3 d xs L s hs hdk hrd h0 h1 h2 h3 h4 h5 h6 h7 hw w h
structure TxsIn (w : World) (a : Option Addr) (n : Nat) (ts : List ByteArray) : Prop where
  len : ts.length = n
  big : n ≤ 9223372036854775807
  row : n = 0 ∨ ∃ bk o, a = some ⟨bk, o, none⟩ ∧ bk < w.heap.size ∧ ∀ i (hi : i < ts.length), w.cell? ⟨bk, o + i, none⟩ = some (.string ts[i])
theorem TxsIn.nil (w : World) (a : Option Addr) : TxsIn w a 0 [] := ⟨rfl, by omega, .inl rfl⟩
theorem TxsIn.kept {w w' : World} {a : Option Addr} {n : Nat} {ts : List ByteArray} (h : TxsIn w a n ts) (hb : Below w.heap.size w w') : TxsIn w' a n ts := by
  refine ⟨h.len, h.big, ?_⟩
  rcases h.row with h0 | ⟨bk, o, e, hl, hr⟩
  · exact .inl h0
  · exact .inr ⟨bk, o, e, Nat.lt_of_lt_of_le hl hb.size, fun i hi => (hb.cell (p := ⟨bk, o + i, none⟩) hl).trans (hr i hi)⟩
theorem TxsIn.at {w : World} {a : Option Addr} {n : Nat} {ts : List ByteArray} (h : TxsIn w a n ts) {k : Nat} (hk : k < n) : ∃ bk o, a = some ⟨bk, o, none⟩ ∧ ∃ t, ts[k]? = some t ∧ ∀ W, Below w.heap.size w W → W.cell? ⟨bk, o + k, none⟩ = some (.string t) := by
  have hk' : k < ts.length := by rw [h.len]; exact hk
  rcases h.row with h0 | ⟨bk, o, e, hl, hr⟩
  · omega
  · exact ⟨bk, o, e, ts[k], List.getElem?_eq_getElem hk', fun W hW => (hW.cell (p := ⟨bk, o + k, none⟩) hl).trans (hr k hk')⟩
def lnsL (ts : List ByteArray) : List (List UInt8) := ts.map (·.data.toList)
theorem lns_len (ts : List ByteArray) : (lnsL ts).length = ts.length := List.length_map ..
theorem lns_take {ts : List ByteArray} {k : Nat} {t : ByteArray} (h : ts[k]? = some t) : lnsL (ts.take (k + 1)) = lnsL (ts.take k) ++ [t.data.toList] := by
  obtain ⟨hk, e⟩ := List.getElem?_eq_some_iff.1 h
  unfold lnsL
  rw [List.take_succ_eq_append_getElem hk, e, List.map_append]
  rfl
set_option maxRecDepth 100000 in
/-- a text is put behind texts, in a region that draws -/
theorem step_str {ops : Array Oper} {o : Oper} {a : Act} {K : Act → World → Prop} {Q : Exit → Act → World → Prop} {E : Prop} (hgd : o.guard = none) (s x : Operand)
    (ho : o.op = .call { callee := .builtin .append, args := #[s, x], argTypes := #[48, 48] })
    (B : Nat) (v : Value) (ts : List ByteArray) (t : ByteArray) (n : Nat) (hn : ts.length = n) (w : World) (g' : Nat) (hs : a.eval s = v) (hx : a.eval x = .slice (some ⟨g', 0, none⟩) 1 1) (hc : w.cell? ⟨g', 0, none⟩ = some (.string t)) (hown : OwnS w B v ts) (hl : n ≤ 1000) (hB : B ≤ w.heap.size)
    (hk : ∀ g c w', OwnS w' B (.slice (some ⟨g, 0, none⟩) (n + 1) c) (ts ++ [t]) → Below B w w' → Upon (fun q => v.ownBlock = some q) w w' → (v.ownBlock = some g ∨ g = w.heap.size) → K (a.put o.dst (.slice (some ⟨g, 0, none⟩) (n + 1) c)) w') :
    if Region.wanted o (yielded ops a.tmps) = true then Oper.wp Tryz.prog o a w K Q else E := by
  subst hn
  obtain ⟨i0, hi0, hz0, hz1, hz2⟩ := info_str
  refine step_append_lies _ hgd s x 48 ho B 9 i0 (.string { data := #[] }) 1 16 Tryz.underlying48 hi0 hz0 hz1 hz2 rfl (by decide) v ts.length (ts.map Value.string) hs hown ⟨g', 0, none⟩ 1 1 [.string t] hx rfl (fun j u hj => by
      have : j = 0 := by have := (List.getElem?_eq_some_iff.1 hj).1; simp at this; omega
      subst this
      injection hj with hj
      subst hj
      exact hc) (by intro u hu; simp at hu; subst hu; rfl)
    (by omega) (by unfold maxLen; omega) (by omega) hB w.heap.size rfl ?_
  intro g c w' hown' hgrow hat hlt
  refine hk g c w' (OwnS.snoc hown') ((Below.refl B w).grown hgrow hB (fun q hq => (World.ownsRow.lt hown q hq).1)) (Upon.of_grown hgrow) hat
structure SyS (w : World) (Bo B N : Nat) (X Y : Value) (ys : List Int) (M : List (List Int)) (us : List (List UInt8)) (v1 v2 v3 : Value) (rs : List Fr) (wr : World) : Prop where
  d : Blk2 wr w.heap.size 31 X Y
  r : Blk2 wr (w.heap.size + 1) 31 (.slice none 0 0) (.slice none 0 0)
  n : Blk2 wr N 31 v1 v2
  g : DeskG wr B v1 v2 ys rs
  m : rs.map Fr.xs = M
  o : OwnS wr Bo v3 (us.map bs)
  s1 : ∀ g, v3.ownBlock = some g → ¬ DkBl v1 v2 rs g
  s2 : v3.ownBlock ≠ some N
  lo : w.heap.size + 2 ≤ Bo
  lb : Bo ≤ B
  bn : B ≤ N
  bel : Below w.heap.size w wr
theorem Blk2.upon {F : Nat → Prop} {w w' : World} {b : Nat} {t : TypeId} {x y : Value} (h : Blk2 w b t x y) (hu : Upon F w w') (hF : ¬ F b) : Blk2 w' b t x y := (hu.block b h.lt hF).trans h
theorem OwnS.put {w : World} {B : Nat} {v u : Value} {ts : List ByteArray} {p : Addr} (h : OwnS w B v ts) (hp : v.ownBlock ≠ some p.block) : OwnS (w.setCell p u) B v ts :=
  ownsRow_kept h (fun g hg => Below.heap_setCell w p u g (fun e => hp (by rw [hg, e])))
theorem OwnS.base {w : World} {B B' : Nat} {v : Value} {ts : List ByteArray} (h : OwnS w B v ts) (hB : B' ≤ B) : OwnS w B' v ts := ownsRow_base h hB
section
variable {w wr W : World} {Bo B N : Nat} {X Y : Value} {ys ny : List Int} {M nM : List (List Int)} {us : List (List UInt8)} {v1 v2 v3 v1' v2' v3' : Value} {rs rs' : List Fr}
theorem SyS.kept (h : SyS w Bo B N X Y ys M us v1 v2 v3 rs wr) (hb : Below wr.heap.size wr W) : SyS w Bo B N X Y ys M us v1 v2 v3 rs W :=
  ⟨h.d.kept hb h.d.lt, h.r.kept hb h.r.lt, h.n.kept hb h.n.lt, h.g.kept hb, h.m, h.o.kept hb, h.s1, h.s2, h.lo, h.lb, h.bn, below_onto h.bel hb⟩
theorem SyS.app {u : List UInt8} (h : SyS w Bo B N X Y ys M us v1 v2 v3 rs wr) (hup : Upon (fun q => v3.ownBlock = some q) wr W) (ho : OwnS W Bo v3' ((us ++ [u]).map bs)) (hf : v3'.ownBlock = v3.ownBlock ∨ ∃ g, v3'.ownBlock = some g ∧ wr.heap.size ≤ g) : SyS w Bo B N X Y ys M (us ++ [u]) v1 v2 v3' rs W := by
  have hlt := World.ownsRow.lt h.o
  have hlo := h.lo; have hlb := h.lb; have hbn := h.bn
  have hnl := h.n.lt
  have hN : ¬ v3.ownBlock = some N := h.s2
  have hg1 : ∀ q, DkBl v1 v2 rs q → ¬ v3.ownBlock = some q := fun q hq e => h.s1 q e hq
  refine ⟨h.d.upon hup (fun e => by have := (hlt _ e).1; omega), h.r.upon hup (fun e => by have := (hlt _ e).1; omega), h.n.upon hup hN, h.g.upon hup hg1, h.m, ho, ?_, ?_, h.lo, h.lb, h.bn, h.bel.trans (hup.below (fun k hk => by have := (hlt _ hk).1; omega) h.bel.size)⟩
  · intro g hg hq
    rcases hf with e | ⟨g', e, hle⟩
    · rw [e] at hg; exact h.s1 g hg hq
    · rw [e] at hg
      injection hg with hg
      have := (h.g.ltB g hq).2
      omega
  · rcases hf with e | ⟨g', e, hle⟩
    · rw [e]; exact hN
    · rw [e]
      intro e2
      injection e2 with e2
      omega
theorem SyS.put {Bn : Nat} (h : SyS w Bo B N X Y ys M us v1 v2 v3 rs wr) (hg : DeskG wr Bn v1' v2' ny rs') (hm : rs'.map Fr.xs = nM) (hN : N < Bn) (hs : ∀ g, v3.ownBlock = some g → ¬ DkBl v1' v2' rs' g) :
    SyS w Bo B N X Y ny nM us v1' v2' v3 rs' ((wr.setCell ⟨N, 0, none⟩ v1').setCell ⟨N, 1, none⟩ v2') := by
  have hlo := h.lo; have hlb := h.lb; have hbn := h.bn
  exact ⟨(h.d.other (show w.heap.size ≠ N by omega) 0 v1').other (show w.heap.size ≠ N by omega) 1 v2', (h.r.other (show w.heap.size + 1 ≠ N by omega) 0 v1').other (show w.heap.size + 1 ≠ N by omega) 1 v2',
    (h.n.set0 v1').set1 v2', ((hg.put (p := ⟨N, 0, none⟩) hN).put (p := ⟨N, 1, none⟩) hN).base (by omega), hm, (h.o.put (p := ⟨N, 0, none⟩) h.s2).put (p := ⟨N, 1, none⟩) h.s2, hs, h.s2, hlo, hlb, hbn,
    (h.bel.setCell (p := ⟨N, 0, none⟩) (show w.heap.size ≤ N by omega) v1').setCell (p := ⟨N, 1, none⟩) (show w.heap.size ≤ N by omega) v2'⟩
theorem SyS.round {cx : List Int} {cL : List (List Int)} {cT : List (List UInt8)} {nT : List UInt8} {w6 W0 w7 : World} {u1 u2 : Value} {g : Nat} (h : SyS w Bo B N X Y cx cL cT v1 v2 v3 rs wr) (hdg : DeskG w6 wr.heap.size u1 u2 ny rs') (hm : rs'.map Fr.xs = nM) (hb6 : Below wr.heap.size wr w6) (hW0 : Below w6.heap.size w6 W0)
    (hu : Upon (fun q => v3.ownBlock = some q) W0 w7) (ho : OwnS w7 Bo v3' ((cT ++ [nT]).map bs)) (hf : v3.ownBlock = some g ∨ g = W0.heap.size) (hv : v3'.ownBlock = some g) :
    SyS w Bo B N X Y cx cL (cT ++ [nT]) v1 v2 v3' rs w7 ∧ (∀ w8, w8 = w7 ∨ w8 = w7.drew → SyS w Bo B N X Y ny nM (cT ++ [nT]) u1 u2 v3' rs' ((w8.setCell ⟨N, 0, none⟩ u1).setCell ⟨N, 1, none⟩ u2)) ∧ (∀ q x y, Blk2 w6 q 31 x y → wr.heap.size ≤ q → Blk2 w7 q 31 x y) := by
  have hlt := World.ownsRow.lt h.o
  have h0 : SyS w Bo B N X Y cx cL cT v1 v2 v3 rs W0 := (h.kept hb6).kept hW0
  have hnl := h.n.lt
  have hA : SyS w Bo B N X Y cx cL (cT ++ [nT]) v1 v2 v3' rs w7 := h0.app hu ho (by
    rcases hf with e | e
    · exact .inl (hv.trans e.symm)
    · exact .inr ⟨g, hv, by omega⟩)
  have hg7 : DeskG w7 wr.heap.size u1 u2 ny rs' := (hdg.kept hW0).upon hu (fun q hq e => by have := (hdg.ltB q hq).1; have := (hlt _ e).2; omega)
  have hs : ∀ q, v3'.ownBlock = some q → ¬ DkBl u1 u2 rs' q := fun q e hq => by
    have h1 := hdg.ltB q hq
    rw [hv] at e
    injection e with e
    have h2 := hW0.size
    rcases hf with e2 | e2
    · have := (hlt _ e2).2; omega
    · omega
  refine ⟨hA, ?_, fun q x y hq hle => (hq.kept hW0 hq.lt).upon hu (fun e => by have := (hlt _ e).2; omega)⟩
  rintro w8 (rfl | rfl)
  · exact hA.put hg7 hm hnl hs
  · exact (hA.kept ((Below.refl _ w7).drew)).put (hg7.kept ((Below.refl _ w7).drew)) hm hnl hs
end
def GivesS (ys : List Int) (M : List (List Int)) (us : List (List UInt8)) (w w' : World) (v1 v2 v3 : Value) : Prop :=
  ∃ rs, DeskG w' w.heap.size v1 v2 ys rs ∧ rs.map Fr.xs = M ∧ OwnS w' w.heap.size v3 (us.map bs) ∧ (∀ g, v3.ownBlock = some g → ¬ DkBl v1 v2 rs g) ∧ Below w.heap.size w w'
def SayEnd (ys : List Int) (M : List (List Int)) (us : List (List UInt8)) (w : World) (e : Ending) (w' : World) : Prop := ∃ v1 v2 v3, e = .returned (.tuple #[.agg #[v1, v2], v3]) ∧ GivesS ys M us w w' v1 v2 v3
theorem SyS.done {w wr : World} {Bo B N : Nat} {X Y : Value} {ys : List Int} {M : List (List Int)} {us : List (List UInt8)} {v1 v2 v3 : Value} {rs : List Fr} (h : SyS w Bo B N X Y ys M us v1 v2 v3 rs wr) :
    GivesS ys M us w ((wr.setCell ⟨w.heap.size + 1, 0, none⟩ v1).setCell ⟨w.heap.size + 1, 1, none⟩ v2) v1 v2 v3 := by
  have hlo := h.lo; have hlb := h.lb
  have hlt := World.ownsRow.lt h.o
  have hne : v3.ownBlock ≠ some (w.heap.size + 1) := fun e => by have := (hlt _ e).1; omega
  exact ⟨rs, ((h.g.put (p := ⟨w.heap.size + 1, 0, none⟩) (show w.heap.size + 1 < B by omega)).put (p := ⟨w.heap.size + 1, 1, none⟩) (show w.heap.size + 1 < B by omega)).base (by omega), h.m,
    ((h.o.put (p := ⟨w.heap.size + 1, 0, none⟩) hne).put (p := ⟨w.heap.size + 1, 1, none⟩) hne).base (by omega), h.s1,
    (h.bel.setCell (p := ⟨w.heap.size + 1, 0, none⟩) (show w.heap.size ≤ w.heap.size + 1 by omega) _).setCell (p := ⟨w.heap.size + 1, 1, none⟩) (show w.heap.size ≤ w.heap.size + 1 by omega) _⟩
theorem say_next {xs : List Int} {L : List (List Int)} {ts : List ByteArray} {k : Nat} {t : ByteArray} (h : ts[k]? = some t) :
    sayD ansW xs L (lnsL (ts.take (k + 1))) = (liX (sayD ansW xs L (lnsL (ts.take k))).1 (sayD ansW xs L (lnsL (ts.take k))).2.1 t.data.toList, liL (sayD ansW xs L (lnsL (ts.take k))).1 (sayD ansW xs L (lnsL (ts.take k))).2.1 t.data.toList, (sayD ansW xs L (lnsL (ts.take k))).2.2 ++ [liT ansW (sayD ansW xs L (lnsL (ts.take k))).1 (sayD ansW xs L (lnsL (ts.take k))).2.1 t.data.toList]) := by
  rw [lns_take h, say_snoc]
set_option maxRecDepth 100000 in
theorem DeskSay_any (d : Value) (xs : List Int) (L : List (List Int)) (a1 : Option Addr) (n c1 : Nat) (ts : List ByteArray) (w : World) (h : DeskR w d xs L) (hts : TxsIn w a1 n ts) (hsm : ∀ t ∈ ts, t.size ≤ 1048600) (hT : TabW w) :
    Calls Tryz.prog 25 #[d, .slice a1 n c1] w (SayEnd (syX ansW xs L (lnsL ts)) (syL ansW xs L (lnsL ts)) (syT ansW xs L (lnsL ts)) w) := by
  have hdd := h
  obtain ⟨a, c, b, c2, rfl, _⟩ := h.parts
  have q1 := alloc_below w (.cells #[.slice a xs.length c, .slice b L.length c2] 31)
  have q2 := alloc_below (w.alloc (.cells #[.slice a xs.length c, .slice b L.length c2] 31)) (.cells #[.slice none 0 0, .slice none 0 0] 31)
  have HV := Lib.hid ((VarD.new hdd).kept q2)
  have hbr := Blk2.new (w.alloc (.cells #[.slice a xs.length c, .slice b L.length c2] 31)) 31 (.slice none 0 0) (.slice none 0 0)
  rw [alloc_size] at hbr
  have HBR := Lib.hid hbr
  have HB := Lib.hid (below_onto q1 q2)
  have HW2 := Lib.hid (show ((w.alloc (.cells #[.slice a xs.length c, .slice b L.length c2] 31)).alloc (.cells #[.slice none 0 0, .slice none 0 0] 31)).heap.size = w.heap.size + 2 by rw [alloc_size, alloc_size])
  obtain ⟨w2, hw2⟩ : ∃ w2, (w.alloc (.cells #[.slice a xs.length c, .slice b L.length c2] 31)).alloc (.cells #[.slice none 0 0, .slice none 0 0] 31) = w2 := ⟨_, rfl⟩
  rw [hw2] at HV HBR HB HW2
  have hd0 := HV.out.blk.cell.1; have hd1 := HV.out.blk.cell.2
  have HTS := Lib.hid hts; have HSM := Lib.hid hsm; have HT := Lib.hid hT
  have hnbig := hts.big
  have hlen := hts.len
  have HN := Lib.hid hlen
  clear h hdd q1 q2 hbr hts hsm hT
  by_cases hok : syB xs L (lnsL ts) = true
  · obtain ⟨f1, f2, f3⟩ := sy_yes (A := ansW) hok
    have hok' := hok
    unfold syB at hok'
    rw [Bool.and_eq_true, decide_eq_true_eq, lns_len, hlen] at hok'
    obtain ⟨hdk, h40⟩ := hok'
    have HDK := Lib.hid hdk
    have hkd := fun k => say_desk ansW xs L hdk (lnsL (ts.take k))
    have HKD := Lib.hid hkd
    obtain ⟨rX, hrX⟩ : ∃ rX, syX ansW xs L (lnsL ts) = rX := ⟨_, rfl⟩
    obtain ⟨rL, hrL⟩ : ∃ rL, syL ansW xs L (lnsL ts) = rL := ⟨_, rfl⟩
    obtain ⟨rT, hrT⟩ : ∃ rT, syT ansW xs L (lnsL ts) = rT := ⟨_, rfl⟩
    rw [hrX, hrL, hrT]
    have HF1 := Lib.hid (hrX.symm.trans f1); have HF2 := Lib.hid (hrL.symm.trans f2); have HF3 := Lib.hid (hrT.symm.trans f3)
    have h40b : decide ((40 : Int) < (n : Int)) = false := decide_eq_false (by omega)
    clear hok f1 f2 f3 hdk hkd hrX hrL hrT hlen
    go_enter Tryz.func25, Tryz.ntmps25
    go_wp2_with fail
    clear hw2
    refine (DeskOk_any _ xs L _ HV.out.d).mono ?_
    rintro e w3 ⟨rfl, hb⟩
    rw [HDK.out]
    replace HV := Lib.hid (HV.out.kept hb); replace HBR := Lib.hid (HBR.out.kept hb HBR.out.lt); replace HB := Lib.hid (below_onto HB.out hb)
    have HW3 := Lib.hid (show w.heap.size + 2 ≤ w3.heap.size by have := hb.size; have := HW2.out; omega)
    clear hb hd0 hd1
    have hd0 := HV.out.blk.cell.1; have hd1 := HV.out.blk.cell.2
    go_wp2_with fail
    refine (copied_any _ xs L HDK.out _ HV.out.d).mono ?_
    rintro e w4 ⟨v1, v2, rfl, hg⟩
    obtain ⟨p1, e1, rfl⟩ := hg.one
    obtain ⟨p2, e2, rfl⟩ := hg.two
    have hbg := hg.below
    obtain ⟨rs, hdg, hrs, _⟩ := hg
    have hal := alloc_below w4 (.cells #[.slice p1 xs.length e1, .slice p2 L.length e2] 31)
    have hb := below_onto hbg hal
    have hst : SyS w w3.heap.size w3.heap.size w4.heap.size (.slice a xs.length c) (.slice b L.length c2) (sayD ansW xs L (lnsL (ts.take 0))).1 (sayD ansW xs L (lnsL (ts.take 0))).2.1 (sayD ansW xs L (lnsL (ts.take 0))).2.2 (.slice p1 xs.length e1) (.slice p2 L.length e2) (.slice none 0 0) rs (w4.alloc (.cells #[.slice p1 xs.length e1, .slice p2 L.length e2] 31)) :=
      ⟨(HV.out.kept hb).blk, HBR.out.kept hb HBR.out.lt, Blk2.new w4 _ _ _, hdg.kept hal, hrs, World.ownsRow_nil _ _ _ _, fun g e => by simp [Value.ownBlock] at e, by simp [Value.ownBlock], HW3.out, Nat.le_refl _, hbg.size, below_onto HB.out hb⟩
    have HST := Lib.hid hst
    obtain ⟨Bo, hBo⟩ : ∃ Bo, w3.heap.size = Bo := ⟨_, rfl⟩
    obtain ⟨N, hN⟩ : ∃ N, w4.heap.size = N := ⟨_, rfl⟩
    obtain ⟨w5, hw5⟩ : ∃ w5, w4.alloc (.cells #[.slice p1 xs.length e1, .slice p2 L.length e2] 31) = w5 := ⟨_, rfl⟩
    rw [hBo, hN, hw5] at HST
    clear hst hdg hrs hal hb hbg hd0 hd1 hBo
    go_wp2_with fail
    clear hw5 hN
    go_loopw [7, 9, 11, 25] (fun v _ _ i wr => ∃ (k : Nat) (v1 v2 v3 : Value) (rs : List Fr), k ≤ n ∧ i = .int .i64 k ∧ Hid (v3 = v) ∧ Hid (SyS w Bo Bo N (.slice a xs.length c) (.slice b L.length c2) (sayD ansW xs L (lnsL (ts.take k))).1 (sayD ansW xs L (lnsL (ts.take k))).2.1 (sayD ansW xs L (lnsL (ts.take k))).2.2 v1 v2 v3 rs wr)) (fun _ _ _ i _ => n - (intOf i).toNat)
    case atStart => exact ⟨0, _, _, _, rs, Nat.zero_le _, rfl, Lib.hid rfl, HST⟩
    case round =>
      clear HST
      obtain ⟨k, v1, v2, v3, rs, hk, rfl, HVE, H⟩ := hrel
      have hve := HVE.out
      subst hve
      clear HVE
      obtain ⟨cx, hcx⟩ : ∃ cx, (sayD ansW xs L (lnsL (ts.take k))).1 = cx := ⟨_, rfl⟩
      obtain ⟨cL, hcL⟩ : ∃ cL, (sayD ansW xs L (lnsL (ts.take k))).2.1 = cL := ⟨_, rfl⟩
      obtain ⟨cT, hcT⟩ : ∃ cT, (sayD ansW xs L (lnsL (ts.take k))).2.2 = cT := ⟨_, rfl⟩
      have hdkk := HKD.out k
      have hcl := say_len ansW xs L (lnsL (ts.take k))
      rw [hcx, hcL] at hdkk
      rw [hcT, lns_len] at hcl
      rw [hcx, hcL, hcT] at H
      have hok := okD_desk hdkk
      obtain ⟨p1, e1, rfl⟩ := H.out.g.now.slice
      obtain ⟨p2, e2, hp2⟩ := H.out.g.past.seq.slice
      have hrl : (rs.map Fr.v).length = cL.length := by rw [← H.out.m, List.length_map, List.length_map]
      rw [hrl] at hp2
      subst hp2
      have hrd := hok.nine.read H.out.g H.out.m
      obtain ⟨p3, e3, hp3⟩ := H.out.o.slice
      obtain ⟨m, hm⟩ : ∃ m, (cT.map bs).length = m := ⟨_, rfl⟩
      rw [hm] at hp3
      subst hp3
      have HM := Lib.hid hm
      have HMK := Lib.hid (show m ≤ 41 by rw [← hm, List.length_map, hcl, List.length_take]; omega)
      have hN0 := H.out.n.cell.1; have hN1 := H.out.n.cell.2
      have HRD := Lib.hid hrd
      have HKK := Lib.hid hdkk
      clear hrl hm hcl
      by_cases hlt : k < n
      · have hki : (k : Int) < (n : Int) := by omega
        have hk0 : (0 : Int) ≤ (k : Int) := by omega
        obtain ⟨bk, o, rfl, t, htk, hcell⟩ := HTS.out.at hlt
        have hc := hcell wr H.out.bel
        have hnx := say_next (xs := xs) (L := L) htk
        rw [hcx, hcL, hcT] at hnx
        have hts9 := HSM.out t (List.mem_of_getElem? htk)
        obtain ⟨nx, hnxx⟩ : ∃ nx, liX cx cL t.data.toList = nx := ⟨_, rfl⟩
        obtain ⟨nL, hnL⟩ : ∃ nL, liL cx cL t.data.toList = nL := ⟨_, rfl⟩
        obtain ⟨nT, hnT⟩ : ∃ nT, liT ansW cx cL t.data.toList = nT := ⟨_, rfl⟩
        rw [hnxx, hnL, hnT] at hnx
        have HNX := Lib.hid hnx
        obtain ⟨tb, htb⟩ : ∃ tb, bs nT = tb := ⟨_, rfl⟩
        have HTB := Lib.hid htb
        have HCALL := Lib.hid (show Calls Tryz.prog 14 #[.agg #[.slice p1 cx.length e1, .slice p2 cL.length e2], .string t] wr fun e w' => ∃ v1 v2, e = .returned (.tuple #[.agg #[v1, v2], .string tb]) ∧ GivesD nx nL wr w' v1 v2 from by
          have := DeskLine_any _ cx cL t hts9 wr HRD.out (HT.out.below H.out.bel)
          unfold LineD at this
          rw [hnxx, hnL, hnT, htb] at this
          exact this)
        clear hrd hdkk hcell hcx hcL hcT hok hnx hnxx hnL hnT htb hts9 htk
        go_wp2_with fail
        refine HCALL.out.mono ?_
        rintro e w5 ⟨v3, v4, rfl, hg⟩
        obtain ⟨q3, f3, rfl⟩ := hg.one
        obtain ⟨q4, f4, rfl⟩ := hg.two
        have hbg := hg.below
        obtain ⟨rs', hdg, hrs', _⟩ := hg
        have hal := alloc_below w5 (.cells #[.slice q3 nx.length f3, .slice q4 nL.length f4] 31)
        have hbw := below_onto hbg hal
        have HX := Lib.hid (Blk2.new w5 31 (.slice q3 nx.length f3) (.slice q4 nL.length f4))
        have HH := Lib.hid (H.out.kept hbw)
        have HDG := Lib.hid (hdg.kept hal); have HRS := Lib.hid hrs'
        have HSZ := Lib.hid (show wr.heap.size ≤ w5.heap.size from hbg.size)
        have HNL := Lib.hid (show N < wr.heap.size from H.out.n.lt)
        obtain ⟨w6, hw6⟩ : ∃ w6, w5.alloc (.cells #[.slice q3 nx.length f3, .slice q4 nL.length f4] 31) = w6 := ⟨_, rfl⟩
        obtain ⟨XB, hXB⟩ : ∃ XB, w5.heap.size = XB := ⟨_, rfl⟩
        have HZ6 := Lib.hid (show w6.heap.size = XB + 1 by rw [← hw6, alloc_size, hXB])
        rw [hw6] at HX HH HDG
        rw [hXB] at HX HSZ
        have hx0 := HX.out.cell.1; have hx1 := HX.out.cell.2
        have HO6 := Lib.hid (show ∀ W, Below w6.heap.size w6 W → OwnS W Bo (.slice p3 m e3) (cT.map bs) from fun W hW => HH.out.o.kept hW)
        have HR6 := H
        have HB6 := Lib.hid hbw
        have HBO := Lib.hid (show Bo ≤ w6.heap.size by have h1 := H.out.bn; have h2 := HNL.out; have h3 := HSZ.out; have h4 := HZ6.out; omega)
        rw [hw6] at HB6
        have HBO2 := Lib.hid (show Bo ≤ (w6.alloc (.cells #[.string tb] 9)).heap.size by rw [alloc_size]; exact Nat.le_succ_of_le HBO.out)
        have HKX := Lib.hid (show ∀ W, Below w6.heap.size w6 W → (W.cell? ⟨XB, 0, none⟩ = some (.slice q3 nx.length f3) ∧ W.cell? ⟨XB, 1, none⟩ = some (.slice q4 nL.length f4)) from fun W hW => (HX.out.kept hW HX.out.lt).cell)
        have hnx1 : XB ≠ N := by have := HSZ.out; have := HNL.out; omega
        have HXN := Lib.hid hnx1
        clear hal hbw hbg hdg hrs' hN0 hN1 hc
        go_wp2_with fail
        clear hw6 hXB
        go_region_held3 (fun W => W.cell? ⟨XB, 0, none⟩ = some (.slice q3 nx.length f3) ∧ W.cell? ⟨XB, 1, none⟩ = some (.slice q4 nL.length f4)) (first | exact HKX.out _ (Below.refl _ _) | exact HKX.out _ (Below.refl _ _).drew | exact HKX.out _ (alloc_below w6 _) | exact HKX.out _ (alloc_below w6 _).drew | exact HX7.out.cell | exact (HX7.out.kept (Below.refl _ _).drew HX7.out.lt).cell | exact ((HX7.out.other HXN.out 0 _).other HXN.out 1 _).cell | exact (((HX7.out.other HXN.out 0 _).other HXN.out 1 _).kept (Below.refl _ _).drew ((HX7.out.other HXN.out 0 _).other HXN.out 1 _).lt).cell | go_keep)
          (first | (refine step_str (by rfl) (.tmp 36) (.tmp 38) (by rfl) Bo (.slice p3 m e3) (cT.map bs) tb m HM.out _ w6.heap.size (by rfl) (by rfl) (by exact cell_one_new w6 (.string tb) 9 0 _ rfl) (by first | exact HO6.out _ (alloc_below w6 _) | exact HO6.out _ (alloc_below w6 _).drew) (by have := HMK.out; omega) (by first | exact HBO.out | exact HBO2.out) ?_; intro g7 c7 w7 ho7 hb7 hu7 hf7; have HRR := Lib.hid (HR6.out.round HDG.out HRS.out HB6.out (W0 := _) (by first | exact alloc_below w6 (.cells #[.string tb] 9) | exact (alloc_below w6 (.cells #[.string tb] 9)).drew) hu7 (by rw [List.map_append]; show OwnS w7 Bo _ (cT.map bs ++ [bs nT]); rw [HTB.out]; exact ho7) hf7 rfl); have HX7 := Lib.hid (HRR.out.2.2 _ _ _ HX.out HSZ.out); have hn0 := HRR.out.1.n.cell.1; have hn1 := HRR.out.1.n.cell.2; have hn2 := HRR.out.1.n.frozen 0; have hn3 := HRR.out.1.n.frozen 1; clear ho7 hb7 hu7 hf7))
        all_goals
          have HRS1 := Lib.hid (HRR.out.2.1 _ (.inl rfl)); have HRS2 := Lib.hid (HRR.out.2.1 _ (.inr rfl))
          go_wp2_with fail
          go_roundw
          case rel => exact ⟨k + 1, _, _, _, rs', by omega, by go_num, Lib.hid rfl, Lib.hid (by rw [HNX.out]; first | exact HRS1.out | exact HRS2.out | exact HRS1.out.kept (Below.refl _ _).drew | exact HRS2.out.kept (Below.refl _ _).drew)⟩
          case measure => simp [intOf]; omega
      · have hki : ¬ (k : Int) < (n : Int) := by omega
        have hkn : k = n := by omega
        have htl : ts.take k = ts := List.take_of_length_le (by rw [HN.out]; omega)
        rw [htl] at hcx hcL hcT
        have e1' := HF1.out.trans hcx; have e2' := HF2.out.trans hcL; have e3' := HF3.out.trans hcT
        subst e1'; subst e2'; subst e3'
        have HDN := Lib.hid H.out.done
        have hr0 := H.out.r.cell.1; have hr1 := H.out.r.cell.2; have hr2 := H.out.r.frozen 0; have hr3 := H.out.r.frozen 1
        have HRB := Lib.hid H.out.r
        clear hkn hk htl hcx hcL hcT hrd hdkk
        go_wp2_with fail
        refine bodyPost_ret (results_desk rfl _ _ (w.heap.size + 1) ((HRB.out.set0 _).set1 _) rfl rfl (by kernel_rfl)) rfl ?_
        exact ⟨_, _, _, rfl, HDN.out⟩
  · have hok : syB xs L (lnsL ts) = false := by simpa using hok
    obtain ⟨f1, f2, f3⟩ := sy_no (A := ansW) hok
    rw [f1, f2, f3]
    unfold syB at hok
    rw [lns_len, hlen] at hok
    have HG0 := Lib.hid (show ∀ W, Below w.heap.size w W → GivesS [] [] [] w W (.slice none 0 0) (.slice none 0 0) (.slice none 0 0) from fun W hW => ⟨[], ⟨OwnX.nil _ _ _, Fams.none _ _ _, fun g hg => by simp [Value.ownBlock] at hg⟩, rfl, World.ownsRow_nil _ _ _ _, fun g hg => by simp [Value.ownBlock] at hg, hW⟩)
    cases hdk : deskB xs L with
    | false =>
      have HDK := Lib.hid hdk
      clear hok f1 f2 f3 hdk hlen
      go_enter Tryz.func25, Tryz.ntmps25
      go_wp2_with fail
      clear hw2
      refine (DeskOk_any _ xs L _ HV.out.d).mono ?_
      rintro e w3 ⟨rfl, hb⟩
      rw [HDK.out]
      replace HBR := Lib.hid (HBR.out.kept hb HBR.out.lt); replace HB := Lib.hid (below_onto HB.out hb)
      clear hb hd0 hd1
      have hx0 := HBR.out.cell.1; have hx1 := HBR.out.cell.2; have hx2 := HBR.out.frozen 0; have hx3 := HBR.out.frozen 1
      go_wp2_with fail
      refine bodyPost_ret (results_desk rfl _ _ (w.heap.size + 1) ((HBR.out.set0 (.slice none 0 0)).set1 (.slice none 0 0)) rfl rfl (by kernel_rfl)) rfl ?_
      exact ⟨_, _, _, rfl, HG0.out _ ((HB.out.setCell (p := ⟨w.heap.size + 1, 0, none⟩) (show w.heap.size ≤ w.heap.size + 1 by omega) _).setCell (p := ⟨w.heap.size + 1, 1, none⟩) (show w.heap.size ≤ w.heap.size + 1 by omega) _)⟩
    | true =>
      rw [hdk, Bool.true_and, decide_eq_false_iff_not] at hok
      have h40b : decide ((40 : Int) < (n : Int)) = true := decide_eq_true (by omega)
      have HDK := Lib.hid hdk
      clear hok f1 f2 f3 hdk hlen
      go_enter Tryz.func25, Tryz.ntmps25
      go_wp2_with fail
      clear hw2
      refine (DeskOk_any _ xs L _ HV.out.d).mono ?_
      rintro e w3 ⟨rfl, hb⟩
      rw [HDK.out]
      replace HBR := Lib.hid (HBR.out.kept hb HBR.out.lt); replace HB := Lib.hid (below_onto HB.out hb)
      clear hb hd0 hd1
      have hx0 := HBR.out.cell.1; have hx1 := HBR.out.cell.2; have hx2 := HBR.out.frozen 0; have hx3 := HBR.out.frozen 1
      go_wp2_with fail
      refine bodyPost_ret (results_desk rfl _ _ (w.heap.size + 1) ((HBR.out.set0 (.slice none 0 0)).set1 (.slice none 0 0)) rfl rfl (by kernel_rfl)) rfl ?_
      exact ⟨_, _, _, rfl, HG0.out _ ((HB.out.setCell (p := ⟨w.heap.size + 1, 0, none⟩) (show w.heap.size ≤ w.heap.size + 1 by omega) _).setCell (p := ⟨w.heap.size + 1, 1, none⟩) (show w.heap.size ≤ w.heap.size + 1 by omega) _)⟩
theorem append_str {ops : Array Oper} {rest : List Oper} {o : Oper} {a : Act} {Q : Exit → Act → World → Prop} (hgd : o.guard = none) (s x : Operand)
    (ho : o.op = .call { callee := .builtin .append, args := #[s, x], argTypes := #[48, 48] })
    (B : Nat) (v : Value) (ts : List ByteArray) (t : ByteArray) (n : Nat) (hn : ts.length = n) (w : World) (hs : a.eval s = v) (hx : a.eval x = .slice (some ⟨w.heap.size, 0, none⟩) 1 1) (h : OwnS w B v ts) (hl : n ≤ 1000) (hB : B ≤ w.heap.size)
    (hk : ∀ g c w', OwnS w' B (.slice (some ⟨g, 0, none⟩) (n + 1) c) (ts ++ [t]) → Below B w w' → Upon (fun q => v.ownBlock = some q) w w' → (v.ownBlock = some g ∨ g = w.heap.size + 1) → wpList Tryz.prog ops Q rest (a.put o.dst (.slice (some ⟨g, 0, none⟩) (n + 1) c)) w') :
    wpList Tryz.prog ops Q (o :: rest) a (w.alloc (.cells #[.string t] 9)) := by
  subst hn
  obtain ⟨i0, hii, hz0, hz1, hz2⟩ := info_str
  refine wpList_append_own_at _ hgd s x 48 ho B 9 i0 (.string { data := #[] }) 1 16 Tryz.underlying48 hii hz0 hz1 hz2 rfl (by decide) v ts.length (ts.map Value.string) hs (World.ownsRow.alloc h _) ⟨w.heap.size, 0, none⟩ 1 1 [.string t] hx rfl (fun j u hj => cell_one_new w (.string t) 9 j u hj)
    (by intro u hu; simp at hu; subst hu; rfl) (by unfold maxLen; omega) (by omega) (by rw [alloc_size]; omega) ?_
  intro v' w' hown hgrow _ hat
  have hat' : v'.ownBlock = v.ownBlock ∨ v'.ownBlock = some (w.heap.size + 1) := by rw [alloc_size] at hat; exact hat
  have hup : Upon (fun q => v.ownBlock = some q) w w' := by
    have q1 : Upon (fun q => v.ownBlock = some q) w (w.alloc (.cells #[.string t] 9)) := (Upon.refl _ _).alloc _
    exact q1.trans (Upon.of_grown hgrow) (fun i _ e => e)
  obtain ⟨g, c, rfl⟩ := row_succ hown (by decide)
  exact hk g c w' (OwnS.snoc hown) (hup.below (fun k hk => (World.ownsRow.lt h k hk).1) hB) hup (by
    rcases hat' with e | e
    · exact .inl e.symm
    · exact .inr (by injection e))
def CutY (w : World) (ys : List Int) (M : List (List Int)) (tb : ByteArray) (s1 s2 : Value) (wx : World) : Prop :=
  ∃ b T v1 v2 rs, s1 = .pointer (some ⟨b, 0, none⟩) ∧ s2 = .string tb ∧ DeskV wx w.heap.size T b v1 v2 ys rs ∧ rs.map Fr.xs = M ∧ T ≤ wx.heap.size ∧ Below w.heap.size w wx
theorem cutY_last {w w8 w9 : World} {v1 v2 : Value} {ys : List Int} {M : List (List Int)} {tb : ByteArray} (h : GivesD ys M w8 w9 v1 v2) (hb : Below w.heap.size w w9) (hs : w.heap.size ≤ w8.heap.size) :
    CutY w ys M tb (.pointer (some ⟨w9.heap.size, 0, none⟩)) (.string tb) (w9.alloc (.cells #[v1, v2] 31)) := by
  obtain ⟨rs, hv, hr⟩ := deskV_of h
  exact ⟨_, _, _, _, rs, rfl, rfl, hv.base hs, hr, by rw [alloc_size]; exact Nat.le_refl _, hb.alloc hb.size _⟩
theorem cutY_set {w w8 w9 : World} {b : Nat} {v1 v2 : Value} {ys : List Int} {M : List (List Int)} {tb : ByteArray} (h : GivesD ys M w8 w9 v1 v2) (hz : Blk2 w9 b 31 (.slice none 0 0) (.slice none 0 0)) (hl : b < w8.heap.size) (hb : Below w.heap.size w w9) (hwb : w.heap.size ≤ b) :
    CutY w ys M tb (.pointer (some ⟨b, 0, none⟩)) (.string tb) ((w9.setCell ⟨b, 0, none⟩ v1).setCell ⟨b, 1, none⟩ v2) := by
  obtain ⟨rs, hg, hrs, hb2⟩ := h
  have hsz : ((w9.setCell ⟨b, 0, none⟩ v1).setCell ⟨b, 1, none⟩ v2).heap.size = w9.heap.size := by simp [World.setCell]
  exact ⟨b, w9.heap.size, _, _, rs, rfl, rfl, ⟨(hz.set0 v1).set1 v2, ((hg.put (p := ⟨b, 0, none⟩) hl).put (p := ⟨b, 1, none⟩) hl).base (by omega), fun e => by have := (hg.ltB _ e).1; omega, hwb, hz.lt, fun q hq => (hg.ltB q hq).2⟩, hrs, by rw [hsz]; exact Nat.le_refl _, (hb.setCell (p := ⟨b, 0, none⟩) hwb _).setCell (p := ⟨b, 1, none⟩) hwb _⟩
set_option maxRecDepth 100000 in
theorem specDeskSay_any (d : Value) (xs : List Int) (L : List (List Int)) (a1 : Option Addr) (n c1 : Nat) (ts : List ByteArray) (w : World) (h : DeskR w d xs L) (hts : TxsIn w a1 n ts) (hsm : ∀ t ∈ ts, t.size ≤ 1048600) :
    Calls Tryz.prog 26 #[d, .slice a1 n c1] w (SayEnd (syX ansW xs L (lnsL ts)) (syL ansW xs L (lnsL ts)) (syT ansW xs L (lnsL ts)) w) := by
  have hdd := h
  obtain ⟨a, c, b, c2, rfl, _⟩ := h.parts
  have q1 := alloc_below w (.cells #[.slice a xs.length c, .slice b L.length c2] 31)
  have q2 := alloc_below (w.alloc (.cells #[.slice a xs.length c, .slice b L.length c2] 31)) (.cells #[.slice none 0 0, .slice none 0 0] 31)
  have HV := Lib.hid ((VarD.new hdd).kept q2)
  have hbr := Blk2.new (w.alloc (.cells #[.slice a xs.length c, .slice b L.length c2] 31)) 31 (.slice none 0 0) (.slice none 0 0)
  rw [alloc_size] at hbr
  have HBR := Lib.hid hbr
  have HB := Lib.hid (below_onto q1 q2)
  have HW2 := Lib.hid (show ((w.alloc (.cells #[.slice a xs.length c, .slice b L.length c2] 31)).alloc (.cells #[.slice none 0 0, .slice none 0 0] 31)).heap.size = w.heap.size + 2 by rw [alloc_size, alloc_size])
  obtain ⟨w2, hw2⟩ : ∃ w2, (w.alloc (.cells #[.slice a xs.length c, .slice b L.length c2] 31)).alloc (.cells #[.slice none 0 0, .slice none 0 0] 31) = w2 := ⟨_, rfl⟩
  rw [hw2] at HV HBR HB HW2
  have qm := alloc_below w2 (.cells #[] 9)
  have HOM := Lib.hid (OwnS.made w2 w2.heap.size (Nat.le_refl _))
  have HVP := Lib.hid (HV.out.kept qm); have HBRP := Lib.hid (HBR.out.kept qm HBR.out.lt); have HBP := Lib.hid (below_onto HB.out qm)
  have HWP := Lib.hid (show (w2.alloc (.cells #[] 9)).heap.size = w.heap.size + 3 by rw [alloc_size, HW2.out])
  obtain ⟨wm, hwm⟩ : ∃ wm, w2.alloc (.cells #[] 9) = wm := ⟨_, rfl⟩
  obtain ⟨Bm, hBm⟩ : ∃ Bm, w2.heap.size = Bm := ⟨_, rfl⟩
  have HBM := Lib.hid (show Bm = w.heap.size + 2 from hBm.symm.trans HW2.out)
  rw [hwm] at HOM HVP HBRP HBP HWP
  rw [hBm] at HOM
  clear HV HBR HB HW2 qm
  have HV := HVP; have HBR := HBRP; have HB := HBP; have HW2 := HWP
  clear HVP HBRP HBP HWP
  have hd0 := HV.out.blk.cell.1; have hd1 := HV.out.blk.cell.2
  have HTS := Lib.hid hts; have HSM := Lib.hid hsm;
  have hnbig := hts.big
  have hlen := hts.len
  have HN := Lib.hid hlen
  clear h hdd q1 q2 hbr hts hsm
  by_cases hok : syB xs L (lnsL ts) = true
  · obtain ⟨f1, f2, f3⟩ := sy_yes (A := ansW) hok
    have hok' := hok
    unfold syB at hok'
    rw [Bool.and_eq_true, decide_eq_true_eq, lns_len, hlen] at hok'
    obtain ⟨hdk, h40⟩ := hok'
    have HDK := Lib.hid hdk
    have hkd := fun k => say_desk ansW xs L hdk (lnsL (ts.take k))
    have HKD := Lib.hid hkd
    obtain ⟨rX, hrX⟩ : ∃ rX, syX ansW xs L (lnsL ts) = rX := ⟨_, rfl⟩
    obtain ⟨rL, hrL⟩ : ∃ rL, syL ansW xs L (lnsL ts) = rL := ⟨_, rfl⟩
    obtain ⟨rT, hrT⟩ : ∃ rT, syT ansW xs L (lnsL ts) = rT := ⟨_, rfl⟩
    rw [hrX, hrL, hrT]
    have HF1 := Lib.hid (hrX.symm.trans f1); have HF2 := Lib.hid (hrL.symm.trans f2); have HF3 := Lib.hid (hrT.symm.trans f3)
    have h40b : decide ((40 : Int) < (n : Int)) = false := decide_eq_false (by omega)
    clear hok f1 f2 f3 hdk hkd hrX hrL hrT hlen
    go_enter Tryz.func26, Tryz.ntmps26
    go_wp2_with fail
    clear hw2 hwm hBm
    refine (specDeskOk_any _ xs L _ HV.out.d).mono ?_
    rintro e w3 ⟨rfl, hb⟩
    rw [HDK.out]
    replace HV := Lib.hid (HV.out.kept hb); replace HBR := Lib.hid (HBR.out.kept hb HBR.out.lt); replace HB := Lib.hid (below_onto HB.out hb); replace HOM := Lib.hid (HOM.out.kept hb)
    have HW3 := Lib.hid (show w.heap.size + 3 ≤ w3.heap.size by have := hb.size; have := HW2.out; omega)
    clear hb hd0 hd1
    have hd0 := HV.out.blk.cell.1; have hd1 := HV.out.blk.cell.2
    go_wp2_with fail
    refine (l12Copy_any _ xs L HDK.out _ HV.out.d).mono ?_
    rintro e w4 ⟨v1, v2, rfl, hgo⟩
    have hg := hgo.desk
    obtain ⟨p1, e1, rfl⟩ := hg.one
    obtain ⟨p2, e2, rfl⟩ := hg.two
    have hbg := hg.below
    obtain ⟨rs, hdg, hrs, _⟩ := hg
    have hal := alloc_below w4 (.cells #[.slice p1 xs.length e1, .slice p2 L.length e2] 31)
    have hb := below_onto hbg hal
    have hom := HOM.out.kept hb
    have hlm := World.ownsRow.lt HOM.out Bm rfl
    have hst : SyS w Bm w3.heap.size w4.heap.size (.slice a xs.length c) (.slice b L.length c2) (sayD ansW xs L (lnsL (ts.take 0))).1 (sayD ansW xs L (lnsL (ts.take 0))).2.1 (sayD ansW xs L (lnsL (ts.take 0))).2.2 (.slice p1 xs.length e1) (.slice p2 L.length e2) (.slice (some ⟨Bm, 0, none⟩) 0 0) rs (w4.alloc (.cells #[.slice p1 xs.length e1, .slice p2 L.length e2] 31)) :=
      ⟨(HV.out.kept hb).blk, HBR.out.kept hb HBR.out.lt, Blk2.new w4 _ _ _, hdg.kept hal, hrs, hom, fun g e hq => by
        have e' : g = Bm := by injection e with e; exact e.symm
        have := (hdg.ltB g hq).1
        omega, fun e => by
        have e' : Bm = w4.heap.size := by injection e
        have := hbg.size
        omega, by have := HBM.out; omega, by omega, hbg.size, below_onto HB.out hb⟩
    have HST := Lib.hid hst
    obtain ⟨Bo, hBo⟩ : ∃ Bo, w3.heap.size = Bo := ⟨_, rfl⟩
    obtain ⟨N, hN⟩ : ∃ N, w4.heap.size = N := ⟨_, rfl⟩
    obtain ⟨w5, hw5⟩ : ∃ w5, w4.alloc (.cells #[.slice p1 xs.length e1, .slice p2 L.length e2] 31) = w5 := ⟨_, rfl⟩
    rw [hBo, hN, hw5] at HST
    clear hst hdg hrs hal hb hbg hd0 hd1 hBo hgo hom hlm
    go_wp2_with fail
    clear hw5 hN
    go_loopw [6, 8, 9, 10] (fun v i _ _ wr => ∃ (k : Nat) (v1 v2 v3 : Value) (rs : List Fr), k ≤ n ∧ i = .int .i64 k ∧ Hid (v3 = v) ∧ Hid (SyS w Bm Bo N (.slice a xs.length c) (.slice b L.length c2) (sayD ansW xs L (lnsL (ts.take k))).1 (sayD ansW xs L (lnsL (ts.take k))).2.1 (sayD ansW xs L (lnsL (ts.take k))).2.2 v1 v2 v3 rs wr)) (fun _ i _ _ _ => n - (intOf i).toNat)
    case atStart => exact ⟨0, _, _, _, rs, Nat.zero_le _, rfl, Lib.hid rfl, HST⟩
    case round =>
      clear HST
      obtain ⟨k, v1, v2, v3, rs, hk, rfl, HVE, H⟩ := hrel
      have hve := HVE.out
      subst hve
      clear HVE
      obtain ⟨cx, hcx⟩ : ∃ cx, (sayD ansW xs L (lnsL (ts.take k))).1 = cx := ⟨_, rfl⟩
      obtain ⟨cL, hcL⟩ : ∃ cL, (sayD ansW xs L (lnsL (ts.take k))).2.1 = cL := ⟨_, rfl⟩
      obtain ⟨cT, hcT⟩ : ∃ cT, (sayD ansW xs L (lnsL (ts.take k))).2.2 = cT := ⟨_, rfl⟩
      have hdkk := HKD.out k
      have hcl := say_len ansW xs L (lnsL (ts.take k))
      rw [hcx, hcL] at hdkk
      rw [hcT, lns_len] at hcl
      rw [hcx, hcL, hcT] at H
      have hok := okD_desk hdkk
      obtain ⟨p1, e1, rfl⟩ := H.out.g.now.slice
      obtain ⟨p2, e2, hp2⟩ := H.out.g.past.seq.slice
      have hrl : (rs.map Fr.v).length = cL.length := by rw [← H.out.m, List.length_map, List.length_map]
      rw [hrl] at hp2
      subst hp2
      have hrd := hok.nine.read H.out.g H.out.m
      obtain ⟨p3, e3, hp3⟩ := H.out.o.slice
      obtain ⟨m, hm⟩ : ∃ m, (cT.map bs).length = m := ⟨_, rfl⟩
      rw [hm] at hp3
      subst hp3
      have HM := Lib.hid hm
      have HMK := Lib.hid (show m ≤ 41 by rw [← hm, List.length_map, hcl, List.length_take]; omega)
      have hN0 := H.out.n.cell.1; have hN1 := H.out.n.cell.2
      have HRD := Lib.hid hrd
      have HKK := Lib.hid hdkk
      clear hrl hm hcl
      by_cases hlt : k < n
      · have hki : (k : Int) < (n : Int) := by omega
        have hk0 : (0 : Int) ≤ (k : Int) := by omega
        obtain ⟨bk, o, rfl, t, htk, hcell⟩ := HTS.out.at hlt
        have hc := hcell wr H.out.bel
        have hnx := say_next (xs := xs) (L := L) htk
        rw [hcx, hcL, hcT] at hnx
        have hts9 := HSM.out t (List.mem_of_getElem? htk)
        obtain ⟨nx, hnxx⟩ : ∃ nx, liX cx cL t.data.toList = nx := ⟨_, rfl⟩
        obtain ⟨nL, hnL⟩ : ∃ nL, liL cx cL t.data.toList = nL := ⟨_, rfl⟩
        obtain ⟨nT, hnT⟩ : ∃ nT, liT ansW cx cL t.data.toList = nT := ⟨_, rfl⟩
        rw [hnxx, hnL, hnT] at hnx
        have HNX := Lib.hid hnx
        obtain ⟨tb, htb⟩ : ∃ tb, bs nT = tb := ⟨_, rfl⟩
        have HTB := Lib.hid htb
        have HC := Lib.hid (show ∀ W, Below wr.heap.size wr W → Calls Tryz.prog 21 #[.agg #[.slice p1 cx.length e1, .slice p2 cL.length e2], .string t] W fun e w' => ∃ v1 v2, e = .returned (.tuple #[.agg #[v1, v2], .string tb]) ∧ GivesD nx nL W w' v1 v2 from fun W hW => by
          have := specDeskLine_any _ cx cL t hts9 W (HRD.out.kept hW)
          unfold LineD at this
          rw [hnxx, hnL, hnT, htb] at this
          exact this)
        have HKS := Lib.hid (show ∀ W, Below wr.heap.size wr W → (W.cell? ⟨N, 0, none⟩ = some (.slice p1 cx.length e1) ∧ W.cell? ⟨N, 1, none⟩ = some (.slice p2 cL.length e2) ∧ W.cell? ⟨bk, o + k, none⟩ = some (.string t)) from fun W hW => ⟨(H.out.n.kept hW H.out.n.lt).cell.1, (H.out.n.kept hW H.out.n.lt).cell.2, hcell W (below_onto H.out.bel hW)⟩)
        clear hrd hdkk hcell hcx hcL hcT hok hnx hnxx hnL hnT htb hts9 htk
        go_upto_region 8 with fail
        go_cut [9, 10] (fun s1 s2 wx => CutY wr nx nL tb s1 s2 wx)
        case first =>
          clear hN0 hN1 hc
          have HB6 := Lib.hid (Below.refl wr.heap.size wr)
          go_region_held3 (fun W => W.cell? ⟨N, 0, none⟩ = some (.slice p1 cx.length e1) ∧ W.cell? ⟨N, 1, none⟩ = some (.slice p2 cL.length e2) ∧ W.cell? ⟨bk, o + k, none⟩ = some (.string t)) (first | exact HKS.out _ HB6.out | exact HKS.out _ HB6.out.drew | exact HKS.out _ (HB6.out.alloc HB6.out.size _) | exact HKS.out _ (HB6.out.alloc HB6.out.size _).drew | exact HKS.out _ ((HB6.out.setCell (p := ⟨_, 0, none⟩) (Nat.le_refl _) _).setCell (p := ⟨_, 1, none⟩) (Nat.le_refl _) _) | exact HKS.out _ ((HB6.out.setCell (p := ⟨_, 0, none⟩) HS9.out _).setCell (p := ⟨_, 1, none⟩) HS9.out _) | go_keep)
            (first | (go_at_call 21; refine (HC.out _ (by first | with_reducible exact HB6.out | with_reducible exact HB6.out.drew | with_reducible exact HB6.out.alloc HB6.out.size _ | with_reducible exact (HB6.out.alloc HB6.out.size _).drew)).mono ?_; rintro e w13 ⟨v3, v4, rfl, hg9⟩; obtain ⟨z1, z2, rfl⟩ := hg9.one; obtain ⟨z3, z4, rfl⟩ := hg9.two; (first | (have HZL := Lib.hid (alloc_lt3 wr (.cells #[.slice none 0 0, .slice none 0 0] 31)); have HZB : Hid (Blk2 w13 wr.heap.size 31 (.slice none 0 0) (.slice none 0 0)) := Lib.hid (by first | with_reducible exact blk2_new_dr3 hg9.below | with_reducible exact blk2_new_al3 hg9.below)) | skip); (try (have hx0 := HZB.out.cell.1; have hx1 := HZB.out.cell.2; have hx2 := HZB.out.frozen 0; have hx3 := HZB.out.frozen 1)); have HG9 := Lib.hid hg9; have HS9 := Lib.hid (show wr.heap.size ≤ w13.heap.size from (below_onto (show Below wr.heap.size wr _ from (by first | with_reducible exact HB6.out | with_reducible exact HB6.out.drew | with_reducible exact HB6.out.alloc HB6.out.size _ | with_reducible exact (HB6.out.alloc HB6.out.size _).drew)) hg9.below).size); have HZ := Lib.hid (below_onto (show Below wr.heap.size wr _ from (by first | with_reducible exact HB6.out | with_reducible exact HB6.out.drew | with_reducible exact HB6.out.alloc HB6.out.size _ | with_reducible exact (HB6.out.alloc HB6.out.size _).drew)) hg9.below); clear HB6; have HB6 := HZ; clear HZ; clear hg9))
          all_goals
            go_wp2_with fail
            go_meet
            first
              | exact cutY_last HG9.out HB6.out (Nat.le_refl _)
              | exact cutY_set HG9.out HZB.out HZL.out HB6.out (Nat.le_refl _)
        case rest =>
        obtain ⟨w12, hw12⟩ : ∃ w12, w12 = wc := ⟨_, rfl⟩
        subst hw12
        obtain ⟨bb, TT, v5, v6, rs', rfl, rfl, hdv, hrs', _, hbx⟩ := hcut
        obtain ⟨q3, f3, rfl⟩ := hdv.g.now.slice
        obtain ⟨q4, f4, hp4⟩ := hdv.g.past.seq.slice
        have hrl4 : (rs'.map Fr.v).length = nL.length := by rw [← hrs', List.length_map, List.length_map]
        rw [hrl4] at hp4
        subst hp4
        have hh := H.out.kept hbx
        have HLN := Lib.hid (show N < wr.heap.size from H.out.n.lt)
        have hp := hh.put hdv.g hrs' HLN.out (fun q e hq => by
          have h1 := (hdv.g.ltB q hq).1
          have h2 := (World.ownsRow.lt H.out.o q e).2
          omega)
        have HP := Lib.hid hp
        have hx0 := hdv.blk.cell.1; have hx1 := hdv.blk.cell.2
        have hn0 := hh.n.cell.1; have hn1 := hh.n.cell.2; have hn2 := hh.n.frozen 0; have hn3 := hh.n.frozen 1
        obtain ⟨ws, hws⟩ : ∃ ws, (w12.setCell ⟨N, 0, none⟩ (.slice q3 nx.length f3)).setCell ⟨N, 1, none⟩ (.slice q4 nL.length f4) = ws := ⟨_, rfl⟩
        rw [hws] at HP
        have HBS := Lib.hid (show Bm ≤ ws.heap.size by have h1 := HP.out.lb; have h2 := HP.out.bn; have h3 := HP.out.n.lt; omega)
        have HMN := Lib.hid (show m ≤ 1000 by have := HMK.out; omega)
        clear hh hdv hrs' hbx hp hrl4 HKS HC
        go_wp2_with (at_builtin; refine append_str rfl (.tmp 40) (.tmp 42) rfl Bm (.slice p3 m e3) (cT.map bs) tb m HM.out _ rfl rfl HP.out.o HMN.out HBS.out ?_)
        intro g7 c7 w7 ho7 hb7 hu7 hf7
        have ho8 : OwnS w7 Bm (.slice (some ⟨g7, 0, none⟩) (m + 1) c7) ((cT ++ [nT]).map bs) := by
          rw [List.map_append]
          show OwnS w7 Bm _ (cT.map bs ++ [bs nT])
          rw [HTB.out]
          exact ho7
        have HRS1 := Lib.hid (HP.out.app hu7 ho8 (by
          rcases hf7 with e | e
          · exact .inl e.symm
          · exact .inr ⟨g7, rfl, by omega⟩))
        clear ho7 hb7 hu7 hf7 ho8 hws hx0 hx1 hn0 hn1 hn2 hn3 hN0 hN1 hc
        go_wp2_with fail
        go_roundw
        case rel => exact ⟨k + 1, _, _, _, rs', by omega, by go_num, Lib.hid rfl, Lib.hid (by rw [HNX.out]; exact HRS1.out)⟩
        case measure => simp [intOf]; omega
      · have hki : ¬ (k : Int) < (n : Int) := by omega
        have hkn : k = n := by omega
        have htl : ts.take k = ts := List.take_of_length_le (by rw [HN.out]; omega)
        rw [htl] at hcx hcL hcT
        have e1' := HF1.out.trans hcx; have e2' := HF2.out.trans hcL; have e3' := HF3.out.trans hcT
        subst e1'; subst e2'; subst e3'
        have HDN := Lib.hid H.out.done
        have hr0 := H.out.r.cell.1; have hr1 := H.out.r.cell.2; have hr2 := H.out.r.frozen 0; have hr3 := H.out.r.frozen 1
        have HRB := Lib.hid H.out.r
        clear hkn hk htl hcx hcL hcT hrd hdkk
        go_wp2_with fail
        refine bodyPost_ret (results_desk rfl _ _ (w.heap.size + 1) ((HRB.out.set0 _).set1 _) rfl rfl (by kernel_rfl)) rfl ?_
        exact ⟨_, _, _, rfl, HDN.out⟩
  · have hok : syB xs L (lnsL ts) = false := by simpa using hok
    obtain ⟨f1, f2, f3⟩ := sy_no (A := ansW) hok
    rw [f1, f2, f3]
    unfold syB at hok
    rw [lns_len, hlen] at hok
    have HG0 := Lib.hid (show ∀ W, Below w.heap.size w W → OwnS W w.heap.size (.slice (some ⟨Bm, 0, none⟩) 0 0) [] → GivesS [] [] [] w W (.slice none 0 0) (.slice none 0 0) (.slice (some ⟨Bm, 0, none⟩) 0 0) from fun W hW hO => ⟨[], ⟨OwnX.nil _ _ _, Fams.none _ _ _, fun g hg => by simp [Value.ownBlock] at hg⟩, rfl, hO, fun g _ hq => by rcases hq with hq | hq | ⟨r, hr, _⟩ <;> first | (simp [Value.ownBlock] at hq) | (cases hr), hW⟩)
    have HNM := Lib.hid (show (Value.slice (some ⟨Bm, 0, none⟩) 0 0).ownBlock ≠ some (w.heap.size + 1) from fun e => by (injection e with e'; have := HBM.out; have e2 : Bm = w.heap.size + 1 := e'; omega))
    cases hdk : deskB xs L with
    | false =>
      have HDK := Lib.hid hdk
      clear hok f1 f2 f3 hdk hlen
      go_enter Tryz.func26, Tryz.ntmps26
      go_wp2_with fail
      clear hw2 hwm hBm
      refine (specDeskOk_any _ xs L _ HV.out.d).mono ?_
      rintro e w3 ⟨rfl, hb⟩
      rw [HDK.out]
      replace HOM := Lib.hid (HOM.out.kept hb); replace HBR := Lib.hid (HBR.out.kept hb HBR.out.lt); replace HB := Lib.hid (below_onto HB.out hb)
      clear hb hd0 hd1
      have hx0 := HBR.out.cell.1; have hx1 := HBR.out.cell.2; have hx2 := HBR.out.frozen 0; have hx3 := HBR.out.frozen 1
      go_wp2_with fail
      refine bodyPost_ret (results_desk rfl _ _ (w.heap.size + 1) ((HBR.out.set0 (.slice none 0 0)).set1 (.slice none 0 0)) rfl rfl (by kernel_rfl)) rfl ?_
      exact ⟨_, _, _, rfl, HG0.out _ ((HB.out.setCell (p := ⟨w.heap.size + 1, 0, none⟩) (show w.heap.size ≤ w.heap.size + 1 by omega) _).setCell (p := ⟨w.heap.size + 1, 1, none⟩) (show w.heap.size ≤ w.heap.size + 1 by omega) _) (((HOM.out.put (p := ⟨w.heap.size + 1, 0, none⟩) HNM.out).put (p := ⟨w.heap.size + 1, 1, none⟩) HNM.out).base (by have := HBM.out; omega))⟩
    | true =>
      rw [hdk, Bool.true_and, decide_eq_false_iff_not] at hok
      have h40b : decide ((40 : Int) < (n : Int)) = true := decide_eq_true (by omega)
      have HDK := Lib.hid hdk
      clear hok f1 f2 f3 hdk hlen
      go_enter Tryz.func26, Tryz.ntmps26
      go_wp2_with fail
      clear hw2 hwm hBm
      refine (specDeskOk_any _ xs L _ HV.out.d).mono ?_
      rintro e w3 ⟨rfl, hb⟩
      rw [HDK.out]
      replace HOM := Lib.hid (HOM.out.kept hb); replace HBR := Lib.hid (HBR.out.kept hb HBR.out.lt); replace HB := Lib.hid (below_onto HB.out hb)
      clear hb hd0 hd1
      have hx0 := HBR.out.cell.1; have hx1 := HBR.out.cell.2; have hx2 := HBR.out.frozen 0; have hx3 := HBR.out.frozen 1
      go_wp2_with fail
      refine bodyPost_ret (results_desk rfl _ _ (w.heap.size + 1) ((HBR.out.set0 (.slice none 0 0)).set1 (.slice none 0 0)) rfl rfl (by kernel_rfl)) rfl ?_
      exact ⟨_, _, _, rfl, HG0.out _ ((HB.out.setCell (p := ⟨w.heap.size + 1, 0, none⟩) (show w.heap.size ≤ w.heap.size + 1 by omega) _).setCell (p := ⟨w.heap.size + 1, 1, none⟩) (show w.heap.size ≤ w.heap.size + 1 by omega) _) (((HOM.out.put (p := ⟨w.heap.size + 1, 0, none⟩) HNM.out).put (p := ⟨w.heap.size + 1, 1, none⟩) HNM.out).base (by have := HBM.out; omega))⟩
theorem OwnS.slc {w : World} {B : Nat} {v : Value} {ts : List ByteArray} (h : OwnS w B v ts) (hl : ts.length ≤ 1000) :
    ∃ p cp, v = .slice p ts.length cp ∧ DAd p cp ts.length ∧ TxsIn w p ts.length ts ∧ ∀ g, p = some ⟨g, 0, none⟩ → B ≤ g := by
  by_cases h0 : ts.length = 0
  · rcases h.2 with ⟨h1, h2⟩ | ⟨g, cap, cur, hv, hBg, hg, hc, _⟩
    · exact ⟨none, 0, by rw [h0]; exact h1, ⟨by omega, .inl ⟨rfl, rfl⟩⟩, ⟨rfl, by omega, .inl h0⟩, fun g e => by cases e⟩
    · exact ⟨some ⟨g, 0, none⟩, cap, hv, ⟨hc, .inr ⟨g, rfl⟩⟩, ⟨rfl, by omega, .inl h0⟩, fun g' e => by injection e with e; injection e with e; omega⟩
  · rcases h.2 with ⟨h1, h2⟩ | ⟨g, cap, cur, hv, hBg, hg, hc, hr⟩
    · omega
    · have key : ∀ i (hi : i < ts.length), g < w.heap.size ∧ w.cell? ⟨g, 0 + i, none⟩ = some (.string ts[i]) := fun i hi => by
        obtain ⟨g2, c2, e2, _, hl2, hcell⟩ := h.at hi
        rw [hv] at e2
        injection e2 with e2
        injection e2 with e2
        injection e2 with e2
        subst e2
        rw [Nat.zero_add]
        exact ⟨hl2, hcell⟩
      exact ⟨some ⟨g, 0, none⟩, cap, hv, ⟨hc, .inr ⟨g, rfl⟩⟩, ⟨rfl, by omega, .inr ⟨g, 0, rfl, (key 0 (by omega)).1, fun i hi => (key i hi).2⟩⟩, fun g' e => by injection e with e; injection e with e; omega⟩
def dgs : Nat → Nat → List UInt8 → List UInt8
  | 0, _, acc => acc
  | f + 1, k, acc => if k = 0 then acc else dgs f (k / 10) (UInt8.ofNat (48 + k % 10) :: acc)
def mkT (k : Nat) : ByteArray := if k = 0 then bs [109, 48] else bs (109 :: dgs 20 k [])
theorem dgs_zero (f : Nat) (acc : List UInt8) : dgs f 0 acc = acc := by cases f <;> rfl
theorem dgs_step {f k : Nat} (h : k ≠ 0) (acc : List UInt8) : dgs (f + 1) k acc = dgs f (k / 10) (UInt8.ofNat (48 + k % 10) :: acc) := by
  rw [dgs, if_neg h]
theorem run_str_u8 (w : World) (c : UInt8) : (convert 22 9 (.slice (some ⟨w.heap.size, 0, none⟩) 1 1)).run Tryz.prog (w.alloc (.cells #[.int .u8 (c.toNat : Int)] 5)) = .ok (.string (bs [c])) (w.alloc (.cells #[.int .u8 (c.toNat : Int)] 5)) := by
  have := run_convert_bytes_back (P := Tryz.prog) (w.alloc (.cells #[.int .u8 (c.toNat : Int)] 5)) 22 9 5 ⟨w.heap.size, 0, none⟩ 1 [c] Tryz.underlying22 Tryz.underlying5 Tryz.underlying9 (fun j hj => by
    have hj0 : j = 0 := by simpa using hj
    subst hj0
    rw [Addr.add_lit, Nat.zero_add]
    exact cell_one_new w (.int .u8 (c.toNat : Int)) 5 0 _ rfl)
  exact this
theorem bs_push (c : UInt8) (acc : List UInt8) : bs [c] ++ bs acc = bs (c :: acc) := by
  unfold bs
  rfl
set_option maxRecDepth 100000 in
theorem markText_any (k : Nat) (hk : k ≤ 8796093022208) (w : World) :
    Calls Tryz.prog 98 #[.int .i64 (k : Int)] w fun e w' => e = .returned (.string (mkT k)) ∧ Below w.heap.size w w' := by
  by_cases h0 : k = 0
  · subst h0
    go_enter Tryz.func98, Tryz.ntmps98
    go_wp2_with fail
    go_ret
    exact ⟨rfl, Below.refl _ _⟩
  have hd0 : decide ((k : Int) ≤ 0) = false := decide_eq_false (by omega)
  have HB := Lib.hid (Below.refl w.heap.size w)
  have HT := Lib.hid (show bs (109 :: dgs 20 k []) = mkT k by unfold mkT; rw [if_neg h0])
  go_enter Tryz.func98, Tryz.ntmps98
  go_wp2_with fail
  go_loopw [0, 3] (fun v d wr => ∃ (f j : Nat) (acc : List UInt8), v = .int .i64 j ∧ d = .string (bs acc) ∧ j ≤ 8796093022208 ∧ j < 10 ^ f ∧ acc.length + f = 20 ∧ dgs f j acc = dgs 20 k [] ∧ Hid (Below w.heap.size w wr)) (fun v _ _ => (intOf v).toNat)
  case atStart => exact ⟨20, k, [], rfl, rfl, hk, by omega, rfl, rfl, HB⟩
  case round =>
    clear HB
    obtain ⟨f, j, acc, rfl, rfl, hj, hjf, hal, hdg, HB⟩ := hrel
    by_cases hj0 : 0 < j
    · have hji : (0 : Int) < (j : Int) := by omega
      obtain ⟨f', rfl⟩ : ∃ f', f = f' + 1 := ⟨f - 1, by cases f with | zero => simp at hjf; omega | succ f => simp⟩
      rw [dgs_step (by omega)] at hdg
      have hm : (j : Int).tmod 10 = ((j % 10 : Nat) : Int) := by rw [Int.tmod_eq_emod_of_nonneg (by omega)]; omega
      have hq : (j : Int).tdiv 10 = ((j / 10 : Nat) : Int) := by rw [Int.tdiv_eq_ediv_of_nonneg (by omega)]; omega
      obtain ⟨r, hr⟩ : ∃ r, j % 10 = r := ⟨_, rfl⟩
      have hr9 : r < 10 := by omega
      obtain ⟨c, hc⟩ : ∃ c, UInt8.ofNat (48 + r) = c := ⟨_, rfl⟩
      have hcn : (c.toNat : Int) = 48 + (r : Int) := by rw [← hc]; simp [UInt8.toNat_ofNat']; omega
      rw [hr] at hm hdg
      rw [hc] at hdg
      have hcv := fun W => run_str_u8 W c
      rw [hcn] at hcv
      have hadd := run_add_str (bs [c]) (bs acc) (by rw [bs_size, bs_size]; simp; omega)
      have hw1 : IntKind.i64.wrap (48 + (r : Int)) = 48 + (r : Int) := IntWalk.i64_in _ (by omega)
      have hw2 : IntKind.u8.wrap (48 + (r : Int)) = 48 + (r : Int) := by unfold IntKind.wrap; simp [IntKind.bits]; omega
      have HD := Lib.hid hdg
      rw [bs_push] at hadd
      have HL := Lib.hid (show (c :: acc).length + f' = 20 by simp; omega)
      have HJ := Lib.hid (show j / 10 < 10 ^ f' by rw [Nat.pow_succ] at hjf; omega)
      clear hdg hc hcn hjf hal hr
      go_wp2_with fail
      go_roundw
      case rel => exact ⟨f', j / 10, c :: acc, rfl, rfl, by omega, HJ.out, HL.out, HD.out, Lib.hid (HB.out.alloc HB.out.size _)⟩
      case measure => simp [intOf]; omega
    · have hji : ¬ (0 : Int) < (j : Int) := by omega
      have hj00 : j = 0 := by omega
      subst hj00
      rw [dgs_zero] at hdg
      have hadd := run_add_str (bs [109]) (bs acc) (by rw [bs_size, bs_size]; simp; omega)
      rw [bs_push, show bs (109 :: acc) = mkT k by rw [hdg]; exact HT.out] at hadd
      replace hadd : ∀ W, (Op.stringOp .add { data := #[109] } (bs acc)).run Tryz.prog W = .ok (.string (mkT k)) W := hadd
      clear hdg
      go_wp2_with fail
      go_ret
      exact ⟨rfl, HB.out⟩
def TRow (w : World) (g cap : Nat) (F : Nat → ByteArray) : Prop := w.rowIs g 9 cap (fun i => .string (F i))
theorem TRow.set {w : World} {g cap : Nat} {F : Nat → ByteArray} (h : TRow w g cap F) (i : Nat) (t : ByteArray) : TRow (w.setCell ⟨g, i, none⟩ (.string t)) g cap (fun j => if j = i then t else F j) := by
  refine (World.rowIs.set h i (.string t)).congr (fun j _ => ?_)
  dsimp only
  by_cases e : j = i
  · rw [if_pos e, if_pos e]
  · rw [if_neg e, if_neg e]
theorem TRow.congr {w : World} {g cap : Nat} {F G : Nat → ByteArray} (h : TRow w g cap F) (e : ∀ i, i < cap → F i = G i) : TRow w g cap G := World.rowIs.congr h (fun i hi => congrArg Value.string (e i hi))
theorem run_made_str (n : Nat) (hn : n ≤ 1048576) (w : World) : (Instr.makeSlice 48 (.int .i64 (n : Int)) (.int .i64 (n : Int))).run Tryz.prog w =
    .ok (.slice (some ⟨w.heap.size, 0, none⟩) n n) (w.alloc (.cells (madeCells #[.string { data := #[] }] n) 9)) := by
  obtain ⟨i, hi, hz, hs, hb⟩ := info_str
  exact run_make_row 48 9 i _ Tryz.underlying48 hi hz hs rfl .i64 .i64 n (by rw [hb]; omega) (by omega) w
def CopyT (ts : List ByteArray) (n : Nat) (w : World) (e : Ending) (w' : World) : Prop :=
  e = .returned (.slice (some ⟨w.heap.size, 0, none⟩) n n) ∧ TRow w' w.heap.size n (fun i => ts.getD i ByteArray.empty) ∧ Below w.heap.size w w'
theorem TRow.txs {w : World} {g n : Nat} {ts : List ByteArray} (h : TRow w g n (fun i => ts.getD i ByteArray.empty)) (hl : ts.length = n) (hn : n ≤ 1048576) : TxsIn w (some ⟨g, 0, none⟩) n ts := by
  refine ⟨hl, by omega, .inr ⟨g, 0, rfl, World.rowIs.lt h, fun i hi => ?_⟩⟩
  rw [Nat.zero_add, World.rowIs.cell h (by omega)]
  show some (Value.string (ts.getD i ByteArray.empty)) = _
  rw [List.getD_eq_getElem?_getD, List.getElem?_eq_getElem hi]; rfl
set_option maxRecDepth 100000 in
theorem toStringS_any (a : Option Addr) (n cap : Nat) (ts : List ByteArray) (hn : n ≤ 1048576) (w : World) (h : TxsIn w a n ts) :
    Calls Tryz.prog 35 #[.slice a n cap] w (CopyT ts n w) := by
  have H := Lib.hid h; clear h
  have hmk := run_made_str n hn
  have hmade : TRow (w.alloc (.cells (madeCells #[.string { data := #[] }] n) 9)) w.heap.size n (fun j => if j < 0 then ts.getD j ByteArray.empty else { data := #[] }) :=
    (World.rowIs_made w (.string { data := #[] }) n 9).congr (fun j _ => by dsimp only; rw [if_neg (by omega)])
  have hbel := alloc_below w (.cells (madeCells #[.string { data := #[] }] n) 9)
  go_enter Tryz.func35, Tryz.ntmps35
  go_wp2_with fail
  go_loopw [4] (fun i wr => ∃ k : Nat, k ≤ n ∧ i = .int .i64 k ∧ Hid (TRow wr w.heap.size n (fun j => if j < k then ts.getD j ByteArray.empty else { data := #[] })) ∧ Hid (Below w.heap.size w wr)) (fun i _ => n - (intOf i).toNat)
  case atStart => exact ⟨0, Nat.zero_le _, rfl, Lib.hid hmade, Lib.hid hbel⟩
  case round =>
    obtain ⟨k, hk, rfl, HR, HB⟩ := hrel
    clear hmade hbel
    by_cases hlt : k < n
    · have hki : (k : Int) < (n : Int) := by omega
      have hk0 : (0 : Int) ≤ (k : Int) := by omega
      obtain ⟨bk, off, rfl, t, htk, hcell⟩ := H.out.at hlt
      have hc := hcell wr HB.out
      have hd := World.rowIs.cell HR.out hlt
      dsimp only at hd
      rw [if_neg (Nat.lt_irrefl k)] at hd
      have hf := World.rowIs.frozen HR.out k
      have HN := Lib.hid (show TRow (wr.setCell ⟨w.heap.size, k, none⟩ (.string t)) w.heap.size n (fun j => if j < k + 1 then ts.getD j ByteArray.empty else { data := #[] }) from
        TRow.congr (TRow.set HR.out k t) (fun j _ => by
          by_cases e1 : j = k
          · subst e1
            rw [if_pos rfl, if_pos (by omega), List.getD_eq_getElem?_getD, htk]; rfl
          · rw [if_neg e1]
            by_cases e2 : j < k
            · rw [if_pos e2, if_pos (by omega)]
            · rw [if_neg e2, if_neg (by omega)]))
      have HB2 := Lib.hid (HB.out.setCell (p := ⟨w.heap.size, k, none⟩) (Nat.le_refl _) (.string t))
      clear hcell htk HR HB
      go_wp2_with fail
      go_roundw
      case rel => exact ⟨k + 1, by omega, by go_num, HN, HB2⟩
      case measure => simp [intOf]; omega
    · have hki : ¬ (k : Int) < (n : Int) := by omega
      have hkn : k = n := by omega
      subst hkn
      go_wp2_with fail
      go_ret
      exact ⟨rfl, TRow.congr HR.out (fun i hi => by rw [if_pos hi]), HB.out⟩
def SzSEnd (ts : List ByteArray) (n : Nat) (w : World) (e : Ending) (w' : World) : Prop := (e = .returned (.int .i64 (-1)) ∨ ∃ m0 : Nat, e = .returned (.int .i64 (m0 : Int)) ∧ n ≤ 1048576 ∧ ∀ t ∈ ts, t.size ≤ 1048576) ∧ w = w'
set_option maxRecDepth 100000 in
theorem szStringS_any (a : Option Addr) (n cap : Nat) (ts : List ByteArray) (hsz : ∀ t ∈ ts, t.size ≤ maxLen) (m : Nat) (hm : m ≤ 1048576) (w : World) (h : TxsIn w a n ts) :
    Calls Tryz.prog 34 #[.slice a n cap, .int .i64 (m : Int)] w (SzSEnd ts n w) := by
  have H := Lib.hid h; have hbig := h.big; have hlen := h.len; have HSZ := Lib.hid hsz; clear h hsz
  have hw : IntKind.i64.wrap ((m : Int) - n) = (m : Int) - n := wrap_in _ (by unfold I64; omega)
  by_cases hmn : m < n
  · have hd : decide ((m : Int) - (n : Int) < 0) = true := decide_eq_true (by omega)
    go_enter Tryz.func34, Tryz.ntmps34
    go_wp2_with fail
    go_ret
    exact ⟨.inl rfl, rfl⟩
  · have hd : decide ((m : Int) - (n : Int) < 0) = false := decide_eq_false (by omega)
    obtain ⟨m1, hm1⟩ : ∃ m1 : Nat, (m : Int) - (n : Int) = (m1 : Int) := ⟨m - n, by omega⟩
    have hm1b : m1 ≤ 1048576 := by omega
    have hnb : n ≤ 1048576 := by omega
    rw [hm1] at hd hw
    go_enter Tryz.func34, Tryz.ntmps34
    go_wp2_with fail
    go_loop [1, 5] (fun v i => ∃ k j : Nat, k ≤ n ∧ i = .int .i64 k ∧ v = .int .i64 (j : Int) ∧ j ≤ 1048576 ∧ Hid (∀ q (hq : q < ts.length), q < k → ts[q].size ≤ 1048576)) (fun _ i => n - (intOf i).toNat)
    case atStart => exact ⟨0, m1, Nat.zero_le _, rfl, by first | rfl | rw [hm1], hm1b, Lib.hid (fun q _ h => absurd h (Nat.not_lt_zero _))⟩
    case round =>
      obtain ⟨k, j, hk, rfl, rfl, hj, HQ⟩ := hrel
      clear hd hw
      by_cases hlt : k < n
      · have hki : (k : Int) < (n : Int) := by omega
        have hk0 : (0 : Int) ≤ (k : Int) := by omega
        obtain ⟨bk, off, rfl, t, htk, hcell⟩ := H.out.at hlt
        have hc := hcell w (Below.refl _ _)
        have htm := HSZ.out t (List.mem_of_getElem? htk)
        have hw2 : IntKind.i64.wrap ((j : Int) - t.size) = (j : Int) - t.size := wrap_in _ (by unfold I64; unfold maxLen at htm; omega)
        clear hcell
        by_cases hjt : j < t.size
        · have hd2 : decide ((j : Int) - (t.size : Int) < 0) = true := decide_eq_true (by omega)
          clear htk htm
          go_wp2_with fail
          go_ret
          exact ⟨.inl rfl, rfl⟩
        · have hd2 : decide ((j : Int) - (t.size : Int) < 0) = false := decide_eq_false (by omega)
          obtain ⟨j1, hj1⟩ : ∃ j1 : Nat, (j : Int) - (t.size : Int) = (j1 : Int) := ⟨j - t.size, by omega⟩
          have HQ2 := Lib.hid (show ∀ q (hq : q < ts.length), q < k + 1 → ts[q].size ≤ 1048576 from fun q hq h => by
            by_cases e : q = k
            · subst e
              have := (List.getElem?_eq_some_iff.1 htk).2
              rw [this]; omega
            · exact HQ.out q hq (by omega))
          have hj1b : j1 ≤ 1048576 := by omega
          rw [hj1] at hd2 hw2
          clear htk htm HQ
          go_wp2_with fail
          go_round
          case rel => exact ⟨k + 1, j1, by omega, by go_num, by first | rfl | rw [hj1], hj1b, HQ2⟩
          case measure => simp [intOf]; omega
      · have hki : ¬ (k : Int) < (n : Int) := by omega
        go_wp2_with fail
        go_ret
        exact ⟨.inr ⟨j, rfl, hnb, fun t ht => by
          obtain ⟨q, hq, rfl⟩ := List.getElem_of_mem ht
          exact HQ.out q hq (by omega)⟩, rfl⟩
set_option maxRecDepth 100000 in
theorem eqStringS_any (a1 a2 : Option Addr) (ts : List ByteArray) (c1 c2 n : Nat) (w : World) (h1 : TxsIn w a1 n ts) (h2 : TxsIn w a2 n ts) :
    Calls Tryz.prog 36 #[.slice a1 n c1, .slice a2 n c2] w fun e w' => e = .returned (.bool true) ∧ Below w.heap.size w w' := by
  have H1 := Lib.hid h1; have H2 := Lib.hid h2; have hbig := h1.big; clear h1 h2
  have hnn : ((n : Int) != (n : Int)) = false := by simp
  go_enter Tryz.func36, Tryz.ntmps36
  go_wp2_with fail
  go_loopw [5] (fun i wr => ∃ k : Nat, k ≤ n ∧ i = .int .i64 k ∧ Hid (Below w.heap.size w wr)) (fun i _ => n - (intOf i).toNat)
  case atStart => exact ⟨0, Nat.zero_le _, rfl, Lib.hid (Below.refl _ _)⟩
  case round =>
    obtain ⟨k, hk, rfl, HB⟩ := hrel
    by_cases hlt : k < n
    · have hki : (k : Int) < (n : Int) := by omega
      have hk0 : (0 : Int) ≤ (k : Int) := by omega
      obtain ⟨b1, o1, rfl, t, ht1, hc1⟩ := H1.out.at hlt
      obtain ⟨b2, o2, rfl, t2, ht2, hc2⟩ := H2.out.at hlt
      rw [ht1] at ht2
      injection ht2 with ht2
      subst ht2
      have q1 := hc1 wr HB.out
      have q2 := hc2 wr HB.out
      have hne : (t.toList != t.toList) = false := by simp
      clear hc1 hc2 ht1
      go_wp2_with fail
      go_quiet (fail)
      all_goals
        go_wp2_with fail
        go_roundw
        case rel => exact ⟨k + 1, by omega, by go_num, Lib.hid (by first | exact HB.out | exact HB.out.drew | exact below_drewN HB.out _)⟩
        case measure => simp [intOf]; omega
    · have hki : ¬ (k : Int) < (n : Int) := by omega
      go_wp2_with fail
      go_ret
      exact ⟨rfl, HB.out⟩
def Held (w : World) (p : Option Addr) (n s : Nat) : Prop := TxsIn w p n ((List.range n).map (fun i => mkT (s + i)))
set_option maxRecDepth 100000 in
theorem heldStringS_any (p : Option Addr) (n c s : Nat) (hs : s + n ≤ 8796093022208) (w : World) (h : Held w p n s) :
    Calls Tryz.prog 38 #[.slice p n c, .int .i64 (s : Int)] w fun e w' => e = .returned (.int .i64 ((s + n : Nat) : Int)) ∧ Below w.heap.size w w' := by
  have H := Lib.hid h; clear h
  go_enter Tryz.func38, Tryz.ntmps38
  go_wp2_with fail
  go_loopw [1, 5] (fun v i wr => ∃ k : Nat, k ≤ n ∧ i = .int .i64 k ∧ v = .int .i64 ((s + k : Nat) : Int) ∧ Hid (Below w.heap.size w wr)) (fun _ i _ => n - (intOf i).toNat)
  case atStart => exact ⟨0, Nat.zero_le _, rfl, rfl, Lib.hid (Below.refl _ _)⟩
  case round =>
    obtain ⟨k, hk, rfl, rfl, HB⟩ := hrel
    by_cases hlt : k < n
    · have hki : (k : Int) < (n : Int) := by omega
      have hk0 : (0 : Int) ≤ (k : Int) := by omega
      obtain ⟨bk, o, rfl, t, htk, hcell⟩ := H.out.at hlt
      obtain ⟨sk, hsk⟩ : ∃ sk, s + k = sk := ⟨_, rfl⟩
      have htm : mkT sk = t := by
        have := (List.getElem?_eq_some_iff.1 htk).2
        rw [List.getElem_map, List.getElem_range, hsk] at this
        exact this
      rw [hsk]
      have HMT := Lib.hid (show ∀ W, Calls Tryz.prog 98 #[.int .i64 (sk : Int)] W fun e w' => e = .returned (.string t) ∧ Below W.heap.size W w' from fun W => by
        have := markText_any sk (by omega) W
        rw [htm] at this
        exact this)
      have HKS := Lib.hid (show ∀ W, Below w.heap.size w W → W.cell? ⟨bk, o + k, none⟩ = some (.string t) from hcell)
      have hne : (t.toList != t.toList) = false := by simp
      have hnx : (sk : Int) + 1 = ((s + (k + 1) : Nat) : Int) := by omega
      have hc0 := hcell wr HB.out
      clear hcell htk htm
      go_wp2_with fail
      go_region_held3 (fun W => W.cell? ⟨bk, o + k, none⟩ = some (.string t)) (first | exact HKS.out _ HB.out | exact HKS.out _ HB.out.drew | exact HKS.out _ (below_drewN HB.out _) | go_keep)
        (first | (go_at_call 98; refine (HMT.out _).mono ?_; rintro e w5 ⟨rfl, hb5⟩; have HZ := Lib.hid (show Below w.heap.size w w5 from (by first | exact below_onto HB.out hb5 | exact below_onto HB.out.drew hb5 | exact below_onto (below_drewN HB.out _) hb5)); clear HB; have HB := HZ; clear HZ hb5))
      all_goals
        go_wp2_with fail
        go_roundw
        case rel => exact ⟨k + 1, by omega, by go_num, by first | rfl | exact congrArg _ hnx | rw [hnx], Lib.hid (by first | exact HB.out | exact HB.out.drew | exact below_drewN HB.out _)⟩
        case measure => simp [intOf]; omega
    · have hki : ¬ (k : Int) < (n : Int) := by omega
      have hkn : k = n := by omega
      subst hkn
      go_wp2_with fail
      go_ret
      exact ⟨rfl, HB.out⟩
theorem GivesS.desk {ys : List Int} {M : List (List Int)} {us : List (List UInt8)} {w w' : World} {v1 v2 v3 : Value} (h : GivesS ys M us w w' v1 v2 v3) : GivesD ys M w w' v1 v2 := by
  obtain ⟨rs, h1, h2, _, _, h5⟩ := h
  exact ⟨rs, h1, h2, h5⟩
theorem sy_okD (xs : List Int) (L : List (List Int)) (ls : List (List UInt8)) : okD (syX ansW xs L ls) (syL ansW xs L ls) := by
  cases h : syB xs L ls with
  | true =>
    obtain ⟨e1, e2, _⟩ := sy_yes (A := ansW) h
    rw [e1, e2]
    unfold syB at h
    rw [Bool.and_eq_true] at h
    exact okD_desk (say_desk ansW xs L h.1 ls)
  | false =>
    obtain ⟨e1, e2, _⟩ := sy_no (A := ansW) h
    rw [e1, e2]
    exact okD_nil
theorem syT_len (xs : List Int) (L : List (List Int)) (ls : List (List UInt8)) : (syT ansW xs L ls).length ≤ 40 := by
  cases h : syB xs L ls with
  | true =>
    obtain ⟨_, _, e3⟩ := sy_yes (A := ansW) h
    rw [e3, say_len]
    unfold syB at h
    rw [Bool.and_eq_true, decide_eq_true_eq] at h
    exact h.2
  | false =>
    obtain ⟨_, _, e3⟩ := sy_no (A := ansW) h
    rw [e3]; simp
def SzDEndB (xs : List Int) (L : List (List Int)) (w : World) (e : Ending) (w' : World) : Prop :=
  (∃ r : Int, e = .returned (.int .i64 r) ∧ (r = -1 ∨ ∃ m : Nat, r = m ∧ m ≤ 1048576 ∧ xs.length ≤ 1048576 ∧ L.length ≤ 1048576 ∧ ∀ l ∈ L, l.length ≤ 1048576)) ∧ Below w.heap.size w w'
set_option maxRecDepth 100000 in
theorem szDeskB_any (d : Value) (xs : List Int) (L : List (List Int)) (w : World) (h : DeskR w d xs L) :
    Calls Tryz.prog 29 #[d, .int .i64 1048576] w (SzDEndB xs L w) := by
  obtain ⟨a, c, b, c2, rfl, hi, hn⟩ := h.parts
  have h63 := hi.1.1
  have hal := alloc_below w (.cells #[.slice a xs.length c, .slice b L.length c2] 54)
  have hblk := Blk2.new w 54 (.slice a xs.length c) (.slice b L.length c2)
  have HN := Lib.hid (hn.kept hal); have HAL := Lib.hid hal; have HBL := Lib.hid hblk
  clear h hi hn hal hblk
  by_cases hs : xs.length ≤ 1048576
  · go_enter Tryz.func29, Tryz.ntmps29
    go_wp2_with fail
    refine (szIntS_any a xs.length c h63 1048576 (Nat.le_refl _) _).mono ?_
    rintro e w1 ⟨rfl, rfl⟩
    rw [if_pos hs]
    obtain ⟨m, hm⟩ : ∃ m : Nat, 1048576 - xs.length = m := ⟨_, rfl⟩
    have hmk : m ≤ 1048576 := by omega
    have hge : decide ((m : Int) < 0) = false := decide_eq_false (by omega)
    rw [hm]
    clear hm
    have hc1 := HBL.out.cell.2
    go_wp2_with fail
    refine (szNest_any b L c2 m hmk _ HN.out).mono ?_
    rintro e w2 ⟨r, rfl, hr, hb⟩
    have HB := Lib.hid (below_onto HAL.out hb)
    clear hb hc1 hge
    rcases hr with rfl | ⟨p, rfl, hp, hLk, hlk⟩
    · go_wp2_with fail
      go_ret
      exact ⟨⟨_, rfl, .inl rfl⟩, HB.out⟩
    · have hge : decide ((p : Int) < 0) = false := decide_eq_false (by omega)
      have HLK := Lib.hid hlk
      clear hlk
      go_wp2_with fail
      go_ret
      exact ⟨⟨_, rfl, .inr ⟨p, rfl, by omega, hs, by omega, fun l hl => Nat.le_trans (HLK.out l hl) hmk⟩⟩, HB.out⟩
  · go_enter Tryz.func29, Tryz.ntmps29
    go_wp2_with fail
    refine (szIntS_any a xs.length c h63 1048576 (Nat.le_refl _) _).mono ?_
    rintro e w1 ⟨rfl, rfl⟩
    rw [if_neg hs]
    go_wp2_with fail
    go_ret
    exact ⟨⟨_, rfl, .inl rfl⟩, HAL.out⟩
theorem OwnS.upon {F : Nat → Prop} {w w' : World} {B : Nat} {v : Value} {ts : List ByteArray} (h : OwnS w B v ts) (hu : Upon F w w') (hF : ∀ g, v.ownBlock = some g → ¬ F g) : OwnS w' B v ts :=
  ownsRow_kept h (fun g hg => hu.block g (World.ownsRow.lt h g hg).2 (hF g hg))
theorem TRow.own {w : World} {g n : Nat} {ts : List ByteArray} (h : TRow w g n (fun i => ts.getD i ByteArray.empty)) (hl : ts.length = n) (hn : n ≤ 1048576) : OwnS w g (.slice (some ⟨g, 0, none⟩) n n) ts := by
  obtain ⟨c, hb, hc, hr⟩ := h
  refine ⟨by rw [List.length_map, Nat.mul_one], .inr ⟨g, n, c, by rw [hl], Nat.le_refl _, hb, by omega, by unfold maxLen; omega, by omega, ?_⟩⟩
  rw [hl, Nat.mul_one, List.take_of_length_le (by rw [Array.length_toList]; omega)]
  apply List.ext_getElem?
  intro i
  by_cases hi : i < n
  · rw [Array.getElem?_toList, hr i hi, List.getElem?_map, List.getElem?_eq_getElem (by omega)]
    show some (Value.string (ts.getD i ByteArray.empty)) = some (.string ts[i])
    rw [List.getD_eq_getElem?_getD, List.getElem?_eq_getElem (by omega)]; rfl
  · rw [List.getElem?_eq_none (by rw [Array.length_toList]; omega), List.getElem?_eq_none (by rw [List.length_map]; omega)]
def TRw (w : World) (g n : Nat) (F : Nat → ByteArray) : Prop := ∃ cap f, w.rowIs g 9 cap f ∧ n ≤ cap ∧ ∀ i, i < n → f i = .string (F i)
theorem TRw.of_own {w : World} {B g n c : Nat} {ts : List ByteArray} (h : OwnS w B (.slice (some ⟨g, 0, none⟩) n c) ts) (hl : ts.length = n) : TRw w g n (fun i => ts.getD i ByteArray.empty) := by
  rcases h.2 with ⟨h1, _⟩ | ⟨g', cap, cur, hv, _, hg, hc, _, hs, ht⟩
  · injection h1 with h1; cases h1
  · injection hv with hv
    injection hv with hv
    injection hv with hv
    subst hv
    refine ⟨cap, fun i => cur.getD i undef, ⟨cur, hg, by omega, fun i hi => ?_⟩, by omega, fun i hi => ?_⟩
    · have : i < cur.size := by omega
      rw [Array.getElem?_eq_getElem this]
      simp [Array.getD, this]
    · have hi' : i < ts.length := by omega
      have h2 := congrArg (fun l => l[i]?) ht
      simp only [List.getElem?_map, List.getElem?_eq_getElem hi', Option.map_some] at h2
      rw [List.getElem?_take, if_pos (by omega), Array.getElem?_toList] at h2
      have hcs : i < cur.size := by omega
      rw [Array.getElem?_eq_getElem hcs] at h2
      injection h2 with h2
      show cur.getD i undef = .string (ts.getD i ByteArray.empty)
      rw [List.getD_eq_getElem?_getD, List.getElem?_eq_getElem hi']
      simp [Array.getD, hcs, h2]
theorem TRw.cell {w : World} {g n : Nat} {F : Nat → ByteArray} (h : TRw w g n F) {i : Nat} (hi : i < n) : w.cell? ⟨g, i, none⟩ = some (.string (F i)) := by
  obtain ⟨cap, f, h1, h2, h3⟩ := h
  rw [World.rowIs.cell h1 (by omega), h3 i hi]
theorem TRw.frozen {w : World} {g n : Nat} {F : Nat → ByteArray} (h : TRw w g n F) (i : Nat) : w.frozen? ⟨g, i, none⟩ = false := by
  obtain ⟨cap, f, h1, _, _⟩ := h
  exact World.rowIs.frozen h1 i
theorem TRw.lt {w : World} {g n : Nat} {F : Nat → ByteArray} (h : TRw w g n F) : g < w.heap.size := by
  obtain ⟨cap, f, h1, _, _⟩ := h
  exact World.rowIs.lt h1
theorem TRw.of_block {w w' : World} {g n : Nat} {F : Nat → ByteArray} (h : TRw w g n F) (e : w'.heap[g]? = w.heap[g]?) : TRw w' g n F := by
  obtain ⟨cap, f, h1, h2, h3⟩ := h
  exact ⟨cap, f, World.rowIs.of_block h1 e, h2, h3⟩
theorem TRw.set {w : World} {g n : Nat} {F : Nat → ByteArray} (h : TRw w g n F) (i : Nat) (t : ByteArray) : TRw (w.setCell ⟨g, i, none⟩ (.string t)) g n (fun j => if j = i then t else F j) := by
  obtain ⟨cap, f, h1, h2, h3⟩ := h
  refine ⟨cap, _, World.rowIs.set h1 i (.string t), h2, fun j hj => ?_⟩
  dsimp only
  by_cases e : j = i
  · rw [if_pos e, if_pos e]
  · rw [if_neg e, if_neg e]; exact h3 j hj
def MarkO (p : Option Addr) (n c s : Nat) (w : World) (e : Ending) (w' : World) : Prop :=
  e = .returned (.int .i64 ((s + n : Nat) : Int)) ∧ Held w' p n s ∧ Upon (fun q => (Value.slice p n c).ownBlock = some q) w w'
set_option maxRecDepth 100000 in
theorem markOwn_any (p : Option Addr) (n c s B : Nat) (ts : List ByteArray) (hl : ts.length = n) (hs : s + n ≤ 8796093022208) (w : World) (h : OwnS w B (.slice p n c) ts) :
    Calls Tryz.prog 37 #[.slice p n c, .int .i64 (s : Int)] w (MarkO p n c s w) := by
  by_cases h0 : n = 0
  · subst h0
    have HE := Lib.hid (show Held w p 0 s from ⟨rfl, by omega, .inl rfl⟩)
    clear h hl
    go_enter Tryz.func37, Tryz.ntmps37
    go_wp2_with fail
    go_loopw [1, 5] (fun v i wr => i = .int .i64 0 ∧ v = .int .i64 (s : Int) ∧ wr = w) (fun _ _ _ => 0)
    case atStart => exact ⟨rfl, rfl, rfl⟩
    case round =>
      obtain ⟨rfl, rfl, rfl⟩ := hrel
      go_wp2_with fail
      go_ret
      exact ⟨rfl, HE.out, Upon.refl _ _⟩
  · obtain ⟨g, rfl⟩ : ∃ g, p = some ⟨g, 0, none⟩ := by
      rcases h.2 with ⟨h1, h2⟩ | ⟨g, cap, cur, hv, _⟩
      · omega
      · injection hv with hv; exact ⟨g, hv⟩
    have HR := Lib.hid (TRw.of_own h hl); clear h
    have hpos : 0 < n := by omega
    go_enter Tryz.func37, Tryz.ntmps37
    go_wp2_with fail
    go_loopw [1, 5] (fun v i wr => ∃ k : Nat, k ≤ n ∧ i = .int .i64 k ∧ v = .int .i64 ((s + k : Nat) : Int) ∧ (∃ F, Hid (TRw wr g n F) ∧ Hid (∀ j, j < k → F j = mkT (s + j))) ∧ Hid (Upon (fun q => (Value.slice (some ⟨g, 0, none⟩) n c).ownBlock = some q) w wr)) (fun _ i _ => n - (intOf i).toNat)
    case atStart => exact ⟨0, Nat.zero_le _, rfl, rfl, ⟨_, HR, Lib.hid (fun j h => absurd h (Nat.not_lt_zero _))⟩, Lib.hid (Upon.refl _ _)⟩
    case round =>
      clear HR
      obtain ⟨k, hk, rfl, rfl, ⟨G, HR, HM⟩, HU⟩ := hrel
      by_cases hlt : k < n
      · have hki : (k : Int) < (n : Int) := by omega
        have hk0 : (0 : Int) ≤ (k : Int) := by omega
        obtain ⟨sk, hsk⟩ : ∃ sk, s + k = sk := ⟨_, rfl⟩
        rw [hsk]
        go_wp2_with fail
        refine (markText_any sk (by omega) _).mono ?_
        rintro e w5 ⟨rfl, hb⟩
        have HR5 := Lib.hid (HR.out.of_block (hb.block g HR.out.lt))
        have HU5 := Lib.hid (HU.out.trans (Upon.of_below hb) (fun i _ e => e))
        have hd := HR5.out.cell hlt
        have hf := HR5.out.frozen k
        have HN := Lib.hid (HR5.out.set k (mkT sk))
        have HMN := Lib.hid (show ∀ j, j < k + 1 → (fun j => if j = k then mkT sk else G j) j = mkT (s + j) from fun j hj => by
          dsimp only
          by_cases e : j = k
          · rw [if_pos e, e, hsk]
          · rw [if_neg e]; exact HM.out j (by omega))
        have HUN := Lib.hid (show Upon (fun q => (Value.slice (some ⟨g, 0, none⟩) n c).ownBlock = some q) w (w5.setCell ⟨g, k, none⟩ (.string (mkT sk))) from HU5.out.put rfl k _)
        obtain ⟨tm, htm⟩ : ∃ tm, mkT sk = tm := ⟨_, rfl⟩
        have hnx : (sk : Int) + 1 = ((s + (k + 1) : Nat) : Int) := by omega
        rw [htm] at HN HMN HUN ⊢
        clear hb htm HR HM HU
        go_wp2_with fail
        go_roundw
        case rel => exact ⟨k + 1, by omega, by go_num, by first | rfl | exact congrArg _ hnx | rw [hnx], ⟨_, HN, HMN⟩, HUN⟩
        case measure => simp [intOf]; omega
      · have hki : ¬ (k : Int) < (n : Int) := by omega
        have hkn : k = n := by omega
        subst hkn
        have HE := Lib.hid (show Held wr (some ⟨g, 0, none⟩) k s from ⟨by simp, by omega, .inr ⟨g, 0, rfl, HR.out.lt, fun i hi => by
          have hi' : i < k := by simpa using hi
          rw [Nat.zero_add, HR.out.cell hi', HM.out i hi', List.getElem_map, List.getElem_range]⟩⟩)
        go_wp2_with fail
        go_ret
        exact ⟨rfl, HE.out, HU.out⟩
theorem dkBl_mk {v1 v2 : Value} {s : Nat} {rs : List Fr} {q : Nat} (hq : DkBl v1 v2 (mkF s rs) q) : DkBl v1 v2 rs q := by
  rcases hq with hq | hq
  · exact .inl hq
  · exact .inr (FB_mk.1 hq)
end Go.Proofs.YthaickihoagnmaaGreatDoor
