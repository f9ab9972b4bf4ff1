import Derived.Test.YthaickihoagnmaaGreatDoorQA13
import Derived.Lib.LaidTab
import Derived.LaidMore
import Derived.Stop.LaidErr
import Derived.ProofKit
import Derived.OpenShut
import Derived.Stop.Joined
namespace Go.Proofs.YthaickihoagnmaaGreatDoor
set_option linter.unusedVariables false
set_option linter.unusedSimpArgs false
open Go.RowKit Go.Maps
set_option maxRecDepth 100000 in
set_option maxHeartbeats 3200000 in
theorem specLine_no (d : Value) (xs : List Int) (L : List (List Int)) (s : ByteArray) (hdk : deskB xs L = false) (w : World) (h : DeskR w d xs L) :
    Calls Tryz.prog 21 #[d, .string s] w (LineD [] [] [] w) := by
  have HDK := Lib.hid hdk
  clear hdk
  have hdd := h
  obtain ⟨a, c, b, c2, rfl, _⟩ := h.parts
  have q1 := alloc_below w (.cells #[.slice a xs.length c, .slice b L.length c2] 31)
  have q2 := alloc_below (w.alloc (.cells #[.slice a xs.length c, .slice b L.length c2] 31)) (.cells #[.slice none 0 0, .slice none 0 0] 31)
  have HV := Lib.hid ((VarD.new hdd).kept q2)
  have hbr := Blk2.new (w.alloc (.cells #[.slice a xs.length c, .slice b L.length c2] 31)) 31 (.slice none 0 0) (.slice none 0 0)
  rw [alloc_size] at hbr
  have HBR := Lib.hid hbr
  have HB := Lib.hid (below_onto q1 q2)
  obtain ⟨w2, hw2⟩ : ∃ w2, (w.alloc (.cells #[.slice a xs.length c, .slice b L.length c2] 31)).alloc (.cells #[.slice none 0 0, .slice none 0 0] 31) = w2 := ⟨_, rfl⟩
  rw [hw2] at HV HBR HB
  have hd0 := HV.out.blk.cell.1; have hd1 := HV.out.blk.cell.2
  clear h hdd q1 q2 hbr
  go_enter Tryz.func21, Tryz.ntmps21
  go_wp2_with fail
  clear hw2
  refine (specDeskOk_any _ xs L _ HV.out.d).mono ?_
  rintro e w3 ⟨rfl, hb⟩
  rw [HDK.out]
  replace HBR := Lib.hid (HBR.out.kept hb HBR.out.lt); replace HB := Lib.hid (below_onto HB.out hb)
  clear hb hd0 hd1
  have hx0 := HBR.out.cell.1; have hx1 := HBR.out.cell.2; have hx2 := HBR.out.frozen 0; have hx3 := HBR.out.frozen 1
  go_wp2_with fail
  refine bodyPost_ret (results_desk rfl _ _ (w.heap.size + 1) ((HBR.out.set0 (.slice none 0 0)).set1 (.slice none 0 0)) rfl rfl (by kernel_rfl)) rfl ?_
  exact ⟨_, _, rfl, noDesk_gives ((HB.out.setCell (p := ⟨w.heap.size + 1, 0, none⟩) (show w.heap.size ≤ w.heap.size + 1 by omega) _).setCell (p := ⟨w.heap.size + 1, 1, none⟩) (show w.heap.size ≤ w.heap.size + 1 by omega) _)⟩
set_option maxRecDepth 100000 in
set_option maxHeartbeats 3200000 in
theorem specLine_deed (d : Value) (xs : List Int) (L : List (List Int)) (s : ByteArray) (hs : s.size ≤ 1048600) (hdk : deskB xs L = true) (hrd : rdDB s.data.toList = true) (w : World) (h : DeskR w d xs L) :
    Calls Tryz.prog 21 #[d, .string s] w (LineD (liX xs L s.data.toList) (liL xs L s.data.toList) (liT (fun _ _ => []) xs L s.data.toList) w) := by
  obtain ⟨f1, f2, f3⟩ := li_deed (A := fun _ _ => []) hdk hrd
  rw [f1, f2, f3]
  have hky := rdY_I64 s.data.toList
  have hkd : okD (dkX xs L (rdK s.data.toList) (rdY s.data.toList)) (dkL xs L (rdK s.data.toList) (rdY s.data.toList)) := okD_desk (dk_desk hdk)
  obtain ⟨ok, hok⟩ : ∃ ok, dkB xs L (rdK s.data.toList) (rdY s.data.toList) = ok := ⟨_, rfl⟩
  obtain ⟨ys, hys⟩ : ∃ ys, dkX xs L (rdK s.data.toList) (rdY s.data.toList) = ys := ⟨_, rfl⟩
  obtain ⟨M, hM⟩ : ∃ M, dkL xs L (rdK s.data.toList) (rdY s.data.toList) = M := ⟨_, rfl⟩
  rw [hys, hM] at hkd
  rw [hys, hM, hok]
  have HDO := Lib.hid (show ∀ W d, DeskR W d xs L → Calls Tryz.prog 67 #[d, .agg #[.int .i64 (rdK s.data.toList), .int .i64 (rdY s.data.toList)]] W (DoneP ok ys M W) from fun W d hW => by
    have := specDeskDo_any d xs L (rdK s.data.toList) (rdY s.data.toList) hky W hW
    rw [hok, hys, hM] at this
    exact this)
  have HKD := Lib.hid hkd
  have HDK := Lib.hid hdk; have HRD := Lib.hid hrd
  have HE1 := Lib.hid (show ({ data := #[111, 107] } : ByteArray) = bs okW from rfl); have HE2 := Lib.hid (show ({ data := #[110, 111, 116] } : ByteArray) = bs notW from rfl)
  clear hdk hrd f1 f2 f3 hky hkd hok hys hM
  cases ok with
  | true =>
    rw [if_pos rfl]
    have hdd := h
    obtain ⟨a, c, b, c2, rfl, _⟩ := h.parts
    have q1 := alloc_below w (.cells #[.slice a xs.length c, .slice b L.length c2] 31)
    have q2 := alloc_below (w.alloc (.cells #[.slice a xs.length c, .slice b L.length c2] 31)) (.cells #[.slice none 0 0, .slice none 0 0] 31)
    have HV := Lib.hid ((VarD.new hdd).kept q2)
    have hbr := Blk2.new (w.alloc (.cells #[.slice a xs.length c, .slice b L.length c2] 31)) 31 (.slice none 0 0) (.slice none 0 0)
    rw [alloc_size] at hbr
    have HBR := Lib.hid hbr
    have HB := Lib.hid (below_onto q1 q2)
    obtain ⟨w2, hw2⟩ : ∃ w2, (w.alloc (.cells #[.slice a xs.length c, .slice b L.length c2] 31)).alloc (.cells #[.slice none 0 0, .slice none 0 0] 31) = w2 := ⟨_, rfl⟩
    rw [hw2] at HV HBR HB
    have hd0 := HV.out.blk.cell.1; have hd1 := HV.out.blk.cell.2
    clear h hdd q1 q2 hbr
    go_enter Tryz.func21, Tryz.ntmps21
    go_wp2_with fail
    clear hw2
    refine (specDeskOk_any _ xs L _ HV.out.d).mono ?_
    rintro e w3 ⟨rfl, hb⟩
    rw [HDK.out]
    replace HV := Lib.hid (HV.out.kept hb); replace HBR := Lib.hid (HBR.out.kept hb HBR.out.lt); replace HB := Lib.hid (below_onto HB.out hb)
    clear hb hd0 hd1
    have hd0 := HV.out.blk.cell.1; have hd1 := HV.out.blk.cell.2
    have HB3 := HB
    have HLT := Lib.hid (show w.heap.size + 1 < w3.heap.size from HBR.out.lt)
    go_wp2_with fail
    refine (l12Copy_any _ xs L HDK.out _ HV.out.d).mono ?_
    rintro e w4 ⟨v1, v2, rfl, hgo⟩
    have hg := hgo.desk
    obtain ⟨p1, e1, rfl⟩ := hg.one
    obtain ⟨p2, e2, rfl⟩ := hg.two
    have HG := Lib.hid hg
    have hal := alloc_below w4 (.cells #[.slice p1 xs.length e1, .slice p2 L.length e2] 31)
    have HO := Lib.hid (Blk2.new w4 31 (.slice p1 xs.length e1) (.slice p2 L.length e2))
    have HB4 := Lib.hid hal
    have hb := below_onto hg.below hal
    have HNO := Lib.hid (show w.heap.size + 1 < w4.heap.size from Nat.lt_of_lt_of_le HLT.out hg.below.size)
    replace HV := Lib.hid (HV.out.kept hb); replace HBR := Lib.hid (HBR.out.kept hb HBR.out.lt); replace HB := Lib.hid (below_onto HB.out hb)
    obtain ⟨w5, hw5⟩ : ∃ w5, w4.alloc (.cells #[.slice p1 xs.length e1, .slice p2 L.length e2] 31) = w5 := ⟨_, rfl⟩
    obtain ⟨O, hO⟩ : ∃ O, w4.heap.size = O := ⟨_, rfl⟩
    rw [hw5] at HV HBR HB HO HB4
    rw [hO] at HO HNO
    clear hgo hg hal hb hd0 hd1
    go_wp2_with fail
    clear hw5 hO
    refine (specReadDeed_any s hs _).mono ?_
    rintro e w6 ⟨rfl, hb⟩
    rw [HRD.out]
    obtain ⟨rk, hrk⟩ : ∃ rk, rdK s.data.toList = rk := ⟨_, rfl⟩
    obtain ⟨ry, hry⟩ : ∃ ry, rdY s.data.toList = ry := ⟨_, rfl⟩
    rw [hrk, hry]
    have hal := alloc_below w6 (.cells #[.int .i64 rk, .int .i64 ry] 39)
    have HE7 := Lib.hid (Blk2.new w6 39 (.int .i64 rk) (.int .i64 ry))
    replace hb := below_onto hb hal
    replace HV := Lib.hid (HV.out.kept hb); replace HBR := Lib.hid (HBR.out.kept hb HBR.out.lt); replace HB := Lib.hid (below_onto HB.out hb)
    replace HO := Lib.hid (HO.out.kept hb HO.out.lt); replace HB4 := Lib.hid (below_onto HB4.out hb)
    obtain ⟨w7, hw7⟩ : ∃ w7, w6.alloc (.cells #[.int .i64 rk, .int .i64 ry] 39) = w7 := ⟨_, rfl⟩
    obtain ⟨E, hE⟩ : ∃ E, w6.heap.size = E := ⟨_, rfl⟩
    rw [hw7] at HV HBR HB HO HB4 HE7
    rw [hE] at HE7
    have hd0 := HV.out.blk.cell.1; have hd1 := HV.out.blk.cell.2
    have HRK := Lib.hid hrk; have HRY := Lib.hid hry
    clear hb hal hrk hry
    have HDO7 := Lib.hid (HDO.out w7 _ HV.out.d)
    rw [HRK.out, HRY.out] at HDO7
    have he0 := HE7.out.cell.1; have he1 := HE7.out.cell.2
    have HLT7 := Lib.hid (show w.heap.size + 1 < w7.heap.size from HBR.out.lt)
    have HB7 := HB
    go_wp2_with fail
    clear hw7 hE
    refine HDO7.out.mono ?_
    rintro e w8 ⟨v3, v4, rfl, hgp⟩
    have hg := hgp.gives
    obtain ⟨p3, e3, rfl⟩ := hg.one
    obtain ⟨p4, e4, rfl⟩ := hg.two
    have HG8 := Lib.hid hg
    have hal := alloc_below w8 (.cells #[.slice p3 ys.length e3, .slice p4 M.length e4] 31)
    have HX := Lib.hid (Blk2.new w8 31 (.slice p3 ys.length e3) (.slice p4 M.length e4))
    have HAL := Lib.hid hal
    replace HBR := Lib.hid (HBR.out.kept (below_onto hg.below hal) HBR.out.lt)
    obtain ⟨w9, hw9⟩ : ∃ w9, w8.alloc (.cells #[.slice p3 ys.length e3, .slice p4 M.length e4] 31) = w9 := ⟨_, rfl⟩
    rw [hw9] at HX HAL HBR
    have hx0 := HX.out.cell.1; have hx1 := HX.out.cell.2
    have hr0 := HBR.out.cell.1; have hr1 := HBR.out.cell.2; have hr2 := HBR.out.frozen 0; have hr3 := HBR.out.frozen 1
    clear hgp hg hal hd0 hd1 he0 he1
    go_wp2_with fail
    clear hw9
    refine bodyPost_ret (results_desk rfl _ _ (w.heap.size + 1) ((HBR.out.set0 _).set1 _) rfl rfl (by kernel_rfl)) rfl ?_
    exact ⟨_, _, retdt HE1.out, HG8.out.fin HB7.out (Nat.le_succ _) HLT7.out HAL.out⟩
  | false =>
    rw [if_neg (by decide)]
    have hdd := h
    obtain ⟨a, c, b, c2, rfl, _⟩ := h.parts
    have q1 := alloc_below w (.cells #[.slice a xs.length c, .slice b L.length c2] 31)
    have q2 := alloc_below (w.alloc (.cells #[.slice a xs.length c, .slice b L.length c2] 31)) (.cells #[.slice none 0 0, .slice none 0 0] 31)
    have HV := Lib.hid ((VarD.new hdd).kept q2)
    have hbr := Blk2.new (w.alloc (.cells #[.slice a xs.length c, .slice b L.length c2] 31)) 31 (.slice none 0 0) (.slice none 0 0)
    rw [alloc_size] at hbr
    have HBR := Lib.hid hbr
    have HB := Lib.hid (below_onto q1 q2)
    obtain ⟨w2, hw2⟩ : ∃ w2, (w.alloc (.cells #[.slice a xs.length c, .slice b L.length c2] 31)).alloc (.cells #[.slice none 0 0, .slice none 0 0] 31) = w2 := ⟨_, rfl⟩
    rw [hw2] at HV HBR HB
    have hd0 := HV.out.blk.cell.1; have hd1 := HV.out.blk.cell.2
    clear h hdd q1 q2 hbr
    go_enter Tryz.func21, Tryz.ntmps21
    go_wp2_with fail
    clear hw2
    refine (specDeskOk_any _ xs L _ HV.out.d).mono ?_
    rintro e w3 ⟨rfl, hb⟩
    rw [HDK.out]
    replace HV := Lib.hid (HV.out.kept hb); replace HBR := Lib.hid (HBR.out.kept hb HBR.out.lt); replace HB := Lib.hid (below_onto HB.out hb)
    clear hb hd0 hd1
    have hd0 := HV.out.blk.cell.1; have hd1 := HV.out.blk.cell.2
    have HB3 := HB
    have HLT := Lib.hid (show w.heap.size + 1 < w3.heap.size from HBR.out.lt)
    go_wp2_with fail
    refine (l12Copy_any _ xs L HDK.out _ HV.out.d).mono ?_
    rintro e w4 ⟨v1, v2, rfl, hgo⟩
    have hg := hgo.desk
    obtain ⟨p1, e1, rfl⟩ := hg.one
    obtain ⟨p2, e2, rfl⟩ := hg.two
    have HG := Lib.hid hg
    have hal := alloc_below w4 (.cells #[.slice p1 xs.length e1, .slice p2 L.length e2] 31)
    have HO := Lib.hid (Blk2.new w4 31 (.slice p1 xs.length e1) (.slice p2 L.length e2))
    have HB4 := Lib.hid hal
    have hb := below_onto hg.below hal
    have HNO := Lib.hid (show w.heap.size + 1 < w4.heap.size from Nat.lt_of_lt_of_le HLT.out hg.below.size)
    replace HV := Lib.hid (HV.out.kept hb); replace HBR := Lib.hid (HBR.out.kept hb HBR.out.lt); replace HB := Lib.hid (below_onto HB.out hb)
    obtain ⟨w5, hw5⟩ : ∃ w5, w4.alloc (.cells #[.slice p1 xs.length e1, .slice p2 L.length e2] 31) = w5 := ⟨_, rfl⟩
    obtain ⟨O, hO⟩ : ∃ O, w4.heap.size = O := ⟨_, rfl⟩
    rw [hw5] at HV HBR HB HO HB4
    rw [hO] at HO HNO
    clear hgo hg hal hb hd0 hd1
    go_wp2_with fail
    clear hw5 hO
    refine (specReadDeed_any s hs _).mono ?_
    rintro e w6 ⟨rfl, hb⟩
    rw [HRD.out]
    obtain ⟨rk, hrk⟩ : ∃ rk, rdK s.data.toList = rk := ⟨_, rfl⟩
    obtain ⟨ry, hry⟩ : ∃ ry, rdY s.data.toList = ry := ⟨_, rfl⟩
    rw [hrk, hry]
    have hal := alloc_below w6 (.cells #[.int .i64 rk, .int .i64 ry] 39)
    have HE7 := Lib.hid (Blk2.new w6 39 (.int .i64 rk) (.int .i64 ry))
    replace hb := below_onto hb hal
    replace HV := Lib.hid (HV.out.kept hb); replace HBR := Lib.hid (HBR.out.kept hb HBR.out.lt); replace HB := Lib.hid (below_onto HB.out hb)
    replace HO := Lib.hid (HO.out.kept hb HO.out.lt); replace HB4 := Lib.hid (below_onto HB4.out hb)
    obtain ⟨w7, hw7⟩ : ∃ w7, w6.alloc (.cells #[.int .i64 rk, .int .i64 ry] 39) = w7 := ⟨_, rfl⟩
    obtain ⟨E, hE⟩ : ∃ E, w6.heap.size = E := ⟨_, rfl⟩
    rw [hw7] at HV HBR HB HO HB4 HE7
    rw [hE] at HE7
    have hd0 := HV.out.blk.cell.1; have hd1 := HV.out.blk.cell.2
    have HRK := Lib.hid hrk; have HRY := Lib.hid hry
    clear hb hal hrk hry
    have HDO7 := Lib.hid (HDO.out w7 _ HV.out.d)
    rw [HRK.out, HRY.out] at HDO7
    have he0 := HE7.out.cell.1; have he1 := HE7.out.cell.2
    have HLT7 := Lib.hid (show w.heap.size + 1 < w7.heap.size from HBR.out.lt)
    have HB7 := HB
    go_wp2_with fail
    clear hw7 hE
    refine HDO7.out.mono ?_
    rintro e w8 ⟨v3, v4, rfl, hgp⟩
    have hg := hgp.gives
    obtain ⟨p3, e3, rfl⟩ := hg.one
    obtain ⟨p4, e4, rfl⟩ := hg.two
    have HG8 := Lib.hid hg
    have hal := alloc_below w8 (.cells #[.slice p3 ys.length e3, .slice p4 M.length e4] 31)
    have HX := Lib.hid (Blk2.new w8 31 (.slice p3 ys.length e3) (.slice p4 M.length e4))
    have HAL := Lib.hid hal
    replace HBR := Lib.hid (HBR.out.kept (below_onto hg.below hal) HBR.out.lt)
    obtain ⟨w9, hw9⟩ : ∃ w9, w8.alloc (.cells #[.slice p3 ys.length e3, .slice p4 M.length e4] 31) = w9 := ⟨_, rfl⟩
    rw [hw9] at HX HAL HBR
    have hx0 := HX.out.cell.1; have hx1 := HX.out.cell.2
    have hr0 := HBR.out.cell.1; have hr1 := HBR.out.cell.2; have hr2 := HBR.out.frozen 0; have hr3 := HBR.out.frozen 1
    clear hgp hg hal hd0 hd1 he0 he1
    go_wp2_with fail
    clear hw9
    refine bodyPost_ret (results_desk rfl _ _ (w.heap.size + 1) ((HBR.out.set0 _).set1 _) rfl rfl (by kernel_rfl)) rfl ?_
    exact ⟨_, _, retdt HE2.out, HG8.out.fin HB7.out (Nat.le_succ _) HLT7.out HAL.out⟩
theorem specDeskLine_any (d : Value) (xs : List Int) (L : List (List Int)) (s : ByteArray) (hs : s.size ≤ 1048600) (w : World) (h : DeskR w d xs L) :
    Calls Tryz.prog 21 #[d, .string s] w (LineD (liX xs L s.data.toList) (liL xs L s.data.toList) (liT ansW xs L s.data.toList) w) := by
  cases hdk : deskB xs L with
  | false =>
    obtain ⟨e1, e2, e3⟩ := li_none (A := ansW) (l := s.data.toList) hdk
    rw [e1, e2, e3]
    exact specLine_no d xs L s hdk w h
  | true =>
    cases hrd : rdDB s.data.toList with
    | true =>
      rw [liT_deed (A := ansW) (B := fun _ _ => []) hdk hrd]
      exact specLine_deed d xs L s hs hdk hrd w h
    | false =>
      obtain ⟨e1, e2, e3⟩ := li_ask (A := ansW) hdk hrd
      rw [e1, e2, e3]
      have hf := (deskB_iff.1 hdk).1
      by_cases h0 : s.data.toList = allW
      · rw [show ansW xs s.data.toList = allA xs by unfold ansW; rw [if_pos h0]]
        exact specLine_all d xs L s hs hdk hrd h0 w h
      by_cases h1 : s.data.toList = companyW
      · rw [show ansW xs s.data.toList = companyA xs by unfold ansW; rw [if_neg h0, if_pos h1]]
        exact specLine_company d xs L s hs hdk hrd h0 h1 w h
      by_cases h2 : s.data.toList = weakW
      · rw [show ansW xs s.data.toList = weakA xs by unfold ansW; rw [if_neg h0, if_neg h1, if_pos h2]]
        exact specLine_weak d xs L s hs hdk hrd h0 h1 h2 w h
      by_cases h3 : s.data.toList = strongW
      · rw [show ansW xs s.data.toList = strongA xs by unfold ansW; rw [if_neg h0, if_neg h1, if_neg h2, if_pos h3]]
        exact specLine_strong d xs L s hs hdk hrd h0 h1 h2 h3 w h
      by_cases h4 : s.data.toList = summedW
      · rw [show ansW xs s.data.toList = summedA xs by unfold ansW; rw [if_neg h0, if_neg h1, if_neg h2, if_neg h3, if_pos h4]]
        exact specLine_summed d xs L s hs hdk hrd h0 h1 h2 h3 h4 w h
      by_cases h5 : s.data.toList = classicalW
      · rw [show ansW xs s.data.toList = classicalA xs by unfold ansW; rw [if_neg h0, if_neg h1, if_neg h2, if_neg h3, if_neg h4, if_pos h5]]
        exact specLine_classical d xs L s hs hdk hrd h0 h1 h2 h3 h4 h5 w h
      by_cases h6 : s.data.toList = atomsW
      · rw [show ansW xs s.data.toList = atomsA xs by unfold ansW; rw [if_neg h0, if_neg h1, if_neg h2, if_neg h3, if_neg h4, if_neg h5, if_pos h6]]
        exact specLine_atoms d xs L s hs hdk hrd h0 h1 h2 h3 h4 h5 h6 w h
      by_cases h7 : s.data.toList = wholeW
      · rw [show ansW xs s.data.toList = wholeA xs by unfold ansW; rw [if_neg h0, if_neg h1, if_neg h2, if_neg h3, if_neg h4, if_neg h5, if_neg h6, if_pos h7]]
        unfold wholeA oneW
        cases ho : wholeOk xs.length (wdF xs) with
        | false =>
          rw [if_neg (by decide)]
          exact specLine_whole0 d xs L s hs hdk hrd h0 h1 h2 h3 h4 h5 h6 h7 ho w h
        | true =>
          obtain ⟨C, hC, hN⟩ := whole_at hf ho
          rw [if_pos rfl, hN, Int.toNat_natCast]
          exact specLine_whole1 d xs L s hs hdk hrd h0 h1 h2 h3 h4 h5 h6 h7 C hC hN ho w h
      have hq : ¬ isQ s.data.toList := by
        rintro (e | e | e | e | e | e | e | e)
        · exact h0 e
        · exact h1 e
        · exact h2 e
        · exact h3 e
        · exact h4 e
        · exact h5 e
        · exact h6 e
        · exact h7 e
      rw [ans_two hq]
      by_cases hw : (spL s.data.toList 32).length = 3
      · by_cases hp : pA xs s.data.toList < 0
        · rw [if_pos (.inl hp)]
          exact specLine_whatp d xs L s hs hdk hrd h0 h1 h2 h3 h4 h5 h6 h7 hw hp w h
        · by_cases hq : pB xs s.data.toList < 0
          · rw [if_pos (.inr hq)]
            exact specLine_whatq d xs L s hs hdk hrd h0 h1 h2 h3 h4 h5 h6 h7 hw (by omega) hq w h
          · rw [if_neg (by omega)]
            have hpl := (plI_lt xs (rdI (cut1 (cut2 s.data.toList)))).2
            have hql := (plI_lt xs (rdI (cut2 (cut2 s.data.toList)))).2
            have hpl : pA xs s.data.toList < xs.length := hpl
            have hql : pB xs s.data.toList < xs.length := hql
            obtain ⟨X, hX⟩ := Int.eq_ofNat_of_zero_le (show 0 ≤ pA xs s.data.toList by omega)
            obtain ⟨Y, hY⟩ := Int.eq_ofNat_of_zero_le (show 0 ≤ pB xs s.data.toList by omega)
            rw [hX] at hpl
            rw [hY] at hql
            rw [hX, hY]
            unfold twoW
            by_cases g0 : cut1 s.data.toList = sumW
            · rw [if_pos g0]
              exact specLine_sum d xs L s hs hdk hrd h0 h1 h2 h3 h4 h5 h6 h7 hw X Y hX hY (by omega) (by omega) g0 w h
            rw [if_neg g0]
            by_cases g1 : cut1 s.data.toList = commonW
            · rw [if_pos g1]
              unfold commonA oneW
              cases ho : commonOk xs.length (wdF xs) X Y with
              | false =>
                rw [if_neg (by decide)]
                exact specLine_common0 d xs L s hs hdk hrd h0 h1 h2 h3 h4 h5 h6 h7 hw X Y hX hY g0 g1 ho w h
              | true =>
                obtain ⟨C, hC, hN⟩ := common_at hf ho
                rw [if_pos rfl, hN, Int.toNat_natCast]
                exact specLine_common1 d xs L s hs hdk hrd h0 h1 h2 h3 h4 h5 h6 h7 hw X Y hX hY g0 g1 C hC hN ho w h
            rw [if_neg g1]
            by_cases g2 : cut1 s.data.toList = leftW
            · rw [if_pos g2]
              unfold leftA oneW
              cases ho : leftOk xs.length (wdF xs) X Y with
              | false =>
                rw [if_neg (by decide)]
                exact specLine_left0 d xs L s hs hdk hrd h0 h1 h2 h3 h4 h5 h6 h7 hw X Y hX hY g0 g1 g2 ho w h
              | true =>
                obtain ⟨C, hC, hN⟩ := left_at hf ho
                rw [if_pos rfl, hN, Int.toNat_natCast]
                exact specLine_left1 d xs L s hs hdk hrd h0 h1 h2 h3 h4 h5 h6 h7 hw X Y hX hY g0 g1 g2 C hC hN ho w h
            rw [if_neg g2]
            exact specLine_whatw d xs L s hs hdk hrd h0 h1 h2 h3 h4 h5 h6 h7 hw X Y hX hY g0 g1 g2 w h
      · have hno : pA xs s.data.toList < 0 ∨ pB xs s.data.toList < 0 := by
          rcases (three_words s.data.toList).2 hw with e | e
          · refine .inl ?_
            unfold pA
            rw [e, plI_bad hf]; omega
          · refine .inr ?_
            unfold pB
            rw [e, plI_bad hf]; omega
        rw [if_pos hno]
        exact specLine_what3 d xs L s hs hdk hrd h0 h1 h2 h3 h4 h5 h6 h7 hw w h
end Go.Proofs.YthaickihoagnmaaGreatDoor
namespace Go.Proofs.YthaickihoagnmaaGreatDoor
set_option linter.unusedVariables false
set_option linter.unusedSimpArgs false
open Go.RowKit Go.Maps
theorem li_okD (xs : List Int) (L : List (List Int)) (l : List UInt8) : okD (liX xs L l) (liL xs L l) := by
  cases h : deskB xs L with
  | false =>
    obtain ⟨e1, e2, _⟩ := li_none (A := fun _ _ => []) (l := l) h
    rw [e1, e2]
    exact okD_nil
  | true => exact okD_desk (li_desk h)
set_option maxRecDepth 100000 in
set_option maxHeartbeats 12800000 in
theorem exactDeskLine (d : Value) (xs : List Int) (L : List (List Int)) (s : ByteArray) (w : World) (h : DeskR w d xs L) (hT : TabW w) :
    Calls Tryz.prog 6 #[d, .string s] w (TrueEnd w) := by
  obtain ⟨a, c, b, c2, rfl, hi, hn⟩ := h.parts
  have HX := Lib.hid (ints_I64s hi); have HLI := Lib.hid hn.i64
  have q1 := alloc_below w (.cells #[.slice a xs.length c, .slice b L.length c2] 54)
  have b1 := Blk2.new w 54 (.slice a xs.length c) (.slice b L.length c2)
  have hdr := h.kept q1
  have hz := alloc_size w (.cells #[.slice a xs.length c, .slice b L.length c2] 54)
  obtain ⟨w0, hw0⟩ : ∃ w0, w.alloc (.cells #[.slice a xs.length c, .slice b L.length c2] 54) = w0 := ⟨_, rfl⟩
  rw [hw0] at b1 q1 hdr hz
  have HDR := Lib.hid hdr; have HBL := Lib.hid b1; have HQ := Lib.hid q1; have HZ0 := Lib.hid hz
  have HT := Lib.hid hT
  have hd0 := b1.cell.1; have hd1 := b1.cell.2
  by_cases hsz : 1048576 < s.size
  · have hsz1 : decide ((1048576 : Int) < (s.size : Int)) = true := decide_eq_true (by omega)
    clear h hi hn q1 b1 hdr hz hT
    go_enter Tryz.func6, Tryz.ntmps6
    go_wp2_with fail
    go_ret
    exact ⟨rfl, HQ.out⟩
  have hsz1 : decide ((1048576 : Int) < (s.size : Int)) = false := decide_eq_false (by omega)
  have hs : s.size ≤ 1048600 := by omega
  obtain ⟨ys, hys⟩ : ∃ ys, liX xs L s.data.toList = ys := ⟨_, rfl⟩
  obtain ⟨M, hM⟩ : ∃ M, liL xs L s.data.toList = M := ⟨_, rfl⟩
  obtain ⟨tb, htb⟩ : ∃ tb, bs (liT ansW xs L s.data.toList) = tb := ⟨_, rfl⟩
  have HOK := Lib.hid (show okD ys M by rw [← hys, ← hM]; exact li_okD xs L _)
  have HYL := Lib.hid (show ys.length ≤ 1048576 by have := HOK.out.1.1; omega)
  have HML := Lib.hid (show M.length ≤ 1048576 by have := HOK.out.2.1; omega)
  have HMM := Lib.hid (show ∀ l ∈ M, l.length ≤ 1048576 from fun l hl => by have := (HOK.out.2.2 l hl).1; omega)
  have hyl : ys.length ≤ 7 := HOK.out.1.1
  have HSD := Lib.hid (show ∀ W d, DeskR W d xs L → Calls Tryz.prog 21 #[d, .string s] W fun e w' => ∃ v1 v2, e = .returned (.tuple #[.agg #[v1, v2], .string tb]) ∧ GivesD ys M W w' v1 v2 from fun W d hW => by
    have := specDeskLine_any d xs L s hs W hW
    unfold LineD at this
    rw [hys, hM, htb] at this
    exact this)
  have HID := Lib.hid (show ∀ W d, DeskR W d xs L → TabW W → Calls Tryz.prog 14 #[d, .string s] W fun e w' => ∃ v1 v2, e = .returned (.tuple #[.agg #[v1, v2], .string tb]) ∧ GivesD ys M W w' v1 v2 from fun W d hW hT => by
    have := DeskLine_any d xs L s hs W hW hT
    unfold LineD at this
    rw [hys, hM, htb] at this
    exact this)
  have hfne : (tb.toList == tb.toList) = true := by simp
  have hfne2 : (tb.toList != tb.toList) = false := by simp
  clear h hi hn hys hM htb q1 b1 hdr hz hT hsz
  go_enter Tryz.func6, Tryz.ntmps6
  go_wp2_with fail
  clear hw0
  refine (szDesk_any _ xs L _ HDR.out).mono ?_
  rintro e w1 ⟨⟨r, rfl, hr⟩, hb⟩
  replace HBL := Lib.hid (HBL.out.kept hb HBL.out.lt)
  replace HDR := Lib.hid (HDR.out.kept hb); replace HQ := Lib.hid (below_onto HQ.out hb)
  have HZ1 := Lib.hid (show w.heap.size + 1 ≤ w1.heap.size by have := hb.size; have := HZ0.out; omega)
  clear hb hd0 hd1 HZ0
  rcases hr with rfl | ⟨m0, rfl, hx, hL, hl⟩
  · go_wp2_with fail
    go_ret
    exact ⟨rfl, HQ.out⟩
  have hge : decide ((m0 : Int) < 0) = false := decide_eq_false (by omega)
  have HL := Lib.hid hl
  clear hl
  have HD := HDR
  have hd0 := HBL.out.cell.1; have hd1 := HBL.out.cell.2
  -- region 7: the model's answer
  go_wp2_with fail
  refine (toDesk_any _ xs L hx hL HL.out _ HD.out).mono ?_
  rintro e w2 ⟨v1, v2, rfl, hg⟩
  obtain ⟨hr7, hb7, ⟨y1, y2, rfl⟩, ⟨y3, y4, rfl⟩⟩ := hg.read HX.out HLI.out
  have HR7 := Lib.hid hr7; have HB7 := Lib.hid hb7
  clear hg hr7 hb7 hd0 hd1
  go_wp2_with fail
  refine (HSD.out _ _ HR7.out).mono ?_
  rintro e w3 ⟨v1, v2, rfl, hg⟩
  obtain ⟨p1, e1, rfl⟩ := hg.one
  obtain ⟨p2, e2, rfl⟩ := hg.two
  obtain ⟨r0, hv0, hr0⟩ := deskV_of hg
  have hal := alloc_below w3 (.cells #[.slice p1 ys.length e1, .slice p2 M.length e2] 31)
  have HB5 := Lib.hid (below_onto HB7.out (below_onto hg.below hal))
  have HWB := Lib.hid (show w1.heap.size ≤ w2.heap.size from HB7.out.size)
  have HT0 := Lib.hid (show w3.heap.size + 1 ≤ (w3.alloc (.cells #[.slice p1 ys.length e1, .slice p2 M.length e2] 31)).heap.size by rw [alloc_size]; exact Nat.le_refl _)
  obtain ⟨w4, hw4⟩ : ∃ w4, w3.alloc (.cells #[.slice p1 ys.length e1, .slice p2 M.length e2] 31) = w4 := ⟨_, rfl⟩
  obtain ⟨B0, hB0⟩ : ∃ B0, w2.heap.size = B0 := ⟨_, rfl⟩
  obtain ⟨b0, hb0⟩ : ∃ b0, w3.heap.size = b0 := ⟨_, rfl⟩
  obtain ⟨T0, hT0⟩ : ∃ T0, b0 + 1 = T0 := ⟨_, rfl⟩
  rw [hw4, hB0, hb0, hT0] at hv0
  rw [hw4] at HB5
  rw [hw4, hb0, hT0] at HT0
  rw [hB0] at HWB
  have HV5 := Lib.hid hv0; have HR0 := Lib.hid hr0
  have hd0 := (HBL.out.kept HB5.out HBL.out.lt).cell.1; have hd1 := (HBL.out.kept HB5.out HBL.out.lt).cell.2
  clear hg hv0 hr0 hal hT0 hB0 HR7 HB7
  -- region 8: the argument
  go_wp2_with fail
  clear hw4 hb0
  refine (toDesk_any _ xs L hx hL HL.out _ (HD.out.kept HB5.out)).mono ?_
  rintro e w5 ⟨v1, v2, rfl, hg⟩
  obtain ⟨f1, f2, rfl⟩ := hg.one
  obtain ⟨f3, f4, rfl⟩ := hg.two
  obtain ⟨rx, hvx, hrx⟩ := deskV_of hg
  have hal := alloc_below w5 (.cells #[.slice f1 xs.length f2, .slice f3 L.length f4] 31)
  have hb := below_onto hg.below hal
  replace HV5 := Lib.hid (HV5.out.kept hb); replace HB5 := Lib.hid (below_onto HB5.out hb)
  have HTX := Lib.hid (show T0 ≤ w4.heap.size ∧ w5.heap.size + 1 ≤ (w5.alloc (.cells #[.slice f1 xs.length f2, .slice f3 L.length f4] 31)).heap.size from ⟨HT0.out, by rw [alloc_size]; exact Nat.le_refl _⟩)
  obtain ⟨w6, hw6⟩ : ∃ w6, w5.alloc (.cells #[.slice f1 xs.length f2, .slice f3 L.length f4] 31) = w6 := ⟨_, rfl⟩
  obtain ⟨bx, hbx⟩ : ∃ bx, w5.heap.size = bx := ⟨_, rfl⟩
  obtain ⟨Bx, hBx⟩ : ∃ Bx, w4.heap.size = Bx := ⟨_, rfl⟩
  rw [hw6, hbx, hBx] at hvx
  rw [hw6, hbx, hBx] at HTX
  rw [hw6] at HV5 HB5
  have HXV := Lib.hid hvx; have HRX := Lib.hid hrx
  have HXR := Lib.hid (hvx.readX hrx HX.out HLI.out)
  clear hg hvx hrx hal hb hBx hd0 hd1 HT0
  have hd0 := HXV.out.blk.cell.1; have hd1 := HXV.out.blk.cell.2
  -- region 9: the answer
  go_wp2_with fail
  clear hw6 hbx
  refine (HID.out _ _ HXR.out (HT.out.below (below_onto HQ.out HB5.out))).mono ?_
  rintro e w7 ⟨v1, v2, rfl, hg⟩
  obtain ⟨q1, g1, rfl⟩ := hg.one
  obtain ⟨q2, g2, rfl⟩ := hg.two
  obtain ⟨r1, hv1, hr1⟩ := deskV_of hg
  have hal := alloc_below w7 (.cells #[.slice q1 ys.length g1, .slice q2 M.length g2] 31)
  have hb := below_onto hg.below hal
  replace HV5 := Lib.hid (HV5.out.kept hb); replace HB5 := Lib.hid (below_onto HB5.out hb); replace HXV := Lib.hid (HXV.out.kept hb)
  have HTG := Lib.hid HTX.out.2
  have HSZ8 := Lib.hid (show w6.heap.size ≤ w7.heap.size from hg.below.size)
  obtain ⟨w8, hw8⟩ : ∃ w8, w7.alloc (.cells #[.slice q1 ys.length g1, .slice q2 M.length g2] 31) = w8 := ⟨_, rfl⟩
  obtain ⟨b1, hb1⟩ : ∃ b1, w7.heap.size = b1 := ⟨_, rfl⟩
  obtain ⟨T1, hT1⟩ : ∃ T1, b1 + 1 = T1 := ⟨_, rfl⟩
  obtain ⟨B1, hB1⟩ : ∃ B1, w6.heap.size = B1 := ⟨_, rfl⟩
  rw [hw8, hB1, hb1, hT1] at hv1
  rw [hB1] at HTG
  rw [hw8] at HV5 HB5 HXV
  have HG := Lib.hid hv1; have HR1 := Lib.hid hr1
  clear hg hv1 hr1 hal hb hB1 hT1 HXR hd0 hd1
  have hc0 := HV5.out.blk.cell.1; have hc1 := HV5.out.blk.cell.2; have hd0 := HG.out.blk.cell.1; have hd1 := HG.out.blk.cell.2
  go_wp2_with fail
  clear hw8 hb1
  refine (eqDesk_any _ _ ys M HYL.out HML.out HMM.out _ (HG.out.read HR1.out HOK.out) (HV5.out.read HR0.out HOK.out)).mono ?_
  rintro e w9 ⟨rfl, hb⟩
  replace HV5 := Lib.hid (HV5.out.kept hb); replace HG := Lib.hid (HG.out.kept hb); replace HXV := Lib.hid (HXV.out.kept hb); replace HB5 := Lib.hid (below_onto HB5.out hb)
  clear hb hc0 hc1 hd0 hd1
  have HXR := Lib.hid (HXV.out.readX HRX.out HX.out HLI.out)
  have HB6 := Lib.hid (Below.refl w9.heap.size w9)
  have HKS := Lib.hid (show ∀ W, Below w9.heap.size w9 W → ((W.cell? ⟨bx, 0, none⟩ = some (.slice f1 xs.length f2) ∧ W.cell? ⟨bx, 1, none⟩ = some (.slice f3 L.length f4)) ∧ (W.cell? ⟨w.heap.size, 0, none⟩ = some (.slice a xs.length c) ∧ W.cell? ⟨w.heap.size, 1, none⟩ = some (.slice b L.length c2))) from
    fun W hW => ⟨(HXV.out.kept hW).blk.cell, (HBL.out.kept (below_onto HB5.out hW) HBL.out.lt).cell⟩)
  go_wp2_with fail
  go_region_held3 (fun W => ((W.cell? ⟨bx, 0, none⟩ = some (.slice f1 xs.length f2) ∧ W.cell? ⟨bx, 1, none⟩ = some (.slice f3 L.length f4)) ∧ (W.cell? ⟨w.heap.size, 0, none⟩ = some (.slice a xs.length c) ∧ W.cell? ⟨w.heap.size, 1, none⟩ = some (.slice b L.length c2)))) (first | exact HKS.out _ HB6.out | exact HKS.out _ HB6.out.drew | exact HKS.out _ (below_drewN HB6.out _) | go_keep)
    (first | (go_at_call 30; refine (toDesk_any _ xs L hx hL HL.out _ (HD.out.kept (below_onto HB5.out (by first | exact HB6.out | exact HB6.out.drew | exact below_drewN HB6.out _)))).mono ?_; rintro e w7 ⟨v1, v2, rfl, hg⟩; obtain ⟨hr7, hb7, ⟨y1, y2, rfl⟩, ⟨y3, y4, rfl⟩⟩ := hg.read HX.out HLI.out; have HR7 := Lib.hid hr7; have HZ := Lib.hid (show Below w9.heap.size w9 w7 from (by first | exact hb7 | exact below_onto HB6.out.drew hb7 | exact below_onto (below_drewN HB6.out _) hb7)); clear HB6; have HB6 := HZ; clear HZ hg hb7 hr7) | (go_at_call 31; refine (eqDesk_any _ _ xs L hx hL HL.out _ (HXR.out.kept HB6.out) HR7.out).mono ?_; rintro e w8 ⟨rfl, hb8⟩; have HZ := Lib.hid (HB6.out.trans (hb8.mono HB6.out.size)); clear HB6; have HB6 := HZ; clear HZ hb8))
  replace HV5 := Lib.hid (HV5.out.kept HB6.out); replace HG := Lib.hid (HG.out.kept HB6.out); replace HXV := Lib.hid (HXV.out.kept HB6.out); replace HB5 := Lib.hid (below_onto HB5.out HB6.out)
  clear HKS HXR HB6 HR7
  have hd0 := HXV.out.blk.cell.1; have hd1 := HXV.out.blk.cell.2
  obtain ⟨mx, hmx⟩ : ∃ mx, 1 + xs.length + totF rx = mx := ⟨_, rfl⟩
  have hmxb : mx ≤ 4398046511104 := by have h1 := tot_big HRX.out hL HL.out; omega
  have hmxn : decide ((mx : Int) < 0) = false := decide_eq_false (by omega)
  have HMX := Lib.hid hmx
  clear hmx
  go_wp2_with fail
  refine (markDesk_any _ _ Bx xs rx 1 mx HMX.out hmxb _ HXV.out.g).mono ?_
  rintro e w10 hmk
  have hmk1 := hmk.1
  subst hmk1
  have hu := HXV.out.markU hmk
  replace HV5 := Lib.hid (HV5.out.upon hu (fun q h1 h2 h3 => by have h4 := HTX.out.1; omega))
  replace HG := Lib.hid (HG.out.upon hu (fun q h1 h2 h3 => by have h4 := HTG.out; omega))
  replace HB5 := Lib.hid (HB5.out.trans (hu.below (B := w1.heap.size) (fun q h3 => by have h8 := HWB.out; have h4 := HTX.out.1; have h5 := HV5.out.lo; have h7 := HV5.out.hi.1; omega) HB5.out.size))
  have HSEP := Lib.hid (show T0 ≤ B1 by have h4 := HTX.out.1; have h5 := HXV.out.lo; have h6 := HXV.out.hi.1; have h7 := HTG.out; omega)
  clear hu hmk hd0 hd1 HXV
  have hc0 := HV5.out.blk.cell.1; have hc1 := HV5.out.blk.cell.2; have hd0 := HG.out.blk.cell.1; have hd1 := HG.out.blk.cell.2
  go_wp2_with fail
  refine (eqDesk_any _ _ ys M HYL.out HML.out HMM.out _ (HG.out.read HR1.out HOK.out) (HV5.out.read HR0.out HOK.out)).mono ?_
  rintro e w11 ⟨rfl, hb⟩
  replace HV5 := Lib.hid (HV5.out.kept hb); replace HG := Lib.hid (HG.out.kept hb); replace HB5 := Lib.hid (below_onto HB5.out hb)
  clear hb hc0 hc1 hd0 hd1
  have hd0 := HG.out.blk.cell.1; have hd1 := HG.out.blk.cell.2
  obtain ⟨m, hm⟩ : ∃ m, 1 + ys.length + totF r1 = m := ⟨_, rfl⟩
  have hmb : m ≤ 4398046511104 := by have h1 := HOK.out.tot HR1.out; have h2 := HOK.out.1.1; omega
  have hmn : decide ((m : Int) < 0) = false := decide_eq_false (by omega)
  have hmm : ((m : Int) != (m : Int)) = false := by simp
  have HM := Lib.hid hm
  have HTT := Lib.hid (show 1 + ys.length + ((r1.map Fr.xs).map List.length).sum = m from hm)
  clear hm
  go_wp2_with fail
  refine (markDesk_any _ _ B1 ys r1 1 m HM.out hmb _ HG.out.g).mono ?_
  rintro e w12 hmk
  have hmk1 := hmk.1
  subst hmk1
  have hu := HG.out.markU hmk
  replace HG := Lib.hid (HG.out.mark hmk)
  replace HV5 := Lib.hid (HV5.out.upon hu (fun q h1 h2 h3 => by have h4 := HSEP.out; omega))
  replace HB5 := Lib.hid (HB5.out.trans (hu.below (B := w1.heap.size) (fun q h3 => by have h4 := HSEP.out; have h5 := HV5.out.lo; have h6 := HWB.out; have h7 := HV5.out.hi.1; omega) HB5.out.size))
  have HRD := Lib.hid (HG.out.g.marked HM.out hmb)
  clear hu hmk hd0 hd1
  have hd0 := HG.out.blk.cell.1; have hd1 := HG.out.blk.cell.2
  go_wp2_with fail
  refine (heldDesk_any _ ys.length ((r1.map Fr.xs).map List.length) 1 m HTT.out hmb _ HRD.out).mono ?_
  rintro e w13 ⟨rfl, hb⟩
  replace HV5 := Lib.hid (HV5.out.kept hb); replace HG := Lib.hid (HG.out.kept hb); replace HB5 := Lib.hid (below_onto HB5.out hb); replace HRD := Lib.hid (HRD.out.kept hb)
  clear hb hd0 hd1
  have hd0 := (HBL.out.kept HB5.out HBL.out.lt).cell.1; have hd1 := (HBL.out.kept HB5.out HBL.out.lt).cell.2
  go_wp2_with fail
  refine (toDesk_any _ xs L hx hL HL.out _ (HD.out.kept HB5.out)).mono ?_
  rintro e w14 ⟨v1, v2, rfl, hg⟩
  obtain ⟨hr7, hb7, ⟨y1, y2, rfl⟩, ⟨y3, y4, rfl⟩⟩ := hg.read HX.out HLI.out
  have HR7 := Lib.hid hr7
  replace HV5 := Lib.hid (HV5.out.kept hb7); replace HG := Lib.hid (HG.out.kept hb7); replace HB5 := Lib.hid (below_onto HB5.out hb7); replace HRD := Lib.hid (HRD.out.kept hb7)
  clear hg hr7 hb7 hd0 hd1
  go_wp2_with fail
  refine (HID.out _ _ HR7.out (HT.out.below (below_onto HQ.out HB5.out))).mono ?_
  rintro e w15 ⟨v1, v2, rfl, hg⟩
  obtain ⟨s1, t1, rfl⟩ := hg.one
  obtain ⟨s2, t2, rfl⟩ := hg.two
  obtain ⟨r2, hv2, hr2⟩ := deskV_of hg
  have hal := alloc_below w15 (.cells #[.slice s1 ys.length t1, .slice s2 M.length t2] 31)
  have hb := below_onto hg.below hal
  replace HV5 := Lib.hid (HV5.out.kept hb); replace HG := Lib.hid (HG.out.kept hb); replace HB5 := Lib.hid (below_onto HB5.out hb); replace HRD := Lib.hid (HRD.out.kept hb)
  obtain ⟨w16, hw16⟩ : ∃ w16, w15.alloc (.cells #[.slice s1 ys.length t1, .slice s2 M.length t2] 31) = w16 := ⟨_, rfl⟩
  obtain ⟨b2, hb2⟩ : ∃ b2, w15.heap.size = b2 := ⟨_, rfl⟩
  rw [hw16, hb2] at hv2
  rw [hw16] at HV5 HG HB5 HRD
  have HH := Lib.hid hv2; have HR2 := Lib.hid hr2
  clear hg hv2 hr2 hal hb HR7
  have hc0 := HV5.out.blk.cell.1; have hc1 := HV5.out.blk.cell.2; have hd0 := HH.out.blk.cell.1; have hd1 := HH.out.blk.cell.2
  go_wp2_with fail
  clear hw16 hb2
  refine (eqDesk_any _ _ ys M HYL.out HML.out HMM.out _ (HH.out.read HR2.out HOK.out) (HV5.out.read HR0.out HOK.out)).mono ?_
  rintro e w17 ⟨rfl, hb⟩
  replace HG := Lib.hid (HG.out.kept hb); replace HB5 := Lib.hid (below_onto HB5.out hb); replace HRD := Lib.hid (HRD.out.kept hb)
  clear hb hc0 hc1 hd0 hd1
  have hd0 := HG.out.blk.cell.1; have hd1 := HG.out.blk.cell.2
  go_wp2_with fail
  refine (heldDesk_any _ ys.length ((r1.map Fr.xs).map List.length) 1 m HTT.out hmb _ HRD.out).mono ?_
  rintro e w18 ⟨rfl, hb⟩
  replace HB5 := Lib.hid (below_onto HB5.out hb)
  clear hb hd0 hd1
  go_wp2_with fail
  go_ret
  exact ⟨rfl, below_onto HQ.out HB5.out⟩
end Go.Proofs.YthaickihoagnmaaGreatDoor
namespace Go.Proofs.YthaickihoagnmaaGreatDoor
open Go.ChangeShapes Go.WideShapes Go.ChangeAt Go.RowKit
def laidTabs : List (String × DataW Unit) := [("math/bits.deBruijn32tab", Rows.laid_math_bits_deBruijn32tab), ("math/bits.deBruijn64tab", Rows.laid_math_bits_deBruijn64tab)]
theorem gTab : Tryz.prog.globalNamed "math/bits.deBruijn64tab" = some 2 := by kernel_rfl
theorem tTab : (Tryz.prog.globals[2]?).map (·.type) = some 245 := by kernel_rfl
theorem tab_of {W : World} (h : laidMetH Tryz.prog laidTabs W) : TabW W := by
  rw [MakeChecks.laidMetH_plain _ _ _ (by kernel_rfl)] at h
  have hT := Lib.tabIs_of_head (k := .u8) (zs := Lib.deBruijn64tab.map (fun (n : Nat) => (n : Int))) gTab tTab Tryz.underlying245 Tryz.underlying5 (by kernel_rfl) (by kernel_rfl) h.tail
  intro j hj
  have := hT.cell gTab j (by simpa using hj)
  rw [this]
  congr 2
  simp [List.getD, List.getElem?_map, List.getElem?_eq_getElem hj]
theorem door_met (os : Os) (args : Array Value) : laidMetH Tryz.prog laidTabs ((World.doorLaid Tryz.prog 19 os).forCall (fun _ _ => 0) ⟨#[], args, []⟩).memory :=
  laidMetH_of_parts3 (fuel := 8) (laidMet_of_run' 8 (by kernel_rfl) (by kernel_rfl)) (by kernel_rfl) (by kernel_rfl)
end Go.Proofs.YthaickihoagnmaaGreatDoor
