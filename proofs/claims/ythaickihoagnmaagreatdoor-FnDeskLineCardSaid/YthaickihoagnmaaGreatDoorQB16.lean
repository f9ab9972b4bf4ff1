import Derived.Test.YthaickihoagnmaaGreatDoorQB15
import Derived.Lib.LaidTab
import Derived.LaidMore
import Derived.Stop.LaidErr
import Derived.ProofKit
import Derived.OpenShut
import Derived.Stop.Joined
namespace Go.Proofs.YthaickihoagnmaaGreatDoor
set_option linter.unusedVariables false
set_option linter.unusedSimpArgs false
open Go.RowKit Go.Maps
set_option maxRecDepth 100000 in
set_option maxHeartbeats 3200000 in
theorem specLine_no (d : Value) (xs : List Int) (L : List (List Int)) (s : ByteArray) (hdk : deskB xs L = false) (w : World) (h : DeskR w d xs L) :
    Calls Tryz.prog 21 #[d, .string s] w (LineD [] [] [] w) := by
  have HDK := Lib.hid hdk
  clear hdk
  have hdd := h
  obtain ⟨a, c, b, c2, rfl, _⟩ := h.parts
  have q1 := alloc_below w (.cells #[.slice a xs.length c, .slice b L.length c2] 31)
  have q2 := alloc_below (w.alloc (.cells #[.slice a xs.length c, .slice b L.length c2] 31)) (.cells #[.slice none 0 0, .slice none 0 0] 31)
  have HV := Lib.hid ((VarD.new hdd).kept q2)
  have hbr := Blk2.new (w.alloc (.cells #[.slice a xs.length c, .slice b L.length c2] 31)) 31 (.slice none 0 0) (.slice none 0 0)
  rw [alloc_size] at hbr
  have HBR := Lib.hid hbr
  have HB := Lib.hid (below_onto q1 q2)
  obtain ⟨w2, hw2⟩ : ∃ w2, (w.alloc (.cells #[.slice a xs.length c, .slice b L.length c2] 31)).alloc (.cells #[.slice none 0 0, .slice none 0 0] 31) = w2 := ⟨_, rfl⟩
  rw [hw2] at HV HBR HB
  have hd0 := HV.out.blk.cell.1; have hd1 := HV.out.blk.cell.2
  clear h hdd q1 q2 hbr
  go_enter Tryz.func21, Tryz.ntmps21
  go_wp2_with fail
  clear hw2
  refine (specDeskOk_any _ xs L _ HV.out.d).mono ?_
  rintro e w3 ⟨rfl, hb⟩
  rw [HDK.out]
  replace HBR := Lib.hid (HBR.out.kept hb HBR.out.lt); replace HB := Lib.hid (below_onto HB.out hb)
  clear hb hd0 hd1
  have hx0 := HBR.out.cell.1; have hx1 := HBR.out.cell.2; have hx2 := HBR.out.frozen 0; have hx3 := HBR.out.frozen 1
  go_wp2_with fail
  refine bodyPost_ret (results_desk rfl _ _ (w.heap.size + 1) ((HBR.out.set0 (.slice none 0 0)).set1 (.slice none 0 0)) rfl rfl (by kernel_rfl)) rfl ?_
  exact ⟨_, _, rfl, noDesk_gives ((HB.out.setCell (p := ⟨w.heap.size + 1, 0, none⟩) (show w.heap.size ≤ w.heap.size + 1 by omega) _).setCell (p := ⟨w.heap.size + 1, 1, none⟩) (show w.heap.size ≤ w.heap.size + 1 by omega) _)⟩
set_option maxRecDepth 100000 in
set_option maxHeartbeats 3200000 in
theorem specLine_deed (d : Value) (xs : List Int) (L : List (List Int)) (s : ByteArray) (hs : s.size ≤ 1048600) (hdk : deskB xs L = true) (hrd : rdDB s.data.toList = true) (w : World) (h : DeskR w d xs L) :
    Calls Tryz.prog 21 #[d, .string s] w (LineD (liX xs L s.data.toList) (liL xs L s.data.toList) (liT (fun _ _ => []) xs L s.data.toList) w) := by
  obtain ⟨f1, f2, f3⟩ := li_deed (A := fun _ _ => []) hdk hrd
  rw [f1, f2, f3]
  have hky := rdY_I64 s.data.toList
  have hkd : okD (dkX xs L (rdK s.data.toList) (rdY s.data.toList)) (dkL xs L (rdK s.data.toList) (rdY s.data.toList)) := okD_desk (dk_desk hdk)
  obtain ⟨ok, hok⟩ : ∃ ok, dkB xs L (rdK s.data.toList) (rdY s.data.toList) = ok := ⟨_, rfl⟩
  obtain ⟨ys, hys⟩ : ∃ ys, dkX xs L (rdK s.data.toList) (rdY s.data.toList) = ys := ⟨_, rfl⟩
  obtain ⟨M, hM⟩ : ∃ M, dkL xs L (rdK s.data.toList) (rdY s.data.toList) = M := ⟨_, rfl⟩
  rw [hys, hM] at hkd
  rw [hys, hM, hok]
  have HDO := Lib.hid (show ∀ W d, DeskR W d xs L → Calls Tryz.prog 67 #[d, .agg #[.int .i64 (rdK s.data.toList), .int .i64 (rdY s.data.toList)]] W (DoneP ok ys M W) from fun W d hW => by
    have := specDeskDo_any d xs L (rdK s.data.toList) (rdY s.data.toList) hky W hW
    rw [hok, hys, hM] at this
    exact this)
  have HKD := Lib.hid hkd
  have HDK := Lib.hid hdk; have HRD := Lib.hid hrd
  have HE1 := Lib.hid (show ({ data := #[111, 107] } : ByteArray) = bs okW from rfl); have HE2 := Lib.hid (show ({ data := #[110, 111, 116] } : ByteArray) = bs notW from rfl)
  clear hdk hrd f1 f2 f3 hky hkd hok hys hM
  cases ok with
  | true =>
    rw [if_pos rfl]
    have hdd := h
    obtain ⟨a, c, b, c2, rfl, _⟩ := h.parts
    have q1 := alloc_below w (.cells #[.slice a xs.length c, .slice b L.length c2] 31)
    have q2 := alloc_below (w.alloc (.cells #[.slice a xs.length c, .slice b L.length c2] 31)) (.cells #[.slice none 0 0, .slice none 0 0] 31)
    have HV := Lib.hid ((VarD.new hdd).kept q2)
    have hbr := Blk2.new (w.alloc (.cells #[.slice a xs.length c, .slice b L.length c2] 31)) 31 (.slice none 0 0) (.slice none 0 0)
    rw [alloc_size] at hbr
    have HBR := Lib.hid hbr
    have HB := Lib.hid (below_onto q1 q2)
    obtain ⟨w2, hw2⟩ : ∃ w2, (w.alloc (.cells #[.slice a xs.length c, .slice b L.length c2] 31)).alloc (.cells #[.slice none 0 0, .slice none 0 0] 31) = w2 := ⟨_, rfl⟩
    rw [hw2] at HV HBR HB
    have hd0 := HV.out.blk.cell.1; have hd1 := HV.out.blk.cell.2
    clear h hdd q1 q2 hbr
    go_enter Tryz.func21, Tryz.ntmps21
    go_wp2_with fail
    clear hw2
    refine (specDeskOk_any _ xs L _ HV.out.d).mono ?_
    rintro e w3 ⟨rfl, hb⟩
    rw [HDK.out]
    replace HV := Lib.hid (HV.out.kept hb); replace HBR := Lib.hid (HBR.out.kept hb HBR.out.lt); replace HB := Lib.hid (below_onto HB.out hb)
    clear hb hd0 hd1
    have hd0 := HV.out.blk.cell.1; have hd1 := HV.out.blk.cell.2
    have HB3 := HB
    have HLT := Lib.hid (show w.heap.size + 1 < w3.heap.size from HBR.out.lt)
    go_wp2_with fail
    refine (l12Copy_any _ xs L HDK.out _ HV.out.d).mono ?_
    rintro e w4 ⟨v1, v2, rfl, hgo⟩
    have hg := hgo.desk
    obtain ⟨p1, e1, rfl⟩ := hg.one
    obtain ⟨p2, e2, rfl⟩ := hg.two
    have HG := Lib.hid hg
    have hal := alloc_below w4 (.cells #[.slice p1 xs.length e1, .slice p2 L.length e2] 31)
    have HO := Lib.hid (Blk2.new w4 31 (.slice p1 xs.length e1) (.slice p2 L.length e2))
    have HB4 := Lib.hid hal
    have hb := below_onto hg.below hal
    have HNO := Lib.hid (show w.heap.size + 1 < w4.heap.size from Nat.lt_of_lt_of_le HLT.out hg.below.size)
    replace HV := Lib.hid (HV.out.kept hb); replace HBR := Lib.hid (HBR.out.kept hb HBR.out.lt); replace HB := Lib.hid (below_onto HB.out hb)
    obtain ⟨w5, hw5⟩ : ∃ w5, w4.alloc (.cells #[.slice p1 xs.length e1, .slice p2 L.length e2] 31) = w5 := ⟨_, rfl⟩
    obtain ⟨O, hO⟩ : ∃ O, w4.heap.size = O := ⟨_, rfl⟩
    rw [hw5] at HV HBR HB HO HB4
    rw [hO] at HO HNO
    clear hgo hg hal hb hd0 hd1
    go_wp2_with fail
    clear hw5 hO
    refine (specReadDeed_any s hs _).mono ?_
    rintro e w6 ⟨rfl, hb⟩
    rw [HRD.out]
    obtain ⟨rk, hrk⟩ : ∃ rk, rdK s.data.toList = rk := ⟨_, rfl⟩
    obtain ⟨ry, hry⟩ : ∃ ry, rdY s.data.toList = ry := ⟨_, rfl⟩
    rw [hrk, hry]
    have hal := alloc_below w6 (.cells #[.int .i64 rk, .int .i64 ry] 39)
    have HE7 := Lib.hid (Blk2.new w6 39 (.int .i64 rk) (.int .i64 ry))
    replace hb := below_onto hb hal
    replace HV := Lib.hid (HV.out.kept hb); replace HBR := Lib.hid (HBR.out.kept hb HBR.out.lt); replace HB := Lib.hid (below_onto HB.out hb)
    replace HO := Lib.hid (HO.out.kept hb HO.out.lt); replace HB4 := Lib.hid (below_onto HB4.out hb)
    obtain ⟨w7, hw7⟩ : ∃ w7, w6.alloc (.cells #[.int .i64 rk, .int .i64 ry] 39) = w7 := ⟨_, rfl⟩
    obtain ⟨E, hE⟩ : ∃ E, w6.heap.size = E := ⟨_, rfl⟩
    rw [hw7] at HV HBR HB HO HB4 HE7
    rw [hE] at HE7
    have hd0 := HV.out.blk.cell.1; have hd1 := HV.out.blk.cell.2
    have HRK := Lib.hid hrk; have HRY := Lib.hid hry
    clear hb hal hrk hry
    have HDO7 := Lib.hid (HDO.out w7 _ HV.out.d)
    rw [HRK.out, HRY.out] at HDO7
    have he0 := HE7.out.cell.1; have he1 := HE7.out.cell.2
    have HLT7 := Lib.hid (show w.heap.size + 1 < w7.heap.size from HBR.out.lt)
    have HB7 := HB
    go_wp2_with fail
    clear hw7 hE
    refine HDO7.out.mono ?_
    rintro e w8 ⟨v3, v4, rfl, hgp⟩
    have hg := hgp.gives
    obtain ⟨p3, e3, rfl⟩ := hg.one
    obtain ⟨p4, e4, rfl⟩ := hg.two
    have HG8 := Lib.hid hg
    have hal := alloc_below w8 (.cells #[.slice p3 ys.length e3, .slice p4 M.length e4] 31)
    have HX := Lib.hid (Blk2.new w8 31 (.slice p3 ys.length e3) (.slice p4 M.length e4))
    have HAL := Lib.hid hal
    replace HBR := Lib.hid (HBR.out.kept (below_onto hg.below hal) HBR.out.lt)
    obtain ⟨w9, hw9⟩ : ∃ w9, w8.alloc (.cells #[.slice p3 ys.length e3, .slice p4 M.length e4] 31) = w9 := ⟨_, rfl⟩
    rw [hw9] at HX HAL HBR
    have hx0 := HX.out.cell.1; have hx1 := HX.out.cell.2
    have hr0 := HBR.out.cell.1; have hr1 := HBR.out.cell.2; have hr2 := HBR.out.frozen 0; have hr3 := HBR.out.frozen 1
    clear hgp hg hal hd0 hd1 he0 he1
    go_wp2_with fail
    clear hw9
    refine bodyPost_ret (results_desk rfl _ _ (w.heap.size + 1) ((HBR.out.set0 _).set1 _) rfl rfl (by kernel_rfl)) rfl ?_
    exact ⟨_, _, retdt HE1.out, HG8.out.fin HB7.out (Nat.le_succ _) HLT7.out HAL.out⟩
  | false =>
    rw [if_neg (by decide)]
    have hdd := h
    obtain ⟨a, c, b, c2, rfl, _⟩ := h.parts
    have q1 := alloc_below w (.cells #[.slice a xs.length c, .slice b L.length c2] 31)
    have q2 := alloc_below (w.alloc (.cells #[.slice a xs.length c, .slice b L.length c2] 31)) (.cells #[.slice none 0 0, .slice none 0 0] 31)
    have HV := Lib.hid ((VarD.new hdd).kept q2)
    have hbr := Blk2.new (w.alloc (.cells #[.slice a xs.length c, .slice b L.length c2] 31)) 31 (.slice none 0 0) (.slice none 0 0)
    rw [alloc_size] at hbr
    have HBR := Lib.hid hbr
    have HB := Lib.hid (below_onto q1 q2)
    obtain ⟨w2, hw2⟩ : ∃ w2, (w.alloc (.cells #[.slice a xs.length c, .slice b L.length c2] 31)).alloc (.cells #[.slice none 0 0, .slice none 0 0] 31) = w2 := ⟨_, rfl⟩
    rw [hw2] at HV HBR HB
    have hd0 := HV.out.blk.cell.1; have hd1 := HV.out.blk.cell.2
    clear h hdd q1 q2 hbr
    go_enter Tryz.func21, Tryz.ntmps21
    go_wp2_with fail
    clear hw2
    refine (specDeskOk_any _ xs L _ HV.out.d).mono ?_
    rintro e w3 ⟨rfl, hb⟩
    rw [HDK.out]
    replace HV := Lib.hid (HV.out.kept hb); replace HBR := Lib.hid (HBR.out.kept hb HBR.out.lt); replace HB := Lib.hid (below_onto HB.out hb)
    clear hb hd0 hd1
    have hd0 := HV.out.blk.cell.1; have hd1 := HV.out.blk.cell.2
    have HB3 := HB
    have HLT := Lib.hid (show w.heap.size + 1 < w3.heap.size from HBR.out.lt)
    go_wp2_with fail
    refine (l12Copy_any _ xs L HDK.out _ HV.out.d).mono ?_
    rintro e w4 ⟨v1, v2, rfl, hgo⟩
    have hg := hgo.desk
    obtain ⟨p1, e1, rfl⟩ := hg.one
    obtain ⟨p2, e2, rfl⟩ := hg.two
    have HG := Lib.hid hg
    have hal := alloc_below w4 (.cells #[.slice p1 xs.length e1, .slice p2 L.length e2] 31)
    have HO := Lib.hid (Blk2.new w4 31 (.slice p1 xs.length e1) (.slice p2 L.length e2))
    have HB4 := Lib.hid hal
    have hb := below_onto hg.below hal
    have HNO := Lib.hid (show w.heap.size + 1 < w4.heap.size from Nat.lt_of_lt_of_le HLT.out hg.below.size)
    replace HV := Lib.hid (HV.out.kept hb); replace HBR := Lib.hid (HBR.out.kept hb HBR.out.lt); replace HB := Lib.hid (below_onto HB.out hb)
    obtain ⟨w5, hw5⟩ : ∃ w5, w4.alloc (.cells #[.slice p1 xs.length e1, .slice p2 L.length e2] 31) = w5 := ⟨_, rfl⟩
    obtain ⟨O, hO⟩ : ∃ O, w4.heap.size = O := ⟨_, rfl⟩
    rw [hw5] at HV HBR HB HO HB4
    rw [hO] at HO HNO
    clear hgo hg hal hb hd0 hd1
    go_wp2_with fail
    clear hw5 hO
    refine (specReadDeed_any s hs _).mono ?_
    rintro e w6 ⟨rfl, hb⟩
    rw [HRD.out]
    obtain ⟨rk, hrk⟩ : ∃ rk, rdK s.data.toList = rk := ⟨_, rfl⟩
    obtain ⟨ry, hry⟩ : ∃ ry, rdY s.data.toList = ry := ⟨_, rfl⟩
    rw [hrk, hry]
    have hal := alloc_below w6 (.cells #[.int .i64 rk, .int .i64 ry] 39)
    have HE7 := Lib.hid (Blk2.new w6 39 (.int .i64 rk) (.int .i64 ry))
    replace hb := below_onto hb hal
    replace HV := Lib.hid (HV.out.kept hb); replace HBR := Lib.hid (HBR.out.kept hb HBR.out.lt); replace HB := Lib.hid (below_onto HB.out hb)
    replace HO := Lib.hid (HO.out.kept hb HO.out.lt); replace HB4 := Lib.hid (below_onto HB4.out hb)
    obtain ⟨w7, hw7⟩ : ∃ w7, w6.alloc (.cells #[.int .i64 rk, .int .i64 ry] 39) = w7 := ⟨_, rfl⟩
    obtain ⟨E, hE⟩ : ∃ E, w6.heap.size = E := ⟨_, rfl⟩
    rw [hw7] at HV HBR HB HO HB4 HE7
    rw [hE] at HE7
    have hd0 := HV.out.blk.cell.1; have hd1 := HV.out.blk.cell.2
    have HRK := Lib.hid hrk; have HRY := Lib.hid hry
    clear hb hal hrk hry
    have HDO7 := Lib.hid (HDO.out w7 _ HV.out.d)
    rw [HRK.out, HRY.out] at HDO7
    have he0 := HE7.out.cell.1; have he1 := HE7.out.cell.2
    have HLT7 := Lib.hid (show w.heap.size + 1 < w7.heap.size from HBR.out.lt)
    have HB7 := HB
    go_wp2_with fail
    clear hw7 hE
    refine HDO7.out.mono ?_
    rintro e w8 ⟨v3, v4, rfl, hgp⟩
    have hg := hgp.gives
    obtain ⟨p3, e3, rfl⟩ := hg.one
    obtain ⟨p4, e4, rfl⟩ := hg.two
    have HG8 := Lib.hid hg
    have hal := alloc_below w8 (.cells #[.slice p3 ys.length e3, .slice p4 M.length e4] 31)
    have HX := Lib.hid (Blk2.new w8 31 (.slice p3 ys.length e3) (.slice p4 M.length e4))
    have HAL := Lib.hid hal
    replace HBR := Lib.hid (HBR.out.kept (below_onto hg.below hal) HBR.out.lt)
    obtain ⟨w9, hw9⟩ : ∃ w9, w8.alloc (.cells #[.slice p3 ys.length e3, .slice p4 M.length e4] 31) = w9 := ⟨_, rfl⟩
    rw [hw9] at HX HAL HBR
    have hx0 := HX.out.cell.1; have hx1 := HX.out.cell.2
    have hr0 := HBR.out.cell.1; have hr1 := HBR.out.cell.2; have hr2 := HBR.out.frozen 0; have hr3 := HBR.out.frozen 1
    clear hgp hg hal hd0 hd1 he0 he1
    go_wp2_with fail
    clear hw9
    refine bodyPost_ret (results_desk rfl _ _ (w.heap.size + 1) ((HBR.out.set0 _).set1 _) rfl rfl (by kernel_rfl)) rfl ?_
    exact ⟨_, _, retdt HE2.out, HG8.out.fin HB7.out (Nat.le_succ _) HLT7.out HAL.out⟩
theorem specDeskLine_any (d : Value) (xs : List Int) (L : List (List Int)) (s : ByteArray) (hs : s.size ≤ 1048600) (w : World) (h : DeskR w d xs L) :
    Calls Tryz.prog 21 #[d, .string s] w (LineD (liX xs L s.data.toList) (liL xs L s.data.toList) (liT ansW xs L s.data.toList) w) := by
  cases hdk : deskB xs L with
  | false =>
    obtain ⟨e1, e2, e3⟩ := li_none (A := ansW) (l := s.data.toList) hdk
    rw [e1, e2, e3]
    exact specLine_no d xs L s hdk w h
  | true =>
    cases hrd : rdDB s.data.toList with
    | true =>
      rw [liT_deed (A := ansW) (B := fun _ _ => []) hdk hrd]
      exact specLine_deed d xs L s hs hdk hrd w h
    | false =>
      obtain ⟨e1, e2, e3⟩ := li_ask (A := ansW) hdk hrd
      rw [e1, e2, e3]
      have hf := (deskB_iff.1 hdk).1
      by_cases h0 : s.data.toList = allW
      · rw [show ansW xs s.data.toList = allA xs by unfold ansW; rw [if_pos h0]]
        exact specLine_all d xs L s hs hdk hrd h0 w h
      by_cases h1 : s.data.toList = companyW
      · rw [show ansW xs s.data.toList = companyA xs by unfold ansW; rw [if_neg h0, if_pos h1]]
        exact specLine_company d xs L s hs hdk hrd h0 h1 w h
      by_cases h2 : s.data.toList = weakW
      · rw [show ansW xs s.data.toList = weakA xs by unfold ansW; rw [if_neg h0, if_neg h1, if_pos h2]]
        exact specLine_weak d xs L s hs hdk hrd h0 h1 h2 w h
      by_cases h3 : s.data.toList = strongW
      · rw [show ansW xs s.data.toList = strongA xs by unfold ansW; rw [if_neg h0, if_neg h1, if_neg h2, if_pos h3]]
        exact specLine_strong d xs L s hs hdk hrd h0 h1 h2 h3 w h
      by_cases h4 : s.data.toList = summedW
      · rw [show ansW xs s.data.toList = summedA xs by unfold ansW; rw [if_neg h0, if_neg h1, if_neg h2, if_neg h3, if_pos h4]]
        exact specLine_summed d xs L s hs hdk hrd h0 h1 h2 h3 h4 w h
      by_cases h5 : s.data.toList = classicalW
      · rw [show ansW xs s.data.toList = classicalA xs by unfold ansW; rw [if_neg h0, if_neg h1, if_neg h2, if_neg h3, if_neg h4, if_pos h5]]
        exact specLine_classical d xs L s hs hdk hrd h0 h1 h2 h3 h4 h5 w h
      by_cases h6 : s.data.toList = atomsW
      · rw [show ansW xs s.data.toList = atomsA xs by unfold ansW; rw [if_neg h0, if_neg h1, if_neg h2, if_neg h3, if_neg h4, if_neg h5, if_pos h6]]
        exact specLine_atoms d xs L s hs hdk hrd h0 h1 h2 h3 h4 h5 h6 w h
      by_cases h7 : s.data.toList = wholeW
      · rw [show ansW xs s.data.toList = wholeA xs by unfold ansW; rw [if_neg h0, if_neg h1, if_neg h2, if_neg h3, if_neg h4, if_neg h5, if_neg h6, if_pos h7]]
        unfold wholeA oneW
        cases ho : wholeOk xs.length (wdF xs) with
        | false =>
          rw [if_neg (by decide)]
          exact specLine_whole0 d xs L s hs hdk hrd h0 h1 h2 h3 h4 h5 h6 h7 ho w h
        | true =>
          obtain ⟨C, hC, hN⟩ := whole_at hf ho
          rw [if_pos rfl, hN, Int.toNat_natCast]
          exact specLine_whole1 d xs L s hs hdk hrd h0 h1 h2 h3 h4 h5 h6 h7 C hC hN ho w h
      have hq : ¬ isQ s.data.toList := by
        rintro (e | e | e | e | e | e | e | e)
        · exact h0 e
        · exact h1 e
        · exact h2 e
        · exact h3 e
        · exact h4 e
        · exact h5 e
        · exact h6 e
        · exact h7 e
      rw [ans_two hq]
      by_cases hw : (spL s.data.toList 32).length = 3
      · by_cases hp : pA xs s.data.toList < 0
        · rw [if_pos (.inl hp)]
          exact specLine_whatp d xs L s hs hdk hrd h0 h1 h2 h3 h4 h5 h6 h7 hw hp w h
        · by_cases hq : pB xs s.data.toList < 0
          · rw [if_pos (.inr hq)]
            exact specLine_whatq d xs L s hs hdk hrd h0 h1 h2 h3 h4 h5 h6 h7 hw (by omega) hq w h
          · rw [if_neg (by omega)]
            have hpl := (plI_lt xs (rdI (cut1 (cut2 s.data.toList)))).2
            have hql := (plI_lt xs (rdI (cut2 (cut2 s.data.toList)))).2
            have hpl : pA xs s.data.toList < xs.length := hpl
            have hql : pB xs s.data.toList < xs.length := hql
            obtain ⟨X, hX⟩ := Int.eq_ofNat_of_zero_le (show 0 ≤ pA xs s.data.toList by omega)
            obtain ⟨Y, hY⟩ := Int.eq_ofNat_of_zero_le (show 0 ≤ pB xs s.data.toList by omega)
            rw [hX] at hpl
            rw [hY] at hql
            rw [hX, hY]
            unfold twoW
            by_cases g0 : cut1 s.data.toList = sumW
            · rw [if_pos g0]
              exact specLine_sum d xs L s hs hdk hrd h0 h1 h2 h3 h4 h5 h6 h7 hw X Y hX hY (by omega) (by omega) g0 w h
            rw [if_neg g0]
            by_cases g1 : cut1 s.data.toList = commonW
            · rw [if_pos g1]
              unfold commonA oneW
              cases ho : commonOk xs.length (wdF xs) X Y with
              | false =>
                rw [if_neg (by decide)]
                exact specLine_common0 d xs L s hs hdk hrd h0 h1 h2 h3 h4 h5 h6 h7 hw X Y hX hY g0 g1 ho w h
              | true =>
                obtain ⟨C, hC, hN⟩ := common_at hf ho
                rw [if_pos rfl, hN, Int.toNat_natCast]
                exact specLine_common1 d xs L s hs hdk hrd h0 h1 h2 h3 h4 h5 h6 h7 hw X Y hX hY g0 g1 C hC hN ho w h
            rw [if_neg g1]
            by_cases g2 : cut1 s.data.toList = leftW
            · rw [if_pos g2]
              unfold leftA oneW
              cases ho : leftOk xs.length (wdF xs) X Y with
              | false =>
                rw [if_neg (by decide)]
                exact specLine_left0 d xs L s hs hdk hrd h0 h1 h2 h3 h4 h5 h6 h7 hw X Y hX hY g0 g1 g2 ho w h
              | true =>
                obtain ⟨C, hC, hN⟩ := left_at hf ho
                rw [if_pos rfl, hN, Int.toNat_natCast]
                exact specLine_left1 d xs L s hs hdk hrd h0 h1 h2 h3 h4 h5 h6 h7 hw X Y hX hY g0 g1 g2 C hC hN ho w h
            rw [if_neg g2]
            exact specLine_whatw d xs L s hs hdk hrd h0 h1 h2 h3 h4 h5 h6 h7 hw X Y hX hY g0 g1 g2 w h
      · have hno : pA xs s.data.toList < 0 ∨ pB xs s.data.toList < 0 := by
          rcases (three_words s.data.toList).2 hw with e | e
          · refine .inl ?_
            unfold pA
            rw [e, plI_bad hf]; omega
          · refine .inr ?_
            unfold pB
            rw [e, plI_bad hf]; omega
        rw [if_pos hno]
        exact specLine_what3 d xs L s hs hdk hrd h0 h1 h2 h3 h4 h5 h6 h7 hw w h
end Go.Proofs.YthaickihoagnmaaGreatDoor
namespace Go.Proofs.YthaickihoagnmaaGreatDoor
set_option linter.unusedVariables false
set_option linter.unusedSimpArgs false
open Go.RowKit Go.Maps
theorem li_okD (xs : List Int) (L : List (List Int)) (l : List UInt8) : okD (liX xs L l) (liL xs L l) := by
  cases h : deskB xs L with
  | false =>
    obtain ⟨e1, e2, _⟩ := li_none (A := fun _ _ => []) (l := l) h
    rw [e1, e2]
    exact okD_nil
  | true => exact okD_desk (li_desk h)
end Go.Proofs.YthaickihoagnmaaGreatDoor
namespace Go.Proofs.YthaickihoagnmaaGreatDoor
set_option linter.unusedVariables false
set_option linter.unusedSimpArgs false
open Go.RowKit Go.Maps
def LiDr (w : World) (e : Ending) (w' : World) : Prop :=
  ∃ (a : Option Addr) (c : Nat) (b : Option Addr) (c2 : Nat) (xs : List Int) (L : List (List Int)) (t : ByteArray), e = .returned (.tuple #[.agg #[.slice a xs.length c, .slice b L.length c2], .string t]) ∧ DeskR w' (.agg #[.slice a xs.length c, .slice b L.length c2]) xs L ∧ okD9 xs L ∧ t.size ≤ 100 ∧ Below w.heap.size w w'
theorem liDr_end {w w1 w7 wz : World} {p1 p2 : Option Addr} {e1 e2 : Nat} {xs : List Int} {rs : List Fr} {t : ByteArray} (hg : DeskG w7 w1.heap.size (.slice p1 xs.length e1) (.slice p2 rs.length e2) xs rs) (hk : okD9 xs (rs.map Fr.xs)) (ht : t.size ≤ 100) (hb : Below w.heap.size w w7)
    (hw : w.heap.size + 1 ≤ w1.heap.size) (hz : ∃ u1 u2, wz = (w7.setCell ⟨w.heap.size, 0, none⟩ u1).setCell ⟨w.heap.size, 1, none⟩ u2) :
    LiDr w (.returned (.tuple #[.agg #[.slice p1 xs.length e1, .slice p2 rs.length e2], .string t])) wz := by
  obtain ⟨u1, u2, rfl⟩ := hz
  have hR := hk.read ((hg.put (p := ⟨w.heap.size, 0, none⟩) (u := u1) (show w.heap.size < _ by omega)).put (p := ⟨w.heap.size, 1, none⟩) (u := u2) (show w.heap.size < _ by omega)) rfl
  have hB := (hb.setCell (p := ⟨w.heap.size, 0, none⟩) (Nat.le_refl _) u1).setCell (p := ⟨w.heap.size, 1, none⟩) (Nat.le_refl _) u2
  have hl : rs.length = (rs.map Fr.xs).length := (List.length_map ..).symm
  rw [hl] at hR ⊢
  exact ⟨p1, e1, p2, e2, xs, rs.map Fr.xs, t, rfl, hR, hk, ht, hB⟩
set_option maxRecDepth 100000 in
set_option maxHeartbeats 6400000 in
theorem DrawDeskLine_any (a : Option Addr) (n cap : Nat) (w : World) (h : BytesIn w a n cap) :
    Calls Tryz.prog 20 #[.slice a n cap] w (LiDr w) := by
  have q1 := alloc_below w (.cells #[.slice none 0 0, .slice none 0 0] 31)
  have H := Lib.hid (bytes_al h (.cells #[.slice none 0 0, .slice none 0 0] 31))
  have HAL := Lib.hid q1
  have HBR := Lib.hid (Blk2.new w 31 (.slice none 0 0) (.slice none 0 0))
  obtain ⟨w0, hw0⟩ : ∃ w0, w.alloc (.cells #[.slice none 0 0, .slice none 0 0] 31) = w0 := ⟨_, rfl⟩
  rw [hw0] at H HAL HBR
  clear h q1
  go_enter Tryz.func20, Tryz.ntmps20
  go_wp2_with fail
  clear hw0
  refine (open_any _ _ _ _ H.out).mono ?_
  rintro e w1 ⟨rfl, hb1, hr1⟩
  have hlt : w.heap.size < w0.heap.size := HBR.out.lt
  replace HBR := Lib.hid (HBR.out.kept hb1 HBR.out.lt)
  have HB1 := Lib.hid (below_onto HAL.out hb1); have HR1 := Lib.hid hr1
  obtain ⟨rb, hrb⟩ : ∃ rb, w0.heap.size = rb := ⟨_, rfl⟩
  rw [hrb] at HR1 hlt ⊢
  clear hb1 hr1 hrb
  go_wp2_with fail
  have hrbw : rb < w1.heap.size := HR1.out.1
  refine (desk_any rb 0 12 (by omega) (by omega) (by omega) _ HR1.out).mono ?_
  rintro e w2 ⟨v1, v2, xs, rs, rfl, hg, hk, ho, hr⟩
  obtain ⟨p1, e1, rfl⟩ := hg.now.slice
  obtain ⟨p2, e2, hp2⟩ := hg.past.seq.slice
  rw [List.length_map] at hp2
  subst hp2
  have hoI : OwnI w2 w1.heap.size (.slice p1 xs.length e1) xs.length := ⟨xs, rfl, hk.1.2, hg.now⟩
  obtain ⟨_, _, hpe, hlst⟩ := hoI.lst hk.1.1 hrbw
  injection hpe with h1 h2 h3
  subst h1; subst h3; clear h2
  have hal := alloc_below w2 (.cells #[.slice p1 xs.length e1, .slice p2 rs.length e2] 31)
  have HBA := Lib.hid (Blk2.new w2 31 (.slice p1 xs.length e1) (.slice p2 rs.length e2))
  replace HBR := Lib.hid ((HBR.out.only ho (by omega)).kept hal (HBR.out.only ho (by omega)).lt)
  have HB3 := Lib.hid ((HB1.out.trans (ho.below (by omega) HB1.out.size)).alloc (show w.heap.size ≤ w2.heap.size by have := HB1.out.size; have := ho.size; omega) (.cells #[.slice p1 xs.length e1, .slice p2 rs.length e2] 31))
  have HG := Lib.hid (hg.kept hal)
  have HK := Lib.hid hk
  have HR := Lib.hid (hr.al (.cells #[.slice p1 xs.length e1, .slice p2 rs.length e2] 31))
  have HL := Lib.hid (lst_al hlst (.cells #[.slice p1 xs.length e1, .slice p2 rs.length e2] 31))
  have HSZ := Lib.hid (show w.heap.size + 1 ≤ w1.heap.size ∧ w1.heap.size ≤ w2.heap.size ∧ rb < w2.heap.size by have := ho.size; omega)
  obtain ⟨w3, hw3⟩ : ∃ w3, w2.alloc (.cells #[.slice p1 xs.length e1, .slice p2 rs.length e2] 31) = w3 := ⟨_, rfl⟩
  obtain ⟨A, hA⟩ : ∃ A, w2.heap.size = A := ⟨_, rfl⟩
  rw [hw3] at HBA HBR HB3 HG HR HL
  rw [hA] at HBA HSZ
  have hd1 : ¬ A = w.heap.size := by have := HSZ.out; omega
  have hd3 : ¬ w.heap.size = A := fun e => hd1 e.symm
  have HAR := Lib.hid (show A ≠ rb by have := HSZ.out; omega)
  have HDR := Lib.hid (show w.heap.size ≠ rb by omega)
  have HKS := Lib.hid (show ∀ W : World, W.heap[A]? = w3.heap[A]? → (W.cell? ⟨A, 0, none⟩ = some (.slice p1 xs.length e1) ∧ W.cell? ⟨A, 1, none⟩ = some (.slice p2 rs.length e2)) from fun W hW => Blk2.cell (show Blk2 W A 31 _ _ from hW.trans HBA.out))
  have HN1 := Lib.hid hd1
  clear hg hk ho hr hal hoI hlst
  go_upto_region 3 with fail
  clear hw3 hA
  go_region_held3 (fun W => W.cell? ⟨A, 0, none⟩ = some (.slice p1 xs.length e1) ∧ W.cell? ⟨A, 1, none⟩ = some (.slice p2 rs.length e2))
    (first | exact HKS.out _ rfl | exact HKS.out _ HA7.out | exact HKS.out _ (((set_blk HN1.out).trans (set_blk HN1.out)).trans HA7.out) | go_keep)
    (first | (go_at_call 65; refine (line_any rb (0 + 1100) p1 xs.length e1 (by omega) _ (by first | with_reducible exact HR.out | with_reducible exact rdr_dr HR.out) (by first | with_reducible exact HL.out | with_reducible exact lst_dr HL.out)).mono ?_; rintro e w7 ⟨tt, rfl, hx, ho7, hr7⟩; have HX7 := Lib.hid hx; have HO7 := Lib.hid (show Only rb w3 w7 from (by first | with_reducible exact ho7 | with_reducible exact (only_dr (Only.refl rb w3)).trans ho7)); have HA7 := Lib.hid (only_new HBA.out HO7.out HAR.out); have HBR7 := Lib.hid (HBR.out.only HO7.out HDR.out); have hr0 := HBR7.out.cell.1; have hr1 := HBR7.out.cell.2; have hr2 := HBR7.out.frozen 0; have hr3 := HBR7.out.frozen 1; clear hx ho7 hr7))
  all_goals
    go_wp2_with fail
    refine bodyPost_ret (results_desk rfl _ _ w.heap.size ((HBR7.out.set0 _).set1 _) rfl rfl (by kernel_rfl)) rfl ?_
    exact liDr_end (HG.out.only HO7.out hrbw) HK.out HX7.out (HB3.out.trans (HO7.out.below (by omega) HB3.out.size)) HSZ.out.1 ⟨_, _, rfl⟩
end Go.Proofs.YthaickihoagnmaaGreatDoor
namespace Go.Proofs.YthaickihoagnmaaGreatDoor
set_option linter.unusedVariables false
set_option linter.unusedSimpArgs false
open Go.RowKit Go.Maps
theorem ans_nil {xs : List Int} (h : famL xs = true) : ansW xs [] = whatW := by
  have hp : pA xs [] < 0 := by
    unfold pA
    rw [show cut1 (cut2 []) = [] by decide, rdI_nil, plI_bad h]
    decide
  rw [ans_two (by unfold isQ; decide), if_pos (.inl hp)]
theorem li_nil {xs : List Int} {L : List (List Int)} (h : deskB xs L = true) : liX xs L [] = xs ∧ liL xs L [] = L ∧ liT ansW xs L [] = whatW := by
  obtain ⟨e1, e2, e3⟩ := li_ask (A := ansW) (l := []) h (by decide +kernel)
  exact ⟨e1, e2, e3.trans (ans_nil (deskB_iff.1 h).1)⟩
theorem line_own {xs ys : List Int} {L M : List (List Int)} {s tb : ByteArray} (hs : s.size ≤ 1048600) (h1 : liX xs L s.data.toList = ys) (h2 : liL xs L s.data.toList = M) (h3 : bs (liT ansW xs L s.data.toList) = tb) (W : World) (d : Value) (h : DeskR W d xs L) :
    (TabW W → Calls Tryz.prog 14 #[d, .string s] W fun e w' => ∃ v1 v2, e = .returned (.tuple #[.agg #[v1, v2], .string tb]) ∧ GivesD ys M W w' v1 v2) ∧
    (Calls Tryz.prog 21 #[d, .string s] W fun e w' => ∃ v1 v2, e = .returned (.tuple #[.agg #[v1, v2], .string tb]) ∧ GivesD ys M W w' v1 v2) := by
  constructor
  · intro hT
    have := DeskLine_any d xs L s hs W h hT
    unfold LineD at this
    rw [h1, h2, h3] at this
    exact this
  · have := specDeskLine_any d xs L s hs W h
    unfold LineD at this
    rw [h1, h2, h3] at this
    exact this
set_option maxRecDepth 100000 in
set_option maxHeartbeats 12800000 in
theorem lawDeskLine (a : Option Addr) (n cap : Nat) (w : World) (h : BytesIn w a n cap) (hT : TabW w) :
    Calls Tryz.prog 4 #[.slice a n cap] w (TrueEnd w) := by
  have hlen := h.len
  have H := Lib.hid h; have HT := Lib.hid hT
  clear h hT
  by_cases hn : 1048576 < n
  · go_enter Tryz.func4, Tryz.ntmps4
    go_wp2_with fail
    go_ret
    exact ⟨rfl, Below.refl _ _⟩
  · go_enter Tryz.func4, Tryz.ntmps4
    go_wp2_with fail
    refine (DrawDeskLine_any _ _ _ _ H.out).mono ?_
    rintro e w1 ⟨p1, e1, p2, e2, xs, L, s, rfl, hd, hk, hss, hb1⟩
    have hal := alloc_below w1 (.cells #[.slice p1 xs.length e1, .slice p2 L.length e2] 31)
    have HV := Lib.hid (VarD.new hd)
    have HB := Lib.hid (below_onto hb1 hal)
    have hs6 : s.size ≤ 1048600 := by omega
    obtain ⟨w2, hw2⟩ : ∃ w2, w1.alloc (.cells #[.slice p1 xs.length e1, .slice p2 L.length e2] 31) = w2 := ⟨_, rfl⟩
    obtain ⟨A, hA⟩ : ∃ A, w1.heap.size = A := ⟨_, rfl⟩
    rw [hw2] at HV HB
    rw [hA] at HV
    have ha0 := HV.out.blk.cell.1; have ha1 := HV.out.blk.cell.2
    clear H hb1 hd hk hal hss
    obtain ⟨ys, hys⟩ : ∃ ys, liX xs L s.data.toList = ys := ⟨_, rfl⟩
    obtain ⟨M, hM⟩ : ∃ M, liL xs L s.data.toList = M := ⟨_, rfl⟩
    obtain ⟨tb, htb⟩ : ∃ tb, bs (liT ansW xs L s.data.toList) = tb := ⟨_, rfl⟩
    have HOWN := Lib.hid (line_own hs6 hys hM htb)
    have HKD := Lib.hid (show okD ys M by rw [← hys, ← hM]; exact li_okD xs L _)
    have HYS := Lib.hid hys; have HMM := Lib.hid hM; have HTB := Lib.hid htb
    clear hys hM htb hs6
    go_wp2_with fail
    clear hw2 hA
    refine ((HOWN.out _ _ HV.out.d).1 (HT.out.below HB.out)).mono ?_
    rintro e w3 ⟨v1, v2, rfl, hg⟩
    obtain ⟨p3, e3, p4, e4, rfl, rfl, hd, hb⟩ := HKD.out.gives hg
    have hal := alloc_below w3 (.cells #[.slice p3 ys.length e3, .slice p4 M.length e4] 31)
    have HS := Lib.hid (VarD.new hd)
    replace hb := below_onto hb hal
    replace HV := Lib.hid (HV.out.kept hb); replace HB := Lib.hid (below_onto HB.out hb)
    obtain ⟨w4, hw4⟩ : ∃ w4, w3.alloc (.cells #[.slice p3 ys.length e3, .slice p4 M.length e4] 31) = w4 := ⟨_, rfl⟩
    obtain ⟨S, hS⟩ : ∃ S, w3.heap.size = S := ⟨_, rfl⟩
    rw [hw4] at HV HB HS
    rw [hS] at HS
    clear hg hd hb hal ha0 ha1
    have ha0 := HV.out.blk.cell.1; have ha1 := HV.out.blk.cell.2
    go_wp2_with fail
    clear hw4 hS
    refine ((HOWN.out _ _ HV.out.d).2).mono ?_
    rintro e w5 ⟨v3, v4, rfl, hg⟩
    obtain ⟨p5, e5, p6, e6, rfl, rfl, hd, hb⟩ := HKD.out.gives hg
    have hal := alloc_below w5 (.cells #[.slice p5 ys.length e5, .slice p6 M.length e6] 31)
    have HU := Lib.hid (VarD.new hd)
    replace hb := below_onto hb hal
    replace HV := Lib.hid (HV.out.kept hb); replace HS := Lib.hid (HS.out.kept hb); replace HB := Lib.hid (below_onto HB.out hb)
    obtain ⟨w6, hw6⟩ : ∃ w6, w5.alloc (.cells #[.slice p5 ys.length e5, .slice p6 M.length e6] 31) = w6 := ⟨_, rfl⟩
    obtain ⟨U, hU⟩ : ∃ U, w5.heap.size = U := ⟨_, rfl⟩
    rw [hw6] at HV HS HB HU
    rw [hU] at HU
    clear hg hd hb hal ha0 ha1
    have hs0 := HS.out.blk.cell.1; have hs1 := HS.out.blk.cell.2; have ht0 := HU.out.blk.cell.1; have ht1 := HU.out.blk.cell.2
    go_wp2_with fail
    clear hw6 hU
    refine (HKD.out.nine.same _ _ _ HS.out.d HU.out.d).mono ?_
    rintro e w7 ⟨rfl, hb⟩
    replace HV := Lib.hid (HV.out.kept hb); replace HS := Lib.hid (HS.out.kept hb); replace HB := Lib.hid (below_onto HB.out hb)
    clear hb hs0 hs1 ht0 ht1 HU
    have hne : (tb.toList != tb.toList) = false := by simp
    have ha0 := HV.out.blk.cell.1; have ha1 := HV.out.blk.cell.2
    go_wp2_with fail
    refine (specDeskOk_any _ xs L _ HV.out.d).mono ?_
    rintro e w8 ⟨rfl, hb⟩
    replace HV := Lib.hid (HV.out.kept hb); replace HS := Lib.hid (HS.out.kept hb); replace HB := Lib.hid (below_onto HB.out hb)
    clear hb ha0 ha1 hne
    cases hdk : deskB xs L with
    | false =>
      obtain ⟨f1, f2, f3⟩ := li_none (A := ansW) (l := s.data.toList) hdk
      have hte : (tb.toList == []) = true := by rw [← HTB.out, f3, bs_list]; rfl
      rw [HYS.out] at f1; rw [HMM.out] at f2
      subst f1; subst f2
      have hs0 := HS.out.blk.cell.1; have hs1 := HS.out.blk.cell.2
      clear hdk f3
      go_wp2_with fail
      refine (noDesk_any _ _ HS.out.d).mono ?_
      rintro e w9 ⟨rfl, hb⟩
      replace HB := Lib.hid (below_onto HB.out hb)
      clear hb hs0 hs1
      go_wp2_with fail
      refine (alive_any _).mono ?_
      rintro e w20 ⟨rfl, hb⟩
      replace HB := Lib.hid (below_onto HB.out hb); clear hb
      go_wp2_with fail
      go_ret
      exact ⟨rfl, HB.out⟩
    | true =>
      have HOK := Lib.hid (okD_desk hdk)
      have HDY := Lib.hid (show deskB ys M = true by rw [← HYS.out, ← HMM.out]; exact li_desk hdk)
      obtain ⟨n1, n2, n3⟩ := li_nil hdk
      obtain ⟨te, hte⟩ : ∃ te, bs whatW = te := ⟨_, rfl⟩
      have HNIL := Lib.hid (line_own (s := { data := #[] }) (by decide) n1 n2 ((congrArg bs n3).trans hte))
      have ht4 : (te.toList == [119, 104, 97, 116]) = true := by rw [← hte, bs_list]; rfl
      have HST := Lib.hid (fun h => li_stays (A := ansW) (l := s.data.toList) hdk h)
      have ha0 := HV.out.blk.cell.1; have ha1 := HV.out.blk.cell.2
      clear hdk n1 n2 n3 hte
      go_wp2_with fail
      refine ((HNIL.out _ _ HV.out.d).1 (HT.out.below HB.out)).mono ?_
      rintro e w9 ⟨v5, v6, rfl, hg⟩
      obtain ⟨p7, e7, p8, e8, rfl, rfl, hd, hb⟩ := HOK.out.gives hg
      have hal := alloc_below w9 (.cells #[.slice p7 xs.length e7, .slice p8 L.length e8] 31)
      have HU := Lib.hid (VarD.new hd)
      replace hb := below_onto hb hal
      replace HV := Lib.hid (HV.out.kept hb); replace HS := Lib.hid (HS.out.kept hb); replace HB := Lib.hid (below_onto HB.out hb)
      obtain ⟨w10, hw10⟩ : ∃ w10, w9.alloc (.cells #[.slice p7 xs.length e7, .slice p8 L.length e8] 31) = w10 := ⟨_, rfl⟩
      obtain ⟨U, hU⟩ : ∃ U, w9.heap.size = U := ⟨_, rfl⟩
      rw [hw10] at HV HS HB HU
      rw [hU] at HU
      clear hg hd hb hal ha0 ha1
      have hs0 := HS.out.blk.cell.1; have hs1 := HS.out.blk.cell.2
      go_wp2_with fail
      clear hw10 hU
      refine (DeskOk_any _ ys M _ HS.out.d).mono ?_
      rintro e w11 ⟨rfl, hb⟩
      rw [HDY.out]
      replace HV := Lib.hid (HV.out.kept hb); replace HS := Lib.hid (HS.out.kept hb); replace HU := Lib.hid (HU.out.kept hb); replace HB := Lib.hid (below_onto HB.out hb)
      clear hb hs0 hs1
      by_cases hok : liT ansW xs L s.data.toList = okW
      · have hto : (tb.toList == [111, 107]) = true := by rw [← HTB.out, hok, bs_list]; rfl
        have ha0 := HV.out.blk.cell.1; have ha1 := HV.out.blk.cell.2; have ht0 := HU.out.blk.cell.1; have ht1 := HU.out.blk.cell.2
        clear hok
        go_wp2_with fail
        refine (HOK.out.nine.same _ _ _ HU.out.d HV.out.d).mono ?_
        rintro e w12 ⟨rfl, hb⟩
        replace HB := Lib.hid (below_onto HB.out hb)
        clear hb ha0 ha1 ht0 ht1
        go_wp2_with fail
        go_ret
        exact ⟨rfl, HB.out⟩
      · have hto : (tb.toList == [111, 107]) = false := by rw [← HTB.out, bs_list, beq_eq_false_iff_ne]; exact hok
        obtain ⟨f1, f2⟩ := HST.out hok
        rw [HYS.out] at f1; rw [HMM.out] at f2
        subst f1; subst f2
        have ha0 := HV.out.blk.cell.1; have ha1 := HV.out.blk.cell.2; have hs0 := HS.out.blk.cell.1; have hs1 := HS.out.blk.cell.2
        clear hok
        go_wp2_with fail
        refine (HOK.out.nine.same _ _ _ HS.out.d HV.out.d).mono ?_
        rintro e w12 ⟨rfl, hb⟩
        replace HV := Lib.hid (HV.out.kept hb); replace HU := Lib.hid (HU.out.kept hb); replace HB := Lib.hid (below_onto HB.out hb)
        clear hb ha0 ha1 hs0 hs1
        have ha0 := HV.out.blk.cell.1; have ha1 := HV.out.blk.cell.2; have ht0 := HU.out.blk.cell.1; have ht1 := HU.out.blk.cell.2
        go_wp2_with fail
        refine (HOK.out.nine.same _ _ _ HU.out.d HV.out.d).mono ?_
        rintro e w13 ⟨rfl, hb⟩
        replace HB := Lib.hid (below_onto HB.out hb)
        clear hb ha0 ha1 ht0 ht1
        go_wp2_with fail
        go_ret
        exact ⟨rfl, HB.out⟩
end Go.Proofs.YthaickihoagnmaaGreatDoor
namespace Go.Proofs.YthaickihoagnmaaGreatDoor
open Go.ChangeShapes Go.WideShapes Go.ChangeAt Go.RowKit
def laidTabs : List (String × DataW Unit) := [("math/bits.deBruijn32tab", Rows.laid_math_bits_deBruijn32tab), ("math/bits.deBruijn64tab", Rows.laid_math_bits_deBruijn64tab)]
theorem gTab : Tryz.prog.globalNamed "math/bits.deBruijn64tab" = some 2 := by kernel_rfl
theorem tTab : (Tryz.prog.globals[2]?).map (·.type) = some 245 := by kernel_rfl
theorem tab_of {W : World} (h : laidMetH Tryz.prog laidTabs W) : TabW W := by
  rw [MakeChecks.laidMetH_plain _ _ _ (by kernel_rfl)] at h
  have hT := Lib.tabIs_of_head (k := .u8) (zs := Lib.deBruijn64tab.map (fun (n : Nat) => (n : Int))) gTab tTab Tryz.underlying245 Tryz.underlying5 (by kernel_rfl) (by kernel_rfl) h.tail
  intro j hj
  have := hT.cell gTab j (by simpa using hj)
  rw [this]
  congr 2
  simp [List.getD, List.getElem?_map, List.getElem?_eq_getElem hj]
theorem door_met (os : Os) (args : Array Value) : laidMetH Tryz.prog laidTabs ((World.doorLaid Tryz.prog 19 os).forCall (fun _ _ => 0) ⟨#[], args, []⟩).memory :=
  laidMetH_of_parts3 (fuel := 8) (laidMet_of_run' 8 (by kernel_rfl) (by kernel_rfl)) (by kernel_rfl) (by kernel_rfl)
end Go.Proofs.YthaickihoagnmaaGreatDoor
