import Derived.Test.YthaickihoagnmaaGreatDoorQD14
import Derived.SliceStrings
import Derived.Lib.LaidTab
import Derived.LaidMore
import Derived.Stop.LaidErr
import Derived.ProofKit
import Derived.OpenShut
import Derived.Stop.Joined
set_option linter.unusedVariables false
set_option linter.unusedSimpArgs false
set_option maxHeartbeats 12800000
namespace Go.Proofs.YthaickihoagnmaaGreatDoor
open Go.RowKit Go.Maps
theorem OwnS.txs {w : World} {B n c : Nat} {p : Option Addr} {ts : List ByteArray} (h : OwnS w B (.slice p n c) ts) (hl : ts.length = n) (hn : n ≤ 1000) : TxsIn w p n ts := by
  obtain ⟨p', cp, e, _, ht, _⟩ := h.slc (by omega)
  injection e with e1 e2 e3
  subst e1
  rw [hl] at ht
  exact ht
theorem Held.kept {w w' : World} {p : Option Addr} {n s : Nat} (h : Held w p n s) (hb : Below w.heap.size w w') : Held w' p n s := TxsIn.kept h hb
theorem SayEnd.parts {ys : List Int} {M : List (List Int)} {us : List (List UInt8)} {w : World} {e : Ending} {w' : World} (hu : us.length ≤ 40) (h : SayEnd ys M us w e w') :
    ∃ (p1 p2 p3 : Option Addr) (c1 c2 c3 : Nat) (rs : List Fr), e = .returned (.tuple #[.agg #[.slice p1 ys.length c1, .slice p2 M.length c2], .slice p3 us.length c3]) ∧ GivesD ys M w w' (.slice p1 ys.length c1) (.slice p2 M.length c2) ∧
      DeskV (w'.alloc (.cells #[.slice p1 ys.length c1, .slice p2 M.length c2] 31)) w.heap.size (w'.heap.size + 1) w'.heap.size (.slice p1 ys.length c1) (.slice p2 M.length c2) ys rs ∧ rs.map Fr.xs = M ∧
      OwnS (w'.alloc (.cells #[.slice p1 ys.length c1, .slice p2 M.length c2] 31)) w.heap.size (.slice p3 us.length c3) (us.map bs) ∧
      (∀ g, (Value.slice p3 us.length c3).ownBlock = some g → w.heap.size ≤ g ∧ g < w'.heap.size ∧ ¬ DkBl (.slice p1 ys.length c1) (.slice p2 M.length c2) rs g) := by
  obtain ⟨v1, v2, v3, rfl, hg⟩ := h
  have hd := hg.desk
  obtain ⟨p1, c1, rfl⟩ := hd.one
  obtain ⟨p2, c2, rfl⟩ := hd.two
  obtain ⟨rs, h1, h2, h3, h4, h5⟩ := hg
  obtain ⟨p3, c3, e3⟩ := h3.slice
  rw [List.length_map] at e3
  subst e3
  refine ⟨p1, p2, p3, c1, c2, c3, rs, rfl, hd, ⟨Blk2.new _ _ _ _, h1.kept (alloc_below _ _), fun e => by have := (h1.ltB _ e).2; omega, h5.size, Nat.lt_succ_self _, fun q hq => by have := (h1.ltB q hq).2; omega⟩, h2, h3.kept (alloc_below _ _), fun g hg => ?_⟩
  have := World.ownsRow.lt h3 g hg
  exact ⟨this.1, this.2, h4 g hg⟩
set_option maxRecDepth 100000 in
theorem exactDeskSay (d : Value) (xs : List Int) (L : List (List Int)) (a1 : Option Addr) (n c1 : Nat) (ts : List ByteArray) (w : World) (h : DeskR w d xs L) (hts : TxsIn w a1 n ts) (hsz : ∀ t ∈ ts, t.size ≤ maxLen) (hT : TabW w) :
    Calls Tryz.prog 7 #[d, .slice a1 n c1] w (TrueEnd w) := by
  obtain ⟨a, c, b, c2, rfl, hi, hn⟩ := h.parts
  have HX := Lib.hid (ints_I64s hi); have HLI := Lib.hid hn.i64
  have q1 := alloc_below w (.cells #[.slice a xs.length c, .slice b L.length c2] 54)
  have b1 := Blk2.new w 54 (.slice a xs.length c) (.slice b L.length c2)
  have hdr := h.kept q1
  have hz := alloc_size w (.cells #[.slice a xs.length c, .slice b L.length c2] 54)
  have HTS := Lib.hid (hts.kept q1)
  obtain ⟨w0, hw0⟩ : ∃ w0, w.alloc (.cells #[.slice a xs.length c, .slice b L.length c2] 54) = w0 := ⟨_, rfl⟩
  rw [hw0] at b1 q1 hdr hz HTS
  have HDR := Lib.hid hdr; have HBL := Lib.hid b1; have HQ := Lib.hid q1; have HZ0 := Lib.hid hz
  have HT := Lib.hid hT; have HSZ := Lib.hid hsz
  have hlen := hts.len; have hbig := hts.big
  have HLEN := Lib.hid hlen
  have hd0 := b1.cell.1; have hd1 := b1.cell.2
  clear h hi hn q1 b1 hdr hz hT hts hsz hlen
  go_enter Tryz.func7, Tryz.ntmps7
  go_wp2_with fail
  clear hw0
  refine (szDeskB_any _ xs L _ HDR.out).mono ?_
  rintro e w1 ⟨⟨r, rfl, hr⟩, hb⟩
  replace HBL := Lib.hid (HBL.out.kept hb HBL.out.lt); replace HTS := Lib.hid (HTS.out.kept hb)
  replace HDR := Lib.hid (HDR.out.kept hb); replace HQ := Lib.hid (below_onto HQ.out hb)
  clear hb hd0 hd1 HZ0
  rcases hr with rfl | ⟨m0, rfl, hm0, hx, hL, hl⟩
  · go_wp2_with fail
    go_ret
    exact ⟨rfl, HQ.out⟩
  have hge : decide ((m0 : Int) < 0) = false := decide_eq_false (by omega)
  have HL := Lib.hid hl
  clear hl
  go_wp2_with fail
  refine (szStringS_any a1 n c1 ts HSZ.out m0 hm0 _ HTS.out).mono ?_
  rintro e w2 ⟨he, rfl⟩
  rcases he with rfl | ⟨m9, rfl, hnb, htb⟩
  · go_wp2_with fail
    go_ret
    exact ⟨rfl, HQ.out⟩
  have hge9 : decide ((m9 : Int) < 0) = false := decide_eq_false (by omega)
  have HTB := Lib.hid (show ∀ t ∈ ts, t.size ≤ 1048600 from fun t ht => by have := htb t ht; omega)
  clear htb hge
  have hkd := sy_okD xs L (lnsL ts)
  have hul := syT_len xs L (lnsL ts)
  obtain ⟨ys, hys⟩ : ∃ ys, syX ansW xs L (lnsL ts) = ys := ⟨_, rfl⟩
  obtain ⟨M, hM⟩ : ∃ M, syL ansW xs L (lnsL ts) = M := ⟨_, rfl⟩
  obtain ⟨us, hus⟩ : ∃ us, syT ansW xs L (lnsL ts) = us := ⟨_, rfl⟩
  rw [hys, hM] at hkd
  rw [hus] at hul
  have HOK := Lib.hid hkd; have HUL := Lib.hid hul
  have HYL := Lib.hid (show ys.length ≤ 1048576 by have := HOK.out.1.1; omega)
  have HML := Lib.hid (show M.length ≤ 1048576 by have := HOK.out.2.1; omega)
  have HMM := Lib.hid (show ∀ l ∈ M, l.length ≤ 1048576 from fun l hl => by have := (HOK.out.2.2 l hl).1; omega)
  have hyl : ys.length ≤ 7 := HOK.out.1.1
  have HID := Lib.hid (show ∀ W d p cp, DeskR W d xs L → TxsIn W p n ts → TabW W → Calls Tryz.prog 25 #[d, .slice p n cp] W (SayEnd ys M us W) from fun W d p cp h1 h2 h3 => by
    have := DeskSay_any d xs L p n cp ts W h1 h2 HTB.out h3
    rw [hys, hM, hus] at this
    exact this)
  have HSD := Lib.hid (show ∀ W d p cp, DeskR W d xs L → TxsIn W p n ts → Calls Tryz.prog 26 #[d, .slice p n cp] W (SayEnd ys M us W) from fun W d p cp h1 h2 => by
    have := specDeskSay_any d xs L p n cp ts W h1 h2 HTB.out
    rw [hys, hM, hus] at this
    exact this)
  clear hys hM hus hkd hul
  have HUB := Lib.hid (show (us.map bs).length = us.length from List.length_map ..)
  have HD := HDR
  have hd0 := HBL.out.cell.1; have hd1 := HBL.out.cell.2
  -- region 8: the model's answer
  go_wp2_with fail
  refine (toDesk_any _ xs L hx hL HL.out _ HD.out).mono ?_
  rintro e w2 ⟨v1, v2, rfl, hg⟩
  obtain ⟨hr7, hb7, ⟨y1, y2, rfl⟩, ⟨y3, y4, rfl⟩⟩ := hg.read HX.out HLI.out
  have HR7 := Lib.hid hr7; have HB7 := Lib.hid hb7
  clear hg hr7 hb7 hd0 hd1
  go_wp2_with fail
  refine (toStringS_any a1 n c1 ts hnb _ (HTS.out.kept HB7.out)).mono ?_
  rintro e w20 ⟨rfl, hrow, hb⟩
  have HTA := Lib.hid (hrow.txs HLEN.out hnb)
  replace HR7 := Lib.hid (HR7.out.kept hb); replace HB7 := Lib.hid (below_onto HB7.out hb)
  clear hrow hb
  go_wp2_with fail
  refine (HSD.out _ _ _ _ HR7.out HTA.out).mono ?_
  intro e w3 hse
  obtain ⟨p1, p2, p3, e1, e2, e3, r0, rfl, hg, hv0, hr0, ho7, hs7⟩ := hse.parts HUL.out
  have hal := alloc_below w3 (.cells #[.slice p1 ys.length e1, .slice p2 M.length e2] 31)
  have HB5 := Lib.hid (below_onto HB7.out (below_onto hg.below hal))
  have HWB := Lib.hid (show w1.heap.size ≤ w20.heap.size from HB7.out.size)
  have HT0 := Lib.hid (show w3.heap.size + 1 ≤ (w3.alloc (.cells #[.slice p1 ys.length e1, .slice p2 M.length e2] 31)).heap.size by rw [alloc_size]; exact Nat.le_refl _)
  have HS7 := Lib.hid (show ∀ g, (Value.slice p3 us.length e3).ownBlock = some g → w20.heap.size ≤ g ∧ g < w3.heap.size + 1 from fun g hg => by have := hs7 g hg; omega)
  obtain ⟨w4, hw4⟩ : ∃ w4, w3.alloc (.cells #[.slice p1 ys.length e1, .slice p2 M.length e2] 31) = w4 := ⟨_, rfl⟩
  obtain ⟨B0, hB0⟩ : ∃ B0, w20.heap.size = B0 := ⟨_, rfl⟩
  obtain ⟨b0, hb0⟩ : ∃ b0, w3.heap.size = b0 := ⟨_, rfl⟩
  obtain ⟨T0, hT0⟩ : ∃ T0, b0 + 1 = T0 := ⟨_, rfl⟩
  rw [hw4, hB0, hb0, hT0] at hv0
  rw [hw4, hB0] at ho7
  rw [hB0, hb0, hT0] at HS7
  rw [hw4] at HB5
  rw [hw4, hb0, hT0] at HT0
  rw [hB0] at HWB
  have HV5 := Lib.hid hv0; have HR0 := Lib.hid hr0; have HO7 := Lib.hid ho7
  have hd0 := (HBL.out.kept HB5.out HBL.out.lt).cell.1; have hd1 := (HBL.out.kept HB5.out HBL.out.lt).cell.2
  clear hse hg hv0 hr0 hal hT0 hB0 HR7 HB7 ho7 hs7 HTA
  -- region 9: the argument
  go_wp2_with fail
  clear hw4 hb0
  refine (toDesk_any _ xs L hx hL HL.out _ (HD.out.kept HB5.out)).mono ?_
  rintro e w5 ⟨v1, v2, rfl, hg⟩
  obtain ⟨f1, f2, rfl⟩ := hg.one
  obtain ⟨f3, f4, rfl⟩ := hg.two
  obtain ⟨rx, hvx, hrx⟩ := deskV_of hg
  have hal := alloc_below w5 (.cells #[.slice f1 xs.length f2, .slice f3 L.length f4] 31)
  have hb := below_onto hg.below hal
  replace HV5 := Lib.hid (HV5.out.kept hb); replace HO7 := Lib.hid (HO7.out.kept hb); replace HB5 := Lib.hid (below_onto HB5.out hb)
  have HTX := Lib.hid (show T0 ≤ w4.heap.size ∧ w5.heap.size + 1 ≤ (w5.alloc (.cells #[.slice f1 xs.length f2, .slice f3 L.length f4] 31)).heap.size from ⟨HT0.out, by rw [alloc_size]; exact Nat.le_refl _⟩)
  obtain ⟨w6, hw6⟩ : ∃ w6, w5.alloc (.cells #[.slice f1 xs.length f2, .slice f3 L.length f4] 31) = w6 := ⟨_, rfl⟩
  obtain ⟨bx, hbx⟩ : ∃ bx, w5.heap.size = bx := ⟨_, rfl⟩
  obtain ⟨Bx, hBx⟩ : ∃ Bx, w4.heap.size = Bx := ⟨_, rfl⟩
  obtain ⟨Tx, hTx⟩ : ∃ Tx, bx + 1 = Tx := ⟨_, rfl⟩
  rw [hw6, hbx, hBx, hTx] at hvx
  rw [hw6, hbx, hBx, hTx] at HTX
  rw [hw6] at HV5 HB5 HO7
  have HXV := Lib.hid hvx; have HRX := Lib.hid hrx
  clear hg hvx hrx hal hb hBx hd0 hd1 HT0 hTx
  -- region 10: the lines
  go_wp2_with fail
  clear hw6 hbx
  refine (toStringS_any a1 n c1 ts hnb _ (HTS.out.kept HB5.out)).mono ?_
  rintro e w60 ⟨rfl, hrow, hb⟩
  replace HV5 := Lib.hid (HV5.out.kept hb); replace HO7 := Lib.hid (HO7.out.kept hb); replace HB5 := Lib.hid (below_onto HB5.out hb); replace HXV := Lib.hid (HXV.out.kept hb)
  have HN9 := Lib.hid (hrow.own HLEN.out hnb); have HTA := Lib.hid (hrow.txs HLEN.out hnb)
  have HG9 := Lib.hid (show Tx ≤ w6.heap.size ∧ w6.heap.size < w60.heap.size from ⟨HTX.out.2, World.rowIs.lt hrow⟩)
  obtain ⟨g9, hg9⟩ : ∃ g9, w6.heap.size = g9 := ⟨_, rfl⟩
  rw [hg9] at HN9 HTA HG9 ⊢
  clear hrow hb hg9
  have HXR := Lib.hid (HXV.out.readX HRX.out HX.out HLI.out)
  have hd0 := HXV.out.blk.cell.1; have hd1 := HXV.out.blk.cell.2
  -- region 11: the answer
  go_wp2_with fail
  refine (HID.out _ _ _ _ HXR.out HTA.out (HT.out.below (below_onto HQ.out HB5.out))).mono ?_
  intro e w7 hse
  obtain ⟨q1, q2, q3, g1, g2, g3, r1, rfl, hg, hv1, hr1, ho11, hs11⟩ := hse.parts HUL.out
  have hal := alloc_below w7 (.cells #[.slice q1 ys.length g1, .slice q2 M.length g2] 31)
  have hb := below_onto hg.below hal
  replace HV5 := Lib.hid (HV5.out.kept hb); replace HO7 := Lib.hid (HO7.out.kept hb); replace HB5 := Lib.hid (below_onto HB5.out hb); replace HXV := Lib.hid (HXV.out.kept hb); replace HN9 := Lib.hid (HN9.out.kept hb); replace HTA := Lib.hid (HTA.out.kept hb)
  have HTG := Lib.hid (show Tx ≤ g9 ∧ g9 < w60.heap.size from HG9.out)
  obtain ⟨w8, hw8⟩ : ∃ w8, w7.alloc (.cells #[.slice q1 ys.length g1, .slice q2 M.length g2] 31) = w8 := ⟨_, rfl⟩
  obtain ⟨b1, hb1⟩ : ∃ b1, w7.heap.size = b1 := ⟨_, rfl⟩
  obtain ⟨T1, hT1⟩ : ∃ T1, b1 + 1 = T1 := ⟨_, rfl⟩
  obtain ⟨B1, hB1⟩ : ∃ B1, w60.heap.size = B1 := ⟨_, rfl⟩
  rw [hw8, hB1, hb1, hT1] at hv1
  rw [hw8, hB1] at ho11
  rw [hB1, hb1] at hs11
  rw [hB1] at HTG
  rw [hw8] at HV5 HB5 HXV HO7 HN9 HTA
  have HG := Lib.hid hv1; have HR1 := Lib.hid hr1; have HO11 := Lib.hid ho11; have HS11 := Lib.hid hs11
  clear hse hg hv1 hr1 hal hb hB1 hT1 HXR hd0 hd1 ho11 hs11 HG9
  have hc0 := HV5.out.blk.cell.1; have hc1 := HV5.out.blk.cell.2; have hd0 := HG.out.blk.cell.1; have hd1 := HG.out.blk.cell.2
  go_wp2_with fail
  clear hw8 hb1
  refine (eqDesk_any _ _ ys M HYL.out HML.out HMM.out _ (HG.out.read HR1.out HOK.out) (HV5.out.read HR0.out HOK.out)).mono ?_
  rintro e w90 ⟨rfl, hb⟩
  replace HV5 := Lib.hid (HV5.out.kept hb)
  replace HG := Lib.hid (HG.out.kept hb)
  replace HO7 := Lib.hid (HO7.out.kept hb)
  replace HO11 := Lib.hid (HO11.out.kept hb)
  replace HXV := Lib.hid (HXV.out.kept hb)
  replace HN9 := Lib.hid (HN9.out.kept hb)
  replace HTA := Lib.hid (HTA.out.kept hb)
  replace HB5 := Lib.hid (below_onto HB5.out hb)
  clear hb hc0 hc1 hd0 hd1
  have HUQ := Lib.hid (show us.length ≤ 1000 by have := HUL.out; omega)
  go_wp2_with fail
  refine (eqStringS_any _ _ (us.map bs) _ _ us.length _ (HO11.out.txs HUB.out HUQ.out) (HO7.out.txs HUB.out HUQ.out)).mono ?_
  rintro e w9 ⟨rfl, hb⟩
  replace HV5 := Lib.hid (HV5.out.kept hb)
  replace HG := Lib.hid (HG.out.kept hb)
  replace HO7 := Lib.hid (HO7.out.kept hb)
  replace HO11 := Lib.hid (HO11.out.kept hb)
  replace HXV := Lib.hid (HXV.out.kept hb)
  replace HN9 := Lib.hid (HN9.out.kept hb)
  replace HTA := Lib.hid (HTA.out.kept hb)
  replace HB5 := Lib.hid (below_onto HB5.out hb)
  clear hb HUQ
  -- region 14
  have HXR := Lib.hid (HXV.out.readX HRX.out HX.out HLI.out)
  have HB6 := Lib.hid (Below.refl w9.heap.size w9)
  have HKS := Lib.hid (show ∀ W, Below w9.heap.size w9 W → ((W.cell? ⟨bx, 0, none⟩ = some (.slice f1 xs.length f2) ∧ W.cell? ⟨bx, 1, none⟩ = some (.slice f3 L.length f4)) ∧ (W.cell? ⟨w.heap.size, 0, none⟩ = some (.slice a xs.length c) ∧ W.cell? ⟨w.heap.size, 1, none⟩ = some (.slice b L.length c2))) from
    fun W hW => ⟨(HXV.out.kept hW).blk.cell, (HBL.out.kept (below_onto HB5.out hW) HBL.out.lt).cell⟩)
  go_wp2_with fail
  go_region_held3 (fun W => ((W.cell? ⟨bx, 0, none⟩ = some (.slice f1 xs.length f2) ∧ W.cell? ⟨bx, 1, none⟩ = some (.slice f3 L.length f4)) ∧ (W.cell? ⟨w.heap.size, 0, none⟩ = some (.slice a xs.length c) ∧ W.cell? ⟨w.heap.size, 1, none⟩ = some (.slice b L.length c2)))) (first | exact HKS.out _ HB6.out | exact HKS.out _ HB6.out.drew | exact HKS.out _ (below_drewN HB6.out _) | go_keep)
    (first | (go_at_call 30; refine (toDesk_any _ xs L hx hL HL.out _ (HD.out.kept (below_onto HB5.out (by first | exact HB6.out | exact HB6.out.drew | exact below_drewN HB6.out _)))).mono ?_; rintro e w7 ⟨v1, v2, rfl, hg⟩; obtain ⟨hr7, hb7, ⟨y1, y2, rfl⟩, ⟨y3, y4, rfl⟩⟩ := hg.read HX.out HLI.out; have HR7 := Lib.hid hr7; have HZ := Lib.hid (show Below w9.heap.size w9 w7 from (by first | exact hb7 | exact below_onto HB6.out.drew hb7 | exact below_onto (below_drewN HB6.out _) hb7)); clear HB6; have HB6 := HZ; clear HZ hg hb7 hr7) | (go_at_call 31; refine (eqDesk_any _ _ xs L hx hL HL.out _ (HXR.out.kept HB6.out) HR7.out).mono ?_; rintro e w8 ⟨rfl, hb8⟩; have HZ := Lib.hid (HB6.out.trans (hb8.mono HB6.out.size)); clear HB6; have HB6 := HZ; clear HZ hb8))
  replace HV5 := Lib.hid (HV5.out.kept HB6.out); replace HG := Lib.hid (HG.out.kept HB6.out); replace HXV := Lib.hid (HXV.out.kept HB6.out); replace HO7 := Lib.hid (HO7.out.kept HB6.out); replace HO11 := Lib.hid (HO11.out.kept HB6.out); replace HN9 := Lib.hid (HN9.out.kept HB6.out); replace HTA := Lib.hid (HTA.out.kept HB6.out); replace HB5 := Lib.hid (below_onto HB5.out HB6.out)
  clear HKS HXR HB6 HR7
  -- region 16
  go_wp2_with fail
  refine (toStringS_any a1 n c1 ts hnb _ (HTS.out.kept HB5.out)).mono ?_
  rintro e w30 ⟨rfl, hrow, hb⟩
  have HTE := Lib.hid (hrow.txs HLEN.out hnb)
  replace HV5 := Lib.hid (HV5.out.kept hb)
  replace HG := Lib.hid (HG.out.kept hb)
  replace HO7 := Lib.hid (HO7.out.kept hb)
  replace HO11 := Lib.hid (HO11.out.kept hb)
  replace HXV := Lib.hid (HXV.out.kept hb)
  replace HN9 := Lib.hid (HN9.out.kept hb)
  replace HTA := Lib.hid (HTA.out.kept hb)
  replace HB5 := Lib.hid (below_onto HB5.out hb)
  clear hrow hb
  go_wp2_with fail
  refine (eqStringS_any _ _ ts _ _ n _ HTA.out HTE.out).mono ?_
  rintro e w31 ⟨rfl, hb⟩
  replace HV5 := Lib.hid (HV5.out.kept hb)
  replace HG := Lib.hid (HG.out.kept hb)
  replace HO7 := Lib.hid (HO7.out.kept hb)
  replace HO11 := Lib.hid (HO11.out.kept hb)
  replace HXV := Lib.hid (HXV.out.kept hb)
  replace HN9 := Lib.hid (HN9.out.kept hb)
  replace HB5 := Lib.hid (below_onto HB5.out hb)
  clear hb HTE HTA
  have hd0 := HXV.out.blk.cell.1; have hd1 := HXV.out.blk.cell.2
  obtain ⟨mx, hmx⟩ : ∃ mx, 1 + xs.length + totF rx = mx := ⟨_, rfl⟩
  have hmxb : mx ≤ 4398046511104 := by have h1 := tot_big HRX.out hL HL.out; omega
  have HMX := Lib.hid hmx
  clear hmx
  -- region 19
  go_wp2_with fail
  refine (markDesk_any _ _ Bx xs rx 1 mx HMX.out hmxb _ HXV.out.g).mono ?_
  rintro e w10 hmk
  have hmk1 := hmk.1
  subst hmk1
  have hu := HXV.out.markU hmk
  replace HV5 := Lib.hid (HV5.out.upon hu (fun q h1 h2 h3 => by have h4 := HTX.out.1; omega))
  replace HO7 := Lib.hid (HO7.out.upon hu (fun q h1 h3 => by have h2 := HS7.out q h1; have h4 := HTX.out.1; omega))
  replace HG := Lib.hid (HG.out.upon hu (fun q h1 h2 h3 => by have h4 := HTG.out; omega))
  replace HO11 := Lib.hid (HO11.out.upon hu (fun q h1 h3 => by have h2 := HS11.out q h1; have h4 := HTG.out; omega))
  replace HN9 := Lib.hid (HN9.out.upon hu (fun q h1 h3 => by have h2 : g9 = q := by injection h1
                                                             have h4 := HTG.out; omega))
  replace HB5 := Lib.hid (HB5.out.trans (hu.below (B := w1.heap.size) (fun q h3 => by have h8 := HWB.out; have h4 := HTX.out.1; have h5 := HV5.out.lo; have h7 := HV5.out.hi.1; omega) HB5.out.size))
  have HSEP := Lib.hid (show T0 ≤ g9 ∧ T0 ≤ B1 by have h4 := HTX.out.1; have h5 := HXV.out.lo; have h6 := HXV.out.hi.1; have h7 := HTG.out; omega)
  clear hu hmk hd0 hd1 HXV
  -- region 20
  go_wp2_with fail
  refine (markOwn_any (some ⟨g9, 0, none⟩) n n mx g9 ts HLEN.out (by omega) _ HN9.out).mono ?_
  rintro e w11 ⟨rfl, _, hu⟩
  replace HV5 := Lib.hid (HV5.out.upon hu (fun q h1 h2 h3 => by have h5 : g9 = q := by injection h3
                                                                have h4 := HSEP.out; omega))
  replace HO7 := Lib.hid (HO7.out.upon hu (fun q h1 h3 => by have h5 : g9 = q := by injection h3
                                                             have h2 := HS7.out q h1; have h4 := HSEP.out; omega))
  replace HG := Lib.hid (HG.out.upon hu (fun q h1 h2 h3 => by have h5 : g9 = q := by injection h3
                                                              have h4 := HTG.out; omega))
  replace HO11 := Lib.hid (HO11.out.upon hu (fun q h1 h3 => by have h5 : g9 = q := by injection h3
                                                               have h2 := HS11.out q h1; have h4 := HTG.out; omega))
  replace HB5 := Lib.hid (HB5.out.trans (hu.below (B := w1.heap.size) (fun q h3 => by have h5 : g9 = q := by injection h3
                                                                                      have h8 := HWB.out; have h4 := HSEP.out.1; have h5 := HV5.out.lo; have h7 := HV5.out.hi.1; omega) HB5.out.size))
  obtain ⟨my, hmy⟩ : ∃ my, mx + n = my := ⟨_, rfl⟩
  have hmyn : decide ((my : Int) < 0) = false := decide_eq_false (by omega)
  rw [hmy]
  clear hu hmy HN9
  have hc0 := HV5.out.blk.cell.1; have hc1 := HV5.out.blk.cell.2; have hd0 := HG.out.blk.cell.1; have hd1 := HG.out.blk.cell.2
  go_wp2_with fail
  refine (eqDesk_any _ _ ys M HYL.out HML.out HMM.out _ (HG.out.read HR1.out HOK.out) (HV5.out.read HR0.out HOK.out)).mono ?_
  rintro e w12 ⟨rfl, hb⟩
  replace HV5 := Lib.hid (HV5.out.kept hb)
  replace HG := Lib.hid (HG.out.kept hb)
  replace HO7 := Lib.hid (HO7.out.kept hb)
  replace HO11 := Lib.hid (HO11.out.kept hb)
  replace HB5 := Lib.hid (below_onto HB5.out hb)
  clear hb hc0 hc1 hd0 hd1
  have HUQ := Lib.hid (show us.length ≤ 1000 by have := HUL.out; omega)
  go_wp2_with fail
  refine (eqStringS_any _ _ (us.map bs) _ _ us.length _ (HO11.out.txs HUB.out HUQ.out) (HO7.out.txs HUB.out HUQ.out)).mono ?_
  rintro e w13 ⟨rfl, hb⟩
  replace HV5 := Lib.hid (HV5.out.kept hb)
  replace HG := Lib.hid (HG.out.kept hb)
  replace HO7 := Lib.hid (HO7.out.kept hb)
  replace HO11 := Lib.hid (HO11.out.kept hb)
  replace HB5 := Lib.hid (below_onto HB5.out hb)
  clear hb HUQ
  have hd0 := HG.out.blk.cell.1; have hd1 := HG.out.blk.cell.2
  obtain ⟨m, hm⟩ : ∃ m, 1 + ys.length + totF r1 = m := ⟨_, rfl⟩
  have hmb : m ≤ 4398046511104 := by have h1 := HOK.out.tot HR1.out; have h2 := HOK.out.1.1; omega
  have hmn : decide ((m : Int) < 0) = false := decide_eq_false (by omega)
  have HM := Lib.hid hm
  have HTT := Lib.hid (show 1 + ys.length + ((r1.map Fr.xs).map List.length).sum = m from hm)
  clear hm
  -- region 24
  go_wp2_with fail
  refine (markDesk_any _ _ B1 ys r1 1 m HM.out hmb _ HG.out.g).mono ?_
  rintro e w14 hmk
  have hmk1 := hmk.1
  subst hmk1
  have hu := HG.out.markU hmk
  replace HO11 := Lib.hid (HO11.out.upon hmk.2.2 (fun q h1 h3 => (HS11.out q h1).2.2 h3))
  replace HG := Lib.hid (HG.out.mark hmk)
  replace HV5 := Lib.hid (HV5.out.upon hu (fun q h1 h2 h3 => by have h4 := HSEP.out; omega))
  replace HO7 := Lib.hid (HO7.out.upon hu (fun q h1 h3 => by have h2 := HS7.out q h1; have h4 := HSEP.out; omega))
  replace HB5 := Lib.hid (HB5.out.trans (hu.below (B := w1.heap.size) (fun q h3 => by have h4 := HSEP.out; have h5 := HV5.out.lo; have h6 := HWB.out; have h7 := HV5.out.hi.1; omega) HB5.out.size))
  clear hu hmk hd0 hd1
  -- region 25
  have hul40 := HUL.out
  go_wp2_with fail
  refine (markOwn_any q3 us.length g3 m B1 (us.map bs) HUB.out (by omega) _ HO11.out).mono ?_
  rintro e w15 ⟨rfl, hheld, hu⟩
  have HBG := Lib.hid (HG.out.blk.upon hu (fun h3 => by have h2 := HS11.out b1 h3; omega))
  have HGG := Lib.hid (HG.out.g.upon hu (fun q h1 h3 => (HS11.out q h3).2.2 (dkBl_mk h1)))
  have HRD := Lib.hid (HGG.out.marked HM.out hmb)
  have HHE := Lib.hid hheld
  replace HV5 := Lib.hid (HV5.out.upon hu (fun q h1 h2 h3 => by have h2 := HS11.out q h3; have h4 := HSEP.out; omega))
  replace HO7 := Lib.hid (HO7.out.upon hu (fun q h1 h3 => by have h2 := HS7.out q h1; have h5 := HS11.out q h3; have h4 := HSEP.out; omega))
  replace HB5 := Lib.hid (HB5.out.trans (hu.below (B := w1.heap.size) (fun q h3 => by have h2 := HS11.out q h3; have h4 := HSEP.out; have h5 := HV5.out.lo; have h6 := HWB.out; have h7 := HV5.out.hi.1; omega) HB5.out.size))
  obtain ⟨mu, hmu⟩ : ∃ mu, m + us.length = mu := ⟨_, rfl⟩
  have hmun : decide ((mu : Int) < 0) = false := decide_eq_false (by omega)
  have hmm : ((mu : Int) != (mu : Int)) = false := by simp
  have HMU := Lib.hid hmu
  rw [hmu]
  clear hu hheld HG HO11 hmu HGG
  have hd0 := HBG.out.cell.1; have hd1 := HBG.out.cell.2
  -- region 27
  go_wp2_with fail
  refine (heldDesk_any _ ys.length ((r1.map Fr.xs).map List.length) 1 m HTT.out hmb _ HRD.out).mono ?_
  rintro e w16 ⟨rfl, hb⟩
  replace HV5 := Lib.hid (HV5.out.kept hb); replace HO7 := Lib.hid (HO7.out.kept hb); replace HBG := Lib.hid (HBG.out.kept hb HBG.out.lt); replace HB5 := Lib.hid (below_onto HB5.out hb); replace HRD := Lib.hid (HRD.out.kept hb); replace HHE := Lib.hid (HHE.out.kept hb)
  clear hb hd0 hd1
  go_wp2_with fail
  refine (heldStringS_any q3 us.length g3 m (by omega) _ HHE.out).mono ?_
  rintro e w17 ⟨rfl, hb⟩
  rw [HMU.out]
  replace HV5 := Lib.hid (HV5.out.kept hb); replace HO7 := Lib.hid (HO7.out.kept hb); replace HBG := Lib.hid (HBG.out.kept hb HBG.out.lt); replace HB5 := Lib.hid (below_onto HB5.out hb); replace HRD := Lib.hid (HRD.out.kept hb); replace HHE := Lib.hid (HHE.out.kept hb)
  clear hb
  have hd0 := (HBL.out.kept HB5.out HBL.out.lt).cell.1; have hd1 := (HBL.out.kept HB5.out HBL.out.lt).cell.2
  -- region 35
  go_wp2_with fail
  refine (toDesk_any _ xs L hx hL HL.out _ (HD.out.kept HB5.out)).mono ?_
  rintro e w18 ⟨v1, v2, rfl, hg⟩
  obtain ⟨hr7, hb7, ⟨y1, y2, rfl⟩, ⟨y3, y4, rfl⟩⟩ := hg.read HX.out HLI.out
  have HR7 := Lib.hid hr7
  replace HV5 := Lib.hid (HV5.out.kept hb7); replace HO7 := Lib.hid (HO7.out.kept hb7); replace HBG := Lib.hid (HBG.out.kept hb7 HBG.out.lt); replace HB5 := Lib.hid (below_onto HB5.out hb7); replace HRD := Lib.hid (HRD.out.kept hb7); replace HHE := Lib.hid (HHE.out.kept hb7)
  clear hg hr7 hb7 hd0 hd1
  go_wp2_with fail
  refine (toStringS_any a1 n c1 ts hnb _ (HTS.out.kept HB5.out)).mono ?_
  rintro e w19 ⟨rfl, hrow, hb7⟩
  have HTE := Lib.hid (hrow.txs HLEN.out hnb)
  replace HR7 := Lib.hid (HR7.out.kept hb7)
  replace HV5 := Lib.hid (HV5.out.kept hb7); replace HO7 := Lib.hid (HO7.out.kept hb7); replace HBG := Lib.hid (HBG.out.kept hb7 HBG.out.lt); replace HB5 := Lib.hid (below_onto HB5.out hb7); replace HRD := Lib.hid (HRD.out.kept hb7); replace HHE := Lib.hid (HHE.out.kept hb7)
  clear hrow hb7
  go_wp2_with fail
  refine (HID.out _ _ _ _ HR7.out HTE.out (HT.out.below (below_onto HQ.out HB5.out))).mono ?_
  intro e w22 hse
  obtain ⟨s1, s2, s3, t1, t2, t3, r2, rfl, hg, hv2, hr2, ho15, _⟩ := hse.parts HUL.out
  have hal := alloc_below w22 (.cells #[.slice s1 ys.length t1, .slice s2 M.length t2] 31)
  have hb7 := below_onto hg.below hal
  replace HV5 := Lib.hid (HV5.out.kept hb7); replace HO7 := Lib.hid (HO7.out.kept hb7); replace HBG := Lib.hid (HBG.out.kept hb7 HBG.out.lt); replace HB5 := Lib.hid (below_onto HB5.out hb7); replace HRD := Lib.hid (HRD.out.kept hb7); replace HHE := Lib.hid (HHE.out.kept hb7)
  obtain ⟨w23, hw23⟩ : ∃ w23, w22.alloc (.cells #[.slice s1 ys.length t1, .slice s2 M.length t2] 31) = w23 := ⟨_, rfl⟩
  obtain ⟨b2, hb2⟩ : ∃ b2, w22.heap.size = b2 := ⟨_, rfl⟩
  rw [hw23, hb2] at hv2
  rw [hw23] at HV5 HBG HB5 HRD HHE HO7 ho15
  have HH := Lib.hid hv2; have HR2 := Lib.hid hr2; have HO15 := Lib.hid ho15
  clear hse hg hv2 hr2 hal hb7 HR7 HTE ho15
  have hc0 := HV5.out.blk.cell.1; have hc1 := HV5.out.blk.cell.2; have hd0 := HH.out.blk.cell.1; have hd1 := HH.out.blk.cell.2
  go_wp2_with fail
  clear hw23 hb2
  refine (eqDesk_any _ _ ys M HYL.out HML.out HMM.out _ (HH.out.read HR2.out HOK.out) (HV5.out.read HR0.out HOK.out)).mono ?_
  rintro e w24 ⟨rfl, hb7⟩
  replace HO7 := Lib.hid (HO7.out.kept hb7); replace HO15 := Lib.hid (HO15.out.kept hb7); replace HBG := Lib.hid (HBG.out.kept hb7 HBG.out.lt); replace HB5 := Lib.hid (below_onto HB5.out hb7); replace HRD := Lib.hid (HRD.out.kept hb7); replace HHE := Lib.hid (HHE.out.kept hb7)
  clear hb7 hc0 hc1 hd0 hd1 HV5 HH
  go_wp2_with fail
  refine (eqStringS_any _ _ (us.map bs) _ _ us.length _ (HO15.out.txs HUB.out (by omega)) (HO7.out.txs HUB.out (by omega))).mono ?_
  rintro e w25 ⟨rfl, hb7⟩
  replace HBG := Lib.hid (HBG.out.kept hb7 HBG.out.lt); replace HB5 := Lib.hid (below_onto HB5.out hb7); replace HRD := Lib.hid (HRD.out.kept hb7); replace HHE := Lib.hid (HHE.out.kept hb7)
  clear hb7 HO7 HO15
  have hd0 := HBG.out.cell.1; have hd1 := HBG.out.cell.2
  go_wp2_with fail
  refine (heldDesk_any _ ys.length ((r1.map Fr.xs).map List.length) 1 m HTT.out hmb _ HRD.out).mono ?_
  rintro e w26 ⟨rfl, hb7⟩
  replace HB5 := Lib.hid (below_onto HB5.out hb7); replace HHE := Lib.hid (HHE.out.kept hb7)
  clear hb7 hd0 hd1
  go_wp2_with fail
  refine (heldStringS_any q3 us.length g3 m (by omega) _ HHE.out).mono ?_
  rintro e w27 ⟨rfl, hb7⟩
  replace HB5 := Lib.hid (below_onto HB5.out hb7)
  rw [HMU.out]
  clear hb7
  go_wp2_with fail
  go_ret
  exact ⟨rfl, below_onto HQ.out HB5.out⟩
end Go.Proofs.YthaickihoagnmaaGreatDoor
namespace Go.Proofs.YthaickihoagnmaaGreatDoor
open Go.RowKit Go.Maps Go.ChangeShapes Go.WideShapes
theorem texts_open {H : Type} {enc : TypeId × Value → H} {W : World} {n l c : Nat} {a : Option Addr} {y : DataW H × List MemPlace}
    (h : DataW.trod enc Tryz.prog W 0 (fun _ => true) true n 48 [.slice a l c] = some y) : ∃ ts, TxsIn W a l ts ∧ ∀ t ∈ ts, t.size ≤ maxLen := by
  rcases open_strings Tryz.underlying48 Tryz.underlying9 (by kernel_rfl) h with ⟨hcs, _⟩ | ⟨x, l', c', ss, hcs, _, hl, hm, hz, _, hcell, hwz⟩
  · simp at hcs
    obtain ⟨rfl, rfl, rfl⟩ := hcs
    exact ⟨[], TxsIn.nil _ _, fun t ht => by cases ht⟩
  · simp at hcs
    obtain ⟨rfl, rfl, rfl⟩ := hcs
    have hsl : ss.length = c := by simpa using hz
    have hlen : (ss.take l).length = l := by rw [List.length_take]; omega
    refine ⟨ss.take l, ⟨hlen, by unfold maxLen at hm; omega, ?_⟩, fun t ht => hwz t (List.mem_of_mem_take ht)⟩
    by_cases h0 : l = 0
    · exact .inl h0
    · right
      obtain ⟨bk, o, spot⟩ := x
      have hspot : spot = none := by simpa [Addr.add] using World.cell?_spot (hcell 0 (by omega))
      subst hspot
      have h1 := hcell 0 (by omega)
      rw [Go.WideShapes.add_plain] at h1
      refine ⟨bk, o, rfl, World.block_lt_of_cell? W _ h1, fun i hi => ?_⟩
      have hi' : i < ss.length := by rw [hlen] at hi; omega
      have := hcell i hi'
      rw [Go.WideShapes.add_plain] at this
      rw [this, List.getElem_take, List.getD_eq_getElem?_getD, List.getElem?_eq_getElem hi']
      rfl
end Go.Proofs.YthaickihoagnmaaGreatDoor
namespace Go.Proofs.YthaickihoagnmaaGreatDoor
open Go.ChangeShapes Go.WideShapes Go.ChangeAt Go.RowKit
def laidTabs : List (String × DataW Unit) := [("math/bits.deBruijn32tab", Rows.laid_math_bits_deBruijn32tab), ("math/bits.deBruijn64tab", Rows.laid_math_bits_deBruijn64tab)]
theorem gTab : Tryz.prog.globalNamed "math/bits.deBruijn64tab" = some 2 := by kernel_rfl
theorem tTab : (Tryz.prog.globals[2]?).map (·.type) = some 245 := by kernel_rfl
theorem tab_of {W : World} (h : laidMetH Tryz.prog laidTabs W) : TabW W := by
  rw [MakeChecks.laidMetH_plain _ _ _ (by kernel_rfl)] at h
  have hT := Lib.tabIs_of_head (k := .u8) (zs := Lib.deBruijn64tab.map (fun (n : Nat) => (n : Int))) gTab tTab Tryz.underlying245 Tryz.underlying5 (by kernel_rfl) (by kernel_rfl) h.tail
  intro j hj
  have := hT.cell gTab j (by simpa using hj)
  rw [this]
  congr 2
  simp [List.getD, List.getElem?_map, List.getElem?_eq_getElem hj]
theorem door_met (os : Os) (args : Array Value) : laidMetH Tryz.prog laidTabs ((World.doorLaid Tryz.prog 19 os).forCall (fun _ _ => 0) ⟨#[], args, []⟩).memory :=
  laidMetH_of_parts3 (fuel := 8) (laidMet_of_run' 8 (by kernel_rfl) (by kernel_rfl)) (by kernel_rfl) (by kernel_rfl)
end Go.Proofs.YthaickihoagnmaaGreatDoor
