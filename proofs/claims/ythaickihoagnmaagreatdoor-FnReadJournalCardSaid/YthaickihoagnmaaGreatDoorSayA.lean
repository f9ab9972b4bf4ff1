import Derived.Test.YthaickihoagnmaaGreatDoorSayOne
import Derived.Test.YthaickihoagnmaaGreatDoorDkW
import Derived.Test.YthaickihoagnmaaGreatDoorDkEight
namespace Go.Proofs.YthaickihoagnmaaGreatDoor
set_option linter.unusedVariables false
set_option linter.unusedSimpArgs false
open Go.RowKit Go.Maps

/-- a desk and a text are handed back -/
def LineD (xs : List Int) (L : List (List Int)) (t : List UInt8) (w : World) (e : Ending) (w' : World) : Prop := ∃ v1 v2, e = .returned (.tuple #[.agg #[v1, v2], .string (bs t)]) ∧ GivesD xs L w w' v1 v2
theorem GivesD.fin {xs : List Int} {L : List (List Int)} {w w5 w6 W : World} {R : Nat} {v1 v2 : Value} (hg : GivesD xs L w5 w6 v1 v2) (hb : Below w.heap.size w w5) (hR : w.heap.size ≤ R) (hl : R < w5.heap.size) (hW : Below w6.heap.size w6 W) :
    GivesD xs L w ((W.setCell ⟨R, 0, none⟩ v1).setCell ⟨R, 1, none⟩ v2) v1 v2 := by
  obtain ⟨rs, hdg, hrs, hb2⟩ := hg
  exact ⟨rs, (((hdg.kept hW).put (p := ⟨R, 0, none⟩) hl).put (p := ⟨R, 1, none⟩) hl).base hb.size, hrs, ((below_onto (below_onto hb hb2) hW).setCell (p := ⟨R, 0, none⟩) hR _).setCell (p := ⟨R, 1, none⟩) hR _⟩
theorem GivesD.drew {xs : List Int} {L : List (List Int)} {w W : World} {v1 v2 : Value} (h : GivesD xs L w W v1 v2) : GivesD xs L w W.drew v1 v2 := by
  obtain ⟨rs, h1, h2, h3⟩ := h
  exact ⟨rs, h1.kept ((Below.refl _ W).drew), h2, h3.drew⟩
theorem retdt {v1 v2 : Value} {s t : ByteArray} (h : s = t) : Ending.returned (.tuple #[.agg #[v1, v2], .string s]) = .returned (.tuple #[.agg #[v1, v2], .string t]) := by rw [h]
theorem either_any (o : Bool) (s t : ByteArray) (w : World) :
    Calls Tryz.prog 55 #[.bool o, .string s, .string t] w fun e w' => e = .returned (.string (if o then s else t)) ∧ w' = w := by
  cases o with
  | true =>
    go_enter Tryz.func55, Tryz.ntmps55
    go_wp2_with fail
    go_ret
    exact ⟨rfl, rfl⟩
  | false =>
    go_enter Tryz.func55, Tryz.ntmps55
    go_wp2_with fail
    go_ret
    exact ⟨rfl, rfl⟩

theorem deed_rng {k x : Int} (h : dOk k x = true) : (0 ≤ k ∧ k ≤ 4) ∧ 0 ≤ x ∧ x ≤ 15 := by rcases dOk_iff.1 h with h | h <;> omega
theorem rdY_I64 (l : List UInt8) : I64 (rdY l) := by
  cases h : rdD l with
  | none => rw [(rdD_no h).2.1]; unfold I64; omega
  | some d =>
    obtain ⟨k, x⟩ := d
    rw [(rdD_is h).2.1]
    have := deed_rng (rdD_some h).1
    unfold I64; omega
theorem ok_if (o : Bool) : (if o then ({ data := #[111, 107] } : ByteArray) else { data := #[110, 111, 116] }) = bs (if o then okW else notW) := by cases o <;> rfl

set_option maxRecDepth 100000 in
set_option maxHeartbeats 3200000 in
theorem DeskLine_deed (d : Value) (xs : List Int) (L : List (List Int)) (s : ByteArray) (hs : s.size ≤ 1048600) (hdk : deskB xs L = true) (hrd : rdDB s.data.toList = true) (w : World) (h : DeskR w d xs L) :
    Calls Tryz.prog 14 #[d, .string s] w (LineD (liX xs L s.data.toList) (liL xs L s.data.toList) (liT (fun _ _ => []) xs L s.data.toList) w) := by
  obtain ⟨f1, f2, f3⟩ := li_deed (A := fun _ _ => []) hdk hrd
  rw [f1, f2, f3]
  have hkx : I64 (rdY s.data.toList) := rdY_I64 _
  obtain ⟨k, hk⟩ : ∃ k, rdK s.data.toList = k := ⟨_, rfl⟩
  obtain ⟨x, hx⟩ : ∃ x, rdY s.data.toList = x := ⟨_, rfl⟩
  rw [hk, hx]
  rw [hx] at hkx
  have hdk2 : okD (dkX xs L k x) (dkL xs L k x) := okD_desk (dk_desk hdk)
  obtain ⟨ok, hok⟩ : ∃ ok, dkB xs L k x = ok := ⟨_, rfl⟩
  obtain ⟨ys, hys⟩ : ∃ ys, dkX xs L k x = ys := ⟨_, rfl⟩
  obtain ⟨M, hM⟩ : ∃ M, dkL xs L k x = M := ⟨_, rfl⟩
  have hoe := ok_if ok
  obtain ⟨tw, htw⟩ : ∃ tw, (if ok then okW else notW) = tw := ⟨_, rfl⟩
  rw [htw] at hoe
  rw [hys, hM] at hdk2
  rw [hys, hM, hok, htw]
  have HOK := Lib.hid hok; have HYS := Lib.hid hys; have HMM := Lib.hid hM; have HKD := Lib.hid hdk2; have HOE := Lib.hid hoe
  clear hdk2 hok hys hM hoe htw
  have hdd := h
  obtain ⟨a, c, b, c2, rfl, _⟩ := h.parts
  have q1 := alloc_below w (.cells #[.slice a xs.length c, .slice b L.length c2] 31)
  have q2 := alloc_below (w.alloc (.cells #[.slice a xs.length c, .slice b L.length c2] 31)) (.cells #[.slice none 0 0, .slice none 0 0] 31)
  have HV := Lib.hid ((VarD.new hdd).kept q2)
  have hbr := Blk2.new (w.alloc (.cells #[.slice a xs.length c, .slice b L.length c2] 31)) 31 (.slice none 0 0) (.slice none 0 0)
  rw [alloc_size] at hbr
  have HBR := Lib.hid hbr
  have HB := Lib.hid (below_onto q1 q2)
  obtain ⟨w2, hw2⟩ : ∃ w2, (w.alloc (.cells #[.slice a xs.length c, .slice b L.length c2] 31)).alloc (.cells #[.slice none 0 0, .slice none 0 0] 31) = w2 := ⟨_, rfl⟩
  rw [hw2] at HV HBR HB
  have hd0 := HV.out.blk.cell.1; have hd1 := HV.out.blk.cell.2
  have HDK := Lib.hid hdk; have HRD := Lib.hid hrd; have HKK := Lib.hid hk; have HXX := Lib.hid hx; have HX := Lib.hid hkx
  clear h hdd q1 q2 hbr hdk hrd hk hx hkx f1 f2 f3
  go_enter Tryz.func14, Tryz.ntmps14
  go_wp2_with fail
  clear hw2
  refine (DeskOk_any _ xs L _ HV.out.d).mono ?_
  rintro e w3 ⟨rfl, hb⟩
  rw [HDK.out]
  replace HV := Lib.hid (HV.out.kept hb); replace HBR := Lib.hid (HBR.out.kept hb HBR.out.lt); replace HB := Lib.hid (below_onto HB.out hb)
  clear hb hd0 hd1
  go_wp2_with fail
  refine (ReadDeed_any s (by omega) _).mono ?_
  rintro e w4 ⟨rfl, hb⟩
  rw [HKK.out, HXX.out, HRD.out]
  have hal := alloc_below w4 (.cells #[.int .i64 k, .int .i64 x] 39)
  have HE := Lib.hid (Blk2.new w4 39 (.int .i64 k) (.int .i64 x))
  replace hb := below_onto hb hal
  replace HV := Lib.hid (HV.out.kept hb); replace HBR := Lib.hid (HBR.out.kept hb HBR.out.lt); replace HB := Lib.hid (below_onto HB.out hb)
  obtain ⟨w5, hw5⟩ : ∃ w5, w4.alloc (.cells #[.int .i64 k, .int .i64 x] 39) = w5 := ⟨_, rfl⟩
  obtain ⟨E, hE⟩ : ∃ E, w4.heap.size = E := ⟨_, rfl⟩
  rw [hw5] at HV HBR HB HE
  rw [hE] at HE
  clear hb hal
  have hd0 := HV.out.blk.cell.1; have hd1 := HV.out.blk.cell.2; have he0 := HE.out.cell.1; have he1 := HE.out.cell.2
  go_wp2_with fail
  clear hw5 hE
  have HLT := Lib.hid (show w.heap.size + 1 < w5.heap.size from HBR.out.lt)
  refine (DeskDo_any _ xs L k x HX.out _ HV.out.d).mono ?_
  rintro e w6 ⟨v1, v2, rfl, hg⟩
  rw [HOK.out]
  rw [HYS.out, HMM.out] at hg
  obtain ⟨p1, e1, p2, e2, rfl, rfl, hd, _⟩ := HKD.out.gives hg
  have HG := Lib.hid hg
  have hal := alloc_below w6 (.cells #[.slice p1 ys.length e1, .slice p2 M.length e2] 31)
  have HA := Lib.hid (Blk2.new w6 31 (.slice p1 ys.length e1) (.slice p2 M.length e2))
  have HAL := Lib.hid hal
  replace HBR := Lib.hid (HBR.out.kept (below_onto hg.below hal) HBR.out.lt)
  have HSZ := Lib.hid (show w.heap.size + 1 < w5.heap.size ∧ w5.heap.size ≤ w6.heap.size from ⟨HLT.out, hg.below.size⟩)
  obtain ⟨w7, hw7⟩ : ∃ w7, w6.alloc (.cells #[.slice p1 ys.length e1, .slice p2 M.length e2] 31) = w7 := ⟨_, rfl⟩
  obtain ⟨A, hA⟩ : ∃ A, w6.heap.size = A := ⟨_, rfl⟩
  rw [hw7] at HA HAL HBR
  rw [hA] at HA
  have hn1 : ¬ A = w.heap.size + 1 := by have := HSZ.out; omega
  have HN1 := Lib.hid hn1
  have hR0 := HBR.out.cell.1; have hR1 := HBR.out.cell.2; have hR2 := HBR.out.frozen 0; have hR3 := HBR.out.frozen 1
  have HKS := Lib.hid (show ∀ W : World, W.heap[A]? = w7.heap[A]? → (W.cell? ⟨A, 0, none⟩ = some (.slice p1 ys.length e1) ∧ W.cell? ⟨A, 1, none⟩ = some (.slice p2 M.length e2)) from fun W hW => Blk2.cell (show Blk2 W A 31 _ _ from hW.trans HA.out))
  clear hg hd hal hd0 hd1 he0 he1
  go_upto_region 7 with fail
  clear hw7 hA
  go_region_held3 (fun W => W.cell? ⟨A, 0, none⟩ = some (.slice p1 ys.length e1) ∧ W.cell? ⟨A, 1, none⟩ = some (.slice p2 M.length e2))
    (first | exact HKS.out _ rfl | exact HKS.out _ ((set_blk HN1.out).trans (set_blk HN1.out)) | go_keep)
    (first | (go_at_call 55; refine (either_any ok _ _ _).mono ?_; rintro e w8 ⟨rfl, rfl⟩; rw [HOE.out]))
  all_goals
    go_wp2_with fail
    refine bodyPost_ret (results_desk rfl _ _ (w.heap.size + 1) ((HBR.out.set0 _).set1 _) rfl rfl (by kernel_rfl)) rfl ?_
    refine ⟨_, _, rfl, ?_⟩
    first
      | exact HG.out.fin HB.out (Nat.le_succ _) HSZ.out.1 HAL.out
      | exact (HG.out.fin HB.out (Nat.le_succ _) HSZ.out.1 HAL.out).drew
end Go.Proofs.YthaickihoagnmaaGreatDoor
