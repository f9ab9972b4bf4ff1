import Derived.Test.YtdlafcioopclhaaGreatLaw7M
import Derived.Test.YtdlafcioopclhaaGreatFamX
import Derived.Test.YtdlafcioopclhaaGreatDrawG
import Derived.Test.YtdlafcioopclhaaGreatLawC
namespace Go.Proofs.YtdlafcioopclhaaGreat
open Go.RowKit Go.Maps

set_option maxRecDepth 100000 in
set_option maxHeartbeats 8000000 in
theorem lawFamilyOf (a : Option Addr) (n cap : Nat) (w : World) (h : BytesIn w a n cap) :
    Calls Tryz.prog 3 #[.slice a n cap] w (TrueEnd w) := by
  have hlen := h.len
  have H := Lib.hid h; clear h
  by_cases hn : 1048576 < n
  · go_enter Tryz.func3, Tryz.ntmps3
    go_wp2_with fail
    go_ret
    exact ⟨rfl, Below.refl _ _⟩
  · go_enter Tryz.func3, Tryz.ntmps3
    go_wp2_with fail
    refine (DrawFamilyOf_any _ _ _ _ H.out).mono ?_
    rintro e w1 ⟨d, m, c, f, rfl, hm, hi, hb1, hcap⟩
    have HI := Lib.hid hi; have HB := Lib.hid hb1
    clear hi hb1
    cases hf : fofB m f with
    | false =>
      have HFL := Lib.hid (show fofL m f = [] by unfold fofL; rw [if_neg (by rw [hf]; decide)])
      clear hf hcap
      go_wp2_with fail
      refine (FamilyOf_any _ m c f _ HI.out).mono ?_
      intro e w2 hg
      rw [HFL.out] at hg
      obtain ⟨a2, c2, rfl, hb2⟩ := hg.none
      replace HI := Lib.hid (HI.out.next hb2); replace HB := Lib.hid (below_onto HB.out hb2); clear hg hb2
      go_wp2_with fail
      refine (specFamilyOf_any _ m c f _ HI.out).mono ?_
      intro e w2 hg
      rw [HFL.out] at hg
      obtain ⟨a3, c3, rfl, hb2⟩ := hg.none
      replace HI := Lib.hid (HI.out.next hb2); replace HB := Lib.hid (below_onto HB.out hb2); clear hg hb2
      go_wp2_with fail
      refine (sameInts_nil _ _ _ _ _).mono ?_
      rintro e w9 ⟨rfl, hd3⟩
      replace HI := Lib.hid (HI.out.drew hd3)
      replace HB := Lib.hid (below_onto HB.out hd3.below); clear hd3
      go_wp2_with fail
      refine (alive_any _).mono ?_
      rintro e w9 ⟨rfl, hb2⟩
      replace HB := Lib.hid (below_onto HB.out hb2); clear hb2
      go_wp2_with fail
      go_ret
      exact ⟨rfl, HB.out⟩
    | true =>
      have h64 := HI.out.i64
      have hPG := fof_fam h64 hf
      have h1m := hPG.lo
      have h7m := hPG.hi
      have HPG := Lib.hid hPG
      have HFO := Lib.hid (famOk_iff.2 hPG)
      have HWL := Lib.hid (wf_list hPG)
      have HST := Lib.hid (show strongB m f = true by unfold fofB at hf; rw [Bool.and_eq_true] at hf; exact hf.1)
      have HSM := Lib.hid (fun i (hi : i < m) => fof_world h64 hf hi)
      have HFL := Lib.hid (show fofL m f = rowL (fofI m f) m by unfold fofL; rw [if_pos hf])
      have hm0 : ((m : Int) == 0) = false := by rw [beq_eq_false_iff_ne]; omega
      clear hf hcap hPG h64
      go_wp2_with fail
      refine (FamilyOf_any _ m c f _ HI.out).mono ?_
      intro e w2 hg
      rw [HFL.out] at hg
      obtain ⟨g, c2, rfl, _, hg2, hrow, hb2⟩ := hg.row h1m
      replace HI := Lib.hid (HI.out.next hb2); replace HB := Lib.hid (below_onto HB.out hb2)
      have HROW := Lib.hid hrow; clear hg hb2 hrow
      go_wp2_with fail
      refine (specFamilyOf_any _ m c f _ HI.out).mono ?_
      intro e w3 hg
      rw [HFL.out] at hg
      obtain ⟨g3, c3, rfl, _, _, hrow3, hb2⟩ := hg.row h1m
      replace HI := Lib.hid (HI.out.next hb2); replace HB := Lib.hid (below_onto HB.out hb2)
      replace HROW := Lib.hid (HROW.out.below hb2 hg2)
      have hg4 : g < w3.heap.size := Nat.lt_of_lt_of_le hg2 hb2.size
      clear hg hb2 hg2
      go_wp2_with fail
      refine (sameInts_row _ _ _ _ _ _ _ _ (by omega) _ HROW.out hrow3).mono ?_
      rintro e w4 ⟨rfl, hd3⟩
      replace HI := Lib.hid (HI.out.drew hd3); replace HB := Lib.hid (below_onto HB.out hd3.below)
      replace HROW := Lib.hid (HROW.out.below hd3.below hg4)
      have hg5 : g < w4.heap.size := Nat.lt_of_lt_of_le hg4 hd3.below.size
      have HIX := Lib.hid (ints_row HROW.out hg5 (by omega) (fun i hi => HPG.out.i64 hi))
      clear hd3 hrow3 hg4 hg5 HROW
      go_wp2_with fail
      refine (FamilyOk_val _ m c2 (fofI m f) true _ HFO.out HIX.out).mono ?_
      rintro e w9 ⟨rfl, hb2⟩
      replace HI := Lib.hid (HI.out.next hb2)
      replace HIX := Lib.hid (HIX.out.next hb2)
      replace HB := Lib.hid (below_onto HB.out hb2); clear hb2
      go_wp2_with fail
      refine (WorldFrom_any _ m c2 (fofI m f) _ HIX.out).mono ?_
      intro e w5 hg
      rw [HWL.out] at hg
      obtain ⟨gw, cw, rfl, _, hgw, hroww, hb2⟩ := hg.row h1m
      replace HI := Lib.hid (HI.out.next hb2); replace HB := Lib.hid (below_onto HB.out hb2)
      obtain ⟨bl, ol, rfl, hbl, hrl⟩ := HI.out.row h1m
      have HRL := Lib.hid hrl; have HRW := Lib.hid hroww
      clear hrl hroww hg hb2
      go_wp2_with fail
      refine (sameInts_row _ _ _ _ _ _ m f (by omega) _ (row_same HRW.out HSM.out) HRL.out).mono ?_
      rintro e w6 ⟨rfl, hd3⟩
      replace HI := Lib.hid (HI.out.drew hd3); replace HB := Lib.hid (below_onto HB.out hd3.below)
      clear hd3
      go_wp2_with fail
      refine (strongOk_val _ m c f true _ HST.out HI.out).mono ?_
      rintro e w9 ⟨rfl, hb2⟩
      replace HB := Lib.hid (below_onto HB.out hb2); clear hb2
      go_wp2_with fail
      go_ret
      exact ⟨rfl, HB.out⟩
end Go.Proofs.YtdlafcioopclhaaGreat
