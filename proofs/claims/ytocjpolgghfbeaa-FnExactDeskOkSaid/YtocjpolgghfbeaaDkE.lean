import Derived.Test.YtocjpolgghfbeaaDkD
namespace Go.Proofs.Ytocjpolgghfbeaa
set_option linter.unusedVariables false
set_option linter.unusedSimpArgs false
open Go.RowKit Go.Maps

theorem famL_get2 {xs : List Int} : rowL (fun i => xs[i]?.getD 0) xs.length = xs := by
  have e : (fun i => xs[i]?.getD 0) = (fun i => xs.getD i 0) := by funext i; rw [List.getD_eq_getElem?_getD]
  rw [e]; exact famL_get

set_option maxRecDepth 100000 in
set_option maxHeartbeats 1600000 in
theorem specDeskNew_any (a : Option Addr) (xs : List Int) (c : Nat) (w : World) (hi : Ints w a xs.length (fun j => xs.getD j 0)) :
    Calls Try.prog 17 #[.slice a xs.length c] w (NewD xs w) := by
  obtain ⟨i0, hii, hz0, hz1, hz2⟩ := info_parts Try.infoInt
  have hal := alloc_below w (.cells #[.slice none 0 0, .slice none 0 0] 26)
  have hblk := Blk2.new w 26 (.slice none 0 0) (.slice none 0 0)
  have HI := Lib.hid (hi.below hal (Nat.le_refl _))
  have HAL := Lib.hid hal; have HBL := Lib.hid hblk; have HLT := Lib.hid hblk.lt
  clear hi hal hblk
  cases hf : famL xs with
  | false =>
    have HF := Lib.hid hf; clear hf
    go_enter Try.func17, Try.ntmps17
    go_wp2_with fail
    refine (specFamilyOk_val a xs.length c (fun j => xs.getD j 0) false _ HF.out HI.out).mono ?_
    rintro e w1 ⟨rfl, hd⟩
    have hb := hd.below
    have HB := Lib.hid (below_onto HAL.out hb)
    have HB1 := Lib.hid (HBL.out.kept hb HLT.out)
    clear hb hd
    have hc0 := HB1.out.cell.1; have hc1 := HB1.out.cell.2; have hg0 := HB1.out.frozen 0; have hg1 := HB1.out.frozen 1
    go_wp2_with fail
    refine bodyPost_ret (results_desk rfl _ _ w.heap.size ((HB1.out.set0 (.slice none 0 0)).set1 (.slice none 0 0)) rfl rfl (by kernel_rfl)) rfl ?_
    unfold NewD
    rw [HF.out]
    exact ⟨_, _, rfl, noDesk_gives ((HB.out.setCell (Nat.le_refl _) _).setCell (Nat.le_refl _) _)⟩
  | true =>
    have HF := Lib.hid hf
    have hlen := famL_len hf
    clear hf
    obtain ⟨b, o, rfl, hbl, hrow⟩ := HI.out.row hlen.1
    have HRW := Lib.hid hrow; have HLB := Lib.hid hbl
    clear hrow hbl
    go_enter Try.func17, Try.ntmps17
    go_wp2_with fail
    refine (specFamilyOk_val _ xs.length c (fun j => xs.getD j 0) true _ HF.out HI.out).mono ?_
    rintro e w1 ⟨rfl, hd⟩
    have hb := hd.below
    have HB := Lib.hid (below_onto HAL.out hb)
    have HB1 := Lib.hid (HBL.out.kept hb HLT.out)
    have hr1 := HRW.out.below hb HLB.out
    have hl1 : b < w1.heap.size := Nat.lt_of_lt_of_le HLB.out hb.size
    have hmade : OwnX (w1.alloc (.cells #[] 3)) w1.heap.size 3 (.slice (some ⟨w1.heap.size, 0, none⟩) 0 0) [] := OwnX.made w1 _ (Nat.le_refl _) _
    have HO : Hid ((w1.alloc (.cells #[] 3)).ownsRow w1.heap.size 3 1 (.slice (some ⟨w1.heap.size, 0, none⟩) 0 0) 0 []) := Lib.hid hmade
    have k1 := Lib.hid (rowV_cells (hr1.below (alloc_below w1 (.cells #[] 3)) hl1))
    have k2 := Lib.hid (rowV_one (fun j => xs.getD j 0) xs.length)
    have k3 : Hid (0 + xs.length ≤ maxLen) := Lib.hid (by unfold maxLen; omega)
    have k4 : Hid ((0 + xs.length) * 8 ≤ 140737488355328) := Lib.hid (by omega)
    have k5 : Hid (w1.heap.size ≤ (w1.alloc (.cells #[] 3)).heap.size) := Lib.hid (by rw [alloc_size]; omega)
    have k6 : Hid ((rowV (fun j => xs.getD j 0) xs.length).length = xs.length * 1) := Lib.hid (by rw [rowV_len]; omega)
    have HAB := Lib.hid (alloc_below w1 (.cells #[] 3))
    clear hb hd hr1 hl1 hmade
    go_wp2_with (at_builtin; refine wpList_append_own _ rfl (.tmp 8) (.tmp 9) 23 rfl w1.heap.size 3 i0 (.int .i64 0) 1 8 Try.underlying23 hii hz0 hz1 hz2 rfl (by decide) _ _ _ rfl HO.out ⟨b, o, none⟩ xs.length c (rowV (fun j => xs.getD j 0) xs.length) rfl k6.out k1.out k2.out k3.out k4.out k5.out ?_)
    intro v8 w8 hown8 hgrow8 _
    have hb : Below w1.heap.size w1 w8 := HAB.out.trans ((Below.refl w1.heap.size _).grown hgrow8 k5.out (fun q hq => (HO.out.lt q hq).1))
    have hown := OwnX.rowV hown8
    rw [famL_get2] at hown
    obtain ⟨va, vc, rfl⟩ := hown.slice
    have HB2 := Lib.hid (HB1.out.kept hb HB1.out.lt)
    have HBB := Lib.hid (HB.out.trans (hb.mono HB.out.size))
    have HOW := Lib.hid ((hown.other (w' := (w8.setCell ⟨w.heap.size, 0, none⟩ (.slice va xs.length vc)).setCell ⟨w.heap.size, 1, none⟩ (.slice none 0 0)) (fun g _ hBg _ => by
      have hne : g ≠ w.heap.size := by have := HB1.out.lt; omega
      exact (Below.heap_setCell _ ⟨w.heap.size, 1, none⟩ _ g hne).trans (Below.heap_setCell _ ⟨w.heap.size, 0, none⟩ _ g hne))).base HB.out.size)
    clear hown hb hown8 hgrow8 k1 k2 k3 k4 k5 k6 HO HAB
    have hc0 := HB2.out.cell.1; have hc1 := HB2.out.cell.2; have hg0 := HB2.out.frozen 0; have hg1 := HB2.out.frozen 1
    go_wp2_with fail
    refine bodyPost_ret (results_desk rfl _ _ w.heap.size ((HB2.out.set0 (.slice va xs.length vc)).set1 (.slice none 0 0)) rfl rfl (by kernel_rfl)) rfl ?_
    unfold NewD
    rw [HF.out]
    exact ⟨_, _, rfl, oneDesk_gives HOW.out ((HBB.out.setCell (Nat.le_refl _) _).setCell (Nat.le_refl _) _)⟩
end Go.Proofs.Ytocjpolgghfbeaa
