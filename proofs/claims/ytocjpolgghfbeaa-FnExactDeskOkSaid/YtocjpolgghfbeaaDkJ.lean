import Derived.Test.YtocjpolgghfbeaaDkI
import Derived.Deep.RegionHeld3
namespace Go.Proofs.Ytocjpolgghfbeaa
set_option linter.unusedVariables false
set_option linter.unusedSimpArgs false
open Go.RowKit Go.Maps

theorem ints_I64s {w : World} {a : Option Addr} {xs : List Int} (h : Ints w a xs.length (fun j => xs.getD j 0)) : xs.length ≤ 9223372036854775807 ∧ I64s xs := by
  refine ⟨h.1.1, fun x hx => ?_⟩
  obtain ⟨i, hi, rfl⟩ := List.getElem_of_mem hx
  have : I64 (xs.getD i 0) := h.1.2 i hi
  rwa [List.getD_eq_getElem?_getD, List.getElem?_eq_getElem hi] at this
theorem Nest.i64 {w : World} {b : Option Addr} {L : List (List Int)} (h : Nest w b L) : ∀ l ∈ L, l.length ≤ 9223372036854775807 ∧ I64s l := by
  intro l hl
  obtain ⟨i, hi, rfl⟩ := List.getElem_of_mem hl
  obtain ⟨bk, o, a, c, _, _, h3, _⟩ := h.at hi
  rw [List.getD_eq_getElem?_getD, List.getElem?_eq_getElem hi] at h3
  exact ints_I64s h3
/-- a copy of a desk can be read -/
theorem GivesD.read {xs : List Int} {L : List (List Int)} {w w' : World} {v1 v2 : Value} (h : GivesD xs L w w' v1 v2) (hx : xs.length ≤ 9223372036854775807 ∧ I64s xs) (hL : ∀ l ∈ L, l.length ≤ 9223372036854775807 ∧ I64s l) :
    DeskR w' (.agg #[v1, v2]) xs L ∧ Below w.heap.size w w' ∧ (∃ a c, v1 = .slice a xs.length c) ∧ ∃ a c, v2 = .slice a L.length c := by
  obtain ⟨rs, hg, rfl, hb⟩ := h
  refine ⟨hg.read hx (fun r hr => hL r.xs (List.mem_map.2 ⟨r, hr, rfl⟩)), hb, hg.now.slice, ?_⟩
  have := hg.past.seq.slice
  rw [List.length_map] at this ⊢
  exact this

set_option maxRecDepth 100000 in
set_option maxHeartbeats 3200000 in
theorem exactDeskOk (d : Value) (xs : List Int) (L : List (List Int)) (w : World) (h : DeskR w d xs L) :
    Calls Try.prog 7 #[d] w fun e w' => e = .returned (.bool true) ∧ Below w.heap.size w w' := by
  obtain ⟨a, c, b, c2, rfl, hi, hn⟩ := h.parts
  have HX := Lib.hid (ints_I64s hi); have HLI := Lib.hid hn.i64
  have hal := alloc_below w (.cells #[.slice a xs.length c, .slice b L.length c2] 48)
  have hblk := Blk2.new w 48 (.slice a xs.length c) (.slice b L.length c2)
  have HD := Lib.hid h; have HAL := Lib.hid hal; have HBL := Lib.hid hblk
  clear h hi hn hal hblk
  go_enter Try.func7, Try.ntmps7
  go_wp2_with fail
  refine (szDesk_any _ xs L _ (HD.out.kept HAL.out)).mono ?_
  rintro e w1 ⟨⟨r, rfl, hr⟩, hb⟩
  replace HBL := Lib.hid (HBL.out.kept hb HBL.out.lt)
  have HB := Lib.hid (below_onto HAL.out hb)
  clear hb
  rcases hr with rfl | ⟨m, rfl, hx, hL, hl⟩
  · go_wp2_with fail
    go_ret
    exact ⟨rfl, HB.out⟩
  · have hge : decide ((m : Int) < 0) = false := decide_eq_false (by omega)
    have HL := Lib.hid hl
    have hc0 := HBL.out.cell.1; have hc1 := HBL.out.cell.2
    clear hl
    go_wp2_with fail
    refine (toDesk_any _ xs L hx hL HL.out _ (HD.out.kept HB.out)).mono ?_
    rintro e w2 ⟨v1, v2, rfl, hg⟩
    obtain ⟨hr2, hb, ⟨p1, p2, rfl⟩, ⟨p3, p4, rfl⟩⟩ := hg.read HX.out HLI.out
    replace HBL := Lib.hid (HBL.out.kept hb HBL.out.lt)
    replace HB := Lib.hid (below_onto HB.out hb)
    clear hg hb hc0 hc1 hge
    go_wp2_with fail
    refine (specDeskOk_any _ xs L _ hr2).mono ?_
    rintro e w3 ⟨rfl, hb⟩
    replace HBL := Lib.hid (HBL.out.kept hb HBL.out.lt)
    replace HB := Lib.hid (below_onto HB.out hb)
    clear hb hr2
    obtain ⟨bv, hbv⟩ : ∃ bv, deskB xs L = bv := ⟨_, rfl⟩
    rw [hbv]
    have HBV := Lib.hid hbv
    clear hbv
    have hc0 := HBL.out.cell.1; have hc1 := HBL.out.cell.2
    go_wp2_with fail
    refine (toDesk_any _ xs L hx hL HL.out _ (HD.out.kept HB.out)).mono ?_
    rintro e w4 ⟨v1, v2, rfl, hg⟩
    obtain ⟨hr4, hb, ⟨x1, x2, rfl⟩, ⟨x3, x4, rfl⟩⟩ := hg.read HX.out HLI.out
    replace HBL := Lib.hid (HBL.out.kept hb HBL.out.lt)
    replace HB := Lib.hid (below_onto HB.out hb)
    have hal := alloc_below w4 (.cells #[.slice x1 xs.length x2, .slice x3 L.length x4] 26)
    have HR5 := Lib.hid (hr4.kept hal)
    have HX5 := Lib.hid (Blk2.new w4 26 (.slice x1 xs.length x2) (.slice x3 L.length x4))
    replace HBL := Lib.hid (HBL.out.kept hal HBL.out.lt)
    replace HB := Lib.hid (below_onto HB.out hal)
    clear hg hb hc0 hc1 hr4 hal
    go_wp2_with fail
    refine (DeskOk_any _ xs L _ HR5.out).mono ?_
    rintro e w6 ⟨rfl, hb⟩
    rw [HBV.out]
    replace HBL := Lib.hid (HBL.out.kept hb HBL.out.lt)
    replace HX5 := Lib.hid (HX5.out.kept hb HX5.out.lt)
    replace HR5 := Lib.hid (HR5.out.kept hb)
    replace HB := Lib.hid (below_onto HB.out hb)
    clear hb
    have hc0 := HBL.out.cell.1; have hc1 := HBL.out.cell.2
    have hd0 := HX5.out.cell.1; have hd1 := HX5.out.cell.2
    have HKS := Lib.hid (show ∀ W, Below w6.heap.size w6 W → (W.cell? ⟨w4.heap.size, 0, none⟩ = some (.slice x1 xs.length x2) ∧ W.cell? ⟨w4.heap.size, 1, none⟩ = some (.slice x3 L.length x4)) ∧ W.cell? ⟨w.heap.size, 0, none⟩ = some (.slice a xs.length c) ∧ W.cell? ⟨w.heap.size, 1, none⟩ = some (.slice b L.length c2) from
      fun W hW => ⟨(HX5.out.kept hW HX5.out.lt).cell, (HBL.out.kept hW HBL.out.lt).cell⟩)
    have HB6 := Lib.hid (Below.refl w6.heap.size w6)
    have hq : (bv != bv) = false := by simp
    clear hc0 hc1 hd0 hd1
    cases bv
    all_goals
      go_wp2_with fail
      go_region_held3 (fun w' => (w'.cell? ⟨w4.heap.size, 0, none⟩ = some (.slice x1 xs.length x2) ∧ w'.cell? ⟨w4.heap.size, 1, none⟩ = some (.slice x3 L.length x4)) ∧ w'.cell? ⟨w.heap.size, 0, none⟩ = some (.slice a xs.length c) ∧ w'.cell? ⟨w.heap.size, 1, none⟩ = some (.slice b L.length c2)) (first | exact HKS.out _ HB6.out | exact HKS.out _ HB6.out.drew | exact HKS.out _ (below_drewN HB6.out _) | go_keep)
        (first | (go_at_call 31; refine (toDesk_any _ xs L hx hL HL.out _ ?_).mono ?_; (first | exact HD.out.kept HB.out | exact HD.out.kept HB.out.drew | exact HD.out.kept (below_drewN HB.out _)); rintro e w7 ⟨v1, v2, rfl, hg⟩; obtain ⟨hr7, hb7, ⟨y1, y2, rfl⟩, ⟨y3, y4, rfl⟩⟩ := hg.read HX.out HLI.out; have HR7 := Lib.hid hr7; have HZ := Lib.hid (show Below w6.heap.size w6 w7 from (by first | exact hb7 | exact below_onto HB6.out.drew hb7 | exact below_onto (below_drewN HB6.out _) hb7)); clear HB6; have HB6 := HZ; clear HZ hg hb7 hr7) | (go_at_call 32; refine (eqDesk_any _ _ xs L hx hL HL.out _ (HR5.out.kept HB6.out) HR7.out).mono ?_; rintro e w8 ⟨rfl, hb8⟩; have HZ := Lib.hid (HB6.out.trans (hb8.mono HB6.out.size)); clear HB6; have HB6 := HZ; clear HZ hb8))
      all_goals
        go_wp2_with fail
        go_ret
        exact ⟨rfl, below_onto HB.out HB6.out⟩
end Go.Proofs.Ytocjpolgghfbeaa
