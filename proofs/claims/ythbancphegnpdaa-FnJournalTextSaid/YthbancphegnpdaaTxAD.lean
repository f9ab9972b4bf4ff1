import Derived.Test.YthbancphegnpdaaTxAC
namespace Go.Proofs.Ythbancphegnpdaa
set_option linter.unusedVariables false
set_option linter.unusedSimpArgs false
open Go.RowKit Go.Maps

/-- the row of a family that is drawn is one that the reader does not write -/
theorem OwnI.lst {w' : World} {B rb m : Nat} {v : Value} (h : OwnI w' B v m) (hm : m ≤ 8) (hrb : rb < B) : ∃ a cap, v = .slice a m cap ∧ LstR w' rb a m := by
  obtain ⟨a, cap, rfl⟩ := h.slice
  refine ⟨a, cap, rfl, by omega, ?_⟩
  by_cases h0 : m = 0
  · exact .inl h0
  · obtain ⟨g, cp, f, hv, hBg, hgl, _, _, hrow, h64, _⟩ := h.shape (by omega)
    injection hv with hv1 hv2 hv3
    subst hv1
    exact .inr ⟨g, f, rfl, hgl, by omega, hrow, h64⟩


set_option maxRecDepth 100000 in
set_option maxHeartbeats 1600000 in
theorem DrawDeedText_any (a : Option Addr) (n cap : Nat) (w : World) (h : BytesIn w a n cap) :
    Calls Try.prog 21 #[.slice a n cap] w fun e w' => ∃ k x : Int, e = .returned (.agg #[.int .i64 k, .int .i64 x]) ∧ 0 ≤ k ∧ k ≤ 9 ∧ I64 x ∧ Below w.heap.size w w' := by
  have hal := alloc_below w (.cells #[.int .i64 0, .int .i64 0] 31)
  have hbl := Blk2.new w 31 (.int .i64 0) (.int .i64 0)
  have hsz := alloc_size w (.cells #[.int .i64 0, .int .i64 0] 31)
  obtain ⟨hnc, hc, hby⟩ := h
  have hby2 : BytesIn (w.alloc (.cells #[.int .i64 0, .int .i64 0] 31)) a n cap := by
    refine ⟨hnc, hc, ?_⟩
    rcases hby with h0 | ⟨b, o, g, ha, hb, hg⟩
    · exact .inl h0
    · exact .inr ⟨b, o, g, ha, Nat.lt_of_lt_of_le hb hal.size, fun i hi => ⟨(hal.cell (p := ⟨b, o + i, none⟩) hb).trans (hg i hi).1, (hg i hi).2⟩⟩
  have H := Lib.hid hby2; have HBL := Lib.hid hbl; have HAL := Lib.hid hal; have HSZ := Lib.hid hsz
  clear hnc hc hby hby2 hbl hal hsz
  go_enter Try.func21, Try.ntmps21
  go_wp2_with fail
  refine (open_any _ _ _ _ H.out).mono ?_
  rintro e w1 ⟨rfl, hb1, hr1⟩
  replace HBL := Lib.hid (HBL.out.kept hb1 (by rw [HSZ.out]; omega))
  have HB1 := Lib.hid (below_onto HAL.out hb1); have HR1 := Lib.hid hr1
  have hrb : w.heap.size < (w.alloc (.cells #[.int .i64 0, .int .i64 0] 31)).heap.size := by rw [HSZ.out]; omega
  obtain ⟨rb, hrbe⟩ : ∃ rb, (w.alloc (.cells #[.int .i64 0, .int .i64 0] 31)).heap.size = rb := ⟨_, rfl⟩
  rw [hrbe] at HR1 hrb ⊢
  have HRB := Lib.hid hrbe
  clear hb1 hr1 hrbe
  go_wp2_with fail
  have hrbw : rb < w1.heap.size := HR1.out.1
  have hwr : w.heap.size ≠ rb := by omega
  refine (sets_any rb 0 0 (by omega) (by omega) (by omega) _ HR1.out).mono ?_
  rintro e w2 ⟨v, m, rfl, hm, hown, ho, hr⟩
  obtain ⟨a2, c2, rfl, hlst⟩ := hown.lst (by omega) hrbw
  replace HBL := Lib.hid (HBL.out.only ho hwr)
  have HO := Lib.hid ho; have HR := Lib.hid hr; have HL := Lib.hid hlst
  clear hown ho hr hlst
  go_wp2_with fail
  refine (deedR_any rb _ a2 m c2 (by omega) _ HR.out HL.out).mono ?_
  rintro e w3 ⟨k, x, rfl, hk0, hk9, hx, ho, hr⟩
  replace HBL := Lib.hid (HBL.out.only ho hwr)
  replace HO := Lib.hid (HO.out.trans ho)
  clear ho hr HR HL
  have hb2 := Lib.hid ((HB1.out.trans (HO.out.below (Nat.le_of_lt hrb) HB1.out.size)))
  have hc0 := HBL.out.cell.1; have hc1 := HBL.out.cell.2; have hf0 := HBL.out.frozen 0; have hf1 := HBL.out.frozen 1
  go_wp2_with fail
  refine bodyPost_ret (results_deed1 rfl _ _ w.heap.size ((HBL.out.set0 (.int .i64 k)).set1 (.int .i64 x)) rfl (by kernel_rfl)) rfl ?_
  exact ⟨k, x, rfl, hk0, hk9, hx, (hb2.out.setCell (Nat.le_refl _) _).setCell (Nat.le_refl _) _⟩
end Go.Proofs.Ythbancphegnpdaa
