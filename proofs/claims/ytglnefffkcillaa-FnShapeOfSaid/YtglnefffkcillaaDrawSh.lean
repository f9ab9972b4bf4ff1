import Derived.Test.YtglnefffkcillaaWdF
import Derived.Test.YtglnefffkcillaaDrawR
namespace Go.Proofs.Ytglnefffkcillaa
set_option linter.unusedVariables false
set_option linter.unusedSimpArgs false
open Go.RowKit Go.Maps

/-- a world is drawn -/
def DrawnSh (w : World) (e : Ending) (w' : World) : Prop := ∃ d m c f, e = .returned (.slice d m c) ∧ m ≤ 8 ∧ Ints w' d m f ∧ Below w.heap.size w w'

set_option maxRecDepth 100000 in
set_option maxHeartbeats 6400000 in
theorem DrawShapeOf_any (a : Option Addr) (n cap : Nat) (w : World) (h : BytesIn w a n cap) :
    Calls Try.prog 25 #[.slice a n cap] w (DrawnSh w) := by
  have H := Lib.hid h; clear h
  have HAL := Lib.hid (show (alL 3).length = 19 by rw [al_wl 3 (by omega) (by omega)]; exact wl_count.2.2)
  go_enter Try.func25, Try.ntmps25
  go_wp2_with fail
  refine (open_any _ _ _ _ H.out).mono ?_
  rintro e w1 ⟨rfl, hb1, hr1⟩
  have HB1 := Lib.hid hb1
  obtain ⟨rb, hrz⟩ : ∃ rb, rb = w.heap.size := ⟨_, rfl⟩
  rw [← hrz] at hr1 ⊢
  have HRB := Lib.hid (show w.heap.size ≤ rb by rw [hrz]; exact Nat.le_refl _)
  have HR1 := Lib.hid hr1; clear hrz hb1 hr1
  go_wp2_with fail
  refine (world_any rb 0 9 (by omega) (by omega) (by omega) _ HR1.out).mono ?_
  rintro e w2 ⟨v, m, rfl, hm, hown, ho, hr⟩
  obtain ⟨a2, c2, rfl⟩ := hown.slice
  have HRL := Lib.hid HR1.out.1
  have HOW := Lib.hid hown; have HO := Lib.hid ho; have HR2 := Lib.hid hr
  clear hown ho hr HR1
  by_cases h4 : 4 < m
  · have h4i : (4 : Int) < (m : Int) := by omega
    go_wp2_with fail
    refine (pick_any rb _ 9 (by omega) _ HR2.out).mono ?_
    rintro e w3 ⟨x, rfl, hx, ho, hr⟩
    replace HOW := Lib.hid (HOW.out.lift ho HRL.out)
    replace HO := Lib.hid (HO.out.trans ho); replace HR2 := Lib.hid hr
    clear hx ho hr
    by_cases hx0 : (0 : Int) < (x : Int)
    · go_wp2_with fail
      refine (specAll_3 _).mono ?_
      rintro e w4 ⟨vs, rs, rfl, hsh, hb⟩
      have HB := Lib.hid ((HB1.out.trans (HO.out.below HRB.out HB1.out.size)).trans (hb.mono (HB1.out.trans (HO.out.below HRB.out HB1.out.size)).size))
      obtain ⟨gs, cs, rfl⟩ := hsh.shape (by rw [HAL.out]; omega)
      have HS := Lib.hid hsh
      have HR4 := Lib.hid (HR2.out.below hb)
      have HRW := Lib.hid HR2.out.1
      rw [HAL.out]
      clear hsh hb HOW HO HR2
      go_wp2_with fail
      refine (pick_any rb _ 19 (by omega) _ HR4.out).mono ?_
      rintro e w5 ⟨y, rfl, hy, ho, hr⟩
      have hy19 : y < 19 := by omega
      have hyi : (y : Int) < 19 := by omega
      have hs5 := HS.out.other (w' := w5) (fun g hg => by
        rcases hg with hg | ⟨r, hr, rfl⟩
        · have := World.ownsRow.lt HS.out.own g hg
          exact ho.block g this.2 (by have := HRW.out; omega)
        · have := HS.out.lt r hr
          exact ho.block r.1 this.2 (by have := HRW.out; omega))
      have hyl : y < (alL 3).length := by rw [HAL.out]; exact hy19
      have hmem : (alL 3).getD y [] ∈ wlL 3 := by
        rw [← al_wl 3 (by omega) (by omega), List.getD_eq_getElem?_getD, List.getElem?_eq_getElem hyl]
        exact List.getElem_mem _
      obtain ⟨e1, e2, e3, e4⟩ := wl_facts (by omega) (by omega) hmem
      have hc := hs5.cell hyl
      have hrow := hs5.rowAt hyl (by omega) e4.symm
      have hlt := (World.ownsRow.lt (hs5.row y hyl).1 _ rfl).2
      have HI := Lib.hid (ints_row hrow hlt (by omega) (fun i hi => e3 _ (getD_mem (by omega))))
      replace HB := Lib.hid (HB.out.trans (ho.below HRB.out HB.out.size))
      obtain ⟨⟨b1, q1⟩, hb1⟩ : ∃ r, rs.getD y (0, 0) = r := ⟨_, rfl⟩
      rw [hb1] at hc HI
      dsimp only at hc
      clear hb1 hrow hlt hs5 hmem e1 e2 e3 e4 hy ho hr hyl
      go_wp2_with fail
      go_ret
      exact ⟨_, 3, _, _, rfl, by omega, HI.out, HB.out⟩
    · obtain ⟨a3, c3, f3, hv, hi3, _⟩ := HOW.out.ints (by omega)
      simp only [Value.slice.injEq] at hv
      obtain ⟨rfl, _, rfl⟩ := hv
      have HI := Lib.hid hi3
      have HB := Lib.hid (HB1.out.trans (HO.out.below HRB.out HB1.out.size))
      clear hi3
      go_wp2_with fail
      go_ret
      exact ⟨_, m, _, _, rfl, hm, HI.out, HB.out⟩
  · have h4i : ¬ (4 : Int) < (m : Int) := by omega
    obtain ⟨a3, c3, f3, hv, hi3, _⟩ := HOW.out.ints (by omega)
    simp only [Value.slice.injEq] at hv
    obtain ⟨rfl, _, rfl⟩ := hv
    have HI := Lib.hid hi3
    have HB := Lib.hid (HB1.out.trans (HO.out.below HRB.out HB1.out.size))
    clear hi3
    go_wp2_with fail
    go_ret
    exact ⟨_, m, _, _, rfl, hm, HI.out, HB.out⟩
end Go.Proofs.Ytglnefffkcillaa
