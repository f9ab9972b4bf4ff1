import Derived.Test.YtibjdmmcnhlgnaaLaw10N
namespace Go.Proofs.Ytibjdmmcnhlgnaa
set_option linter.unusedVariables false
set_option linter.unusedSimpArgs false
open Go.RowKit Go.Maps

set_option maxRecDepth 100000 in
set_option maxHeartbeats 8000000 in
theorem lawChangedOf (a : Option Addr) (n cap : Nat) (w : World) (h : BytesIn w a n cap) :
    Calls Try.prog 6 #[.slice a n cap] w (TrueEnd w) := by
  have hlen := h.len
  have H := Lib.hid h; clear h
  by_cases hn : 1048576 < n
  · go_enter Try.func6, Try.ntmps6
    go_wp2_with fail
    go_ret
    exact ⟨rfl, Below.refl _ _⟩
  · go_enter Try.func6, Try.ntmps6
    go_wp2_with fail
    refine (DrawChangedOf_any _ _ _ _ H.out).mono ?_
    rintro e w9 ⟨d, m, c, f, p, q, rfl, hm7, hc, hpq, hi, hb1⟩
    have hab := alloc_below w9 (.cells #[.int .i64 p, .int .i64 q] 36)
    have hgl : w9.heap.size < (w9.alloc (.cells #[.int .i64 p, .int .i64 q] 36)).heap.size := by rw [alloc_size]; omega
    have hk := Blk2.new w9 36 (.int .i64 p) (.int .i64 q)
    have HI := Lib.hid (hi.next hab); have HB := Lib.hid (below_onto hb1 hab)
    obtain ⟨wL, hwL⟩ : ∃ wN : World, w9.alloc (.cells #[.int .i64 p, .int .i64 q] 36) = wN := ⟨_, rfl⟩
    rw [hwL] at HI HB hgl hk
    have HBL := Lib.hid (Below.refl wL.heap.size wL)
    have HKS := Lib.hid (show ∀ X, Below wL.heap.size wL X → X.cell? ⟨w9.heap.size, 0, none⟩ = some (.int .i64 p) ∧ X.cell? ⟨w9.heap.size, 1, none⟩ = some (.int .i64 q) from fun X hX => (hk.kept hX hgl).cell)
    obtain ⟨gC, hgC⟩ : ∃ g, w9.heap.size = g := ⟨_, rfl⟩
    rw [hgC] at HKS
    clear hi hb1 hab hgl hk hpq
    cases hv : shipB m f with
    | false =>
      have HL := Lib.hid (chL_no (p := p) (q := q) hv).1; have HLB := Lib.hid (chL_no (p := p) (q := q) hv).2
      clear hv
      obtain ⟨hq0, hq1⟩ := HKS.out _ HBL.out
      go_wp2_with fail
      refine (ChangedOf_any _ m c f p q hc _ HI.out).mono ?_
      intro e w8 hg
      rw [HL.out, HLB.out] at hg
      obtain ⟨ax, cx, rfl, hb2⟩ := hg.none
      replace HI := Lib.hid (HI.out.next hb2)
      replace HB := Lib.hid (below_onto HB.out hb2)
      replace HBL := Lib.hid (below_onto HBL.out hb2)
      clear hg hb2
      clear hq0 hq1
      obtain ⟨hq0, hq1⟩ := HKS.out _ HBL.out
      go_wp2_with fail
      refine (specChangedOf_any _ m c f p q _ HI.out).mono ?_
      intro e w8 hg
      rw [HL.out, HLB.out] at hg
      obtain ⟨ay, cy, rfl, hb2⟩ := hg.none
      replace HI := Lib.hid (HI.out.next hb2)
      replace HB := Lib.hid (below_onto HB.out hb2)
      replace HBL := Lib.hid (below_onto HBL.out hb2)
      clear hg hb2
      clear hq0 hq1
      go_wp2_with fail
      refine (sameInts_nil _ _ _ _ _).mono ?_
      rintro e w8 ⟨rfl, hd3⟩
      replace HB := Lib.hid (below_onto HB.out hd3.below); clear hd3 HI HBL
      go_wp2_with fail
      refine (alive_any _).mono ?_
      rintro e w8 ⟨rfl, hb2⟩
      replace HB := Lib.hid (below_onto HB.out hb2); clear hb2
      go_wp2_with fail
      go_ret
      exact ⟨rfl, HB.out⟩
    | true =>
      have HM1 := Lib.hid (shipB_iff.1 hv).1
      have hm1 := HM1.out
      have hmz : ((m : Int) == 0) = false := by rw [beq_eq_false_iff_ne]; omega
      have HS := Lib.hid hv
      cases hk : okC m f p q with
      | false =>
        have HL := Lib.hid (chL_keep hv hk).1; have HLB := Lib.hid (chL_keep hv hk).2
        have HF64 := Lib.hid (show ∀ x, x < m → I64 (f x) from fun x hx => by have := ship_pk hv hx; unfold I64; omega)
        clear hv hk
        obtain ⟨hq0, hq1⟩ := HKS.out _ HBL.out
        go_wp2_with fail
        refine (ChangedOf_any _ m c f p q hc _ HI.out).mono ?_
        intro e w8 hg
        rw [HL.out, HLB.out] at hg
        obtain ⟨gx, cx, rfl, hcx, _, hgx, hrow, hb2⟩ := hg.row HM1.out
        have Hx := Lib.hid (ints_row hrow hgx (by have := hm7; omega) HF64.out)
        have HCx := Lib.hid hcx
        replace HI := Lib.hid (HI.out.next hb2)
        replace HB := Lib.hid (below_onto HB.out hb2)
        replace HBL := Lib.hid (below_onto HBL.out hb2)
        clear hg hb2 hrow hcx hgx
        clear hq0 hq1
        obtain ⟨hq0, hq1⟩ := HKS.out _ HBL.out
        go_wp2_with fail
        refine (specChangedOf_any _ m c f p q _ HI.out).mono ?_
        intro e w8 hg
        rw [HL.out, HLB.out] at hg
        obtain ⟨gy, cy, rfl, hcy, _, hgy, hrow, hb2⟩ := hg.row HM1.out
        have Hy := Lib.hid (ints_row hrow hgy (by have := hm7; omega) HF64.out)
        have HCy := Lib.hid hcy
        replace HI := Lib.hid (HI.out.next hb2)
        replace Hx := Lib.hid (Hx.out.next hb2)
        replace HB := Lib.hid (below_onto HB.out hb2)
        replace HBL := Lib.hid (below_onto HBL.out hb2)
        clear hg hb2 hrow hcy hgy
        clear hq0 hq1
        go_wp2_with fail
        refine (sameInts_any _ _ _ _ _ _ (by omega) _ Hx.out Hy.out).mono ?_
        rintro e w8 ⟨rfl, hb2⟩
        replace HI := Lib.hid (HI.out.next hb2)
        replace Hx := Lib.hid (Hx.out.next hb2)
        replace HB := Lib.hid (below_onto HB.out hb2)
        replace HBL := Lib.hid (below_onto HBL.out hb2)
        clear hb2
        go_wp2_with fail
        refine (sameInts_any _ _ _ _ _ _ (by omega) _ Hx.out HI.out).mono ?_
        rintro e w8 ⟨rfl, hb2⟩
        replace HI := Lib.hid (HI.out.next hb2)
        replace HB := Lib.hid (below_onto HB.out hb2)
        replace HBL := Lib.hid (below_onto HBL.out hb2)
        clear hb2
        go_wp2_with fail
        refine (alive_any _).mono ?_
        rintro e w8 ⟨rfl, hb2⟩
        replace HI := Lib.hid (HI.out.next hb2)
        replace HB := Lib.hid (below_onto HB.out hb2)
        replace HBL := Lib.hid (below_onto HBL.out hb2)
        clear hb2
        go_wp2_with fail
        go_ret
        exact ⟨rfl, HB.out⟩
      | true =>
        obtain ⟨h1, h2, h3, h4⟩ := okC_iff.1 hk
        obtain ⟨r, rfl⟩ : ∃ r : Nat, p = (r : Int) := ⟨p.toNat, by omega⟩
        have hrm : r < m := by omega
        have hr0 : (0 : Int) ≤ (r : Int) := by omega
        have HSS := Lib.hid (ship_set hv hrm h3 h4)
        have HMA := Lib.hid (mo_set hv hrm h3 h4).1; have HMB := Lib.hid (mo_set hv hrm h3 h4).2
        have e1 : setF f ((r : Int)).toNat q = setF f r q := by rw [Int.toNat_natCast]
        have HL := Lib.hid (show chL m f (r : Int) q = rowL (setF f r q) m by rw [← e1]; exact (chL_done hv hk).1); have HLB := Lib.hid (chL_done hv hk).2
        have hk2 : okC m (setF f r q) (r : Int) (f r) = true := okC_iff.2 ⟨hr0, h2, by have := ship_pk hv hrm; exact pkB_iff.2 (by omega), back_no hv hrm h4⟩
        have HL2 := Lib.hid (show chL m (setF f r q) (r : Int) (f r) = rowL f m by
          rw [(chL_done HSS.out hk2).1, Int.toNat_natCast, setF_back])
        have HLB2 := Lib.hid (chL_done HSS.out hk2).2
        have HG64 := Lib.hid (show ∀ x, x < m → I64 (f x) from fun x hx => by have := ship_pk hv hx; unfold I64; omega)
        obtain ⟨F2, hF2⟩ : ∃ F2, setF f r q = F2 := ⟨_, rfl⟩
        rw [hF2] at HSS HMA HMB HL HL2 HLB2
        have HF64 := Lib.hid (show ∀ x, x < m → I64 (F2 x) from fun x hx => by have := ship_pk HSS.out hx; unfold I64; omega)
        obtain ⟨z, hz⟩ : ∃ z, f r = z := ⟨_, rfl⟩
        rw [hz] at HL2 HLB2
        have HZ := Lib.hid hz
        have hrl : (r : Int) < (m : Int) := by omega
        clear hv hk h1 h2 h3 h4 e1 hk2 hF2 hz HS
        obtain ⟨hq0, hq1⟩ := HKS.out _ HBL.out
        go_wp2_with fail
        refine (ChangedOf_any _ m c f (r : Int) q hc _ HI.out).mono ?_
        intro e w8 hg
        rw [HL.out, HLB.out] at hg
        obtain ⟨gx, cx, rfl, hcx, _, hgx, hrow, hb2⟩ := hg.row HM1.out
        have Hx := Lib.hid (ints_row hrow hgx (by have := hm7; omega) HF64.out)
        have HCx := Lib.hid hcx
        replace HI := Lib.hid (HI.out.next hb2)
        replace HB := Lib.hid (below_onto HB.out hb2)
        replace HBL := Lib.hid (below_onto HBL.out hb2)
        clear hg hb2 hrow hcx hgx
        clear hq0 hq1
        obtain ⟨hq0, hq1⟩ := HKS.out _ HBL.out
        go_wp2_with fail
        refine (specChangedOf_any _ m c f (r : Int) q _ HI.out).mono ?_
        intro e w8 hg
        rw [HL.out, HLB.out] at hg
        obtain ⟨gy, cy, rfl, hcy, _, hgy, hrow, hb2⟩ := hg.row HM1.out
        have Hy := Lib.hid (ints_row hrow hgy (by have := hm7; omega) HF64.out)
        have HCy := Lib.hid hcy
        replace HI := Lib.hid (HI.out.next hb2)
        replace Hx := Lib.hid (Hx.out.next hb2)
        replace HB := Lib.hid (below_onto HB.out hb2)
        replace HBL := Lib.hid (below_onto HBL.out hb2)
        clear hg hb2 hrow hcy hgy
        clear hq0 hq1
        go_wp2_with fail
        refine (sameInts_any _ _ _ _ _ _ (by omega) _ Hx.out Hy.out).mono ?_
        rintro e w8 ⟨rfl, hb2⟩
        replace HI := Lib.hid (HI.out.next hb2)
        replace Hx := Lib.hid (Hx.out.next hb2)
        replace HB := Lib.hid (below_onto HB.out hb2)
        replace HBL := Lib.hid (below_onto HBL.out hb2)
        clear hb2
        clear Hy
        obtain ⟨bi, oi, rfl, hil, hri⟩ := HI.out.row (by omega)
        have hci := hri r hrm
        rw [HZ.out] at hci
        have HSC := Lib.hid (show ∀ X, Below w8.heap.size w8 X → (X.cell? ⟨gC, 0, none⟩ = some (.int .i64 (r : Int)) ∧ X.cell? ⟨gC, 1, none⟩ = some (.int .i64 q)) ∧ X.cell? ⟨bi, oi + r, none⟩ = some (.int .i64 z) from fun X hX => ⟨HKS.out X (below_onto HBL.out hX), (hX.cell (p := ⟨bi, oi + r, none⟩) hil).trans hci⟩)
        have HR := Lib.hid (Below.refl w8.heap.size w8)
        clear hil hri hci
        go_wp2_with fail
        go_region_held3 (fun w' => (w'.cell? ⟨gC, 0, none⟩ = some (.int .i64 (r : Int)) ∧ w'.cell? ⟨gC, 1, none⟩ = some (.int .i64 q)) ∧ w'.cell? ⟨bi, oi + r, none⟩ = some (.int .i64 z)) (first | exact HSC.out _ HR.out | exact HSC.out _ HR.out.drew | exact HSC.out _ (below_drewN HR.out _) | go_keep)
          ((go_at_call 28; refine (ChangedOf_any _ m cx F2 (r : Int) z HCx.out _ (by first | exact Hx.out | exact Hx.out.drewN _)).mono ?_; intro e w7 hg; rw [HL2.out, HLB2.out] at hg; obtain ⟨gb, cb, rfl, hcb, _, hgb, hrow, hb2⟩ := hg.row HM1.out; have HBK := Lib.hid (ints_row hrow hgb (by have := hm7; omega) HG64.out); have hbd := below_onto (by first | exact HR.out | exact HR.out.drew | exact below_drewN HR.out _ : Below w8.heap.size w8 _) hb2; replace HI := Lib.hid (HI.out.next hbd); replace Hx := Lib.hid (Hx.out.next hbd); replace HB := Lib.hid (below_onto HB.out hbd); replace HR := Lib.hid hbd; clear hg hb2 hrow hgb hcb hbd))
        all_goals clear HR HSC HKS HBL
        go_wp2_with fail
        refine (ShipOk_b _ m _ F2 true HSS.out HCx.out _ (by first | exact Hx.out | exact Hx.out.drewN _)).mono ?_
        rintro e w8 ⟨rfl, hb2⟩
        replace HI := Lib.hid (by first | exact HI.out.next hb2 | exact (HI.out.next (below_drewN (Below.refl _ _) _)).next hb2)
        replace Hx := Lib.hid (by first | exact Hx.out.next hb2 | exact (Hx.out.next (below_drewN (Below.refl _ _) _)).next hb2)
        replace HBK := Lib.hid (by first | exact HBK.out.next hb2 | exact (HBK.out.next (below_drewN (Below.refl _ _) _)).next hb2)
        replace HB := Lib.hid (by first | exact below_onto HB.out hb2 | exact below_onto (below_drewN HB.out _) hb2 : Below w.heap.size w _)
        clear hb2
        go_wp2_with fail
        refine (MostlyOk_b _ _ m _ m _ f F2 1 true HMA.out hc HCx.out _ HI.out Hx.out).mono ?_
        rintro e w8 ⟨rfl, hb2⟩
        replace HI := Lib.hid (by first | exact HI.out.next hb2 | exact (HI.out.next (below_drewN (Below.refl _ _) _)).next hb2)
        replace Hx := Lib.hid (by first | exact Hx.out.next hb2 | exact (Hx.out.next (below_drewN (Below.refl _ _) _)).next hb2)
        replace HBK := Lib.hid (by first | exact HBK.out.next hb2 | exact (HBK.out.next (below_drewN (Below.refl _ _) _)).next hb2)
        replace HB := Lib.hid (by first | exact below_onto HB.out hb2 | exact below_onto (below_drewN HB.out _) hb2 : Below w.heap.size w _)
        clear hb2
        go_wp2_with fail
        refine (MostlyOk_b _ _ m _ m _ f F2 0 false HMB.out hc HCx.out _ HI.out Hx.out).mono ?_
        rintro e w8 ⟨rfl, hb2⟩
        replace HI := Lib.hid (by first | exact HI.out.next hb2 | exact (HI.out.next (below_drewN (Below.refl _ _) _)).next hb2)
        replace Hx := Lib.hid (by first | exact Hx.out.next hb2 | exact (Hx.out.next (below_drewN (Below.refl _ _) _)).next hb2)
        replace HBK := Lib.hid (by first | exact HBK.out.next hb2 | exact (HBK.out.next (below_drewN (Below.refl _ _) _)).next hb2)
        replace HB := Lib.hid (by first | exact below_onto HB.out hb2 | exact below_onto (below_drewN HB.out _) hb2 : Below w.heap.size w _)
        clear hb2
        go_wp2_with fail
        refine (sameInts_any _ _ _ _ _ _ (by omega) _ HBK.out HI.out).mono ?_
        rintro e w8 ⟨rfl, hb2⟩
        replace HI := Lib.hid (by first | exact HI.out.next hb2 | exact (HI.out.next (below_drewN (Below.refl _ _) _)).next hb2)
        replace Hx := Lib.hid (by first | exact Hx.out.next hb2 | exact (Hx.out.next (below_drewN (Below.refl _ _) _)).next hb2)
        replace HBK := Lib.hid (by first | exact HBK.out.next hb2 | exact (HBK.out.next (below_drewN (Below.refl _ _) _)).next hb2)
        replace HB := Lib.hid (by first | exact below_onto HB.out hb2 | exact below_onto (below_drewN HB.out _) hb2 : Below w.heap.size w _)
        clear hb2
        go_wp2_with fail
        go_ret
        exact ⟨rfl, HB.out⟩
end Go.Proofs.Ytibjdmmcnhlgnaa
