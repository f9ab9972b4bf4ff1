import Derived.Test.YtncgcopdpoaagaaLaw8V
import Derived.Test.YtncgcopdpoaagaaDrawO
import Derived.Test.YtncgcopdpoaagaaLawC
namespace Go.Proofs.Ytncgcopdpoaagaa
open Go.RowKit

set_option maxRecDepth 100000 in
set_option maxHeartbeats 8000000 in
theorem lawTouchOk (a : Option Addr) (n cap : Nat) (w : World) (h : BytesIn w a n cap) :
    Calls Try.prog 5 #[.slice a n cap] w (TrueEnd w) := by
  have hlen := h.len
  have H := Lib.hid h; clear h
  by_cases hn : 1048576 < n
  · go_enter Try.func5, Try.ntmps5
    go_wp2_with fail
    go_ret
    exact ⟨rfl, Below.refl _ _⟩
  · go_enter Try.func5, Try.ntmps5
    go_wp2_with fail
    refine (DrawTouchOk_any _ _ _ _ H.out).mono ?_
    rintro e w1 ⟨d, m, c, f, x, y, rfl, hm, hx, hy, hi, hb1⟩
    have H64 := Lib.hid hi.i64
    have HI := Lib.hid hi; have HB := Lib.hid hb1
    clear hi hb1
    have HX := Lib.hid hx; have HY := Lib.hid hy; clear hx hy
    cases htx : thingB m f x with
    | false =>
      have HV := Lib.hid (to_no (by rw [htx]; rfl) : toB m f x y = false)
      have HTX := Lib.hid htx; clear htx
      go_wp2_with fail
      refine (TouchOk_val _ m c f x y false HX.out HY.out _ HV.out HI.out).mono ?_
      rintro e w9 ⟨rfl, hb2⟩
      replace HI := Lib.hid (HI.out.next hb2)
      replace HB := Lib.hid (below_onto HB.out hb2); clear hb2
      go_wp2_with fail
      refine (specTouchOk_val _ m c f x y false HX.out HY.out _ HV.out HI.out).mono ?_
      rintro e w9 ⟨rfl, hd3⟩
      replace HI := Lib.hid (HI.out.drew hd3)
      replace HB := Lib.hid (below_onto HB.out hd3.below); clear hd3
      go_wp2_with fail
      refine (specThingOk_val _ m c f x false HX.out _ HTX.out HI.out).mono ?_
      rintro e w9 ⟨rfl, hd3⟩
      replace HI := Lib.hid (HI.out.drew hd3)
      replace HB := Lib.hid (below_onto HB.out hd3.below); clear hd3
      go_wp2_with fail
      refine (alive_any _).mono ?_
      rintro e w9 ⟨rfl, hb2⟩
      replace HB := Lib.hid (below_onto HB.out hb2); clear hb2
      go_wp2_with fail
      go_ret
      exact ⟨rfl, HB.out⟩
    | true =>
      cases hty : thingB m f y with
      | false =>
        have HV := Lib.hid (to_no (by rw [hty, Bool.and_false]) : toB m f x y = false)
        have HTX := Lib.hid htx; have HTY := Lib.hid hty; clear htx hty
        go_wp2_with fail
        refine (TouchOk_val _ m c f x y false HX.out HY.out _ HV.out HI.out).mono ?_
        rintro e w9 ⟨rfl, hb2⟩
        replace HI := Lib.hid (HI.out.next hb2)
        replace HB := Lib.hid (below_onto HB.out hb2); clear hb2
        go_wp2_with fail
        refine (specTouchOk_val _ m c f x y false HX.out HY.out _ HV.out HI.out).mono ?_
        rintro e w9 ⟨rfl, hd3⟩
        replace HI := Lib.hid (HI.out.drew hd3)
        replace HB := Lib.hid (below_onto HB.out hd3.below); clear hd3
        go_wp2_with fail
        refine (specThingOk_val _ m c f x true HX.out _ HTX.out HI.out).mono ?_
        rintro e w9 ⟨rfl, hd3⟩
        replace HI := Lib.hid (HI.out.drew hd3)
        replace HB := Lib.hid (below_onto HB.out hd3.below); clear hd3
        go_wp2_with fail
        refine (specThingOk_val _ m c f y false HY.out _ HTY.out HI.out).mono ?_
        rintro e w9 ⟨rfl, hd3⟩
        replace HI := Lib.hid (HI.out.drew hd3)
        replace HB := Lib.hid (below_onto HB.out hd3.below); clear hd3
        go_wp2_with fail
        refine (alive_any _).mono ?_
        rintro e w9 ⟨rfl, hb2⟩
        replace HB := Lib.hid (below_onto HB.out hb2); clear hb2
        go_wp2_with fail
        go_ret
        exact ⟨rfl, HB.out⟩
      | true =>
        have hP := (grd_iff H64.out).1 (thing_grd htx)
        have h7 := hP.hi
        have h1 := hP.lo
        have hxr := thing_rng HX.out htx
        have hyr := thing_rng HY.out hty
        have hp2 := pow_bounds m h7
        have HP := Lib.hid hP
        have HTX := Lib.hid htx; have HTY := Lib.hid hty
        have HXR := Lib.hid hxr; have HYR := Lib.hid hyr
        clear hP htx hty
        have HVS := Lib.hid (to_self H64.out HP.out HXR.out)
        cases hv : toB m f x y with
        | false =>
          have HV := Lib.hid hv
          have HVC := Lib.hid ((to_comm H64.out HX.out HY.out).trans hv)
          have hand : (bits .and .i64 x y == 0) = true := by
            cases he : (bits .and .i64 x y == 0) with
            | true => rfl
            | false =>
              have hq := to_and H64.out HP.out HXR.out HYR.out (show (andI x y != 0) = true by unfold bne; show (!(bits .and .i64 x y == 0)) = true; rw [he]; rfl)
              rw [hv] at hq; cases hq
          clear hv
          go_wp2_with fail
          refine (TouchOk_val _ m c f x y false HX.out HY.out _ HV.out HI.out).mono ?_
          rintro e w9 ⟨rfl, hb2⟩
          replace HI := Lib.hid (HI.out.next hb2)
          replace HB := Lib.hid (below_onto HB.out hb2); clear hb2
          go_wp2_with fail
          refine (specTouchOk_val _ m c f x y false HX.out HY.out _ HV.out HI.out).mono ?_
          rintro e w9 ⟨rfl, hd3⟩
          replace HI := Lib.hid (HI.out.drew hd3)
          replace HB := Lib.hid (below_onto HB.out hd3.below); clear hd3
          go_wp2_with fail
          refine (specThingOk_val _ m c f x true HX.out _ HTX.out HI.out).mono ?_
          rintro e w9 ⟨rfl, hd3⟩
          replace HI := Lib.hid (HI.out.drew hd3)
          replace HB := Lib.hid (below_onto HB.out hd3.below); clear hd3
          go_wp2_with fail
          refine (specThingOk_val _ m c f y true HY.out _ HTY.out HI.out).mono ?_
          rintro e w9 ⟨rfl, hd3⟩
          replace HI := Lib.hid (HI.out.drew hd3)
          replace HB := Lib.hid (below_onto HB.out hd3.below); clear hd3
          have hz : (0 : Int) < (m : Int) := by omega
          go_wp2_with fail
          go_loopw [7] (fun i wr => i = .int .i64 0 ∧ Ints wr d m f ∧ Below w.heap.size w wr) (fun _ _ => 0)
          case atStart => exact ⟨rfl, HI.out, HB.out⟩
          case round =>
            clear HI HB
            obtain ⟨rfl, hi, hb1⟩ := hrel
            have HI := Lib.hid hi; have HB := Lib.hid hb1; clear hi hb1
            go_wp2_with fail
            refine (TouchOk_val _ m c f y x false HY.out HX.out _ HVC.out HI.out).mono ?_
            rintro e w9 ⟨rfl, hb2⟩
            replace HI := Lib.hid (HI.out.next hb2)
            replace HB := Lib.hid (below_onto HB.out hb2); clear hb2
            go_wp2_with fail
            refine (TouchOk_val _ m c f x x true HX.out HX.out _ HVS.out HI.out).mono ?_
            rintro e w9 ⟨rfl, hb2⟩
            replace HI := Lib.hid (HI.out.next hb2)
            replace HB := Lib.hid (below_onto HB.out hb2); clear hb2
            go_wp2_with fail
            go_ret
            exact ⟨rfl, HB.out⟩
        | true =>
          have HV := Lib.hid hv
          have HVC := Lib.hid ((to_comm H64.out HX.out HY.out).trans hv)
          clear hv
          go_wp2_with fail
          refine (TouchOk_val _ m c f x y true HX.out HY.out _ HV.out HI.out).mono ?_
          rintro e w9 ⟨rfl, hb2⟩
          replace HI := Lib.hid (HI.out.next hb2)
          replace HB := Lib.hid (below_onto HB.out hb2); clear hb2
          go_wp2_with fail
          refine (specTouchOk_val _ m c f x y true HX.out HY.out _ HV.out HI.out).mono ?_
          rintro e w9 ⟨rfl, hd3⟩
          replace HI := Lib.hid (HI.out.drew hd3)
          replace HB := Lib.hid (below_onto HB.out hd3.below); clear hd3
          go_wp2_with fail
          refine (specThingOk_val _ m c f x true HX.out _ HTX.out HI.out).mono ?_
          rintro e w9 ⟨rfl, hd3⟩
          replace HI := Lib.hid (HI.out.drew hd3)
          replace HB := Lib.hid (below_onto HB.out hd3.below); clear hd3
          go_wp2_with fail
          refine (specThingOk_val _ m c f y true HY.out _ HTY.out HI.out).mono ?_
          rintro e w9 ⟨rfl, hd3⟩
          replace HI := Lib.hid (HI.out.drew hd3)
          replace HB := Lib.hid (below_onto HB.out hd3.below); clear hd3
          go_wp2_with fail
          go_loopw [7] (fun i wr => ∃ k : Nat, k ≤ m ∧ i = .int .i64 k ∧ Ints wr d m f ∧ Below w.heap.size w wr) (fun i _ => m - (intOf i).toNat)
          case atStart => exact ⟨0, Nat.zero_le _, rfl, HI.out, HB.out⟩
          case round =>
            clear HI HB
            obtain ⟨k, hk, rfl, hi, hb1⟩ := hrel
            have HI := Lib.hid hi; have HB := Lib.hid hb1; clear hi hb1
            by_cases hlt : k < m
            · have hki : (k : Int) < (m : Int) := by omega
              have ⟨hp1, hp2⟩ := pow_bounds k (by omega)
              have HM1 := Lib.hid (to_more H64.out HX.out HY.out HV.out hlt)
              have HM2 := Lib.hid (to_more2 H64.out HX.out HY.out HV.out hlt)
              go_wp2_with fail
              refine (TouchOk_val _ m c f (orI x (2 ^ k)) y true (orI_I64 _ _) HY.out _ HM1.out HI.out).mono ?_
              rintro e w9 ⟨rfl, hb2⟩
              replace HI := Lib.hid (HI.out.next hb2)
              replace HB := Lib.hid (below_onto HB.out hb2); clear hb2
              go_wp2_with fail
              refine (TouchOk_val _ m c f x (orI y (2 ^ k)) true HX.out (orI_I64 _ _) _ HM2.out HI.out).mono ?_
              rintro e w9 ⟨rfl, hb2⟩
              replace HI := Lib.hid (HI.out.next hb2)
              replace HB := Lib.hid (below_onto HB.out hb2); clear hb2
              go_wp2_with fail
              go_roundw
              case rel => exact ⟨k + 1, by omega, by go_num, HI.out, HB.out⟩
              case measure => simp [intOf]; omega
            · have hki : ¬ (k : Int) < (m : Int) := by omega
              cases hand : (bits .and .i64 x y == 0)
              all_goals
                go_wp2_with fail
                refine (TouchOk_val _ m c f y x true HY.out HX.out _ HVC.out HI.out).mono ?_
                rintro e w9 ⟨rfl, hb2⟩
                replace HI := Lib.hid (HI.out.next hb2)
                replace HB := Lib.hid (below_onto HB.out hb2); clear hb2
                go_wp2_with fail
                refine (TouchOk_val _ m c f x x true HX.out HX.out _ HVS.out HI.out).mono ?_
                rintro e w9 ⟨rfl, hb2⟩
                replace HI := Lib.hid (HI.out.next hb2)
                replace HB := Lib.hid (below_onto HB.out hb2); clear hb2
                go_wp2_with fail
                go_ret
                exact ⟨rfl, HB.out⟩
end Go.Proofs.Ytncgcopdpoaagaa
