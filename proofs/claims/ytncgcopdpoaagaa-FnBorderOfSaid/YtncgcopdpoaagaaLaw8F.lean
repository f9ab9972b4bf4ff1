import Derived.Test.YtncgcopdpoaagaaLaw8V
import Derived.Test.YtncgcopdpoaagaaDrawO
import Derived.Test.YtncgcopdpoaagaaLawC
namespace Go.Proofs.Ytncgcopdpoaagaa
open Go.RowKit

set_option maxRecDepth 100000 in
set_option maxHeartbeats 8000000 in
theorem lawBorderOf (a : Option Addr) (n cap : Nat) (w : World) (h : BytesIn w a n cap) :
    Calls Try.prog 8 #[.slice a n cap] w (TrueEnd w) := by
  have hlen := h.len
  have H := Lib.hid h; clear h
  by_cases hn : 1048576 < n
  · go_enter Try.func8, Try.ntmps8
    go_wp2_with fail
    go_ret
    exact ⟨rfl, Below.refl _ _⟩
  · go_enter Try.func8, Try.ntmps8
    go_wp2_with fail
    refine (DrawBorderOf_any _ _ _ _ H.out).mono ?_
    rintro e w1 ⟨d, m, c, f, x, rfl, hm, hx, hi, hb1⟩
    have H64 := Lib.hid hi.i64
    have HI := Lib.hid hi; have HB := Lib.hid hb1
    clear hi hb1
    have HX := Lib.hid hx; clear hx
    cases htx : thingB m f x with
    | false =>
      have HV := Lib.hid (show boV m f x = -1 by unfold boV; rw [if_neg (by rw [htx]; decide)])
      clear htx
      go_wp2_with fail
      refine (BorderOf_val _ m c f x (-1) HX.out _ HV.out HI.out).mono ?_
      rintro e w9 ⟨rfl, hb2⟩
      replace HI := Lib.hid (HI.out.next hb2)
      replace HB := Lib.hid (below_onto HB.out hb2); clear hb2
      go_wp2_with fail
      refine (specBorderOf_val _ m c f x (-1) HX.out _ HV.out HI.out).mono ?_
      rintro e w9 ⟨rfl, hd3⟩
      replace HI := Lib.hid (HI.out.drew hd3)
      replace HB := Lib.hid (below_onto HB.out hd3.below); clear hd3
      go_wp2_with fail
      refine (alive_any _).mono ?_
      rintro e w9 ⟨rfl, hb2⟩
      replace HB := Lib.hid (below_onto HB.out hb2); clear hb2
      go_wp2_with fail
      go_ret
      exact ⟨rfl, HB.out⟩
    | true =>
      have hP := (grd_iff H64.out).1 (thing_grd htx)
      have h7 := hP.hi
      have hxr := thing_rng HX.out htx
      have hp2 := pow_bounds m h7
      have HV := Lib.hid (show boV m f x = boI m f x by unfold boV; rw [if_pos htx])
      obtain ⟨hs0, hs1⟩ := bo_rng m f x h7
      have hor : (bits .or .i64 (boI m f x) x == x) = true := by rw [beq_iff_eq]; exact bo_in hP hxr
      have hno := bo_none H64.out hP hxr
      have hrest := bo_rest H64.out hP hxr
      obtain ⟨⟨hd0, hd1⟩, _⟩ := sub_bit h7 (a := x) (s := boI m f x) ⟨by omega, hxr.2⟩ ⟨hs0, hs1⟩ (fun i hi hb => ((bo_bit hP ⟨by omega, hxr.2⟩ HX.out i hi).1 hb).1)
      have HD := Lib.hid (show I64 (x - boI m f x) by unfold I64; omega)
      obtain ⟨s, hs⟩ : ∃ s, boI m f x = s := ⟨_, rfl⟩
      rw [hs] at HV hs0 hs1 hor hno hrest hd0 hd1 HD
      have HN := Lib.hid hno
      clear hs hno
      by_cases hsx : s = x
      · rw [hsx] at HV HN hor
        have hz : (x == 0) = false := by rw [beq_eq_false_iff_ne]; omega
        have HID := Lib.hid (HN.out.symm.trans hz)
        clear hrest hsx HD hs0 hs1 hd0 hd1
        go_wp2_with fail
        refine (BorderOf_val _ m c f x x HX.out _ HV.out HI.out).mono ?_
        rintro e w9 ⟨rfl, hb2⟩
        replace HI := Lib.hid (HI.out.next hb2)
        replace HB := Lib.hid (below_onto HB.out hb2); clear hb2
        go_wp2_with fail
        refine (specBorderOf_val _ m c f x x HX.out _ HV.out HI.out).mono ?_
        rintro e w9 ⟨rfl, hd3⟩
        replace HI := Lib.hid (HI.out.drew hd3)
        replace HB := Lib.hid (below_onto HB.out hd3.below); clear hd3
        go_wp2_with fail
        refine (InsideOk_val _ m c f x x _ HX.out HX.out _ HID.out HI.out).mono ?_
        rintro e w9 ⟨rfl, hb2⟩
        replace HI := Lib.hid (HI.out.next hb2)
        replace HB := Lib.hid (below_onto HB.out hb2); clear hb2
        go_wp2_with fail
        go_ret
        exact ⟨rfl, HB.out⟩
      · have he : (s == x) = false := beq_eq_false_iff_ne.2 hsx
        have HR := Lib.hid (hrest hsx); clear hrest
        cases hz : (s == 0)
        all_goals
          have HID := Lib.hid (HN.out.symm.trans hz)
          go_wp2_with fail
          refine (BorderOf_val _ m c f x s HX.out _ HV.out HI.out).mono ?_
          rintro e w9 ⟨rfl, hb2⟩
          replace HI := Lib.hid (HI.out.next hb2)
          replace HB := Lib.hid (below_onto HB.out hb2); clear hb2
          go_wp2_with fail
          refine (specBorderOf_val _ m c f x s HX.out _ HV.out HI.out).mono ?_
          rintro e w9 ⟨rfl, hd3⟩
          replace HI := Lib.hid (HI.out.drew hd3)
          replace HB := Lib.hid (below_onto HB.out hd3.below); clear hd3
          go_wp2_with fail
          refine (InsideOk_val _ m c f (x - s) x true HD.out HX.out _ HR.out HI.out).mono ?_
          rintro e w9 ⟨rfl, hb2⟩
          replace HI := Lib.hid (HI.out.next hb2)
          replace HB := Lib.hid (below_onto HB.out hb2); clear hb2
          go_wp2_with fail
          refine (InsideOk_val _ m c f x x _ HX.out HX.out _ HID.out HI.out).mono ?_
          rintro e w9 ⟨rfl, hb2⟩
          replace HI := Lib.hid (HI.out.next hb2)
          replace HB := Lib.hid (below_onto HB.out hb2); clear hb2
          go_wp2_with fail
          go_ret
          exact ⟨rfl, HB.out⟩
end Go.Proofs.Ytncgcopdpoaagaa
