import Derived.Test.YtacoeaoaabjkoaaLaw9N
import Derived.Test.YtacoeaoaabjkoaaDrawQ
import Derived.Test.YtacoeaoaabjkoaaSameX
namespace Go.Proofs.Ytacoeaoaabjkoaa
open Go.RowKit Go.Maps

theorem FilledOf_val (a : Option Addr) (n cap : Nat) (f : Nat → Int) (x v : Int) (hx : I64 x) (w : World) (hv : fiV n f x = v) (hi : Ints w a n f) :
    Calls Try.prog 30 #[.slice a n cap, .int .i64 x] w fun e w' => e = .returned (.int .i64 v) ∧ Below w.heap.size w w' := by
  subst hv; exact FilledOf_any a n cap f x hx w hi
theorem specFilledOf_val (a : Option Addr) (n cap : Nat) (f : Nat → Int) (x v : Int) (hx : I64 x) (w : World) (hv : fiV n f x = v) (hi : Ints w a n f) :
    Calls Try.prog 31 #[.slice a n cap, .int .i64 x] w fun e w' => e = .returned (.int .i64 v) ∧ Below w.heap.size w w' := by
  subst hv; exact specFilledOf_any a n cap f x hx w hi

set_option maxRecDepth 100000 in
set_option maxHeartbeats 8000000 in
theorem lawFilledOf (a : Option Addr) (n cap : Nat) (w : World) (h : BytesIn w a n cap) :
    Calls Try.prog 6 #[.slice a n cap] w (TrueEnd w) := by
  have hlen := h.len
  have H := Lib.hid h; clear h
  by_cases hn : 1048576 < n
  · go_enter Try.func6, Try.ntmps6
    go_wp2_with fail
    go_ret
    exact ⟨rfl, Below.refl _ _⟩
  · go_enter Try.func6, Try.ntmps6
    go_wp2_with fail
    refine (DrawFilledOf_any _ _ _ _ H.out).mono ?_
    rintro e w1 ⟨d, m, c, f, x, rfl, hm, hx, hi, hb1⟩
    have H64 := Lib.hid hi.i64
    have HI := Lib.hid hi; have HB := Lib.hid hb1
    clear hi hb1
    have HX := Lib.hid hx; clear hx
    cases htx : thingB m f x with
    | false =>
      have HV := Lib.hid (show fiV m f x = -1 by unfold fiV; rw [if_neg (by rw [htx]; decide)])
      clear htx
      go_wp2_with fail
      refine (FilledOf_val _ m c f x (-1) HX.out _ HV.out HI.out).mono ?_
      rintro e w9 ⟨rfl, hb2⟩
      replace HI := Lib.hid (HI.out.next hb2)
      replace HB := Lib.hid (below_onto HB.out hb2); clear hb2
      go_wp2_with fail
      refine (specFilledOf_val _ m c f x (-1) HX.out _ HV.out HI.out).mono ?_
      rintro e w9 ⟨rfl, hb2⟩
      replace HI := Lib.hid (HI.out.next hb2)
      replace HB := Lib.hid (below_onto HB.out hb2); clear hb2
      go_wp2_with fail
      refine (alive_any _).mono ?_
      rintro e w9 ⟨rfl, hb2⟩
      replace HB := Lib.hid (below_onto HB.out hb2); clear hb2
      go_wp2_with fail
      go_ret
      exact ⟨rfl, HB.out⟩
    | true =>
      obtain ⟨hT, hx1⟩ := th_of H64.out HX.out htx
      have h7 := hT.g.hi
      have ⟨hp1, hp2⟩ := low_bounds m hT.g.lo h7
      obtain ⟨hF, hF1⟩ := th_fi H64.out hT hx1
      have hno := fi_none H64.out hT hx1
      have hsm := fi_same H64.out hT hx1
      have hor : (bits .or .i64 (fiL x (hoV m f x)) x == fiL x (hoV m f x)) = true := by rw [beq_iff_eq]; exact fi_own H64.out hT hx1
      have HTG := Lib.hid (fi_tg H64.out hT hx1)
      have HV := Lib.hid (show fiV m f x = fiL x (hoV m f x) by unfold fiV; rw [if_pos htx])
      have HA := Lib.hid (show I64 ((2 : Int) ^ m - 1) by unfold I64; omega)
      obtain ⟨y, hy⟩ : ∃ y, fiL x (hoV m f x) = y := ⟨_, rfl⟩
      rw [hy] at hF hF1 hno hsm hor HTG HV
      have hneg : ¬ y < 0 := by omega
      have HY := Lib.hid hF.i64; have HNO := Lib.hid hno; have HSM := Lib.hid hsm
      clear hy hF hF1 hno hsm hT htx hx1
      cases hw1 : tgV m f (2 ^ m - 1) with
      | false =>
        have HW1 := Lib.hid hw1; clear hw1
        go_wp2_with fail
        refine (FilledOf_val _ m c f x y HX.out _ HV.out HI.out).mono ?_
        rintro e w9 ⟨rfl, hb2⟩
        replace HI := Lib.hid (HI.out.next hb2)
        replace HB := Lib.hid (below_onto HB.out hb2); clear hb2
        go_wp2_with fail
        refine (specFilledOf_val _ m c f x y HX.out _ HV.out HI.out).mono ?_
        rintro e w9 ⟨rfl, hb2⟩
        replace HI := Lib.hid (HI.out.next hb2)
        replace HB := Lib.hid (below_onto HB.out hb2); clear hb2
        go_wp2_with fail
        refine (TogetherOk_val _ m c f (2 ^ m - 1) false HA.out _ HW1.out HI.out).mono ?_
        rintro e w9 ⟨rfl, hb2⟩
        replace HI := Lib.hid (HI.out.next hb2)
        replace HB := Lib.hid (below_onto HB.out hb2); clear hb2
        go_wp2_with fail
        refine (HolesOf_any _ m c f y [] HNO.out HY.out _ HI.out).mono ?_
        intro e w9 hg
        obtain ⟨a9, c9, rfl, hb2⟩ := hg.none
        replace HI := Lib.hid (HI.out.next hb2)
        replace HB := Lib.hid (below_onto HB.out hb2); clear hb2 hg
        go_wp2_with fail
        refine (FilledOf_val _ m c f y y HY.out _ HSM.out HI.out).mono ?_
        rintro e w9 ⟨rfl, hb2⟩
        replace HI := Lib.hid (HI.out.next hb2)
        replace HB := Lib.hid (below_onto HB.out hb2); clear hb2
        go_wp2_with fail
        go_ret
        exact ⟨rfl, HB.out⟩
      | true =>
        have HW1 := Lib.hid hw1
        cases hw2 : tgV m f x with
        | false =>
          have HW2 := Lib.hid hw2; clear hw1 hw2
          go_wp2_with fail
          refine (FilledOf_val _ m c f x y HX.out _ HV.out HI.out).mono ?_
          rintro e w9 ⟨rfl, hb2⟩
          replace HI := Lib.hid (HI.out.next hb2)
          replace HB := Lib.hid (below_onto HB.out hb2); clear hb2
          go_wp2_with fail
          refine (specFilledOf_val _ m c f x y HX.out _ HV.out HI.out).mono ?_
          rintro e w9 ⟨rfl, hb2⟩
          replace HI := Lib.hid (HI.out.next hb2)
          replace HB := Lib.hid (below_onto HB.out hb2); clear hb2
          go_wp2_with fail
          refine (TogetherOk_val _ m c f (2 ^ m - 1) true HA.out _ HW1.out HI.out).mono ?_
          rintro e w9 ⟨rfl, hb2⟩
          replace HI := Lib.hid (HI.out.next hb2)
          replace HB := Lib.hid (below_onto HB.out hb2); clear hb2
          go_wp2_with fail
          refine (TogetherOk_val _ m c f x false HX.out _ HW2.out HI.out).mono ?_
          rintro e w9 ⟨rfl, hb2⟩
          replace HI := Lib.hid (HI.out.next hb2)
          replace HB := Lib.hid (below_onto HB.out hb2); clear hb2
          go_wp2_with fail
          refine (HolesOf_any _ m c f y [] HNO.out HY.out _ HI.out).mono ?_
          intro e w9 hg
          obtain ⟨a9, c9, rfl, hb2⟩ := hg.none
          replace HI := Lib.hid (HI.out.next hb2)
          replace HB := Lib.hid (below_onto HB.out hb2); clear hb2 hg
          go_wp2_with fail
          refine (FilledOf_val _ m c f y y HY.out _ HSM.out HI.out).mono ?_
          rintro e w9 ⟨rfl, hb2⟩
          replace HI := Lib.hid (HI.out.next hb2)
          replace HB := Lib.hid (below_onto HB.out hb2); clear hb2
          go_wp2_with fail
          go_ret
          exact ⟨rfl, HB.out⟩
        | true =>
          have HW2 := Lib.hid hw2; have HW3 := Lib.hid (HTG.out hw1 hw2); clear hw1 hw2
          go_wp2_with fail
          refine (FilledOf_val _ m c f x y HX.out _ HV.out HI.out).mono ?_
          rintro e w9 ⟨rfl, hb2⟩
          replace HI := Lib.hid (HI.out.next hb2)
          replace HB := Lib.hid (below_onto HB.out hb2); clear hb2
          go_wp2_with fail
          refine (specFilledOf_val _ m c f x y HX.out _ HV.out HI.out).mono ?_
          rintro e w9 ⟨rfl, hb2⟩
          replace HI := Lib.hid (HI.out.next hb2)
          replace HB := Lib.hid (below_onto HB.out hb2); clear hb2
          go_wp2_with fail
          refine (TogetherOk_val _ m c f (2 ^ m - 1) true HA.out _ HW1.out HI.out).mono ?_
          rintro e w9 ⟨rfl, hb2⟩
          replace HI := Lib.hid (HI.out.next hb2)
          replace HB := Lib.hid (below_onto HB.out hb2); clear hb2
          go_wp2_with fail
          refine (TogetherOk_val _ m c f x true HX.out _ HW2.out HI.out).mono ?_
          rintro e w9 ⟨rfl, hb2⟩
          replace HI := Lib.hid (HI.out.next hb2)
          replace HB := Lib.hid (below_onto HB.out hb2); clear hb2
          go_wp2_with fail
          refine (HolesOf_any _ m c f y [] HNO.out HY.out _ HI.out).mono ?_
          intro e w9 hg
          obtain ⟨a9, c9, rfl, hb2⟩ := hg.none
          replace HI := Lib.hid (HI.out.next hb2)
          replace HB := Lib.hid (below_onto HB.out hb2); clear hb2 hg
          go_wp2_with fail
          refine (FilledOf_val _ m c f y y HY.out _ HSM.out HI.out).mono ?_
          rintro e w9 ⟨rfl, hb2⟩
          replace HI := Lib.hid (HI.out.next hb2)
          replace HB := Lib.hid (below_onto HB.out hb2); clear hb2
          go_wp2_with fail
          refine (TogetherOk_val _ m c f y true HY.out _ HW3.out HI.out).mono ?_
          rintro e w9 ⟨rfl, hb2⟩
          replace HI := Lib.hid (HI.out.next hb2)
          replace HB := Lib.hid (below_onto HB.out hb2); clear hb2
          go_wp2_with fail
          go_ret
          exact ⟨rfl, HB.out⟩
end Go.Proofs.Ytacoeaoaabjkoaa
