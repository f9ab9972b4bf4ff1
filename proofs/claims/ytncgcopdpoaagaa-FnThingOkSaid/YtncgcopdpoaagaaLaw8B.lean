import Derived.Test.YtncgcopdpoaagaaLaw8V
import Derived.Test.YtncgcopdpoaagaaDrawP
import Derived.Test.YtncgcopdpoaagaaLawC
namespace Go.Proofs.Ytncgcopdpoaagaa
open Go.RowKit

set_option maxRecDepth 100000 in
set_option maxHeartbeats 8000000 in
theorem lawThingOk (a : Option Addr) (n cap : Nat) (w : World) (h : BytesIn w a n cap) :
    Calls Try.prog 4 #[.slice a n cap] w (TrueEnd w) := by
  have hlen := h.len
  have H := Lib.hid h; clear h
  by_cases hn : 1048576 < n
  · go_enter Try.func4, Try.ntmps4
    go_wp2_with fail
    go_ret
    exact ⟨rfl, Below.refl _ _⟩
  · go_enter Try.func4, Try.ntmps4
    go_wp2_with fail
    refine (DrawThingOk_any _ _ _ _ H.out).mono ?_
    rintro e w1 ⟨d, m, c, f, x, rfl, hm, hx, hi, hb1⟩
    have H64 := Lib.hid hi.i64
    have HI := Lib.hid hi; have HB := Lib.hid hb1
    clear hi hb1
    have HX := Lib.hid hx; clear hx
    have hp20 := pow20 m (by omega)
    cases htx : thingB m f x with
    | false =>
      have HTX := Lib.hid htx; clear htx
      cases hg : grdB m f with
      | false =>
        have HG := Lib.hid hg; clear hg
        by_cases hz : (0 : Int) < (m : Int)
        · skip
          go_wp2_with fail
          refine (ThingOk_val _ m c f x false HX.out _ HTX.out HI.out).mono ?_
          rintro e w9 ⟨rfl, hb2⟩
          replace HI := Lib.hid (HI.out.next hb2)
          replace HB := Lib.hid (below_onto HB.out hb2); clear hb2
          go_wp2_with fail
          refine (specThingOk_val _ m c f x false HX.out _ HTX.out HI.out).mono ?_
          rintro e w9 ⟨rfl, hd3⟩
          replace HI := Lib.hid (HI.out.drew hd3)
          replace HB := Lib.hid (below_onto HB.out hd3.below); clear hd3
          go_wp2_with fail
          go_loopw [6] (fun i wr => i = .int .i64 0 ∧ Ints wr d m f ∧ Below w.heap.size w wr) (fun _ _ => 0)
          case atStart => exact ⟨rfl, HI.out, HB.out⟩
          case round =>
            clear HI HB
            obtain ⟨rfl, hi, hb1⟩ := hrel
            have HI := Lib.hid hi; have HB := Lib.hid hb1; clear hi hb1
            go_wp2_with fail
            refine (GroundOk_val _ m c f  false  _ HG.out HI.out).mono ?_
            rintro e w9 ⟨rfl, hb2⟩
            replace HI := Lib.hid (HI.out.next hb2)
            replace HB := Lib.hid (below_onto HB.out hb2); clear hb2
            go_wp2_with fail
            refine (alive_any _).mono ?_
            rintro e w9 ⟨rfl, hb2⟩
            replace HB := Lib.hid (below_onto HB.out hb2); clear hb2
            go_wp2_with fail
            go_ret
            exact ⟨rfl, HB.out⟩
        · skip
          go_wp2_with fail
          refine (ThingOk_val _ m c f x false HX.out _ HTX.out HI.out).mono ?_
          rintro e w9 ⟨rfl, hb2⟩
          replace HI := Lib.hid (HI.out.next hb2)
          replace HB := Lib.hid (below_onto HB.out hb2); clear hb2
          go_wp2_with fail
          refine (specThingOk_val _ m c f x false HX.out _ HTX.out HI.out).mono ?_
          rintro e w9 ⟨rfl, hd3⟩
          replace HI := Lib.hid (HI.out.drew hd3)
          replace HB := Lib.hid (below_onto HB.out hd3.below); clear hd3
          go_wp2_with fail
          go_loopw [6] (fun i wr => i = .int .i64 0 ∧ Ints wr d m f ∧ Below w.heap.size w wr) (fun _ _ => 0)
          case atStart => exact ⟨rfl, HI.out, HB.out⟩
          case round =>
            clear HI HB
            obtain ⟨rfl, hi, hb1⟩ := hrel
            have HI := Lib.hid hi; have HB := Lib.hid hb1; clear hi hb1
            go_wp2_with fail
            refine (GroundOk_val _ m c f  false  _ HG.out HI.out).mono ?_
            rintro e w9 ⟨rfl, hb2⟩
            replace HI := Lib.hid (HI.out.next hb2)
            replace HB := Lib.hid (below_onto HB.out hb2); clear hb2
            go_wp2_with fail
            refine (alive_any _).mono ?_
            rintro e w9 ⟨rfl, hb2⟩
            replace HB := Lib.hid (below_onto HB.out hb2); clear hb2
            go_wp2_with fail
            go_ret
            exact ⟨rfl, HB.out⟩
      | true =>
        have h7 := (grd_7 hg).2
        have h1 := (grd_7 hg).1
        have HG := Lib.hid hg; clear hg
        have hz : (0 : Int) < (m : Int) := by omega
        go_wp2_with fail
        refine (ThingOk_val _ m c f x false HX.out _ HTX.out HI.out).mono ?_
        rintro e w9 ⟨rfl, hb2⟩
        replace HI := Lib.hid (HI.out.next hb2)
        replace HB := Lib.hid (below_onto HB.out hb2); clear hb2
        go_wp2_with fail
        refine (specThingOk_val _ m c f x false HX.out _ HTX.out HI.out).mono ?_
        rintro e w9 ⟨rfl, hd3⟩
        replace HI := Lib.hid (HI.out.drew hd3)
        replace HB := Lib.hid (below_onto HB.out hd3.below); clear hd3
        go_wp2_with fail
        go_loopw [6] (fun i wr => i = .int .i64 0 ∧ Ints wr d m f ∧ Below w.heap.size w wr) (fun _ _ => 0)
        case atStart => exact ⟨rfl, HI.out, HB.out⟩
        case round =>
          clear HI HB
          obtain ⟨rfl, hi, hb1⟩ := hrel
          have HI := Lib.hid hi; have HB := Lib.hid hb1; clear hi hb1
          have HA := Lib.hid (thing_all H64.out HG.out)
          have HAI := Lib.hid (rng_64 h7 (all_rng8 h1))
          go_wp2_with fail
          refine (GroundOk_val _ m c f  true  _ HG.out HI.out).mono ?_
          rintro e w9 ⟨rfl, hb2⟩
          replace HI := Lib.hid (HI.out.next hb2)
          replace HB := Lib.hid (below_onto HB.out hb2); clear hb2
          go_wp2_with fail
          refine (ThingOk_val _ m c f (2 ^ m - 1) true HAI.out _ HA.out HI.out).mono ?_
          rintro e w9 ⟨rfl, hb2⟩
          replace HI := Lib.hid (HI.out.next hb2)
          replace HB := Lib.hid (below_onto HB.out hb2); clear hb2
          go_wp2_with fail
          refine (alive_any _).mono ?_
          rintro e w9 ⟨rfl, hb2⟩
          replace HB := Lib.hid (below_onto HB.out hb2); clear hb2
          go_wp2_with fail
          go_ret
          exact ⟨rfl, HB.out⟩
    | true =>
      have hg := thing_grd htx
      have h7 := (grd_7 hg).2
      have h1 := (grd_7 hg).1
      have HG := Lib.hid hg; have HTX := Lib.hid htx
      clear hg htx
      go_wp2_with fail
      refine (ThingOk_val _ m c f x true HX.out _ HTX.out HI.out).mono ?_
      rintro e w9 ⟨rfl, hb2⟩
      replace HI := Lib.hid (HI.out.next hb2)
      replace HB := Lib.hid (below_onto HB.out hb2); clear hb2
      go_wp2_with fail
      refine (specThingOk_val _ m c f x true HX.out _ HTX.out HI.out).mono ?_
      rintro e w9 ⟨rfl, hd3⟩
      replace HI := Lib.hid (HI.out.drew hd3)
      replace HB := Lib.hid (below_onto HB.out hd3.below); clear hd3
      go_wp2_with fail
      go_loopw [6] (fun i wr => ∃ k : Nat, k ≤ m ∧ i = .int .i64 k ∧ Ints wr d m f ∧ Below w.heap.size w wr) (fun i _ => m - (intOf i).toNat)
      case atStart => exact ⟨0, Nat.zero_le _, rfl, HI.out, HB.out⟩
      case round =>
        clear HI HB
        obtain ⟨k, hk, rfl, hi, hb1⟩ := hrel
        have HI := Lib.hid hi; have HB := Lib.hid hb1; clear hi hb1
        by_cases hlt : k < m
        · have hki : (k : Int) < (m : Int) := by omega
          have ⟨hp1, hp2⟩ := pow_bounds k (by omega)
          have HM := Lib.hid (thing_more H64.out HX.out HTX.out hlt)
          go_wp2_with fail
          refine (ThingOk_val _ m c f (orI x (2 ^ k)) true (orI_I64 _ _) _ HM.out HI.out).mono ?_
          rintro e w9 ⟨rfl, hb2⟩
          replace HI := Lib.hid (HI.out.next hb2)
          replace HB := Lib.hid (below_onto HB.out hb2); clear hb2
          go_wp2_with fail
          go_roundw
          case rel => exact ⟨k + 1, by omega, by go_num, HI.out, HB.out⟩
          case measure => simp [intOf]; omega
        · have hki : ¬ (k : Int) < (m : Int) := by omega
          have HA := Lib.hid (thing_all H64.out HG.out)
          have HAI := Lib.hid (rng_64 h7 (all_rng8 h1))
          go_wp2_with fail
          refine (GroundOk_val _ m c f  true  _ HG.out HI.out).mono ?_
          rintro e w9 ⟨rfl, hb2⟩
          replace HI := Lib.hid (HI.out.next hb2)
          replace HB := Lib.hid (below_onto HB.out hb2); clear hb2
          go_wp2_with fail
          refine (ThingOk_val _ m c f (2 ^ m - 1) true HAI.out _ HA.out HI.out).mono ?_
          rintro e w9 ⟨rfl, hb2⟩
          replace HI := Lib.hid (HI.out.next hb2)
          replace HB := Lib.hid (below_onto HB.out hb2); clear hb2
          go_wp2_with fail
          refine (alive_any _).mono ?_
          rintro e w9 ⟨rfl, hb2⟩
          replace HB := Lib.hid (below_onto HB.out hb2); clear hb2
          go_wp2_with fail
          go_ret
          exact ⟨rfl, HB.out⟩
end Go.Proofs.Ytncgcopdpoaagaa
