import Derived.Test.YtibjdmmcnhlgnaaLaw10M
namespace Go.Proofs.Ytibjdmmcnhlgnaa
set_option linter.unusedVariables false
set_option linter.unusedSimpArgs false
open Go.RowKit Go.Maps

set_option maxRecDepth 100000 in
set_option maxHeartbeats 8000000 in
theorem lawMostlyOk (a : Option Addr) (n cap : Nat) (b : Option Addr) (n2 cap2 : Nat) (w : World) (h : BytesIn w a n cap) (h2 : BytesIn w b n2 cap2) :
    Calls Try.prog 5 #[.slice a n cap, .slice b n2 cap2] w (TrueEnd w) := by
  have hlen := h.len
  have hlen2 := h2.len
  have H := Lib.hid h; have H2 := Lib.hid h2; clear h h2
  by_cases hn : 1048576 < n
  · go_enter Try.func5, Try.ntmps5
    go_wp2_with fail
    go_ret
    exact ⟨rfl, Below.refl _ _⟩
  by_cases hn2 : 1048576 < n2
  · go_enter Try.func5, Try.ntmps5
    go_wp2_with fail
    go_ret
    exact ⟨rfl, Below.refl _ _⟩
  · go_enter Try.func5, Try.ntmps5
    go_wp2_with fail
    refine (DrawMostlyOk_any _ _ _ _ H.out).mono ?_
    rintro e w9 ⟨d, m, c, f, d2, m2, c2, g, x, rfl, hm7, hc, hx, hi, hj, hb1⟩
    have HI := Lib.hid hi; have HJ := Lib.hid hj; have HB := Lib.hid hb1; have HM := Lib.hid (H2.out.more hb1); have HX := Lib.hid hx
    obtain ⟨hx1, hx2⟩ := HX.out
    clear hi hj hb1 H H2 hx
    cases hf : shipB m f with
    | false =>
      have HF := Lib.hid hf
      have HV := Lib.hid (show moB m f m2 g x = false from moB_no (by rw [hf]; rfl))
      clear hf
      go_wp2_with fail
      refine (MostlyOk_b _ _ m c m2 c2 f g x false HV.out hc.1 hc.2 _ HI.out HJ.out).mono ?_
      rintro e w9 ⟨rfl, hb2⟩
      replace HI := Lib.hid (HI.out.next hb2)
      replace HJ := Lib.hid (HJ.out.next hb2)
      replace HM := Lib.hid (HM.out.more hb2)
      replace HB := Lib.hid (below_onto HB.out hb2)
      clear hb2
      go_wp2_with fail
      refine (specMostlyOk_b _ _ m c m2 c2 f g x false HV.out _ HI.out HJ.out).mono ?_
      rintro e w9 ⟨rfl, hb2⟩
      replace HI := Lib.hid (HI.out.next hb2)
      replace HJ := Lib.hid (HJ.out.next hb2)
      replace HM := Lib.hid (HM.out.more hb2)
      replace HB := Lib.hid (below_onto HB.out hb2)
      clear hb2
      go_wp2_with fail
      refine (specShipOk_b _ m c f false HF.out _ HI.out).mono ?_
      rintro e w9 ⟨rfl, hb2⟩
      replace HI := Lib.hid (HI.out.next hb2)
      replace HJ := Lib.hid (HJ.out.next hb2)
      replace HM := Lib.hid (HM.out.more hb2)
      replace HB := Lib.hid (below_onto HB.out hb2)
      clear hb2
      go_wp2_with fail
      refine (alive_any _).mono ?_
      rintro e w9 ⟨rfl, hb2⟩
      replace HI := Lib.hid (HI.out.next hb2)
      replace HJ := Lib.hid (HJ.out.next hb2)
      replace HM := Lib.hid (HM.out.more hb2)
      replace HB := Lib.hid (below_onto HB.out hb2)
      clear hb2
      go_wp2_with fail
      go_ret
      exact ⟨rfl, HB.out⟩
    | true =>
      have HF := Lib.hid hf
      cases hg : shipB m2 g with
      | false =>
        have HG := Lib.hid hg
        have HV := Lib.hid (show moB m f m2 g x = false from moB_no (by rw [hg, Bool.and_false]))
        clear hf hg
        go_wp2_with fail
        refine (MostlyOk_b _ _ m c m2 c2 f g x false HV.out hc.1 hc.2 _ HI.out HJ.out).mono ?_
        rintro e w9 ⟨rfl, hb2⟩
        replace HI := Lib.hid (HI.out.next hb2)
        replace HJ := Lib.hid (HJ.out.next hb2)
        replace HM := Lib.hid (HM.out.more hb2)
        replace HB := Lib.hid (below_onto HB.out hb2)
        clear hb2
        go_wp2_with fail
        refine (specMostlyOk_b _ _ m c m2 c2 f g x false HV.out _ HI.out HJ.out).mono ?_
        rintro e w9 ⟨rfl, hb2⟩
        replace HI := Lib.hid (HI.out.next hb2)
        replace HJ := Lib.hid (HJ.out.next hb2)
        replace HM := Lib.hid (HM.out.more hb2)
        replace HB := Lib.hid (below_onto HB.out hb2)
        clear hb2
        go_wp2_with fail
        refine (specShipOk_b _ m c f true HF.out _ HI.out).mono ?_
        rintro e w9 ⟨rfl, hb2⟩
        replace HI := Lib.hid (HI.out.next hb2)
        replace HJ := Lib.hid (HJ.out.next hb2)
        replace HM := Lib.hid (HM.out.more hb2)
        replace HB := Lib.hid (below_onto HB.out hb2)
        clear hb2
        go_wp2_with fail
        refine (specShipOk_b _ m2 c2 g false HG.out _ HJ.out).mono ?_
        rintro e w9 ⟨rfl, hb2⟩
        replace HI := Lib.hid (HI.out.next hb2)
        replace HJ := Lib.hid (HJ.out.next hb2)
        replace HM := Lib.hid (HM.out.more hb2)
        replace HB := Lib.hid (below_onto HB.out hb2)
        clear hb2
        go_wp2_with fail
        refine (alive_any _).mono ?_
        rintro e w9 ⟨rfl, hb2⟩
        replace HI := Lib.hid (HI.out.next hb2)
        replace HJ := Lib.hid (HJ.out.next hb2)
        replace HM := Lib.hid (HM.out.more hb2)
        replace HB := Lib.hid (below_onto HB.out hb2)
        clear hb2
        go_wp2_with fail
        go_ret
        exact ⟨rfl, HB.out⟩
      | true =>
        have HG := Lib.hid hg
        clear hf hg
        by_cases hx0 : x < 0
        · have HV := Lib.hid (moB_neg (n := m) (f := f) (m := m2) (g := g) hx0)
          go_wp2_with fail
          refine (MostlyOk_b _ _ m c m2 c2 f g x false HV.out hc.1 hc.2 _ HI.out HJ.out).mono ?_
          rintro e w9 ⟨rfl, hb2⟩
          replace HI := Lib.hid (HI.out.next hb2)
          replace HJ := Lib.hid (HJ.out.next hb2)
          replace HM := Lib.hid (HM.out.more hb2)
          replace HB := Lib.hid (below_onto HB.out hb2)
          clear hb2
          go_wp2_with fail
          refine (specMostlyOk_b _ _ m c m2 c2 f g x false HV.out _ HI.out HJ.out).mono ?_
          rintro e w9 ⟨rfl, hb2⟩
          replace HI := Lib.hid (HI.out.next hb2)
          replace HJ := Lib.hid (HJ.out.next hb2)
          replace HM := Lib.hid (HM.out.more hb2)
          replace HB := Lib.hid (below_onto HB.out hb2)
          clear hb2
          go_wp2_with fail
          refine (specShipOk_b _ m c f true HF.out _ HI.out).mono ?_
          rintro e w9 ⟨rfl, hb2⟩
          replace HI := Lib.hid (HI.out.next hb2)
          replace HJ := Lib.hid (HJ.out.next hb2)
          replace HM := Lib.hid (HM.out.more hb2)
          replace HB := Lib.hid (below_onto HB.out hb2)
          clear hb2
          go_wp2_with fail
          refine (specShipOk_b _ m2 c2 g true HG.out _ HJ.out).mono ?_
          rintro e w9 ⟨rfl, hb2⟩
          replace HI := Lib.hid (HI.out.next hb2)
          replace HJ := Lib.hid (HJ.out.next hb2)
          replace HM := Lib.hid (HM.out.more hb2)
          replace HB := Lib.hid (below_onto HB.out hb2)
          clear hb2
          go_wp2_with fail
          refine (alive_any _).mono ?_
          rintro e w9 ⟨rfl, hb2⟩
          replace HI := Lib.hid (HI.out.next hb2)
          replace HJ := Lib.hid (HJ.out.next hb2)
          replace HM := Lib.hid (HM.out.more hb2)
          replace HB := Lib.hid (below_onto HB.out hb2)
          clear hb2
          go_wp2_with fail
          go_ret
          exact ⟨rfl, HB.out⟩
        cases hv : moB m f m2 g x with
        | false =>
          have HV := Lib.hid hv; clear hv
          go_wp2_with fail
          refine (MostlyOk_b _ _ m c m2 c2 f g x false HV.out hc.1 hc.2 _ HI.out HJ.out).mono ?_
          rintro e w9 ⟨rfl, hb2⟩
          replace HI := Lib.hid (HI.out.next hb2)
          replace HJ := Lib.hid (HJ.out.next hb2)
          replace HM := Lib.hid (HM.out.more hb2)
          replace HB := Lib.hid (below_onto HB.out hb2)
          clear hb2
          go_wp2_with fail
          refine (specMostlyOk_b _ _ m c m2 c2 f g x false HV.out _ HI.out HJ.out).mono ?_
          rintro e w9 ⟨rfl, hb2⟩
          replace HI := Lib.hid (HI.out.next hb2)
          replace HJ := Lib.hid (HJ.out.next hb2)
          replace HM := Lib.hid (HM.out.more hb2)
          replace HB := Lib.hid (below_onto HB.out hb2)
          clear hb2
          go_wp2_with fail
          refine (specShipOk_b _ m c f true HF.out _ HI.out).mono ?_
          rintro e w9 ⟨rfl, hb2⟩
          replace HI := Lib.hid (HI.out.next hb2)
          replace HJ := Lib.hid (HJ.out.next hb2)
          replace HM := Lib.hid (HM.out.more hb2)
          replace HB := Lib.hid (below_onto HB.out hb2)
          clear hb2
          go_wp2_with fail
          refine (specShipOk_b _ m2 c2 g true HG.out _ HJ.out).mono ?_
          rintro e w9 ⟨rfl, hb2⟩
          replace HI := Lib.hid (HI.out.next hb2)
          replace HJ := Lib.hid (HJ.out.next hb2)
          replace HM := Lib.hid (HM.out.more hb2)
          replace HB := Lib.hid (below_onto HB.out hb2)
          clear hb2
          go_wp2_with fail
          refine (DrawCommonIn_any _ _ _ _ HM.out).mono ?_
          rintro e w9 ⟨d3, m3, c3, h, d4, m4, c4, h4, rfl, _, hc3, hk, _, hb2⟩
          replace HI := Lib.hid (HI.out.next hb2)
          replace HJ := Lib.hid (HJ.out.next hb2)
          replace HB := Lib.hid (below_onto HB.out hb2)
          have HK := Lib.hid hk
          clear hk hb2 HM
          go_wp2_with fail
          go_loopw [11] (fun i wr => i = .int .i64 0 ∧ Hid (Ints wr d m f) ∧ Hid (Ints wr d2 m2 g) ∧ Hid (Below w.heap.size w wr)) (fun _ _ => 0)
          case atStart => exact ⟨rfl, HI, HJ, HB⟩
          case round =>
            clear HI HJ HB HK
            obtain ⟨rfl, HI, HJ, HB⟩ := hrel
            obtain ⟨w9, rfl⟩ : ∃ w9 : World, w9 = wr := ⟨_, rfl⟩
            have HA := Lib.hid (lit_ints w9 [1, 2] (small_I64 (by decide)) (by decide) #[.int .i64 1, .int .i64 2] rfl 3)
            have hab := alloc_below w9 (.cells #[.int .i64 1, .int .i64 2] 3)
            replace HI := Lib.hid (HI.out.next hab)
            replace HJ := Lib.hid (HJ.out.next hab)
            replace HB := Lib.hid (below_onto HB.out hab)
            obtain ⟨wL, hwL⟩ : ∃ wN : World, w9.alloc (.cells #[.int .i64 1, .int .i64 2] 3) = wN := ⟨_, rfl⟩
            rw [hwL] at HB HI HJ HA
            clear hab
            have HC := Lib.hid (lit_ints wL [3, 2] (small_I64 (by decide)) (by decide) #[.int .i64 3, .int .i64 2] rfl 3)
            have hab := alloc_below wL (.cells #[.int .i64 3, .int .i64 2] 3)
            replace HI := Lib.hid (HI.out.next hab)
            replace HJ := Lib.hid (HJ.out.next hab)
            replace HA := Lib.hid (HA.out.next hab)
            replace HB := Lib.hid (below_onto HB.out hab)
            obtain ⟨wM, hwM⟩ : ∃ wN : World, wL.alloc (.cells #[.int .i64 3, .int .i64 2] 3) = wN := ⟨_, rfl⟩
            rw [hwM] at HB HI HJ HA HC
            clear hab
            go_wp2_with fail
            refine (MostlyOk_b _ _ 2 2 2 2 _ _ 1 true lit_a (Nat.le_refl _) (Nat.le_refl _) _ HA.out HC.out).mono ?_
            rintro e w9 ⟨rfl, hb2⟩
            replace HI := Lib.hid (HI.out.next hb2)
            replace HJ := Lib.hid (HJ.out.next hb2)
            replace HA := Lib.hid (HA.out.next hb2)
            replace HC := Lib.hid (HC.out.next hb2)
            replace HB := Lib.hid (below_onto HB.out hb2)
            clear hb2 hwL hwM
            clear HA HC
            have HA := Lib.hid (lit_ints w9 [3, 2] (small_I64 (by decide)) (by decide) #[.int .i64 3, .int .i64 2] rfl 3)
            have hab := alloc_below w9 (.cells #[.int .i64 3, .int .i64 2] 3)
            replace HI := Lib.hid (HI.out.next hab)
            replace HJ := Lib.hid (HJ.out.next hab)
            replace HB := Lib.hid (below_onto HB.out hab)
            obtain ⟨wL, hwL⟩ : ∃ wN : World, w9.alloc (.cells #[.int .i64 3, .int .i64 2] 3) = wN := ⟨_, rfl⟩
            rw [hwL] at HB HI HJ HA
            clear hab
            have HC := Lib.hid (lit_ints wL [3, 4] (small_I64 (by decide)) (by decide) #[.int .i64 3, .int .i64 4] rfl 3)
            have hab := alloc_below wL (.cells #[.int .i64 3, .int .i64 4] 3)
            replace HI := Lib.hid (HI.out.next hab)
            replace HJ := Lib.hid (HJ.out.next hab)
            replace HA := Lib.hid (HA.out.next hab)
            replace HB := Lib.hid (below_onto HB.out hab)
            obtain ⟨wM, hwM⟩ : ∃ wN : World, wL.alloc (.cells #[.int .i64 3, .int .i64 4] 3) = wN := ⟨_, rfl⟩
            rw [hwM] at HB HI HJ HA HC
            clear hab
            go_wp2_with fail
            refine (MostlyOk_b _ _ 2 2 2 2 _ _ 1 true lit_b (Nat.le_refl _) (Nat.le_refl _) _ HA.out HC.out).mono ?_
            rintro e w9 ⟨rfl, hb2⟩
            replace HI := Lib.hid (HI.out.next hb2)
            replace HJ := Lib.hid (HJ.out.next hb2)
            replace HA := Lib.hid (HA.out.next hb2)
            replace HC := Lib.hid (HC.out.next hb2)
            replace HB := Lib.hid (below_onto HB.out hb2)
            clear hb2 hwL hwM
            clear HA HC
            have HA := Lib.hid (lit_ints w9 [1, 2] (small_I64 (by decide)) (by decide) #[.int .i64 1, .int .i64 2] rfl 3)
            have hab := alloc_below w9 (.cells #[.int .i64 1, .int .i64 2] 3)
            replace HI := Lib.hid (HI.out.next hab)
            replace HJ := Lib.hid (HJ.out.next hab)
            replace HB := Lib.hid (below_onto HB.out hab)
            obtain ⟨wL, hwL⟩ : ∃ wN : World, w9.alloc (.cells #[.int .i64 1, .int .i64 2] 3) = wN := ⟨_, rfl⟩
            rw [hwL] at HB HI HJ HA
            clear hab
            have HC := Lib.hid (lit_ints wL [3, 4] (small_I64 (by decide)) (by decide) #[.int .i64 3, .int .i64 4] rfl 3)
            have hab := alloc_below wL (.cells #[.int .i64 3, .int .i64 4] 3)
            replace HI := Lib.hid (HI.out.next hab)
            replace HJ := Lib.hid (HJ.out.next hab)
            replace HA := Lib.hid (HA.out.next hab)
            replace HB := Lib.hid (below_onto HB.out hab)
            obtain ⟨wM, hwM⟩ : ∃ wN : World, wL.alloc (.cells #[.int .i64 3, .int .i64 4] 3) = wN := ⟨_, rfl⟩
            rw [hwM] at HB HI HJ HA HC
            clear hab
            go_wp2_with fail
            refine (MostlyOk_b _ _ 2 2 2 2 _ _ 1 false lit_c (Nat.le_refl _) (Nat.le_refl _) _ HA.out HC.out).mono ?_
            rintro e w9 ⟨rfl, hb2⟩
            replace HI := Lib.hid (HI.out.next hb2)
            replace HJ := Lib.hid (HJ.out.next hb2)
            replace HA := Lib.hid (HA.out.next hb2)
            replace HC := Lib.hid (HC.out.next hb2)
            replace HB := Lib.hid (below_onto HB.out hb2)
            clear hb2 hwL hwM
            clear HA HC
            go_wp2_with fail
            refine (MostlyOk_b _ _ m2 c2 m c g f x false (mo_sym.trans HV.out) hc.2 hc.1 _ HJ.out HI.out).mono ?_
            rintro e w9 ⟨rfl, hb2⟩
            replace HI := Lib.hid (HI.out.next hb2)
            replace HJ := Lib.hid (HJ.out.next hb2)
            replace HB := Lib.hid (below_onto HB.out hb2)
            clear hb2
            go_wp2_with fail
            refine (MostlyOk_b _ _ m c m c f f 0 true (mo_self HF.out (by omega)) hc.1 hc.1 _ HI.out HI.out).mono ?_
            rintro e w9 ⟨rfl, hb2⟩
            replace HI := Lib.hid (HI.out.next hb2)
            replace HJ := Lib.hid (HJ.out.next hb2)
            replace HB := Lib.hid (below_onto HB.out hb2)
            clear hb2
            go_wp2_with fail
            go_ret
            exact ⟨rfl, HB.out⟩
        | true =>
          have HV := Lib.hid hv; clear hv
          go_wp2_with fail
          refine (MostlyOk_b _ _ m c m2 c2 f g x true HV.out hc.1 hc.2 _ HI.out HJ.out).mono ?_
          rintro e w9 ⟨rfl, hb2⟩
          replace HI := Lib.hid (HI.out.next hb2)
          replace HJ := Lib.hid (HJ.out.next hb2)
          replace HM := Lib.hid (HM.out.more hb2)
          replace HB := Lib.hid (below_onto HB.out hb2)
          clear hb2
          go_wp2_with fail
          refine (specMostlyOk_b _ _ m c m2 c2 f g x true HV.out _ HI.out HJ.out).mono ?_
          rintro e w9 ⟨rfl, hb2⟩
          replace HI := Lib.hid (HI.out.next hb2)
          replace HJ := Lib.hid (HJ.out.next hb2)
          replace HM := Lib.hid (HM.out.more hb2)
          replace HB := Lib.hid (below_onto HB.out hb2)
          clear hb2
          go_wp2_with fail
          refine (specShipOk_b _ m c f true HF.out _ HI.out).mono ?_
          rintro e w9 ⟨rfl, hb2⟩
          replace HI := Lib.hid (HI.out.next hb2)
          replace HJ := Lib.hid (HJ.out.next hb2)
          replace HM := Lib.hid (HM.out.more hb2)
          replace HB := Lib.hid (below_onto HB.out hb2)
          clear hb2
          go_wp2_with fail
          refine (specShipOk_b _ m2 c2 g true HG.out _ HJ.out).mono ?_
          rintro e w9 ⟨rfl, hb2⟩
          replace HI := Lib.hid (HI.out.next hb2)
          replace HJ := Lib.hid (HJ.out.next hb2)
          replace HM := Lib.hid (HM.out.more hb2)
          replace HB := Lib.hid (below_onto HB.out hb2)
          clear hb2
          go_wp2_with fail
          refine (DrawCommonIn_any _ _ _ _ HM.out).mono ?_
          rintro e w9 ⟨d3, m3, c3, h, d4, m4, c4, h4, rfl, _, hc3, hk, _, hb2⟩
          replace HI := Lib.hid (HI.out.next hb2)
          replace HJ := Lib.hid (HJ.out.next hb2)
          replace HB := Lib.hid (below_onto HB.out hb2)
          have HK := Lib.hid hk
          clear hk hb2 HM
          go_wp2_with fail
          go_loopw [11] (fun i wr => ∃ k : Nat, k ≤ 3 ∧ i = .int .i64 k ∧ Hid (Ints wr d m f) ∧ Hid (Ints wr d2 m2 g) ∧ Hid (Ints wr d3 m3 h) ∧ Hid (Below w.heap.size w wr)) (fun i _ => 3 - (intOf i).toNat)
          case atStart => exact ⟨0, by omega, rfl, HI, HJ, HK, HB⟩
          case round =>
            clear HI HJ HK HB
            obtain ⟨k, hk, rfl, HI, HJ, HK, HB⟩ := hrel
            by_cases hlt : k < 3
            · have hki : (k : Int) < 3 := by omega
              cases hu : moB m2 g m3 h k with
              | true =>
                have HU := Lib.hid hu; clear hu
                go_wp2_with fail
                refine (MostlyOk_b _ _ m2 c2 m3 c3 g h k true HU.out hc.2 hc3.1 _ HJ.out HK.out).mono ?_
                rintro e w9 ⟨rfl, hb2⟩
                replace HI := Lib.hid (HI.out.next hb2)
                replace HJ := Lib.hid (HJ.out.next hb2)
                replace HK := Lib.hid (HK.out.next hb2)
                replace HB := Lib.hid (below_onto HB.out hb2)
                clear hb2
                go_wp2_with fail
                refine (MostlyOk_b _ _ m c m3 c3 f h (x + k) true (mo_sum HV.out HU.out) hc.1 hc3.1 _ HI.out HK.out).mono ?_
                rintro e w9 ⟨rfl, hb2⟩
                replace HI := Lib.hid (HI.out.next hb2)
                replace HJ := Lib.hid (HJ.out.next hb2)
                replace HK := Lib.hid (HK.out.next hb2)
                replace HB := Lib.hid (below_onto HB.out hb2)
                clear hb2
                go_wp2_with fail
                go_roundw
                case rel => exact ⟨k + 1, by omega, by go_num, HI, HJ, HK, HB⟩
                case measure => simp [intOf]; omega
              | false =>
                have HU := Lib.hid hu; clear hu
                go_wp2_with fail
                refine (MostlyOk_b _ _ m2 c2 m3 c3 g h k false HU.out hc.2 hc3.1 _ HJ.out HK.out).mono ?_
                rintro e w9 ⟨rfl, hb2⟩
                replace HI := Lib.hid (HI.out.next hb2)
                replace HJ := Lib.hid (HJ.out.next hb2)
                replace HK := Lib.hid (HK.out.next hb2)
                replace HB := Lib.hid (below_onto HB.out hb2)
                clear hb2
                go_wp2_with fail
                go_roundw
                case rel => exact ⟨k + 1, by omega, by go_num, HI, HJ, HK, HB⟩
                case measure => simp [intOf]; omega
            · have hki : ¬ (k : Int) < 3 := by omega
              clear hlt
              obtain ⟨w9, rfl⟩ : ∃ w9 : World, w9 = wr := ⟨_, rfl⟩
              have HA := Lib.hid (lit_ints w9 [1, 2] (small_I64 (by decide)) (by decide) #[.int .i64 1, .int .i64 2] rfl 3)
              have hab := alloc_below w9 (.cells #[.int .i64 1, .int .i64 2] 3)
              replace HI := Lib.hid (HI.out.next hab)
              replace HJ := Lib.hid (HJ.out.next hab)
              replace HB := Lib.hid (below_onto HB.out hab)
              obtain ⟨wL, hwL⟩ : ∃ wN : World, w9.alloc (.cells #[.int .i64 1, .int .i64 2] 3) = wN := ⟨_, rfl⟩
              rw [hwL] at HB HI HJ HA
              clear hab
              have HC := Lib.hid (lit_ints wL [3, 2] (small_I64 (by decide)) (by decide) #[.int .i64 3, .int .i64 2] rfl 3)
              have hab := alloc_below wL (.cells #[.int .i64 3, .int .i64 2] 3)
              replace HI := Lib.hid (HI.out.next hab)
              replace HJ := Lib.hid (HJ.out.next hab)
              replace HA := Lib.hid (HA.out.next hab)
              replace HB := Lib.hid (below_onto HB.out hab)
              obtain ⟨wM, hwM⟩ : ∃ wN : World, wL.alloc (.cells #[.int .i64 3, .int .i64 2] 3) = wN := ⟨_, rfl⟩
              rw [hwM] at HB HI HJ HA HC
              clear hab
              go_wp2_with fail
              refine (MostlyOk_b _ _ 2 2 2 2 _ _ 1 true lit_a (Nat.le_refl _) (Nat.le_refl _) _ HA.out HC.out).mono ?_
              rintro e w9 ⟨rfl, hb2⟩
              replace HI := Lib.hid (HI.out.next hb2)
              replace HJ := Lib.hid (HJ.out.next hb2)
              replace HA := Lib.hid (HA.out.next hb2)
              replace HC := Lib.hid (HC.out.next hb2)
              replace HB := Lib.hid (below_onto HB.out hb2)
              clear hb2 hwL hwM
              clear HA HC
              have HA := Lib.hid (lit_ints w9 [3, 2] (small_I64 (by decide)) (by decide) #[.int .i64 3, .int .i64 2] rfl 3)
              have hab := alloc_below w9 (.cells #[.int .i64 3, .int .i64 2] 3)
              replace HI := Lib.hid (HI.out.next hab)
              replace HJ := Lib.hid (HJ.out.next hab)
              replace HB := Lib.hid (below_onto HB.out hab)
              obtain ⟨wL, hwL⟩ : ∃ wN : World, w9.alloc (.cells #[.int .i64 3, .int .i64 2] 3) = wN := ⟨_, rfl⟩
              rw [hwL] at HB HI HJ HA
              clear hab
              have HC := Lib.hid (lit_ints wL [3, 4] (small_I64 (by decide)) (by decide) #[.int .i64 3, .int .i64 4] rfl 3)
              have hab := alloc_below wL (.cells #[.int .i64 3, .int .i64 4] 3)
              replace HI := Lib.hid (HI.out.next hab)
              replace HJ := Lib.hid (HJ.out.next hab)
              replace HA := Lib.hid (HA.out.next hab)
              replace HB := Lib.hid (below_onto HB.out hab)
              obtain ⟨wM, hwM⟩ : ∃ wN : World, wL.alloc (.cells #[.int .i64 3, .int .i64 4] 3) = wN := ⟨_, rfl⟩
              rw [hwM] at HB HI HJ HA HC
              clear hab
              go_wp2_with fail
              refine (MostlyOk_b _ _ 2 2 2 2 _ _ 1 true lit_b (Nat.le_refl _) (Nat.le_refl _) _ HA.out HC.out).mono ?_
              rintro e w9 ⟨rfl, hb2⟩
              replace HI := Lib.hid (HI.out.next hb2)
              replace HJ := Lib.hid (HJ.out.next hb2)
              replace HA := Lib.hid (HA.out.next hb2)
              replace HC := Lib.hid (HC.out.next hb2)
              replace HB := Lib.hid (below_onto HB.out hb2)
              clear hb2 hwL hwM
              clear HA HC
              have HA := Lib.hid (lit_ints w9 [1, 2] (small_I64 (by decide)) (by decide) #[.int .i64 1, .int .i64 2] rfl 3)
              have hab := alloc_below w9 (.cells #[.int .i64 1, .int .i64 2] 3)
              replace HI := Lib.hid (HI.out.next hab)
              replace HJ := Lib.hid (HJ.out.next hab)
              replace HB := Lib.hid (below_onto HB.out hab)
              obtain ⟨wL, hwL⟩ : ∃ wN : World, w9.alloc (.cells #[.int .i64 1, .int .i64 2] 3) = wN := ⟨_, rfl⟩
              rw [hwL] at HB HI HJ HA
              clear hab
              have HC := Lib.hid (lit_ints wL [3, 4] (small_I64 (by decide)) (by decide) #[.int .i64 3, .int .i64 4] rfl 3)
              have hab := alloc_below wL (.cells #[.int .i64 3, .int .i64 4] 3)
              replace HI := Lib.hid (HI.out.next hab)
              replace HJ := Lib.hid (HJ.out.next hab)
              replace HA := Lib.hid (HA.out.next hab)
              replace HB := Lib.hid (below_onto HB.out hab)
              obtain ⟨wM, hwM⟩ : ∃ wN : World, wL.alloc (.cells #[.int .i64 3, .int .i64 4] 3) = wN := ⟨_, rfl⟩
              rw [hwM] at HB HI HJ HA HC
              clear hab
              go_wp2_with fail
              refine (MostlyOk_b _ _ 2 2 2 2 _ _ 1 false lit_c (Nat.le_refl _) (Nat.le_refl _) _ HA.out HC.out).mono ?_
              rintro e w9 ⟨rfl, hb2⟩
              replace HI := Lib.hid (HI.out.next hb2)
              replace HJ := Lib.hid (HJ.out.next hb2)
              replace HA := Lib.hid (HA.out.next hb2)
              replace HC := Lib.hid (HC.out.next hb2)
              replace HB := Lib.hid (below_onto HB.out hb2)
              clear hb2 hwL hwM
              clear HA HC
              go_wp2_with fail
              refine (MostlyOk_b _ _ m2 c2 m c g f x true (mo_sym.trans HV.out) hc.2 hc.1 _ HJ.out HI.out).mono ?_
              rintro e w9 ⟨rfl, hb2⟩
              replace HI := Lib.hid (HI.out.next hb2)
              replace HJ := Lib.hid (HJ.out.next hb2)
              replace HB := Lib.hid (below_onto HB.out hb2)
              clear hb2
              go_wp2_with fail
              refine (MostlyOk_b _ _ m c m c f f 0 true (mo_self HF.out (by omega)) hc.1 hc.1 _ HI.out HI.out).mono ?_
              rintro e w9 ⟨rfl, hb2⟩
              replace HI := Lib.hid (HI.out.next hb2)
              replace HJ := Lib.hid (HJ.out.next hb2)
              replace HB := Lib.hid (below_onto HB.out hb2)
              clear hb2
              go_wp2_with fail
              go_ret
              exact ⟨rfl, HB.out⟩

end Go.Proofs.Ytibjdmmcnhlgnaa
