import Derived.Test.YtibjdmmcnhlgnaaLaw10M
namespace Go.Proofs.Ytibjdmmcnhlgnaa
set_option linter.unusedVariables false
set_option linter.unusedSimpArgs false
open Go.RowKit Go.Maps

set_option maxRecDepth 100000 in
set_option maxHeartbeats 8000000 in
theorem lawShipOk (a : Option Addr) (n cap : Nat) (w : World) (h : BytesIn w a n cap) :
    Calls Try.prog 3 #[.slice a n cap] w (TrueEnd w) := by
  have hlen := h.len
  have H := Lib.hid h; clear h
  by_cases hn : 1048576 < n
  · go_enter Try.func3, Try.ntmps3
    go_wp2_with fail
    go_ret
    exact ⟨rfl, Below.refl _ _⟩
  · go_enter Try.func3, Try.ntmps3
    go_wp2_with fail
    refine (DrawShipOk_any _ _ _ _ H.out).mono ?_
    rintro e w9 ⟨d, m, c, f, rfl, hm7, hc, hi, hb1⟩
    have HI := Lib.hid hi; have HB := Lib.hid hb1
    clear hi hb1
    cases hv : shipB m f with
    | false =>
      have HV := Lib.hid hv; clear hv
      go_wp2_with fail
      refine (ShipOk_b _ m c f false HV.out hc _ HI.out).mono ?_
      rintro e w9 ⟨rfl, hb2⟩
      replace HI := Lib.hid (HI.out.next hb2)
      replace HB := Lib.hid (below_onto HB.out hb2)
      clear hb2
      go_wp2_with fail
      refine (specShipOk_b _ m c f false HV.out _ HI.out).mono ?_
      rintro e w9 ⟨rfl, hb2⟩
      replace HI := Lib.hid (HI.out.next hb2)
      replace HB := Lib.hid (below_onto HB.out hb2)
      clear hb2
      have HA := Lib.hid (lit_ints w9 [0] (small_I64 (by decide)) (by decide) #[.int .i64 0] rfl 3)
      have hab := alloc_below w9 (.cells #[.int .i64 0] 3)
      replace HI := Lib.hid (HI.out.next hab)
      replace HB := Lib.hid (below_onto HB.out hab)
      obtain ⟨wL, hwL⟩ : ∃ wL, w9.alloc (.cells #[.int .i64 0] 3) = wL := ⟨_, rfl⟩
      rw [hwL] at HB HI HA
      clear hab
      go_wp2_with fail
      refine (ShipOk_b _ 1 1 _ true lit_0 (Nat.le_refl _) _ HA.out).mono ?_
      rintro e w9 ⟨rfl, hb2⟩
      replace HI := Lib.hid (HI.out.next hb2)
      replace HA := Lib.hid (HA.out.next hb2)
      replace HB := Lib.hid (below_onto HB.out hb2)
      clear hb2 hwL
      clear HA
      have HC := Lib.hid (lit_ints w9 [99] (small_I64 (by decide)) (by decide) #[.int .i64 99] rfl 3)
      have hab := alloc_below w9 (.cells #[.int .i64 99] 3)
      replace HI := Lib.hid (HI.out.next hab)
      replace HB := Lib.hid (below_onto HB.out hab)
      obtain ⟨wL, hwL⟩ : ∃ wL, w9.alloc (.cells #[.int .i64 99] 3) = wL := ⟨_, rfl⟩
      rw [hwL] at HB HI HC
      clear hab
      go_wp2_with fail
      refine (ShipOk_b _ 1 1 _ true lit_99 (Nat.le_refl _) _ HC.out).mono ?_
      rintro e w9 ⟨rfl, hb2⟩
      replace HI := Lib.hid (HI.out.next hb2)
      replace HC := Lib.hid (HC.out.next hb2)
      replace HB := Lib.hid (below_onto HB.out hb2)
      clear hb2 hwL
      clear HC
      have HD := Lib.hid (lit_ints w9 [1, 1] (small_I64 (by decide)) (by decide) #[.int .i64 1, .int .i64 1] rfl 3)
      have hab := alloc_below w9 (.cells #[.int .i64 1, .int .i64 1] 3)
      replace HI := Lib.hid (HI.out.next hab)
      replace HB := Lib.hid (below_onto HB.out hab)
      obtain ⟨wL, hwL⟩ : ∃ wL, w9.alloc (.cells #[.int .i64 1, .int .i64 1] 3) = wL := ⟨_, rfl⟩
      rw [hwL] at HB HI HD
      clear hab
      go_wp2_with fail
      refine (ShipOk_b _ 2 2 _ false lit_11 (Nat.le_refl _) _ HD.out).mono ?_
      rintro e w9 ⟨rfl, hb2⟩
      replace HI := Lib.hid (HI.out.next hb2)
      replace HD := Lib.hid (HD.out.next hb2)
      replace HB := Lib.hid (below_onto HB.out hb2)
      clear hb2 hwL
      clear HD
      go_wp2_with fail
      refine (alive_any _).mono ?_
      rintro e w9 ⟨rfl, hb2⟩
      replace HI := Lib.hid (HI.out.next hb2)
      replace HB := Lib.hid (below_onto HB.out hb2)
      clear hb2
      go_wp2_with fail
      go_ret
      exact ⟨rfl, HB.out⟩
    | true =>
      have HV := Lib.hid hv
      by_cases h1 : m = 1
      · have hq1 : ((m : Int) == 1) = true := by rw [beq_iff_eq]; omega
        clear hv h1
        go_wp2_with fail
        refine (ShipOk_b _ m c f true HV.out hc _ HI.out).mono ?_
        rintro e w9 ⟨rfl, hb2⟩
        replace HI := Lib.hid (HI.out.next hb2)
        replace HB := Lib.hid (below_onto HB.out hb2)
        clear hb2
        go_wp2_with fail
        refine (specShipOk_b _ m c f true HV.out _ HI.out).mono ?_
        rintro e w9 ⟨rfl, hb2⟩
        replace HI := Lib.hid (HI.out.next hb2)
        replace HB := Lib.hid (below_onto HB.out hb2)
        clear hb2
        have HA := Lib.hid (lit_ints w9 [0] (small_I64 (by decide)) (by decide) #[.int .i64 0] rfl 3)
        have hab := alloc_below w9 (.cells #[.int .i64 0] 3)
        replace HI := Lib.hid (HI.out.next hab)
        replace HB := Lib.hid (below_onto HB.out hab)
        obtain ⟨wL, hwL⟩ : ∃ wL, w9.alloc (.cells #[.int .i64 0] 3) = wL := ⟨_, rfl⟩
        rw [hwL] at HB HI HA
        clear hab
        go_wp2_with fail
        refine (ShipOk_b _ 1 1 _ true lit_0 (Nat.le_refl _) _ HA.out).mono ?_
        rintro e w9 ⟨rfl, hb2⟩
        replace HI := Lib.hid (HI.out.next hb2)
        replace HA := Lib.hid (HA.out.next hb2)
        replace HB := Lib.hid (below_onto HB.out hb2)
        clear hb2 hwL
        clear HA
        have HC := Lib.hid (lit_ints w9 [99] (small_I64 (by decide)) (by decide) #[.int .i64 99] rfl 3)
        have hab := alloc_below w9 (.cells #[.int .i64 99] 3)
        replace HI := Lib.hid (HI.out.next hab)
        replace HB := Lib.hid (below_onto HB.out hab)
        obtain ⟨wL, hwL⟩ : ∃ wL, w9.alloc (.cells #[.int .i64 99] 3) = wL := ⟨_, rfl⟩
        rw [hwL] at HB HI HC
        clear hab
        go_wp2_with fail
        refine (ShipOk_b _ 1 1 _ true lit_99 (Nat.le_refl _) _ HC.out).mono ?_
        rintro e w9 ⟨rfl, hb2⟩
        replace HI := Lib.hid (HI.out.next hb2)
        replace HC := Lib.hid (HC.out.next hb2)
        replace HB := Lib.hid (below_onto HB.out hb2)
        clear hb2 hwL
        clear HC
        have HD := Lib.hid (lit_ints w9 [1, 1] (small_I64 (by decide)) (by decide) #[.int .i64 1, .int .i64 1] rfl 3)
        have hab := alloc_below w9 (.cells #[.int .i64 1, .int .i64 1] 3)
        replace HI := Lib.hid (HI.out.next hab)
        replace HB := Lib.hid (below_onto HB.out hab)
        obtain ⟨wL, hwL⟩ : ∃ wL, w9.alloc (.cells #[.int .i64 1, .int .i64 1] 3) = wL := ⟨_, rfl⟩
        rw [hwL] at HB HI HD
        clear hab
        go_wp2_with fail
        refine (ShipOk_b _ 2 2 _ false lit_11 (Nat.le_refl _) _ HD.out).mono ?_
        rintro e w9 ⟨rfl, hb2⟩
        replace HI := Lib.hid (HI.out.next hb2)
        replace HD := Lib.hid (HD.out.next hb2)
        replace HB := Lib.hid (below_onto HB.out hb2)
        clear hb2 hwL
        clear HD
        go_wp2_with fail
        refine (alive_any _).mono ?_
        rintro e w9 ⟨rfl, hb2⟩
        replace HI := Lib.hid (HI.out.next hb2)
        replace HB := Lib.hid (below_onto HB.out hb2)
        clear hb2
        go_wp2_with fail
        go_ret
        exact ⟨rfl, HB.out⟩
      · obtain ⟨k, hk⟩ : ∃ k, m = k + 1 := ⟨m - 1, by have := (shipB_iff.1 hv).1; omega⟩
        have HV2 := Lib.hid (show shipB k f = true by rw [hk] at hv; exact ship_less hv (by omega))
        have hq1 : ((m : Int) == 1) = false := by rw [beq_eq_false_iff_ne]; omega
        have hkc : k ≤ c := by omega
        have hki : (k : Int) ≤ (c : Int) := by omega
        have hk0 : (0 : Int) ≤ (k : Int) := by omega
        have hwk : IntKind.i64.wrap ((m : Int) - 1) = (k : Int) := by rw [wrap_in _ (by unfold I64; omega)]; omega
        have HKM := Lib.hid (show k ≤ m by omega)
        clear hv hk h1
        go_wp2_with fail
        refine (ShipOk_b _ m c f true HV.out hc _ HI.out).mono ?_
        rintro e w9 ⟨rfl, hb2⟩
        replace HI := Lib.hid (HI.out.next hb2)
        replace HB := Lib.hid (below_onto HB.out hb2)
        clear hb2
        go_wp2_with fail
        refine (specShipOk_b _ m c f true HV.out _ HI.out).mono ?_
        rintro e w9 ⟨rfl, hb2⟩
        replace HI := Lib.hid (HI.out.next hb2)
        replace HB := Lib.hid (below_onto HB.out hb2)
        clear hb2
        have HA := Lib.hid (lit_ints w9 [0] (small_I64 (by decide)) (by decide) #[.int .i64 0] rfl 3)
        have hab := alloc_below w9 (.cells #[.int .i64 0] 3)
        replace HI := Lib.hid (HI.out.next hab)
        replace HB := Lib.hid (below_onto HB.out hab)
        obtain ⟨wL, hwL⟩ : ∃ wL, w9.alloc (.cells #[.int .i64 0] 3) = wL := ⟨_, rfl⟩
        rw [hwL] at HB HI HA
        clear hab
        go_wp2_with fail
        refine (ShipOk_b _ 1 1 _ true lit_0 (Nat.le_refl _) _ HA.out).mono ?_
        rintro e w9 ⟨rfl, hb2⟩
        replace HI := Lib.hid (HI.out.next hb2)
        replace HA := Lib.hid (HA.out.next hb2)
        replace HB := Lib.hid (below_onto HB.out hb2)
        clear hb2 hwL
        clear HA
        have HC := Lib.hid (lit_ints w9 [99] (small_I64 (by decide)) (by decide) #[.int .i64 99] rfl 3)
        have hab := alloc_below w9 (.cells #[.int .i64 99] 3)
        replace HI := Lib.hid (HI.out.next hab)
        replace HB := Lib.hid (below_onto HB.out hab)
        obtain ⟨wL, hwL⟩ : ∃ wL, w9.alloc (.cells #[.int .i64 99] 3) = wL := ⟨_, rfl⟩
        rw [hwL] at HB HI HC
        clear hab
        go_wp2_with fail
        refine (ShipOk_b _ 1 1 _ true lit_99 (Nat.le_refl _) _ HC.out).mono ?_
        rintro e w9 ⟨rfl, hb2⟩
        replace HI := Lib.hid (HI.out.next hb2)
        replace HC := Lib.hid (HC.out.next hb2)
        replace HB := Lib.hid (below_onto HB.out hb2)
        clear hb2 hwL
        clear HC
        go_wp2_with fail
        refine (ShipOk_b _ k c f true HV2.out hkc _ (HI.out.first HKM.out)).mono ?_
        rintro e w9 ⟨rfl, hb2⟩
        replace HI := Lib.hid (HI.out.next hb2)
        replace HB := Lib.hid (below_onto HB.out hb2)
        clear hb2
        have HD := Lib.hid (lit_ints w9 [1, 1] (small_I64 (by decide)) (by decide) #[.int .i64 1, .int .i64 1] rfl 3)
        have hab := alloc_below w9 (.cells #[.int .i64 1, .int .i64 1] 3)
        replace HI := Lib.hid (HI.out.next hab)
        replace HB := Lib.hid (below_onto HB.out hab)
        obtain ⟨wL, hwL⟩ : ∃ wL, w9.alloc (.cells #[.int .i64 1, .int .i64 1] 3) = wL := ⟨_, rfl⟩
        rw [hwL] at HB HI HD
        clear hab
        go_wp2_with fail
        refine (ShipOk_b _ 2 2 _ false lit_11 (Nat.le_refl _) _ HD.out).mono ?_
        rintro e w9 ⟨rfl, hb2⟩
        replace HI := Lib.hid (HI.out.next hb2)
        replace HD := Lib.hid (HD.out.next hb2)
        replace HB := Lib.hid (below_onto HB.out hb2)
        clear hb2 hwL
        clear HD
        go_wp2_with fail
        refine (alive_any _).mono ?_
        rintro e w9 ⟨rfl, hb2⟩
        replace HI := Lib.hid (HI.out.next hb2)
        replace HB := Lib.hid (below_onto HB.out hb2)
        clear hb2
        go_wp2_with fail
        go_ret
        exact ⟨rfl, HB.out⟩


set_option maxRecDepth 100000 in
set_option maxHeartbeats 8000000 in
theorem lawCommonIn (a : Option Addr) (n cap : Nat) (w : World) (h : BytesIn w a n cap) :
    Calls Try.prog 4 #[.slice a n cap] w (TrueEnd w) := by
  have hlen := h.len
  have H := Lib.hid h; clear h
  by_cases hn : 1048576 < n
  · go_enter Try.func4, Try.ntmps4
    go_wp2_with fail
    go_ret
    exact ⟨rfl, Below.refl _ _⟩
  · go_enter Try.func4, Try.ntmps4
    go_wp2_with fail
    refine (DrawCommonIn_any _ _ _ _ H.out).mono ?_
    rintro e w9 ⟨d, m, c, f, d2, m2, c2, g, rfl, hm7, hc, hi, hj, hb1⟩
    have HI := Lib.hid hi; have HJ := Lib.hid hj; have HB := Lib.hid hb1
    clear hi hj hb1
    cases hv : (shipB m f && shipB m2 g) with
    | false =>
      have HV := Lib.hid (cmI_no hv); clear hv
      go_wp2_with fail
      refine (CommonIn_b _ _ m c m2 c2 f g (-1) HV.out hc.1 hc.2 _ HI.out HJ.out).mono ?_
      rintro e w9 ⟨rfl, hb2⟩
      replace HI := Lib.hid (HI.out.next hb2)
      replace HJ := Lib.hid (HJ.out.next hb2)
      replace HB := Lib.hid (below_onto HB.out hb2)
      clear hb2
      go_wp2_with fail
      refine (specCommonIn_b _ _ m c m2 c2 f g (-1) HV.out _ HI.out HJ.out).mono ?_
      rintro e w9 ⟨rfl, hb2⟩
      replace HI := Lib.hid (HI.out.next hb2)
      replace HJ := Lib.hid (HJ.out.next hb2)
      replace HB := Lib.hid (below_onto HB.out hb2)
      clear hb2
      go_wp2_with fail
      refine (alive_any _).mono ?_
      rintro e w9 ⟨rfl, hb2⟩
      replace HI := Lib.hid (HI.out.next hb2)
      replace HJ := Lib.hid (HJ.out.next hb2)
      replace HB := Lib.hid (below_onto HB.out hb2)
      clear hb2
      go_wp2_with fail
      go_ret
      exact ⟨rfl, HB.out⟩
    | true =>
      have h2 := Bool.and_eq_true_iff.1 hv
      have hl1 := cntF_le m f m2 g
      have hl2 := cnt_more h2.1 h2.2
      have HS := Lib.hid ((cmI_yes h2.2 h2.1).trans (congrArg Int.ofNat (cnt_sym h2.2 h2.1)))
      have HV := Lib.hid (cmI_yes h2.1 h2.2)
      have HF := Lib.hid ((cmI_yes h2.1 h2.1).trans (congrArg Int.ofNat cnt_self))
      obtain ⟨s, hs⟩ : ∃ s, cntF m f m2 g = s := ⟨_, rfl⟩
      rw [hs] at HS HV hl1 hl2
      have hs0 : ¬ ((s : Int) < 0) := by omega
      have hsm : (s : Int) ≤ (m : Int) := by omega
      have hsm2 : (s : Int) ≤ (m2 : Int) := by omega
      clear hs h2 hv
      go_wp2_with fail
      refine (CommonIn_b _ _ m c m2 c2 f g s HV.out hc.1 hc.2 _ HI.out HJ.out).mono ?_
      rintro e w9 ⟨rfl, hb2⟩
      replace HI := Lib.hid (HI.out.next hb2)
      replace HJ := Lib.hid (HJ.out.next hb2)
      replace HB := Lib.hid (below_onto HB.out hb2)
      clear hb2
      go_wp2_with fail
      refine (specCommonIn_b _ _ m c m2 c2 f g s HV.out _ HI.out HJ.out).mono ?_
      rintro e w9 ⟨rfl, hb2⟩
      replace HI := Lib.hid (HI.out.next hb2)
      replace HJ := Lib.hid (HJ.out.next hb2)
      replace HB := Lib.hid (below_onto HB.out hb2)
      clear hb2
      go_wp2_with fail
      refine (CommonIn_b _ _ m2 c2 m c g f s HS.out hc.2 hc.1 _ HJ.out HI.out).mono ?_
      rintro e w9 ⟨rfl, hb2⟩
      replace HI := Lib.hid (HI.out.next hb2)
      replace HJ := Lib.hid (HJ.out.next hb2)
      replace HB := Lib.hid (below_onto HB.out hb2)
      clear hb2
      go_wp2_with fail
      refine (CommonIn_b _ _ m c m c f f m HF.out hc.1 hc.1 _ HI.out HI.out).mono ?_
      rintro e w9 ⟨rfl, hb2⟩
      replace HI := Lib.hid (HI.out.next hb2)
      replace HJ := Lib.hid (HJ.out.next hb2)
      replace HB := Lib.hid (below_onto HB.out hb2)
      clear hb2
      go_wp2_with fail
      go_ret
      exact ⟨rfl, HB.out⟩


end Go.Proofs.Ytibjdmmcnhlgnaa
