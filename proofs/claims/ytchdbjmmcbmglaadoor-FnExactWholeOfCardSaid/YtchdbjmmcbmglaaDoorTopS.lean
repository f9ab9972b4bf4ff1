import Derived.Test.YtchdbjmmcbmglaaDoorTopA
namespace Go.Proofs.YtchdbjmmcbmglaaDoor
open Go.RowKit

theorem top_found {n : Nat} {f : Nat → Int} {s : Int} (h7 : n ≤ 7) {k : Nat} (hk : k < n) (h0 : noneG (topG f s) k = true) (h1 : topG f s k = true) : firstI (topI n f s) = k ∧ (topI n f s != 0) = true := firstI_found h7 hk h0 h1
theorem top_none {n : Nat} {f : Nat → Int} {s : Int} (h0 : noneG (topG f s) n = true) : firstI (topI n f s) = -1 ∧ (topI n f s != 0) = false := by
  have e : topI n f s = 0 := setOf_none h0
  rw [e]; exact ⟨rfl, rfl⟩

theorem part_self_at {n : Nat} {f : Nat → Int} {w : World} {a : Option Addr} (hi : Ints w a n f) {X : Int} {v : Bool} (h : good1 n f X = v) : partB n f X X = v := by rw [partB_self n f X hi.i64]; exact h
theorem good2_split (n : Nat) (f : Nat → Int) (x y : Int) : good2 n f x y = (good1 n f x && good1 n f y) := by
  rw [Bool.eq_iff_iff, Bool.and_eq_true, good2_iff, good1_iff, good1_iff]
  exact ⟨fun ⟨h1, h2, h3⟩ => ⟨⟨h1, h2⟩, h1, h3⟩, fun ⟨⟨h1, h2⟩, _, h3⟩ => ⟨h1, h2, h3⟩⟩

set_option maxRecDepth 100000 in
set_option maxHeartbeats 3200000 in
theorem l5Top_any (b o n cap : Nat) (f : Nat → Int) (s : Int) (hs : 0 ≤ s) (h7 : n ≤ 7) (w : World) (h64 : ∀ i, i < n → I64 (f i)) (hr : Row w b o n f) :
    Calls Tryd.prog 36 #[.slice (some ⟨b, o, none⟩) n cap, .int .i64 s] w (TwoDrew (firstI (topI n f s)) (topI n f s != 0) w) := by
  have HR := Lib.hid hr; have H64 := Lib.hid h64; clear hr h64
  go_enter Tryd.func36, Tryd.ntmps36
  go_wp2_with fail
  go_loopw [6] (fun i wr => ∃ k : Nat, k ≤ n ∧ i = .int .i64 k ∧ Hid (noneG (topG f s) k = true) ∧ Drew w wr) (fun i _ => n - (intOf i).toNat)
  case atStart => exact ⟨0, Nat.zero_le _, rfl, Lib.hid (noneG_zero _), Drew.refl _⟩
  case round =>
    obtain ⟨k, hk, rfl, hno, hd⟩ := hrel
    by_cases hlt : k < n
    · have hki : (k : Int) < (n : Int) := by omega
      have ck := row_drew HR.out hd k hlt
      have ho := or_eq_within (f k) s (H64.out k hlt)
      cases hb : hasB s k with
      | false =>
        have HS := Lib.hid (noneG_step hno.out (show topG f s k = false by unfold topG; rw [hb]; rfl))
        have HH := Lib.hid hb; clear hb ho
        go_wp2_with fail
        go_quiet ((go_at_call 45; exact quiet_left (l1Has_val _ _ false _ HH.out (by omega) hs)))
        go_wp2_with fail
        go_roundw
        case rel => exact ⟨k + 1, by omega, by go_num, HS, hd.more _⟩
        case measure => simp [intOf]; omega
      | true =>
        cases hw : withinB s (f k) with
        | true =>
          have HF := Lib.hid (top_found h7 hlt hno.out (show topG f s k = true by unfold topG; rw [hb, hw]; rfl))
          have HH := Lib.hid hb; rw [hw] at ho; clear hb hw
          go_wp2_with fail
          go_quiet ((go_at_call 45; exact quiet_left (l1Has_val _ _ true _ HH.out (by omega) hs)))
          go_wp2_with fail
          go_ret2
          exact ⟨by rw [HF.out.1, HF.out.2]; rfl, hd.more _⟩
        | false =>
          have HS := Lib.hid (noneG_step hno.out (show topG f s k = false by unfold topG; rw [hw]; simp))
          have HH := Lib.hid hb; rw [hw] at ho; clear hb hw
          go_wp2_with fail
          go_quiet ((go_at_call 45; exact quiet_left (l1Has_val _ _ true _ HH.out (by omega) hs)))
          go_wp2_with fail
          clear ho
          go_roundw
          case rel => exact ⟨k + 1, by omega, by go_num, HS, hd.more _⟩
          case measure => simp [intOf]; omega
    · have hkn : k = n := by omega
      subst hkn
      have HF := Lib.hid (top_none hno.out)
      go_wp2_with fail
      go_ret2
      exact ⟨by rw [HF.out.1, HF.out.2]; rfl, hd⟩

theorem l5Top_val (b o n cap : Nat) (f : Nat → Int) (s : Int) (i : Int) (v : Bool) (hs : 0 ≤ s) (h7 : n ≤ 7) (w : World) (h64 : ∀ i, i < n → I64 (f i)) (h1 : firstI (topI n f s) = i) (h2 : (topI n f s != 0) = v) (hr : Row w b o n f) :
    Calls Tryd.prog 36 #[.slice (some ⟨b, o, none⟩) n cap, .int .i64 s] w (TwoDrew i v w) := by
  subst h1; subst h2; exact l5Top_any b o n cap f s hs h7 w h64 hr

set_option maxRecDepth 100000 in
set_option maxHeartbeats 3200000 in
theorem specCommonOf_in (b o n cap : Nat) (f : Nat → Int) (X Y : Nat) (hw : worldB n f = true) (hX : X < n) (hY : Y < n) (w : World) (hi : Ints w (some ⟨b, o, none⟩) n f) (hr : Row w b o n f) :
    Calls Tryd.prog 13 #[.slice (some ⟨b, o, none⟩) n cap, .int .i64 X, .int .i64 Y] w (TwoDrew (commonN n f X Y) (commonOk n f X Y) w) := by
  have h7 := (worldB_7 hw).2
  have hP := world_of hi hw
  have hg : good2 n f X Y = true := (good2_iff n f X Y).2 ⟨hw, ⟨by omega, by omega⟩, by omega, by omega⟩
  have HPX := Lib.hid (part_self_at hi (X := X) ((good1_iff n f X).2 ⟨hw, by omega, by omega⟩))
  have HPY := Lib.hid (part_self_at hi (X := Y) ((good1_iff n f Y).2 ⟨hw, by omega, by omega⟩))
  have HF1 := Lib.hid (show commonN n f X Y = firstI (topI n f (commonS n f X Y)) by unfold commonN ansN; rw [if_pos hg, Int.toNat_natCast, Int.toNat_natCast])
  have HF2 := Lib.hid (show commonOk n f X Y = (topI n f (commonS n f X Y) != 0) by unfold commonOk ansOk; rw [hg, Int.toNat_natCast, Int.toNat_natCast, Bool.true_and])
  have hs0 : 0 ≤ commonS n f X Y := (setOf_rng _ n (by omega)).1
  have HP := Lib.hid hP; have HN := Lib.hid hi; have HR := Lib.hid hr; have H64 := Lib.hid hi.i64; clear hw hP hg hi hr
  rw [HF1.out, HF2.out]
  have hand := common_and (b := Y) HP.out hX
  rw [hand] at hs0 ⊢
  clear hand
  go_enter Tryd.func13, Tryd.ntmps13
  go_wp2_with fail
  refine (specPartOk_val _ _ _ f X X true _ HPX.out HN.out).mono ?_
  rintro e w1 ⟨rfl, hd⟩
  go_wp2_with fail
  refine (specPartOk_val _ _ _ f Y Y true _ HPY.out (HN.out.drew hd)).mono ?_
  rintro e w2 ⟨rfl, hd2⟩
  replace hd := hd.onto hd2
  clear hd2
  have hXi : (X : Int) < (n : Int) := by omega
  have hYi : (Y : Int) < (n : Int) := by omega
  have hrr := row_drew HR.out hd
  have cX := hrr X hX
  have cY := hrr Y hY
  have HRR := Lib.hid hrr
  clear hrr
  go_wp2_with fail
  go_quiet ((go_at_call 36; exact quiet_drew (l5Top_any b o n _ f _ hs0 h7 _ H64.out (HRR.out.drewN _))))
  go_wp2_with fail
  go_ret2
  exact ⟨rfl, hd.more _⟩

set_option maxHeartbeats 1600000 in
theorem specCommonOf_any (a : Option Addr) (n cap : Nat) (f : Nat → Int) (x y : Int) (w : World) (hi : Ints w a n f) :
    Calls Tryd.prog 13 #[.slice a n cap, .int .i64 x, .int .i64 y] w (TwoDrew (commonN n f x y) (commonOk n f x y) w) := by
  by_cases hg : good2 n f x y = true
  · obtain ⟨hwb, ⟨hx0, hx1⟩, hy0, hy1⟩ := (good2_iff n f x y).1 hg
    obtain ⟨X, rfl⟩ := Int.eq_ofNat_of_zero_le hx0
    obtain ⟨Y, rfl⟩ := Int.eq_ofNat_of_zero_le hy0
    obtain ⟨b, o, rfl, hlt, hr⟩ := hi.row (worldB_7 hwb).1
    exact specCommonOf_in b o n cap f X Y hwb (by omega) (by omega) w hi hr
  · have hg' : good2 n f x y = false := by simpa using hg
    have HF1 := Lib.hid (show commonN n f x y = -1 by unfold commonN ansN; rw [if_neg hg])
    have HF2 := Lib.hid (show commonOk n f x y = false by unfold commonOk ansOk; rw [hg']; rfl)
    have hsp := hg'
    rw [good2_split] at hsp
    cases h1 : good1 n f x with
    | false =>
      have HPX := Lib.hid (part_self_at hi h1)
      have HN := Lib.hid hi; clear hi hg hg' hsp h1
      go_enter Tryd.func13, Tryd.ntmps13
      go_wp2_with fail
      refine (specPartOk_val _ _ _ f x x false _ HPX.out HN.out).mono ?_
      rintro e w1 ⟨rfl, hd⟩
      go_wp2_with fail
      go_ret2
      exact ⟨by rw [HF1.out, HF2.out]; rfl, hd⟩
    | true =>
      rw [h1, Bool.true_and] at hsp
      have HPX := Lib.hid (part_self_at hi h1)
      have HPY := Lib.hid (part_self_at hi hsp)
      have HN := Lib.hid hi; clear hi hg hg' hsp h1
      go_enter Tryd.func13, Tryd.ntmps13
      go_wp2_with fail
      refine (specPartOk_val _ _ _ f x x true _ HPX.out HN.out).mono ?_
      rintro e w1 ⟨rfl, hd⟩
      go_wp2_with fail
      refine (specPartOk_val _ _ _ f y y false _ HPY.out (HN.out.drew hd)).mono ?_
      rintro e w2 ⟨rfl, hd2⟩
      replace hd := hd.onto hd2
      clear hd2
      go_wp2_with fail
      go_ret2
      exact ⟨by rw [HF1.out, HF2.out]; rfl, hd⟩

theorem specCommonOf_val (a : Option Addr) (n cap : Nat) (f : Nat → Int) (x y : Int) (i : Int) (v : Bool) (w : World) (h1 : commonN n f x y = i) (h2 : commonOk n f x y = v) (hi : Ints w a n f) :
    Calls Tryd.prog 13 #[.slice a n cap, .int .i64 x, .int .i64 y] w (TwoDrew i v w) := by
  subst h1; subst h2; exact specCommonOf_any a n cap f x y w hi

set_option maxRecDepth 100000 in
set_option maxHeartbeats 3200000 in
theorem specLeftOf_in (b o n cap : Nat) (f : Nat → Int) (X Y : Nat) (hw : worldB n f = true) (hX : X < n) (hY : Y < n) (w : World) (hi : Ints w (some ⟨b, o, none⟩) n f) (hr : Row w b o n f) :
    Calls Tryd.prog 21 #[.slice (some ⟨b, o, none⟩) n cap, .int .i64 X, .int .i64 Y] w (TwoDrew (leftN n f X Y) (leftOk n f X Y) w) := by
  have h7 := (worldB_7 hw).2
  have hP := world_of hi hw
  have hg : good2 n f X Y = true := (good2_iff n f X Y).2 ⟨hw, ⟨by omega, by omega⟩, by omega, by omega⟩
  have HPX := Lib.hid (part_self_at hi (X := X) ((good1_iff n f X).2 ⟨hw, by omega, by omega⟩))
  have HPY := Lib.hid (part_self_at hi (X := Y) ((good1_iff n f Y).2 ⟨hw, by omega, by omega⟩))
  have HF1 := Lib.hid (show leftN n f X Y = firstI (topI n f (leftS n f X Y)) by unfold leftN ansN; rw [if_pos hg, Int.toNat_natCast, Int.toNat_natCast])
  have HF2 := Lib.hid (show leftOk n f X Y = (topI n f (leftS n f X Y) != 0) by unfold leftOk ansOk; rw [hg, Int.toNat_natCast, Int.toNat_natCast, Bool.true_and])
  have hs0 : 0 ≤ leftS n f X Y := (setOf_rng _ n (by omega)).1
  have HP := Lib.hid hP; have HN := Lib.hid hi; have HR := Lib.hid hr; have H64 := Lib.hid hi.i64; clear hw hP hg hi hr
  rw [HF1.out, HF2.out]
  go_enter Tryd.func21, Tryd.ntmps21
  go_wp2_with fail
  refine (specPartOk_val _ _ _ f X X true _ HPX.out HN.out).mono ?_
  rintro e w1 ⟨rfl, hd⟩
  go_wp2_with fail
  refine (specPartOk_val _ _ _ f Y Y true _ HPY.out (HN.out.drew hd)).mono ?_
  rintro e w2 ⟨rfl, hd2⟩
  replace hd := hd.onto hd2
  clear hd2
  have hXi : (X : Int) < (n : Int) := by omega
  have hYi : (Y : Int) < (n : Int) := by omega
  go_wp2_with fail
  go_loopw [8, 9] (fun v i wr => ∃ k : Nat, k ≤ n ∧ i = .int .i64 k ∧ v = .int .i64 (setOf (fun c => hasB (f X) c && !(andI (f c) (f Y) != 0)) k) ∧ Drew w wr) (fun _ i _ => n - (intOf i).toNat)
  case atStart => exact ⟨0, Nat.zero_le _, rfl, rfl, hd⟩
  case round =>
    clear hd
    obtain ⟨k, hk, rfl, rfl, hd⟩ := hrel
    by_cases hlt : k < n
    · have hki : (k : Int) < (n : Int) := by omega
      have ⟨hp1, hp2⟩ := pow_bounds k (by omega)
      have hrr := row_drew HR.out hd
      have cX := hrr X hX
      have cY := hrr Y hY
      have ck := hrr k hlt
      have hnn := (HP.out.rng X hX).1
      clear hrr
      cases hh : hasB (f X) k with
      | false =>
        have HS := Lib.hid (setOf_no (fun c => hasB (f X) c && !(andI (f c) (f Y) != 0)) k (by simp only [hh]; rfl))
        have HH := Lib.hid hh; clear hh
        go_wp2_with fail
        go_quiet ((go_at_call 45; exact quiet_left (l1Has_val _ _ false _ HH.out (by omega) hnn)))
        go_wp2_with fail
        go_roundw
        case rel => exact ⟨k + 1, by omega, by go_num, by rw [HS.out], hd.more _⟩
        case measure => simp [intOf]; omega
      | true =>
        cases hz : (andI (f k) (f Y) != 0) with
        | false =>
          have HS := Lib.hid (setOf_yes (fun c => hasB (f X) c && !(andI (f c) (f Y) != 0)) k (by simp only [hh, hz]; rfl))
          have hz2 : (bits .and .i64 (f k) (f Y) == 0) = true := (show (andI (f k) (f Y) == 0) = true by rw [bne] at hz; simpa using hz)
          have HH := Lib.hid hh; clear hh hz
          go_wp2_with fail
          go_quiet ((go_at_call 45; exact quiet_left (l1Has_val _ _ true _ HH.out (by omega) hnn)))
          go_wp2_with fail
          clear hz2
          go_roundw
          case rel => exact ⟨k + 1, by omega, by go_num, by rw [HS.out], hd.more _⟩
          case measure => simp [intOf]; omega
        | true =>
          have HS := Lib.hid (setOf_no (fun c => hasB (f X) c && !(andI (f c) (f Y) != 0)) k (by simp only [hh, hz]; rfl))
          have hz2 : (bits .and .i64 (f k) (f Y) == 0) = false := (show (andI (f k) (f Y) == 0) = false by rw [bne] at hz; simpa using hz)
          have HH := Lib.hid hh; clear hh hz
          go_wp2_with fail
          go_quiet ((go_at_call 45; exact quiet_left (l1Has_val _ _ true _ HH.out (by omega) hnn)))
          go_wp2_with fail
          clear hz2
          go_roundw
          case rel => exact ⟨k + 1, by omega, by go_num, by rw [HS.out], hd.more _⟩
          case measure => simp [intOf]; omega
    · have hkn : k = n := by omega
      subst hkn
      go_wp2_with fail
      refine (l5Top_any b o k _ f _ hs0 h7 _ H64.out (row_drew HR.out hd)).mono ?_
      rintro e w3 ⟨rfl, hd3⟩
      replace hd := hd.onto hd3
      clear hd3
      go_wp2_with fail
      go_ret2
      exact ⟨rfl, hd⟩

set_option maxHeartbeats 1600000 in
theorem specLeftOf_any (a : Option Addr) (n cap : Nat) (f : Nat → Int) (x y : Int) (w : World) (hi : Ints w a n f) :
    Calls Tryd.prog 21 #[.slice a n cap, .int .i64 x, .int .i64 y] w (TwoDrew (leftN n f x y) (leftOk n f x y) w) := by
  by_cases hg : good2 n f x y = true
  · obtain ⟨hwb, ⟨hx0, hx1⟩, hy0, hy1⟩ := (good2_iff n f x y).1 hg
    obtain ⟨X, rfl⟩ := Int.eq_ofNat_of_zero_le hx0
    obtain ⟨Y, rfl⟩ := Int.eq_ofNat_of_zero_le hy0
    obtain ⟨b, o, rfl, hlt, hr⟩ := hi.row (worldB_7 hwb).1
    exact specLeftOf_in b o n cap f X Y hwb (by omega) (by omega) w hi hr
  · have hg' : good2 n f x y = false := by simpa using hg
    have HF1 := Lib.hid (show leftN n f x y = -1 by unfold leftN ansN; rw [if_neg hg])
    have HF2 := Lib.hid (show leftOk n f x y = false by unfold leftOk ansOk; rw [hg']; rfl)
    have hsp := hg'
    rw [good2_split] at hsp
    cases h1 : good1 n f x with
    | false =>
      have HPX := Lib.hid (part_self_at hi h1)
      have HN := Lib.hid hi; clear hi hg hg' hsp h1
      go_enter Tryd.func21, Tryd.ntmps21
      go_wp2_with fail
      refine (specPartOk_val _ _ _ f x x false _ HPX.out HN.out).mono ?_
      rintro e w1 ⟨rfl, hd⟩
      go_wp2_with fail
      go_ret2
      exact ⟨by rw [HF1.out, HF2.out]; rfl, hd⟩
    | true =>
      rw [h1, Bool.true_and] at hsp
      have HPX := Lib.hid (part_self_at hi h1)
      have HPY := Lib.hid (part_self_at hi hsp)
      have HN := Lib.hid hi; clear hi hg hg' hsp h1
      go_enter Tryd.func21, Tryd.ntmps21
      go_wp2_with fail
      refine (specPartOk_val _ _ _ f x x true _ HPX.out HN.out).mono ?_
      rintro e w1 ⟨rfl, hd⟩
      go_wp2_with fail
      refine (specPartOk_val _ _ _ f y y false _ HPY.out (HN.out.drew hd)).mono ?_
      rintro e w2 ⟨rfl, hd2⟩
      replace hd := hd.onto hd2
      clear hd2
      go_wp2_with fail
      go_ret2
      exact ⟨by rw [HF1.out, HF2.out]; rfl, hd⟩

theorem specLeftOf_val (a : Option Addr) (n cap : Nat) (f : Nat → Int) (x y : Int) (i : Int) (v : Bool) (w : World) (h1 : leftN n f x y = i) (h2 : leftOk n f x y = v) (hi : Ints w a n f) :
    Calls Tryd.prog 21 #[.slice a n cap, .int .i64 x, .int .i64 y] w (TwoDrew i v w) := by
  subst h1; subst h2; exact specLeftOf_any a n cap f x y w hi

theorem specMeet_val (a : Option Addr) (n cap : Nat) (f : Nat → Int) (k : Nat) (v : Int) (w : World) (hw : worldB n f = true) (hk : k < n) (hv : meetI n f k = v) (hi : Ints w a n f) :
    Calls Tryd.prog 47 #[.slice a n cap, .int .i64 k] w fun e w' => e = .returned (.int .i64 v) ∧ Drew w w' := by
  subst hv; exact specMeet_at a n cap f k w hw hk hi

set_option maxRecDepth 100000 in
set_option maxHeartbeats 3200000 in
theorem specAgainstOf_any (a : Option Addr) (n cap : Nat) (f : Nat → Int) (x : Int) (w : World) (hi : Ints w a n f) :
    Calls Tryd.prog 24 #[.slice a n cap, .int .i64 x] w (TwoDrew (againstN n f x) (againstOk n f x) w) := by
  cases hg : good1 n f x with
  | true =>
    obtain ⟨hwb, hx0, hx1⟩ := (good1_iff n f x).1 hg
    obtain ⟨h1, h7⟩ := worldB_7 hwb
    obtain ⟨X, rfl⟩ := Int.eq_ofNat_of_zero_le hx0
    have hX : X < n := by omega
    obtain ⟨b, o, rfl, hlt, hr⟩ := hi.row h1
    have HF1 := Lib.hid (show againstN n f X = firstI (topI n f (againstS n f X)) by unfold againstN ansN; rw [if_pos hg, Int.toNat_natCast])
    have HF2 := Lib.hid (show againstOk n f X = (topI n f (againstS n f X) != 0) by unfold againstOk ansOk; rw [hg, Int.toNat_natCast, Bool.true_and])
    have HPX := Lib.hid (part_self_at hi hg)
    have hs0 : 0 ≤ againstS n f X := (setOf_rng _ n (by omega)).1
    have hsub := against_sub n f X h7
    obtain ⟨M, hM⟩ : ∃ M, meetI n f X = M := ⟨_, rfl⟩
    have hM0 : 0 ≤ M := by rw [← hM]; exact (setOf_rng _ n (by omega)).1
    have hM1 : M < 2 ^ n := by rw [← hM]; exact (setOf_rng _ n (by omega)).2
    have ⟨hp1, hp2⟩ := pow_bounds n h7
    rw [hM] at hsub
    have HM := Lib.hid hM; have HW := Lib.hid hwb; have HN := Lib.hid hi; have HR := Lib.hid hr; have H64 := Lib.hid hi.i64
    clear hg hwb hi hr hM hx0 hx1
    rw [HF1.out, HF2.out, hsub]
    rw [hsub] at hs0
    clear hsub
    go_enter Tryd.func24, Tryd.ntmps24
    go_wp2_with fail
    refine (specPartOk_val _ _ _ f X X true _ HPX.out HN.out).mono ?_
    rintro e w1 ⟨rfl, hd⟩
    have HN1 := Lib.hid (HN.out.drew hd); have HR1 := Lib.hid (row_drew HR.out hd)
    go_wp2_with fail
    go_quiet (first | (go_at_call 47; exact quiet_drew (specMeet_val _ n _ f X M _ HW.out hX HM.out (HN1.out.drewN _))) | (go_at_call 36; exact quiet_drew (l5Top_any b o n _ f _ hs0 h7 _ H64.out (HR1.out.drewN _))))
    go_wp2_with fail
    go_ret2
    exact ⟨rfl, hd.more _⟩
  | false =>
    have HF1 := Lib.hid (show againstN n f x = -1 by unfold againstN ansN; rw [if_neg (by rw [hg]; decide)])
    have HF2 := Lib.hid (show againstOk n f x = false by unfold againstOk ansOk; rw [hg]; rfl)
    have HPX := Lib.hid (part_self_at hi hg)
    have HN := Lib.hid hi; clear hi hg
    go_enter Tryd.func24, Tryd.ntmps24
    go_wp2_with fail
    refine (specPartOk_val _ _ _ f x x false _ HPX.out HN.out).mono ?_
    rintro e w1 ⟨rfl, hd⟩
    go_wp2_with fail
    go_ret2
    exact ⟨by rw [HF1.out, HF2.out]; rfl, hd⟩

theorem specAgainstOf_val (a : Option Addr) (n cap : Nat) (f : Nat → Int) (x : Int) (i : Int) (v : Bool) (w : World) (h1 : againstN n f x = i) (h2 : againstOk n f x = v) (hi : Ints w a n f) :
    Calls Tryd.prog 24 #[.slice a n cap, .int .i64 x] w (TwoDrew i v w) := by
  subst h1; subst h2; exact specAgainstOf_any a n cap f x w hi

set_option maxRecDepth 100000 in
set_option maxHeartbeats 3200000 in
theorem specWholeOf_any (a : Option Addr) (n cap : Nat) (f : Nat → Int) (w : World) (hi : Ints w a n f) :
    Calls Tryd.prog 27 #[.slice a n cap] w (TwoDrew (wholeN n f) (wholeOk n f) w) := by
  cases hg : worldB n f with
  | true =>
    obtain ⟨h1, h7⟩ := worldB_7 hg
    obtain ⟨b, o, rfl, hlt, hr⟩ := hi.row h1
    have hlow := whole_low n h7
    have HF1 := Lib.hid (show wholeN n f = firstI (topI n f (2 ^ n - 1)) by unfold wholeN ansN; rw [if_pos hg, hlow])
    have HF2 := Lib.hid (show wholeOk n f = (topI n f (2 ^ n - 1) != 0) by unfold wholeOk ansOk; rw [hg, hlow, Bool.true_and])
    have ⟨hp1, hp2⟩ := pow_bounds n h7
    have hs0 : (0 : Int) ≤ 2 ^ n - 1 := by omega
    have HW := Lib.hid hg; have HN := Lib.hid hi; have HR := Lib.hid hr; have H64 := Lib.hid hi.i64
    clear hg hi hr hlow
    rw [HF1.out, HF2.out]
    go_enter Tryd.func27, Tryd.ntmps27
    go_wp2_with fail
    refine (specWorldOk_val _ _ _ f true _ HW.out HN.out).mono ?_
    rintro e w1 ⟨rfl, hd⟩
    go_wp2_with fail
    refine (l5Top_any b o n _ f _ hs0 h7 _ H64.out (row_drew HR.out hd)).mono ?_
    rintro e w2 ⟨rfl, hd2⟩
    replace hd := hd.onto hd2
    clear hd2
    go_wp2_with fail
    go_ret2
    exact ⟨rfl, hd⟩
  | false =>
    have HF1 := Lib.hid (show wholeN n f = -1 by unfold wholeN ansN; rw [if_neg (by rw [hg]; decide)])
    have HF2 := Lib.hid (show wholeOk n f = false by unfold wholeOk ansOk; rw [hg]; rfl)
    have HW := Lib.hid hg; have HN := Lib.hid hi; clear hi hg
    go_enter Tryd.func27, Tryd.ntmps27
    go_wp2_with fail
    refine (specWorldOk_val _ _ _ f false _ HW.out HN.out).mono ?_
    rintro e w1 ⟨rfl, hd⟩
    go_wp2_with fail
    go_ret2
    exact ⟨by rw [HF1.out, HF2.out]; rfl, hd⟩

theorem specWholeOf_val (a : Option Addr) (n cap : Nat) (f : Nat → Int) (i : Int) (v : Bool) (w : World) (h1 : wholeN n f = i) (h2 : wholeOk n f = v) (hi : Ints w a n f) :
    Calls Tryd.prog 27 #[.slice a n cap] w (TwoDrew i v w) := by
  subst h1; subst h2; exact specWholeOf_any a n cap f w hi
end Go.Proofs.YtchdbjmmcbmglaaDoor
