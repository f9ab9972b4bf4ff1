import Derived.Test.YtbhdeidnifilfaaDoorLawJ
import Derived.Test.YtbhdeidnifilfaaDoorSumsN
namespace Go.Proofs.YtbhdeidnifilfaaDoor
open Go.RowKit

theorem leastG_uniq {n : Nat} {f : Nat → Int} (hP : WorldP n f) {x : Int} {a b : Nat} (ha : a < n) (hb : b < n) (h1 : leastG n f x a = true) (h2 : leastG n f x b = true) : a = b := by
  have h7 := hP.hi
  unfold leastG at h1 h2
  rw [Bool.and_eq_true, within_iff] at h1 h2
  have e1 := h1.2 b (by omega) h2.1
  have e2 := h2.2 a (by omega) h1.1
  rw [wholesS_bit (by omega), Bool.and_eq_true] at e1 e2
  exact anti_eq hP ha hb e2.2 e1.2

theorem least_at {n : Nat} {f : Nat → Int} (hP : WorldP n f) {s : Int} (hs : setB n f s = true) {k : Nat} (hk : k < n) (h1 : leastG n f (boundsI n f s) k = true) : leastN n f s = k ∧ leastOk n f s = true := by
  refine least_found hs hk (decide_eq_true (fun a ha => ?_)) h1
  cases e : leastG n f (boundsI n f s) a with
  | false => rfl
  | true => have := leastG_uniq hP (by omega) hk e h1; omega

theorem set_self {n : Nat} {f : Nat → Int} (h64 : ∀ i, i < n → I64 (f i)) (hw : worldB n f = true) {b : Nat} (hb : b < n) : setB n f (f b) = true := by
  have hP := (worldB_iff n f h64).1 hw
  have hr := hP.rng b hb
  have hne : f b ≠ 0 := by intro e; have := hP.self b hb; rw [e, hasB_zero] at this; cases this
  exact setB_iff.2 ⟨hw, by omega, by omega⟩

/-- of a whole and its parts it is the whole -/
theorem least_self {n : Nat} {f : Nat → Int} (h64 : ∀ i, i < n → I64 (f i)) (hw : worldB n f = true) {b : Nat} (hb : b < n) : leastN n f (f b) = b ∧ leastOk n f (f b) = true := by
  have hP := (worldB_iff n f h64).1 hw
  have h7 := hP.hi
  refine least_at hP (set_self h64 hw hb) hb ?_
  unfold leastG
  rw [Bool.and_eq_true, bounds_bit hb h7, within_iff, within_iff]
  refine ⟨fun _ _ h => h, fun i hi h => ?_⟩
  unfold boundsI at h
  rw [setOf_bit _ _ _ hi, Bool.and_eq_true, decide_eq_true_eq] at h
  rw [wholesS_bit hi, decide_eq_true h.1, Bool.true_and]
  exact (within_iff _ _).1 h.2 b (by omega) (hP.self b hb)

/-- in a strong world a sum is the least bound, and the one sum -/
theorem least_sum {n : Nat} {f : Nat → Int} (h64 : ∀ i, i < n → I64 (f i)) (hst : strongB n f = true) {s : Int} (hs : setB n f s = true) (h0 : sumsI n f s ≠ 0) : ∃ A : Nat, A < n ∧ leastN n f s = A ∧ leastOk n f s = true ∧ sumsI n f s = 2 ^ A := by
  obtain ⟨hP, _⟩ := (strong_iff h64).1 hst
  have h7 := hP.hi
  obtain ⟨hw, hs1, hs2⟩ := setB_iff.1 hs
  obtain ⟨A, hA, hg⟩ : ∃ a, a < n ∧ sumG n f s a = true := by
    have h := sums_zero (n := n) (f := f) (s := s) h7
    rw [beq_eq_false_iff_ne.2 h0] at h
    cases e : hasSumB n f s with
    | false => rw [e] at h; cases h
    | true => unfold hasSumB at e; exact of_decide_eq_true e
  have hl : leastG n f (boundsI n f s) A = true := by
    unfold leastG
    rw [Bool.and_eq_true, bounds_bit hA h7, within_iff, within_iff]
    refine ⟨fun d _ hd => sum_part h64 hst hA (hasB_lt (by omega) hd) hg hd, fun i hi h => ?_⟩
    unfold boundsI at h
    rw [setOf_bit _ _ _ hi, Bool.and_eq_true, decide_eq_true_eq] at h
    rw [wholesS_bit hi, decide_eq_true h.1, Bool.true_and]
    exact sum_least h64 hst hA h.1 hg h.2
  obtain ⟨e1, e2⟩ := least_at hP hs hA hl
  have hp := pow_bounds A (by omega)
  refine ⟨A, hA, e1, e2, ext64 _ _ (setOf_I64 _ _) (by unfold I64; omega) (fun i hi => ?_)⟩
  unfold sumsI
  rw [setOf_bit _ _ _ hi, hasB_pow]
  by_cases e : A = i
  · subst e; rw [decide_eq_true hA, hg, decide_eq_true rfl]; rfl
  · rw [decide_eq_false e]
    by_cases hin : i < n
    · cases h : sumG n f s i with
      | false => simp
      | true => exact absurd (sum_one h64 hst hA hin hg h) e
    · rw [decide_eq_false hin]; rfl

theorem least_off {n : Nat} {f : Nat → Int} {s : Int} (h : leastOk n f s = false) : leastN n f s = -1 := by
  unfold leastN
  cases hg : setB n f s with
  | false => rfl
  | true =>
    unfold leastOk at h
    rw [hg, Bool.true_and, bne_eq_false_iff_eq] at h
    rw [if_pos rfl, h]; rfl

theorem Ints.cell {w : World} {b o n : Nat} {f : Nat → Int} (h : Ints w (some ⟨b, o, none⟩) n f) {k : Nat} (hk : k < n) : w.cell? ⟨b, o + k, none⟩ = some (.int .i64 (f k)) := by
  obtain ⟨b', o', e, _, hr⟩ := h.row (by omega)
  injection e with e
  injection e with e1 e2
  subst e1; subst e2
  exact hr k hk

set_option maxHeartbeats 8000000 in
theorem lawLeastBound (a : Option Addr) (n cap : Nat) (w : World) (h : BytesIn w a n cap) (hT : TabW w) :
    Calls Tryd.prog 3 #[.slice a n cap] w (TrueEnd w) := by
  have hlen := h.len
  have H := Lib.hid h; have HT := Lib.hid hT; clear h hT
  by_cases hn : 1048576 < n
  · go_enter Tryd.func3, Tryd.ntmps3
    go_wp2_with fail
    go_ret
    exact ⟨rfl, Below.refl _ _⟩
  · go_enter Tryd.func3, Tryd.ntmps3
    go_wp2_with fail
    refine (DrawLeastBound_any _ _ _ _ H.out).mono ?_
    rintro e w1 ⟨d, m, c, f, x, rfl, hm, hx64, hi, hb1⟩
    have h64 := Lib.hid hi.i64
    obtain ⟨hx1, hx2⟩ := hx64
    have HX := Lib.hid (show I64 x from ⟨hx1, hx2⟩)
    cases hg : setB m f x with
    | false =>
      have HR := Lib.hid (show leastOk m f x = false by unfold leastOk; rw [hg]; rfl)
      have HN := Lib.hid (least_off HR.out)
      have HV := Lib.hid (show boundsB m f x = -1 by unfold boundsB; rw [if_neg (by rw [hg]; decide)])
      clear hg
      cases hw : worldB m f with
      | false =>
        have HW := Lib.hid hw; clear hw
        go_wp2_with fail
        refine (LeastBound_val _ _ _ f x (-1) false HX.out _ HN.out HR.out hi (HT.out.below hb1)).mono ?_
        rintro e w9 ⟨rfl, hb2⟩
        replace hi := hi.next hb2; replace hb1 := below_onto hb1 hb2; clear hb2
        go_wp2_with fail
        refine (specLeastBound_val _ _ _ f x (-1) false _ HN.out HR.out hi).mono ?_
        rintro e w9 ⟨rfl, hd3⟩
        replace hi := hi.drew hd3; replace hb1 := below_onto hb1 hd3.below; clear hd3
        go_wp2_with fail
        refine (specWorldOk_val _ _ _ f false _ HW.out hi).mono ?_
        rintro e w9 ⟨rfl, hd3⟩
        replace hi := hi.drew hd3; replace hb1 := below_onto hb1 hd3.below; clear hd3
        go_wp2_with fail
        refine (alive_any _).mono ?_
        rintro e w9 ⟨rfl, hb2⟩
        replace hb1 := below_onto hb1 hb2; clear hb2
        go_wp2_with fail
        go_ret
        exact ⟨rfl, hb1⟩
      | true =>
        have HW := Lib.hid hw; clear hw
        go_wp2_with fail
        refine (LeastBound_val _ _ _ f x (-1) false HX.out _ HN.out HR.out hi (HT.out.below hb1)).mono ?_
        rintro e w9 ⟨rfl, hb2⟩
        replace hi := hi.next hb2; replace hb1 := below_onto hb1 hb2; clear hb2
        go_wp2_with fail
        refine (specLeastBound_val _ _ _ f x (-1) false _ HN.out HR.out hi).mono ?_
        rintro e w9 ⟨rfl, hd3⟩
        replace hi := hi.drew hd3; replace hb1 := below_onto hb1 hd3.below; clear hd3
        go_wp2_with fail
        refine (specWorldOk_val _ _ _ f true _ HW.out hi).mono ?_
        rintro e w9 ⟨rfl, hd3⟩
        replace hi := hi.drew hd3; replace hb1 := below_onto hb1 hd3.below; clear hd3
        go_wp2_with fail
        refine (specBounds_at _ _ _ f x (-1) _ HV.out hi).mono ?_
        rintro e w9 ⟨rfl, hd3⟩
        replace hi := hi.drew hd3; replace hb1 := below_onto hb1 hd3.below; clear hd3
        go_wp2_with fail
        refine (alive_any _).mono ?_
        rintro e w9 ⟨rfl, hb2⟩
        replace hb1 := below_onto hb1 hb2; clear hb2
        go_wp2_with fail
        go_ret
        exact ⟨rfl, hb1⟩
    | true =>
      obtain ⟨hwb, hs1, hs2⟩ := setB_iff.1 hg
      obtain ⟨h1m, h7⟩ := worldB_7 hwb
      obtain ⟨b0, o0, rfl, hlt0, hr0⟩ := hi.row h1m
      clear hr0
      obtain ⟨B, hB⟩ : ∃ B, B = boundsI m f x := ⟨_, rfl⟩
      have HV := Lib.hid (show boundsB m f x = B by unfold boundsB; rw [if_pos hg, hB])
      have hB0 : ¬ B < 0 := by have := bounds_rng m f x h7; rw [← hB] at this; omega
      obtain ⟨S, hS⟩ : ∃ S, sumsI m f x = S := ⟨_, rfl⟩
      have HS := Lib.hid (show sumsB m f x = S by unfold sumsB; rw [if_pos hg, hS])
      have hS0 : 0 ≤ S := by have := sums_rng m f x h7; rw [hS] at this; omega
      have HW := Lib.hid hwb; have HG := Lib.hid hg; have HSS := Lib.hid hS; clear hB hwb hg hs1 hs2 hS
      cases hst : strongB m f with
      | false =>
        have HST := Lib.hid hst; clear hst
        cases hv : leastOk m f x with
        | false =>
          have HR := Lib.hid hv; have HN := Lib.hid (least_off hv); clear hv
          go_wp2_with fail
          refine (LeastBound_val _ _ _ f x (-1) false HX.out _ HN.out HR.out hi (HT.out.below hb1)).mono ?_
          rintro e w9 ⟨rfl, hb2⟩
          replace hi := hi.next hb2; replace hb1 := below_onto hb1 hb2; clear hb2
          go_wp2_with fail
          refine (specLeastBound_val _ _ _ f x (-1) false _ HN.out HR.out hi).mono ?_
          rintro e w9 ⟨rfl, hd3⟩
          replace hi := hi.drew hd3; replace hb1 := below_onto hb1 hd3.below; clear hd3
          go_wp2_with fail
          refine (specWorldOk_val _ _ _ f true _ HW.out hi).mono ?_
          rintro e w9 ⟨rfl, hd3⟩
          replace hi := hi.drew hd3; replace hb1 := below_onto hb1 hd3.below; clear hd3
          go_wp2_with fail
          refine (specBounds_at _ _ _ f x B _ HV.out hi).mono ?_
          rintro e w9 ⟨rfl, hd3⟩
          replace hi := hi.drew hd3; replace hb1 := below_onto hb1 hd3.below; clear hd3
          go_wp2_with fail
          refine (SumsOf_val _ _ _ f x S HX.out _ HS.out hi).mono ?_
          rintro e w9 ⟨rfl, hb2⟩
          replace hi := hi.next hb2; replace hb1 := below_onto hb1 hb2; clear hb2
          go_wp2_with fail
          refine (StrongOk_val _ _ _ f false _ HST.out hi).mono ?_
          rintro e w9 ⟨rfl, hb2⟩
          replace hi := hi.next hb2; replace hb1 := below_onto hb1 hb2; clear hb2
          go_wp2_with fail
          go_loopw [10] (fun i wr => ∃ k : Nat, k ≤ m ∧ i = .int .i64 k ∧ Ints wr (some ⟨b0, o0, none⟩) m f ∧ Below w.heap.size w wr) (fun i _ => m - (intOf i).toNat)
          case atStart => exact ⟨0, Nat.zero_le _, rfl, hi, hb1⟩
          case round =>
            clear hi hb1
            obtain ⟨k, hk, rfl, hi, hb1⟩ := hrel
            by_cases hlt : k < m
            · have hki : (k : Int) < (m : Int) := by omega
              have hc := hi.cell hlt
              have HLS := Lib.hid (least_self h64.out HW.out hlt)
              have hkk : ((k : Int) != (k : Int)) = false := by simp
              go_wp2_with fail
              refine (LeastBound_val _ _ _ f (f k) k true (h64.out k hlt) _ HLS.out.1 HLS.out.2 hi (HT.out.below hb1)).mono ?_
              rintro e w9 ⟨rfl, hb2⟩
              replace hi := hi.next hb2; replace hb1 := below_onto hb1 hb2; clear hb2 hc
              go_wp2_with fail
              go_roundw
              case rel => exact ⟨k + 1, by omega, by go_num, hi, hb1⟩
              case measure => simp [intOf]; omega
            · go_wp2_with fail
              go_ret
              exact ⟨rfl, hb1⟩
        | true =>
          obtain ⟨i0, hi0⟩ : ∃ i0, leastN m f x = i0 := ⟨_, rfl⟩
          have HR := Lib.hid hv; have HN := Lib.hid hi0; clear hv hi0
          have hne : (i0 != i0) = false := by simp
          go_wp2_with fail
          refine (LeastBound_val _ _ _ f x (i0) true HX.out _ HN.out HR.out hi (HT.out.below hb1)).mono ?_
          rintro e w9 ⟨rfl, hb2⟩
          replace hi := hi.next hb2; replace hb1 := below_onto hb1 hb2; clear hb2
          go_wp2_with fail
          refine (specLeastBound_val _ _ _ f x (i0) true _ HN.out HR.out hi).mono ?_
          rintro e w9 ⟨rfl, hd3⟩
          replace hi := hi.drew hd3; replace hb1 := below_onto hb1 hd3.below; clear hd3
          go_wp2_with fail
          refine (specWorldOk_val _ _ _ f true _ HW.out hi).mono ?_
          rintro e w9 ⟨rfl, hd3⟩
          replace hi := hi.drew hd3; replace hb1 := below_onto hb1 hd3.below; clear hd3
          go_wp2_with fail
          refine (specBounds_at _ _ _ f x B _ HV.out hi).mono ?_
          rintro e w9 ⟨rfl, hd3⟩
          replace hi := hi.drew hd3; replace hb1 := below_onto hb1 hd3.below; clear hd3
          go_wp2_with fail
          refine (SumsOf_val _ _ _ f x S HX.out _ HS.out hi).mono ?_
          rintro e w9 ⟨rfl, hb2⟩
          replace hi := hi.next hb2; replace hb1 := below_onto hb1 hb2; clear hb2
          go_wp2_with fail
          refine (StrongOk_val _ _ _ f false _ HST.out hi).mono ?_
          rintro e w9 ⟨rfl, hb2⟩
          replace hi := hi.next hb2; replace hb1 := below_onto hb1 hb2; clear hb2
          go_wp2_with fail
          go_loopw [10] (fun i wr => ∃ k : Nat, k ≤ m ∧ i = .int .i64 k ∧ Ints wr (some ⟨b0, o0, none⟩) m f ∧ Below w.heap.size w wr) (fun i _ => m - (intOf i).toNat)
          case atStart => exact ⟨0, Nat.zero_le _, rfl, hi, hb1⟩
          case round =>
            clear hi hb1
            obtain ⟨k, hk, rfl, hi, hb1⟩ := hrel
            by_cases hlt : k < m
            · have hki : (k : Int) < (m : Int) := by omega
              have hc := hi.cell hlt
              have HLS := Lib.hid (least_self h64.out HW.out hlt)
              have hkk : ((k : Int) != (k : Int)) = false := by simp
              go_wp2_with fail
              refine (LeastBound_val _ _ _ f (f k) k true (h64.out k hlt) _ HLS.out.1 HLS.out.2 hi (HT.out.below hb1)).mono ?_
              rintro e w9 ⟨rfl, hb2⟩
              replace hi := hi.next hb2; replace hb1 := below_onto hb1 hb2; clear hb2 hc
              go_wp2_with fail
              go_roundw
              case rel => exact ⟨k + 1, by omega, by go_num, hi, hb1⟩
              case measure => simp [intOf]; omega
            · go_wp2_with fail
              go_ret
              exact ⟨rfl, hb1⟩
      | true =>
        have HST := Lib.hid hst; clear hst
        by_cases hz : S = 0
        · subst hz
          cases hv : leastOk m f x with
          | false =>
            have HR := Lib.hid hv; have HN := Lib.hid (least_off hv); clear hv
            go_wp2_with fail
            refine (LeastBound_val _ _ _ f x (-1) false HX.out _ HN.out HR.out hi (HT.out.below hb1)).mono ?_
            rintro e w9 ⟨rfl, hb2⟩
            replace hi := hi.next hb2; replace hb1 := below_onto hb1 hb2; clear hb2
            go_wp2_with fail
            refine (specLeastBound_val _ _ _ f x (-1) false _ HN.out HR.out hi).mono ?_
            rintro e w9 ⟨rfl, hd3⟩
            replace hi := hi.drew hd3; replace hb1 := below_onto hb1 hd3.below; clear hd3
            go_wp2_with fail
            refine (specWorldOk_val _ _ _ f true _ HW.out hi).mono ?_
            rintro e w9 ⟨rfl, hd3⟩
            replace hi := hi.drew hd3; replace hb1 := below_onto hb1 hd3.below; clear hd3
            go_wp2_with fail
            refine (specBounds_at _ _ _ f x B _ HV.out hi).mono ?_
            rintro e w9 ⟨rfl, hd3⟩
            replace hi := hi.drew hd3; replace hb1 := below_onto hb1 hd3.below; clear hd3
            go_wp2_with fail
            refine (SumsOf_val _ _ _ f x 0 HX.out _ HS.out hi).mono ?_
            rintro e w9 ⟨rfl, hb2⟩
            replace hi := hi.next hb2; replace hb1 := below_onto hb1 hb2; clear hb2
            go_wp2_with fail
            refine (StrongOk_val _ _ _ f true _ HST.out hi).mono ?_
            rintro e w9 ⟨rfl, hb2⟩
            replace hi := hi.next hb2; replace hb1 := below_onto hb1 hb2; clear hb2
            go_wp2_with fail
            go_loopw [10] (fun i wr => ∃ k : Nat, k ≤ m ∧ i = .int .i64 k ∧ Ints wr (some ⟨b0, o0, none⟩) m f ∧ Below w.heap.size w wr) (fun i _ => m - (intOf i).toNat)
            case atStart => exact ⟨0, Nat.zero_le _, rfl, hi, hb1⟩
            case round =>
              clear hi hb1
              obtain ⟨k, hk, rfl, hi, hb1⟩ := hrel
              by_cases hlt : k < m
              · have hki : (k : Int) < (m : Int) := by omega
                have hc := hi.cell hlt
                have HLS := Lib.hid (least_self h64.out HW.out hlt)
                have hkk : ((k : Int) != (k : Int)) = false := by simp
                go_wp2_with fail
                refine (LeastBound_val _ _ _ f (f k) k true (h64.out k hlt) _ HLS.out.1 HLS.out.2 hi (HT.out.below hb1)).mono ?_
                rintro e w9 ⟨rfl, hb2⟩
                replace hi := hi.next hb2; replace hb1 := below_onto hb1 hb2; clear hb2 hc
                go_wp2_with fail
                go_roundw
                case rel => exact ⟨k + 1, by omega, by go_num, hi, hb1⟩
                case measure => simp [intOf]; omega
              · go_wp2_with fail
                go_ret
                exact ⟨rfl, hb1⟩
          | true =>
            obtain ⟨i0, hi0⟩ : ∃ i0, leastN m f x = i0 := ⟨_, rfl⟩
            have HR := Lib.hid hv; have HN := Lib.hid hi0; clear hv hi0
            have hne : (i0 != i0) = false := by simp
            go_wp2_with fail
            refine (LeastBound_val _ _ _ f x (i0) true HX.out _ HN.out HR.out hi (HT.out.below hb1)).mono ?_
            rintro e w9 ⟨rfl, hb2⟩
            replace hi := hi.next hb2; replace hb1 := below_onto hb1 hb2; clear hb2
            go_wp2_with fail
            refine (specLeastBound_val _ _ _ f x (i0) true _ HN.out HR.out hi).mono ?_
            rintro e w9 ⟨rfl, hd3⟩
            replace hi := hi.drew hd3; replace hb1 := below_onto hb1 hd3.below; clear hd3
            go_wp2_with fail
            refine (specWorldOk_val _ _ _ f true _ HW.out hi).mono ?_
            rintro e w9 ⟨rfl, hd3⟩
            replace hi := hi.drew hd3; replace hb1 := below_onto hb1 hd3.below; clear hd3
            go_wp2_with fail
            refine (specBounds_at _ _ _ f x B _ HV.out hi).mono ?_
            rintro e w9 ⟨rfl, hd3⟩
            replace hi := hi.drew hd3; replace hb1 := below_onto hb1 hd3.below; clear hd3
            go_wp2_with fail
            refine (SumsOf_val _ _ _ f x 0 HX.out _ HS.out hi).mono ?_
            rintro e w9 ⟨rfl, hb2⟩
            replace hi := hi.next hb2; replace hb1 := below_onto hb1 hb2; clear hb2
            go_wp2_with fail
            refine (StrongOk_val _ _ _ f true _ HST.out hi).mono ?_
            rintro e w9 ⟨rfl, hb2⟩
            replace hi := hi.next hb2; replace hb1 := below_onto hb1 hb2; clear hb2
            go_wp2_with fail
            go_loopw [10] (fun i wr => ∃ k : Nat, k ≤ m ∧ i = .int .i64 k ∧ Ints wr (some ⟨b0, o0, none⟩) m f ∧ Below w.heap.size w wr) (fun i _ => m - (intOf i).toNat)
            case atStart => exact ⟨0, Nat.zero_le _, rfl, hi, hb1⟩
            case round =>
              clear hi hb1
              obtain ⟨k, hk, rfl, hi, hb1⟩ := hrel
              by_cases hlt : k < m
              · have hki : (k : Int) < (m : Int) := by omega
                have hc := hi.cell hlt
                have HLS := Lib.hid (least_self h64.out HW.out hlt)
                have hkk : ((k : Int) != (k : Int)) = false := by simp
                go_wp2_with fail
                refine (LeastBound_val _ _ _ f (f k) k true (h64.out k hlt) _ HLS.out.1 HLS.out.2 hi (HT.out.below hb1)).mono ?_
                rintro e w9 ⟨rfl, hb2⟩
                replace hi := hi.next hb2; replace hb1 := below_onto hb1 hb2; clear hb2 hc
                go_wp2_with fail
                go_roundw
                case rel => exact ⟨k + 1, by omega, by go_num, hi, hb1⟩
                case measure => simp [intOf]; omega
              · go_wp2_with fail
                go_ret
                exact ⟨rfl, hb1⟩
        · obtain ⟨A, hA, e1, e2, e3⟩ := least_sum h64.out HST.out HG.out (by rw [HSS.out]; exact hz)
          have HN := Lib.hid e1; have HR := Lib.hid e2
          have hSA : S = 2 ^ A := HSS.out.symm.trans e3
          have hpos : 0 < S := by omega
          have ⟨hp1, hp2⟩ := pow_bounds A (by omega)
          have hne : ((A : Int) != (A : Int)) = false := by simp
          have hn2 : (S != 2 ^ A) = false := by rw [hSA]; simp
          clear e1 e2 e3 hSA hz
          go_wp2_with fail
          refine (LeastBound_val _ _ _ f x (A) true HX.out _ HN.out HR.out hi (HT.out.below hb1)).mono ?_
          rintro e w9 ⟨rfl, hb2⟩
          replace hi := hi.next hb2; replace hb1 := below_onto hb1 hb2; clear hb2
          go_wp2_with fail
          refine (specLeastBound_val _ _ _ f x (A) true _ HN.out HR.out hi).mono ?_
          rintro e w9 ⟨rfl, hd3⟩
          replace hi := hi.drew hd3; replace hb1 := below_onto hb1 hd3.below; clear hd3
          go_wp2_with fail
          refine (specWorldOk_val _ _ _ f true _ HW.out hi).mono ?_
          rintro e w9 ⟨rfl, hd3⟩
          replace hi := hi.drew hd3; replace hb1 := below_onto hb1 hd3.below; clear hd3
          go_wp2_with fail
          refine (specBounds_at _ _ _ f x B _ HV.out hi).mono ?_
          rintro e w9 ⟨rfl, hd3⟩
          replace hi := hi.drew hd3; replace hb1 := below_onto hb1 hd3.below; clear hd3
          go_wp2_with fail
          refine (SumsOf_val _ _ _ f x S HX.out _ HS.out hi).mono ?_
          rintro e w9 ⟨rfl, hb2⟩
          replace hi := hi.next hb2; replace hb1 := below_onto hb1 hb2; clear hb2
          go_wp2_with fail
          refine (StrongOk_val _ _ _ f true _ HST.out hi).mono ?_
          rintro e w9 ⟨rfl, hb2⟩
          replace hi := hi.next hb2; replace hb1 := below_onto hb1 hb2; clear hb2
          go_wp2_with fail
          go_loopw [10] (fun i wr => ∃ k : Nat, k ≤ m ∧ i = .int .i64 k ∧ Ints wr (some ⟨b0, o0, none⟩) m f ∧ Below w.heap.size w wr) (fun i _ => m - (intOf i).toNat)
          case atStart => exact ⟨0, Nat.zero_le _, rfl, hi, hb1⟩
          case round =>
            clear hi hb1
            obtain ⟨k, hk, rfl, hi, hb1⟩ := hrel
            by_cases hlt : k < m
            · have hki : (k : Int) < (m : Int) := by omega
              have hc := hi.cell hlt
              have HLS := Lib.hid (least_self h64.out HW.out hlt)
              have hkk : ((k : Int) != (k : Int)) = false := by simp
              go_wp2_with fail
              refine (LeastBound_val _ _ _ f (f k) k true (h64.out k hlt) _ HLS.out.1 HLS.out.2 hi (HT.out.below hb1)).mono ?_
              rintro e w9 ⟨rfl, hb2⟩
              replace hi := hi.next hb2; replace hb1 := below_onto hb1 hb2; clear hb2 hc
              go_wp2_with fail
              go_roundw
              case rel => exact ⟨k + 1, by omega, by go_num, hi, hb1⟩
              case measure => simp [intOf]; omega
            · go_wp2_with fail
              go_ret
              exact ⟨rfl, hb1⟩
end Go.Proofs.YtbhdeidnifilfaaDoor
