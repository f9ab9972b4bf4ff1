import Derived.Test.YtchdbjmmcbmglaaDoorLawM
import Derived.Deep.RegionHeld3
namespace Go.Proofs.YtchdbjmmcbmglaaDoor
open Go.RowKit

theorem whole_on {n : Nat} {f : Nat → Int} (h64 : ∀ i, i < n → I64 (f i)) (h : wholeOk n f = true) : ∃ C : Nat, C < n ∧ wholeN n f = C ∧ ∀ d : Nat, d < n → partB n f d C = true := by
  obtain ⟨hw, C, hC, hN, hT⟩ := ans_on (fun hg => (worldB_iff n f h64).1 hg) h
  exact ⟨C, hC, hN, fun d hd => by rw [part_at2 hw hd hC]; exact (whole_top (worldB_7 hw).2 hC).1 hT d hd⟩
theorem whole_yes {n : Nat} {f : Nat → Int} (h64 : ∀ i, i < n → I64 (f i)) (hs : strongB n f = true) (hf : summedB n f = true) : wholeOk n f = true := by
  have hP := ((strong_iff h64).1 hs).1
  have hw : worldB n f = true := (worldB_iff n f h64).2 hP
  obtain ⟨s, hs1, hs2⟩ := whole_full h64 hs hf
  unfold wholeOk; rw [hw]; exact (ans_at hP hs1 hs2).2
theorem common_nat {n : Nat} {f : Nat → Int} (h64 : ∀ i, i < n → I64 (f i)) {k j : Nat} (h : commonOk n f k j = true) : ∃ P : Nat, P < n ∧ commonN n f k j = P ∧ topG f (commonS n f k j) P = true := by
  obtain ⟨_, C, hC, hN, hT⟩ := ans_on (fun hg => (worldB_iff n f h64).1 ((good2_iff n f k j).1 hg).1) h
  rw [Int.toNat_natCast, Int.toNat_natCast] at hT
  exact ⟨C, hC, hN, hT⟩
theorem left_nat {n : Nat} {f : Nat → Int} (h64 : ∀ i, i < n → I64 (f i)) {k j : Nat} (h : leftOk n f k j = true) : ∃ P : Nat, P < n ∧ leftN n f k j = P ∧ topG f (leftS n f k j) P = true := by
  obtain ⟨_, C, hC, hN, hT⟩ := ans_on (fun hg => (worldB_iff n f h64).1 ((good2_iff n f k j).1 hg).1) h
  rw [Int.toNat_natCast, Int.toNat_natCast] at hT
  exact ⟨C, hC, hN, hT⟩

set_option maxRecDepth 100000 in
set_option maxHeartbeats 8000000 in
theorem lawWholeOf (a : Option Addr) (n cap : Nat) (w : World) (h : BytesIn w a n cap) (hT : TabW w) :
    Calls Tryd.prog 6 #[.slice a n cap] w (TrueEnd w) := by
  have hlen := h.len
  have H := Lib.hid h; have HT := Lib.hid hT; clear h hT
  by_cases hn : 1048576 < n
  · go_enter Tryd.func6, Tryd.ntmps6
    go_wp2_with fail
    go_ret
    exact ⟨rfl, Below.refl _ _⟩
  · go_enter Tryd.func6, Tryd.ntmps6
    go_wp2_with fail
    refine (DrawWholeOf_any _ _ _ _ H.out).mono ?_
    rintro e w1 ⟨d, m, c, f, rfl, hm, hi, hb1, hcap⟩
    have h64 := Lib.hid hi.i64
    clear hcap
    cases hr : wholeOk m f with
    | false =>
      have HR := Lib.hid hr; have HN := Lib.hid (ans_off hr)
      cases hst : strongB m f with
      | false =>
        have HST := Lib.hid hst; clear hst hr
        go_wp2_with fail
        refine (WholeOf_val _ _ _ f  (-1) false _ HN.out HR.out hi (HT.out.below hb1)).mono ?_
        rintro e w9 ⟨rfl, hb2⟩
        replace hi := hi.next hb2; replace hb1 := below_onto hb1 hb2; clear hb2
        go_wp2_with fail
        refine (specWholeOf_val _ _ _ f  (-1) false _ HN.out HR.out hi).mono ?_
        rintro e w9 ⟨rfl, hd3⟩
        replace hi := hi.drew hd3; replace hb1 := below_onto hb1 hd3.below; clear hd3
        go_wp2_with fail
        refine (StrongOk_val _ _ _ f false _ HST.out hi).mono ?_
        rintro e w9 ⟨rfl, hb2⟩
        replace hi := hi.next hb2; replace hb1 := below_onto hb1 hb2; clear hb2
        go_wp2_with fail
        go_loopw [9] (fun i wr => ∃ k : Nat, k ≤ m ∧ i = .int .i64 k ∧ Ints wr d m f ∧ Below w.heap.size w wr) (fun i _ => m - (intOf i).toNat)
        case atStart => exact ⟨0, Nat.zero_le _, rfl, hi, hb1⟩
        case round =>
          clear hi hb1
          obtain ⟨k, hk, rfl, hi, hb1⟩ := hrel
          by_cases hlt : k < m
          · have hki : (k : Int) < (m : Int) := by omega
            have hm0 : (0 : Int) < (m : Int) := by omega
            go_wp2_with fail
            go_loopw [10] (fun i wr => i = .int .i64 0 ∧ Ints wr d m f ∧ Below w.heap.size w wr) (fun _ _ => 0)
            case atStart => exact ⟨rfl, hi, hb1⟩
            case round =>
              clear hi hb1
              obtain ⟨rfl, hi, hb1⟩ := hrel
              go_wp2_with fail
              go_roundw
              case rel => exact ⟨k + 1, by omega, by go_num, hi, hb1⟩
              case measure => simp [intOf]; omega
          · have hki : ¬ (k : Int) < (m : Int) := by omega
            go_wp2_with fail
            refine (alive_any _).mono ?_
            rintro e w9 ⟨rfl, hb2⟩
            replace hb1 := below_onto hb1 hb2; clear hb2
            go_wp2_with fail
            go_ret
            exact ⟨rfl, hb1⟩
      | true =>
        cases hsm : summedB m f with
        | true => rw [whole_yes h64.out hst hsm] at hr; cases hr
        | false =>
          have HST := Lib.hid hst; have HSM := Lib.hid hsm; clear hst hsm hr
          go_wp2_with fail
          refine (WholeOf_val _ _ _ f  (-1) false _ HN.out HR.out hi (HT.out.below hb1)).mono ?_
          rintro e w9 ⟨rfl, hb2⟩
          replace hi := hi.next hb2; replace hb1 := below_onto hb1 hb2; clear hb2
          go_wp2_with fail
          refine (specWholeOf_val _ _ _ f  (-1) false _ HN.out HR.out hi).mono ?_
          rintro e w9 ⟨rfl, hd3⟩
          replace hi := hi.drew hd3; replace hb1 := below_onto hb1 hd3.below; clear hd3
          go_wp2_with fail
          refine (StrongOk_val _ _ _ f true _ HST.out hi).mono ?_
          rintro e w9 ⟨rfl, hb2⟩
          replace hi := hi.next hb2; replace hb1 := below_onto hb1 hb2; clear hb2
          go_wp2_with fail
          refine (SummedOk_val _ _ _ f false _ HSM.out hi).mono ?_
          rintro e w9 ⟨rfl, hb2⟩
          replace hi := hi.next hb2; replace hb1 := below_onto hb1 hb2; clear hb2
          go_wp2_with fail
          go_loopw [9] (fun i wr => ∃ k : Nat, k ≤ m ∧ i = .int .i64 k ∧ Ints wr d m f ∧ Below w.heap.size w wr) (fun i _ => m - (intOf i).toNat)
          case atStart => exact ⟨0, Nat.zero_le _, rfl, hi, hb1⟩
          case round =>
            clear hi hb1
            obtain ⟨k, hk, rfl, hi, hb1⟩ := hrel
            by_cases hlt : k < m
            · have hki : (k : Int) < (m : Int) := by omega
              have hm0 : (0 : Int) < (m : Int) := by omega
              go_wp2_with fail
              go_loopw [10] (fun i wr => i = .int .i64 0 ∧ Ints wr d m f ∧ Below w.heap.size w wr) (fun _ _ => 0)
              case atStart => exact ⟨rfl, hi, hb1⟩
              case round =>
                clear hi hb1
                obtain ⟨rfl, hi, hb1⟩ := hrel
                go_wp2_with fail
                go_roundw
                case rel => exact ⟨k + 1, by omega, by go_num, hi, hb1⟩
                case measure => simp [intOf]; omega
            · have hki : ¬ (k : Int) < (m : Int) := by omega
              go_wp2_with fail
              refine (alive_any _).mono ?_
              rintro e w9 ⟨rfl, hb2⟩
              replace hb1 := below_onto hb1 hb2; clear hb2
              go_wp2_with fail
              go_ret
              exact ⟨rfl, hb1⟩
    | true =>
      obtain ⟨C, hC, h1, h2⟩ := whole_on h64.out hr
      have h7 := (worldB_7 (show worldB m f = true by unfold wholeOk ansOk at hr; rw [Bool.and_eq_true] at hr; exact hr.1)).2
      have HR := Lib.hid hr; have HN := Lib.hid h1; have HD := Lib.hid h2; clear hr h1 h2
      have hne : ((C : Int) != (C : Int)) = false := by simp
      cases hst : strongB m f with
      | false =>
        have HST := Lib.hid hst; clear hst
        go_wp2_with fail
        refine (WholeOf_val _ _ _ f  (C) true _ HN.out HR.out hi (HT.out.below hb1)).mono ?_
        rintro e w9 ⟨rfl, hb2⟩
        replace hi := hi.next hb2; replace hb1 := below_onto hb1 hb2; clear hb2
        go_wp2_with fail
        refine (specWholeOf_val _ _ _ f  (C) true _ HN.out HR.out hi).mono ?_
        rintro e w9 ⟨rfl, hd3⟩
        replace hi := hi.drew hd3; replace hb1 := below_onto hb1 hd3.below; clear hd3
        go_wp2_with fail
        refine (StrongOk_val _ _ _ f false _ HST.out hi).mono ?_
        rintro e w9 ⟨rfl, hb2⟩
        replace hi := hi.next hb2; replace hb1 := below_onto hb1 hb2; clear hb2
        go_wp2_with fail
        go_loopw [9] (fun i wr => ∃ k : Nat, k ≤ m ∧ i = .int .i64 k ∧ Ints wr d m f ∧ Below w.heap.size w wr) (fun i _ => m - (intOf i).toNat)
        case atStart => exact ⟨0, Nat.zero_le _, rfl, hi, hb1⟩
        case round =>
          clear hi hb1
          obtain ⟨k, hk, rfl, hi, hb1⟩ := hrel
          by_cases hlt : k < m
          · have hki : (k : Int) < (m : Int) := by omega
            have hm0 : (0 : Int) < (m : Int) := by omega
            go_wp2_with fail
            refine (PartOk_val _ _ _ f k C true _ (HD.out k hlt) hi).mono ?_
            rintro e w9 ⟨rfl, hb2⟩
            replace hi := hi.next hb2; replace hb1 := below_onto hb1 hb2; clear hb2
            go_wp2_with fail
            go_loopw [10] (fun i wr => i = .int .i64 0 ∧ Ints wr d m f ∧ Below w.heap.size w wr) (fun _ _ => 0)
            case atStart => exact ⟨rfl, hi, hb1⟩
            case round =>
              clear hi hb1
              obtain ⟨rfl, hi, hb1⟩ := hrel
              go_wp2_with fail
              go_roundw
              case rel => exact ⟨k + 1, by omega, by go_num, hi, hb1⟩
              case measure => simp [intOf]; omega
          · have hki : ¬ (k : Int) < (m : Int) := by omega
            go_wp2_with fail
            refine (alive_any _).mono ?_
            rintro e w9 ⟨rfl, hb2⟩
            replace hb1 := below_onto hb1 hb2; clear hb2
            go_wp2_with fail
            go_ret
            exact ⟨rfl, hb1⟩
      | true =>
        cases hsm : summedB m f with
        | false =>
          have HST := Lib.hid hst; have HSM := Lib.hid hsm; clear hst hsm
          go_wp2_with fail
          refine (WholeOf_val _ _ _ f  (C) true _ HN.out HR.out hi (HT.out.below hb1)).mono ?_
          rintro e w9 ⟨rfl, hb2⟩
          replace hi := hi.next hb2; replace hb1 := below_onto hb1 hb2; clear hb2
          go_wp2_with fail
          refine (specWholeOf_val _ _ _ f  (C) true _ HN.out HR.out hi).mono ?_
          rintro e w9 ⟨rfl, hd3⟩
          replace hi := hi.drew hd3; replace hb1 := below_onto hb1 hd3.below; clear hd3
          go_wp2_with fail
          refine (StrongOk_val _ _ _ f true _ HST.out hi).mono ?_
          rintro e w9 ⟨rfl, hb2⟩
          replace hi := hi.next hb2; replace hb1 := below_onto hb1 hb2; clear hb2
          go_wp2_with fail
          refine (SummedOk_val _ _ _ f false _ HSM.out hi).mono ?_
          rintro e w9 ⟨rfl, hb2⟩
          replace hi := hi.next hb2; replace hb1 := below_onto hb1 hb2; clear hb2
          go_wp2_with fail
          go_loopw [9] (fun i wr => ∃ k : Nat, k ≤ m ∧ i = .int .i64 k ∧ Ints wr d m f ∧ Below w.heap.size w wr) (fun i _ => m - (intOf i).toNat)
          case atStart => exact ⟨0, Nat.zero_le _, rfl, hi, hb1⟩
          case round =>
            clear hi hb1
            obtain ⟨k, hk, rfl, hi, hb1⟩ := hrel
            by_cases hlt : k < m
            · have hki : (k : Int) < (m : Int) := by omega
              have hm0 : (0 : Int) < (m : Int) := by omega
              go_wp2_with fail
              refine (PartOk_val _ _ _ f k C true _ (HD.out k hlt) hi).mono ?_
              rintro e w9 ⟨rfl, hb2⟩
              replace hi := hi.next hb2; replace hb1 := below_onto hb1 hb2; clear hb2
              go_wp2_with fail
              go_loopw [10] (fun i wr => i = .int .i64 0 ∧ Ints wr d m f ∧ Below w.heap.size w wr) (fun _ _ => 0)
              case atStart => exact ⟨rfl, hi, hb1⟩
              case round =>
                clear hi hb1
                obtain ⟨rfl, hi, hb1⟩ := hrel
                go_wp2_with fail
                go_roundw
                case rel => exact ⟨k + 1, by omega, by go_num, hi, hb1⟩
                case measure => simp [intOf]; omega
            · have hki : ¬ (k : Int) < (m : Int) := by omega
              go_wp2_with fail
              refine (alive_any _).mono ?_
              rintro e w9 ⟨rfl, hb2⟩
              replace hb1 := below_onto hb1 hb2; clear hb2
              go_wp2_with fail
              go_ret
              exact ⟨rfl, hb1⟩
        | true =>
          have HST := Lib.hid hst; have HSM := Lib.hid hsm; clear hst hsm
          go_wp2_with fail
          refine (WholeOf_val _ _ _ f  (C) true _ HN.out HR.out hi (HT.out.below hb1)).mono ?_
          rintro e w9 ⟨rfl, hb2⟩
          replace hi := hi.next hb2; replace hb1 := below_onto hb1 hb2; clear hb2
          go_wp2_with fail
          refine (specWholeOf_val _ _ _ f  (C) true _ HN.out HR.out hi).mono ?_
          rintro e w9 ⟨rfl, hd3⟩
          replace hi := hi.drew hd3; replace hb1 := below_onto hb1 hd3.below; clear hd3
          go_wp2_with fail
          refine (StrongOk_val _ _ _ f true _ HST.out hi).mono ?_
          rintro e w9 ⟨rfl, hb2⟩
          replace hi := hi.next hb2; replace hb1 := below_onto hb1 hb2; clear hb2
          go_wp2_with fail
          refine (SummedOk_val _ _ _ f true _ HSM.out hi).mono ?_
          rintro e w9 ⟨rfl, hb2⟩
          replace hi := hi.next hb2; replace hb1 := below_onto hb1 hb2; clear hb2
          go_wp2_with fail
          go_loopw [9] (fun i wr => ∃ k : Nat, k ≤ m ∧ i = .int .i64 k ∧ Ints wr d m f ∧ Below w.heap.size w wr) (fun i _ => m - (intOf i).toNat)
          case atStart => exact ⟨0, Nat.zero_le _, rfl, hi, hb1⟩
          case round =>
            clear hi hb1
            obtain ⟨k, hk, rfl, hi, hb1⟩ := hrel
            by_cases hlt : k < m
            · have hki : (k : Int) < (m : Int) := by omega
              have hm0 : (0 : Int) < (m : Int) := by omega
              go_wp2_with fail
              refine (PartOk_val _ _ _ f k C true _ (HD.out k hlt) hi).mono ?_
              rintro e w9 ⟨rfl, hb2⟩
              replace hi := hi.next hb2; replace hb1 := below_onto hb1 hb2; clear hb2
              go_wp2_with fail
              go_loopw [10] (fun i wr => ∃ j : Nat, j ≤ m ∧ i = .int .i64 j ∧ Ints wr d m f ∧ Below w.heap.size w wr) (fun i _ => m - (intOf i).toNat)
              case atStart => exact ⟨0, Nat.zero_le _, rfl, hi, hb1⟩
              case round =>
                clear hi hb1
                obtain ⟨j, hj, rfl, hi, hb1⟩ := hrel
                by_cases hjm : j < m
                · have hji : (j : Int) < (m : Int) := by omega
                  cases hv : commonOk m f k j with
                  | false =>
                    obtain ⟨i0, hi0⟩ : ∃ i0, commonN m f k j = i0 := ⟨_, rfl⟩
                    obtain ⟨i1, hi1⟩ : ∃ i1, leftN m f k j = i1 := ⟨_, rfl⟩
                    obtain ⟨v1, hv1⟩ : ∃ v1, leftOk m f k j = v1 := ⟨_, rfl⟩
                    have HP1 := Lib.hid hi0; have HP2 := Lib.hid hv; have HQ1 := Lib.hid hi1; have HQ2 := Lib.hid hv1; clear hi0 hv hi1 hv1
                    go_wp2_with fail
                    refine (CommonOf_val _ _ _ f k j (i0) false _ HP1.out HP2.out hi (HT.out.below hb1)).mono ?_
                    rintro e w9 ⟨rfl, hb2⟩
                    replace hi := hi.next hb2; replace hb1 := below_onto hb1 hb2; clear hb2
                    go_wp2_with fail
                    refine (LeftOf_val _ _ _ f k j (i1) v1 _ HQ1.out HQ2.out hi (HT.out.below hb1)).mono ?_
                    rintro e w9 ⟨rfl, hb2⟩
                    replace hi := hi.next hb2; replace hb1 := below_onto hb1 hb2; clear hb2
                    go_wp2_with fail
                    go_quiet (fail)
                    go_wp2_with fail
                    go_roundw
                    case rel => exact ⟨j + 1, by omega, by go_num, by first | exact hi | exact hi.drewN _, by first | exact hb1 | exact below_drewN hb1 _⟩
                    case measure => simp [intOf]; omega
                  | true =>
                    obtain ⟨P, hP, hP1, hPT⟩ := common_nat h64.out hv
                    have HP1 := Lib.hid hP1; have HP2 := Lib.hid hv; have HPT := Lib.hid hPT; clear hP1 hv hPT
                    cases hv2 : leftOk m f k j with
                    | false =>
                      obtain ⟨i1, hi1⟩ : ∃ i1, leftN m f k j = i1 := ⟨_, rfl⟩
                      have HQ1 := Lib.hid hi1; have HQ2 := Lib.hid hv2; clear hi1 hv2
                      go_wp2_with fail
                      refine (CommonOf_val _ _ _ f k j (P) true _ HP1.out HP2.out hi (HT.out.below hb1)).mono ?_
                      rintro e w9 ⟨rfl, hb2⟩
                      replace hi := hi.next hb2; replace hb1 := below_onto hb1 hb2; clear hb2
                      go_wp2_with fail
                      refine (LeftOf_val _ _ _ f k j (i1) false _ HQ1.out HQ2.out hi (HT.out.below hb1)).mono ?_
                      rintro e w9 ⟨rfl, hb2⟩
                      replace hi := hi.next hb2; replace hb1 := below_onto hb1 hb2; clear hb2
                      go_wp2_with fail
                      go_quiet (fail)
                      go_wp2_with fail
                      go_roundw
                      case rel => exact ⟨j + 1, by omega, by go_num, by first | exact hi | exact hi.drewN _, by first | exact hb1 | exact below_drewN hb1 _⟩
                      case measure => simp [intOf]; omega
                    | true =>
                      obtain ⟨Q, hQ, hQ1, hQT⟩ := left_nat h64.out hv2
                      have HSUM := Lib.hid (whole_sum h64.out HST.out hlt hjm hP hQ HPT.out hQT)
                      have HQ1 := Lib.hid hQ1; have HQ2 := Lib.hid hv2; clear hQ1 hv2 hQT
                      have ⟨hp1, hp2⟩ := pow_bounds P (by omega)
                      have ⟨hq1, hq2⟩ := pow_bounds Q (by omega)
                      have ⟨hk1, hk2⟩ := pow_bounds k (by omega)
                      have HSW := Lib.hid (show sumsB m f (bits .or .i64 (IntKind.i64.wrap (2 ^ P)) (IntKind.i64.wrap (2 ^ Q))) = 2 ^ k by rw [wrap_in (2 ^ P) (by unfold I64; omega), wrap_in (2 ^ Q) (by unfold I64; omega)]; exact HSUM.out)
                      have HOR := Lib.hid (show I64 (bits .or .i64 (IntKind.i64.wrap (2 ^ P)) (IntKind.i64.wrap (2 ^ Q))) from orI_I64 _ _)
                      clear HSUM
                      have HWR := Lib.hid (show ((2 : Int) ^ k != IntKind.i64.wrap (2 ^ k)) = false by rw [wrap_in (2 ^ k) (by unfold I64; omega)]; simp)
                      go_wp2_with fail
                      refine (CommonOf_val _ _ _ f k j (P) true _ HP1.out HP2.out hi (HT.out.below hb1)).mono ?_
                      rintro e w9 ⟨rfl, hb2⟩
                      replace hi := hi.next hb2; replace hb1 := below_onto hb1 hb2; clear hb2
                      go_wp2_with fail
                      refine (LeftOf_val _ _ _ f k j (Q) true _ HQ1.out HQ2.out hi (HT.out.below hb1)).mono ?_
                      rintro e w9 ⟨rfl, hb2⟩
                      replace hi := hi.next hb2; replace hb1 := below_onto hb1 hb2; clear hb2
                      go_wp2_with fail
                      go_region_held3 (fun _ => True) (first | trivial)
                        (first | (go_at_call 28; refine (SumsOf_val _ _ _ f (bits .or .i64 (IntKind.i64.wrap (2 ^ P)) (IntKind.i64.wrap (2 ^ Q))) (2 ^ k) HOR.out _ HSW.out hi).mono ?_; rintro e w9 ⟨rfl, hb2⟩; replace hi := (hi).next hb2; replace hb1 := below_onto hb1 hb2; clear hb2) | (go_at_call 28; refine (SumsOf_val _ _ _ f (bits .or .i64 (IntKind.i64.wrap (2 ^ P)) (IntKind.i64.wrap (2 ^ Q))) (2 ^ k) HOR.out _ HSW.out (hi.next (Below.refl _ _).drew)).mono ?_; rintro e w9 ⟨rfl, hb2⟩; replace hi := ((hi.next (Below.refl _ _).drew)).next hb2; replace hb1 := below_onto hb1.drew hb2; clear hb2))
                      all_goals
                        rw [HWR.out]
                        go_wp2_with fail
                        go_roundw
                        case rel => exact ⟨j + 1, by omega, by go_num, by first | exact hi | exact hi.drewN _, by first | exact hb1 | exact below_drewN hb1 _⟩
                        case measure => simp [intOf]; omega
                · have hji : ¬ (j : Int) < (m : Int) := by omega
                  go_wp2_with fail
                  go_roundw
                  case rel => exact ⟨k + 1, by omega, by go_num, hi, hb1⟩
                  case measure => simp [intOf]; omega
            · have hki : ¬ (k : Int) < (m : Int) := by omega
              go_wp2_with fail
              refine (alive_any _).mono ?_
              rintro e w9 ⟨rfl, hb2⟩
              replace hb1 := below_onto hb1 hb2; clear hb2
              go_wp2_with fail
              go_ret
              exact ⟨rfl, hb1⟩
end Go.Proofs.YtchdbjmmcbmglaaDoor
