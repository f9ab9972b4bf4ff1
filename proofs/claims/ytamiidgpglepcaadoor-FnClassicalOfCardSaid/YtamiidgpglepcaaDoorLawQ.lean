import Derived.Test.YtamiidgpglepcaaDoorTopA
import Derived.Test.YtamiidgpglepcaaDoorClassP
import Derived.Test.YtamiidgpglepcaaDoorDrawT
import Derived.Test.YtamiidgpglepcaaDoorLawC
import Derived.Test.YtamiidgpglepcaaDoorLawR
namespace Go.Proofs.YtamiidgpglepcaaDoor
open Go.RowKit Go.Maps

theorem cls_wholeN {N : Nat} (h : N = 1 ∨ N = 3 ∨ N = 7) : wholeN N (clsF N) = (N - 1 : Nat) ∧ wholeOk N (clsF N) = true := by
  rcases h with rfl | rfl | rfl
  · exact ⟨by kernel_rfl, by kernel_rfl⟩
  · exact ⟨by kernel_rfl, by kernel_rfl⟩
  · exact ⟨by kernel_rfl, by kernel_rfl⟩
theorem cls_at {k N : Nat} (h : Full k N) : atK (atomsI N (clsF N)) N = k := by
  rcases h with ⟨rfl, rfl⟩ | ⟨rfl, rfl⟩ | ⟨rfl, rfl⟩
  · kernel_rfl
  · kernel_rfl
  · kernel_rfl
theorem AtomsOf_at (a : Option Addr) (n cap : Nat) (f : Nat → Int) (w : World) (hw : worldB n f = true) (hi : Ints w a n f) :
    Calls Tryd.prog 11 #[.slice a n cap] w fun e w' => e = .returned (.int .i64 (atomsI n f)) ∧ Below w.heap.size w w' := by
  have := AtomsOf_any a n cap f w hi
  rwa [show atomsB n f = atomsI n f by unfold atomsB; rw [if_pos hw]] at this

set_option maxRecDepth 100000 in
set_option maxHeartbeats 8000000 in
theorem lawClassicalOf (a : Option Addr) (n cap : Nat) (w : World) (h : BytesIn w a n cap) (hT : TabW w) :
    Calls Tryd.prog 3 #[.slice a n cap] w (TrueEnd w) := by
  have hlen := h.len
  have H := Lib.hid h; have HT := Lib.hid hT; clear h hT
  have hnot : ∀ (x : Bool) (w : World), (Op.unary .not (.bool x)).run Tryd.prog w = .ok (.bool (!x)) w := fun _ _ => rfl
  by_cases hn : 1048576 < n
  · go_enter Tryd.func3, Tryd.ntmps3
    go_wp2_with fail
    go_ret
    exact ⟨rfl, Below.refl _ _⟩
  · go_enter Tryd.func3, Tryd.ntmps3
    go_wp2_with fail
    refine (DrawClassicalOf_any _ _ _ _ H.out).mono ?_
    rintro e w1 ⟨x, rfl, hx64, hb1⟩
    by_cases h13 : 1 ≤ x ∧ x ≤ 3
    · obtain ⟨k, N, rfl, hF⟩ := full_of h13
      obtain ⟨_, hk1, hk3, hN1, hN7⟩ := hF.pow
      have HF := Lib.hid hF; have HAT := Lib.hid (cls_at hF)
      have HW := Lib.hid (cls_world hF.all); have HC := Lib.hid (cls_class hF.all)
      have HWN := Lib.hid (cls_wholeN hF.all).1; have HWO := Lib.hid (cls_wholeN hF.all).2
      have hN0 : ((N : Int) == 0) = false := by rw [beq_eq_false_iff_ne]; omega
      have hkk : ((k : Int) == (k : Int)) = true := by simp
      have hA0 : 0 ≤ atomsI N (clsF N) := (atomsI_rng N (clsF N) hN7).1
      have hA64 : I64 (atomsI N (clsF N)) := setOf_I64 _ _
      have hlast : (((N - 1 : Nat) : Int) == (N : Int) - 1) = true := by rw [beq_iff_eq]; omega
      clear h13 hF hx64
      have HB1 := Lib.hid hb1; clear hb1
      go_wp2_with fail
      refine (ClassicalOf_in k N HF.out _).mono ?_
      intro e w2 hg
      obtain ⟨g, c2, rfl, _, hg2, hrow, hb2⟩ := hg.row hN1
      have HI := Lib.hid (ints_row hrow hg2 (by omega) (fun i _ => clsF_I64 N i)); have HROW := Lib.hid hrow
      replace HB1 := Lib.hid (below_onto HB1.out hb2); clear hb2 hrow
      go_wp2_with fail
      refine (specClassicalOf_in k N HF.out _).mono ?_
      intro e w3 hg
      obtain ⟨g3, c3, rfl, _, _, hrow3, hb2⟩ := hg.row hN1
      replace HI := Lib.hid (HI.out.next hb2); replace HROW := Lib.hid (HROW.out.below hb2 hg2)
      replace HB1 := Lib.hid (below_onto HB1.out hb2); clear hb2 hg2
      have HR3 := Lib.hid hrow3; clear hrow3
      go_wp2_with fail
      refine (sameInts_row _ _ _ _ _ _ _ _ (by omega) _ HROW.out HR3.out).mono ?_
      rintro e w4 ⟨rfl, hd⟩
      replace HI := Lib.hid (HI.out.drew hd); replace HB1 := Lib.hid (below_onto HB1.out hd.below); clear hd HROW HR3
      go_wp2_with fail
      refine (AtomsOf_at _ _ _ (clsF N) _ HW.out HI.out).mono ?_
      rintro e w5 ⟨rfl, hb2⟩
      replace HI := Lib.hid (HI.out.next hb2); replace HB1 := Lib.hid (below_onto HB1.out hb2); clear hb2
      go_wp2_with fail
      go_loopw [6, 7] (fun v i wr => ∃ j : Nat, j ≤ N ∧ i = .int .i64 j ∧ v = .int .i64 (atK (atomsI N (clsF N)) j : Nat) ∧ w5 = wr) (fun _ i _ => N - (intOf i).toNat)
      case atStart => exact ⟨0, Nat.zero_le _, rfl, rfl, rfl⟩
      case round =>
        obtain ⟨j, hj, rfl, rfl, rfl⟩ := hrel
        by_cases hlt : j < N
        · have hji : (j : Int) < (N : Int) := by omega
          have hat := atK_le (atomsI N (clsF N)) j
          cases hh : hasB (atomsI N (clsF N)) j with
          | true =>
            have HA := Lib.hid (atK_yes hh); have HH := Lib.hid (show hbB (atomsI N (clsF N)) (j : Int) = true by rw [hb_nat hA0]; exact hh); clear hh
            go_wp2_with fail
            refine (hasBit_val _ j true HH.out (by omega) hA64 _).mono ?_
            rintro e w9 ⟨rfl, rfl⟩
            go_wp2_with fail
            go_roundw
            case rel => exact ⟨j + 1, by omega, by go_num, by rw [HA.out]; go_num, by first | rfl | trivial⟩
            case measure => simp [intOf]; omega
          | false =>
            have HA := Lib.hid (atK_no hh); have HH := Lib.hid (show hbB (atomsI N (clsF N)) (j : Int) = false by rw [hb_nat hA0]; exact hh); clear hh
            go_wp2_with fail
            refine (hasBit_val _ j false HH.out (by omega) hA64 _).mono ?_
            rintro e w9 ⟨rfl, rfl⟩
            go_wp2_with fail
            go_roundw
            case rel => exact ⟨j + 1, by omega, by go_num, by rw [HA.out], by first | rfl | trivial⟩
            case measure => simp [intOf]; omega
        · have hjN : j = N := by omega
          subst hjN
          have hji : ¬ ((j : Int) < (j : Int)) := by omega
          rw [HAT.out]
          go_wp2_with fail
          refine (WholeOf_val _ _ _ (clsF j) _ true _ HWN.out HWO.out HI.out (HT.out.below HB1.out)).mono ?_
          rintro e w6 ⟨rfl, hb2⟩
          replace HI := Lib.hid (HI.out.next hb2); replace HB1 := Lib.hid (below_onto HB1.out hb2); clear hb2
          go_wp2_with fail
          refine (ClassicalOk_val _ _ _ (clsF j) true _ HC.out HI.out).mono ?_
          rintro e w7 ⟨rfl, hb2⟩
          replace HB1 := Lib.hid (below_onto HB1.out hb2); clear hb2
          go_wp2_with fail
          go_ret
          exact ⟨rfl, HB1.out⟩
    · have HNO := Lib.hid (clsL_no h13)
      have HB1 := Lib.hid hb1; clear hb1
      by_cases hx1 : x < 1
      · clear h13
        go_wp2_with fail
        refine (ClassicalOf_any x _).mono ?_
        intro e w2 hg
        rw [HNO.out] at hg
        obtain ⟨a2, c2, rfl, hb2⟩ := hg.none
        replace HB1 := Lib.hid (below_onto HB1.out hb2); clear hb2
        go_wp2_with fail
        refine (specClassicalOf_any x _).mono ?_
        intro e w3 hg
        rw [HNO.out] at hg
        obtain ⟨a3, c3, rfl, hb2⟩ := hg.none
        replace HB1 := Lib.hid (below_onto HB1.out hb2); clear hb2
        go_wp2_with fail
        refine (sameInts_nil _ _ _ _ _).mono ?_
        rintro e w9 ⟨rfl, hd3⟩
        replace HB1 := Lib.hid (below_onto HB1.out hd3.below); clear hd3
        go_wp2_with fail
        refine (alive_any _).mono ?_
        rintro e w9 ⟨rfl, hb2⟩
        replace HB1 := Lib.hid (below_onto HB1.out hb2); clear hb2
        go_wp2_with fail
        go_ret
        exact ⟨rfl, HB1.out⟩
      · have hx3 : x > 3 := by omega
        clear h13
        go_wp2_with fail
        refine (ClassicalOf_any x _).mono ?_
        intro e w2 hg
        rw [HNO.out] at hg
        obtain ⟨a2, c2, rfl, hb2⟩ := hg.none
        replace HB1 := Lib.hid (below_onto HB1.out hb2); clear hb2
        go_wp2_with fail
        refine (specClassicalOf_any x _).mono ?_
        intro e w3 hg
        rw [HNO.out] at hg
        obtain ⟨a3, c3, rfl, hb2⟩ := hg.none
        replace HB1 := Lib.hid (below_onto HB1.out hb2); clear hb2
        go_wp2_with fail
        refine (sameInts_nil _ _ _ _ _).mono ?_
        rintro e w9 ⟨rfl, hd3⟩
        replace HB1 := Lib.hid (below_onto HB1.out hd3.below); clear hd3
        go_wp2_with fail
        refine (alive_any _).mono ?_
        rintro e w9 ⟨rfl, hb2⟩
        replace HB1 := Lib.hid (below_onto HB1.out hb2); clear hb2
        go_wp2_with fail
        go_ret
        exact ⟨rfl, HB1.out⟩
end Go.Proofs.YtamiidgpglepcaaDoor
