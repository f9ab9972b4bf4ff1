import Derived.Test.YtbhdeidnifilfaaSumsJ
namespace Go.Proofs.Ytbhdeidnifilfaa
open Go.RowKit

theorem sums_zero {n : Nat} {f : Nat → Int} {s : Int} (h7 : n ≤ 7) : (sumsI n f s == 0) = !hasSumB n f s := by
  cases h : hasSumB n f s with
  | true =>
    obtain ⟨a, ha, hg⟩ : ∃ a, a < n ∧ sumG n f s a = true := by unfold hasSumB at h; exact of_decide_eq_true h
    rw [beq_eq_false_iff_ne.2]; rfl
    intro e
    have := sums_bit (n := n) (f := f) (s := s) ha h7
    rw [e, hasB_zero, hg] at this; cases this
  | false =>
    rw [beq_iff_eq.2]; rfl
    refine ext64 _ _ (setOf_I64 _ _) I64_zero (fun i hi => ?_)
    unfold sumsI; rw [hasB_zero, setOf_bit _ _ _ hi]
    by_cases hin : i < n
    · rw [decide_eq_true hin, Bool.true_and]
      cases e : sumG n f s i with
      | false => rfl
      | true => unfold hasSumB at h; exact absurd ⟨i, hin, e⟩ (of_decide_eq_false h)
    · rw [decide_eq_false hin]; rfl

theorem set_at {n : Nat} {f : Nat → Int} {k : Nat} (hw : worldB n f = true) (h1 : 1 ≤ k) (hk : k < 2 ^ n) : setB n f k = true := by
  have e2 : ((2 ^ n : Nat) : Int) = 2 ^ n := by simp
  exact setB_iff.2 ⟨hw, by omega, by omega⟩

theorem specSums_at (a : Option Addr) (n cap : Nat) (f : Nat → Int) (k : Nat) (w : World) (hw : worldB n f = true) (h1 : 1 ≤ k) (hk : k < 2 ^ n) (hi : Ints w a n f) :
    Calls Try.prog 11 #[.slice a n cap, .int .i64 k] w fun e w' => e = .returned (.int .i64 (sumsI n f k)) ∧ Drew w w' := by
  have e : sumsB n f k = sumsI n f k := by unfold sumsB; rw [if_pos (set_at hw h1 hk)]
  rw [← e]; exact specSumsOf_any a n cap f k w hi

set_option maxHeartbeats 1600000 in
theorem specSummedOk_any (a : Option Addr) (n cap : Nat) (f : Nat → Int) (w : World) (hi : Ints w a n f) :
    Calls Try.prog 23 #[.slice a n cap] w fun e w' => e = .returned (.bool (summedB n f)) ∧ Drew w w' := by
  cases hw : worldB n f with
  | true =>
    have h7 := (worldB_7 hw).2
    obtain ⟨hp1, hp2⟩ := pow_bounds n h7
    have e2 : ((2 ^ n : Nat) : Int) = 2 ^ n := by simp
    have HF := Lib.hid (show summedB n f = decide (∀ s : Nat, s < 2 ^ n → 1 ≤ s → hasSumB n f s = true) by unfold summedB; rw [hw]; rfl)
    have HW := Lib.hid hw; have HN := Lib.hid hi; clear hw hi
    go_enter Try.func23, Try.ntmps23
    go_wp2_with fail
    go_loopw [3] (fun v wr => ∃ k : Nat, 1 ≤ k ∧ k ≤ 2 ^ n ∧ v = .int .i64 k ∧ Hid (∀ s : Nat, s < k → 1 ≤ s → hasSumB n f s = true) ∧ Drew w wr) (fun v _ => 2 ^ n - (intOf v).toNat)
    case atStart => exact ⟨1, by omega, Nat.one_le_two_pow, rfl, Lib.hid (fun s h1 h2 => by omega), Drew.refl _⟩
    case round =>
      obtain ⟨k, hk1, hk, rfl, hall, hd⟩ := hrel
      by_cases hk2 : k < 2 ^ n
      · have hle : decide ((k : Int) < 2 ^ n) = true := by simp; omega
        have hz := sums_zero (n := n) (f := f) (s := k) h7
        cases hg : hasSumB n f k with
        | true =>
          rw [hg] at hz
          replace hz : (sumsI n f k == 0) = false := hz
          have HG := Lib.hid hg; clear hg
          go_wp2_with fail
          refine (specWorldOk_val _ _ _ f true _ HW.out (HN.out.drew hd)).mono ?_
          rintro e w1 ⟨rfl, hd1⟩
          replace hd := hd.onto hd1
          clear hd1
          go_wp2_with fail
          refine (specSums_at a n _ f k _ HW.out hk1 hk2 (HN.out.drew hd)).mono ?_
          rintro e w2 ⟨rfl, hd2⟩
          replace hd := hd.onto hd2
          clear hd2
          go_wp2_with fail
          go_roundw
          case rel => exact ⟨k + 1, by omega, by omega, by go_num, Lib.hid (fun s h1 h2 => by
            by_cases e : s = k
            · subst e; exact HG.out
            · exact hall.out s (by omega) h2), hd⟩
          case measure => simp [intOf]; omega
        | false =>
          rw [hg] at hz
          replace hz : (sumsI n f k == 0) = true := hz
          have HF2 := Lib.hid (HF.out.trans (summed_no hk1 hk2 hg)); clear hg
          go_wp2_with fail
          refine (specWorldOk_val _ _ _ f true _ HW.out (HN.out.drew hd)).mono ?_
          rintro e w1 ⟨rfl, hd1⟩
          replace hd := hd.onto hd1
          clear hd1
          go_wp2_with fail
          refine (specSums_at a n _ f k _ HW.out hk1 hk2 (HN.out.drew hd)).mono ?_
          rintro e w2 ⟨rfl, hd2⟩
          replace hd := hd.onto hd2
          clear hd2
          go_wp2_with fail
          go_ret
          exact ⟨retb HF2.out.symm, hd⟩
      · have hle : decide ((k : Int) < 2 ^ n) = false := by simp; omega
        have HF2 := Lib.hid (HF.out.trans (decide_eq_true (fun s h1 h2 => hall.out s (by omega) h2)))
        go_wp2_with fail
        refine (specWorldOk_val _ _ _ f true _ HW.out (HN.out.drew hd)).mono ?_
        rintro e w1 ⟨rfl, hd1⟩
        replace hd := hd.onto hd1
        clear hd1
        go_wp2_with fail
        refine (specWorldOk_val _ _ _ f true _ HW.out (HN.out.drew hd)).mono ?_
        rintro e w2 ⟨rfl, hd2⟩
        replace hd := hd.onto hd2
        clear hd2
        go_wp2_with fail
        go_ret
        exact ⟨retb HF2.out.symm, hd⟩
  | false =>
    have HF := Lib.hid (show summedB n f = false by unfold summedB; rw [hw]; rfl)
    have HW := Lib.hid hw; have HN := Lib.hid hi; clear hw hi
    go_enter Try.func23, Try.ntmps23
    go_wp2_with fail
    go_loopw [3] (fun v wr => v = .int .i64 1 ∧ wr = w) (fun _ _ => 0)
    case atStart => exact ⟨rfl, rfl⟩
    case round =>
      obtain ⟨rfl, rfl⟩ := hrel
      go_wp2_with fail
      refine (specWorldOk_val _ _ _ f false _ HW.out HN.out).mono ?_
      rintro e w1 ⟨rfl, hd1⟩
      go_wp2_with fail
      refine (specWorldOk_val _ _ _ f false _ HW.out (HN.out.drew hd1)).mono ?_
      rintro e w2 ⟨rfl, hd2⟩
      go_wp2_with fail
      go_ret
      exact ⟨retb HF.out.symm, hd1.onto hd2⟩
end Go.Proofs.Ytbhdeidnifilfaa
