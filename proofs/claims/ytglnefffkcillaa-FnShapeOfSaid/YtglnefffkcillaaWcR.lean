import Derived.Test.YtglnefffkcillaaWcQ
import Derived.Maps.OwnOps
namespace Go.Proofs.Ytglnefffkcillaa
set_option linter.unusedVariables false
set_option linter.unusedSimpArgs false
open Go.RowKit Go.Maps

theorem CountWorlds_no (t k : Int) (h : ¬ ((1 ≤ t ∧ t ≤ 4) ∧ (0 ≤ k ∧ k < 6))) (w : World) :
    Calls Try.prog 23 #[.int .i64 t, .int .i64 k] w fun e w' => e = .returned (.int .i64 (-1)) ∧ w = w' := by
  by_cases h1 : t < 1
  · clear h
    go_enter Try.func23, Try.ntmps23
    go_wp2_with fail
    all_goals (first | (go_ret; exact ⟨rfl, rfl⟩) | (refine ⟨fun _ h => (by cases h), ?_⟩; go_wp2_with fail; go_ret; exact ⟨rfl, rfl⟩))
  · by_cases h4 : 4 < t
    · have h1d : decide (t < 1) = false := decide_eq_false h1
      clear h h1
      go_enter Try.func23, Try.ntmps23
      go_wp2_with fail
      all_goals (first | (go_ret; exact ⟨rfl, rfl⟩) | (refine ⟨fun _ h => (by cases h), ?_⟩; go_wp2_with fail; go_ret; exact ⟨rfl, rfl⟩))
    · have h1d : decide (t < 1) = false := decide_eq_false h1
      have h4d : decide (4 < t) = false := decide_eq_false h4
      have hk : (decide (0 ≤ k) && decide (k < 6)) = false := by
        rw [Bool.and_eq_false_iff, decide_eq_false_iff_not, decide_eq_false_iff_not]; omega
      clear h h1 h4
      go_enter Try.func23, Try.ntmps23
      go_wp2_with fail
      refine (kindNumberOk_val k false hk w).mono ?_
      rintro e w' ⟨rfl, rfl⟩
      go_wp2_with fail
      go_ret
      exact ⟨rfl, rfl⟩

set_option maxRecDepth 100000 in
set_option maxHeartbeats 3200000 in
theorem CountWorlds_in (n j : Nat) (h1 : 1 ≤ n) (h4 : n ≤ 4) (hj : j < 6) (w : World) :
    Calls Try.prog 23 #[.int .i64 (n : Int), .int .i64 (j : Int)] w fun e w' => e = .returned (.int .i64 (cwN n j : Nat)) ∧ Below w.heap.size w w' := by
  have h1d : decide ((n : Int) < 1) = false := decide_eq_false (by omega)
  have h4d : decide ((4 : Int) < (n : Int)) = false := decide_eq_false (by omega)
  have hk : (decide (0 ≤ (j : Int)) && decide ((j : Int) < 6)) = true := by
    rw [Bool.and_eq_true, decide_eq_true_eq, decide_eq_true_eq]; omega
  have HK := Lib.hid hk; clear hk
  have hzv : ∀ w, (zeroValue 3).run Try.prog w = .ok (.int .i64 0) w := fun w => by kernel_rfl
  have hkey := key_int (j : Int) (by unfold I64; omega)
  go_enter Try.func23, Try.ntmps23
  go_wp2_with fail
  refine (kindNumberOk_val (j : Int) true HK.out w).mono ?_
  rintro e w' ⟨rfl, rfl⟩
  go_wp2_with fail
  refine (countsOfKinds_any n h1 h4 w).mono ?_
  rintro e w1 ⟨M, N, rfl, ⟨D, hown, hD, hat0⟩, hM, hb⟩
  have HAT := Lib.hid hat0; have HB := Lib.hid hb
  clear hat0 hb hD
  go_wp2_with (at_lookup; refine wpList_lookup_own_int _ rfl _ _ 59 rfl 3 3 .i64 (int_keyed Try.underlying3) Try.underlying59 Try.underlying3 (hzv _) M N _ rfl hown _ _ rfl hkey ?_; intro c hat hwc)
  have hce : c = (cwN n j : Int) := by
    have h5 := HAT.out j hj
    rw [hat] at h5
    simpa using h5
  subst hce
  go_ret
  exact ⟨rfl, HB.out⟩
theorem CountWorlds_any (t k : Int) (w : World) :
    Calls Try.prog 23 #[.int .i64 t, .int .i64 k] w fun e w' => e = .returned (.int .i64 (cwV t k)) ∧ Below w.heap.size w w' := by
  by_cases h : (1 ≤ t ∧ t ≤ 4) ∧ (0 ≤ k ∧ k < 6)
  · unfold cwV
    rw [if_pos h]
    have := CountWorlds_in t.toNat k.toNat (by omega) (by omega) (by omega) w
    rw [Int.toNat_of_nonneg (by omega), Int.toNat_of_nonneg (by omega)] at this
    exact this
  · unfold cwV
    rw [if_neg h]
    refine (CountWorlds_no t k h w).mono ?_
    rintro e w' ⟨rfl, rfl⟩
    exact ⟨rfl, Below.refl _ _⟩
end Go.Proofs.Ytglnefffkcillaa
