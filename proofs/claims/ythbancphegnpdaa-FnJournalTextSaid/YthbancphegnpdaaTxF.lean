import Derived.Test.YthbancphegnpdaaTxE
import Derived.Laws.StructEq
namespace Go.Proofs.Ythbancphegnpdaa
set_option linter.unusedVariables false
set_option linter.unusedSimpArgs false
open Go.RowKit Go.Maps

theorem eqDeedV (p q p' q' : Int) (w : World) : (binOp .eql 31 (.agg #[.int .i64 p, .int .i64 q]) (.agg #[.int .i64 p', .int .i64 q'])).run Try.prog w = .ok (.bool (p == p' && q == q')) w := by
  have u3 := Try.underlying3
  have hS : Try.prog.underlying 31 = some (.struct (Try.prog.fieldsOf 31)) := by kernel_rfl
  have hp : Try.prog.stoodInHeld 31 = false := by kernel_rfl
  rw [run_eql_struct, show (10000 : Nat) = 9999 + 1 from rfl, run_equalIn_agg w 9999 31 _ _ hS hp]
  simp only [Program.fieldsOf, Try.underlying31]
  go_simp
  by_cases h1 : p = p' <;> by_cases h2 : q = q' <;> simp [h1, h2]
theorem eqDeedV_val (p q p' q' : Int) (v : Bool) (hv : (p == p' && q == q') = v) (w : World) : (binOp .eql 31 (.agg #[.int .i64 p, .int .i64 q]) (.agg #[.int .i64 p', .int .i64 q'])).run Try.prog w = .ok (.bool v) w := by
  subst hv; exact eqDeedV p q p' q' w

theorem setT_emp {x : Int} (h : okX x = true) : (setT x).toList.isEmpty = false := by
  rw [toList_data']
  unfold setT
  rw [bs_data]
  cases hl : setL x with
  | nil => exact absurd hl (setL_ne h)
  | cons a l => rfl
theorem setT_emp' {x : Int} (h : okX x = false) : (setT x).toList.isEmpty = true := by
  rw [toList_data']
  unfold setT
  rw [bs_data, setL_no h]; rfl

set_option maxRecDepth 100000 in
set_option maxHeartbeats 1600000 in
theorem specDeedText_any (k x : Int) (w : World) :
    Calls Try.prog 23 #[.agg #[.int .i64 k, .int .i64 x]] w fun e w' => e = .returned (.string (deedT k x)) ∧ Below w.heap.size w w' := by
  have hbel := alloc_below w (.cells #[.int .i64 k, .int .i64 x] 31)
  have hblk := Blk2.new w 31 (.int .i64 k) (.int .i64 x)
  obtain ⟨w1, hw1⟩ : ∃ w1, w.alloc (.cells #[.int .i64 k, .int .i64 x] 31) = w1 := ⟨_, rfl⟩
  have HW1 := Lib.hid hw1
  rw [hw1] at hbel hblk
  obtain ⟨hq0, hq1⟩ := hblk.cell
  have HB := Lib.hid hbel
  clear hbel hblk hw1
  have e2 := fun (j : Int) (v : Bool) (hv : (k == j && x == 0) = v) (w : World) => eqDeedV_val k x j 0 v hv w
  have HE2 := Lib.hid e2
  clear e2
  by_cases hd : dOk k x = true
  · have hd2 := dOk_iff.1 hd
    rcases hd2 with ⟨h1, h2, h3, h4⟩ | ⟨h1, h2, h3⟩
    · have hx : okX x = true := okX_iff.2 ⟨h3, h4⟩
      have hss : (setT x).size ≤ 4 := setL_len x
      have hemp := setT_emp hx
      have HE : Hid (bs (wordL k.toNat ++ [32]) ++ setT x = deedT k x) := Lib.hid (by
        unfold deedT deedL setT
        rw [if_pos hd, if_pos (by omega), bs_app, List.append_assoc]; rfl)
      obtain ⟨st, hst⟩ : ∃ st, setT x = st := ⟨_, rfl⟩
      rw [hst] at hss hemp HE
      have HST := Lib.hid hst
      clear hst hx
      have hor : k = 0 ∨ k = 1 := by omega
      clear hd h1 h2 h3 h4
      rcases hor with rfl | rfl
      · go_enter Try.func23, Try.ntmps23
        go_wp2_with fail
        rw [HW1.out]
        refine (specSetText_any _ _).mono ?_
        rintro e w5 ⟨rfl, rfl⟩
        rw [HST.out]
        go_wp2_with fail
        refine (specSetText_any _ _).mono ?_
        rintro e w5 ⟨rfl, rfl⟩
        rw [HST.out]
        go_wp2_with fail
        go_ret
        exact ⟨rets HE.out, HB.out⟩
      · go_enter Try.func23, Try.ntmps23
        go_wp2_with fail
        rw [HW1.out]
        refine (specSetText_any _ _).mono ?_
        rintro e w5 ⟨rfl, rfl⟩
        rw [HST.out]
        go_wp2_with fail
        refine (specSetText_any _ _).mono ?_
        rintro e w5 ⟨rfl, rfl⟩
        rw [HST.out]
        go_wp2_with fail
        go_ret
        exact ⟨rets HE.out, HB.out⟩
    · have HE : Hid (bs (wordL k.toNat) = deedT k x) := Lib.hid (by
        unfold deedT deedL
        rw [if_pos hd, if_neg (by omega)])
      have hor : k = 2 ∨ k = 3 ∨ k = 4 := by omega
      clear hd h1 h2
      subst h3
      rcases hor with rfl | rfl | rfl
      · have g2 := HE2.out 2 true rfl
        go_enter Try.func23, Try.ntmps23
        go_wp2_with fail
        go_ret
        exact ⟨rets HE.out, by rw [HW1.out]; exact HB.out⟩
      · have g2 := HE2.out 2 false rfl
        have g3 := HE2.out 3 true rfl
        go_enter Try.func23, Try.ntmps23
        go_wp2_with fail
        go_ret
        exact ⟨rets HE.out, by rw [HW1.out]; exact HB.out⟩
      · have g2 := HE2.out 2 false rfl
        have g3 := HE2.out 3 false rfl
        have g4 := HE2.out 4 true rfl
        go_enter Try.func23, Try.ntmps23
        go_wp2_with fail
        go_ret
        exact ⟨rets HE.out, by rw [HW1.out]; exact HB.out⟩
  · have hd' : dOk k x = false := by simpa using hd
    have hn := fun h => hd (dOk_iff.2 h)
    have HE : Hid (({ data := #[] } : ByteArray) = deedT k x) := Lib.hid (by unfold deedT; rw [deedL_no hd']; rfl)
    have g2 := HE2.out 2 false (by
      rw [Bool.and_eq_false_iff]
      by_cases h : k = 2
      · right; simp; intro e; exact hn (by omega)
      · left; simpa using h)
    have g3 := HE2.out 3 false (by
      rw [Bool.and_eq_false_iff]
      by_cases h : k = 3
      · right; simp; intro e; exact hn (by omega)
      · left; simpa using h)
    have g4 := HE2.out 4 false (by
      rw [Bool.and_eq_false_iff]
      by_cases h : k = 4
      · right; simp; intro e; exact hn (by omega)
      · left; simpa using h)
    by_cases h0 : k = 0
    · have hx : okX x = false := okX_no.2 (fun h => hn (by omega))
      have hemp := setT_emp' hx
      have hb1 : (k == 0) = true := by simpa using h0
      have hb2 : (k == 1) = false := by simp; omega
      clear hd hd' hn h0 hx
      go_enter Try.func23, Try.ntmps23
      go_wp2_with fail
      rw [HW1.out]
      refine (specSetText_any _ _).mono ?_
      rintro e w5 ⟨rfl, rfl⟩
      go_wp2_with fail
      go_ret
      exact ⟨rets HE.out, HB.out⟩
    · by_cases h1 : k = 1
      · have hx : okX x = false := okX_no.2 (fun h => hn (by omega))
        have hemp := setT_emp' hx
        have hb1 : (k == 0) = false := by simpa using h0
        have hb2 : (k == 1) = true := by simpa using h1
        clear hd hd' hn h0 h1 hx
        go_enter Try.func23, Try.ntmps23
        go_wp2_with fail
        rw [HW1.out]
        refine (specSetText_any _ _).mono ?_
        rintro e w5 ⟨rfl, rfl⟩
        go_wp2_with fail
        go_ret
        exact ⟨rets HE.out, HB.out⟩
      · have hb1 : (k == 0) = false := by simpa using h0
        have hb2 : (k == 1) = false := by simpa using h1
        clear hd hd' hn h0 h1
        go_enter Try.func23, Try.ntmps23
        go_wp2_with fail
        go_ret
        exact ⟨rets HE.out, by rw [HW1.out]; exact HB.out⟩
end Go.Proofs.Ythbancphegnpdaa
