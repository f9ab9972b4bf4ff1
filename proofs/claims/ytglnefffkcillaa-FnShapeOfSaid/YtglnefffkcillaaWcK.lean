import Derived.Test.YtglnefffkcillaaClassN
namespace Go.Proofs.Ytglnefffkcillaa
set_option linter.unusedVariables false
set_option linter.unusedSimpArgs false
open Go.RowKit Go.Maps

def kindsV : Value := .agg #[.func (.func 20) #[] #[], .func (.func 64) #[] #[], .func (.func 65) #[] #[], .func (.func 66) #[] #[], .func (.func 67) #[] #[], .func (.func 68) #[] #[]]
set_option maxRecDepth 100000 in
theorem kinds_any (w : World) :
    Calls Try.prog 43 #[] w fun e w' => e = .returned (.agg #[.func (.func 20) #[] #[], .func (.func 64) #[] #[], .func (.func 65) #[] #[], .func (.func 66) #[] #[], .func (.func 67) #[] #[], .func (.func 68) #[] #[]]) ∧ Below w.heap.size w w' := by
  go_enter Try.func43, Try.ntmps43
  go_wp2_with fail
  refine bodyPost_ret (results_cell_row rfl _ _ w.heap.size 48 _ _ _ rfl (heap_alloc_new w _) Try.underlying48 rfl (by kernel_rfl)) rfl ?_
  exact ⟨rfl, alloc_below _ _⟩
theorem kindNumberOk_any (k : Int) (w : World) :
    Calls Try.prog 42 #[.int .i64 k] w fun e w' => e = .returned (.bool (decide (0 ≤ k) && decide (k < 6))) ∧ w = w' := by
  go_enter Try.func42, Try.ntmps42
  go_wp2
  all_goals (go_ret; refine ⟨?_, rfl⟩; first | rfl | (apply retb; rw [Bool.eq_iff_iff]; simp; omega) | (apply retb; simp_all))
theorem kindNumberOk_val (k : Int) (v : Bool) (hv : (decide (0 ≤ k) && decide (k < 6)) = v) (w : World) :
    Calls Try.prog 42 #[.int .i64 k] w fun e w' => e = .returned (.bool v) ∧ w = w' := by subst hv; exact kindNumberOk_any k w

/-- is a world of this kind? -/
def kindB (n : Nat) (f : Nat → Int) (k : Int) : Bool :=
  if k = 0 then worldB n f else if k = 1 then companyB n f else if k = 2 then weakB n f else if k = 3 then strongB n f else if k = 4 then extendedB n f else if k = 5 then classB n f else false

theorem KindOk_no (a : Option Addr) (n cap : Nat) (f : Nat → Int) (k : Int) (hk : (decide (0 ≤ k) && decide (k < 6)) = false) (w : World) :
    Calls Try.prog 14 #[.slice a n cap, .int .i64 k] w fun e w' => e = .returned (.bool false) ∧ Below w.heap.size w w' := by
  go_enter Try.func14, Try.ntmps14
  go_wp2_with fail
  refine (kindNumberOk_val k false hk w).mono ?_
  rintro e w' ⟨rfl, rfl⟩
  go_wp2_with fail
  go_ret
  exact ⟨rfl, Below.refl _ _⟩
set_option maxRecDepth 100000 in
theorem KindOk_0 (a : Option Addr) (n cap : Nat) (f : Nat → Int) (w : World) (hi : Ints w a n f) :
    Calls Try.prog 14 #[.slice a n cap, .int .i64 0] w fun e w' => e = .returned (.bool (worldB n f)) ∧ Below w.heap.size w w' := by
  have HI := Lib.hid hi; clear hi
  have hen := enters_of (P := Try.prog) Try.func20 (by kernel_rfl) rfl
  have hix : ∀ w1, (Instr.index 48 (.agg #[.func (.func 20) #[] #[], .func (.func 64) #[] #[], .func (.func 65) #[] #[], .func (.func 66) #[] #[], .func (.func 67) #[] #[], .func (.func 68) #[] #[]]) (.int .i64 0)).run Try.prog w1 = .ok (.func (.func 20) #[] #[]) w1 := fun w1 => by kernel_rfl
  go_enter Try.func14, Try.ntmps14
  go_wp2_with fail
  refine (kindNumberOk_val 0 true (by decide) w).mono ?_
  rintro e w' ⟨rfl, rfl⟩
  go_wp2_with fail
  refine (kinds_any w).mono ?_
  rintro e w1 ⟨rfl, hb1⟩
  have HB1 := Lib.hid hb1
  have HI1 := Lib.hid (HI.out.next hb1)
  clear hb1
  go_wp2_with fail
  refine (WorldOk_any a n cap f w1 HI1.out).mono ?_
  rintro e w2 ⟨rfl, hb2⟩
  have HB2 := Lib.hid (HB1.out.trans (hb2.mono HB1.out.size))
  clear hb2
  go_wp2_with fail
  go_ret
  exact ⟨rfl, HB2.out⟩
set_option maxRecDepth 100000 in
theorem KindOk_1 (a : Option Addr) (n cap : Nat) (f : Nat → Int) (w : World) (hi : Ints w a n f) :
    Calls Try.prog 14 #[.slice a n cap, .int .i64 1] w fun e w' => e = .returned (.bool (companyB n f)) ∧ Below w.heap.size w w' := by
  have HI := Lib.hid hi; clear hi
  have hen := enters_of (P := Try.prog) Try.func64 (by kernel_rfl) rfl
  have hix : ∀ w1, (Instr.index 48 (.agg #[.func (.func 20) #[] #[], .func (.func 64) #[] #[], .func (.func 65) #[] #[], .func (.func 66) #[] #[], .func (.func 67) #[] #[], .func (.func 68) #[] #[]]) (.int .i64 1)).run Try.prog w1 = .ok (.func (.func 64) #[] #[]) w1 := fun w1 => by kernel_rfl
  go_enter Try.func14, Try.ntmps14
  go_wp2_with fail
  refine (kindNumberOk_val 1 true (by decide) w).mono ?_
  rintro e w' ⟨rfl, rfl⟩
  go_wp2_with fail
  refine (kinds_any w).mono ?_
  rintro e w1 ⟨rfl, hb1⟩
  have HB1 := Lib.hid hb1
  have HI1 := Lib.hid (HI.out.next hb1)
  clear hb1
  go_wp2_with fail
  refine (CompanyOk_any a n cap f w1 HI1.out).mono ?_
  rintro e w2 ⟨rfl, hb2⟩
  have HB2 := Lib.hid (HB1.out.trans (hb2.mono HB1.out.size))
  clear hb2
  go_wp2_with fail
  go_ret
  exact ⟨rfl, HB2.out⟩
set_option maxRecDepth 100000 in
theorem KindOk_2 (a : Option Addr) (n cap : Nat) (f : Nat → Int) (w : World) (hi : Ints w a n f) :
    Calls Try.prog 14 #[.slice a n cap, .int .i64 2] w fun e w' => e = .returned (.bool (weakB n f)) ∧ Below w.heap.size w w' := by
  have HI := Lib.hid hi; clear hi
  have hen := enters_of (P := Try.prog) Try.func65 (by kernel_rfl) rfl
  have hix : ∀ w1, (Instr.index 48 (.agg #[.func (.func 20) #[] #[], .func (.func 64) #[] #[], .func (.func 65) #[] #[], .func (.func 66) #[] #[], .func (.func 67) #[] #[], .func (.func 68) #[] #[]]) (.int .i64 2)).run Try.prog w1 = .ok (.func (.func 65) #[] #[]) w1 := fun w1 => by kernel_rfl
  go_enter Try.func14, Try.ntmps14
  go_wp2_with fail
  refine (kindNumberOk_val 2 true (by decide) w).mono ?_
  rintro e w' ⟨rfl, rfl⟩
  go_wp2_with fail
  refine (kinds_any w).mono ?_
  rintro e w1 ⟨rfl, hb1⟩
  have HB1 := Lib.hid hb1
  have HI1 := Lib.hid (HI.out.next hb1)
  clear hb1
  go_wp2_with fail
  refine (WeakOk_any a n cap f w1 HI1.out).mono ?_
  rintro e w2 ⟨rfl, hb2⟩
  have HB2 := Lib.hid (HB1.out.trans (hb2.mono HB1.out.size))
  clear hb2
  go_wp2_with fail
  go_ret
  exact ⟨rfl, HB2.out⟩
set_option maxRecDepth 100000 in
theorem KindOk_3 (a : Option Addr) (n cap : Nat) (f : Nat → Int) (w : World) (hi : Ints w a n f) :
    Calls Try.prog 14 #[.slice a n cap, .int .i64 3] w fun e w' => e = .returned (.bool (strongB n f)) ∧ Below w.heap.size w w' := by
  have HI := Lib.hid hi; clear hi
  have hen := enters_of (P := Try.prog) Try.func66 (by kernel_rfl) rfl
  have hix : ∀ w1, (Instr.index 48 (.agg #[.func (.func 20) #[] #[], .func (.func 64) #[] #[], .func (.func 65) #[] #[], .func (.func 66) #[] #[], .func (.func 67) #[] #[], .func (.func 68) #[] #[]]) (.int .i64 3)).run Try.prog w1 = .ok (.func (.func 66) #[] #[]) w1 := fun w1 => by kernel_rfl
  go_enter Try.func14, Try.ntmps14
  go_wp2_with fail
  refine (kindNumberOk_val 3 true (by decide) w).mono ?_
  rintro e w' ⟨rfl, rfl⟩
  go_wp2_with fail
  refine (kinds_any w).mono ?_
  rintro e w1 ⟨rfl, hb1⟩
  have HB1 := Lib.hid hb1
  have HI1 := Lib.hid (HI.out.next hb1)
  clear hb1
  go_wp2_with fail
  refine (StrongOk_any a n cap f w1 HI1.out).mono ?_
  rintro e w2 ⟨rfl, hb2⟩
  have HB2 := Lib.hid (HB1.out.trans (hb2.mono HB1.out.size))
  clear hb2
  go_wp2_with fail
  go_ret
  exact ⟨rfl, HB2.out⟩
set_option maxRecDepth 100000 in
theorem KindOk_4 (a : Option Addr) (n cap : Nat) (f : Nat → Int) (w : World) (hi : Ints w a n f) :
    Calls Try.prog 14 #[.slice a n cap, .int .i64 4] w fun e w' => e = .returned (.bool (extendedB n f)) ∧ Below w.heap.size w w' := by
  have HI := Lib.hid hi; clear hi
  have hen := enters_of (P := Try.prog) Try.func67 (by kernel_rfl) rfl
  have hix : ∀ w1, (Instr.index 48 (.agg #[.func (.func 20) #[] #[], .func (.func 64) #[] #[], .func (.func 65) #[] #[], .func (.func 66) #[] #[], .func (.func 67) #[] #[], .func (.func 68) #[] #[]]) (.int .i64 4)).run Try.prog w1 = .ok (.func (.func 67) #[] #[]) w1 := fun w1 => by kernel_rfl
  go_enter Try.func14, Try.ntmps14
  go_wp2_with fail
  refine (kindNumberOk_val 4 true (by decide) w).mono ?_
  rintro e w' ⟨rfl, rfl⟩
  go_wp2_with fail
  refine (kinds_any w).mono ?_
  rintro e w1 ⟨rfl, hb1⟩
  have HB1 := Lib.hid hb1
  have HI1 := Lib.hid (HI.out.next hb1)
  clear hb1
  go_wp2_with fail
  refine (ExtendedOk_any a n cap f w1 HI1.out).mono ?_
  rintro e w2 ⟨rfl, hb2⟩
  have HB2 := Lib.hid (HB1.out.trans (hb2.mono HB1.out.size))
  clear hb2
  go_wp2_with fail
  go_ret
  exact ⟨rfl, HB2.out⟩
set_option maxRecDepth 100000 in
theorem KindOk_5 (a : Option Addr) (n cap : Nat) (f : Nat → Int) (w : World) (hi : Ints w a n f) :
    Calls Try.prog 14 #[.slice a n cap, .int .i64 5] w fun e w' => e = .returned (.bool (classB n f)) ∧ Below w.heap.size w w' := by
  have HI := Lib.hid hi; clear hi
  have hen := enters_of (P := Try.prog) Try.func68 (by kernel_rfl) rfl
  have hix : ∀ w1, (Instr.index 48 (.agg #[.func (.func 20) #[] #[], .func (.func 64) #[] #[], .func (.func 65) #[] #[], .func (.func 66) #[] #[], .func (.func 67) #[] #[], .func (.func 68) #[] #[]]) (.int .i64 5)).run Try.prog w1 = .ok (.func (.func 68) #[] #[]) w1 := fun w1 => by kernel_rfl
  go_enter Try.func14, Try.ntmps14
  go_wp2_with fail
  refine (kindNumberOk_val 5 true (by decide) w).mono ?_
  rintro e w' ⟨rfl, rfl⟩
  go_wp2_with fail
  refine (kinds_any w).mono ?_
  rintro e w1 ⟨rfl, hb1⟩
  have HB1 := Lib.hid hb1
  have HI1 := Lib.hid (HI.out.next hb1)
  clear hb1
  go_wp2_with fail
  refine (ClassicalOk_any a n cap f w1 HI1.out).mono ?_
  rintro e w2 ⟨rfl, hb2⟩
  have HB2 := Lib.hid (HB1.out.trans (hb2.mono HB1.out.size))
  clear hb2
  go_wp2_with fail
  go_ret
  exact ⟨rfl, HB2.out⟩
theorem KindOk_any (a : Option Addr) (n cap : Nat) (f : Nat → Int) (k : Int) (w : World) (hi : Ints w a n f) :
    Calls Try.prog 14 #[.slice a n cap, .int .i64 k] w fun e w' => e = .returned (.bool (kindB n f k)) ∧ Below w.heap.size w w' := by
  by_cases h : 0 ≤ k ∧ k < 6
  · have hc : k = 0 ∨ k = 1 ∨ k = 2 ∨ k = 3 ∨ k = 4 ∨ k = 5 := by omega
    rcases hc with rfl | rfl | rfl | rfl | rfl | rfl
    · exact KindOk_0 a n cap f w hi
    · exact KindOk_1 a n cap f w hi
    · exact KindOk_2 a n cap f w hi
    · exact KindOk_3 a n cap f w hi
    · exact KindOk_4 a n cap f w hi
    · exact KindOk_5 a n cap f w hi
  · have e : kindB n f k = false := by
      unfold kindB
      rw [if_neg (by omega), if_neg (by omega), if_neg (by omega), if_neg (by omega), if_neg (by omega), if_neg (by omega)]
    rw [e]
    exact KindOk_no a n cap f k (by rw [Bool.and_eq_false_iff, decide_eq_false_iff_not, decide_eq_false_iff_not]; omega) w
theorem KindOk_val (a : Option Addr) (n cap : Nat) (f : Nat → Int) (k : Int) (v : Bool) (w : World) (hv : kindB n f k = v) (hi : Ints w a n f) :
    Calls Try.prog 14 #[.slice a n cap, .int .i64 k] w fun e w' => e = .returned (.bool v) ∧ Below w.heap.size w w' := by subst hv; exact KindOk_any a n cap f k w hi
theorem specKindOk_0 (a : Option Addr) (n cap : Nat) (f : Nat → Int) (w : World) (hi : Ints w a n f) :
    Calls Try.prog 15 #[.slice a n cap, .int .i64 0] w fun e w' => e = .returned (.bool (worldB n f)) ∧ Drew w w' := by
  have HI := Lib.hid hi; clear hi
  go_enter Try.func15, Try.ntmps15
  go_wp2_with fail
  refine (specWorldOk_any a n cap f w HI.out).mono ?_
  rintro e w2 ⟨rfl, hd⟩
  go_wp2_with fail
  go_ret
  exact ⟨rfl, hd⟩
theorem specKindOk_1 (a : Option Addr) (n cap : Nat) (f : Nat → Int) (w : World) (hi : Ints w a n f) :
    Calls Try.prog 15 #[.slice a n cap, .int .i64 1] w fun e w' => e = .returned (.bool (companyB n f)) ∧ Drew w w' := by
  have HI := Lib.hid hi; clear hi
  go_enter Try.func15, Try.ntmps15
  go_wp2_with fail
  refine (specCompanyOk_any a n cap f w HI.out).mono ?_
  rintro e w2 ⟨rfl, hd⟩
  go_wp2_with fail
  go_ret
  exact ⟨rfl, hd⟩
theorem specKindOk_2 (a : Option Addr) (n cap : Nat) (f : Nat → Int) (w : World) (hi : Ints w a n f) :
    Calls Try.prog 15 #[.slice a n cap, .int .i64 2] w fun e w' => e = .returned (.bool (weakB n f)) ∧ Drew w w' := by
  have HI := Lib.hid hi; clear hi
  go_enter Try.func15, Try.ntmps15
  go_wp2_with fail
  refine (specWeakOk_any a n cap f w HI.out).mono ?_
  rintro e w2 ⟨rfl, hd⟩
  go_wp2_with fail
  go_ret
  exact ⟨rfl, hd⟩
theorem specKindOk_3 (a : Option Addr) (n cap : Nat) (f : Nat → Int) (w : World) (hi : Ints w a n f) :
    Calls Try.prog 15 #[.slice a n cap, .int .i64 3] w fun e w' => e = .returned (.bool (strongB n f)) ∧ Drew w w' := by
  have HI := Lib.hid hi; clear hi
  go_enter Try.func15, Try.ntmps15
  go_wp2_with fail
  refine (specStrongOk_any a n cap f w HI.out).mono ?_
  rintro e w2 ⟨rfl, hd⟩
  go_wp2_with fail
  go_ret
  exact ⟨rfl, hd⟩
theorem specKindOk_4 (a : Option Addr) (n cap : Nat) (f : Nat → Int) (w : World) (hi : Ints w a n f) :
    Calls Try.prog 15 #[.slice a n cap, .int .i64 4] w fun e w' => e = .returned (.bool (extendedB n f)) ∧ Drew w w' := by
  have HI := Lib.hid hi; clear hi
  go_enter Try.func15, Try.ntmps15
  go_wp2_with fail
  refine (specExtendedOk_any a n cap f w HI.out).mono ?_
  rintro e w2 ⟨rfl, hd⟩
  go_wp2_with fail
  go_ret
  exact ⟨rfl, hd⟩
theorem specKindOk_5 (a : Option Addr) (n cap : Nat) (f : Nat → Int) (w : World) (hi : Ints w a n f) :
    Calls Try.prog 15 #[.slice a n cap, .int .i64 5] w fun e w' => e = .returned (.bool (classB n f)) ∧ Drew w w' := by
  have HI := Lib.hid hi; clear hi
  go_enter Try.func15, Try.ntmps15
  go_wp2_with fail
  refine (specClassicalOk_any a n cap f w HI.out).mono ?_
  rintro e w2 ⟨rfl, hd⟩
  go_wp2_with fail
  go_ret
  exact ⟨rfl, hd⟩
theorem specKindOk_no (a : Option Addr) (n cap : Nat) (f : Nat → Int) (k : Int) (h : ¬ (0 ≤ k ∧ k < 6)) (w : World) :
    Calls Try.prog 15 #[.slice a n cap, .int .i64 k] w fun e w' => e = .returned (.bool false) ∧ Drew w w' := by
  have h0 : (k == 0) = false := by rw [beq_eq_false_iff_ne]; omega
  have h1 : (k == 1) = false := by rw [beq_eq_false_iff_ne]; omega
  have h2 : (k == 2) = false := by rw [beq_eq_false_iff_ne]; omega
  have h3 : (k == 3) = false := by rw [beq_eq_false_iff_ne]; omega
  have h4 : (k == 4) = false := by rw [beq_eq_false_iff_ne]; omega
  have h5 : (k == 5) = false := by rw [beq_eq_false_iff_ne]; omega
  clear h
  go_enter Try.func15, Try.ntmps15
  go_wp2_with fail
  go_ret
  exact ⟨rfl, Drew.refl _⟩
theorem specKindOk_any (a : Option Addr) (n cap : Nat) (f : Nat → Int) (k : Int) (w : World) (hi : Ints w a n f) :
    Calls Try.prog 15 #[.slice a n cap, .int .i64 k] w fun e w' => e = .returned (.bool (kindB n f k)) ∧ Drew w w' := by
  by_cases h : 0 ≤ k ∧ k < 6
  · have hc : k = 0 ∨ k = 1 ∨ k = 2 ∨ k = 3 ∨ k = 4 ∨ k = 5 := by omega
    rcases hc with rfl | rfl | rfl | rfl | rfl | rfl
    · exact specKindOk_0 a n cap f w hi
    · exact specKindOk_1 a n cap f w hi
    · exact specKindOk_2 a n cap f w hi
    · exact specKindOk_3 a n cap f w hi
    · exact specKindOk_4 a n cap f w hi
    · exact specKindOk_5 a n cap f w hi
  · have e : kindB n f k = false := by
      unfold kindB
      rw [if_neg (by omega), if_neg (by omega), if_neg (by omega), if_neg (by omega), if_neg (by omega), if_neg (by omega)]
    rw [e]
    exact specKindOk_no a n cap f k h w
theorem specKindOk_val (a : Option Addr) (n cap : Nat) (f : Nat → Int) (k : Int) (v : Bool) (w : World) (hv : kindB n f k = v) (hi : Ints w a n f) :
    Calls Try.prog 15 #[.slice a n cap, .int .i64 k] w fun e w' => e = .returned (.bool v) ∧ Drew w w' := by subst hv; exact specKindOk_any a n cap f k w hi
end Go.Proofs.Ytglnefffkcillaa
