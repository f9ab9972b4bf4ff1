import Derived.Test.YtglnefffkcillaaWcG
import Derived.Test.YtglnefffkcillaaClass
namespace Go.Proofs.Ytglnefffkcillaa
set_option linter.unusedVariables false
set_option linter.unusedSimpArgs false
open Go.RowKit Go.Maps
attribute [local go_sem] Oper.semAt_some

/-- the sets of so many things -/
def setsL (n : Nat) : List Int := subsL ((2 ^ n - 1 : Nat) : Int) (2 ^ n)
/-- the values of a list -/
def rv (L : List Int) (i : Nat) : Int := L.getD i 0
/-- is a list a world? -/
def wlB (L : List Int) : Bool := worldB L.length (rv L)
/-- all worlds of so many things -/
def wlL (n : Nat) : List (List Int) := (llK (selfC (setsL n)) n).filter wlB

theorem setsSelf_1 (w : World) :
    Calls Try.prog 75 #[.int .i64 1] w fun e w' => ∃ A gs cs, e = .returned (.func (.func 90) #[] #[.pointer (some ⟨A, 0, none⟩)]) ∧ Boxed w' A 23 (.slice (some ⟨gs, 0, none⟩) (setsL 1).length cs) ∧
      Row w' gs 0 (setsL 1).length (fun i => (setsL 1).getD i 0) ∧ w.heap.size ≤ A ∧ w.heap.size ≤ gs ∧ gs < w'.heap.size ∧ Below w.heap.size w w' := by
  have hmf : ∀ (fn : Fn) (first cap : Array Value) (w : World), (Instr.makeFunc fn first cap).run Try.prog w = .ok (.func fn first cap) w := fun _ _ _ _ => rfl
  have HS : Calls Try.prog 89 #[.int .i64 1] w (Gives 3 (setsL 1) w) := setsInt_any 1 1 rfl (by decide) w
  have h1 : 1 ≤ (setsL 1).length := by decide +kernel
  obtain ⟨SL, hSL⟩ : ∃ SL, setsL 1 = SL := ⟨_, rfl⟩
  rw [hSL] at HS h1 ⊢
  clear hSL
  have HS := Lib.hid HS
  go_enter Try.func75, Try.ntmps75
  go_wp2_with fail
  refine HS.out.mono ?_
  rintro e w1 ⟨v1, rfl, ho1, hb1⟩
  obtain ⟨g1, c1, rfl, hg, hgl, _, _, hr, _⟩ := ho1.shape h1
  have hb := alloc_below w1 (.cells #[.slice (some ⟨g1, 0, none⟩) SL.length c1] 23)
  have hbx := Boxed.new w1 23 (.slice (some ⟨g1, 0, none⟩) SL.length c1)
  have hs := hb1.size
  have HF := Lib.hid (show _ ∧ _ ∧ _ from ⟨hbx, hr.below hb hgl, hb1.trans (hb.mono hb1.size)⟩)
  clear hb hbx hr ho1 hb1
  go_wp2_with fail
  go_ret
  exact ⟨_, g1, c1, rfl, HF.out.1, HF.out.2.1, hs, hg, by rw [alloc_size]; omega, HF.out.2.2⟩
theorem setsSelf_2 (w : World) :
    Calls Try.prog 75 #[.int .i64 2] w fun e w' => ∃ A gs cs, e = .returned (.func (.func 90) #[] #[.pointer (some ⟨A, 0, none⟩)]) ∧ Boxed w' A 23 (.slice (some ⟨gs, 0, none⟩) (setsL 2).length cs) ∧
      Row w' gs 0 (setsL 2).length (fun i => (setsL 2).getD i 0) ∧ w.heap.size ≤ A ∧ w.heap.size ≤ gs ∧ gs < w'.heap.size ∧ Below w.heap.size w w' := by
  have hmf : ∀ (fn : Fn) (first cap : Array Value) (w : World), (Instr.makeFunc fn first cap).run Try.prog w = .ok (.func fn first cap) w := fun _ _ _ _ => rfl
  have HS : Calls Try.prog 89 #[.int .i64 3] w (Gives 3 (setsL 2) w) := setsInt_any 3 3 rfl (by decide) w
  have h1 : 1 ≤ (setsL 2).length := by decide +kernel
  obtain ⟨SL, hSL⟩ : ∃ SL, setsL 2 = SL := ⟨_, rfl⟩
  rw [hSL] at HS h1 ⊢
  clear hSL
  have HS := Lib.hid HS
  go_enter Try.func75, Try.ntmps75
  go_wp2_with fail
  refine HS.out.mono ?_
  rintro e w1 ⟨v1, rfl, ho1, hb1⟩
  obtain ⟨g1, c1, rfl, hg, hgl, _, _, hr, _⟩ := ho1.shape h1
  have hb := alloc_below w1 (.cells #[.slice (some ⟨g1, 0, none⟩) SL.length c1] 23)
  have hbx := Boxed.new w1 23 (.slice (some ⟨g1, 0, none⟩) SL.length c1)
  have hs := hb1.size
  have HF := Lib.hid (show _ ∧ _ ∧ _ from ⟨hbx, hr.below hb hgl, hb1.trans (hb.mono hb1.size)⟩)
  clear hb hbx hr ho1 hb1
  go_wp2_with fail
  go_ret
  exact ⟨_, g1, c1, rfl, HF.out.1, HF.out.2.1, hs, hg, by rw [alloc_size]; omega, HF.out.2.2⟩
theorem setsSelf_3 (w : World) :
    Calls Try.prog 75 #[.int .i64 3] w fun e w' => ∃ A gs cs, e = .returned (.func (.func 90) #[] #[.pointer (some ⟨A, 0, none⟩)]) ∧ Boxed w' A 23 (.slice (some ⟨gs, 0, none⟩) (setsL 3).length cs) ∧
      Row w' gs 0 (setsL 3).length (fun i => (setsL 3).getD i 0) ∧ w.heap.size ≤ A ∧ w.heap.size ≤ gs ∧ gs < w'.heap.size ∧ Below w.heap.size w w' := by
  have hmf : ∀ (fn : Fn) (first cap : Array Value) (w : World), (Instr.makeFunc fn first cap).run Try.prog w = .ok (.func fn first cap) w := fun _ _ _ _ => rfl
  have HS : Calls Try.prog 89 #[.int .i64 7] w (Gives 3 (setsL 3) w) := setsInt_any 7 7 rfl (by decide) w
  have h1 : 1 ≤ (setsL 3).length := by decide +kernel
  obtain ⟨SL, hSL⟩ : ∃ SL, setsL 3 = SL := ⟨_, rfl⟩
  rw [hSL] at HS h1 ⊢
  clear hSL
  have HS := Lib.hid HS
  go_enter Try.func75, Try.ntmps75
  go_wp2_with fail
  refine HS.out.mono ?_
  rintro e w1 ⟨v1, rfl, ho1, hb1⟩
  obtain ⟨g1, c1, rfl, hg, hgl, _, _, hr, _⟩ := ho1.shape h1
  have hb := alloc_below w1 (.cells #[.slice (some ⟨g1, 0, none⟩) SL.length c1] 23)
  have hbx := Boxed.new w1 23 (.slice (some ⟨g1, 0, none⟩) SL.length c1)
  have hs := hb1.size
  have HF := Lib.hid (show _ ∧ _ ∧ _ from ⟨hbx, hr.below hb hgl, hb1.trans (hb.mono hb1.size)⟩)
  clear hb hbx hr ho1 hb1
  go_wp2_with fail
  go_ret
  exact ⟨_, g1, c1, rfl, HF.out.1, HF.out.2.1, hs, hg, by rw [alloc_size]; omega, HF.out.2.2⟩
theorem setsSelf_4 (w : World) :
    Calls Try.prog 75 #[.int .i64 4] w fun e w' => ∃ A gs cs, e = .returned (.func (.func 90) #[] #[.pointer (some ⟨A, 0, none⟩)]) ∧ Boxed w' A 23 (.slice (some ⟨gs, 0, none⟩) (setsL 4).length cs) ∧
      Row w' gs 0 (setsL 4).length (fun i => (setsL 4).getD i 0) ∧ w.heap.size ≤ A ∧ w.heap.size ≤ gs ∧ gs < w'.heap.size ∧ Below w.heap.size w w' := by
  have hmf : ∀ (fn : Fn) (first cap : Array Value) (w : World), (Instr.makeFunc fn first cap).run Try.prog w = .ok (.func fn first cap) w := fun _ _ _ _ => rfl
  have HS : Calls Try.prog 89 #[.int .i64 15] w (Gives 3 (setsL 4) w) := setsInt_any 15 15 rfl (by decide) w
  have h1 : 1 ≤ (setsL 4).length := by decide +kernel
  obtain ⟨SL, hSL⟩ : ∃ SL, setsL 4 = SL := ⟨_, rfl⟩
  rw [hSL] at HS h1 ⊢
  clear hSL
  have HS := Lib.hid HS
  go_enter Try.func75, Try.ntmps75
  go_wp2_with fail
  refine HS.out.mono ?_
  rintro e w1 ⟨v1, rfl, ho1, hb1⟩
  obtain ⟨g1, c1, rfl, hg, hgl, _, _, hr, _⟩ := ho1.shape h1
  have hb := alloc_below w1 (.cells #[.slice (some ⟨g1, 0, none⟩) SL.length c1] 23)
  have hbx := Boxed.new w1 23 (.slice (some ⟨g1, 0, none⟩) SL.length c1)
  have hs := hb1.size
  have HF := Lib.hid (show _ ∧ _ ∧ _ from ⟨hbx, hr.below hb hgl, hb1.trans (hb.mono hb1.size)⟩)
  clear hb hbx hr ho1 hb1
  go_wp2_with fail
  go_ret
  exact ⟨_, g1, c1, rfl, HF.out.1, HF.out.2.1, hs, hg, by rw [alloc_size]; omega, HF.out.2.2⟩
theorem setsWithItself_any (n : Nat) (h1 : 1 ≤ n) (h4 : n ≤ 4) (w : World) :
    Calls Try.prog 75 #[.int .i64 (n : Int)] w fun e w' => ∃ A gs cs, e = .returned (.func (.func 90) #[] #[.pointer (some ⟨A, 0, none⟩)]) ∧ Boxed w' A 23 (.slice (some ⟨gs, 0, none⟩) (setsL n).length cs) ∧
      Row w' gs 0 (setsL n).length (fun i => (setsL n).getD i 0) ∧ w.heap.size ≤ A ∧ w.heap.size ≤ gs ∧ gs < w'.heap.size ∧ Below w.heap.size w w' := by
  have hc : n = 1 ∨ n = 2 ∨ n = 3 ∨ n = 4 := by omega
  rcases hc with rfl | rfl | rfl | rfl
  · exact setsSelf_1 w
  · exact setsSelf_2 w
  · exact setsSelf_3 w
  · exact setsSelf_4 w
theorem sets_facts (n : Nat) (h1 : 1 ≤ n) (h4 : n ≤ 4) : 1 ≤ (setsL n).length ∧ (setsL n).length ≤ 16 ∧ ∀ x ∈ setsL n, 0 < x ∧ x < 16 := by
  have hc : n = 1 ∨ n = 2 ∨ n = 3 ∨ n = 4 := by omega
  rcases hc with rfl | rfl | rfl | rfl <;> decide +kernel
end Go.Proofs.Ytglnefffkcillaa
