import Derived.Test.YtglnefffkcillaaWcK
import Derived.Test.YtglnefffkcillaaDrawR
import Derived.Test.YtglnefffkcillaaLawC
namespace Go.Proofs.Ytglnefffkcillaa
set_option linter.unusedVariables false
set_option linter.unusedSimpArgs false
open Go.RowKit

theorem one11_I64 : ∀ x ∈ ([1] : List Int), I64 x := by intro x hx; simp at hx; subst hx; unfold I64; omega
theorem kd_lit5 : kindB 1 (fun i => ([1] : List Int).getD i 0) 5 = true := by decide +kernel
theorem kd_lit6 (n : Nat) (f : Nat → Int) : kindB n f 6 = false := by unfold kindB; rfl
theorem company_world {n : Nat} {f : Nat → Int} (h : companyB n f = true) : worldB n f = true := by unfold companyB at h; rw [Bool.and_eq_true] at h; exact h.1
theorem extended_world {n : Nat} {f : Nat → Int} (h : extendedB n f = true) : worldB n f = true := by unfold extendedB at h; rw [Bool.and_eq_true] at h; exact h.1
theorem kd_1 {n : Nat} {f : Nat → Int} (h64 : ∀ i, i < n → I64 (f i)) (h : kindB n f 1 = true) : kindB n f 0 = true := company_world h
theorem kd_2 {n : Nat} {f : Nat → Int} (h64 : ∀ i, i < n → I64 (f i)) (h : kindB n f 2 = true) : kindB n f 1 = true := weak_company h64 h
theorem kd_3 {n : Nat} {f : Nat → Int} (h64 : ∀ i, i < n → I64 (f i)) (h : kindB n f 3 = true) : kindB n f 2 = true := strong_weak h64 h
theorem kd_4 {n : Nat} {f : Nat → Int} (h64 : ∀ i, i < n → I64 (f i)) (h : kindB n f 4 = true) : kindB n f 0 = true := extended_world h
theorem kd_5 {n : Nat} {f : Nat → Int} (h64 : ∀ i, i < n → I64 (f i)) (h : kindB n f 5 = true) : kindB n f 3 = true := (class_split h).1
theorem kd_34 {n : Nat} {f : Nat → Int} (h64 : ∀ i, i < n → I64 (f i)) (h : kindB n f 3 = true) : kindB n f 4 = true := strong_extended h64 h

set_option maxRecDepth 100000 in
set_option maxHeartbeats 6400000 in
theorem lawKindOk (a : Option Addr) (n cap : Nat) (w : World) (h : BytesIn w a n cap) :
    Calls Try.prog 3 #[.slice a n cap] w (TrueEnd w) := by
  have hlen := h.len
  have H := Lib.hid h; clear h
  by_cases hn : 1048576 < n
  · go_enter Try.func3, Try.ntmps3
    go_wp2_with fail
    go_ret
    exact ⟨rfl, Below.refl _ _⟩
  · go_enter Try.func3, Try.ntmps3
    go_wp2_with fail
    refine (DrawKindOk_any _ _ _ _ H.out).mono ?_
    rintro e w1 ⟨d, m, c, f, x, rfl, hm, hx, hi, hb1⟩
    have h64 := Lib.hid hi.i64
    clear hx
    obtain ⟨v, hv⟩ : ∃ v, kindB m f x = v := ⟨_, rfl⟩
    have HV := Lib.hid hv; clear hv
    have hne : (v != v) = false := by simp
    go_wp2_with fail
    refine (KindOk_val _ _ _ f x v _ HV.out hi).mono ?_
    rintro e w9 ⟨rfl, hb2⟩
    replace hi := hi.next hb2; replace hb1 := below_onto hb1 hb2; clear hb2
    go_wp2_with fail
    refine (specKindOk_val _ _ _ f x v _ HV.out hi).mono ?_
    rintro e w9 ⟨rfl, hd3⟩
    replace hi := hi.drew hd3; replace hb1 := below_onto hb1 hd3.below; clear hd3
    have HI := Lib.hid hi; have HB := Lib.hid hb1
    clear hi hb1
    go_wp2_with fail
    go_loopw [6, 7] (fun i _ wr => ∃ k : Nat, 1 ≤ k ∧ k ≤ 6 ∧ i = .int .i64 k ∧ Hid (Ints wr d m f) ∧ Hid (Below w.heap.size w wr)) (fun i _ _ => 6 - (intOf i).toNat)
    case atStart => exact ⟨1, by omega, by omega, rfl, HI, HB⟩
    case round =>
      obtain ⟨k, hk1, hk6, rfl, hi, hb1⟩ := hrel
      clear HI HB
      replace hi := hi.out; replace hb1 := hb1.out
      match k, hk1, hk6 with
      | 1, _, _ =>
        have hlit : Below w.heap.size w (wr.alloc (.cells #[.int .i64 0, .int .i64 0, .int .i64 1, .int .i64 2, .int .i64 0, .int .i64 3] 3)) := hb1.alloc hb1.size _
        replace hi := hi.next (alloc_below wr (.cells #[.int .i64 0, .int .i64 0, .int .i64 1, .int .i64 2, .int .i64 0, .int .i64 3] 3))
        obtain ⟨wL, hwL⟩ : ∃ wL, wr.alloc (.cells #[.int .i64 0, .int .i64 0, .int .i64 1, .int .i64 2, .int .i64 0, .int .i64 3] 3) = wL := ⟨_, rfl⟩
        have hcl : wL.cell? ⟨wr.heap.size, 1, none⟩ = some (.int .i64 0) := by rw [← hwL]; exact (cell_of_row _ _ 1 _ _ _ (heap_alloc_new wr _))
        rw [hwL] at hi hlit
        replace hb1 := hlit
        clear hlit
        cases hk : kindB m f 1 with
        | false =>
          have HK := Lib.hid hk; clear hk
          go_wp2_with fail
          refine (KindOk_val _ _ _ f 1 false _ HK.out hi).mono ?_
          rintro e w9 ⟨rfl, hb2⟩
          replace hi := hi.next hb2; replace hb1 := below_onto hb1 hb2; clear hb2
          have HI2 := Lib.hid hi; have HB2 := Lib.hid hb1
          go_wp2_with fail
          go_roundw
          case rel => exact ⟨2, by omega, by omega, rfl, HI2, HB2⟩
          case measure => simp [intOf]
        | true =>
          have HK := Lib.hid hk
          have HK2 := Lib.hid (kd_1 h64.out hk); clear hk
          go_wp2_with fail
          refine (KindOk_val _ _ _ f 1 true _ HK.out hi).mono ?_
          rintro e w9 ⟨rfl, hb2⟩
          replace hi := hi.next hb2; replace hb1 := below_onto hb1 hb2; clear hb2
          go_wp2_with fail
          refine (KindOk_val _ _ _ f 0 true _ HK2.out hi).mono ?_
          rintro e w9 ⟨rfl, hb2⟩
          replace hi := hi.next hb2; replace hb1 := below_onto hb1 hb2; clear hb2
          have HI2 := Lib.hid hi; have HB2 := Lib.hid hb1
          go_wp2_with fail
          go_roundw
          case rel => exact ⟨2, by omega, by omega, rfl, HI2, HB2⟩
          case measure => simp [intOf]
      | 2, _, _ =>
        have hlit : Below w.heap.size w (wr.alloc (.cells #[.int .i64 0, .int .i64 0, .int .i64 1, .int .i64 2, .int .i64 0, .int .i64 3] 3)) := hb1.alloc hb1.size _
        replace hi := hi.next (alloc_below wr (.cells #[.int .i64 0, .int .i64 0, .int .i64 1, .int .i64 2, .int .i64 0, .int .i64 3] 3))
        obtain ⟨wL, hwL⟩ : ∃ wL, wr.alloc (.cells #[.int .i64 0, .int .i64 0, .int .i64 1, .int .i64 2, .int .i64 0, .int .i64 3] 3) = wL := ⟨_, rfl⟩
        have hcl : wL.cell? ⟨wr.heap.size, 2, none⟩ = some (.int .i64 1) := by rw [← hwL]; exact (cell_of_row _ _ 2 _ _ _ (heap_alloc_new wr _))
        rw [hwL] at hi hlit
        replace hb1 := hlit
        clear hlit
        cases hk : kindB m f 2 with
        | false =>
          have HK := Lib.hid hk; clear hk
          go_wp2_with fail
          refine (KindOk_val _ _ _ f 2 false _ HK.out hi).mono ?_
          rintro e w9 ⟨rfl, hb2⟩
          replace hi := hi.next hb2; replace hb1 := below_onto hb1 hb2; clear hb2
          have HI2 := Lib.hid hi; have HB2 := Lib.hid hb1
          go_wp2_with fail
          go_roundw
          case rel => exact ⟨3, by omega, by omega, rfl, HI2, HB2⟩
          case measure => simp [intOf]
        | true =>
          have HK := Lib.hid hk
          have HK2 := Lib.hid (kd_2 h64.out hk); clear hk
          go_wp2_with fail
          refine (KindOk_val _ _ _ f 2 true _ HK.out hi).mono ?_
          rintro e w9 ⟨rfl, hb2⟩
          replace hi := hi.next hb2; replace hb1 := below_onto hb1 hb2; clear hb2
          go_wp2_with fail
          refine (KindOk_val _ _ _ f 1 true _ HK2.out hi).mono ?_
          rintro e w9 ⟨rfl, hb2⟩
          replace hi := hi.next hb2; replace hb1 := below_onto hb1 hb2; clear hb2
          have HI2 := Lib.hid hi; have HB2 := Lib.hid hb1
          go_wp2_with fail
          go_roundw
          case rel => exact ⟨3, by omega, by omega, rfl, HI2, HB2⟩
          case measure => simp [intOf]
      | 3, _, _ =>
        have hlit : Below w.heap.size w (wr.alloc (.cells #[.int .i64 0, .int .i64 0, .int .i64 1, .int .i64 2, .int .i64 0, .int .i64 3] 3)) := hb1.alloc hb1.size _
        replace hi := hi.next (alloc_below wr (.cells #[.int .i64 0, .int .i64 0, .int .i64 1, .int .i64 2, .int .i64 0, .int .i64 3] 3))
        obtain ⟨wL, hwL⟩ : ∃ wL, wr.alloc (.cells #[.int .i64 0, .int .i64 0, .int .i64 1, .int .i64 2, .int .i64 0, .int .i64 3] 3) = wL := ⟨_, rfl⟩
        have hcl : wL.cell? ⟨wr.heap.size, 3, none⟩ = some (.int .i64 2) := by rw [← hwL]; exact (cell_of_row _ _ 3 _ _ _ (heap_alloc_new wr _))
        rw [hwL] at hi hlit
        replace hb1 := hlit
        clear hlit
        cases hk : kindB m f 3 with
        | false =>
          have HK := Lib.hid hk; clear hk
          go_wp2_with fail
          refine (KindOk_val _ _ _ f 3 false _ HK.out hi).mono ?_
          rintro e w9 ⟨rfl, hb2⟩
          replace hi := hi.next hb2; replace hb1 := below_onto hb1 hb2; clear hb2
          have HI2 := Lib.hid hi; have HB2 := Lib.hid hb1
          go_wp2_with fail
          go_roundw
          case rel => exact ⟨4, by omega, by omega, rfl, HI2, HB2⟩
          case measure => simp [intOf]
        | true =>
          have HK := Lib.hid hk
          have HK2 := Lib.hid (kd_3 h64.out hk); clear hk
          go_wp2_with fail
          refine (KindOk_val _ _ _ f 3 true _ HK.out hi).mono ?_
          rintro e w9 ⟨rfl, hb2⟩
          replace hi := hi.next hb2; replace hb1 := below_onto hb1 hb2; clear hb2
          go_wp2_with fail
          refine (KindOk_val _ _ _ f 2 true _ HK2.out hi).mono ?_
          rintro e w9 ⟨rfl, hb2⟩
          replace hi := hi.next hb2; replace hb1 := below_onto hb1 hb2; clear hb2
          have HI2 := Lib.hid hi; have HB2 := Lib.hid hb1
          go_wp2_with fail
          go_roundw
          case rel => exact ⟨4, by omega, by omega, rfl, HI2, HB2⟩
          case measure => simp [intOf]
      | 4, _, _ =>
        have hlit : Below w.heap.size w (wr.alloc (.cells #[.int .i64 0, .int .i64 0, .int .i64 1, .int .i64 2, .int .i64 0, .int .i64 3] 3)) := hb1.alloc hb1.size _
        replace hi := hi.next (alloc_below wr (.cells #[.int .i64 0, .int .i64 0, .int .i64 1, .int .i64 2, .int .i64 0, .int .i64 3] 3))
        obtain ⟨wL, hwL⟩ : ∃ wL, wr.alloc (.cells #[.int .i64 0, .int .i64 0, .int .i64 1, .int .i64 2, .int .i64 0, .int .i64 3] 3) = wL := ⟨_, rfl⟩
        have hcl : wL.cell? ⟨wr.heap.size, 4, none⟩ = some (.int .i64 0) := by rw [← hwL]; exact (cell_of_row _ _ 4 _ _ _ (heap_alloc_new wr _))
        rw [hwL] at hi hlit
        replace hb1 := hlit
        clear hlit
        cases hk : kindB m f 4 with
        | false =>
          have HK := Lib.hid hk; clear hk
          go_wp2_with fail
          refine (KindOk_val _ _ _ f 4 false _ HK.out hi).mono ?_
          rintro e w9 ⟨rfl, hb2⟩
          replace hi := hi.next hb2; replace hb1 := below_onto hb1 hb2; clear hb2
          have HI2 := Lib.hid hi; have HB2 := Lib.hid hb1
          go_wp2_with fail
          go_roundw
          case rel => exact ⟨5, by omega, by omega, rfl, HI2, HB2⟩
          case measure => simp [intOf]
        | true =>
          have HK := Lib.hid hk
          have HK2 := Lib.hid (kd_4 h64.out hk); clear hk
          go_wp2_with fail
          refine (KindOk_val _ _ _ f 4 true _ HK.out hi).mono ?_
          rintro e w9 ⟨rfl, hb2⟩
          replace hi := hi.next hb2; replace hb1 := below_onto hb1 hb2; clear hb2
          go_wp2_with fail
          refine (KindOk_val _ _ _ f 0 true _ HK2.out hi).mono ?_
          rintro e w9 ⟨rfl, hb2⟩
          replace hi := hi.next hb2; replace hb1 := below_onto hb1 hb2; clear hb2
          have HI2 := Lib.hid hi; have HB2 := Lib.hid hb1
          go_wp2_with fail
          go_roundw
          case rel => exact ⟨5, by omega, by omega, rfl, HI2, HB2⟩
          case measure => simp [intOf]
      | 5, _, _ =>
        have hlit : Below w.heap.size w (wr.alloc (.cells #[.int .i64 0, .int .i64 0, .int .i64 1, .int .i64 2, .int .i64 0, .int .i64 3] 3)) := hb1.alloc hb1.size _
        replace hi := hi.next (alloc_below wr (.cells #[.int .i64 0, .int .i64 0, .int .i64 1, .int .i64 2, .int .i64 0, .int .i64 3] 3))
        obtain ⟨wL, hwL⟩ : ∃ wL, wr.alloc (.cells #[.int .i64 0, .int .i64 0, .int .i64 1, .int .i64 2, .int .i64 0, .int .i64 3] 3) = wL := ⟨_, rfl⟩
        have hcl : wL.cell? ⟨wr.heap.size, 5, none⟩ = some (.int .i64 3) := by rw [← hwL]; exact (cell_of_row _ _ 5 _ _ _ (heap_alloc_new wr _))
        rw [hwL] at hi hlit
        replace hb1 := hlit
        clear hlit
        cases hk : kindB m f 5 with
        | false =>
          have HK := Lib.hid hk; clear hk
          go_wp2_with fail
          refine (KindOk_val _ _ _ f 5 false _ HK.out hi).mono ?_
          rintro e w9 ⟨rfl, hb2⟩
          replace hi := hi.next hb2; replace hb1 := below_onto hb1 hb2; clear hb2
          have HI2 := Lib.hid hi; have HB2 := Lib.hid hb1
          go_wp2_with fail
          go_roundw
          case rel => exact ⟨6, by omega, by omega, rfl, HI2, HB2⟩
          case measure => simp [intOf]
        | true =>
          have HK := Lib.hid hk
          have HK2 := Lib.hid (kd_5 h64.out hk); clear hk
          go_wp2_with fail
          refine (KindOk_val _ _ _ f 5 true _ HK.out hi).mono ?_
          rintro e w9 ⟨rfl, hb2⟩
          replace hi := hi.next hb2; replace hb1 := below_onto hb1 hb2; clear hb2
          go_wp2_with fail
          refine (KindOk_val _ _ _ f 3 true _ HK2.out hi).mono ?_
          rintro e w9 ⟨rfl, hb2⟩
          replace hi := hi.next hb2; replace hb1 := below_onto hb1 hb2; clear hb2
          have HI2 := Lib.hid hi; have HB2 := Lib.hid hb1
          go_wp2_with fail
          go_roundw
          case rel => exact ⟨6, by omega, by omega, rfl, HI2, HB2⟩
          case measure => simp [intOf]
      | 6, _, _ =>
        cases hk : kindB m f 3 with
        | false =>
          have HK := Lib.hid hk; clear hk
          go_wp2_with fail
          refine (KindOk_val _ _ _ f 3 false _ HK.out hi).mono ?_
          rintro e w9 ⟨rfl, hb2⟩
          replace hi := hi.next hb2; replace hb1 := below_onto hb1 hb2; clear hb2
          go_wp2_with fail
          refine (KindOk_val _ 1 _ (fun i => ([1] : List Int).getD i 0) 5 true _ kd_lit5 (lit_ints _ [1] one11_I64 (by decide) _ rfl _)).mono ?_
          rintro e w9 ⟨rfl, hb2⟩
          replace hb1 := below_onto hb1 (below_alloc_onto hb2); clear hb2
          go_wp2_with fail
          refine (KindOk_val _ 1 _ (fun i => ([1] : List Int).getD i 0) 6 false _ (kd_lit6 _ _) (lit_ints _ [1] one11_I64 (by decide) _ rfl _)).mono ?_
          rintro e w9 ⟨rfl, hb2⟩
          replace hb1 := below_onto hb1 (below_alloc_onto hb2); clear hb2
          go_wp2_with fail
          go_ret
          exact ⟨rfl, hb1⟩
        | true =>
          have HK := Lib.hid hk
          have HK2 := Lib.hid (kd_34 h64.out hk); clear hk
          go_wp2_with fail
          refine (KindOk_val _ _ _ f 3 true _ HK.out hi).mono ?_
          rintro e w9 ⟨rfl, hb2⟩
          replace hi := hi.next hb2; replace hb1 := below_onto hb1 hb2; clear hb2
          go_wp2_with fail
          refine (KindOk_val _ _ _ f 4 true _ HK2.out hi).mono ?_
          rintro e w9 ⟨rfl, hb2⟩
          replace hi := hi.next hb2; replace hb1 := below_onto hb1 hb2; clear hb2
          go_wp2_with fail
          refine (KindOk_val _ 1 _ (fun i => ([1] : List Int).getD i 0) 5 true _ kd_lit5 (lit_ints _ [1] one11_I64 (by decide) _ rfl _)).mono ?_
          rintro e w9 ⟨rfl, hb2⟩
          replace hb1 := below_onto hb1 (below_alloc_onto hb2); clear hb2
          go_wp2_with fail
          refine (KindOk_val _ 1 _ (fun i => ([1] : List Int).getD i 0) 6 false _ (kd_lit6 _ _) (lit_ints _ [1] one11_I64 (by decide) _ rfl _)).mono ?_
          rintro e w9 ⟨rfl, hb2⟩
          replace hb1 := below_onto hb1 (below_alloc_onto hb2); clear hb2
          go_wp2_with fail
          go_ret
          exact ⟨rfl, hb1⟩
      | k + 7, _, h => omega
end Go.Proofs.Ytglnefffkcillaa
