import Derived.Test.YtidcfcjmjgcfkaaLawA
import Derived.Test.YtidcfcjmjgcfkaaAxMathB
import Derived.Test.YtidcfcjmjgcfkaaDrawY3
namespace Go.Proofs.Ytidcfcjmjgcfkaa
open Go.RowKit

theorem CompanyOk_val (a : Option Addr) (n cap : Nat) (f : Nat → Int) (v : Bool) (w : World) (hv : companyB n f = v) (hi : Ints w a n f) :
    Calls Try.prog 11 #[.slice a n cap] w fun e w' => e = .returned (.bool v) ∧ Below w.heap.size w w' := by
  subst hv; exact CompanyOk_any a n cap f w hi
theorem specCompanyOk_val (a : Option Addr) (n cap : Nat) (f : Nat → Int) (v : Bool) (w : World) (hv : companyB n f = v) (hi : Ints w a n f) :
    Calls Try.prog 12 #[.slice a n cap] w fun e w' => e = .returned (.bool v) ∧ Drew w w' := by
  subst hv; exact specCompanyOk_any a n cap f w hi
theorem ExtendedOk_val (a : Option Addr) (n cap : Nat) (f : Nat → Int) (v : Bool) (w : World) (hv : extendedB n f = v) (hi : Ints w a n f) :
    Calls Try.prog 18 #[.slice a n cap] w fun e w' => e = .returned (.bool v) ∧ Below w.heap.size w w' := by
  subst hv; exact ExtendedOk_any a n cap f w hi
theorem specExtendedOk_val (a : Option Addr) (n cap : Nat) (f : Nat → Int) (v : Bool) (w : World) (hv : extendedB n f = v) (hi : Ints w a n f) :
    Calls Try.prog 21 #[.slice a n cap] w fun e w' => e = .returned (.bool v) ∧ Drew w w' := by
  subst hv; exact specExtendedOk_any a n cap f w hi
theorem WeakOk_val (a : Option Addr) (n cap : Nat) (f : Nat → Int) (v : Bool) (w : World) (hv : weakB n f = v) (hi : Ints w a n f) :
    Calls Try.prog 13 #[.slice a n cap] w fun e w' => e = .returned (.bool v) ∧ Below w.heap.size w w' := by
  subst hv; exact WeakOk_any a n cap f w hi
theorem specWeakOk_val (a : Option Addr) (n cap : Nat) (f : Nat → Int) (v : Bool) (w : World) (hv : weakB n f = v) (hi : Ints w a n f) :
    Calls Try.prog 24 #[.slice a n cap] w fun e w' => e = .returned (.bool v) ∧ Drew w w' := by
  subst hv; exact specWeakOk_any a n cap f w hi
theorem StrongOk_val (a : Option Addr) (n cap : Nat) (f : Nat → Int) (v : Bool) (w : World) (hv : strongB n f = v) (hi : Ints w a n f) :
    Calls Try.prog 15 #[.slice a n cap] w fun e w' => e = .returned (.bool v) ∧ Below w.heap.size w w' := by
  subst hv; exact StrongOk_any a n cap f w hi
theorem specStrongOk_val (a : Option Addr) (n cap : Nat) (f : Nat → Int) (v : Bool) (w : World) (hv : strongB n f = v) (hi : Ints w a n f) :
    Calls Try.prog 16 #[.slice a n cap] w fun e w' => e = .returned (.bool v) ∧ Drew w w' := by
  subst hv; exact specStrongOk_any a n cap f w hi
theorem MadeOfAtoms_val (a : Option Addr) (n cap : Nat) (f : Nat → Int) (v : Bool) (w : World) (hv : madeB n f = v) (hi : Ints w a n f) :
    Calls Try.prog 17 #[.slice a n cap] w fun e w' => e = .returned (.bool v) ∧ Below w.heap.size w w' := by
  subst hv; exact MadeOfAtoms_any a n cap f w hi

theorem company_13 : companyB 2 (fun i => ([1, 3] : List Int).getD i 0) = false := by decide
theorem company_127 : companyB 3 (fun i => ([1, 2, 7] : List Int).getD i 0) = true := by decide
theorem extended_two : extendedB 4 (fun i => ([1, 2, 7, 11] : List Int).getD i 0) = false := by decide
theorem weak_two : weakB 4 (fun i => ([1, 2, 7, 11] : List Int).getD i 0) = true := by decide
theorem strong_two : strongB 4 (fun i => ([1, 2, 7, 11] : List Int).getD i 0) = false := by decide

set_option maxHeartbeats 8000000 in
theorem lawCompanyOk (a : Option Addr) (n cap : Nat) (w : World) (h : BytesIn w a n cap) :
    Calls Try.prog 3 #[.slice a n cap] w (TrueEnd w) := by
  have hlen := h.len
  have H := Lib.hid h; clear h
  by_cases hn : 1048576 < n
  · go_enter Try.func3, Try.ntmps3
    go_wp2_with fail
    go_ret
    exact ⟨rfl, Below.refl _ _⟩
  · go_enter Try.func3, Try.ntmps3
    go_wp2_with fail
    refine (DrawCompanyOk_any _ _ _ _ H.out).mono ?_
    rintro e w1 ⟨d, m, c, f, rfl, hm, hi, hb1, hcap⟩
    have h64 := Lib.hid hi.i64
    clear hcap
    cases ht : companyB m f with
    | true =>
      cases hma : weakB m f with
      | true =>
        have HT := Lib.hid ht; have HM := Lib.hid hma; clear ht hma
        go_wp2_with fail
        refine (CompanyOk_val _ _ _ f true _ HT.out hi).mono ?_
        rintro e w9 ⟨rfl, hb2⟩
        replace hi := hi.next hb2; replace hb1 := below_onto hb1 hb2; clear hb2
        go_wp2_with fail
        refine (specCompanyOk_val _ _ _ f true _ HT.out hi).mono ?_
        rintro e w9 ⟨rfl, hd3⟩
        replace hi := hi.drew hd3; replace hb1 := below_onto hb1 hd3.below; clear hd3
        go_wp2_with fail
        refine (WeakOk_val _ _ _ f true _ HM.out hi).mono ?_
        rintro e w9 ⟨rfl, hb2⟩
        replace hb1 := below_onto hb1 hb2; clear hb2
        have hil := lit_ints w9 [1, 3] (small_I64 (by decide)) (by decide) _ rfl 3
        have hbl := below_onto hb1 (alloc_below w9 (.cells (([1, 3] : List Int).map (Value.int .i64)).toArray 3))
        clear hb1
        go_wp2_with fail
        refine (CompanyOk_val _ 2 2 (fun i => ([1, 3] : List Int).getD i 0) false _ company_13 hil).mono ?_
        rintro e w9 ⟨rfl, hb2⟩
        have hb1 := below_onto hbl hb2; clear hb2 hil hbl
        have hil := lit_ints w9 [1, 2, 7] (small_I64 (by decide)) (by decide) _ rfl 3
        have hbl := below_onto hb1 (alloc_below w9 (.cells (([1, 2, 7] : List Int).map (Value.int .i64)).toArray 3))
        clear hb1
        go_wp2_with fail
        refine (CompanyOk_val _ 3 3 (fun i => ([1, 2, 7] : List Int).getD i 0) true _ company_127 hil).mono ?_
        rintro e w9 ⟨rfl, hb2⟩
        have hb1 := below_onto hbl hb2; clear hb2 hil hbl
        go_wp2_with fail
        go_ret
        exact ⟨rfl, hb1⟩
      | false =>
        have HT := Lib.hid ht; have HM := Lib.hid hma; clear ht hma
        go_wp2_with fail
        refine (CompanyOk_val _ _ _ f true _ HT.out hi).mono ?_
        rintro e w9 ⟨rfl, hb2⟩
        replace hi := hi.next hb2; replace hb1 := below_onto hb1 hb2; clear hb2
        go_wp2_with fail
        refine (specCompanyOk_val _ _ _ f true _ HT.out hi).mono ?_
        rintro e w9 ⟨rfl, hd3⟩
        replace hi := hi.drew hd3; replace hb1 := below_onto hb1 hd3.below; clear hd3
        go_wp2_with fail
        refine (WeakOk_val _ _ _ f false _ HM.out hi).mono ?_
        rintro e w9 ⟨rfl, hb2⟩
        replace hb1 := below_onto hb1 hb2; clear hb2
        have hil := lit_ints w9 [1, 3] (small_I64 (by decide)) (by decide) _ rfl 3
        have hbl := below_onto hb1 (alloc_below w9 (.cells (([1, 3] : List Int).map (Value.int .i64)).toArray 3))
        clear hb1
        go_wp2_with fail
        refine (CompanyOk_val _ 2 2 (fun i => ([1, 3] : List Int).getD i 0) false _ company_13 hil).mono ?_
        rintro e w9 ⟨rfl, hb2⟩
        have hb1 := below_onto hbl hb2; clear hb2 hil hbl
        have hil := lit_ints w9 [1, 2, 7] (small_I64 (by decide)) (by decide) _ rfl 3
        have hbl := below_onto hb1 (alloc_below w9 (.cells (([1, 2, 7] : List Int).map (Value.int .i64)).toArray 3))
        clear hb1
        go_wp2_with fail
        refine (CompanyOk_val _ 3 3 (fun i => ([1, 2, 7] : List Int).getD i 0) true _ company_127 hil).mono ?_
        rintro e w9 ⟨rfl, hb2⟩
        have hb1 := below_onto hbl hb2; clear hb2 hil hbl
        go_wp2_with fail
        go_ret
        exact ⟨rfl, hb1⟩
    | false =>
      cases hma : weakB m f with
      | true =>
        rw [weak_company h64.out hma] at ht; cases ht
      | false =>
        have HT := Lib.hid ht; have HM := Lib.hid hma; clear ht hma
        go_wp2_with fail
        refine (CompanyOk_val _ _ _ f false _ HT.out hi).mono ?_
        rintro e w9 ⟨rfl, hb2⟩
        replace hi := hi.next hb2; replace hb1 := below_onto hb1 hb2; clear hb2
        go_wp2_with fail
        refine (specCompanyOk_val _ _ _ f false _ HT.out hi).mono ?_
        rintro e w9 ⟨rfl, hd3⟩
        replace hi := hi.drew hd3; replace hb1 := below_onto hb1 hd3.below; clear hd3
        go_wp2_with fail
        refine (WeakOk_val _ _ _ f false _ HM.out hi).mono ?_
        rintro e w9 ⟨rfl, hb2⟩
        replace hb1 := below_onto hb1 hb2; clear hb2
        have hil := lit_ints w9 [1, 3] (small_I64 (by decide)) (by decide) _ rfl 3
        have hbl := below_onto hb1 (alloc_below w9 (.cells (([1, 3] : List Int).map (Value.int .i64)).toArray 3))
        clear hb1
        go_wp2_with fail
        refine (CompanyOk_val _ 2 2 (fun i => ([1, 3] : List Int).getD i 0) false _ company_13 hil).mono ?_
        rintro e w9 ⟨rfl, hb2⟩
        have hb1 := below_onto hbl hb2; clear hb2 hil hbl
        have hil := lit_ints w9 [1, 2, 7] (small_I64 (by decide)) (by decide) _ rfl 3
        have hbl := below_onto hb1 (alloc_below w9 (.cells (([1, 2, 7] : List Int).map (Value.int .i64)).toArray 3))
        clear hb1
        go_wp2_with fail
        refine (CompanyOk_val _ 3 3 (fun i => ([1, 2, 7] : List Int).getD i 0) true _ company_127 hil).mono ?_
        rintro e w9 ⟨rfl, hb2⟩
        have hb1 := below_onto hbl hb2; clear hb2 hil hbl
        go_wp2_with fail
        go_ret
        exact ⟨rfl, hb1⟩

set_option maxHeartbeats 8000000 in
theorem lawStrongOk (a : Option Addr) (n cap : Nat) (w : World) (h : BytesIn w a n cap) :
    Calls Try.prog 4 #[.slice a n cap] w (TrueEnd w) := by
  have hlen := h.len
  have H := Lib.hid h; clear h
  by_cases hn : 1048576 < n
  · go_enter Try.func4, Try.ntmps4
    go_wp2_with fail
    go_ret
    exact ⟨rfl, Below.refl _ _⟩
  · go_enter Try.func4, Try.ntmps4
    go_wp2_with fail
    refine (DrawStrongOk_any _ _ _ _ H.out).mono ?_
    rintro e w1 ⟨d, m, c, f, rfl, hm, hi, hb1, hcap⟩
    have h64 := Lib.hid hi.i64
    clear hcap
    cases ht : strongB m f with
    | true =>
      have HT := Lib.hid ht; have HM := Lib.hid ((strong_made h64.out).symm.trans ht); have HE := Lib.hid (strong_extended h64.out ht); clear ht
      go_wp2_with fail
      refine (StrongOk_val _ _ _ f true _ HT.out hi).mono ?_
      rintro e w9 ⟨rfl, hb2⟩
      replace hi := hi.next hb2; replace hb1 := below_onto hb1 hb2; clear hb2
      go_wp2_with fail
      refine (specStrongOk_val _ _ _ f true _ HT.out hi).mono ?_
      rintro e w9 ⟨rfl, hd3⟩
      replace hi := hi.drew hd3; replace hb1 := below_onto hb1 hd3.below; clear hd3
      go_wp2_with fail
      refine (MadeOfAtoms_val _ _ _ f true _ HM.out hi).mono ?_
      rintro e w9 ⟨rfl, hb2⟩
      replace hi := hi.next hb2; replace hb1 := below_onto hb1 hb2; clear hb2
      go_wp2_with fail
      refine (ExtendedOk_val _ _ _ f true _ HE.out hi).mono ?_
      rintro e w9 ⟨rfl, hb2⟩
      replace hi := hi.next hb2; replace hb1 := below_onto hb1 hb2; clear hb2
      go_wp2_with fail
      refine (alive_any _).mono ?_
      rintro e w9 ⟨rfl, hb2⟩
      replace hb1 := below_onto hb1 hb2; clear hb2
      go_wp2_with fail
      go_ret
      exact ⟨rfl, hb1⟩
    | false =>
      have HT := Lib.hid ht; have HM := Lib.hid ((strong_made h64.out).symm.trans ht); clear ht
      go_wp2_with fail
      refine (StrongOk_val _ _ _ f false _ HT.out hi).mono ?_
      rintro e w9 ⟨rfl, hb2⟩
      replace hi := hi.next hb2; replace hb1 := below_onto hb1 hb2; clear hb2
      go_wp2_with fail
      refine (specStrongOk_val _ _ _ f false _ HT.out hi).mono ?_
      rintro e w9 ⟨rfl, hd3⟩
      replace hi := hi.drew hd3; replace hb1 := below_onto hb1 hd3.below; clear hd3
      go_wp2_with fail
      refine (MadeOfAtoms_val _ _ _ f false _ HM.out hi).mono ?_
      rintro e w9 ⟨rfl, hb2⟩
      replace hi := hi.next hb2; replace hb1 := below_onto hb1 hb2; clear hb2
      go_wp2_with fail
      refine (alive_any _).mono ?_
      rintro e w9 ⟨rfl, hb2⟩
      replace hb1 := below_onto hb1 hb2; clear hb2
      go_wp2_with fail
      go_ret
      exact ⟨rfl, hb1⟩

set_option maxHeartbeats 8000000 in
theorem lawExtendedOk (a : Option Addr) (n cap : Nat) (w : World) (h : BytesIn w a n cap) :
    Calls Try.prog 5 #[.slice a n cap] w (TrueEnd w) := by
  have hlen := h.len
  have H := Lib.hid h; clear h
  by_cases hn : 1048576 < n
  · go_enter Try.func5, Try.ntmps5
    go_wp2_with fail
    go_ret
    exact ⟨rfl, Below.refl _ _⟩
  · go_enter Try.func5, Try.ntmps5
    go_wp2_with fail
    refine (DrawExtendedOk_any _ _ _ _ H.out).mono ?_
    rintro e w1 ⟨d, m, c, f, rfl, hm, hi, hb1, hcap⟩
    have h64 := Lib.hid hi.i64
    clear hcap
    cases ht : extendedB m f with
    | true =>
      cases hma : strongB m f with
      | true =>
        have HT := Lib.hid ht; have HM := Lib.hid hma; clear ht hma
        go_wp2_with fail
        refine (ExtendedOk_val _ _ _ f true _ HT.out hi).mono ?_
        rintro e w9 ⟨rfl, hb2⟩
        replace hi := hi.next hb2; replace hb1 := below_onto hb1 hb2; clear hb2
        go_wp2_with fail
        refine (specExtendedOk_val _ _ _ f true _ HT.out hi).mono ?_
        rintro e w9 ⟨rfl, hd3⟩
        replace hi := hi.drew hd3; replace hb1 := below_onto hb1 hd3.below; clear hd3
        have hil := lit_ints w9 [1, 2, 7, 11] (small_I64 (by decide)) (by decide) _ rfl 3
        have hbl := below_onto hb1 (alloc_below w9 (.cells (([1, 2, 7, 11] : List Int).map (Value.int .i64)).toArray 3))
        replace hi := hi.next (alloc_below w9 (.cells (([1, 2, 7, 11] : List Int).map (Value.int .i64)).toArray 3)); clear hb1
        go_wp2_with fail
        refine (StrongOk_val _ _ _ f true _ HM.out hi).mono ?_
        rintro e w9 ⟨rfl, hb2⟩
        replace hil := hil.next hb2; replace hbl := below_onto hbl hb2; clear hb2 hi
        go_wp2_with fail
        refine (ExtendedOk_val _ 4 4 (fun i => ([1, 2, 7, 11] : List Int).getD i 0) false _ extended_two hil).mono ?_
        rintro e w9 ⟨rfl, hb2⟩
        replace hil := hil.next hb2; replace hbl := below_onto hbl hb2; clear hb2
        go_wp2_with fail
        refine (WeakOk_val _ 4 4 (fun i => ([1, 2, 7, 11] : List Int).getD i 0) true _ weak_two hil).mono ?_
        rintro e w9 ⟨rfl, hb2⟩
        replace hil := hil.next hb2; replace hbl := below_onto hbl hb2; clear hb2
        go_wp2_with fail
        refine (StrongOk_val _ 4 4 (fun i => ([1, 2, 7, 11] : List Int).getD i 0) false _ strong_two hil).mono ?_
        rintro e w9 ⟨rfl, hb2⟩
        have hb1 := below_onto hbl hb2; clear hb2 hil hbl
        go_wp2_with fail
        go_ret
        exact ⟨rfl, hb1⟩
      | false =>
        have HT := Lib.hid ht; have HM := Lib.hid hma; clear ht hma
        go_wp2_with fail
        refine (ExtendedOk_val _ _ _ f true _ HT.out hi).mono ?_
        rintro e w9 ⟨rfl, hb2⟩
        replace hi := hi.next hb2; replace hb1 := below_onto hb1 hb2; clear hb2
        go_wp2_with fail
        refine (specExtendedOk_val _ _ _ f true _ HT.out hi).mono ?_
        rintro e w9 ⟨rfl, hd3⟩
        replace hi := hi.drew hd3; replace hb1 := below_onto hb1 hd3.below; clear hd3
        have hil := lit_ints w9 [1, 2, 7, 11] (small_I64 (by decide)) (by decide) _ rfl 3
        have hbl := below_onto hb1 (alloc_below w9 (.cells (([1, 2, 7, 11] : List Int).map (Value.int .i64)).toArray 3))
        replace hi := hi.next (alloc_below w9 (.cells (([1, 2, 7, 11] : List Int).map (Value.int .i64)).toArray 3)); clear hb1
        go_wp2_with fail
        refine (StrongOk_val _ _ _ f false _ HM.out hi).mono ?_
        rintro e w9 ⟨rfl, hb2⟩
        replace hil := hil.next hb2; replace hbl := below_onto hbl hb2; clear hb2 hi
        go_wp2_with fail
        refine (ExtendedOk_val _ 4 4 (fun i => ([1, 2, 7, 11] : List Int).getD i 0) false _ extended_two hil).mono ?_
        rintro e w9 ⟨rfl, hb2⟩
        replace hil := hil.next hb2; replace hbl := below_onto hbl hb2; clear hb2
        go_wp2_with fail
        refine (WeakOk_val _ 4 4 (fun i => ([1, 2, 7, 11] : List Int).getD i 0) true _ weak_two hil).mono ?_
        rintro e w9 ⟨rfl, hb2⟩
        replace hil := hil.next hb2; replace hbl := below_onto hbl hb2; clear hb2
        go_wp2_with fail
        refine (StrongOk_val _ 4 4 (fun i => ([1, 2, 7, 11] : List Int).getD i 0) false _ strong_two hil).mono ?_
        rintro e w9 ⟨rfl, hb2⟩
        have hb1 := below_onto hbl hb2; clear hb2 hil hbl
        go_wp2_with fail
        go_ret
        exact ⟨rfl, hb1⟩
    | false =>
      cases hma : strongB m f with
      | true =>
        rw [strong_extended h64.out hma] at ht; cases ht
      | false =>
        have HT := Lib.hid ht; have HM := Lib.hid hma; clear ht hma
        go_wp2_with fail
        refine (ExtendedOk_val _ _ _ f false _ HT.out hi).mono ?_
        rintro e w9 ⟨rfl, hb2⟩
        replace hi := hi.next hb2; replace hb1 := below_onto hb1 hb2; clear hb2
        go_wp2_with fail
        refine (specExtendedOk_val _ _ _ f false _ HT.out hi).mono ?_
        rintro e w9 ⟨rfl, hd3⟩
        replace hi := hi.drew hd3; replace hb1 := below_onto hb1 hd3.below; clear hd3
        have hil := lit_ints w9 [1, 2, 7, 11] (small_I64 (by decide)) (by decide) _ rfl 3
        have hbl := below_onto hb1 (alloc_below w9 (.cells (([1, 2, 7, 11] : List Int).map (Value.int .i64)).toArray 3))
        replace hi := hi.next (alloc_below w9 (.cells (([1, 2, 7, 11] : List Int).map (Value.int .i64)).toArray 3)); clear hb1
        go_wp2_with fail
        refine (StrongOk_val _ _ _ f false _ HM.out hi).mono ?_
        rintro e w9 ⟨rfl, hb2⟩
        replace hil := hil.next hb2; replace hbl := below_onto hbl hb2; clear hb2 hi
        go_wp2_with fail
        refine (ExtendedOk_val _ 4 4 (fun i => ([1, 2, 7, 11] : List Int).getD i 0) false _ extended_two hil).mono ?_
        rintro e w9 ⟨rfl, hb2⟩
        replace hil := hil.next hb2; replace hbl := below_onto hbl hb2; clear hb2
        go_wp2_with fail
        refine (WeakOk_val _ 4 4 (fun i => ([1, 2, 7, 11] : List Int).getD i 0) true _ weak_two hil).mono ?_
        rintro e w9 ⟨rfl, hb2⟩
        replace hil := hil.next hb2; replace hbl := below_onto hbl hb2; clear hb2
        go_wp2_with fail
        refine (StrongOk_val _ 4 4 (fun i => ([1, 2, 7, 11] : List Int).getD i 0) false _ strong_two hil).mono ?_
        rintro e w9 ⟨rfl, hb2⟩
        have hb1 := below_onto hbl hb2; clear hb2 hil hbl
        go_wp2_with fail
        go_ret
        exact ⟨rfl, hb1⟩
end Go.Proofs.Ytidcfcjmjgcfkaa
