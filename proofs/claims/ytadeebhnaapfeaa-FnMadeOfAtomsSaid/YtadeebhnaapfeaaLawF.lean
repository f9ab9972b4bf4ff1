import Derived.Test.YtadeebhnaapfeaaLawC
import Derived.Test.YtadeebhnaapfeaaAtomsMath
import Derived.Test.YtadeebhnaapfeaaDrawY2
namespace Go.Proofs.Ytadeebhnaapfeaa
open Go.RowKit

theorem AtomsOf_val (a : Option Addr) (n cap : Nat) (f : Nat → Int) (v : Int) (w : World) (hv : atomsB n f = v) (hi : Ints w a n f) :
    Calls Try.prog 12 #[.slice a n cap] w fun e w' => e = .returned (.int .i64 v) ∧ Below w.heap.size w w' := by
  subst hv; exact AtomsOf_any a n cap f w hi
theorem specAtomsOf_val (a : Option Addr) (n cap : Nat) (f : Nat → Int) (v : Int) (w : World) (hv : atomsB n f = v) (hi : Ints w a n f) :
    Calls Try.prog 13 #[.slice a n cap] w fun e w' => e = .returned (.int .i64 v) ∧ Drew w w' := by
  subst hv; exact specAtomsOf_any a n cap f w hi
theorem AtomsIn_val (a : Option Addr) (n cap : Nat) (f : Nat → Int) (x : Int) (v : Int) (w : World) (hv : ainB n f x = v) (hi : Ints w a n f) :
    Calls Try.prog 19 #[.slice a n cap, .int .i64 x] w fun e w' => e = .returned (.int .i64 v) ∧ Below w.heap.size w w' := by
  subst hv; exact AtomsIn_any a n cap f x w hi
theorem specAtomsIn_val (a : Option Addr) (n cap : Nat) (f : Nat → Int) (x : Int) (v : Int) (w : World) (hv : ainB n f x = v) (hi : Ints w a n f) :
    Calls Try.prog 20 #[.slice a n cap, .int .i64 x] w fun e w' => e = .returned (.int .i64 v) ∧ Drew w w' := by
  subst hv; exact specAtomsIn_any a n cap f x w hi
theorem ToldByAtoms_val (a : Option Addr) (n cap : Nat) (f : Nat → Int) (v : Bool) (w : World) (hv : toldB n f = v) (hi : Ints w a n f) :
    Calls Try.prog 24 #[.slice a n cap] w fun e w' => e = .returned (.bool v) ∧ Below w.heap.size w w' := by
  subst hv; exact ToldByAtoms_any a n cap f w hi
theorem specToldByAtoms_val (a : Option Addr) (n cap : Nat) (f : Nat → Int) (v : Bool) (w : World) (hv : toldB n f = v) (hi : Ints w a n f) :
    Calls Try.prog 25 #[.slice a n cap] w fun e w' => e = .returned (.bool v) ∧ Drew w w' := by
  subst hv; exact specToldByAtoms_any a n cap f w hi
theorem MadeOfAtoms_val (a : Option Addr) (n cap : Nat) (f : Nat → Int) (v : Bool) (w : World) (hv : madeB n f = v) (hi : Ints w a n f) :
    Calls Try.prog 26 #[.slice a n cap] w fun e w' => e = .returned (.bool v) ∧ Below w.heap.size w w' := by
  subst hv; exact MadeOfAtoms_any a n cap f w hi
theorem specMadeOfAtoms_val (a : Option Addr) (n cap : Nat) (f : Nat → Int) (v : Bool) (w : World) (hv : madeB n f = v) (hi : Ints w a n f) :
    Calls Try.prog 28 #[.slice a n cap] w fun e w' => e = .returned (.bool v) ∧ Drew w w' := by
  subst hv; exact specMadeOfAtoms_any a n cap f w hi
theorem MeetingSet_at (a : Option Addr) (n cap : Nat) (f : Nat → Int) (x : Nat) (hw : worldB n f = true) (hx : x < n) (w : World) (hi : Ints w a n f) :
    Calls Try.prog 29 #[.slice a n cap, .int .i64 x] w fun e w' => e = .returned (.int .i64 (meetI n f x)) ∧ Below w.heap.size w w' := by
  have h := MeetingSet_any a n cap f x w hi
  have e : meetB n f x = meetI n f x := by unfold meetB; rw [if_pos ((good1_iff n f x).2 ⟨hw, by omega, by omega⟩)]; rfl
  rw [e] at h; exact h
theorem AtomsIn_at (a : Option Addr) (n cap : Nat) (f : Nat → Int) (x : Nat) (hw : worldB n f = true) (hx : x < n) (w : World) (hi : Ints w a n f) :
    Calls Try.prog 19 #[.slice a n cap, .int .i64 x] w fun e w' => e = .returned (.int .i64 (ainI n f x)) ∧ Below w.heap.size w w' := by
  have h := AtomsIn_any a n cap f x w hi
  have e : ainB n f x = ainI n f x := by unfold ainB; rw [if_pos ((good1_iff n f x).2 ⟨hw, by omega, by omega⟩)]; rfl
  rw [e] at h; exact h

theorem told_124 : toldB 3 (fun i => ([1, 2, 4] : List Int).getD i 0) = true := by decide
theorem told_13 : toldB 2 (fun i => ([1, 3] : List Int).getD i 0) = false := by decide
theorem made_127 : madeB 3 (fun i => ([1, 2, 7] : List Int).getD i 0) = true := by decide
theorem made_5 : madeB 5 (fun i => ([1, 2, 4, 11, 23] : List Int).getD i 0) = false := by decide

set_option maxHeartbeats 8000000 in
theorem lawToldByAtoms (a : Option Addr) (n cap : Nat) (w : World) (h : BytesIn w a n cap) :
    Calls Try.prog 5 #[.slice a n cap] w (TrueEnd w) := by
  have hlen := h.len
  have H := Lib.hid h; clear h
  by_cases hn : 1048576 < n
  · go_enter Try.func5, Try.ntmps5
    go_wp2_with fail
    go_ret
    exact ⟨rfl, Below.refl _ _⟩
  · go_enter Try.func5, Try.ntmps5
    go_wp2_with fail
    refine (DrawToldByAtoms_any _ _ _ _ H.out).mono ?_
    rintro e w1 ⟨d, m, c, f, rfl, hm, hi, hb1, hcap⟩
    have h64 := Lib.hid hi.i64
    clear hcap
    cases ht : toldB m f with
    | true =>
      cases hma : madeB m f with
      | true =>
        have HT := Lib.hid ht; have HM := Lib.hid hma; clear ht hma
        go_wp2_with fail
        refine (ToldByAtoms_val _ _ _ f true _ HT.out hi).mono ?_
        rintro e w9 ⟨rfl, hb2⟩
        replace hi := hi.next hb2; replace hb1 := below_onto hb1 hb2; clear hb2
        go_wp2_with fail
        refine (specToldByAtoms_val _ _ _ f true _ HT.out hi).mono ?_
        rintro e w9 ⟨rfl, hd3⟩
        replace hi := hi.drew hd3; replace hb1 := below_onto hb1 hd3.below; clear hd3
        go_wp2_with fail
        refine (MadeOfAtoms_val _ _ _ f true _ HM.out hi).mono ?_
        rintro e w9 ⟨rfl, hb2⟩
        replace hb1 := below_onto hb1 hb2; clear hb2
        have hil := lit_ints w9 [1, 2, 4] (small_I64 (by decide)) (by decide) _ rfl 3
        have hbl := below_onto hb1 (alloc_below w9 (.cells (([1, 2, 4] : List Int).map (Value.int .i64)).toArray 3))
        clear hb1
        go_wp2_with fail
        refine (ToldByAtoms_val _ 3 3 (fun i => ([1, 2, 4] : List Int).getD i 0) true _ told_124 hil).mono ?_
        rintro e w9 ⟨rfl, hb2⟩
        have hb1 := below_onto hbl hb2; clear hb2 hil hbl
        have hil := lit_ints w9 [1, 3] (small_I64 (by decide)) (by decide) _ rfl 3
        have hbl := below_onto hb1 (alloc_below w9 (.cells (([1, 3] : List Int).map (Value.int .i64)).toArray 3))
        clear hb1
        go_wp2_with fail
        refine (ToldByAtoms_val _ 2 2 (fun i => ([1, 3] : List Int).getD i 0) false _ told_13 hil).mono ?_
        rintro e w9 ⟨rfl, hb2⟩
        have hb1 := below_onto hbl hb2; clear hb2 hil hbl
        go_wp2_with fail
        go_ret
        exact ⟨rfl, hb1⟩
      | false =>
        have HT := Lib.hid ht; have HM := Lib.hid hma; clear ht hma
        go_wp2_with fail
        refine (ToldByAtoms_val _ _ _ f true _ HT.out hi).mono ?_
        rintro e w9 ⟨rfl, hb2⟩
        replace hi := hi.next hb2; replace hb1 := below_onto hb1 hb2; clear hb2
        go_wp2_with fail
        refine (specToldByAtoms_val _ _ _ f true _ HT.out hi).mono ?_
        rintro e w9 ⟨rfl, hd3⟩
        replace hi := hi.drew hd3; replace hb1 := below_onto hb1 hd3.below; clear hd3
        go_wp2_with fail
        refine (MadeOfAtoms_val _ _ _ f false _ HM.out hi).mono ?_
        rintro e w9 ⟨rfl, hb2⟩
        replace hb1 := below_onto hb1 hb2; clear hb2
        have hil := lit_ints w9 [1, 2, 4] (small_I64 (by decide)) (by decide) _ rfl 3
        have hbl := below_onto hb1 (alloc_below w9 (.cells (([1, 2, 4] : List Int).map (Value.int .i64)).toArray 3))
        clear hb1
        go_wp2_with fail
        refine (ToldByAtoms_val _ 3 3 (fun i => ([1, 2, 4] : List Int).getD i 0) true _ told_124 hil).mono ?_
        rintro e w9 ⟨rfl, hb2⟩
        have hb1 := below_onto hbl hb2; clear hb2 hil hbl
        have hil := lit_ints w9 [1, 3] (small_I64 (by decide)) (by decide) _ rfl 3
        have hbl := below_onto hb1 (alloc_below w9 (.cells (([1, 3] : List Int).map (Value.int .i64)).toArray 3))
        clear hb1
        go_wp2_with fail
        refine (ToldByAtoms_val _ 2 2 (fun i => ([1, 3] : List Int).getD i 0) false _ told_13 hil).mono ?_
        rintro e w9 ⟨rfl, hb2⟩
        have hb1 := below_onto hbl hb2; clear hb2 hil hbl
        go_wp2_with fail
        go_ret
        exact ⟨rfl, hb1⟩
    | false =>
      cases hma : madeB m f with
      | true =>
        rw [made_told h64.out hma] at ht; cases ht
      | false =>
        have HT := Lib.hid ht; have HM := Lib.hid hma; clear ht hma
        go_wp2_with fail
        refine (ToldByAtoms_val _ _ _ f false _ HT.out hi).mono ?_
        rintro e w9 ⟨rfl, hb2⟩
        replace hi := hi.next hb2; replace hb1 := below_onto hb1 hb2; clear hb2
        go_wp2_with fail
        refine (specToldByAtoms_val _ _ _ f false _ HT.out hi).mono ?_
        rintro e w9 ⟨rfl, hd3⟩
        replace hi := hi.drew hd3; replace hb1 := below_onto hb1 hd3.below; clear hd3
        go_wp2_with fail
        refine (MadeOfAtoms_val _ _ _ f false _ HM.out hi).mono ?_
        rintro e w9 ⟨rfl, hb2⟩
        replace hb1 := below_onto hb1 hb2; clear hb2
        have hil := lit_ints w9 [1, 2, 4] (small_I64 (by decide)) (by decide) _ rfl 3
        have hbl := below_onto hb1 (alloc_below w9 (.cells (([1, 2, 4] : List Int).map (Value.int .i64)).toArray 3))
        clear hb1
        go_wp2_with fail
        refine (ToldByAtoms_val _ 3 3 (fun i => ([1, 2, 4] : List Int).getD i 0) true _ told_124 hil).mono ?_
        rintro e w9 ⟨rfl, hb2⟩
        have hb1 := below_onto hbl hb2; clear hb2 hil hbl
        have hil := lit_ints w9 [1, 3] (small_I64 (by decide)) (by decide) _ rfl 3
        have hbl := below_onto hb1 (alloc_below w9 (.cells (([1, 3] : List Int).map (Value.int .i64)).toArray 3))
        clear hb1
        go_wp2_with fail
        refine (ToldByAtoms_val _ 2 2 (fun i => ([1, 3] : List Int).getD i 0) false _ told_13 hil).mono ?_
        rintro e w9 ⟨rfl, hb2⟩
        have hb1 := below_onto hbl hb2; clear hb2 hil hbl
        go_wp2_with fail
        go_ret
        exact ⟨rfl, hb1⟩

theorem made_world {n : Nat} {f : Nat → Int} (h : madeB n f = true) : worldB n f = true := by
  unfold madeB at h; rw [Bool.and_eq_true] at h; exact h.1

set_option maxHeartbeats 8000000 in
theorem lawMadeOfAtoms (a : Option Addr) (n cap : Nat) (w : World) (h : BytesIn w a n cap) :
    Calls Try.prog 6 #[.slice a n cap] w (TrueEnd w) := by
  have hlen := h.len
  have H := Lib.hid h; clear h
  by_cases hn : 1048576 < n
  · go_enter Try.func6, Try.ntmps6
    go_wp2_with fail
    go_ret
    exact ⟨rfl, Below.refl _ _⟩
  · go_enter Try.func6, Try.ntmps6
    go_wp2_with fail
    refine (DrawMadeOfAtoms_any _ _ _ _ H.out).mono ?_
    rintro e w1 ⟨d, m, c, f, rfl, hm, hi, hb1, hcap⟩
    have h64 := Lib.hid hi.i64
    clear hcap
    cases hma : madeB m f with
    | false =>
      have HM := Lib.hid hma; clear hma
      go_wp2_with fail
      refine (MadeOfAtoms_val _ _ _ f false _ HM.out hi).mono ?_
      rintro e w9 ⟨rfl, hb2⟩
      replace hi := hi.next hb2; replace hb1 := below_onto hb1 hb2; clear hb2
      go_wp2_with fail
      refine (specMadeOfAtoms_val _ _ _ f false _ HM.out hi).mono ?_
      rintro e w9 ⟨rfl, hd3⟩
      replace hi := hi.drew hd3; replace hb1 := below_onto hb1 hd3.below; clear hd3
      go_wp2_with fail
      go_loopw [5] (fun i wr => i = .int .i64 0 ∧ Below w.heap.size w wr) (fun _ _ => 0)
      case atStart => exact ⟨rfl, hb1⟩
      case round =>
        clear hi hb1
        obtain ⟨rfl, hb1⟩ := hrel
        obtain ⟨w9, e9⟩ : ∃ w9, w9 = wr := ⟨_, rfl⟩
        subst e9
        by_cases hm0 : 0 < m
        · have hmi : (0 : Int) < (m : Int) := by omega
          have hil := lit_ints w9 [1, 2, 7] (small_I64 (by decide)) (by decide) _ rfl 3
          have hbl := below_onto hb1 (alloc_below w9 (.cells (([1, 2, 7] : List Int).map (Value.int .i64)).toArray 3))
          clear hb1
          go_wp2_with fail
          refine (MadeOfAtoms_val _ 3 3 (fun i => ([1, 2, 7] : List Int).getD i 0) true _ made_127 hil).mono ?_
          rintro e w9 ⟨rfl, hb2⟩
          have hb1 := below_onto hbl hb2; clear hb2 hil hbl
          have hil := lit_ints w9 [1, 2, 4, 11, 23] (small_I64 (by decide)) (by decide) _ rfl 3
          have hbl := below_onto hb1 (alloc_below w9 (.cells (([1, 2, 4, 11, 23] : List Int).map (Value.int .i64)).toArray 3))
          clear hb1
          go_wp2_with fail
          refine (MadeOfAtoms_val _ 5 5 (fun i => ([1, 2, 4, 11, 23] : List Int).getD i 0) false _ made_5 hil).mono ?_
          rintro e w9 ⟨rfl, hb2⟩
          have hb1 := below_onto hbl hb2; clear hb2 hil hbl
          go_wp2_with fail
          go_ret
          exact ⟨rfl, hb1⟩
        · have hmi : ¬ (0 : Int) < (m : Int) := by omega
          have hil := lit_ints w9 [1, 2, 7] (small_I64 (by decide)) (by decide) _ rfl 3
          have hbl := below_onto hb1 (alloc_below w9 (.cells (([1, 2, 7] : List Int).map (Value.int .i64)).toArray 3))
          clear hb1
          go_wp2_with fail
          refine (MadeOfAtoms_val _ 3 3 (fun i => ([1, 2, 7] : List Int).getD i 0) true _ made_127 hil).mono ?_
          rintro e w9 ⟨rfl, hb2⟩
          have hb1 := below_onto hbl hb2; clear hb2 hil hbl
          have hil := lit_ints w9 [1, 2, 4, 11, 23] (small_I64 (by decide)) (by decide) _ rfl 3
          have hbl := below_onto hb1 (alloc_below w9 (.cells (([1, 2, 4, 11, 23] : List Int).map (Value.int .i64)).toArray 3))
          clear hb1
          go_wp2_with fail
          refine (MadeOfAtoms_val _ 5 5 (fun i => ([1, 2, 4, 11, 23] : List Int).getD i 0) false _ made_5 hil).mono ?_
          rintro e w9 ⟨rfl, hb2⟩
          have hb1 := below_onto hbl hb2; clear hb2 hil hbl
          go_wp2_with fail
          go_ret
          exact ⟨rfl, hb1⟩
    | true =>
      have hw := made_world hma
      have h7 := (worldB_7 hw).2
      have HM := Lib.hid hma; have HW := Lib.hid hw; clear hma hw
      go_wp2_with fail
      refine (MadeOfAtoms_val _ _ _ f true _ HM.out hi).mono ?_
      rintro e w9 ⟨rfl, hb2⟩
      replace hi := hi.next hb2; replace hb1 := below_onto hb1 hb2; clear hb2
      go_wp2_with fail
      refine (specMadeOfAtoms_val _ _ _ f true _ HM.out hi).mono ?_
      rintro e w9 ⟨rfl, hd3⟩
      replace hi := hi.drew hd3; replace hb1 := below_onto hb1 hd3.below; clear hd3
      go_wp2_with fail
      go_loopw [5] (fun i wr => ∃ k : Nat, k ≤ m ∧ i = .int .i64 k ∧ Ints wr d m f ∧ Below w.heap.size w wr) (fun i _ => m - (intOf i).toNat)
      case atStart => exact ⟨0, Nat.zero_le _, rfl, hi, hb1⟩
      case round =>
        clear hi hb1
        obtain ⟨k, hk, rfl, hi, hb1⟩ := hrel
        by_cases hlt : k < m
        · go_wp2_with fail
          go_loopw [6] (fun i wr => ∃ j : Nat, j ≤ k ∧ i = .int .i64 j ∧ Ints wr d m f ∧ Below w.heap.size w wr) (fun i _ => k - (intOf i).toNat)
          case atStart => exact ⟨0, Nat.zero_le _, rfl, hi, hb1⟩
          case round =>
            clear hi hb1
            obtain ⟨j, hj, rfl, hi, hb1⟩ := hrel
            by_cases hjk : j < k
            · have hne := made_meets h64.out HM.out hlt hjk
              have hji : (j : Int) < (k : Int) := by omega
              go_wp2_with fail
              refine (MeetingSet_at _ _ _ f k HW.out hlt _ hi).mono ?_
              rintro e w9 ⟨rfl, hb2⟩
              replace hi := hi.next hb2; replace hb1 := below_onto hb1 hb2; clear hb2
              go_wp2_with fail
              refine (MeetingSet_at _ _ _ f j HW.out (by omega) _ hi).mono ?_
              rintro e w9 ⟨rfl, hb2⟩
              replace hi := hi.next hb2; replace hb1 := below_onto hb1 hb2; clear hb2
              go_wp2_with fail
              clear hne
              go_roundw
              case rel => exact ⟨j + 1, by omega, by go_num, hi, hb1⟩
              case measure => simp [intOf]; omega
            · go_wp2_with fail
              go_roundw
              case rel => exact ⟨k + 1, by omega, by go_num, hi, hb1⟩
              case measure => simp [intOf]; omega
        · go_wp2_with fail
          refine (WorldOk_val _ _ _ f true _ HW.out hi).mono ?_
          rintro e w9 ⟨rfl, hb2⟩
          replace hb1 := below_onto hb1 hb2; clear hb2
          have hil := lit_ints w9 [1, 2, 7] (small_I64 (by decide)) (by decide) _ rfl 3
          have hbl := below_onto hb1 (alloc_below w9 (.cells (([1, 2, 7] : List Int).map (Value.int .i64)).toArray 3))
          clear hb1
          go_wp2_with fail
          refine (MadeOfAtoms_val _ 3 3 (fun i => ([1, 2, 7] : List Int).getD i 0) true _ made_127 hil).mono ?_
          rintro e w9 ⟨rfl, hb2⟩
          have hb1 := below_onto hbl hb2; clear hb2 hil hbl
          have hil := lit_ints w9 [1, 2, 4, 11, 23] (small_I64 (by decide)) (by decide) _ rfl 3
          have hbl := below_onto hb1 (alloc_below w9 (.cells (([1, 2, 4, 11, 23] : List Int).map (Value.int .i64)).toArray 3))
          clear hb1
          go_wp2_with fail
          refine (MadeOfAtoms_val _ 5 5 (fun i => ([1, 2, 4, 11, 23] : List Int).getD i 0) false _ made_5 hil).mono ?_
          rintro e w9 ⟨rfl, hb2⟩
          have hb1 := below_onto hbl hb2; clear hb2 hil hbl
          go_wp2_with fail
          go_ret
          exact ⟨rfl, hb1⟩
end Go.Proofs.Ytadeebhnaapfeaa
