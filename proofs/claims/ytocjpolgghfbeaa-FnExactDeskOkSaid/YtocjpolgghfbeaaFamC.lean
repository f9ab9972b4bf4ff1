import Derived.Test.YtocjpolgghfbeaaPtO
import Derived.Test.YtocjpolgghfbeaaFamB
import Derived.Lib.SliceRun
namespace Go.Proofs.Ytocjpolgghfbeaa
open Go.RowKit Go.Maps

set_option maxRecDepth 100000 in
set_option maxHeartbeats 1600000 in
theorem cloneF_any (g o n cap : Nat) (f : Nat → Int) (h1 : 1 ≤ n) (hn : n ≤ 1000) (w : World) (hr : Row w g o n f) (hgl : g < w.heap.size) :
    Calls Try.prog 130 #[.slice (some ⟨g, o, none⟩) n cap] w (Gives 3 (rowL f n) w) := by
  obtain ⟨i0, hi, hz0, hz1, hz2⟩ := info_parts Try.infoInt
  have hmade : OwnX (w.alloc (.cells #[] 3)) w.heap.size 3 (.slice (some ⟨w.heap.size, 0, none⟩) 0 0) [] := OwnX.made w _ (Nat.le_refl _) _
  have HO : Hid ((w.alloc (.cells #[] 3)).ownsRow w.heap.size 3 1 (.slice (some ⟨w.heap.size, 0, none⟩) 0 0) 0 []) := Lib.hid hmade
  have k1 := Lib.hid (rowV_cells (hr.below (alloc_below w (.cells #[] 3)) hgl))
  have k2 := Lib.hid (rowV_one f n)
  have k3 : Hid (0 + n ≤ maxLen) := Lib.hid (by unfold maxLen; omega)
  have k4 : Hid ((0 + n) * 8 ≤ 140737488355328) := Lib.hid (by omega)
  have k5 : Hid (w.heap.size ≤ (w.alloc (.cells #[] 3)).heap.size) := Lib.hid (by rw [alloc_size]; omega)
  have k6 : Hid ((rowV f n).length = n * 1) := Lib.hid (by rw [rowV_len]; omega)
  have HAB := Lib.hid (alloc_below w (.cells #[] 3))
  have heq : ∀ W : World, (binOp .eql 69 (.slice (some ⟨g, o, none⟩) n cap) (.slice none 0 0)).run Try.prog W = .ok (.bool false) W := fun W => Lib.run_eql_slice_nil W 69 3 _ _ _ _ _ Try.underlying69
  clear hmade hr
  go_enter Try.func130, Try.ntmps130
  go_wp2_with (at_builtin; refine wpList_append_own _ rfl (.tmp 5) (.tmp 6) 69 rfl w.heap.size 3 i0 (.int .i64 0) 1 8 Try.underlying69 hi hz0 hz1 hz2 rfl (by decide) _ _ _ rfl HO.out ⟨g, o, none⟩ n cap (rowV f n) rfl k6.out k1.out k2.out k3.out k4.out k5.out ?_)
  intro v' w5 hown' hgrow _
  have hg5 : Below w.heap.size w w5 := HAB.out.trans ((Below.refl w.heap.size _).grown hgrow k5.out (fun q hq => (HO.out.lt q hq).1))
  have HO5 := Lib.hid (OwnX.rowV hown'); have HG5 := Lib.hid hg5
  clear hown' hgrow hg5
  go_wp2_with fail
  go_ret
  exact ⟨_, rfl, HO5.out, HG5.out⟩

set_option maxRecDepth 100000 in
set_option maxHeartbeats 1600000 in
theorem cloneI_any (g o n cap : Nat) (f : Nat → Int) (h1 : 1 ≤ n) (hn : n ≤ 1000) (w : World) (hr : Row w g o n f) (hgl : g < w.heap.size) :
    Calls Try.prog 50 #[.slice (some ⟨g, o, none⟩) n cap] w (Gives 3 (rowL f n) w) := by
  obtain ⟨i0, hi, hz0, hz1, hz2⟩ := info_parts Try.infoInt
  have hmade : OwnX (w.alloc (.cells #[] 3)) w.heap.size 3 (.slice (some ⟨w.heap.size, 0, none⟩) 0 0) [] := OwnX.made w _ (Nat.le_refl _) _
  have HO : Hid ((w.alloc (.cells #[] 3)).ownsRow w.heap.size 3 1 (.slice (some ⟨w.heap.size, 0, none⟩) 0 0) 0 []) := Lib.hid hmade
  have k1 := Lib.hid (rowV_cells (hr.below (alloc_below w (.cells #[] 3)) hgl))
  have k2 := Lib.hid (rowV_one f n)
  have k3 : Hid (0 + n ≤ maxLen) := Lib.hid (by unfold maxLen; omega)
  have k4 : Hid ((0 + n) * 8 ≤ 140737488355328) := Lib.hid (by omega)
  have k5 : Hid (w.heap.size ≤ (w.alloc (.cells #[] 3)).heap.size) := Lib.hid (by rw [alloc_size]; omega)
  have k6 : Hid ((rowV f n).length = n * 1) := Lib.hid (by rw [rowV_len]; omega)
  have HAB := Lib.hid (alloc_below w (.cells #[] 3))
  have heq : ∀ W : World, (binOp .eql 23 (.slice (some ⟨g, o, none⟩) n cap) (.slice none 0 0)).run Try.prog W = .ok (.bool false) W := fun W => Lib.run_eql_slice_nil W 23 3 _ _ _ _ _ Try.underlying23
  clear hmade hr
  go_enter Try.func50, Try.ntmps50
  go_wp2_with (at_builtin; refine wpList_append_own _ rfl (.tmp 5) (.tmp 6) 23 rfl w.heap.size 3 i0 (.int .i64 0) 1 8 Try.underlying23 hi hz0 hz1 hz2 rfl (by decide) _ _ _ rfl HO.out ⟨g, o, none⟩ n cap (rowV f n) rfl k6.out k1.out k2.out k3.out k4.out k5.out ?_)
  intro v' w5 hown' hgrow _
  have hg5 : Below w.heap.size w w5 := HAB.out.trans ((Below.refl w.heap.size _).grown hgrow k5.out (fun q hq => (HO.out.lt q hq).1))
  have HO5 := Lib.hid (OwnX.rowV hown'); have HG5 := Lib.hid hg5
  clear hown' hgrow hg5
  go_wp2_with fail
  go_ret
  exact ⟨_, rfl, HO5.out, HG5.out⟩

/-- the family of a list, as far as it is read -/
def FromR (n : Nat) (f : Nat → Int) (w : World) (i : Value) (wr : World) : Prop :=
  ∃ (k : Nat) (v : Value), k ≤ n ∧ i = .int .i64 k ∧ FamAt wr w.heap.size w.heap.size v (memS k f) ∧ Below w.heap.size w wr ∧ ∀ j, j < k → (1 ≤ f j ∧ f j ≤ 15) ∧ ∀ i, i < j → f i ≠ f j
def FromEnd (n : Nat) (f : Nat → Int) (w : World) (e : Ending) (w' : World) : Prop :=
  Below w.heap.size w w' ∧ ((famOkB n f = true ∧ ∃ v, e = .returned (.tuple #[v, .bool true]) ∧ OwnX w' w.heap.size 3 v (fam (memS n f) 16)) ∨ (famOkB n f = false ∧ e = .returned (.tuple #[.slice none 0 0, .bool false])))

set_option maxRecDepth 100000 in
set_option maxHeartbeats 800000 in
theorem familyFrom_len (a : Option Addr) (n cap : Nat) (f : Nat → Int) (h : n < 1 ∨ 7 < n) (hm : n ≤ 9223372036854775807) (w : World) :
    Calls Try.prog 52 #[.slice a n cap] w (FromEnd n f w) := by
  have HF := Lib.hid (famOk_len (n := n) (f := f) (by omega))
  rcases h with h | h
  · have hd1 : decide ((n : Int) < 1) = true := by simp; omega
    go_enter Try.func52, Try.ntmps52
    go_wp2_with fail
    go_ret2
    exact ⟨Below.refl _ _, .inr ⟨HF.out, by first | rfl | trivial⟩⟩
  · have hd1 : decide ((n : Int) < 1) = false := by simp; omega
    have hd2 : decide ((7 : Int) < (n : Int)) = true := by simp; omega
    go_enter Try.func52, Try.ntmps52
    go_wp2_with fail
    go_ret2
    exact ⟨Below.refl _ _, .inr ⟨HF.out, by first | rfl | trivial⟩⟩

set_option maxRecDepth 100000 in
set_option maxHeartbeats 3200000 in
theorem familyFrom_in (g o n cap : Nat) (f : Nat → Int) (h1 : 1 ≤ n) (h7 : n ≤ 7) (w : World) (hr : Row w g o n f) (hg : g < w.heap.size) :
    Calls Try.prog 52 #[.slice (some ⟨g, o, none⟩) n cap] w (FromEnd n f w) := by
  have hd1 : decide ((n : Int) < 1) = false := by simp; omega
  have hd2 : decide ((7 : Int) < (n : Int)) = false := by simp; omega
  have hst : FromR n f w (.int .i64 0) (w.alloc (.cells #[.slice none 0 0] 69)) := by
    refine ⟨0, .slice none 0 0, Nat.zero_le _, rfl, ?_, alloc_below w _, fun j hj => absurd hj (Nat.not_lt_zero _)⟩
    rw [memS_zero]
    refine ⟨(cell_new w _ _).1, ?_, World.frozen?_alloc_at _ _ w.heap.size 0 rfl, (by intro e; cases e), Nat.le_refl _⟩
    rw [fam_none]; exact OwnX.nil _ _ _
  have HR := Lib.hid hr; clear hr
  go_enter Try.func52, Try.ntmps52
  go_wp2_with fail
  go_loopw [17] (fun i wr => FromR n f w i wr) (fun i _ => n - (intOf i).toNat)
  case atStart => exact hst
  case round =>
    clear hst
    obtain ⟨k, v, hk, rfl, hfam, hbel, hall⟩ := hrel
    have hr := HR.out.below hbel hg
    have HB := Lib.hid hbel; have HALL := Lib.hid hall; have HFAM := Lib.hid hfam
    have hcell := hfam.cell
    clear hbel hall hfam
    by_cases hlt : k < n
    · have hki : (k : Int) < (n : Int) := by omega
      have hc := hr k hlt
      clear hr
      by_cases hx1 : ¬ (1 ≤ f k ∧ f k ≤ 15)
      · have HX0 := Lib.hid (okX_no.2 hx1)
        have HF := Lib.hid (famOk_no (f := f) hlt (fun e => hx1 e.1))
        clear hx1
        go_wp2_with fail
        refine (pointsOk_val _ false HX0.out _).mono ?_
        rintro e w' ⟨rfl, rfl⟩
        go_wp2_with fail
        go_ret2
        exact ⟨HB.out, .inr ⟨HF.out, by first | rfl | trivial⟩⟩
      · obtain ⟨x, hx⟩ : ∃ x : Nat, f k = (x : Int) := ⟨(f k).toNat, by omega⟩
        have hx16 : x < 16 := by omega
        have hx0 : 1 ≤ x := by omega
        rw [hx] at hc
        have HX := Lib.hid hx
        have HX0 : Hid (okX (x : Int) = true) := Lib.hid (okX_iff.2 (by omega))
        clear hx1 hx
        cases hs : memS k f x with
        | true =>
          have HF := Lib.hid (famOk_no (f := f) hlt (fun e => by
            have := (memS_new HX.out).2 e.2
            rw [hs] at this; cases this))
          have HSX := Lib.hid hs
          clear hs
          go_wp2_with fail
          refine (pointsOk_val _ true HX0.out _).mono ?_
          rintro e w' ⟨rfl, rfl⟩
          go_wp2_with fail
          refine (put_old w.heap.size w.heap.size v (memS k f) x hx16 _ HB.out.size HFAM.out HSX.out).mono ?_
          rintro e w1 ⟨rfl, v', hf1, hu1, hn1⟩
          have HB1 := Lib.hid (HB.out.trans (hu1.below (B := w.heap.size) HFAM.out.mine HB.out.size))
          clear hf1 hu1 hn1
          go_wp2_with fail
          go_ret2
          exact ⟨HB1.out, .inr ⟨HF.out, by first | rfl | trivial⟩⟩
        | false =>
          have HSX := Lib.hid hs
          clear hs
          go_wp2_with fail
          refine (pointsOk_val _ true HX0.out _).mono ?_
          rintro e w' ⟨rfl, rfl⟩
          go_wp2_with fail
          refine (put_new w.heap.size w.heap.size v (memS k f) x hx16 _ HB.out.size HFAM.out HSX.out).mono ?_
          rintro e w1 ⟨rfl, v', hf1, hu1, hn1⟩
          have HB1 := Lib.hid (HB.out.trans (hu1.below (B := w.heap.size) HFAM.out.mine HB.out.size))
          have hrel : FromR n f w (.int .i64 ((k + 1 : Nat) : Int)) w1 := by
            refine ⟨k + 1, v', by omega, rfl, by rw [memS_succ HX.out]; exact hf1, HB1.out, fun j hj => ?_⟩
            by_cases e : j = k
            · subst e
              exact ⟨by have := HX.out; omega, (memS_new HX.out).1 HSX.out⟩
            · exact HALL.out j (by omega)
          have HREL := Lib.hid hrel
          clear hf1 hu1 hn1 hrel
          go_wp2_with fail
          go_roundw
          case rel => exact HREL.out
          case measure => simp [intOf]; omega
    · have hki : ¬ (k : Int) < (n : Int) := by omega
      have hkn : k = n := by omega
      subst hkn
      have HF := Lib.hid (famOk_of h1 h7 HALL.out)
      clear hr
      obtain ⟨a3, c3, rfl⟩ := HFAM.out.slice
      go_wp2_with fail
      go_ret2
      exact ⟨HB.out, .inl ⟨HF.out, _, rfl, HFAM.out.own⟩⟩

theorem familyFrom_any (a : Option Addr) (n cap : Nat) (f : Nat → Int) (w : World) (hi : Ints w a n f) :
    Calls Try.prog 52 #[.slice a n cap] w (FromEnd n f w) := by
  by_cases h : 1 ≤ n ∧ n ≤ 7
  · obtain ⟨b, o, rfl, hbl, hrow⟩ := hi.row h.1
    exact familyFrom_in b o n cap f h.1 h.2 w hrow hbl
  · exact familyFrom_len a n cap f (by omega) hi.1.1 w

set_option maxRecDepth 100000 in
set_option maxHeartbeats 800000 in
theorem FamilyOk_any (a : Option Addr) (n cap : Nat) (f : Nat → Int) (w : World) (hi : Ints w a n f) :
    Calls Try.prog 20 #[.slice a n cap] w fun e w' => e = .returned (.bool (famOkB n f)) ∧ Below w.heap.size w w' := by
  have HI := Lib.hid hi; clear hi
  go_enter Try.func20, Try.ntmps20
  go_wp2_with fail
  refine (familyFrom_any a n cap f _ HI.out).mono ?_
  rintro e w1 ⟨hb, ⟨hf, v, rfl, hown⟩ | ⟨hf, rfl⟩⟩
  · have HF := Lib.hid hf; have HB := Lib.hid hb
    clear hf hb hown
    go_wp2_with fail
    go_ret
    exact ⟨retb HF.out.symm, HB.out⟩
  · have HF := Lib.hid hf; have HB := Lib.hid hb
    clear hf hb
    go_wp2_with fail
    go_ret
    exact ⟨retb HF.out.symm, HB.out⟩
theorem FamilyOk_val (a : Option Addr) (n cap : Nat) (f : Nat → Int) (v : Bool) (w : World) (hv : famOkB n f = v) (hi : Ints w a n f) :
    Calls Try.prog 20 #[.slice a n cap] w fun e w' => e = .returned (.bool v) ∧ Below w.heap.size w w' := by subst hv; exact FamilyOk_any a n cap f w hi

/-- the world of a family -/
def wfL (n : Nat) (f : Nat → Int) : List Int := if famOkB n f then rowL (wfF n f) n else []

set_option maxRecDepth 100000 in
set_option maxHeartbeats 800000 in
theorem WorldFrom_any (a : Option Addr) (n cap : Nat) (f : Nat → Int) (w : World) (hi : Ints w a n f) :
    Calls Try.prog 26 #[.slice a n cap] w (Gives 3 (wfL n f) w) := by
  have HI := Lib.hid hi; clear hi
  cases hf : famOkB n f with
  | true =>
    rw [show wfL n f = rowL (wfF n f) n by unfold wfL; rw [if_pos hf]]
    have hP := famOk_iff.1 hf
    have HF := Lib.hid hf; clear hf
    have h7 := hP.hi
    obtain ⟨b, o, rfl, hbl, hrow⟩ := HI.out.row hP.lo
    have HR := Lib.hid hrow
    clear hP hrow
    go_enter Try.func26, Try.ntmps26
    go_wp2_with fail
    refine (FamilyOk_val _ n cap f true _ HF.out HI.out).mono ?_
    rintro e w1 ⟨rfl, hb1⟩
    have HB := Lib.hid hb1; have HR1 := Lib.hid (HR.out.below hb1 hbl)
    have hbl1 : b < w1.heap.size := Nat.lt_of_lt_of_le hbl hb1.size
    clear hb1
    go_wp2_with fail
    refine (worldAmong_any b o n cap f h7 _ HR1.out hbl1).mono ?_
    rintro e w2 ⟨v, rfl, hown, hb2⟩
    have HO := Lib.hid hown; have HB2 := Lib.hid hb2; clear hown hb2
    go_wp2_with fail
    go_ret
    exact ⟨_, rfl, HO.out.base HB.out.size, below_onto HB.out HB2.out⟩
  | false =>
    rw [show wfL n f = [] by unfold wfL; rw [if_neg (by rw [hf]; decide)]]
    have HF := Lib.hid hf; clear hf
    go_enter Try.func26, Try.ntmps26
    go_wp2_with fail
    refine (FamilyOk_val _ n cap f false _ HF.out HI.out).mono ?_
    rintro e w1 ⟨rfl, hb1⟩
    have HB := Lib.hid hb1; have HN := Lib.hid (OwnX.nil w1 w.heap.size 3); clear hb1
    go_wp2_with fail
    go_ret
    exact ⟨_, rfl, HN.out, HB.out⟩

/-! ### what follows from a set -/

theorem pow20i (k : Nat) (hk : k < 4) : (1 : Int) ≤ 2 ^ k ∧ (2 : Int) ^ k ≤ 8 := by
  rcases (show k = 0 ∨ k = 1 ∨ k = 2 ∨ k = 3 by omega) with rfl | rfl | rfl | rfl <;> decide

set_option maxRecDepth 100000 in
set_option maxHeartbeats 3200000 in
theorem points_any (vin : Value) (s : Int) (w : World) :
    Calls Try.prog 119 #[vin, .int .i64 s] w (Gives 3 (ptsL s 4) w) := by
  obtain ⟨i0, hi, hz0, hz1, hz2⟩ := info_parts Try.infoInt
  have hst : OwnX w w.heap.size 3 (.slice none 0 0) (ptsL s 0) := OwnX.nil _ _ _
  go_enter Try.func119, Try.ntmps119
  go_wp2_with fail
  go_loopw [5, 7] (fun v i wr => ∃ k : Nat, k ≤ 4 ∧ i = .int .i64 k ∧ OwnX wr w.heap.size 3 v (ptsL s k) ∧ Below w.heap.size w wr) (fun _ i _ => 4 - (intOf i).toNat)
  case atStart => exact ⟨0, Nat.zero_le _, rfl, hst, Below.refl _ _⟩
  case round =>
    clear hst
    obtain ⟨k, hk, rfl, hown, hbel⟩ := hrel
    obtain ⟨a9, c9, rfl⟩ := hown.slice
    by_cases hlt : k < 4
    · have hki : (k : Int) < 4 := by omega
      have ⟨hp1, hp2⟩ := pow20i k hlt
      cases hg : hasB s k with
      | true =>
        have HS := Lib.hid (pts_yes hg)
        have HG := Lib.hid hg; clear hg
        have HL := Lib.hid (show (ptsL s k).length ≤ 1000 by have := pts_len s k; omega)
        have HSZ := Lib.hid hbel.size; have HB := Lib.hid hbel
        have HO : Hid (wr.ownsRow w.heap.size 3 1 (.slice a9 (ptsL s k).length c9) (ptsL s k).length ((ptsL s k).map (Value.int .i64))) := Lib.hid hown
        clear hown hbel
        go_wp2_with fail
        refine (hasInt_any _ k true (by omega) _ HG.out).mono ?_
        rintro e w' ⟨rfl, rfl⟩
        have k1 := Lib.hid (fun (j : Nat) (u : Value) (h : [Value.int .i64 ((2 : Int) ^ k)][j]? = some u) => cell_one_new wr (.int .i64 ((2 : Int) ^ k)) 3 j u h)
        have k2 : Hid (∀ u ∈ [Value.int .i64 ((2 : Int) ^ k)], u.oneCell' = true) := Lib.hid (by intro u hu; simp at hu; subst hu; rfl)
        have k3 : Hid ((ptsL s k).length + 1 ≤ maxLen) := Lib.hid (by have := HL.out; unfold maxLen; omega)
        have k4 : Hid (((ptsL s k).length + 1) * 8 ≤ 140737488355328) := Lib.hid (by have := HL.out; omega)
        have k5 : Hid (w.heap.size ≤ (wr.alloc (.cells #[.int .i64 ((2 : Int) ^ k)] 3)).heap.size) := Lib.hid (by rw [alloc_size]; have := HSZ.out; omega)
        go_wp2_with (at_builtin; refine wpList_append_own _ rfl (.tmp 13) (.tmp 16) 23 rfl w.heap.size 3 i0 (.int .i64 0) 1 8 Try.underlying23 hi hz0 hz1 hz2 rfl (by decide) _ _ _ rfl (HO.out.alloc _) ⟨wr.heap.size, 0, none⟩ 1 1 [.int .i64 ((2 : Int) ^ k)] rfl rfl k1.out k2.out k3.out k4.out k5.out ?_)
        intro v' w5 hown' hgrow _
        have hg5 : Below w.heap.size wr w5 := ((Below.refl w.heap.size wr).alloc HSZ.out _).grown hgrow (by have := HSZ.out; rw [alloc_size]; omega) (fun q hq => (HO.out.lt q hq).1)
        have ho5 := OwnX.snoc hown'
        clear hown' hgrow k1 k2 k3 k4 k5
        have HO5 := Lib.hid ho5; have HG5 := Lib.hid hg5; clear ho5 hg5
        go_wp2_with fail
        go_roundw
        case rel => exact ⟨k + 1, by omega, by go_num, by rw [HS.out]; exact HO5.out, HB.out.trans HG5.out⟩
        case measure => simp [intOf]; omega
      | false =>
        have HS := Lib.hid (pts_no hg)
        have HG := Lib.hid hg; clear hg
        have HB := Lib.hid hbel; have HO := Lib.hid hown
        clear hown hbel
        go_wp2_with fail
        refine (hasInt_any _ k false (by omega) _ HG.out).mono ?_
        rintro e w' ⟨rfl, rfl⟩
        go_wp2_with fail
        go_roundw
        case rel => exact ⟨k + 1, by omega, by go_num, by rw [HS.out]; exact HO.out, HB.out⟩
        case measure => simp [intOf]; omega
    · have hki : ¬ (k : Int) < 4 := by omega
      have hkn : k = 4 := by omega
      subst hkn
      have HO := Lib.hid hown; have HB := Lib.hid hbel; clear hown hbel
      go_wp2_with fail
      go_ret
      exact ⟨_, rfl, HO.out, HB.out⟩

set_option maxRecDepth 100000 in
set_option maxHeartbeats 3200000 in
theorem sums_row (g o n cap : Nat) (f : Nat → Int) (s : Int) (hn : n ≤ 1000) (w : World) (hr : Row w g o n f) (hgl : g < w.heap.size) :
    Calls Try.prog 120 #[.slice (some ⟨g, o, none⟩) n cap, .int .i64 s] w (Gives 3 (rowL (fun k => orI s (f k)) n) w) := by
  obtain ⟨i0, hi, hz0, hz1, hz2⟩ := info_parts Try.infoInt
  obtain ⟨w3, hmk, hown3, hgr3⟩ := run_make_own (P := Try.prog) w w.heap.size 23 3 i0 (.int .i64 0) 1 Try.underlying23 hi hz0 hz1 .i64 .i64 n (by rw [hz2]; omega) (by unfold maxLen; omega) (Nat.le_refl _)
  have hb3 : Below w.heap.size w w3 := (Below.refl _ _).grown hgr3 (Nat.le_refl _) (fun q hq => by cases hq)
  have hst : OwnX w3 w.heap.size 3 (.slice (some ⟨w.heap.size, 0, none⟩) 0 n) (rowL (fun k => orI s (f k)) 0) := hown3
  have hsb := hb3
  have HROW := Lib.hid hr
  clear hown3 hgr3 hb3 hr
  go_enter Try.func120, Try.ntmps120
  go_wp2_with fail
  go_loopw [5, 13] (fun v i wr => ∃ k : Nat, k ≤ n ∧ i = .int .i64 k ∧ OwnX wr w.heap.size 3 v (rowL (fun k => orI s (f k)) k) ∧ Below w.heap.size w wr) (fun _ i _ => n - (intOf i).toNat)
  case atStart => exact ⟨0, Nat.zero_le _, rfl, hst, hsb⟩
  case round =>
    clear hst hsb
    obtain ⟨k, hk, rfl, hown, hbel⟩ := hrel
    obtain ⟨a9, c9, rfl⟩ := hown.slice
    by_cases hlt : k < n
    · have hki : (k : Int) < (n : Int) := by omega
      have hc := (HROW.out.below hbel hgl) k hlt
      have HS := Lib.hid (rowL_succ (fun k => orI s (f k)) k)
      have HL := Lib.hid (show (rowL (fun k => orI s (f k)) k).length ≤ 1000 by rw [rowL_len]; omega)
      have HSZ := Lib.hid hbel.size; have HB := Lib.hid hbel
      have HO : Hid (wr.ownsRow w.heap.size 3 1 (.slice a9 (rowL (fun k => orI s (f k)) k).length c9) (rowL (fun k => orI s (f k)) k).length ((rowL (fun k => orI s (f k)) k).map (Value.int .i64))) := Lib.hid hown
      clear hown hbel
      have k1 := Lib.hid (fun (j : Nat) (u : Value) (h : [Value.int .i64 (bits .or .i64 s (f k))][j]? = some u) => cell_one_new wr (.int .i64 (bits .or .i64 s (f k))) 3 j u h)
      have k2 : Hid (∀ u ∈ [Value.int .i64 (bits .or .i64 s (f k))], u.oneCell' = true) := Lib.hid (by intro u hu; simp at hu; subst hu; rfl)
      have k3 : Hid ((rowL (fun k => orI s (f k)) k).length + 1 ≤ maxLen) := Lib.hid (by have := HL.out; unfold maxLen; omega)
      have k4 : Hid (((rowL (fun k => orI s (f k)) k).length + 1) * 8 ≤ 140737488355328) := Lib.hid (by have := HL.out; omega)
      have k5 : Hid (w.heap.size ≤ (wr.alloc (.cells #[.int .i64 (bits .or .i64 s (f k))] 3)).heap.size) := Lib.hid (by rw [alloc_size]; have := HSZ.out; omega)
      go_wp2_with (at_builtin; refine wpList_append_own _ rfl (.tmp 17) (.tmp 21) 23 rfl w.heap.size 3 i0 (.int .i64 0) 1 8 Try.underlying23 hi hz0 hz1 hz2 rfl (by decide) _ _ _ rfl (HO.out.alloc _) ⟨wr.heap.size, 0, none⟩ 1 1 [.int .i64 (bits .or .i64 s (f k))] rfl rfl k1.out k2.out k3.out k4.out k5.out ?_)
      intro v' w5 hown' hgrow _
      have hg5 : Below w.heap.size wr w5 := ((Below.refl w.heap.size wr).alloc HSZ.out _).grown hgrow (by have := HSZ.out; rw [alloc_size]; omega) (fun q hq => (HO.out.lt q hq).1)
      have ho5 := OwnX.snoc hown'
      clear hown' hgrow k1 k2 k3 k4 k5
      have HO5 := Lib.hid ho5; have HG5 := Lib.hid hg5; clear ho5 hg5
      go_wp2_with fail
      go_roundw
      case rel => exact ⟨k + 1, by omega, by go_num, by rw [HS.out]; exact HO5.out, HB.out.trans HG5.out⟩
      case measure => simp [intOf]; omega
    · have hki : ¬ (k : Int) < (n : Int) := by omega
      have hkn : k = n := by omega
      subst hkn
      have HO := Lib.hid hown; have HB := Lib.hid hbel; clear hown hbel
      go_wp2_with fail
      go_ret
      exact ⟨_, rfl, HO.out, HB.out⟩
theorem sumL_row (S : Nat → Bool) (s : Int) : sumL S s = rowL (fun k => orI s ((fam S 16).getD k 0)) (fam S 16).length := by
  unfold sumL rowL
  apply List.ext_getElem?
  intro i
  rw [List.getElem?_map, List.getElem?_map]
  by_cases hi : i < (fam S 16).length
  · rw [List.getElem?_range hi, Option.map_some, List.getD_eq_getElem?_getD, List.getElem?_eq_getElem hi]; rfl
  · rw [List.getElem?_eq_none (by omega), List.getElem?_eq_none (by simp; omega)]; rfl
end Go.Proofs.Ytocjpolgghfbeaa
