import Derived.Test.YtdlafcioopclhaaGreatPtO
import Derived.Test.YtdlafcioopclhaaGreatFamB
import Derived.Lib.SliceRun
namespace Go.Proofs.YtdlafcioopclhaaGreat
open Go.RowKit Go.Maps

/-- the family of a list, as far as it is read -/
def FromR (n : Nat) (f : Nat → Int) (w : World) (i : Value) (wr : World) : Prop :=
  ∃ (k : Nat) (v : Value), k ≤ n ∧ i = .int .i64 k ∧ FamAt wr w.heap.size w.heap.size v (memS k f) ∧ Below w.heap.size w wr ∧ ∀ j, j < k → (1 ≤ f j ∧ f j ≤ 15) ∧ ∀ i, i < j → f i ≠ f j
def FromEnd (n : Nat) (f : Nat → Int) (w : World) (e : Ending) (w' : World) : Prop :=
  Below w.heap.size w w' ∧ ((famOkB n f = true ∧ ∃ v, e = .returned (.tuple #[v, .bool true]) ∧ OwnX w' w.heap.size 3 v (fam (memS n f) 16)) ∨ (famOkB n f = false ∧ e = .returned (.tuple #[.slice none 0 0, .bool false])))

set_option maxRecDepth 100000 in
set_option maxHeartbeats 800000 in
theorem familyFrom_len (a : Option Addr) (n cap : Nat) (f : Nat → Int) (h : n < 1 ∨ 7 < n) (hm : n ≤ 9223372036854775807) (w : World) :
    Calls Tryz.prog 28 #[.slice a n cap] w (FromEnd n f w) := by
  have HF := Lib.hid (famOk_len (n := n) (f := f) (by omega))
  rcases h with h | h
  · have hd1 : decide ((n : Int) < 1) = true := by simp; omega
    go_enter Tryz.func28, Tryz.ntmps28
    go_wp2_with fail
    go_ret2
    exact ⟨Below.refl _ _, .inr ⟨HF.out, by first | rfl | trivial⟩⟩
  · have hd1 : decide ((n : Int) < 1) = false := by simp; omega
    have hd2 : decide ((7 : Int) < (n : Int)) = true := by simp; omega
    go_enter Tryz.func28, Tryz.ntmps28
    go_wp2_with fail
    go_ret2
    exact ⟨Below.refl _ _, .inr ⟨HF.out, by first | rfl | trivial⟩⟩

set_option maxRecDepth 100000 in
set_option maxHeartbeats 3200000 in
theorem familyFrom_in (g o n cap : Nat) (f : Nat → Int) (h1 : 1 ≤ n) (h7 : n ≤ 7) (w : World) (hr : Row w g o n f) (hg : g < w.heap.size) :
    Calls Tryz.prog 28 #[.slice (some ⟨g, o, none⟩) n cap] w (FromEnd n f w) := by
  have hd1 : decide ((n : Int) < 1) = false := by simp; omega
  have hd2 : decide ((7 : Int) < (n : Int)) = false := by simp; omega
  have hst : FromR n f w (.int .i64 0) (w.alloc (.cells #[.slice none 0 0] 45)) := by
    refine ⟨0, .slice none 0 0, Nat.zero_le _, rfl, ?_, alloc_below w _, fun j hj => absurd hj (Nat.not_lt_zero _)⟩
    rw [memS_zero]
    refine ⟨(cell_new w _ _).1, ?_, World.frozen?_alloc_at _ _ w.heap.size 0 rfl, (by intro e; cases e), Nat.le_refl _⟩
    rw [fam_none]; exact OwnX.nil _ _ _
  have HR := Lib.hid hr; clear hr
  go_enter Tryz.func28, Tryz.ntmps28
  go_wp2_with fail
  go_loopw [17] (fun i wr => FromR n f w i wr) (fun i _ => n - (intOf i).toNat)
  case atStart => exact hst
  case round =>
    clear hst
    obtain ⟨k, v, hk, rfl, hfam, hbel, hall⟩ := hrel
    have hr := HR.out.below hbel hg
    have HB := Lib.hid hbel; have HALL := Lib.hid hall; have HFAM := Lib.hid hfam
    have hcell := hfam.cell
    clear hbel hall hfam
    by_cases hlt : k < n
    · have hki : (k : Int) < (n : Int) := by omega
      have hc := hr k hlt
      clear hr
      by_cases hx1 : ¬ (1 ≤ f k ∧ f k ≤ 15)
      · have HX0 := Lib.hid (okX_no.2 hx1)
        have HF := Lib.hid (famOk_no (f := f) hlt (fun e => hx1 e.1))
        clear hx1
        go_wp2_with fail
        refine (pointsOk_val _ false HX0.out _).mono ?_
        rintro e w' ⟨rfl, rfl⟩
        go_wp2_with fail
        go_ret2
        exact ⟨HB.out, .inr ⟨HF.out, by first | rfl | trivial⟩⟩
      · obtain ⟨x, hx⟩ : ∃ x : Nat, f k = (x : Int) := ⟨(f k).toNat, by omega⟩
        have hx16 : x < 16 := by omega
        have hx0 : 1 ≤ x := by omega
        rw [hx] at hc
        have HX := Lib.hid hx
        have HX0 : Hid (okX (x : Int) = true) := Lib.hid (okX_iff.2 (by omega))
        clear hx1 hx
        cases hs : memS k f x with
        | true =>
          have HF := Lib.hid (famOk_no (f := f) hlt (fun e => by
            have := (memS_new HX.out).2 e.2
            rw [hs] at this; cases this))
          have HSX := Lib.hid hs
          clear hs
          go_wp2_with fail
          refine (pointsOk_val _ true HX0.out _).mono ?_
          rintro e w' ⟨rfl, rfl⟩
          go_wp2_with fail
          refine (put_old w.heap.size w.heap.size v (memS k f) x hx16 _ HB.out.size HFAM.out HSX.out).mono ?_
          rintro e w1 ⟨rfl, v', hf1, hu1, hn1⟩
          have HB1 := Lib.hid (HB.out.trans (hu1.below (B := w.heap.size) HFAM.out.mine HB.out.size))
          clear hf1 hu1 hn1
          go_wp2_with fail
          go_ret2
          exact ⟨HB1.out, .inr ⟨HF.out, by first | rfl | trivial⟩⟩
        | false =>
          have HSX := Lib.hid hs
          clear hs
          go_wp2_with fail
          refine (pointsOk_val _ true HX0.out _).mono ?_
          rintro e w' ⟨rfl, rfl⟩
          go_wp2_with fail
          refine (put_new w.heap.size w.heap.size v (memS k f) x hx16 _ HB.out.size HFAM.out HSX.out).mono ?_
          rintro e w1 ⟨rfl, v', hf1, hu1, hn1⟩
          have HB1 := Lib.hid (HB.out.trans (hu1.below (B := w.heap.size) HFAM.out.mine HB.out.size))
          have hrel : FromR n f w (.int .i64 ((k + 1 : Nat) : Int)) w1 := by
            refine ⟨k + 1, v', by omega, rfl, by rw [memS_succ HX.out]; exact hf1, HB1.out, fun j hj => ?_⟩
            by_cases e : j = k
            · subst e
              exact ⟨by have := HX.out; omega, (memS_new HX.out).1 HSX.out⟩
            · exact HALL.out j (by omega)
          have HREL := Lib.hid hrel
          clear hf1 hu1 hn1 hrel
          go_wp2_with fail
          go_roundw
          case rel => exact HREL.out
          case measure => simp [intOf]; omega
    · have hki : ¬ (k : Int) < (n : Int) := by omega
      have hkn : k = n := by omega
      subst hkn
      have HF := Lib.hid (famOk_of h1 h7 HALL.out)
      clear hr
      obtain ⟨a3, c3, rfl⟩ := HFAM.out.slice
      go_wp2_with fail
      go_ret2
      exact ⟨HB.out, .inl ⟨HF.out, _, rfl, HFAM.out.own⟩⟩

theorem familyFrom_any (a : Option Addr) (n cap : Nat) (f : Nat → Int) (w : World) (hi : Ints w a n f) :
    Calls Tryz.prog 28 #[.slice a n cap] w (FromEnd n f w) := by
  by_cases h : 1 ≤ n ∧ n ≤ 7
  · obtain ⟨b, o, rfl, hbl, hrow⟩ := hi.row h.1
    exact familyFrom_in b o n cap f h.1 h.2 w hrow hbl
  · exact familyFrom_len a n cap f (by omega) hi.1.1 w

set_option maxRecDepth 100000 in
set_option maxHeartbeats 800000 in
theorem FamilyOk_any (a : Option Addr) (n cap : Nat) (f : Nat → Int) (w : World) (hi : Ints w a n f) :
    Calls Tryz.prog 9 #[.slice a n cap] w fun e w' => e = .returned (.bool (famOkB n f)) ∧ Below w.heap.size w w' := by
  have HI := Lib.hid hi; clear hi
  go_enter Tryz.func9, Tryz.ntmps9
  go_wp2_with fail
  refine (familyFrom_any a n cap f _ HI.out).mono ?_
  rintro e w1 ⟨hb, ⟨hf, v, rfl, hown⟩ | ⟨hf, rfl⟩⟩
  · have HF := Lib.hid hf; have HB := Lib.hid hb
    clear hf hb hown
    go_wp2_with fail
    go_ret
    exact ⟨retb HF.out.symm, HB.out⟩
  · have HF := Lib.hid hf; have HB := Lib.hid hb
    clear hf hb
    go_wp2_with fail
    go_ret
    exact ⟨retb HF.out.symm, HB.out⟩
theorem FamilyOk_val (a : Option Addr) (n cap : Nat) (f : Nat → Int) (v : Bool) (w : World) (hv : famOkB n f = v) (hi : Ints w a n f) :
    Calls Tryz.prog 9 #[.slice a n cap] w fun e w' => e = .returned (.bool v) ∧ Below w.heap.size w w' := by subst hv; exact FamilyOk_any a n cap f w hi

/-- the world of a family -/
def wfL (n : Nat) (f : Nat → Int) : List Int := if famOkB n f then rowL (wfF n f) n else []

set_option maxRecDepth 100000 in
set_option maxHeartbeats 800000 in
theorem WorldFrom_any (a : Option Addr) (n cap : Nat) (f : Nat → Int) (w : World) (hi : Ints w a n f) :
    Calls Tryz.prog 10 #[.slice a n cap] w (Gives 3 (wfL n f) w) := by
  have HI := Lib.hid hi; clear hi
  cases hf : famOkB n f with
  | true =>
    rw [show wfL n f = rowL (wfF n f) n by unfold wfL; rw [if_pos hf]]
    have hP := famOk_iff.1 hf
    have HF := Lib.hid hf; clear hf
    have h7 := hP.hi
    obtain ⟨b, o, rfl, hbl, hrow⟩ := HI.out.row hP.lo
    have HR := Lib.hid hrow
    clear hP hrow
    go_enter Tryz.func10, Tryz.ntmps10
    go_wp2_with fail
    refine (FamilyOk_val _ n cap f true _ HF.out HI.out).mono ?_
    rintro e w1 ⟨rfl, hb1⟩
    have HB := Lib.hid hb1; have HR1 := Lib.hid (HR.out.below hb1 hbl)
    have hbl1 : b < w1.heap.size := Nat.lt_of_lt_of_le hbl hb1.size
    clear hb1
    go_wp2_with fail
    refine (worldAmong_any b o n cap f h7 _ HR1.out hbl1).mono ?_
    rintro e w2 ⟨v, rfl, hown, hb2⟩
    have HO := Lib.hid hown; have HB2 := Lib.hid hb2; clear hown hb2
    go_wp2_with fail
    go_ret
    exact ⟨_, rfl, HO.out.base HB.out.size, below_onto HB.out HB2.out⟩
  | false =>
    rw [show wfL n f = [] by unfold wfL; rw [if_neg (by rw [hf]; decide)]]
    have HF := Lib.hid hf; clear hf
    go_enter Tryz.func10, Tryz.ntmps10
    go_wp2_with fail
    refine (FamilyOk_val _ n cap f false _ HF.out HI.out).mono ?_
    rintro e w1 ⟨rfl, hb1⟩
    have HB := Lib.hid hb1; have HN := Lib.hid (OwnX.nil w1 w.heap.size 3); clear hb1
    go_wp2_with fail
    go_ret
    exact ⟨_, rfl, HN.out, HB.out⟩

/-! ### what follows from a set -/

theorem pow20i (k : Nat) (hk : k < 4) : (1 : Int) ≤ 2 ^ k ∧ (2 : Int) ^ k ≤ 8 := by
  rcases (show k = 0 ∨ k = 1 ∨ k = 2 ∨ k = 3 by omega) with rfl | rfl | rfl | rfl <;> decide

theorem sumL_row (S : Nat → Bool) (s : Int) : sumL S s = rowL (fun k => orI s ((fam S 16).getD k 0)) (fam S 16).length := by
  unfold sumL rowL
  apply List.ext_getElem?
  intro i
  rw [List.getElem?_map, List.getElem?_map]
  by_cases hi : i < (fam S 16).length
  · rw [List.getElem?_range hi, Option.map_some, List.getD_eq_getElem?_getD, List.getElem?_eq_getElem hi]; rfl
  · rw [List.getElem?_eq_none (by omega), List.getElem?_eq_none (by simp; omega)]; rfl
end Go.Proofs.YtdlafcioopclhaaGreat
