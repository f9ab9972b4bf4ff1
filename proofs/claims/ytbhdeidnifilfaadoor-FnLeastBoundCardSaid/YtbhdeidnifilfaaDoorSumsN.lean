import Derived.Test.YtbhdeidnifilfaaDoorSumsL
import Derived.Test.YtbhdeidnifilfaaDoorBaseB
namespace Go.Proofs.YtbhdeidnifilfaaDoor
open Go.RowKit

theorem least_bit {n : Nat} {f : Nat → Int} {x : Int} {a : Nat} (ha : a < n) (hn : n ≤ 7) : hasB (leastI n f x) a = leastG n f x a := by
  unfold leastI; rw [setOf_bit _ _ _ (by omega), decide_eq_true ha, Bool.true_and]

/-- none of the first k is it -/
def noneB (n : Nat) (f : Nat → Int) (x : Int) (k : Nat) : Bool := decide (∀ a, a < k → leastG n f x a = false)
theorem none_zero (n : Nat) (f : Nat → Int) (x : Int) : noneB n f x 0 = true := decide_eq_true (fun _ h => absurd h (Nat.not_lt_zero _))
theorem none_step {n : Nat} {f : Nat → Int} {x : Int} {k : Nat} (h : noneB n f x k = true) (hg : leastG n f x k = false) : noneB n f x (k + 1) = true := by
  unfold noneB at h ⊢; rw [decide_eq_true_eq] at h ⊢
  intro a ha
  by_cases e : a = k
  · subst e; exact hg
  · exact h a (by omega)

theorem leastI_found {n : Nat} {f : Nat → Int} {x : Int} (h7 : n ≤ 7) {k : Nat} (hk : k < n) (h0 : noneB n f x k = true) (h1 : leastG n f x k = true) : firstI (leastI n f x) = k ∧ (leastI n f x != 0) = true := by
  obtain ⟨R, hR, hR7⟩ := least_nat n f x h7
  have hbit : ∀ i, i < n → R.testBit i = leastG n f x i := fun i hi => by rw [← hasB_nat, ← hR, least_bit hi h7]
  unfold noneB at h0; rw [decide_eq_true_eq] at h0
  have hlow : ∀ i, i < k → R.testBit i = false := fun i hi => by rw [hbit i (by omega)]; exact h0 i hi
  have hk2 : R.testBit k = true := by rw [hbit k hk, h1]
  obtain ⟨h3, _⟩ := ctz_at hR7 hk2 hlow
  have h4 : R ≠ 0 := by intro e; subst e; simp at hk2
  rw [hR]
  constructor
  · unfold firstI; rw [if_neg (by omega), Int.toNat_natCast, h3]
  · rw [bne_iff_ne]; omega

theorem leastI_none {n : Nat} {f : Nat → Int} {x : Int} (h0 : noneB n f x n = true) : leastI n f x = 0 := by
  unfold noneB at h0; rw [decide_eq_true_eq] at h0
  refine ext64 _ _ (setOf_I64 _ _) I64_zero (fun i hi => ?_)
  unfold leastI; rw [hasB_zero, setOf_bit _ _ _ hi]
  by_cases hin : i < n
  · rw [h0 i hin]; simp
  · rw [decide_eq_false hin]; rfl

theorem least_found {n : Nat} {f : Nat → Int} {s : Int} (hs : setB n f s = true) {k : Nat} (hk : k < n) (h0 : noneB n f (boundsI n f s) k = true) (h1 : leastG n f (boundsI n f s) k = true) : leastN n f s = k ∧ leastOk n f s = true := by
  have h7 := (worldB_7 (setB_iff.1 hs).1).2
  obtain ⟨e1, e2⟩ := leastI_found h7 hk h0 h1
  exact ⟨by unfold leastN; rw [if_pos hs, e1], by unfold leastOk; rw [hs, e2]; rfl⟩
theorem least_none {n : Nat} {f : Nat → Int} {s : Int} (hs : setB n f s = true) (h0 : noneB n f (boundsI n f s) n = true) : leastN n f s = -1 ∧ leastOk n f s = false := by
  have e := leastI_none h0
  exact ⟨by unfold leastN; rw [if_pos hs, e]; rfl, by unfold leastOk; rw [hs, e]; rfl⟩

theorem leastG_zero (n : Nat) (f : Nat → Int) (a : Nat) : leastG n f 0 a = false := by unfold leastG; rw [hasB_zero]; rfl

theorem specWholes_at (a : Option Addr) (n cap : Nat) (f : Nat → Int) (k : Nat) (w : World) (hw : worldB n f = true) (hk : k < n) (hi : Ints w a n f) :
    Calls Tryd.prog 21 #[.slice a n cap, .int .i64 k] w fun e w' => e = .returned (.int .i64 (wholesI n f k)) ∧ Drew w w' := by
  rw [← wholesB_at hw hk]; exact specWholesOf_any a n cap f k w hi
theorem specBounds_at (a : Option Addr) (n cap : Nat) (f : Nat → Int) (s v : Int) (w : World) (hv : boundsB n f s = v) (hi : Ints w a n f) :
    Calls Tryd.prog 9 #[.slice a n cap, .int .i64 s] w fun e w' => e = .returned (.int .i64 v) ∧ Drew w w' := by
  subst hv; exact specBoundsOf_any a n cap f s w hi

set_option maxHeartbeats 3200000 in
theorem specLeastBound_in (a : Option Addr) (n cap : Nat) (f : Nat → Int) (s : Int) (w : World) (hs : setB n f s = true) (hi : Ints w a n f) :
    Calls Tryd.prog 7 #[.slice a n cap, .int .i64 s] w (TwoDrew (leastN n f s) (leastOk n f s) w) := by
  have hw := (setB_iff.1 hs).1
  obtain ⟨h1, h7⟩ := worldB_7 hw
  obtain ⟨B, hB⟩ : ∃ B, boundsI n f s = B := ⟨_, rfl⟩
  have HV := Lib.hid (show boundsB n f s = B by unfold boundsB; rw [if_pos hs, hB])
  have hB0 : 0 ≤ B := by rw [← hB]; exact (setOf_rng _ n (by omega)).1
  have hB64 : I64 B := by rw [← hB]; exact setOf_I64 _ _
  have HB := Lib.hid hB; have HW := Lib.hid hw; have HN := Lib.hid hi; have HS := Lib.hid hs; clear hB hw hi hs
  have h0n : (0 : Int) < (n : Int) := by omega
  by_cases hz : B = 0
  · subst hz
    have HF := Lib.hid (least_none HS.out (by rw [HB.out]; exact decide_eq_true (fun k _ => leastG_zero n f k)))
    go_enter Tryd.func7, Tryd.ntmps7
    go_wp2_with fail
    refine (specBounds_at _ n _ f s 0 _ HV.out HN.out).mono ?_
    rintro e w1 ⟨rfl, hd1⟩
    go_wp2_with fail
    go_loopw [7] (fun i wr => i = .int .i64 0 ∧ Drew w wr) (fun _ _ => 0)
    case atStart => exact ⟨rfl, hd1⟩
    case round =>
      obtain ⟨rfl, hd⟩ := hrel
      go_wp2_with fail
      go_ret2
      exact ⟨by rw [HF.out.1, HF.out.2]; rfl, hd⟩
  · have hpos : (0 : Int) < B := by omega
    have HE := Lib.hid (fun k => and_eq_within (wholesI n f k) B hB64)
    clear hB64
    go_enter Tryd.func7, Tryd.ntmps7
    go_wp2_with fail
    refine (specBounds_at _ n _ f s B _ HV.out HN.out).mono ?_
    rintro e w1 ⟨rfl, hd1⟩
    go_wp2_with fail
    go_loopw [7] (fun i wr => ∃ k : Nat, k ≤ n ∧ i = .int .i64 k ∧ Hid (noneB n f B k = true) ∧ Drew w wr) (fun i _ => n - (intOf i).toNat)
    case atStart => exact ⟨0, Nat.zero_le _, rfl, Lib.hid (none_zero n f B), hd1⟩
    case round =>
      clear hd1
      obtain ⟨k, hk, rfl, hno, hd⟩ := hrel
      by_cases hlt : k < n
      · have hki : (k : Int) < (n : Int) := by omega
        have hk63 : k ≤ 63 := by omega
        have hek := HE.out k
        cases hb : hasB B k with
        | false =>
          have HSt := Lib.hid (none_step hno.out (show leastG n f B k = false by unfold leastG; rw [hb]; rfl))
          have HH := Lib.hid hb; clear hb hek
          go_wp2_with fail
          refine (l1Has_val B k false _ HH.out hk63 hB0).mono ?_
          rintro e w2 ⟨rfl, rfl⟩
          go_wp2_with fail
          go_roundw
          case rel => exact ⟨k + 1, by omega, by go_num, HSt, hd⟩
          case measure => simp [intOf]; omega
        | true =>
          cases hw2 : withinB B (wholesI n f k) with
          | false =>
            have HSt := Lib.hid (none_step hno.out (show leastG n f B k = false by unfold leastG; rw [hw2]; simp))
            rw [hw2] at hek
            have HH := Lib.hid hb; clear hb hw2
            go_wp2_with fail
            refine (l1Has_val B k true _ HH.out hk63 hB0).mono ?_
            rintro e w2 ⟨rfl, rfl⟩
            go_wp2_with fail
            refine (specWholes_at _ n _ f k _ HW.out hlt (HN.out.drew hd)).mono ?_
            rintro e w2 ⟨rfl, hd2⟩
            replace hd := hd.onto hd2; clear hd2
            go_wp2_with fail
            go_roundw
            case rel => exact ⟨k + 1, by omega, by go_num, HSt, hd⟩
            case measure => simp [intOf]; omega
          | true =>
            have HF := Lib.hid (least_found HS.out hlt (by rw [HB.out]; exact hno.out) (show leastG n f (boundsI n f s) k = true by rw [HB.out]; unfold leastG; rw [hb, hw2]; rfl))
            rw [hw2] at hek
            have HH := Lib.hid hb; clear hb hw2
            go_wp2_with fail
            refine (l1Has_val B k true _ HH.out hk63 hB0).mono ?_
            rintro e w2 ⟨rfl, rfl⟩
            go_wp2_with fail
            refine (specWholes_at _ n _ f k _ HW.out hlt (HN.out.drew hd)).mono ?_
            rintro e w2 ⟨rfl, hd2⟩
            replace hd := hd.onto hd2; clear hd2
            go_wp2_with fail
            go_ret2
            exact ⟨by rw [HF.out.1, HF.out.2]; rfl, hd⟩
      · have hkn : k = n := by omega
        have HF := Lib.hid (least_none HS.out (show noneB n f (boundsI n f s) n = true by rw [HB.out]; have h := hno.out; rw [hkn] at h; exact h))
        clear hkn
        go_wp2_with fail
        go_ret2
        exact ⟨by rw [HF.out.1, HF.out.2]; rfl, hd⟩

set_option maxHeartbeats 1600000 in
theorem specLeastBound_any (a : Option Addr) (n cap : Nat) (f : Nat → Int) (s : Int) (w : World) (hi : Ints w a n f) :
    Calls Tryd.prog 7 #[.slice a n cap, .int .i64 s] w (TwoDrew (leastN n f s) (leastOk n f s) w) := by
  cases hs : setB n f s with
  | true => exact specLeastBound_in a n cap f s w hs hi
  | false =>
    have HV := Lib.hid (show boundsB n f s = -1 by unfold boundsB; rw [if_neg (by rw [hs]; decide)])
    have HF1 := Lib.hid (show leastN n f s = -1 by unfold leastN; rw [if_neg (by rw [hs]; decide)])
    have HF2 := Lib.hid (show leastOk n f s = false by unfold leastOk; rw [hs]; rfl)
    have hn := hi.1.1
    have HN := Lib.hid hi; clear hi hs
    by_cases h0 : 0 < n
    · have h0i : (0 : Int) < (n : Int) := by omega
      go_enter Tryd.func7, Tryd.ntmps7
      go_wp2_with fail
      refine (specBounds_at _ n _ f s (-1) _ HV.out HN.out).mono ?_
      rintro e w1 ⟨rfl, hd1⟩
      go_wp2_with fail
      go_loopw [7] (fun i wr => i = .int .i64 0 ∧ Drew w wr) (fun _ _ => 0)
      case atStart => exact ⟨rfl, hd1⟩
      case round =>
        obtain ⟨rfl, hd⟩ := hrel
        go_wp2_with fail
        go_ret2
        exact ⟨by rw [HF1.out, HF2.out]; rfl, hd⟩
    · have h0i : ¬ (0 : Int) < (n : Int) := by omega
      go_enter Tryd.func7, Tryd.ntmps7
      go_wp2_with fail
      refine (specBounds_at _ n _ f s (-1) _ HV.out HN.out).mono ?_
      rintro e w1 ⟨rfl, hd1⟩
      go_wp2_with fail
      go_loopw [7] (fun i wr => i = .int .i64 0 ∧ Drew w wr) (fun _ _ => 0)
      case atStart => exact ⟨rfl, hd1⟩
      case round =>
        obtain ⟨rfl, hd⟩ := hrel
        go_wp2_with fail
        go_ret2
        exact ⟨by rw [HF1.out, HF2.out]; rfl, hd⟩

theorem specLeastBound_val (a : Option Addr) (n cap : Nat) (f : Nat → Int) (s : Int) (i : Int) (v : Bool) (w : World) (h1 : leastN n f s = i) (h2 : leastOk n f s = v) (hi : Ints w a n f) :
    Calls Tryd.prog 7 #[.slice a n cap, .int .i64 s] w (TwoDrew i v w) := by
  subst h1; subst h2; exact specLeastBound_any a n cap f s w hi
end Go.Proofs.YtbhdeidnifilfaaDoor
