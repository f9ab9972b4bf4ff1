import Derived.Test.YtbhdeidnifilfaaLawC
import Derived.Test.YtbhdeidnifilfaaSumsK
import Derived.Test.YtbhdeidnifilfaaDrawZ
import Derived.Deep.RegionHeld3
namespace Go.Proofs.Ytbhdeidnifilfaa
open Go.RowKit

theorem StrongOk_val (a : Option Addr) (n cap : Nat) (f : Nat → Int) (v : Bool) (w : World) (hv : strongB n f = v) (hi : Ints w a n f) :
    Calls Try.prog 15 #[.slice a n cap] w fun e w' => e = .returned (.bool v) ∧ Below w.heap.size w w' := by
  subst hv; exact StrongOk_any a n cap f w hi
theorem specSumsOf_val (a : Option Addr) (n cap : Nat) (f : Nat → Int) (s v : Int) (w : World) (hv : sumsB n f s = v) (hi : Ints w a n f) :
    Calls Try.prog 11 #[.slice a n cap, .int .i64 s] w fun e w' => e = .returned (.int .i64 v) ∧ Drew w w' := by
  subst hv; exact specSumsOf_any a n cap f s w hi
theorem specBoundsOf_val (a : Option Addr) (n cap : Nat) (f : Nat → Int) (s v : Int) (w : World) (hv : boundsB n f s = v) (hi : Ints w a n f) :
    Calls Try.prog 19 #[.slice a n cap, .int .i64 s] w fun e w' => e = .returned (.int .i64 v) ∧ Drew w w' := by
  subst hv; exact specBoundsOf_any a n cap f s w hi
theorem specSummedOk_val (a : Option Addr) (n cap : Nat) (f : Nat → Int) (v : Bool) (w : World) (hv : summedB n f = v) (hi : Ints w a n f) :
    Calls Try.prog 23 #[.slice a n cap] w fun e w' => e = .returned (.bool v) ∧ Drew w w' := by
  subst hv; exact specSummedOk_any a n cap f w hi

theorem bounds_rng (n : Nat) (f : Nat → Int) (s : Int) (hn : n ≤ 7) : 0 ≤ boundsI n f s ∧ boundsI n f s ≤ 128 := by
  have := setOf_rng (fun b => withinB s (f b)) n (by omega)
  have := pow_bounds n hn
  unfold boundsI; omega
theorem sums_rng (n : Nat) (f : Nat → Int) (s : Int) (hn : n ≤ 7) : 0 ≤ sumsI n f s ∧ sumsI n f s ≤ 128 := by
  have := setOf_rng (sumG n f s) n (by omega)
  have := pow_bounds n hn
  unfold sumsI; omega
theorem ne_false {a b : Int} (h : a = b) : (a != b) = false := by rw [h]; simp

set_option maxHeartbeats 8000000 in
theorem lawBoundsOf (a : Option Addr) (n cap : Nat) (w : World) (h : BytesIn w a n cap) :
    Calls Try.prog 4 #[.slice a n cap] w (TrueEnd w) := by
  have hlen := h.len
  have H := Lib.hid h; clear h
  by_cases hn : 1048576 < n
  · go_enter Try.func4, Try.ntmps4
    go_wp2_with fail
    go_ret
    exact ⟨rfl, Below.refl _ _⟩
  · go_enter Try.func4, Try.ntmps4
    go_wp2_with fail
    refine (DrawBoundsOf_any _ _ _ _ H.out).mono ?_
    rintro e w1 ⟨d, m, c, f, x, rfl, hm, hx64, hi, hb1⟩
    have h64 := Lib.hid hi.i64
    obtain ⟨hx1, hx2⟩ := hx64
    have HX := Lib.hid (show I64 x from ⟨hx1, hx2⟩)
    cases hg : setB m f x with
    | false =>
      have HV := Lib.hid (show boundsB m f x = -1 by unfold boundsB; rw [if_neg (by rw [hg]; decide)])
      clear hg
      go_wp2_with fail
      refine (BoundsOf_val _ _ _ f x (-1) HX.out _ HV.out hi).mono ?_
      rintro e w9 ⟨rfl, hb2⟩
      replace hi := hi.next hb2; replace hb1 := below_onto hb1 hb2; clear hb2
      go_wp2_with fail
      refine (specBoundsOf_val _ _ _ f x (-1) _ HV.out hi).mono ?_
      rintro e w9 ⟨rfl, hd3⟩
      replace hi := hi.drew hd3; replace hb1 := below_onto hb1 hd3.below; clear hd3
      go_wp2_with fail
      refine (alive_any _).mono ?_
      rintro e w9 ⟨rfl, hb2⟩
      replace hb1 := below_onto hb1 hb2; clear hb2
      go_wp2_with fail
      go_ret
      exact ⟨rfl, hb1⟩
    | true =>
      obtain ⟨hwb, hs1, hs2⟩ := setB_iff.1 hg
      have HP := Lib.hid ((worldB_iff m f h64.out).1 hwb)
      have h7 := (worldB_7 hwb).2
      obtain ⟨S, hS⟩ : ∃ S, S = boundsI m f x := ⟨_, rfl⟩
      have HV := Lib.hid (show boundsB m f x = S by unfold boundsB; rw [if_pos hg, hS])
      have hrg := bounds_rng m f x h7
      rw [← hS] at hrg
      have HS64 := Lib.hid (rng_I64 hrg)
      obtain ⟨hrg1, hrg2⟩ := hrg
      have HS := Lib.hid hS; have HW := Lib.hid hwb; have HG := Lib.hid hg; clear hS hwb hg hs1 hs2
      go_wp2_with fail
      refine (BoundsOf_val _ _ _ f x S HX.out _ HV.out hi).mono ?_
      rintro e w9 ⟨rfl, hb2⟩
      replace hi := hi.next hb2; replace hb1 := below_onto hb1 hb2; clear hb2
      go_wp2_with fail
      refine (specBoundsOf_val _ _ _ f x S _ HV.out hi).mono ?_
      rintro e w9 ⟨rfl, hd3⟩
      replace hi := hi.drew hd3; replace hb1 := below_onto hb1 hd3.below; clear hd3
      go_wp2_with fail
      go_loopw [6] (fun i wr => ∃ k : Nat, k ≤ m ∧ i = .int .i64 k ∧ Ints wr d m f ∧ Below w.heap.size w wr) (fun i _ => m - (intOf i).toNat)
      case atStart => exact ⟨0, Nat.zero_le _, rfl, hi, hb1⟩
      case round =>
        clear hi hb1
        obtain ⟨k, hk, rfl, hi, hb1⟩ := hrel
        by_cases hlt : k < m
        · have ⟨hp1, hp2⟩ := pow_bounds k (by omega)
          obtain ⟨T, hT⟩ : ∃ T, T = boundsI m f (bits .or .i64 x (2 ^ k)) := ⟨_, rfl⟩
          have HT := Lib.hid (show boundsB m f (bits .or .i64 x (2 ^ k)) = T by unfold boundsB; rw [if_pos (set_more HG.out hlt), hT])
          have hne2 : (bits .or .i64 T S != S) = false := ne_false (by rw [hT, HS.out]; exact bounds_more HP.out hlt)
          clear hT
          cases hb : hasB S k with
          | true =>
            have HB := Lib.hid ((hb_in (k := k) hrg1).trans hb)
            have HWH := Lib.hid (wholesB_at HW.out hlt)
            have hne1 : (bits .or .i64 (wholesI m f k) S != S) = false := ne_false (by rw [HS.out] at hb ⊢; exact bounds_up HP.out hlt hb)
            clear hb
            go_wp2_with fail
            refine (hasBit_val S k true HB.out (by omega) HS64.out _).mono ?_
            rintro e w9 ⟨rfl, rfl⟩
            go_wp2_with fail
            refine (WholesOf_val _ _ _ f k (wholesI m f k) _ HWH.out hi).mono ?_
            rintro e w9 ⟨rfl, hb2⟩
            replace hi := hi.next hb2; replace hb1 := below_onto hb1 hb2; clear hb2
            go_wp2_with fail
            refine (BoundsOf_val _ _ _ f (bits .or .i64 x (2 ^ k)) T (orI_I64 _ _) _ HT.out hi).mono ?_
            rintro e w9 ⟨rfl, hb2⟩
            replace hi := hi.next hb2; replace hb1 := below_onto hb1 hb2; clear hb2
            go_wp2_with fail
            go_roundw
            case rel => exact ⟨k + 1, by omega, by go_num, hi, hb1⟩
            case measure => simp [intOf]; omega
          | false =>
            have HB := Lib.hid ((hb_in (k := k) hrg1).trans hb)
            clear hb
            go_wp2_with fail
            refine (hasBit_val S k false HB.out (by omega) HS64.out _).mono ?_
            rintro e w9 ⟨rfl, rfl⟩
            go_wp2_with fail
            refine (BoundsOf_val _ _ _ f (bits .or .i64 x (2 ^ k)) T (orI_I64 _ _) _ HT.out hi).mono ?_
            rintro e w9 ⟨rfl, hb2⟩
            replace hi := hi.next hb2; replace hb1 := below_onto hb1 hb2; clear hb2
            go_wp2_with fail
            go_roundw
            case rel => exact ⟨k + 1, by omega, by go_num, hi, hb1⟩
            case measure => simp [intOf]; omega
        · go_wp2_with fail
          go_ret
          exact ⟨rfl, hb1⟩

/-- how many there are below k -/
def cntN (g : Nat → Bool) : Nat → Nat
  | 0 => 0
  | k + 1 => if g k then cntN g k + 1 else cntN g k
theorem cnt_yes {g : Nat → Bool} {k : Nat} (h : g k = true) : cntN g (k + 1) = cntN g k + 1 := by rw [cntN, if_pos h]
theorem cnt_no {g : Nat → Bool} {k : Nat} (h : g k = false) : cntN g (k + 1) = cntN g k := by rw [cntN, if_neg (by rw [h]; decide)]
theorem cnt_le (g : Nat → Bool) (k : Nat) : cntN g k ≤ k := by
  induction k with
  | zero => exact Nat.le_refl _
  | succ k ih => rw [cntN]; split <;> omega
theorem cnt_zero (g : Nat → Bool) (k : Nat) (h : ∀ a, a < k → g a = false) : cntN g k = 0 := by
  induction k with
  | zero => rfl
  | succ k ih => rw [cnt_no (h k (by omega))]; exact ih (fun a ha => h a (by omega))
theorem cnt_one (g : Nat → Bool) (k : Nat) (h : ∀ a b, a < k → b < k → g a = true → g b = true → a = b) : cntN g k ≤ 1 := by
  induction k with
  | zero => exact Nat.zero_le _
  | succ k ih =>
    cases e : g k with
    | true =>
      rw [cnt_yes e, cnt_zero g k (fun a ha => by
        cases e2 : g a with
        | false => rfl
        | true => have := h a k (by omega) (by omega) e2 e; omega)]
      omega
    | false => rw [cnt_no e]; exact ih (fun a b ha hb => h a b (by omega) (by omega))

theorem part_at {n : Nat} {f : Nat → Int} (hw : worldB n f = true) {x y : Nat} (hx : x < n) (hy : y < n) : partB n f x y = hasB (f y) x := by
  unfold partB; rw [(good2_iff n f x y).2 ⟨hw, by omega, by omega⟩]; rfl

set_option maxHeartbeats 8000000 in
theorem lawSumsOf (a : Option Addr) (n cap : Nat) (w : World) (h : BytesIn w a n cap) :
    Calls Try.prog 3 #[.slice a n cap] w (TrueEnd w) := by
  have hlen := h.len
  have H := Lib.hid h; clear h
  by_cases hn : 1048576 < n
  · go_enter Try.func3, Try.ntmps3
    go_wp2_with fail
    go_ret
    exact ⟨rfl, Below.refl _ _⟩
  · go_enter Try.func3, Try.ntmps3
    go_wp2_with fail
    refine (DrawSumsOf_any _ _ _ _ H.out).mono ?_
    rintro e w1 ⟨d, m, c, f, x, rfl, hm, hx64, hi, hb1⟩
    have h64 := Lib.hid hi.i64
    obtain ⟨hx1, hx2⟩ := hx64
    have HX := Lib.hid (show I64 x from ⟨hx1, hx2⟩)
    cases hg : setB m f x with
    | false =>
      have HV := Lib.hid (show sumsB m f x = -1 by unfold sumsB; rw [if_neg (by rw [hg]; decide)])
      clear hg
      go_wp2_with fail
      refine (SumsOf_val _ _ _ f x (-1) HX.out _ HV.out hi).mono ?_
      rintro e w9 ⟨rfl, hb2⟩
      replace hi := hi.next hb2; replace hb1 := below_onto hb1 hb2; clear hb2
      go_wp2_with fail
      refine (specSumsOf_val _ _ _ f x (-1) _ HV.out hi).mono ?_
      rintro e w9 ⟨rfl, hd3⟩
      replace hi := hi.drew hd3; replace hb1 := below_onto hb1 hd3.below; clear hd3
      go_wp2_with fail
      refine (alive_any _).mono ?_
      rintro e w9 ⟨rfl, hb2⟩
      replace hb1 := below_onto hb1 hb2; clear hb2
      go_wp2_with fail
      go_ret
      exact ⟨rfl, hb1⟩
    | true =>
      obtain ⟨hwb, hs1, hs2⟩ := setB_iff.1 hg
      have h7 := (worldB_7 hwb).2
      have hx0 : 0 ≤ x := by omega
      obtain ⟨S, hS⟩ : ∃ S, S = sumsI m f x := ⟨_, rfl⟩
      have HV := Lib.hid (show sumsB m f x = S by unfold sumsB; rw [if_pos hg, hS])
      have hrg := sums_rng m f x h7
      rw [← hS] at hrg
      have HS64 := Lib.hid (rng_I64 hrg)
      obtain ⟨hrg1, hrg2⟩ := hrg
      have HS := Lib.hid hS; have HW := Lib.hid hwb; clear hS hwb hg hs1 hs2
      go_wp2_with fail
      refine (SumsOf_val _ _ _ f x S HX.out _ HV.out hi).mono ?_
      rintro e w9 ⟨rfl, hb2⟩
      replace hi := hi.next hb2; replace hb1 := below_onto hb1 hb2; clear hb2
      go_wp2_with fail
      refine (specSumsOf_val _ _ _ f x S _ HV.out hi).mono ?_
      rintro e w9 ⟨rfl, hd3⟩
      replace hi := hi.drew hd3; replace hb1 := below_onto hb1 hd3.below; clear hd3
      go_wp2_with fail
      go_loopw [6, 7] (fun v i wr => ∃ k : Nat, k ≤ m ∧ i = .int .i64 k ∧ v = .int .i64 (cntN (sumG m f x) k : Nat) ∧ Ints wr d m f ∧ Below w.heap.size w wr) (fun _ i _ => m - (intOf i).toNat)
      case atStart => exact ⟨0, Nat.zero_le _, rfl, rfl, hi, hb1⟩
      case round =>
        clear hi hb1
        obtain ⟨k, hk, rfl, rfl, hi, hb1⟩ := hrel
        have hcl := cnt_le (sumG m f x) k
        by_cases hlt : k < m
        · have ⟨hp1, hp2⟩ := pow_bounds k (by omega)
          obtain ⟨T, hT⟩ : ∃ T, T = sumsI m f (2 ^ k) := ⟨_, rfl⟩
          obtain ⟨hT1, hT2⟩ := sumsB_pow HW.out hlt
          have HT := Lib.hid (hT1.trans hT.symm)
          have hrt := sums_rng m f (2 ^ k) h7
          rw [← hT] at hrt hT2
          have HTB := Lib.hid ((hb_in (k := k) hrt.1).trans hT2)
          have HT64 := Lib.hid (rng_I64 hrt)
          clear hT hT1 hT2 hrt
          have HPW := Lib.hid (show I64 (2 ^ k) by unfold I64; omega)
          cases hb : hasB S k with
          | true =>
            have HB := Lib.hid ((hb_in (k := k) hrg1).trans hb)
            have HGK := Lib.hid (show sumG m f x k = true by rw [HS.out, sums_bit hlt h7] at hb; exact hb)
            have HMk := Lib.hid (meetB_at HW.out hlt)
            clear hb
            go_wp2_with fail
            refine (SumsOf_val _ _ _ f (2 ^ k) T HPW.out _ HT.out hi).mono ?_
            rintro e w9 ⟨rfl, hb2⟩
            replace hi := hi.next hb2; replace hb1 := below_onto hb1 hb2; clear hb2
            go_wp2_with fail
            refine (hasBit_val T k true HTB.out (by omega) HT64.out _).mono ?_
            rintro e w9 ⟨rfl, rfl⟩
            go_wp2_with fail
            refine (hasBit_val S k true HB.out (by omega) HS64.out _).mono ?_
            rintro e w9 ⟨rfl, rfl⟩
            go_wp2_with fail
            go_loopw [8] (fun i wr => ∃ j : Nat, j ≤ m ∧ i = .int .i64 j ∧ Ints wr d m f ∧ Below w.heap.size w wr) (fun i _ => m - (intOf i).toNat)
            case atStart => exact ⟨0, Nat.zero_le _, rfl, hi, hb1⟩
            case round =>
              clear hi hb1
              obtain ⟨j, hj, rfl, hi, hb1⟩ := hrel
              by_cases hjm : j < m
              · have HMj := Lib.hid (meetB_at HW.out hjm)
                cases hv : hasB S j with
                | true =>
                  have HVJ := Lib.hid ((hb_in (k := j) hrg1).trans hv)
                  have hnm : (meetI m f k != meetI m f j) = false := ne_false (sum_same HGK.out (by rw [HS.out, sums_bit hjm h7] at hv; exact hv))
                  clear hv
                  cases hst : strongB m f with
                  | true =>
                    have HST := Lib.hid hst; clear hst
                    cases hx : hasB x j with
                    | true =>
                      have HXJ := Lib.hid ((hb_in (k := j) hx0).trans hx)
                      have HPJ := Lib.hid ((part_at HW.out hjm hlt).trans (sum_part h64.out HST.out hlt hjm HGK.out hx))
                      clear hx
                      go_wp2_with fail
                      refine (hasBit_val S j true HVJ.out (by omega) HS64.out _).mono ?_
                      rintro e w9 ⟨rfl, rfl⟩
                      go_wp2_with fail
                      refine (MeetingSet_val _ _ _ f k (meetI m f k) _ HMk.out hi).mono ?_
                      rintro e w9 ⟨rfl, hb2⟩
                      replace hi := hi.next hb2; replace hb1 := below_onto hb1 hb2; clear hb2
                      go_wp2_with fail
                      refine (MeetingSet_val _ _ _ f j (meetI m f j) _ HMj.out hi).mono ?_
                      rintro e w9 ⟨rfl, hb2⟩
                      replace hi := hi.next hb2; replace hb1 := below_onto hb1 hb2; clear hb2
                      go_wp2_with fail
                      refine (StrongOk_val _ _ _ f true _ HST.out hi).mono ?_
                      rintro e w9 ⟨rfl, hb2⟩
                      replace hi := hi.next hb2; replace hb1 := below_onto hb1 hb2; clear hb2
                      go_wp2_with fail
                      refine (hasBit_val x j true HXJ.out (by omega) HX.out _).mono ?_
                      rintro e w9 ⟨rfl, rfl⟩
                      go_wp2_with fail
                      refine (PartOk_val _ _ _ f j k true _ HPJ.out hi).mono ?_
                      rintro e w9 ⟨rfl, hb2⟩
                      replace hi := hi.next hb2; replace hb1 := below_onto hb1 hb2; clear hb2
                      go_wp2_with fail
                      go_roundw
                      case rel => exact ⟨j + 1, by omega, by go_num, hi, hb1⟩
                      case measure => simp [intOf]; omega
                    | false =>
                      have HXJ := Lib.hid ((hb_in (k := j) hx0).trans hx)
                      clear hx
                      go_wp2_with fail
                      refine (hasBit_val S j true HVJ.out (by omega) HS64.out _).mono ?_
                      rintro e w9 ⟨rfl, rfl⟩
                      go_wp2_with fail
                      refine (MeetingSet_val _ _ _ f k (meetI m f k) _ HMk.out hi).mono ?_
                      rintro e w9 ⟨rfl, hb2⟩
                      replace hi := hi.next hb2; replace hb1 := below_onto hb1 hb2; clear hb2
                      go_wp2_with fail
                      refine (MeetingSet_val _ _ _ f j (meetI m f j) _ HMj.out hi).mono ?_
                      rintro e w9 ⟨rfl, hb2⟩
                      replace hi := hi.next hb2; replace hb1 := below_onto hb1 hb2; clear hb2
                      go_wp2_with fail
                      refine (StrongOk_val _ _ _ f true _ HST.out hi).mono ?_
                      rintro e w9 ⟨rfl, hb2⟩
                      replace hi := hi.next hb2; replace hb1 := below_onto hb1 hb2; clear hb2
                      go_wp2_with fail
                      refine (hasBit_val x j false HXJ.out (by omega) HX.out _).mono ?_
                      rintro e w9 ⟨rfl, rfl⟩
                      go_wp2_with fail
                      go_roundw
                      case rel => exact ⟨j + 1, by omega, by go_num, hi, hb1⟩
                      case measure => simp [intOf]; omega
                  | false =>
                    have HST := Lib.hid hst; clear hst
                    go_wp2_with fail
                    refine (hasBit_val S j true HVJ.out (by omega) HS64.out _).mono ?_
                    rintro e w9 ⟨rfl, rfl⟩
                    go_wp2_with fail
                    refine (MeetingSet_val _ _ _ f k (meetI m f k) _ HMk.out hi).mono ?_
                    rintro e w9 ⟨rfl, hb2⟩
                    replace hi := hi.next hb2; replace hb1 := below_onto hb1 hb2; clear hb2
                    go_wp2_with fail
                    refine (MeetingSet_val _ _ _ f j (meetI m f j) _ HMj.out hi).mono ?_
                    rintro e w9 ⟨rfl, hb2⟩
                    replace hi := hi.next hb2; replace hb1 := below_onto hb1 hb2; clear hb2
                    go_wp2_with fail
                    refine (StrongOk_val _ _ _ f false _ HST.out hi).mono ?_
                    rintro e w9 ⟨rfl, hb2⟩
                    replace hi := hi.next hb2; replace hb1 := below_onto hb1 hb2; clear hb2
                    go_wp2_with fail
                    go_roundw
                    case rel => exact ⟨j + 1, by omega, by go_num, hi, hb1⟩
                    case measure => simp [intOf]; omega
                | false =>
                  have HVJ := Lib.hid ((hb_in (k := j) hrg1).trans hv)
                  clear hv
                  cases hst : strongB m f with
                  | true =>
                    have HST := Lib.hid hst; clear hst
                    cases hx : hasB x j with
                    | true =>
                      have HXJ := Lib.hid ((hb_in (k := j) hx0).trans hx)
                      have HPJ := Lib.hid ((part_at HW.out hjm hlt).trans (sum_part h64.out HST.out hlt hjm HGK.out hx))
                      clear hx
                      go_wp2_with fail
                      refine (hasBit_val S j false HVJ.out (by omega) HS64.out _).mono ?_
                      rintro e w9 ⟨rfl, rfl⟩
                      go_wp2_with fail
                      refine (StrongOk_val _ _ _ f true _ HST.out hi).mono ?_
                      rintro e w9 ⟨rfl, hb2⟩
                      replace hi := hi.next hb2; replace hb1 := below_onto hb1 hb2; clear hb2
                      go_wp2_with fail
                      refine (hasBit_val x j true HXJ.out (by omega) HX.out _).mono ?_
                      rintro e w9 ⟨rfl, rfl⟩
                      go_wp2_with fail
                      refine (PartOk_val _ _ _ f j k true _ HPJ.out hi).mono ?_
                      rintro e w9 ⟨rfl, hb2⟩
                      replace hi := hi.next hb2; replace hb1 := below_onto hb1 hb2; clear hb2
                      go_wp2_with fail
                      go_roundw
                      case rel => exact ⟨j + 1, by omega, by go_num, hi, hb1⟩
                      case measure => simp [intOf]; omega
                    | false =>
                      have HXJ := Lib.hid ((hb_in (k := j) hx0).trans hx)
                      clear hx
                      go_wp2_with fail
                      refine (hasBit_val S j false HVJ.out (by omega) HS64.out _).mono ?_
                      rintro e w9 ⟨rfl, rfl⟩
                      go_wp2_with fail
                      refine (StrongOk_val _ _ _ f true _ HST.out hi).mono ?_
                      rintro e w9 ⟨rfl, hb2⟩
                      replace hi := hi.next hb2; replace hb1 := below_onto hb1 hb2; clear hb2
                      go_wp2_with fail
                      refine (hasBit_val x j false HXJ.out (by omega) HX.out _).mono ?_
                      rintro e w9 ⟨rfl, rfl⟩
                      go_wp2_with fail
                      go_roundw
                      case rel => exact ⟨j + 1, by omega, by go_num, hi, hb1⟩
                      case measure => simp [intOf]; omega
                  | false =>
                    have HST := Lib.hid hst; clear hst
                    go_wp2_with fail
                    refine (hasBit_val S j false HVJ.out (by omega) HS64.out _).mono ?_
                    rintro e w9 ⟨rfl, rfl⟩
                    go_wp2_with fail
                    refine (StrongOk_val _ _ _ f false _ HST.out hi).mono ?_
                    rintro e w9 ⟨rfl, hb2⟩
                    replace hi := hi.next hb2; replace hb1 := below_onto hb1 hb2; clear hb2
                    go_wp2_with fail
                    go_roundw
                    case rel => exact ⟨j + 1, by omega, by go_num, hi, hb1⟩
                    case measure => simp [intOf]; omega
              · have hcn := cnt_yes HGK.out
                go_wp2_with fail
                go_roundw
                case rel => exact ⟨k + 1, by omega, by go_num, by rw [hcn]; go_num, hi, hb1⟩
                case measure => simp [intOf]; omega
          | false =>
            have HB := Lib.hid ((hb_in (k := k) hrg1).trans hb)
            have hcn := cnt_no (show sumG m f x k = false by rw [HS.out, sums_bit hlt h7] at hb; exact hb)
            clear hb
            go_wp2_with fail
            refine (SumsOf_val _ _ _ f (2 ^ k) T HPW.out _ HT.out hi).mono ?_
            rintro e w9 ⟨rfl, hb2⟩
            replace hi := hi.next hb2; replace hb1 := below_onto hb1 hb2; clear hb2
            go_wp2_with fail
            refine (hasBit_val T k true HTB.out (by omega) HT64.out _).mono ?_
            rintro e w9 ⟨rfl, rfl⟩
            go_wp2_with fail
            refine (hasBit_val S k false HB.out (by omega) HS64.out _).mono ?_
            rintro e w9 ⟨rfl, rfl⟩
            go_wp2_with fail
            go_roundw
            case rel => exact ⟨k + 1, by omega, by go_num, by rw [hcn], hi, hb1⟩
            case measure => simp [intOf]; omega
        · have hkm : k = m := by omega
          cases hst : strongB m f with
          | true =>
            have hc1 : (cntN (sumG m f x) k : Int) ≤ 1 := by
              have := cnt_one (sumG m f x) m (fun a b ha hb h1 h2 => sum_one h64.out hst ha hb h1 h2)
              rw [hkm]; omega
            have HST := Lib.hid hst; clear hst hkm
            go_wp2_with fail
            refine (StrongOk_val _ _ _ f true _ HST.out hi).mono ?_
            rintro e w9 ⟨rfl, hb2⟩
            replace hi := hi.next hb2; replace hb1 := below_onto hb1 hb2; clear hb2
            go_wp2_with fail
            go_ret
            exact ⟨rfl, hb1⟩
          | false =>
            have HST := Lib.hid hst; clear hst hkm
            go_wp2_with fail
            refine (StrongOk_val _ _ _ f false _ HST.out hi).mono ?_
            rintro e w9 ⟨rfl, hb2⟩
            replace hi := hi.next hb2; replace hb1 := below_onto hb1 hb2; clear hb2
            go_wp2_with fail
            go_ret
            exact ⟨rfl, hb1⟩
end Go.Proofs.Ytbhdeidnifilfaa
