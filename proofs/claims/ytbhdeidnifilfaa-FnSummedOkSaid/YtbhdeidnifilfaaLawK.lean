import Derived.Test.YtbhdeidnifilfaaLawJ
namespace Go.Proofs.Ytbhdeidnifilfaa
open Go.RowKit

/-- among the first k things one overlaps all; one has all as parts -/
def allB (n : Nat) (f : Nat → Int) (k : Nat) : Bool := decide (∃ a, a < k ∧ meetI n f a = 2 ^ n - 1)
def parB (f : Nat → Int) (a j : Nat) : Bool := decide (∀ b, b < j → hasB (f a) b = true)
def whB (n : Nat) (f : Nat → Int) (k : Nat) : Bool := decide (∃ a, a < k ∧ parB f a n = true)

theorem all_zero (n : Nat) (f : Nat → Int) : allB n f 0 = false := decide_eq_false (fun ⟨_, h, _⟩ => absurd h (Nat.not_lt_zero _))
theorem wh_zero (n : Nat) (f : Nat → Int) : whB n f 0 = false := decide_eq_false (fun ⟨_, h, _⟩ => absurd h (Nat.not_lt_zero _))
theorem par_zero (f : Nat → Int) (a : Nat) : parB f a 0 = true := decide_eq_true (fun _ h => absurd h (Nat.not_lt_zero _))
theorem all_old {n : Nat} {f : Nat → Int} {k : Nat} (h : allB n f k = true) : allB n f (k + 1) = true := by
  unfold allB at h ⊢; rw [decide_eq_true_eq] at h ⊢; obtain ⟨a, h1, h2⟩ := h; exact ⟨a, by omega, h2⟩
theorem all_new {n : Nat} {f : Nat → Int} {k : Nat} {v : Bool} (h : allB n f k = false) (hv : (meetI n f k == 2 ^ n - 1) = v) : allB n f (k + 1) = v := by
  unfold allB at h ⊢; rw [decide_eq_false_iff_not] at h
  cases v with
  | true => rw [decide_eq_true_eq]; exact ⟨k, by omega, beq_iff_eq.1 hv⟩
  | false =>
    rw [decide_eq_false_iff_not]; rintro ⟨a, h1, h2⟩
    by_cases e : a = k
    · subst e; exact beq_eq_false_iff_ne.1 hv h2
    · exact h ⟨a, by omega, h2⟩
theorem par_no {f : Nat → Int} {a j : Nat} (h : parB f a j = false) : parB f a (j + 1) = false := by
  unfold parB at h ⊢; rw [decide_eq_false_iff_not] at h ⊢; exact fun e => h (fun b hb => e b (by omega))
theorem par_yes {f : Nat → Int} {a j : Nat} {v : Bool} (h : parB f a j = true) (hv : hasB (f a) j = v) : parB f a (j + 1) = v := by
  unfold parB at h ⊢; rw [decide_eq_true_eq] at h
  cases v with
  | true =>
    rw [decide_eq_true_eq]; intro b hb
    by_cases e : b = j
    · subst e; exact hv
    · exact h b (by omega)
  | false => rw [decide_eq_false_iff_not]; intro e; have := e j (by omega); rw [hv] at this; cases this
theorem wh_old {n : Nat} {f : Nat → Int} {k : Nat} (h : whB n f k = true) : whB n f (k + 1) = true := by
  unfold whB at h ⊢; rw [decide_eq_true_eq] at h ⊢; obtain ⟨a, h1, h2⟩ := h; exact ⟨a, by omega, h2⟩
theorem wh_new {n : Nat} {f : Nat → Int} {k : Nat} {v : Bool} (h : whB n f k = false) (hv : parB f k n = v) : whB n f (k + 1) = v := by
  unfold whB at h ⊢; rw [decide_eq_false_iff_not] at h
  cases v with
  | true => rw [decide_eq_true_eq]; exact ⟨k, by omega, hv⟩
  | false =>
    rw [decide_eq_false_iff_not]; rintro ⟨a, h1, h2⟩
    by_cases e : a = k
    · subst e; rw [hv] at h2; cases h2
    · exact h ⟨a, by omega, h2⟩

theorem met_full {n : Nat} {f : Nat → Int} (hP : WorldP n f) : metI n f (2 ^ n - 1) = 2 ^ n - 1 := by
  have h7 := hP.hi
  have hp := pow_bounds n h7
  refine ext64 _ _ (metK_I64 _ _ _ _) (by unfold I64; omega) (fun i hi => ?_)
  rw [hasB_low]
  by_cases hin : i < n
  · rw [decide_eq_true hin]
    exact (met_iff hin h7).2 ⟨i, hin, by rw [hasB_low]; exact decide_eq_true hin, overlap_of hP hin (hP.self i hin) (hP.self i hin)⟩
  · rw [decide_eq_false hin]
    cases e : hasB (metI n f (2 ^ n - 1)) i with
    | false => rfl
    | true => obtain ⟨a, _, _, h, _⟩ := (metK_iff n f _ n i hi).1 e; exact absurd h hin

theorem summed_sum {n : Nat} {f : Nat → Int} (h64 : ∀ i, i < n → I64 (f i)) (h : summedB n f = true) : ∃ a, a < n ∧ sumG n f (2 ^ n - 1) a = true := by
  unfold summedB at h
  rw [Bool.and_eq_true, decide_eq_true_eq] at h
  have hP := (worldB_iff n f h64).1 h.1
  have h1 : 2 ^ 1 ≤ 2 ^ n := Nat.pow_le_pow_right (by omega) hP.lo
  have h2 := h.2 (2 ^ n - 1) (by omega) (by omega)
  unfold hasSumB at h2
  have e : ((2 ^ n - 1 : Nat) : Int) = 2 ^ n - 1 := by
    have := Nat.one_le_two_pow (n := n)
    rw [Int.ofNat_sub this]; simp
  rw [e] at h2
  exact of_decide_eq_true h2
theorem summed_all {n : Nat} {f : Nat → Int} (h64 : ∀ i, i < n → I64 (f i)) (h : summedB n f = true) : allB n f n = true := by
  obtain ⟨a, ha, hg⟩ := summed_sum h64 h
  have hw : worldB n f = true := by unfold summedB at h; rw [Bool.and_eq_true] at h; exact h.1
  refine decide_eq_true ⟨a, ha, ?_⟩
  unfold sumG at hg; rw [beq_iff_eq] at hg
  rw [hg, met_full ((worldB_iff n f h64).1 hw)]
theorem summed_whole {n : Nat} {f : Nat → Int} (h64 : ∀ i, i < n → I64 (f i)) (h : summedB n f = true) (hs : strongB n f = true) : whB n f n = true := by
  obtain ⟨a, ha, hg⟩ := summed_sum h64 h
  exact decide_eq_true ⟨a, ha, decide_eq_true (fun b hb => sum_part h64 hs ha hb hg (by rw [hasB_low]; exact decide_eq_true hb))⟩

theorem summed_1 : summedB 1 (fun i => ([1] : List Int).getD i 0) = true := by decide
theorem summed_12 : summedB 2 (fun i => ([1, 2] : List Int).getD i 0) = false := by decide

set_option maxHeartbeats 8000000 in
theorem lawSummedOk (a : Option Addr) (n cap : Nat) (w : World) (h : BytesIn w a n cap) :
    Calls Try.prog 5 #[.slice a n cap] w (TrueEnd w) := by
  have hlen := h.len
  have H := Lib.hid h; clear h
  by_cases hn : 1048576 < n
  · go_enter Try.func5, Try.ntmps5
    go_wp2_with fail
    go_ret
    exact ⟨rfl, Below.refl _ _⟩
  · go_enter Try.func5, Try.ntmps5
    go_wp2_with fail
    refine (DrawSummedOk_any _ _ _ _ H.out).mono ?_
    rintro e w1 ⟨d, m, c, f, rfl, hm, hi, hb1, hcap⟩
    have h64 := Lib.hid hi.i64
    clear hcap
    cases ht : summedB m f with
    | false =>
      have HT := Lib.hid ht; clear ht
      go_wp2_with fail
      refine (SummedOk_val _ _ _ f false _ HT.out hi).mono ?_
      rintro e w9 ⟨rfl, hb2⟩
      replace hi := hi.next hb2; replace hb1 := below_onto hb1 hb2; clear hb2
      go_wp2_with fail
      refine (specSummedOk_val _ _ _ f false _ HT.out hi).mono ?_
      rintro e w9 ⟨rfl, hd3⟩
      replace hi := hi.drew hd3; replace hb1 := below_onto hb1 hd3.below; clear hd3
      go_wp2_with fail
      go_loopw [5, 6, 7] (fun s v i wr => s = .bool false ∧ v = .bool false ∧ i = .int .i64 0 ∧ Below w.heap.size w wr) (fun _ _ _ _ => 0)
      case atStart => exact ⟨rfl, rfl, rfl, hb1⟩
      case round =>
        clear hi hb1
        obtain ⟨rfl, rfl, rfl, hb1⟩ := hrel
        by_cases hm0 : 0 < m
        · have hm0i : (0 : Int) < (m : Int) := by omega
          go_wp2_with fail
          have hil := lit_ints wr [1] (small_I64 (by decide)) (by decide) _ rfl 3
          have hbl := below_onto hb1 (alloc_below wr (.cells (([1] : List Int).map (Value.int .i64)).toArray 3))
          clear hb1
          go_wp2_with fail
          refine (SummedOk_val _ 1 1 (fun i => ([1] : List Int).getD i 0) true _ summed_1 hil).mono ?_
          rintro e w9 ⟨rfl, hb2⟩
          have hb1 := below_onto hbl hb2; clear hb2 hil hbl
          have hil := lit_ints w9 [1, 2] (small_I64 (by decide)) (by decide) _ rfl 3
          have hbl := below_onto hb1 (alloc_below w9 (.cells (([1, 2] : List Int).map (Value.int .i64)).toArray 3))
          clear hb1
          go_wp2_with fail
          refine (SummedOk_val _ 2 2 (fun i => ([1, 2] : List Int).getD i 0) false _ summed_12 hil).mono ?_
          rintro e w9 ⟨rfl, hb2⟩
          have hb1 := below_onto hbl hb2; clear hb2 hil hbl
          go_wp2_with fail
          go_ret
          exact ⟨rfl, hb1⟩
        · have hm0i : ¬ (0 : Int) < (m : Int) := by omega
          go_wp2_with fail
          have hil := lit_ints wr [1] (small_I64 (by decide)) (by decide) _ rfl 3
          have hbl := below_onto hb1 (alloc_below wr (.cells (([1] : List Int).map (Value.int .i64)).toArray 3))
          clear hb1
          go_wp2_with fail
          refine (SummedOk_val _ 1 1 (fun i => ([1] : List Int).getD i 0) true _ summed_1 hil).mono ?_
          rintro e w9 ⟨rfl, hb2⟩
          have hb1 := below_onto hbl hb2; clear hb2 hil hbl
          have hil := lit_ints w9 [1, 2] (small_I64 (by decide)) (by decide) _ rfl 3
          have hbl := below_onto hb1 (alloc_below w9 (.cells (([1, 2] : List Int).map (Value.int .i64)).toArray 3))
          clear hb1
          go_wp2_with fail
          refine (SummedOk_val _ 2 2 (fun i => ([1, 2] : List Int).getD i 0) false _ summed_12 hil).mono ?_
          rintro e w9 ⟨rfl, hb2⟩
          have hb1 := below_onto hbl hb2; clear hb2 hil hbl
          go_wp2_with fail
          go_ret
          exact ⟨rfl, hb1⟩
    | true =>
      have HW := Lib.hid (show worldB m f = true by unfold summedB at ht; rw [Bool.and_eq_true] at ht; exact ht.1)
      have h7 := (worldB_7 HW.out).2
      have ⟨hp1, hp2⟩ := pow_bounds m h7
      have HT := Lib.hid ht; clear ht
      go_wp2_with fail
      refine (SummedOk_val _ _ _ f true _ HT.out hi).mono ?_
      rintro e w9 ⟨rfl, hb2⟩
      replace hi := hi.next hb2; replace hb1 := below_onto hb1 hb2; clear hb2
      go_wp2_with fail
      refine (specSummedOk_val _ _ _ f true _ HT.out hi).mono ?_
      rintro e w9 ⟨rfl, hd3⟩
      replace hi := hi.drew hd3; replace hb1 := below_onto hb1 hd3.below; clear hd3
      go_wp2_with fail
      go_loopw [5, 6, 7] (fun s v i wr => ∃ (k : Nat) (b1 b2 : Bool), k ≤ m ∧ i = .int .i64 k ∧ s = .bool b1 ∧ v = .bool b2 ∧ Hid (allB m f k = b1) ∧ Hid (whB m f k = b2) ∧ Ints wr d m f ∧ Below w.heap.size w wr) (fun _ _ i _ => m - (intOf i).toNat)
      case atStart => exact ⟨0, false, false, Nat.zero_le _, rfl, rfl, rfl, Lib.hid (all_zero m f), Lib.hid (wh_zero m f), hi, hb1⟩
      case round =>
        clear hi hb1
        obtain ⟨k, b1, b2, hk, rfl, rfl, rfl, hB1, hB2, hi, hb1⟩ := hrel
        by_cases hlt : k < m
        · have hki : (k : Int) < (m : Int) := by omega
          cases b1 with
          | true =>
            go_wp2_with fail
            go_quiet (fail)
            go_wp2_with fail
            go_loopw [8, 9] (fun v i wr => ∃ (j : Nat) (pp : Bool), j ≤ m ∧ i = .int .i64 j ∧ v = .bool pp ∧ Hid (parB f k j = pp) ∧ Ints wr d m f ∧ Below w.heap.size w wr) (fun _ i _ => m - (intOf i).toNat)
            case atStart => first | exact ⟨0, true, Nat.zero_le _, rfl, rfl, Lib.hid (par_zero f k), hi, hb1⟩ | exact ⟨0, true, Nat.zero_le _, rfl, rfl, Lib.hid (par_zero f k), hi.drewN _, below_drewN hb1 _⟩
            case round =>
              clear hi hb1
              obtain ⟨j, pp, hj, rfl, rfl, hpar, hi, hb1⟩ := hrel
              by_cases hjm : j < m
              · cases pp with
                | false =>
                  go_wp2_with fail
                  go_roundw
                  case rel => exact ⟨j + 1, false, by omega, by go_num, rfl, Lib.hid (par_no hpar.out), hi, hb1⟩
                  case measure => simp [intOf]; omega
                | true =>
                  cases hv : hasB (f k) j with
                  | true =>
                    have HPJ := Lib.hid ((part_at HW.out hjm hlt).trans hv); have HPN := Lib.hid (par_yes hpar.out hv); clear hv
                    go_wp2_with fail
                    refine (PartOk_val _ _ _ f j k true _ HPJ.out hi).mono ?_
                    rintro e w9 ⟨rfl, hb2⟩
                    replace hi := hi.next hb2; replace hb1 := below_onto hb1 hb2; clear hb2
                    go_wp2_with fail
                    go_roundw
                    case rel => exact ⟨j + 1, true, by omega, by go_num, rfl, HPN, hi, hb1⟩
                    case measure => simp [intOf]; omega
                  | false =>
                    have HPJ := Lib.hid ((part_at HW.out hjm hlt).trans hv); have HPN := Lib.hid (par_yes hpar.out hv); clear hv
                    go_wp2_with fail
                    refine (PartOk_val _ _ _ f j k false _ HPJ.out hi).mono ?_
                    rintro e w9 ⟨rfl, hb2⟩
                    replace hi := hi.next hb2; replace hb1 := below_onto hb1 hb2; clear hb2
                    go_wp2_with fail
                    go_roundw
                    case rel => exact ⟨j + 1, false, by omega, by go_num, rfl, HPN, hi, hb1⟩
                    case measure => simp [intOf]; omega
              · have hjm2 : j = m := by omega
                have HPM := Lib.hid (show parB f k m = pp by rw [← hjm2]; exact hpar.out)
                clear hjm2 hpar
                cases b2 with
                | true =>
                  go_wp2_with fail
                  go_roundw
                  case rel => exact ⟨k + 1, true, true, by omega, by go_num, rfl, rfl, Lib.hid (all_old hB1.out), Lib.hid (wh_old hB2.out), hi, hb1⟩
                  case measure => simp [intOf]; omega
                | false =>
                  cases pp with
                  | true =>
                    go_wp2_with fail
                    go_roundw
                    case rel => exact ⟨k + 1, true, true, by omega, by go_num, rfl, rfl, Lib.hid (all_old hB1.out), Lib.hid (wh_new hB2.out HPM.out), hi, hb1⟩
                    case measure => simp [intOf]; omega
                  | false =>
                    go_wp2_with fail
                    go_roundw
                    case rel => exact ⟨k + 1, true, false, by omega, by go_num, rfl, rfl, Lib.hid (all_old hB1.out), Lib.hid (wh_new hB2.out HPM.out), hi, hb1⟩
                    case measure => simp [intOf]; omega
          | false =>
            have HMk := Lib.hid (meetB_at HW.out hlt)
            cases hq : (meetI m f k == 2 ^ m - 1) with
            | true =>
              have HQ := Lib.hid (all_new hB1.out hq)
              have HWR := Lib.hid (show (meetI m f k == IntKind.i64.wrap (IntKind.i64.wrap (2 ^ m) - 1)) = true by rw [wrap_in (2 ^ m) (by unfold I64; omega), wrap_in (2 ^ m - 1) (by unfold I64; omega)]; exact hq)
              clear hq
              go_wp2_with fail
              go_region_held3 (fun _ => True) (first | trivial)
                (first | (go_at_call 14; refine (MeetingSet_val _ _ _ f k (meetI m f k) _ HMk.out hi).mono ?_; rintro e w9 ⟨rfl, hb2⟩; replace hi := (hi).next hb2; replace hb1 := below_onto hb1 hb2; clear hb2) | (go_at_call 14; refine (MeetingSet_val _ _ _ f k (meetI m f k) _ HMk.out (hi.next (Below.refl _ _).drew)).mono ?_; rintro e w9 ⟨rfl, hb2⟩; replace hi := ((hi.next (Below.refl _ _).drew)).next hb2; replace hb1 := below_onto hb1.drew hb2; clear hb2))
              rw [HWR.out]
              go_wp2_with fail
              go_loopw [8, 9] (fun v i wr => ∃ (j : Nat) (pp : Bool), j ≤ m ∧ i = .int .i64 j ∧ v = .bool pp ∧ Hid (parB f k j = pp) ∧ Ints wr d m f ∧ Below w.heap.size w wr) (fun _ i _ => m - (intOf i).toNat)
              case atStart => first | exact ⟨0, true, Nat.zero_le _, rfl, rfl, Lib.hid (par_zero f k), hi, hb1⟩ | exact ⟨0, true, Nat.zero_le _, rfl, rfl, Lib.hid (par_zero f k), hi.drewN _, below_drewN hb1 _⟩
              case round =>
                clear hi hb1
                obtain ⟨j, pp, hj, rfl, rfl, hpar, hi, hb1⟩ := hrel
                by_cases hjm : j < m
                · cases pp with
                  | false =>
                    go_wp2_with fail
                    go_roundw
                    case rel => exact ⟨j + 1, false, by omega, by go_num, rfl, Lib.hid (par_no hpar.out), hi, hb1⟩
                    case measure => simp [intOf]; omega
                  | true =>
                    cases hv : hasB (f k) j with
                    | true =>
                      have HPJ := Lib.hid ((part_at HW.out hjm hlt).trans hv); have HPN := Lib.hid (par_yes hpar.out hv); clear hv
                      go_wp2_with fail
                      refine (PartOk_val _ _ _ f j k true _ HPJ.out hi).mono ?_
                      rintro e w9 ⟨rfl, hb2⟩
                      replace hi := hi.next hb2; replace hb1 := below_onto hb1 hb2; clear hb2
                      go_wp2_with fail
                      go_roundw
                      case rel => exact ⟨j + 1, true, by omega, by go_num, rfl, HPN, hi, hb1⟩
                      case measure => simp [intOf]; omega
                    | false =>
                      have HPJ := Lib.hid ((part_at HW.out hjm hlt).trans hv); have HPN := Lib.hid (par_yes hpar.out hv); clear hv
                      go_wp2_with fail
                      refine (PartOk_val _ _ _ f j k false _ HPJ.out hi).mono ?_
                      rintro e w9 ⟨rfl, hb2⟩
                      replace hi := hi.next hb2; replace hb1 := below_onto hb1 hb2; clear hb2
                      go_wp2_with fail
                      go_roundw
                      case rel => exact ⟨j + 1, false, by omega, by go_num, rfl, HPN, hi, hb1⟩
                      case measure => simp [intOf]; omega
                · have hjm2 : j = m := by omega
                  have HPM := Lib.hid (show parB f k m = pp by rw [← hjm2]; exact hpar.out)
                  clear hjm2 hpar
                  cases b2 with
                  | true =>
                    go_wp2_with fail
                    go_roundw
                    case rel => exact ⟨k + 1, true, true, by omega, by go_num, rfl, rfl, Lib.hid (HQ.out), Lib.hid (wh_old hB2.out), hi, hb1⟩
                    case measure => simp [intOf]; omega
                  | false =>
                    cases pp with
                    | true =>
                      go_wp2_with fail
                      go_roundw
                      case rel => exact ⟨k + 1, true, true, by omega, by go_num, rfl, rfl, Lib.hid (HQ.out), Lib.hid (wh_new hB2.out HPM.out), hi, hb1⟩
                      case measure => simp [intOf]; omega
                    | false =>
                      go_wp2_with fail
                      go_roundw
                      case rel => exact ⟨k + 1, true, false, by omega, by go_num, rfl, rfl, Lib.hid (HQ.out), Lib.hid (wh_new hB2.out HPM.out), hi, hb1⟩
                      case measure => simp [intOf]; omega
            | false =>
              have HQ := Lib.hid (all_new hB1.out hq)
              have HWR := Lib.hid (show (meetI m f k == IntKind.i64.wrap (IntKind.i64.wrap (2 ^ m) - 1)) = false by rw [wrap_in (2 ^ m) (by unfold I64; omega), wrap_in (2 ^ m - 1) (by unfold I64; omega)]; exact hq)
              clear hq
              go_wp2_with fail
              go_region_held3 (fun _ => True) (first | trivial)
                (first | (go_at_call 14; refine (MeetingSet_val _ _ _ f k (meetI m f k) _ HMk.out hi).mono ?_; rintro e w9 ⟨rfl, hb2⟩; replace hi := (hi).next hb2; replace hb1 := below_onto hb1 hb2; clear hb2) | (go_at_call 14; refine (MeetingSet_val _ _ _ f k (meetI m f k) _ HMk.out (hi.next (Below.refl _ _).drew)).mono ?_; rintro e w9 ⟨rfl, hb2⟩; replace hi := ((hi.next (Below.refl _ _).drew)).next hb2; replace hb1 := below_onto hb1.drew hb2; clear hb2))
              rw [HWR.out]
              go_wp2_with fail
              go_loopw [8, 9] (fun v i wr => ∃ (j : Nat) (pp : Bool), j ≤ m ∧ i = .int .i64 j ∧ v = .bool pp ∧ Hid (parB f k j = pp) ∧ Ints wr d m f ∧ Below w.heap.size w wr) (fun _ i _ => m - (intOf i).toNat)
              case atStart => first | exact ⟨0, true, Nat.zero_le _, rfl, rfl, Lib.hid (par_zero f k), hi, hb1⟩ | exact ⟨0, true, Nat.zero_le _, rfl, rfl, Lib.hid (par_zero f k), hi.drewN _, below_drewN hb1 _⟩
              case round =>
                clear hi hb1
                obtain ⟨j, pp, hj, rfl, rfl, hpar, hi, hb1⟩ := hrel
                by_cases hjm : j < m
                · cases pp with
                  | false =>
                    go_wp2_with fail
                    go_roundw
                    case rel => exact ⟨j + 1, false, by omega, by go_num, rfl, Lib.hid (par_no hpar.out), hi, hb1⟩
                    case measure => simp [intOf]; omega
                  | true =>
                    cases hv : hasB (f k) j with
                    | true =>
                      have HPJ := Lib.hid ((part_at HW.out hjm hlt).trans hv); have HPN := Lib.hid (par_yes hpar.out hv); clear hv
                      go_wp2_with fail
                      refine (PartOk_val _ _ _ f j k true _ HPJ.out hi).mono ?_
                      rintro e w9 ⟨rfl, hb2⟩
                      replace hi := hi.next hb2; replace hb1 := below_onto hb1 hb2; clear hb2
                      go_wp2_with fail
                      go_roundw
                      case rel => exact ⟨j + 1, true, by omega, by go_num, rfl, HPN, hi, hb1⟩
                      case measure => simp [intOf]; omega
                    | false =>
                      have HPJ := Lib.hid ((part_at HW.out hjm hlt).trans hv); have HPN := Lib.hid (par_yes hpar.out hv); clear hv
                      go_wp2_with fail
                      refine (PartOk_val _ _ _ f j k false _ HPJ.out hi).mono ?_
                      rintro e w9 ⟨rfl, hb2⟩
                      replace hi := hi.next hb2; replace hb1 := below_onto hb1 hb2; clear hb2
                      go_wp2_with fail
                      go_roundw
                      case rel => exact ⟨j + 1, false, by omega, by go_num, rfl, HPN, hi, hb1⟩
                      case measure => simp [intOf]; omega
                · have hjm2 : j = m := by omega
                  have HPM := Lib.hid (show parB f k m = pp by rw [← hjm2]; exact hpar.out)
                  clear hjm2 hpar
                  cases b2 with
                  | true =>
                    go_wp2_with fail
                    go_roundw
                    case rel => exact ⟨k + 1, false, true, by omega, by go_num, rfl, rfl, Lib.hid (HQ.out), Lib.hid (wh_old hB2.out), hi, hb1⟩
                    case measure => simp [intOf]; omega
                  | false =>
                    cases pp with
                    | true =>
                      go_wp2_with fail
                      go_roundw
                      case rel => exact ⟨k + 1, false, true, by omega, by go_num, rfl, rfl, Lib.hid (HQ.out), Lib.hid (wh_new hB2.out HPM.out), hi, hb1⟩
                      case measure => simp [intOf]; omega
                    | false =>
                      go_wp2_with fail
                      go_roundw
                      case rel => exact ⟨k + 1, false, false, by omega, by go_num, rfl, rfl, Lib.hid (HQ.out), Lib.hid (wh_new hB2.out HPM.out), hi, hb1⟩
                      case measure => simp [intOf]; omega
        · have hkm : k = m := by omega
          have HA := Lib.hid (summed_all h64.out HT.out)
          cases b1 with
          | false => have h1 := hB1.out; rw [hkm, HA.out] at h1; cases h1
          | true =>
            cases hst : strongB m f with
            | true =>
              have HST := Lib.hid hst
              have HWH := Lib.hid (summed_whole h64.out HT.out hst)
              clear hst
              cases b2 with
              | false => have h1 := hB2.out; rw [hkm, HWH.out] at h1; cases h1
              | true =>
                clear hkm
                go_wp2_with fail
                refine (StrongOk_val _ _ _ f true _ HST.out hi).mono ?_
                rintro e w9 ⟨rfl, hb2⟩
                replace hb1 := below_onto hb1 hb2; clear hb2
                have hil := lit_ints w9 [1] (small_I64 (by decide)) (by decide) _ rfl 3
                have hbl := below_onto hb1 (alloc_below w9 (.cells (([1] : List Int).map (Value.int .i64)).toArray 3))
                clear hb1
                go_wp2_with fail
                refine (SummedOk_val _ 1 1 (fun i => ([1] : List Int).getD i 0) true _ summed_1 hil).mono ?_
                rintro e w9 ⟨rfl, hb2⟩
                have hb1 := below_onto hbl hb2; clear hb2 hil hbl
                have hil := lit_ints w9 [1, 2] (small_I64 (by decide)) (by decide) _ rfl 3
                have hbl := below_onto hb1 (alloc_below w9 (.cells (([1, 2] : List Int).map (Value.int .i64)).toArray 3))
                clear hb1
                go_wp2_with fail
                refine (SummedOk_val _ 2 2 (fun i => ([1, 2] : List Int).getD i 0) false _ summed_12 hil).mono ?_
                rintro e w9 ⟨rfl, hb2⟩
                have hb1 := below_onto hbl hb2; clear hb2 hil hbl
                go_wp2_with fail
                go_ret
                exact ⟨rfl, hb1⟩
            | false =>
              have HST := Lib.hid hst
              clear hst hkm
              go_wp2_with fail
              refine (StrongOk_val _ _ _ f false _ HST.out hi).mono ?_
              rintro e w9 ⟨rfl, hb2⟩
              replace hb1 := below_onto hb1 hb2; clear hb2
              have hil := lit_ints w9 [1] (small_I64 (by decide)) (by decide) _ rfl 3
              have hbl := below_onto hb1 (alloc_below w9 (.cells (([1] : List Int).map (Value.int .i64)).toArray 3))
              clear hb1
              go_wp2_with fail
              refine (SummedOk_val _ 1 1 (fun i => ([1] : List Int).getD i 0) true _ summed_1 hil).mono ?_
              rintro e w9 ⟨rfl, hb2⟩
              have hb1 := below_onto hbl hb2; clear hb2 hil hbl
              have hil := lit_ints w9 [1, 2] (small_I64 (by decide)) (by decide) _ rfl 3
              have hbl := below_onto hb1 (alloc_below w9 (.cells (([1, 2] : List Int).map (Value.int .i64)).toArray 3))
              clear hb1
              go_wp2_with fail
              refine (SummedOk_val _ 2 2 (fun i => ([1, 2] : List Int).getD i 0) false _ summed_12 hil).mono ?_
              rintro e w9 ⟨rfl, hb2⟩
              have hb1 := below_onto hbl hb2; clear hb2 hil hbl
              go_wp2_with fail
              go_ret
              exact ⟨rfl, hb1⟩
end Go.Proofs.Ytbhdeidnifilfaa
