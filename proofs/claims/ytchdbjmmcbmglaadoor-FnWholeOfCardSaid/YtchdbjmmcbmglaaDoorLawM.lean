import Derived.Test.YtchdbjmmcbmglaaDoorTopS
import Derived.Test.YtchdbjmmcbmglaaDoorDrawV
namespace Go.Proofs.YtchdbjmmcbmglaaDoor
open Go.RowKit

theorem StrongOk_val (a : Option Addr) (n cap : Nat) (f : Nat → Int) (v : Bool) (w : World) (hv : strongB n f = v) (hi : Ints w a n f) :
    Calls Tryd.prog 14 #[.slice a n cap] w fun e w' => e = .returned (.bool v) ∧ Below w.heap.size w w' := by
  subst hv; exact StrongOk_any a n cap f w hi

theorem part_at2 {n : Nat} {f : Nat → Int} (hw : worldB n f = true) {a b : Nat} (ha : a < n) (hb : b < n) : partB n f a b = hasB (f b) a := by
  unfold partB; rw [(good2_iff n f a b).2 ⟨hw, ⟨by omega, by omega⟩, by omega, by omega⟩, Int.toNat_natCast, Int.toNat_natCast, Bool.true_and]
theorem over_at2 {n : Nat} {f : Nat → Int} (hw : worldB n f = true) {a b : Nat} (ha : a < n) (hb : b < n) : overB n f a b = (andI (f a) (f b) != 0) := by
  unfold overB; rw [(good2_iff n f a b).2 ⟨hw, ⟨by omega, by omega⟩, by omega, by omega⟩, Int.toNat_natCast, Int.toNat_natCast, Bool.true_and]
theorem nats2 {n : Nat} {f : Nat → Int} {x y : Int} (h : good2 n f x y = true) : worldB n f = true ∧ ∃ X Y : Nat, X < n ∧ Y < n ∧ x = X ∧ y = Y := by
  obtain ⟨hw, ⟨h1, h2⟩, h3, h4⟩ := (good2_iff n f x y).1 h
  obtain ⟨X, rfl⟩ := Int.eq_ofNat_of_zero_le h1
  obtain ⟨Y, rfl⟩ := Int.eq_ofNat_of_zero_le h3
  exact ⟨hw, X, Y, by omega, by omega, rfl, rfl⟩
theorem over_good {n : Nat} {f : Nat → Int} {x y : Int} (h : overB n f x y = true) : good2 n f x y = true := by
  unfold overB at h; rw [Bool.and_eq_true] at h; exact h.1

theorem common_on {n : Nat} {f : Nat → Int} (h64 : ∀ i, i < n → I64 (f i)) {x y : Int} (h : commonOk n f x y = true) :
    ∃ C : Nat, C < n ∧ commonN n f x y = C ∧ (∀ d : Nat, d < n → partB n f d C = (partB n f d x && partB n f d y)) ∧ (partB n f x y = true → (C : Int) = x) := by
  obtain ⟨hg, C, hC, hN, hT⟩ := ans_on (fun hg => (worldB_iff n f h64).1 ((good2_iff n f x y).1 hg).1) h
  obtain ⟨hw, X, Y, hX, hY, rfl, rfl⟩ := nats2 hg
  have hP := (worldB_iff n f h64).1 hw
  rw [Int.toNat_natCast, Int.toNat_natCast] at hT
  refine ⟨C, hC, hN, fun d hd => ?_, fun hp => ?_⟩
  · rw [part_at2 hw hd hC, part_at2 hw hd hX, part_at2 hw hd hY]; exact common_top hP hX hY hC hT d hd
  · rw [part_at2 hw hX hY] at hp
    rw [topG_uniq hP hC hX hT (common_self hP hX hY hp)]

theorem common_none {n : Nat} {f : Nat → Int} (h64 : ∀ i, i < n → I64 (f i)) (hs : strongB n f = true) (hf : summedB n f = true) {x y : Int} (h : commonOk n f x y = false) : overB n f x y = false := by
  cases e : overB n f x y with
  | false => rfl
  | true =>
    have hg := over_good e
    obtain ⟨hw, X, Y, hX, hY, rfl, rfl⟩ := nats2 hg
    rw [over_at2 hw hX hY] at e
    obtain ⟨s, hs1, hs2⟩ := common_full h64 hs hf hX hY e
    have := (ans_at ((worldB_iff n f h64).1 hw) hs1 hs2).2
    unfold commonOk at h
    rw [hg, Int.toNat_natCast, Int.toNat_natCast, this] at h; cases h

theorem left_on {n : Nat} {f : Nat → Int} (h64 : ∀ i, i < n → I64 (f i)) {x y : Int} (h : leftOk n f x y = true) :
    ∃ C : Nat, C < n ∧ leftN n f x y = C ∧ partB n f C x = true ∧ overB n f C y = false ∧ ∀ d : Nat, d < n → partB n f d x = true → overB n f d y = false → partB n f d C = true := by
  obtain ⟨hg, C, hC, hN, hT⟩ := ans_on (fun hg => (worldB_iff n f h64).1 ((good2_iff n f x y).1 hg).1) h
  obtain ⟨hw, X, Y, hX, hY, rfl, rfl⟩ := nats2 hg
  have hP := (worldB_iff n f h64).1 hw
  rw [Int.toNat_natCast, Int.toNat_natCast] at hT
  obtain ⟨h1, h2, h3⟩ := left_top hP.hi hC hT
  refine ⟨C, hC, hN, by rw [part_at2 hw hC hX]; exact h1, by rw [over_at2 hw hC hY]; exact h2, fun d hd e1 e2 => ?_⟩
  rw [part_at2 hw hd hX] at e1; rw [over_at2 hw hd hY] at e2; rw [part_at2 hw hd hC]
  exact h3 d hd e1 e2

theorem left_none {n : Nat} {f : Nat → Int} (h64 : ∀ i, i < n → I64 (f i)) (hs : strongB n f = true) (hf : summedB n f = true) {x y : Int} (hx0 : 0 ≤ x) (hx : x < n) (hy0 : 0 ≤ y) (hy : y < n) (h : leftOk n f x y = false) : partB n f x y = true := by
  have hw : worldB n f = true := (worldB_iff n f h64).2 ((strong_iff h64).1 hs).1
  have hg : good2 n f x y = true := (good2_iff n f x y).2 ⟨hw, ⟨hx0, hx⟩, hy0, hy⟩
  obtain ⟨_, X, Y, hX, hY, rfl, rfl⟩ := nats2 hg
  cases e : partB n f X Y with
  | true => rfl
  | false =>
    rw [part_at2 hw hX hY] at e
    obtain ⟨s, hs1, hs2⟩ := left_full h64 hs hf hX hY e
    have := (ans_at ((worldB_iff n f h64).1 hw) hs1 hs2).2
    unfold leftOk at h
    rw [hg, Int.toNat_natCast, Int.toNat_natCast, this] at h; cases h

theorem against_on {n : Nat} {f : Nat → Int} (h64 : ∀ i, i < n → I64 (f i)) {x : Int} (h : againstOk n f x = true) :
    ∃ C : Nat, C < n ∧ againstN n f x = C ∧ overB n f x C = false ∧ (strongB n f = true → againstOk n f C = true ∧ againstN n f C = x) := by
  obtain ⟨hg, C, hC, hN, hT⟩ := ans_on (fun hg => (worldB_iff n f h64).1 ((good1_iff n f x).1 hg).1) h
  obtain ⟨hw, hx0, hx1⟩ := (good1_iff n f x).1 hg
  obtain ⟨X, rfl⟩ := Int.eq_ofNat_of_zero_le hx0
  have hX : X < n := by omega
  have hP := (worldB_iff n f h64).1 hw
  rw [Int.toNat_natCast] at hT
  refine ⟨C, hC, hN, by rw [over_at2 hw hX hC, andI_swap]; exact (against_top hP.hi hC hT).1, fun hs => ?_⟩
  have hgC : good1 n f C = true := (good1_iff n f C).2 ⟨hw, by omega, by omega⟩
  obtain ⟨e1, e2⟩ := ans_at hP hX (against_back h64 hs hX hC hT)
  unfold againstOk againstN
  rw [hgC, Int.toNat_natCast]
  exact ⟨e2, e1⟩

theorem against_none {n : Nat} {f : Nat → Int} (h64 : ∀ i, i < n → I64 (f i)) (hs : strongB n f = true) (hf : summedB n f = true) {x : Int} (hx0 : 0 ≤ x) (hx : x < n) (h : againstOk n f x = false) : wholeOk n f = true ∧ wholeN n f = x := by
  have hw : worldB n f = true := (worldB_iff n f h64).2 ((strong_iff h64).1 hs).1
  have hP := (worldB_iff n f h64).1 hw
  obtain ⟨X, rfl⟩ := Int.eq_ofNat_of_zero_le hx0
  have hX : X < n := by omega
  have hg : good1 n f X = true := (good1_iff n f X).2 ⟨hw, by omega, by omega⟩
  cases e : topG f (wholeS n) X with
  | true =>
    obtain ⟨e1, e2⟩ := ans_at hP hX e
    unfold wholeOk wholeN; rw [hw]; exact ⟨e2, e1⟩
  | false =>
    obtain ⟨s, hs1, hs2⟩ := against_full h64 hs hf hX e
    have := (ans_at hP hs1 hs2).2
    unfold againstOk at h
    rw [hg, Int.toNat_natCast, this] at h; cases h

set_option maxHeartbeats 8000000 in
theorem lawCommonOf (a : Option Addr) (n cap : Nat) (w : World) (h : BytesIn w a n cap) (hT : TabW w) :
    Calls Tryd.prog 3 #[.slice a n cap] w (TrueEnd w) := by
  have hlen := h.len
  have H := Lib.hid h; have HT := Lib.hid hT; clear h hT
  by_cases hn : 1048576 < n
  · go_enter Tryd.func3, Tryd.ntmps3
    go_wp2_with fail
    go_ret
    exact ⟨rfl, Below.refl _ _⟩
  · go_enter Tryd.func3, Tryd.ntmps3
    go_wp2_with fail
    refine (DrawCommonOf_any _ _ _ _ H.out).mono ?_
    rintro e w1 ⟨d, m, c, f, x, y, rfl, hm, hx64, hy64, hi, hb1⟩
    have h64 := Lib.hid hi.i64
    obtain ⟨hx1, hx2⟩ := hx64
    obtain ⟨hy1, hy2⟩ := hy64
    cases hr : commonOk m f x y with
    | false =>
      have HR := Lib.hid hr; have HN := Lib.hid (ans_off hr)
      cases hst : strongB m f with
      | false =>
        have HST := Lib.hid hst; clear hst hr
        go_wp2_with fail
        refine (CommonOf_val _ _ _ f x y (-1) false _ HN.out HR.out hi (HT.out.below hb1)).mono ?_
        rintro e w9 ⟨rfl, hb2⟩
        replace hi := hi.next hb2; replace hb1 := below_onto hb1 hb2; clear hb2
        go_wp2_with fail
        refine (specCommonOf_val _ _ _ f x y (-1) false _ HN.out HR.out hi).mono ?_
        rintro e w9 ⟨rfl, hd3⟩
        replace hi := hi.drew hd3; replace hb1 := below_onto hb1 hd3.below; clear hd3
        go_wp2_with fail
        refine (StrongOk_val _ _ _ f false _ HST.out hi).mono ?_
        rintro e w9 ⟨rfl, hb2⟩
        replace hi := hi.next hb2; replace hb1 := below_onto hb1 hb2; clear hb2
        go_wp2_with fail
        refine (alive_any _).mono ?_
        rintro e w9 ⟨rfl, hb2⟩
        replace hb1 := below_onto hb1 hb2; clear hb2
        go_wp2_with fail
        go_ret
        exact ⟨rfl, hb1⟩
      | true =>
        cases hsm : summedB m f with
        | false =>
          have HST := Lib.hid hst; have HSM := Lib.hid hsm; clear hst hsm hr
          go_wp2_with fail
          refine (CommonOf_val _ _ _ f x y (-1) false _ HN.out HR.out hi (HT.out.below hb1)).mono ?_
          rintro e w9 ⟨rfl, hb2⟩
          replace hi := hi.next hb2; replace hb1 := below_onto hb1 hb2; clear hb2
          go_wp2_with fail
          refine (specCommonOf_val _ _ _ f x y (-1) false _ HN.out HR.out hi).mono ?_
          rintro e w9 ⟨rfl, hd3⟩
          replace hi := hi.drew hd3; replace hb1 := below_onto hb1 hd3.below; clear hd3
          go_wp2_with fail
          refine (StrongOk_val _ _ _ f true _ HST.out hi).mono ?_
          rintro e w9 ⟨rfl, hb2⟩
          replace hi := hi.next hb2; replace hb1 := below_onto hb1 hb2; clear hb2
          go_wp2_with fail
          refine (SummedOk_val _ _ _ f false _ HSM.out hi).mono ?_
          rintro e w9 ⟨rfl, hb2⟩
          replace hi := hi.next hb2; replace hb1 := below_onto hb1 hb2; clear hb2
          go_wp2_with fail
          refine (alive_any _).mono ?_
          rintro e w9 ⟨rfl, hb2⟩
          replace hb1 := below_onto hb1 hb2; clear hb2
          go_wp2_with fail
          go_ret
          exact ⟨rfl, hb1⟩
        | true =>
          have HO := Lib.hid (common_none h64.out hst hsm hr)
          have HST := Lib.hid hst; have HSM := Lib.hid hsm; clear hst hsm hr
          go_wp2_with fail
          refine (CommonOf_val _ _ _ f x y (-1) false _ HN.out HR.out hi (HT.out.below hb1)).mono ?_
          rintro e w9 ⟨rfl, hb2⟩
          replace hi := hi.next hb2; replace hb1 := below_onto hb1 hb2; clear hb2
          go_wp2_with fail
          refine (specCommonOf_val _ _ _ f x y (-1) false _ HN.out HR.out hi).mono ?_
          rintro e w9 ⟨rfl, hd3⟩
          replace hi := hi.drew hd3; replace hb1 := below_onto hb1 hd3.below; clear hd3
          go_wp2_with fail
          refine (StrongOk_val _ _ _ f true _ HST.out hi).mono ?_
          rintro e w9 ⟨rfl, hb2⟩
          replace hi := hi.next hb2; replace hb1 := below_onto hb1 hb2; clear hb2
          go_wp2_with fail
          refine (SummedOk_val _ _ _ f true _ HSM.out hi).mono ?_
          rintro e w9 ⟨rfl, hb2⟩
          replace hi := hi.next hb2; replace hb1 := below_onto hb1 hb2; clear hb2
          go_wp2_with fail
          refine (OverlapOk_val _ _ _ f x y false _ HO.out hi).mono ?_
          rintro e w9 ⟨rfl, hb2⟩
          replace hi := hi.next hb2; replace hb1 := below_onto hb1 hb2; clear hb2
          go_wp2_with fail
          refine (alive_any _).mono ?_
          rintro e w9 ⟨rfl, hb2⟩
          replace hb1 := below_onto hb1 hb2; clear hb2
          go_wp2_with fail
          go_ret
          exact ⟨rfl, hb1⟩
    | true =>
      obtain ⟨C, hC, h1, h2, h3⟩ := common_on h64.out hr
      have HR := Lib.hid hr; have HN := Lib.hid h1; have HD := Lib.hid h2; have HS := Lib.hid h3; clear hr h1 h2 h3
      have hne : ((C : Int) != (C : Int)) = false := by simp
      go_wp2_with fail
      refine (CommonOf_val _ _ _ f x y (C) true _ HN.out HR.out hi (HT.out.below hb1)).mono ?_
      rintro e w9 ⟨rfl, hb2⟩
      replace hi := hi.next hb2; replace hb1 := below_onto hb1 hb2; clear hb2
      go_wp2_with fail
      refine (specCommonOf_val _ _ _ f x y (C) true _ HN.out HR.out hi).mono ?_
      rintro e w9 ⟨rfl, hd3⟩
      replace hi := hi.drew hd3; replace hb1 := below_onto hb1 hd3.below; clear hd3
      go_wp2_with fail
      go_loopw [10] (fun i wr => ∃ k : Nat, k ≤ m ∧ i = .int .i64 k ∧ Ints wr d m f ∧ Below w.heap.size w wr) (fun i _ => m - (intOf i).toNat)
      case atStart => exact ⟨0, Nat.zero_le _, rfl, hi, hb1⟩
      case round =>
        clear hi hb1
        obtain ⟨k, hk, rfl, hi, hb1⟩ := hrel
        by_cases hlt : k < m
        · have hki : (k : Int) < (m : Int) := by omega
          have hcd := HD.out k hlt
          cases hp : partB m f k x with
          | false =>
            rw [hp, Bool.false_and] at hcd
            have HP := Lib.hid hp; have HC := Lib.hid hcd; clear hp hcd
            go_wp2_with fail
            refine (PartOk_val _ _ _ f k x false _ HP.out hi).mono ?_
            rintro e w9 ⟨rfl, hb2⟩
            replace hi := hi.next hb2; replace hb1 := below_onto hb1 hb2; clear hb2
            go_wp2_with fail
            refine (PartOk_val _ _ _ f k C false _ HC.out hi).mono ?_
            rintro e w9 ⟨rfl, hb2⟩
            replace hi := hi.next hb2; replace hb1 := below_onto hb1 hb2; clear hb2
            go_wp2_with fail
            go_roundw
            case rel => exact ⟨k + 1, by omega, by go_num, hi, hb1⟩
            case measure => simp [intOf]; omega
          | true =>
            rw [hp, Bool.true_and] at hcd
            cases hq : partB m f k y with
            | true =>
              rw [hq] at hcd
              have HP := Lib.hid hp; have HQ := Lib.hid hq; have HC := Lib.hid hcd; clear hp hq hcd
              go_wp2_with fail
              refine (PartOk_val _ _ _ f k x true _ HP.out hi).mono ?_
              rintro e w9 ⟨rfl, hb2⟩
              replace hi := hi.next hb2; replace hb1 := below_onto hb1 hb2; clear hb2
              go_wp2_with fail
              refine (PartOk_val _ _ _ f k y true _ HQ.out hi).mono ?_
              rintro e w9 ⟨rfl, hb2⟩
              replace hi := hi.next hb2; replace hb1 := below_onto hb1 hb2; clear hb2
              go_wp2_with fail
              refine (PartOk_val _ _ _ f k C true _ HC.out hi).mono ?_
              rintro e w9 ⟨rfl, hb2⟩
              replace hi := hi.next hb2; replace hb1 := below_onto hb1 hb2; clear hb2
              go_wp2_with fail
              go_roundw
              case rel => exact ⟨k + 1, by omega, by go_num, hi, hb1⟩
              case measure => simp [intOf]; omega
            | false =>
              rw [hq] at hcd
              have HP := Lib.hid hp; have HQ := Lib.hid hq; have HC := Lib.hid hcd; clear hp hq hcd
              go_wp2_with fail
              refine (PartOk_val _ _ _ f k x true _ HP.out hi).mono ?_
              rintro e w9 ⟨rfl, hb2⟩
              replace hi := hi.next hb2; replace hb1 := below_onto hb1 hb2; clear hb2
              go_wp2_with fail
              refine (PartOk_val _ _ _ f k y false _ HQ.out hi).mono ?_
              rintro e w9 ⟨rfl, hb2⟩
              replace hi := hi.next hb2; replace hb1 := below_onto hb1 hb2; clear hb2
              go_wp2_with fail
              refine (PartOk_val _ _ _ f k C false _ HC.out hi).mono ?_
              rintro e w9 ⟨rfl, hb2⟩
              replace hi := hi.next hb2; replace hb1 := below_onto hb1 hb2; clear hb2
              go_wp2_with fail
              go_roundw
              case rel => exact ⟨k + 1, by omega, by go_num, hi, hb1⟩
              case measure => simp [intOf]; omega
        · have hki : ¬ (k : Int) < (m : Int) := by omega
          cases hp : partB m f x y with
          | false =>
            have HP := Lib.hid hp; clear hp
            go_wp2_with fail
            refine (PartOk_val _ _ _ f x y false _ HP.out hi).mono ?_
            rintro e w9 ⟨rfl, hb2⟩
            replace hi := hi.next hb2; replace hb1 := below_onto hb1 hb2; clear hb2
            go_wp2_with fail
            go_ret
            exact ⟨rfl, hb1⟩
          | true =>
            have hcx : ((C : Int) == x) = true := beq_iff_eq.2 (HS.out hp)
            have HP := Lib.hid hp; clear hp
            go_wp2_with fail
            refine (PartOk_val _ _ _ f x y true _ HP.out hi).mono ?_
            rintro e w9 ⟨rfl, hb2⟩
            replace hi := hi.next hb2; replace hb1 := below_onto hb1 hb2; clear hb2
            go_wp2_with fail
            go_ret
            exact ⟨rfl, hb1⟩

set_option maxHeartbeats 8000000 in
theorem lawLeftOf (a : Option Addr) (n cap : Nat) (w : World) (h : BytesIn w a n cap) (hT : TabW w) :
    Calls Tryd.prog 4 #[.slice a n cap] w (TrueEnd w) := by
  have hlen := h.len
  have H := Lib.hid h; have HT := Lib.hid hT; clear h hT
  by_cases hn : 1048576 < n
  · go_enter Tryd.func4, Tryd.ntmps4
    go_wp2_with fail
    go_ret
    exact ⟨rfl, Below.refl _ _⟩
  · go_enter Tryd.func4, Tryd.ntmps4
    go_wp2_with fail
    refine (DrawLeftOf_any _ _ _ _ H.out).mono ?_
    rintro e w1 ⟨d, m, c, f, x, y, rfl, hm, hx64, hy64, hi, hb1⟩
    have h64 := Lib.hid hi.i64
    obtain ⟨hx1, hx2⟩ := hx64
    obtain ⟨hy1, hy2⟩ := hy64
    cases hr : leftOk m f x y with
    | false =>
      have HR := Lib.hid hr; have HN := Lib.hid (ans_off hr)
      by_cases c1 : 0 ≤ x
      · have d1 : decide (0 ≤ x) = true := decide_eq_true c1
        by_cases c2 : 0 ≤ y
        · have d2 : decide (0 ≤ y) = true := decide_eq_true c2
          by_cases c3 : x < m
          · have d3 : decide (x < (m : Int)) = true := decide_eq_true c3
            by_cases c4 : y < m
            · have d4 : decide (y < (m : Int)) = true := decide_eq_true c4
              cases hst : strongB m f with
              | false =>
                have HST := Lib.hid hst; clear hst hr
                go_wp2_with fail
                refine (LeftOf_val _ _ _ f x y (-1) false _ HN.out HR.out hi (HT.out.below hb1)).mono ?_
                rintro e w9 ⟨rfl, hb2⟩
                replace hi := hi.next hb2; replace hb1 := below_onto hb1 hb2; clear hb2
                go_wp2_with fail
                refine (specLeftOf_val _ _ _ f x y (-1) false _ HN.out HR.out hi).mono ?_
                rintro e w9 ⟨rfl, hd3⟩
                replace hi := hi.drew hd3; replace hb1 := below_onto hb1 hd3.below; clear hd3
                go_wp2_with fail
                refine (StrongOk_val _ _ _ f false _ HST.out hi).mono ?_
                rintro e w9 ⟨rfl, hb2⟩
                replace hi := hi.next hb2; replace hb1 := below_onto hb1 hb2; clear hb2
                go_wp2_with fail
                refine (alive_any _).mono ?_
                rintro e w9 ⟨rfl, hb2⟩
                replace hb1 := below_onto hb1 hb2; clear hb2
                go_wp2_with fail
                go_ret
                exact ⟨rfl, hb1⟩
              | true =>
                cases hsm : summedB m f with
                | false =>
                  have HST := Lib.hid hst; have HSM := Lib.hid hsm; clear hst hsm hr
                  go_wp2_with fail
                  refine (LeftOf_val _ _ _ f x y (-1) false _ HN.out HR.out hi (HT.out.below hb1)).mono ?_
                  rintro e w9 ⟨rfl, hb2⟩
                  replace hi := hi.next hb2; replace hb1 := below_onto hb1 hb2; clear hb2
                  go_wp2_with fail
                  refine (specLeftOf_val _ _ _ f x y (-1) false _ HN.out HR.out hi).mono ?_
                  rintro e w9 ⟨rfl, hd3⟩
                  replace hi := hi.drew hd3; replace hb1 := below_onto hb1 hd3.below; clear hd3
                  go_wp2_with fail
                  refine (StrongOk_val _ _ _ f true _ HST.out hi).mono ?_
                  rintro e w9 ⟨rfl, hb2⟩
                  replace hi := hi.next hb2; replace hb1 := below_onto hb1 hb2; clear hb2
                  go_wp2_with fail
                  refine (SummedOk_val _ _ _ f false _ HSM.out hi).mono ?_
                  rintro e w9 ⟨rfl, hb2⟩
                  replace hi := hi.next hb2; replace hb1 := below_onto hb1 hb2; clear hb2
                  go_wp2_with fail
                  refine (alive_any _).mono ?_
                  rintro e w9 ⟨rfl, hb2⟩
                  replace hb1 := below_onto hb1 hb2; clear hb2
                  go_wp2_with fail
                  go_ret
                  exact ⟨rfl, hb1⟩
                | true =>
                  have HP := Lib.hid (left_none h64.out hst hsm c1 c3 c2 c4 hr)
                  have HST := Lib.hid hst; have HSM := Lib.hid hsm; clear hst hsm hr
                  go_wp2_with fail
                  refine (LeftOf_val _ _ _ f x y (-1) false _ HN.out HR.out hi (HT.out.below hb1)).mono ?_
                  rintro e w9 ⟨rfl, hb2⟩
                  replace hi := hi.next hb2; replace hb1 := below_onto hb1 hb2; clear hb2
                  go_wp2_with fail
                  refine (specLeftOf_val _ _ _ f x y (-1) false _ HN.out HR.out hi).mono ?_
                  rintro e w9 ⟨rfl, hd3⟩
                  replace hi := hi.drew hd3; replace hb1 := below_onto hb1 hd3.below; clear hd3
                  go_wp2_with fail
                  refine (StrongOk_val _ _ _ f true _ HST.out hi).mono ?_
                  rintro e w9 ⟨rfl, hb2⟩
                  replace hi := hi.next hb2; replace hb1 := below_onto hb1 hb2; clear hb2
                  go_wp2_with fail
                  refine (SummedOk_val _ _ _ f true _ HSM.out hi).mono ?_
                  rintro e w9 ⟨rfl, hb2⟩
                  replace hi := hi.next hb2; replace hb1 := below_onto hb1 hb2; clear hb2
                  go_wp2_with fail
                  refine (PartOk_val _ _ _ f x y true _ HP.out hi).mono ?_
                  rintro e w9 ⟨rfl, hb2⟩
                  replace hi := hi.next hb2; replace hb1 := below_onto hb1 hb2; clear hb2
                  go_wp2_with fail
                  refine (alive_any _).mono ?_
                  rintro e w9 ⟨rfl, hb2⟩
                  replace hb1 := below_onto hb1 hb2; clear hb2
                  go_wp2_with fail
                  go_ret
                  exact ⟨rfl, hb1⟩
            · have d4 : decide (y < (m : Int)) = false := decide_eq_false c4
              clear hr
              go_wp2_with fail
              refine (LeftOf_val _ _ _ f x y (-1) false _ HN.out HR.out hi (HT.out.below hb1)).mono ?_
              rintro e w9 ⟨rfl, hb2⟩
              replace hi := hi.next hb2; replace hb1 := below_onto hb1 hb2; clear hb2
              go_wp2_with fail
              refine (specLeftOf_val _ _ _ f x y (-1) false _ HN.out HR.out hi).mono ?_
              rintro e w9 ⟨rfl, hd3⟩
              replace hi := hi.drew hd3; replace hb1 := below_onto hb1 hd3.below; clear hd3
              go_wp2_with fail
              refine (alive_any _).mono ?_
              rintro e w9 ⟨rfl, hb2⟩
              replace hb1 := below_onto hb1 hb2; clear hb2
              go_wp2_with fail
              go_ret
              exact ⟨rfl, hb1⟩
          · have d3 : decide (x < (m : Int)) = false := decide_eq_false c3
            clear hr
            go_wp2_with fail
            refine (LeftOf_val _ _ _ f x y (-1) false _ HN.out HR.out hi (HT.out.below hb1)).mono ?_
            rintro e w9 ⟨rfl, hb2⟩
            replace hi := hi.next hb2; replace hb1 := below_onto hb1 hb2; clear hb2
            go_wp2_with fail
            refine (specLeftOf_val _ _ _ f x y (-1) false _ HN.out HR.out hi).mono ?_
            rintro e w9 ⟨rfl, hd3⟩
            replace hi := hi.drew hd3; replace hb1 := below_onto hb1 hd3.below; clear hd3
            go_wp2_with fail
            refine (alive_any _).mono ?_
            rintro e w9 ⟨rfl, hb2⟩
            replace hb1 := below_onto hb1 hb2; clear hb2
            go_wp2_with fail
            go_ret
            exact ⟨rfl, hb1⟩
        · have d2 : decide (0 ≤ y) = false := decide_eq_false c2
          clear hr
          go_wp2_with fail
          refine (LeftOf_val _ _ _ f x y (-1) false _ HN.out HR.out hi (HT.out.below hb1)).mono ?_
          rintro e w9 ⟨rfl, hb2⟩
          replace hi := hi.next hb2; replace hb1 := below_onto hb1 hb2; clear hb2
          go_wp2_with fail
          refine (specLeftOf_val _ _ _ f x y (-1) false _ HN.out HR.out hi).mono ?_
          rintro e w9 ⟨rfl, hd3⟩
          replace hi := hi.drew hd3; replace hb1 := below_onto hb1 hd3.below; clear hd3
          go_wp2_with fail
          refine (alive_any _).mono ?_
          rintro e w9 ⟨rfl, hb2⟩
          replace hb1 := below_onto hb1 hb2; clear hb2
          go_wp2_with fail
          go_ret
          exact ⟨rfl, hb1⟩
      · have d1 : decide (0 ≤ x) = false := decide_eq_false c1
        clear hr
        go_wp2_with fail
        refine (LeftOf_val _ _ _ f x y (-1) false _ HN.out HR.out hi (HT.out.below hb1)).mono ?_
        rintro e w9 ⟨rfl, hb2⟩
        replace hi := hi.next hb2; replace hb1 := below_onto hb1 hb2; clear hb2
        go_wp2_with fail
        refine (specLeftOf_val _ _ _ f x y (-1) false _ HN.out HR.out hi).mono ?_
        rintro e w9 ⟨rfl, hd3⟩
        replace hi := hi.drew hd3; replace hb1 := below_onto hb1 hd3.below; clear hd3
        go_wp2_with fail
        refine (alive_any _).mono ?_
        rintro e w9 ⟨rfl, hb2⟩
        replace hb1 := below_onto hb1 hb2; clear hb2
        go_wp2_with fail
        go_ret
        exact ⟨rfl, hb1⟩
    | true =>
      obtain ⟨C, hC, h1, h2, h3, h4⟩ := left_on h64.out hr
      have HR := Lib.hid hr; have HN := Lib.hid h1; have HPC := Lib.hid h2; have HOC := Lib.hid h3; have HD := Lib.hid h4; clear hr h1 h2 h3 h4
      have hne : ((C : Int) != (C : Int)) = false := by simp
      go_wp2_with fail
      refine (LeftOf_val _ _ _ f x y (C) true _ HN.out HR.out hi (HT.out.below hb1)).mono ?_
      rintro e w9 ⟨rfl, hb2⟩
      replace hi := hi.next hb2; replace hb1 := below_onto hb1 hb2; clear hb2
      go_wp2_with fail
      refine (specLeftOf_val _ _ _ f x y (C) true _ HN.out HR.out hi).mono ?_
      rintro e w9 ⟨rfl, hd3⟩
      replace hi := hi.drew hd3; replace hb1 := below_onto hb1 hd3.below; clear hd3
      go_wp2_with fail
      go_loopw [11] (fun i wr => ∃ k : Nat, k ≤ m ∧ i = .int .i64 k ∧ Ints wr d m f ∧ Below w.heap.size w wr) (fun i _ => m - (intOf i).toNat)
      case atStart => exact ⟨0, Nat.zero_le _, rfl, hi, hb1⟩
      case round =>
        clear hi hb1
        obtain ⟨k, hk, rfl, hi, hb1⟩ := hrel
        by_cases hlt : k < m
        · have hki : (k : Int) < (m : Int) := by omega
          cases hp : partB m f k x with
          | false =>
            have HP := Lib.hid hp; clear hp
            go_wp2_with fail
            refine (PartOk_val _ _ _ f k x false _ HP.out hi).mono ?_
            rintro e w9 ⟨rfl, hb2⟩
            replace hi := hi.next hb2; replace hb1 := below_onto hb1 hb2; clear hb2
            go_wp2_with fail
            go_roundw
            case rel => exact ⟨k + 1, by omega, by go_num, hi, hb1⟩
            case measure => simp [intOf]; omega
          | true =>
            cases hq : overB m f k y with
            | true =>
              have HP := Lib.hid hp; have HQ := Lib.hid hq; clear hp hq
              go_wp2_with fail
              refine (PartOk_val _ _ _ f k x true _ HP.out hi).mono ?_
              rintro e w9 ⟨rfl, hb2⟩
              replace hi := hi.next hb2; replace hb1 := below_onto hb1 hb2; clear hb2
              go_wp2_with fail
              refine (OverlapOk_val _ _ _ f k y true _ HQ.out hi).mono ?_
              rintro e w9 ⟨rfl, hb2⟩
              replace hi := hi.next hb2; replace hb1 := below_onto hb1 hb2; clear hb2
              go_wp2_with fail
              go_roundw
              case rel => exact ⟨k + 1, by omega, by go_num, hi, hb1⟩
              case measure => simp [intOf]; omega
            | false =>
              have HC := Lib.hid (HD.out k hlt hp hq)
              have HP := Lib.hid hp; have HQ := Lib.hid hq; clear hp hq
              go_wp2_with fail
              refine (PartOk_val _ _ _ f k x true _ HP.out hi).mono ?_
              rintro e w9 ⟨rfl, hb2⟩
              replace hi := hi.next hb2; replace hb1 := below_onto hb1 hb2; clear hb2
              go_wp2_with fail
              refine (OverlapOk_val _ _ _ f k y false _ HQ.out hi).mono ?_
              rintro e w9 ⟨rfl, hb2⟩
              replace hi := hi.next hb2; replace hb1 := below_onto hb1 hb2; clear hb2
              go_wp2_with fail
              refine (PartOk_val _ _ _ f k C true _ HC.out hi).mono ?_
              rintro e w9 ⟨rfl, hb2⟩
              replace hi := hi.next hb2; replace hb1 := below_onto hb1 hb2; clear hb2
              go_wp2_with fail
              go_roundw
              case rel => exact ⟨k + 1, by omega, by go_num, hi, hb1⟩
              case measure => simp [intOf]; omega
        · have hki : ¬ (k : Int) < (m : Int) := by omega
          go_wp2_with fail
          refine (PartOk_val _ _ _ f C x true _ HPC.out hi).mono ?_
          rintro e w9 ⟨rfl, hb2⟩
          replace hi := hi.next hb2; replace hb1 := below_onto hb1 hb2; clear hb2
          go_wp2_with fail
          refine (OverlapOk_val _ _ _ f C y false _ HOC.out hi).mono ?_
          rintro e w9 ⟨rfl, hb2⟩
          replace hi := hi.next hb2; replace hb1 := below_onto hb1 hb2; clear hb2
          go_wp2_with fail
          go_ret
          exact ⟨rfl, hb1⟩

set_option maxHeartbeats 8000000 in
theorem lawAgainstOf (a : Option Addr) (n cap : Nat) (w : World) (h : BytesIn w a n cap) (hT : TabW w) :
    Calls Tryd.prog 5 #[.slice a n cap] w (TrueEnd w) := by
  have hlen := h.len
  have H := Lib.hid h; have HT := Lib.hid hT; clear h hT
  by_cases hn : 1048576 < n
  · go_enter Tryd.func5, Tryd.ntmps5
    go_wp2_with fail
    go_ret
    exact ⟨rfl, Below.refl _ _⟩
  · go_enter Tryd.func5, Tryd.ntmps5
    go_wp2_with fail
    refine (DrawAgainstOf_any _ _ _ _ H.out).mono ?_
    rintro e w1 ⟨d, m, c, f, x, rfl, hm, hx64, hi, hb1⟩
    have h64 := Lib.hid hi.i64
    obtain ⟨hx1, hx2⟩ := hx64
    cases hr : againstOk m f x with
    | false =>
      have HR := Lib.hid hr; have HN := Lib.hid (ans_off hr)
      cases hst : strongB m f with
      | false =>
        have HST := Lib.hid hst; clear hst hr
        obtain ⟨i0, hi0⟩ : ∃ i0, wholeN m f = i0 := ⟨_, rfl⟩
        obtain ⟨v0, hv0⟩ : ∃ v0, wholeOk m f = v0 := ⟨_, rfl⟩
        have HWN := Lib.hid hi0; have HWO := Lib.hid hv0; clear hi0 hv0
        go_wp2_with fail
        refine (AgainstOf_val _ _ _ f x (-1) false _ HN.out HR.out hi (HT.out.below hb1)).mono ?_
        rintro e w9 ⟨rfl, hb2⟩
        replace hi := hi.next hb2; replace hb1 := below_onto hb1 hb2; clear hb2
        go_wp2_with fail
        refine (specAgainstOf_val _ _ _ f x (-1) false _ HN.out HR.out hi).mono ?_
        rintro e w9 ⟨rfl, hd3⟩
        replace hi := hi.drew hd3; replace hb1 := below_onto hb1 hd3.below; clear hd3
        go_wp2_with fail
        refine (StrongOk_val _ _ _ f false _ HST.out hi).mono ?_
        rintro e w9 ⟨rfl, hb2⟩
        replace hi := hi.next hb2; replace hb1 := below_onto hb1 hb2; clear hb2
        go_wp2_with fail
        refine (WholeOf_val _ _ _ f  (i0) v0 _ HWN.out HWO.out hi (HT.out.below hb1)).mono ?_
        rintro e w9 ⟨rfl, hb2⟩
        replace hi := hi.next hb2; replace hb1 := below_onto hb1 hb2; clear hb2
        go_wp2_with fail
        refine (alive_any _).mono ?_
        rintro e w9 ⟨rfl, hb2⟩
        replace hb1 := below_onto hb1 hb2; clear hb2
        go_wp2_with fail
        go_ret
        exact ⟨rfl, hb1⟩
      | true =>
        cases hsm : summedB m f with
        | false =>
          have HST := Lib.hid hst; have HSM := Lib.hid hsm; clear hst hsm hr
          obtain ⟨i0, hi0⟩ : ∃ i0, wholeN m f = i0 := ⟨_, rfl⟩
          obtain ⟨v0, hv0⟩ : ∃ v0, wholeOk m f = v0 := ⟨_, rfl⟩
          have HWN := Lib.hid hi0; have HWO := Lib.hid hv0; clear hi0 hv0
          go_wp2_with fail
          refine (AgainstOf_val _ _ _ f x (-1) false _ HN.out HR.out hi (HT.out.below hb1)).mono ?_
          rintro e w9 ⟨rfl, hb2⟩
          replace hi := hi.next hb2; replace hb1 := below_onto hb1 hb2; clear hb2
          go_wp2_with fail
          refine (specAgainstOf_val _ _ _ f x (-1) false _ HN.out HR.out hi).mono ?_
          rintro e w9 ⟨rfl, hd3⟩
          replace hi := hi.drew hd3; replace hb1 := below_onto hb1 hd3.below; clear hd3
          go_wp2_with fail
          refine (StrongOk_val _ _ _ f true _ HST.out hi).mono ?_
          rintro e w9 ⟨rfl, hb2⟩
          replace hi := hi.next hb2; replace hb1 := below_onto hb1 hb2; clear hb2
          go_wp2_with fail
          refine (SummedOk_val _ _ _ f false _ HSM.out hi).mono ?_
          rintro e w9 ⟨rfl, hb2⟩
          replace hi := hi.next hb2; replace hb1 := below_onto hb1 hb2; clear hb2
          go_wp2_with fail
          refine (WholeOf_val _ _ _ f  (i0) v0 _ HWN.out HWO.out hi (HT.out.below hb1)).mono ?_
          rintro e w9 ⟨rfl, hb2⟩
          replace hi := hi.next hb2; replace hb1 := below_onto hb1 hb2; clear hb2
          go_wp2_with fail
          refine (alive_any _).mono ?_
          rintro e w9 ⟨rfl, hb2⟩
          replace hb1 := below_onto hb1 hb2; clear hb2
          go_wp2_with fail
          go_ret
          exact ⟨rfl, hb1⟩
        | true =>
          by_cases c1 : x < 0
          · have d1 : decide (x < 0) = true := decide_eq_true c1
            have HST := Lib.hid hst; have HSM := Lib.hid hsm; clear hst hsm hr
            obtain ⟨i0, hi0⟩ : ∃ i0, wholeN m f = i0 := ⟨_, rfl⟩
            obtain ⟨v0, hv0⟩ : ∃ v0, wholeOk m f = v0 := ⟨_, rfl⟩
            have HWN := Lib.hid hi0; have HWO := Lib.hid hv0; clear hi0 hv0
            go_wp2_with fail
            refine (AgainstOf_val _ _ _ f x (-1) false _ HN.out HR.out hi (HT.out.below hb1)).mono ?_
            rintro e w9 ⟨rfl, hb2⟩
            replace hi := hi.next hb2; replace hb1 := below_onto hb1 hb2; clear hb2
            go_wp2_with fail
            refine (specAgainstOf_val _ _ _ f x (-1) false _ HN.out HR.out hi).mono ?_
            rintro e w9 ⟨rfl, hd3⟩
            replace hi := hi.drew hd3; replace hb1 := below_onto hb1 hd3.below; clear hd3
            go_wp2_with fail
            refine (StrongOk_val _ _ _ f true _ HST.out hi).mono ?_
            rintro e w9 ⟨rfl, hb2⟩
            replace hi := hi.next hb2; replace hb1 := below_onto hb1 hb2; clear hb2
            go_wp2_with fail
            refine (SummedOk_val _ _ _ f true _ HSM.out hi).mono ?_
            rintro e w9 ⟨rfl, hb2⟩
            replace hi := hi.next hb2; replace hb1 := below_onto hb1 hb2; clear hb2
            go_wp2_with fail
            refine (WholeOf_val _ _ _ f  (i0) v0 _ HWN.out HWO.out hi (HT.out.below hb1)).mono ?_
            rintro e w9 ⟨rfl, hb2⟩
            replace hi := hi.next hb2; replace hb1 := below_onto hb1 hb2; clear hb2
            go_wp2_with fail
            refine (alive_any _).mono ?_
            rintro e w9 ⟨rfl, hb2⟩
            replace hb1 := below_onto hb1 hb2; clear hb2
            go_wp2_with fail
            go_ret
            exact ⟨rfl, hb1⟩
          · have d1 : decide (x < 0) = false := decide_eq_false c1
            by_cases c2 : x < m
            · have d2 : decide ((m : Int) ≤ x) = false := decide_eq_false (by omega)
              obtain ⟨e1, e2⟩ := against_none h64.out hst hsm (by omega) c2 hr
              have HWO := Lib.hid e1; have HWN := Lib.hid e2
              have heq : (x == x) = true := by simp
              have HST := Lib.hid hst; have HSM := Lib.hid hsm; clear hst hsm hr e1 e2
              go_wp2_with fail
              refine (AgainstOf_val _ _ _ f x (-1) false _ HN.out HR.out hi (HT.out.below hb1)).mono ?_
              rintro e w9 ⟨rfl, hb2⟩
              replace hi := hi.next hb2; replace hb1 := below_onto hb1 hb2; clear hb2
              go_wp2_with fail
              refine (specAgainstOf_val _ _ _ f x (-1) false _ HN.out HR.out hi).mono ?_
              rintro e w9 ⟨rfl, hd3⟩
              replace hi := hi.drew hd3; replace hb1 := below_onto hb1 hd3.below; clear hd3
              go_wp2_with fail
              refine (StrongOk_val _ _ _ f true _ HST.out hi).mono ?_
              rintro e w9 ⟨rfl, hb2⟩
              replace hi := hi.next hb2; replace hb1 := below_onto hb1 hb2; clear hb2
              go_wp2_with fail
              refine (SummedOk_val _ _ _ f true _ HSM.out hi).mono ?_
              rintro e w9 ⟨rfl, hb2⟩
              replace hi := hi.next hb2; replace hb1 := below_onto hb1 hb2; clear hb2
              go_wp2_with fail
              refine (WholeOf_val _ _ _ f  (x) true _ HWN.out HWO.out hi (HT.out.below hb1)).mono ?_
              rintro e w9 ⟨rfl, hb2⟩
              replace hi := hi.next hb2; replace hb1 := below_onto hb1 hb2; clear hb2
              go_wp2_with fail
              refine (alive_any _).mono ?_
              rintro e w9 ⟨rfl, hb2⟩
              replace hb1 := below_onto hb1 hb2; clear hb2
              go_wp2_with fail
              go_ret
              exact ⟨rfl, hb1⟩
            · have d2 : decide ((m : Int) ≤ x) = true := decide_eq_true (by omega)
              have HST := Lib.hid hst; have HSM := Lib.hid hsm; clear hst hsm hr
              obtain ⟨i0, hi0⟩ : ∃ i0, wholeN m f = i0 := ⟨_, rfl⟩
              obtain ⟨v0, hv0⟩ : ∃ v0, wholeOk m f = v0 := ⟨_, rfl⟩
              have HWN := Lib.hid hi0; have HWO := Lib.hid hv0; clear hi0 hv0
              go_wp2_with fail
              refine (AgainstOf_val _ _ _ f x (-1) false _ HN.out HR.out hi (HT.out.below hb1)).mono ?_
              rintro e w9 ⟨rfl, hb2⟩
              replace hi := hi.next hb2; replace hb1 := below_onto hb1 hb2; clear hb2
              go_wp2_with fail
              refine (specAgainstOf_val _ _ _ f x (-1) false _ HN.out HR.out hi).mono ?_
              rintro e w9 ⟨rfl, hd3⟩
              replace hi := hi.drew hd3; replace hb1 := below_onto hb1 hd3.below; clear hd3
              go_wp2_with fail
              refine (StrongOk_val _ _ _ f true _ HST.out hi).mono ?_
              rintro e w9 ⟨rfl, hb2⟩
              replace hi := hi.next hb2; replace hb1 := below_onto hb1 hb2; clear hb2
              go_wp2_with fail
              refine (SummedOk_val _ _ _ f true _ HSM.out hi).mono ?_
              rintro e w9 ⟨rfl, hb2⟩
              replace hi := hi.next hb2; replace hb1 := below_onto hb1 hb2; clear hb2
              go_wp2_with fail
              refine (WholeOf_val _ _ _ f  (i0) v0 _ HWN.out HWO.out hi (HT.out.below hb1)).mono ?_
              rintro e w9 ⟨rfl, hb2⟩
              replace hi := hi.next hb2; replace hb1 := below_onto hb1 hb2; clear hb2
              go_wp2_with fail
              refine (alive_any _).mono ?_
              rintro e w9 ⟨rfl, hb2⟩
              replace hb1 := below_onto hb1 hb2; clear hb2
              go_wp2_with fail
              go_ret
              exact ⟨rfl, hb1⟩
    | true =>
      obtain ⟨C, hC, h1, h2, h3⟩ := against_on h64.out hr
      have HR := Lib.hid hr; have HN := Lib.hid h1; have HO := Lib.hid h2; have HB := Lib.hid h3; clear hr h1 h2 h3
      have hne : ((C : Int) != (C : Int)) = false := by simp
      obtain ⟨i0, hi0⟩ : ∃ i0, wholeN m f = i0 := ⟨_, rfl⟩
      obtain ⟨v0, hv0⟩ : ∃ v0, wholeOk m f = v0 := ⟨_, rfl⟩
      have HWN := Lib.hid hi0; have HWO := Lib.hid hv0; clear hi0 hv0
      cases hst : strongB m f with
      | false =>
        obtain ⟨i1, hi1⟩ : ∃ i1, againstN m f C = i1 := ⟨_, rfl⟩
        obtain ⟨v1, hv1⟩ : ∃ v1, againstOk m f C = v1 := ⟨_, rfl⟩
        have HN1 := Lib.hid hi1; have HO1 := Lib.hid hv1
        have HST := Lib.hid hst; clear hst hi1 hv1
        go_wp2_with fail
        refine (AgainstOf_val _ _ _ f x (C) true _ HN.out HR.out hi (HT.out.below hb1)).mono ?_
        rintro e w9 ⟨rfl, hb2⟩
        replace hi := hi.next hb2; replace hb1 := below_onto hb1 hb2; clear hb2
        go_wp2_with fail
        refine (specAgainstOf_val _ _ _ f x (C) true _ HN.out HR.out hi).mono ?_
        rintro e w9 ⟨rfl, hd3⟩
        replace hi := hi.drew hd3; replace hb1 := below_onto hb1 hd3.below; clear hd3
        go_wp2_with fail
        refine (StrongOk_val _ _ _ f false _ HST.out hi).mono ?_
        rintro e w9 ⟨rfl, hb2⟩
        replace hi := hi.next hb2; replace hb1 := below_onto hb1 hb2; clear hb2
        go_wp2_with fail
        refine (WholeOf_val _ _ _ f  (i0) v0 _ HWN.out HWO.out hi (HT.out.below hb1)).mono ?_
        rintro e w9 ⟨rfl, hb2⟩
        replace hi := hi.next hb2; replace hb1 := below_onto hb1 hb2; clear hb2
        go_wp2_with fail
        refine (AgainstOf_val _ _ _ f C (i1) v1 _ HN1.out HO1.out hi (HT.out.below hb1)).mono ?_
        rintro e w9 ⟨rfl, hb2⟩
        replace hi := hi.next hb2; replace hb1 := below_onto hb1 hb2; clear hb2
        go_wp2_with fail
        refine (OverlapOk_val _ _ _ f x C false _ HO.out hi).mono ?_
        rintro e w9 ⟨rfl, hb2⟩
        replace hi := hi.next hb2; replace hb1 := below_onto hb1 hb2; clear hb2
        go_wp2_with fail
        go_ret
        exact ⟨rfl, hb1⟩
      | true =>
        obtain ⟨e1, e2⟩ := HB.out hst
        have HO1 := Lib.hid e1; have HN1 := Lib.hid e2; clear e1 e2
        have heq : (x == x) = true := by simp
        cases hsm : summedB m f with
        | false =>
          have HST := Lib.hid hst; have HSM := Lib.hid hsm; clear hst hsm
          go_wp2_with fail
          refine (AgainstOf_val _ _ _ f x (C) true _ HN.out HR.out hi (HT.out.below hb1)).mono ?_
          rintro e w9 ⟨rfl, hb2⟩
          replace hi := hi.next hb2; replace hb1 := below_onto hb1 hb2; clear hb2
          go_wp2_with fail
          refine (specAgainstOf_val _ _ _ f x (C) true _ HN.out HR.out hi).mono ?_
          rintro e w9 ⟨rfl, hd3⟩
          replace hi := hi.drew hd3; replace hb1 := below_onto hb1 hd3.below; clear hd3
          go_wp2_with fail
          refine (StrongOk_val _ _ _ f true _ HST.out hi).mono ?_
          rintro e w9 ⟨rfl, hb2⟩
          replace hi := hi.next hb2; replace hb1 := below_onto hb1 hb2; clear hb2
          go_wp2_with fail
          refine (SummedOk_val _ _ _ f false _ HSM.out hi).mono ?_
          rintro e w9 ⟨rfl, hb2⟩
          replace hi := hi.next hb2; replace hb1 := below_onto hb1 hb2; clear hb2
          go_wp2_with fail
          refine (WholeOf_val _ _ _ f  (i0) v0 _ HWN.out HWO.out hi (HT.out.below hb1)).mono ?_
          rintro e w9 ⟨rfl, hb2⟩
          replace hi := hi.next hb2; replace hb1 := below_onto hb1 hb2; clear hb2
          go_wp2_with fail
          refine (AgainstOf_val _ _ _ f C (x) true _ HN1.out HO1.out hi (HT.out.below hb1)).mono ?_
          rintro e w9 ⟨rfl, hb2⟩
          replace hi := hi.next hb2; replace hb1 := below_onto hb1 hb2; clear hb2
          go_wp2_with fail
          refine (OverlapOk_val _ _ _ f x C false _ HO.out hi).mono ?_
          rintro e w9 ⟨rfl, hb2⟩
          replace hi := hi.next hb2; replace hb1 := below_onto hb1 hb2; clear hb2
          go_wp2_with fail
          go_ret
          exact ⟨rfl, hb1⟩
        | true =>
          have HST := Lib.hid hst; have HSM := Lib.hid hsm; clear hst hsm
          go_wp2_with fail
          refine (AgainstOf_val _ _ _ f x (C) true _ HN.out HR.out hi (HT.out.below hb1)).mono ?_
          rintro e w9 ⟨rfl, hb2⟩
          replace hi := hi.next hb2; replace hb1 := below_onto hb1 hb2; clear hb2
          go_wp2_with fail
          refine (specAgainstOf_val _ _ _ f x (C) true _ HN.out HR.out hi).mono ?_
          rintro e w9 ⟨rfl, hd3⟩
          replace hi := hi.drew hd3; replace hb1 := below_onto hb1 hd3.below; clear hd3
          go_wp2_with fail
          refine (StrongOk_val _ _ _ f true _ HST.out hi).mono ?_
          rintro e w9 ⟨rfl, hb2⟩
          replace hi := hi.next hb2; replace hb1 := below_onto hb1 hb2; clear hb2
          go_wp2_with fail
          refine (SummedOk_val _ _ _ f true _ HSM.out hi).mono ?_
          rintro e w9 ⟨rfl, hb2⟩
          replace hi := hi.next hb2; replace hb1 := below_onto hb1 hb2; clear hb2
          go_wp2_with fail
          refine (WholeOf_val _ _ _ f  (i0) v0 _ HWN.out HWO.out hi (HT.out.below hb1)).mono ?_
          rintro e w9 ⟨rfl, hb2⟩
          replace hi := hi.next hb2; replace hb1 := below_onto hb1 hb2; clear hb2
          go_wp2_with fail
          refine (AgainstOf_val _ _ _ f C (x) true _ HN1.out HO1.out hi (HT.out.below hb1)).mono ?_
          rintro e w9 ⟨rfl, hb2⟩
          replace hi := hi.next hb2; replace hb1 := below_onto hb1 hb2; clear hb2
          go_wp2_with fail
          refine (OverlapOk_val _ _ _ f x C false _ HO.out hi).mono ?_
          rintro e w9 ⟨rfl, hb2⟩
          replace hi := hi.next hb2; replace hb1 := below_onto hb1 hb2; clear hb2
          go_wp2_with fail
          go_ret
          exact ⟨rfl, hb1⟩
end Go.Proofs.YtchdbjmmcbmglaaDoor
