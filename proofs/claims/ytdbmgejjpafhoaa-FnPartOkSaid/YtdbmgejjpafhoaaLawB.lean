import Derived.Test.YtdbmgejjpafhoaaLawA
import Derived.Test.YtdbmgejjpafhoaaSpecWholes
namespace Go.Proofs.Ytdbmgejjpafhoaa
open Go.RowKit

theorem part_self {n : Nat} {f : Nat → Int} (h64 : ∀ i, i < n → I64 (f i)) {x : Int} (h : good1 n f x = true) : partB n f x x = true := by rw [partB_self n f x h64]; exact h
theorem part_trans {n : Nat} {f : Nat → Int} (h64 : ∀ i, i < n → I64 (f i)) {x y z : Int} (h : partB n f x y = true) (k : partB n f y z = true) : partB n f x z = true := by
  obtain ⟨hw, hx, hy, hh⟩ := part_facts h
  obtain ⟨_, _, hz, hk⟩ := part_facts k
  have hP := (worldB_iff n f h64).1 hw
  have h3 := hP.trans z.toNat (by omega) y.toNat (by omega) hk x.toNat hh
  unfold partB; rw [h3, (good2_iff n f x z).2 ⟨hw, hx, hz⟩]; rfl

theorem over_iff {n : Nat} {f : Nat → Int} (h64 : ∀ i, i < n → I64 (f i)) {x y : Int} (hg : good2 n f x y = true) : overB n f x y = true ↔ ∃ i, i < n ∧ hasB (f x.toNat) i = true ∧ hasB (f y.toNat) i = true := by
  obtain ⟨hw, hx, hy⟩ := (good2_iff n f x y).1 hg
  have hP := (worldB_iff n f h64).1 hw
  unfold overB; rw [hg, Bool.true_and, bne_iff_ne]
  constructor
  · intro h
    apply Classical.byContradiction; intro hno
    apply h
    rw [and_zero_iff]
    intro i hi h1
    cases h2 : hasB (f y.toNat) i with
    | false => rfl
    | true => exact absurd ⟨i, hasB_lt (hP.rng x.toNat (by omega)) h1, h1, h2⟩ hno
  · rintro ⟨i, hi, h1, h2⟩ h
    rw [and_zero_iff] at h
    have := h i (by have := hP.hi; omega) h1
    rw [h2] at this; cases this

theorem over_good {n : Nat} {f : Nat → Int} {x y : Int} (h : overB n f x y = true) : good2 n f x y = true := by
  unfold overB at h; rw [Bool.and_eq_true] at h; exact h.1

theorem over_symm {n : Nat} {f : Nat → Int} (x y : Int) : overB n f x y = overB n f y x := by
  have hg : good2 n f x y = good2 n f y x := by
    rw [Bool.eq_iff_iff, good2_iff, good2_iff]
    exact ⟨fun ⟨a, b, c⟩ => ⟨a, c, b⟩, fun ⟨a, b, c⟩ => ⟨a, c, b⟩⟩
  have ha : andI (f x.toNat) (f y.toNat) = andI (f y.toNat) (f x.toNat) := by
    apply ext64 _ _ (andI_I64 _ _) (andI_I64 _ _)
    intro i hi; rw [and_bit _ _ _ hi, and_bit _ _ _ hi, Bool.and_comm]
  unfold overB; rw [hg, ha]

theorem over_whole {n : Nat} {f : Nat → Int} (h64 : ∀ i, i < n → I64 (f i)) {x y z : Int} (h : overB n f x y = true) (k : partB n f y z = true) : overB n f x z = true := by
  obtain ⟨hw, hy, hz, hk⟩ := part_facts k
  have hP := (worldB_iff n f h64).1 hw
  have hg := over_good h
  have hx := ((good2_iff n f x y).1 hg).2.1
  have hg2 : good2 n f x z = true := (good2_iff n f x z).2 ⟨hw, hx, hz⟩
  obtain ⟨i, hi, h1, h2⟩ := (over_iff h64 hg).1 h
  exact (over_iff h64 hg2).2 ⟨i, hi, h1, hP.trans z.toNat (by omega) y.toNat (by omega) hk i h2⟩

theorem part_over {n : Nat} {f : Nat → Int} (h64 : ∀ i, i < n → I64 (f i)) {x y : Int} (h : partB n f x y = true) : overB n f x y = true := by
  obtain ⟨hw, hx, hy, hh⟩ := part_facts h
  have hP := (worldB_iff n f h64).1 hw
  exact (over_iff h64 ((good2_iff n f x y).2 ⟨hw, hx, hy⟩)).2 ⟨x.toNat, by omega, hP.self x.toNat (by omega), hh⟩

set_option maxHeartbeats 8000000 in
theorem lawPartOk (a : Option Addr) (n cap : Nat) (w : World) (h : BytesIn w a n cap) :
    Calls Try.prog 4 #[.slice a n cap] w (TrueEnd w) := by
  have hlen := h.len
  have H := Lib.hid h; clear h
  by_cases hn : 1048576 < n
  · go_enter Try.func4, Try.ntmps4
    go_wp2_with fail
    go_ret
    exact ⟨rfl, Below.refl _ _⟩
  · go_enter Try.func4, Try.ntmps4
    go_wp2_with fail
    refine (DrawPartOk_any _ _ _ _ H.out).mono ?_
    rintro e w1 ⟨d, m, c, f, x, y, rfl, hm, hx64, hy64, hi, hb1⟩
    have h64 := Lib.hid hi.i64
    obtain ⟨hx1, hx2⟩ := hx64
    obtain ⟨hy1, hy2⟩ := hy64
    cases hw : worldB m f with
    | false =>
      have hfin : partB m f x y = false := by unfold partB good2; rw [hw]; rfl
      have HP := Lib.hid hfin; have HW := Lib.hid hw; clear hfin hw
      go_wp2_with fail
      refine (PartOk_val _ _ _ f x y false _ HP.out hi).mono ?_
      rintro e w9 ⟨rfl, hb2⟩
      replace hi := hi.next hb2; replace hb1 := below_onto hb1 hb2; clear hb2
      go_wp2_with fail
      refine (specPartOk_val _ _ _ f x y false _ HP.out hi).mono ?_
      rintro e w9 ⟨rfl, hd3⟩
      replace hi := hi.drew hd3; replace hb1 := below_onto hb1 hd3.below; clear hd3
      go_wp2_with fail
      refine (specWorldOk_val _ _ _ f false _ HW.out hi).mono ?_
      rintro e w9 ⟨rfl, hd3⟩
      replace hi := hi.drew hd3; replace hb1 := below_onto hb1 hd3.below; clear hd3
      go_wp2_with fail
      refine (alive_any _).mono ?_
      rintro e w9 ⟨rfl, hb2⟩
      replace hb1 := below_onto hb1 hb2; clear hb2
      go_wp2_with fail
      go_ret
      exact ⟨rfl, hb1⟩
    | true =>
      have HW := Lib.hid hw; clear hw
      by_cases h1 : x < 0
      · have hfin : partB m f x y = false := by unfold partB; rw [partB_no (fun h => by omega)]; rfl
        have HP := Lib.hid hfin; clear hfin
        have e0 : decide (x < 0) = true := by simp; omega
        go_wp2_with fail
        refine (PartOk_val _ _ _ f x y false _ HP.out hi).mono ?_
        rintro e w9 ⟨rfl, hb2⟩
        replace hi := hi.next hb2; replace hb1 := below_onto hb1 hb2; clear hb2
        go_wp2_with fail
        refine (specPartOk_val _ _ _ f x y false _ HP.out hi).mono ?_
        rintro e w9 ⟨rfl, hd3⟩
        replace hi := hi.drew hd3; replace hb1 := below_onto hb1 hd3.below; clear hd3
        go_wp2_with fail
        refine (specWorldOk_val _ _ _ f true _ HW.out hi).mono ?_
        rintro e w9 ⟨rfl, hd3⟩
        replace hi := hi.drew hd3; replace hb1 := below_onto hb1 hd3.below; clear hd3
        go_wp2_with fail
        refine (alive_any _).mono ?_
        rintro e w9 ⟨rfl, hb2⟩
        replace hb1 := below_onto hb1 hb2; clear hb2
        go_wp2_with fail
        go_ret
        exact ⟨rfl, hb1⟩
      by_cases h2 : y < 0
      · have hfin : partB m f x y = false := by unfold partB; rw [partB_no (fun h => by omega)]; rfl
        have HP := Lib.hid hfin; clear hfin
        have e0 : decide (x < 0) = false := by simp; omega
        have e1 : decide (y < 0) = true := by simp; omega
        go_wp2_with fail
        refine (PartOk_val _ _ _ f x y false _ HP.out hi).mono ?_
        rintro e w9 ⟨rfl, hb2⟩
        replace hi := hi.next hb2; replace hb1 := below_onto hb1 hb2; clear hb2
        go_wp2_with fail
        refine (specPartOk_val _ _ _ f x y false _ HP.out hi).mono ?_
        rintro e w9 ⟨rfl, hd3⟩
        replace hi := hi.drew hd3; replace hb1 := below_onto hb1 hd3.below; clear hd3
        go_wp2_with fail
        refine (specWorldOk_val _ _ _ f true _ HW.out hi).mono ?_
        rintro e w9 ⟨rfl, hd3⟩
        replace hi := hi.drew hd3; replace hb1 := below_onto hb1 hd3.below; clear hd3
        go_wp2_with fail
        refine (alive_any _).mono ?_
        rintro e w9 ⟨rfl, hb2⟩
        replace hb1 := below_onto hb1 hb2; clear hb2
        go_wp2_with fail
        go_ret
        exact ⟨rfl, hb1⟩
      by_cases h3 : (m : Int) ≤ x
      · have hfin : partB m f x y = false := by unfold partB; rw [partB_no (fun h => by omega)]; rfl
        have HP := Lib.hid hfin; clear hfin
        have e0 : decide (x < 0) = false := by simp; omega
        have e1 : decide (y < 0) = false := by simp; omega
        have e2 : decide ((m : Int) ≤ x) = true := by simp; omega
        go_wp2_with fail
        refine (PartOk_val _ _ _ f x y false _ HP.out hi).mono ?_
        rintro e w9 ⟨rfl, hb2⟩
        replace hi := hi.next hb2; replace hb1 := below_onto hb1 hb2; clear hb2
        go_wp2_with fail
        refine (specPartOk_val _ _ _ f x y false _ HP.out hi).mono ?_
        rintro e w9 ⟨rfl, hd3⟩
        replace hi := hi.drew hd3; replace hb1 := below_onto hb1 hd3.below; clear hd3
        go_wp2_with fail
        refine (specWorldOk_val _ _ _ f true _ HW.out hi).mono ?_
        rintro e w9 ⟨rfl, hd3⟩
        replace hi := hi.drew hd3; replace hb1 := below_onto hb1 hd3.below; clear hd3
        go_wp2_with fail
        refine (alive_any _).mono ?_
        rintro e w9 ⟨rfl, hb2⟩
        replace hb1 := below_onto hb1 hb2; clear hb2
        go_wp2_with fail
        go_ret
        exact ⟨rfl, hb1⟩
      by_cases h4 : (m : Int) ≤ y
      · have hfin : partB m f x y = false := by unfold partB; rw [partB_no (fun h => by omega)]; rfl
        have HP := Lib.hid hfin; clear hfin
        have e0 : decide (x < 0) = false := by simp; omega
        have e1 : decide (y < 0) = false := by simp; omega
        have e2 : decide ((m : Int) ≤ x) = false := by simp; omega
        have e3 : decide ((m : Int) ≤ y) = true := by simp; omega
        go_wp2_with fail
        refine (PartOk_val _ _ _ f x y false _ HP.out hi).mono ?_
        rintro e w9 ⟨rfl, hb2⟩
        replace hi := hi.next hb2; replace hb1 := below_onto hb1 hb2; clear hb2
        go_wp2_with fail
        refine (specPartOk_val _ _ _ f x y false _ HP.out hi).mono ?_
        rintro e w9 ⟨rfl, hd3⟩
        replace hi := hi.drew hd3; replace hb1 := below_onto hb1 hd3.below; clear hd3
        go_wp2_with fail
        refine (specWorldOk_val _ _ _ f true _ HW.out hi).mono ?_
        rintro e w9 ⟨rfl, hd3⟩
        replace hi := hi.drew hd3; replace hb1 := below_onto hb1 hd3.below; clear hd3
        go_wp2_with fail
        refine (alive_any _).mono ?_
        rintro e w9 ⟨rfl, hb2⟩
        replace hb1 := below_onto hb1 hb2; clear hb2
        go_wp2_with fail
        go_ret
        exact ⟨rfl, hb1⟩
      have e0 : decide (x < 0) = false := by simp; omega
      have e1 : decide (y < 0) = false := by simp; omega
      have e2 : decide ((m : Int) ≤ x) = false := by simp; omega
      have e3 : decide ((m : Int) ≤ y) = false := by simp; omega
      have HG := Lib.hid ((good2_iff m f x y).2 ⟨HW.out, ⟨by omega, by omega⟩, by omega, by omega⟩)
      have HX := Lib.hid ((good1_iff m f x).2 ⟨HW.out, by omega, by omega⟩)
      cases hp : partB m f x y with
      | false =>
        have HP := Lib.hid hp; clear hp
        go_wp2_with fail
        refine (PartOk_val _ _ _ f x y false _ HP.out hi).mono ?_
        rintro e w9 ⟨rfl, hb2⟩
        replace hi := hi.next hb2; replace hb1 := below_onto hb1 hb2; clear hb2
        go_wp2_with fail
        refine (specPartOk_val _ _ _ f x y false _ HP.out hi).mono ?_
        rintro e w9 ⟨rfl, hd3⟩
        replace hi := hi.drew hd3; replace hb1 := below_onto hb1 hd3.below; clear hd3
        go_wp2_with fail
        refine (specWorldOk_val _ _ _ f true _ HW.out hi).mono ?_
        rintro e w9 ⟨rfl, hd3⟩
        replace hi := hi.drew hd3; replace hb1 := below_onto hb1 hd3.below; clear hd3
        go_wp2_with fail
        go_loopw [7] (fun i wr => i = .int .i64 0 ∧ Ints wr d m f ∧ Below w.heap.size w wr) (fun _ _ => 0)
        case atStart => exact ⟨rfl, hi, hb1⟩
        case round =>
          clear hi hb1
          obtain ⟨rfl, hi, hb1⟩ := hrel
          go_wp2_with fail
          refine (PartOk_val _ _ _ f x x true _ (part_self h64.out HX.out) hi).mono ?_
          rintro e w9 ⟨rfl, hb2⟩
          replace hi := hi.next hb2; replace hb1 := below_onto hb1 hb2; clear hb2
          go_wp2_with fail
          go_ret
          exact ⟨rfl, hb1⟩
      | true =>
        have HP := Lib.hid hp; clear hp
        go_wp2_with fail
        refine (PartOk_val _ _ _ f x y true _ HP.out hi).mono ?_
        rintro e w9 ⟨rfl, hb2⟩
        replace hi := hi.next hb2; replace hb1 := below_onto hb1 hb2; clear hb2
        go_wp2_with fail
        refine (specPartOk_val _ _ _ f x y true _ HP.out hi).mono ?_
        rintro e w9 ⟨rfl, hd3⟩
        replace hi := hi.drew hd3; replace hb1 := below_onto hb1 hd3.below; clear hd3
        go_wp2_with fail
        refine (specWorldOk_val _ _ _ f true _ HW.out hi).mono ?_
        rintro e w9 ⟨rfl, hd3⟩
        replace hi := hi.drew hd3; replace hb1 := below_onto hb1 hd3.below; clear hd3
        go_wp2_with fail
        go_loopw [7] (fun i wr => ∃ k : Nat, k ≤ m ∧ i = .int .i64 k ∧ Ints wr d m f ∧ Below w.heap.size w wr) (fun i _ => m - (intOf i).toNat)
        case atStart => exact ⟨0, Nat.zero_le _, rfl, hi, hb1⟩
        case round =>
          clear hi hb1
          obtain ⟨k, hk, rfl, hi, hb1⟩ := hrel
          by_cases hlt : k < m
          · cases hc : partB m f k x with
            | true =>
              have HC := Lib.hid hc; clear hc
              go_wp2_with fail
              refine (PartOk_val _ _ _ f k x true _ HC.out hi).mono ?_
              rintro e w9 ⟨rfl, hb2⟩
              replace hi := hi.next hb2; replace hb1 := below_onto hb1 hb2; clear hb2
              go_wp2_with fail
              refine (PartOk_val _ _ _ f k y true _ (part_trans h64.out HC.out HP.out) hi).mono ?_
              rintro e w9 ⟨rfl, hb2⟩
              replace hi := hi.next hb2; replace hb1 := below_onto hb1 hb2; clear hb2
              go_wp2_with fail
              go_roundw
              case rel => exact ⟨k + 1, by omega, by go_num, hi, hb1⟩
              case measure => simp [intOf]; omega
            | false =>
              have HC := Lib.hid hc; clear hc
              go_wp2_with fail
              refine (PartOk_val _ _ _ f k x false _ HC.out hi).mono ?_
              rintro e w9 ⟨rfl, hb2⟩
              replace hi := hi.next hb2; replace hb1 := below_onto hb1 hb2; clear hb2
              go_wp2_with fail
              go_roundw
              case rel => exact ⟨k + 1, by omega, by go_num, hi, hb1⟩
              case measure => simp [intOf]; omega
          · by_cases hxy : x = y
            · have hq : (x == y) = true := by rw [beq_iff_eq]; exact hxy
              have HXY := Lib.hid hxy; clear hxy
              go_wp2_with fail
              refine (PartOk_val _ _ _ f x x true _ (part_self h64.out HX.out) hi).mono ?_
              rintro e w9 ⟨rfl, hb2⟩
              replace hi := hi.next hb2; replace hb1 := below_onto hb1 hb2; clear hb2
              go_wp2_with fail
              go_ret
              exact ⟨rfl, hb1⟩
            · have hq : (x == y) = false := by rw [beq_eq_false_iff_ne]; exact hxy
              have HXY := Lib.hid hxy; clear hxy
              go_wp2_with fail
              refine (PartOk_val _ _ _ f x x true _ (part_self h64.out HX.out) hi).mono ?_
              rintro e w9 ⟨rfl, hb2⟩
              replace hi := hi.next hb2; replace hb1 := below_onto hb1 hb2; clear hb2
              go_wp2_with fail
              refine (PartOk_val _ _ _ f y x false _ (part_anti h64.out HP.out HXY.out) hi).mono ?_
              rintro e w9 ⟨rfl, hb2⟩
              replace hi := hi.next hb2; replace hb1 := below_onto hb1 hb2; clear hb2
              go_wp2_with fail
              go_ret
              exact ⟨rfl, hb1⟩

set_option maxHeartbeats 8000000 in
theorem lawOverlapOk (a : Option Addr) (n cap : Nat) (w : World) (h : BytesIn w a n cap) :
    Calls Try.prog 6 #[.slice a n cap] w (TrueEnd w) := by
  have hlen := h.len
  have H := Lib.hid h; clear h
  by_cases hn : 1048576 < n
  · go_enter Try.func6, Try.ntmps6
    go_wp2_with fail
    go_ret
    exact ⟨rfl, Below.refl _ _⟩
  · go_enter Try.func6, Try.ntmps6
    go_wp2_with fail
    refine (DrawOverlapOk_any _ _ _ _ H.out).mono ?_
    rintro e w1 ⟨d, m, c, f, x, y, rfl, hm, hx64, hy64, hi, hb1⟩
    have h64 := Lib.hid hi.i64
    obtain ⟨hx1, hx2⟩ := hx64
    obtain ⟨hy1, hy2⟩ := hy64
    cases hw : worldB m f with
    | false =>
      have hfin : overB m f x y = false := by unfold overB good2; rw [hw]; rfl
      have HP := Lib.hid hfin; have HW := Lib.hid hw; clear hfin hw
      go_wp2_with fail
      refine (OverlapOk_val _ _ _ f x y false _ HP.out hi).mono ?_
      rintro e w9 ⟨rfl, hb2⟩
      replace hi := hi.next hb2; replace hb1 := below_onto hb1 hb2; clear hb2
      go_wp2_with fail
      refine (specOverlapOk_val _ _ _ f x y false _ HP.out hi).mono ?_
      rintro e w9 ⟨rfl, hd3⟩
      replace hi := hi.drew hd3; replace hb1 := below_onto hb1 hd3.below; clear hd3
      go_wp2_with fail
      refine (specWorldOk_val _ _ _ f false _ HW.out hi).mono ?_
      rintro e w9 ⟨rfl, hd3⟩
      replace hi := hi.drew hd3; replace hb1 := below_onto hb1 hd3.below; clear hd3
      go_wp2_with fail
      refine (alive_any _).mono ?_
      rintro e w9 ⟨rfl, hb2⟩
      replace hb1 := below_onto hb1 hb2; clear hb2
      go_wp2_with fail
      go_ret
      exact ⟨rfl, hb1⟩
    | true =>
      have HW := Lib.hid hw; clear hw
      by_cases h1 : x < 0
      · have hfin : overB m f x y = false := by unfold overB; rw [partB_no (fun h => by omega)]; rfl
        have HP := Lib.hid hfin; clear hfin
        have e0 : decide (x < 0) = true := by simp; omega
        go_wp2_with fail
        refine (OverlapOk_val _ _ _ f x y false _ HP.out hi).mono ?_
        rintro e w9 ⟨rfl, hb2⟩
        replace hi := hi.next hb2; replace hb1 := below_onto hb1 hb2; clear hb2
        go_wp2_with fail
        refine (specOverlapOk_val _ _ _ f x y false _ HP.out hi).mono ?_
        rintro e w9 ⟨rfl, hd3⟩
        replace hi := hi.drew hd3; replace hb1 := below_onto hb1 hd3.below; clear hd3
        go_wp2_with fail
        refine (specWorldOk_val _ _ _ f true _ HW.out hi).mono ?_
        rintro e w9 ⟨rfl, hd3⟩
        replace hi := hi.drew hd3; replace hb1 := below_onto hb1 hd3.below; clear hd3
        go_wp2_with fail
        refine (alive_any _).mono ?_
        rintro e w9 ⟨rfl, hb2⟩
        replace hb1 := below_onto hb1 hb2; clear hb2
        go_wp2_with fail
        go_ret
        exact ⟨rfl, hb1⟩
      by_cases h2 : y < 0
      · have hfin : overB m f x y = false := by unfold overB; rw [partB_no (fun h => by omega)]; rfl
        have HP := Lib.hid hfin; clear hfin
        have e0 : decide (x < 0) = false := by simp; omega
        have e1 : decide (y < 0) = true := by simp; omega
        go_wp2_with fail
        refine (OverlapOk_val _ _ _ f x y false _ HP.out hi).mono ?_
        rintro e w9 ⟨rfl, hb2⟩
        replace hi := hi.next hb2; replace hb1 := below_onto hb1 hb2; clear hb2
        go_wp2_with fail
        refine (specOverlapOk_val _ _ _ f x y false _ HP.out hi).mono ?_
        rintro e w9 ⟨rfl, hd3⟩
        replace hi := hi.drew hd3; replace hb1 := below_onto hb1 hd3.below; clear hd3
        go_wp2_with fail
        refine (specWorldOk_val _ _ _ f true _ HW.out hi).mono ?_
        rintro e w9 ⟨rfl, hd3⟩
        replace hi := hi.drew hd3; replace hb1 := below_onto hb1 hd3.below; clear hd3
        go_wp2_with fail
        refine (alive_any _).mono ?_
        rintro e w9 ⟨rfl, hb2⟩
        replace hb1 := below_onto hb1 hb2; clear hb2
        go_wp2_with fail
        go_ret
        exact ⟨rfl, hb1⟩
      by_cases h3 : (m : Int) ≤ x
      · have hfin : overB m f x y = false := by unfold overB; rw [partB_no (fun h => by omega)]; rfl
        have HP := Lib.hid hfin; clear hfin
        have e0 : decide (x < 0) = false := by simp; omega
        have e1 : decide (y < 0) = false := by simp; omega
        have e2 : decide ((m : Int) ≤ x) = true := by simp; omega
        go_wp2_with fail
        refine (OverlapOk_val _ _ _ f x y false _ HP.out hi).mono ?_
        rintro e w9 ⟨rfl, hb2⟩
        replace hi := hi.next hb2; replace hb1 := below_onto hb1 hb2; clear hb2
        go_wp2_with fail
        refine (specOverlapOk_val _ _ _ f x y false _ HP.out hi).mono ?_
        rintro e w9 ⟨rfl, hd3⟩
        replace hi := hi.drew hd3; replace hb1 := below_onto hb1 hd3.below; clear hd3
        go_wp2_with fail
        refine (specWorldOk_val _ _ _ f true _ HW.out hi).mono ?_
        rintro e w9 ⟨rfl, hd3⟩
        replace hi := hi.drew hd3; replace hb1 := below_onto hb1 hd3.below; clear hd3
        go_wp2_with fail
        refine (alive_any _).mono ?_
        rintro e w9 ⟨rfl, hb2⟩
        replace hb1 := below_onto hb1 hb2; clear hb2
        go_wp2_with fail
        go_ret
        exact ⟨rfl, hb1⟩
      by_cases h4 : (m : Int) ≤ y
      · have hfin : overB m f x y = false := by unfold overB; rw [partB_no (fun h => by omega)]; rfl
        have HP := Lib.hid hfin; clear hfin
        have e0 : decide (x < 0) = false := by simp; omega
        have e1 : decide (y < 0) = false := by simp; omega
        have e2 : decide ((m : Int) ≤ x) = false := by simp; omega
        have e3 : decide ((m : Int) ≤ y) = true := by simp; omega
        go_wp2_with fail
        refine (OverlapOk_val _ _ _ f x y false _ HP.out hi).mono ?_
        rintro e w9 ⟨rfl, hb2⟩
        replace hi := hi.next hb2; replace hb1 := below_onto hb1 hb2; clear hb2
        go_wp2_with fail
        refine (specOverlapOk_val _ _ _ f x y false _ HP.out hi).mono ?_
        rintro e w9 ⟨rfl, hd3⟩
        replace hi := hi.drew hd3; replace hb1 := below_onto hb1 hd3.below; clear hd3
        go_wp2_with fail
        refine (specWorldOk_val _ _ _ f true _ HW.out hi).mono ?_
        rintro e w9 ⟨rfl, hd3⟩
        replace hi := hi.drew hd3; replace hb1 := below_onto hb1 hd3.below; clear hd3
        go_wp2_with fail
        refine (alive_any _).mono ?_
        rintro e w9 ⟨rfl, hb2⟩
        replace hb1 := below_onto hb1 hb2; clear hb2
        go_wp2_with fail
        go_ret
        exact ⟨rfl, hb1⟩
      have e0 : decide (x < 0) = false := by simp; omega
      have e1 : decide (y < 0) = false := by simp; omega
      have e2 : decide ((m : Int) ≤ x) = false := by simp; omega
      have e3 : decide ((m : Int) ≤ y) = false := by simp; omega
      have HG := Lib.hid ((good2_iff m f x y).2 ⟨HW.out, ⟨by omega, by omega⟩, by omega, by omega⟩)
      have HX := Lib.hid ((good1_iff m f x).2 ⟨HW.out, by omega, by omega⟩)
      cases hp : overB m f x y with
      | false =>
        have HP := Lib.hid hp; clear hp
        have hpp : partB m f x y = false := by
          cases h : partB m f x y with
          | false => rfl
          | true => have := part_over h64.out h; rw [HP.out] at this; cases this
        have HPP := Lib.hid hpp; clear hpp
        go_wp2_with fail
        refine (OverlapOk_val _ _ _ f x y false _ HP.out hi).mono ?_
        rintro e w9 ⟨rfl, hb2⟩
        replace hi := hi.next hb2; replace hb1 := below_onto hb1 hb2; clear hb2
        go_wp2_with fail
        refine (specOverlapOk_val _ _ _ f x y false _ HP.out hi).mono ?_
        rintro e w9 ⟨rfl, hd3⟩
        replace hi := hi.drew hd3; replace hb1 := below_onto hb1 hd3.below; clear hd3
        go_wp2_with fail
        refine (specWorldOk_val _ _ _ f true _ HW.out hi).mono ?_
        rintro e w9 ⟨rfl, hd3⟩
        replace hi := hi.drew hd3; replace hb1 := below_onto hb1 hd3.below; clear hd3
        go_wp2_with fail
        go_loopw [7] (fun i wr => i = .int .i64 0 ∧ Ints wr d m f ∧ Below w.heap.size w wr) (fun _ _ => 0)
        case atStart => exact ⟨rfl, hi, hb1⟩
        case round =>
          clear hi hb1
          obtain ⟨rfl, hi, hb1⟩ := hrel
          go_wp2_with fail
          refine (OverlapOk_val _ _ _ f y x false _ (by rw [over_symm]; exact HP.out) hi).mono ?_
          rintro e w9 ⟨rfl, hb2⟩
          replace hi := hi.next hb2; replace hb1 := below_onto hb1 hb2; clear hb2
          go_wp2_with fail
          refine (PartOk_val _ _ _ f x y false _ HPP.out hi).mono ?_
          rintro e w9 ⟨rfl, hb2⟩
          replace hi := hi.next hb2; replace hb1 := below_onto hb1 hb2; clear hb2
          go_wp2_with fail
          go_ret
          exact ⟨rfl, hb1⟩
      | true =>
        have HP := Lib.hid hp; clear hp
        go_wp2_with fail
        refine (OverlapOk_val _ _ _ f x y true _ HP.out hi).mono ?_
        rintro e w9 ⟨rfl, hb2⟩
        replace hi := hi.next hb2; replace hb1 := below_onto hb1 hb2; clear hb2
        go_wp2_with fail
        refine (specOverlapOk_val _ _ _ f x y true _ HP.out hi).mono ?_
        rintro e w9 ⟨rfl, hd3⟩
        replace hi := hi.drew hd3; replace hb1 := below_onto hb1 hd3.below; clear hd3
        go_wp2_with fail
        refine (specWorldOk_val _ _ _ f true _ HW.out hi).mono ?_
        rintro e w9 ⟨rfl, hd3⟩
        replace hi := hi.drew hd3; replace hb1 := below_onto hb1 hd3.below; clear hd3
        go_wp2_with fail
        go_loopw [7] (fun i wr => ∃ k : Nat, k ≤ m ∧ i = .int .i64 k ∧ Ints wr d m f ∧ Below w.heap.size w wr) (fun i _ => m - (intOf i).toNat)
        case atStart => exact ⟨0, Nat.zero_le _, rfl, hi, hb1⟩
        case round =>
          clear hi hb1
          obtain ⟨k, hk, rfl, hi, hb1⟩ := hrel
          by_cases hlt : k < m
          · cases hc : partB m f y k with
            | true =>
              have HC := Lib.hid hc; clear hc
              go_wp2_with fail
              refine (PartOk_val _ _ _ f y k true _ HC.out hi).mono ?_
              rintro e w9 ⟨rfl, hb2⟩
              replace hi := hi.next hb2; replace hb1 := below_onto hb1 hb2; clear hb2
              go_wp2_with fail
              refine (OverlapOk_val _ _ _ f x k true _ (over_whole h64.out HP.out HC.out) hi).mono ?_
              rintro e w9 ⟨rfl, hb2⟩
              replace hi := hi.next hb2; replace hb1 := below_onto hb1 hb2; clear hb2
              go_wp2_with fail
              go_roundw
              case rel => exact ⟨k + 1, by omega, by go_num, hi, hb1⟩
              case measure => simp [intOf]; omega
            | false =>
              have HC := Lib.hid hc; clear hc
              go_wp2_with fail
              refine (PartOk_val _ _ _ f y k false _ HC.out hi).mono ?_
              rintro e w9 ⟨rfl, hb2⟩
              replace hi := hi.next hb2; replace hb1 := below_onto hb1 hb2; clear hb2
              go_wp2_with fail
              go_roundw
              case rel => exact ⟨k + 1, by omega, by go_num, hi, hb1⟩
              case measure => simp [intOf]; omega
          · cases hpp : partB m f x y with
            | true =>
              have HPP := Lib.hid hpp; clear hpp
              go_wp2_with fail
              refine (OverlapOk_val _ _ _ f y x true _ (by rw [over_symm]; exact HP.out) hi).mono ?_
              rintro e w9 ⟨rfl, hb2⟩
              replace hi := hi.next hb2; replace hb1 := below_onto hb1 hb2; clear hb2
              go_wp2_with fail
              refine (PartOk_val _ _ _ f x y true _ HPP.out hi).mono ?_
              rintro e w9 ⟨rfl, hb2⟩
              replace hi := hi.next hb2; replace hb1 := below_onto hb1 hb2; clear hb2
              go_wp2_with fail
              go_ret
              exact ⟨rfl, hb1⟩
            | false =>
              have HPP := Lib.hid hpp; clear hpp
              go_wp2_with fail
              refine (OverlapOk_val _ _ _ f y x true _ (by rw [over_symm]; exact HP.out) hi).mono ?_
              rintro e w9 ⟨rfl, hb2⟩
              replace hi := hi.next hb2; replace hb1 := below_onto hb1 hb2; clear hb2
              go_wp2_with fail
              refine (PartOk_val _ _ _ f x y false _ HPP.out hi).mono ?_
              rintro e w9 ⟨rfl, hb2⟩
              replace hi := hi.next hb2; replace hb1 := below_onto hb1 hb2; clear hb2
              go_wp2_with fail
              go_ret
              exact ⟨rfl, hb1⟩
end Go.Proofs.Ytdbmgejjpafhoaa
