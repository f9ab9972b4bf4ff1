import Derived.Test.YtacoeaoaabjkoaaPcD
import Derived.Test.YtacoeaoaabjkoaaLaw8M
namespace Go.Proofs.Ytacoeaoaabjkoaa
open Go.RowKit

/-- the greater part of a cut -/
def Cut (S x : Nat) : Prop := x &&& S = x ∧ x < S ∧ S - x < x
abbrev Ct (S : Nat) := { x : Nat // Cut S x }
def nxtA : Bool := (List.range 128).all (fun S => (List.range 128).all (fun x => !(x &&& S == x) || (List.range x).all (fun y => !(y &&& S == y) || Nat.ble y ((x - 1) &&& S))))
theorem nxt_all : nxtA = true := by kernel_rfl
theorem nxt_max {S x y : Nat} (hS : S < 128) (hx : x &&& S = x) (hxS : x ≤ S) (hy : y &&& S = y) (hyx : y < x) : y ≤ (x - 1) &&& S := by
  have hk := nxt_all
  unfold nxtA at hk
  rw [List.all_eq_true] at hk
  have h1 := hk S (List.mem_range.2 hS)
  rw [List.all_eq_true] at h1
  have h2 := h1 x (List.mem_range.2 (by omega))
  rw [Bool.or_eq_true, Bool.not_eq_true', beq_eq_false_iff_ne, List.all_eq_true] at h2
  rcases h2 with h2 | h2
  · exact absurd hx h2
  · have h3 := h2 y (List.mem_range.2 hyx)
    rw [Bool.or_eq_true, Bool.not_eq_true', beq_eq_false_iff_ne] at h3
    rcases h3 with h3 | h3
    · exact absurd hy h3
    · exact Nat.le_of_ble_eq_true h3
theorem nxt_in (S x : Nat) : ((x - 1) &&& S) &&& S = (x - 1) &&& S := by rw [Nat.and_assoc, Nat.and_self]
theorem nxt_le (S x : Nat) : (x - 1) &&& S ≤ x - 1 := Nat.and_le_left
theorem and_nat9 {A B : Nat} (hA : A < 128) : bits .and .i64 (A : Int) (B : Int) = ((A &&& B : Nat) : Int) := by
  have hle : A &&& B ≤ A := Nat.and_le_left
  refine ext64 _ _ (andI_I64 _ _) (by unfold I64; omega) (fun i hi => ?_)
  show hasB (andI _ _) i = _
  rw [and_bit _ _ _ hi, hasB_nat, hasB_nat, hasB_nat, Nat.testBit_and]
theorem sub9 {S x : Nat} (hS : S < 128) (hx : x &&& S = x) : x ≤ S ∧ bits .andNot .i64 (S : Int) (x : Int) = ((S - x : Nat) : Int) ∧ ∀ i, i < 64 → hasB ((S - x : Nat) : Int) i = (hasB S i && !hasB x i) := by
  have hle : x ≤ S := by rw [← hx]; exact Nat.and_le_right
  have hsb := sub_bit (n := 7) (a := S) (s := x) (by omega) (by have : (2 : Int) ^ 7 = 128 := rfl; omega) (by have : (2 : Int) ^ 7 = 128 := rfl; omega) (fun i hi hb => by
    rw [hasB_nat] at hb ⊢
    rw [← hx, Nat.testBit_and, Bool.and_eq_true] at hb
    exact hb.2)
  have e : ((S : Int) - (x : Int)) = ((S - x : Nat) : Int) := by omega
  rw [e] at hsb
  refine ⟨hle, ?_, hsb.2⟩
  refine ext64 _ _ (andNot_I64 _ _) (by unfold I64; omega) (fun i hi => ?_)
  rw [andNot_bit _ _ _ hi, hsb.2 i hi]

section
variable {n : Nat} {f : Nat → Int} {S : Nat}
theorem thS (hT : ThP n f (S : Int)) : S < 128 := by
  have h1 := pow_bounds n hT.g.hi
  have h2 := hT.hi
  omega
theorem cut_touch (hT : ThP n f (S : Int)) (h : tgB n f S = true) {x : Nat} (hx : Cut S x) : (andI (gwI n f (x : Int)) ((S - x : Nat) : Int) != 0) = true := by
  have h7 := hT.g.hi
  obtain ⟨h1, h2, h3⟩ := hx
  obtain ⟨hle, _, hb⟩ := sub9 (thS hT) h1
  have hp := pow_bounds n h7
  have hSn := hT.hi
  have hsub : ∀ i, hasB (x : Int) i = true → hasB (S : Int) i = true := fun i hi => by
    rw [hasB_nat] at hi ⊢
    rw [← h1, Nat.testBit_and, Bool.and_eq_true] at hi
    exact hi.2
  rw [bne_iff_ne]
  refine tg_cut hT (fun i hi => ?_) ?_ ?_ h
  · rw [hb i hi]
    cases h4 : hasB (x : Int) i with
    | true => rw [hsub i h4]; rfl
    | false => simp
  · exact some_bit8 h7 ⟨by omega, by omega⟩
  · obtain ⟨i, hi, hbi⟩ := some_bit8 (n := n) (s := ((S - x : Nat) : Int)) h7 ⟨by omega, by omega⟩
    refine ⟨i, hi, hbi, ?_⟩
    rw [hb i (by omega), Bool.and_eq_true, Bool.not_eq_true'] at hbi
    exact hbi.2
theorem cut_none (hT : ThP n f (S : Int)) (h : tgB n f S = false) : ∃ x, Cut S x ∧ (andI (gwI n f (x : Int)) ((S - x : Nat) : Int) != 0) = false := by
  have h7 := hT.g.hi
  have hp := pow_bounds n h7
  have hSn := hT.hi
  obtain ⟨p, q, hpp, hqa, hnc⟩ := tg_no hT h
  have hrng := pc_rng hT hpp.1
  obtain ⟨c, hc⟩ := Int.eq_ofNat_of_zero_le (show 0 ≤ pcI n f S p by omega)
  have hqn := hT.lt hqa
  have hbit : ∀ i, i < 64 → (hasB (c : Int) i = true ↔ Cn n f S p i) := fun i hi => by rw [← hc]; exact pc_bit hT hpp.1 hi
  have hcS : c &&& S = c := by
    apply Nat.eq_of_testBit_eq
    intro i
    rw [Nat.testBit_and]
    cases h1 : c.testBit i with
    | false => rfl
    | true =>
      have hi : i < 64 := by
        apply Classical.byContradiction
        intro hge
        have := hasB_big (c : Int) n (by omega) (by omega) i (by omega)
        rw [hasB_nat, h1] at this; cases this
      rw [Bool.true_and, ← hasB_nat]
      exact ((hbit i hi).1 (by rw [hasB_nat]; exact h1)).in hT
  obtain ⟨hle, _, hsb⟩ := sub9 (thS hT) hcS
  have hqD : hasB ((S - c : Nat) : Int) q = true := by
    rw [hsb q (by omega), hqa, Bool.true_and, Bool.not_eq_true', Bool.eq_false_iff]
    intro hb; exact hnc ((hbit q (by omega)).1 hb)
  have hD0 : S - c ≠ 0 := by
    intro e
    rw [e] at hqD
    rw [show ((0 : Nat) : Int) = 0 from rfl, hasB_zero] at hqD; cases hqD
  have hz : andI (gwI n f (c : Int)) ((S - c : Nat) : Int) = 0 := by
    rw [← hc]
    refine pc_apart hT hpp.1 (fun i hi hb => ?_)
    rw [hsb i hi, Bool.and_eq_true, Bool.not_eq_true', Bool.eq_false_iff] at hb
    exact ⟨hb.1, fun hcn => hb.2 ((hbit i hi).2 hcn)⟩
  rcases Nat.lt_trichotomy (S - c) c with hlt | heq | hgt
  · exact ⟨c, ⟨hcS, by omega, hlt⟩, by rw [bne_eq_false_iff_eq]; exact hz⟩
  · exfalso
    obtain ⟨i, hi, hbi⟩ := some_bit8 (n := n) (s := (c : Int)) h7 ⟨by omega, by omega⟩
    have := hsb i (by omega)
    rw [heq, hbi] at this
    simp at this
  · have hDS : (S - c) &&& S = S - c := by
      apply Nat.eq_of_testBit_eq
      intro i
      rw [Nat.testBit_and]
      by_cases hi : i < 64
      · have := hsb i hi
        rw [hasB_nat, hasB_nat, hasB_nat] at this
        rw [this]
        cases S.testBit i <;> simp
      · have := hasB_big ((S - c : Nat) : Int) n (by omega) (by omega) i (by omega)
        rw [hasB_nat] at this
        rw [this]; rfl
    refine ⟨S - c, ⟨hDS, by omega, by omega⟩, ?_⟩
    rw [bne_eq_false_iff_eq, show S - (S - c) = c by omega]
    refine touch_swap hT.g (fun i hi hb => hasB_lt ⟨by omega, by omega⟩ hb) (fun i hi hb => hasB_lt ⟨by omega, by omega⟩ hb) hz
end

/-- the places without which it does not hang together -/
def ctI (n : Nat) (f : Nat → Int) (s : Int) (k : Nat) : Int := setOf (fun i => hasB s i && !tgB n f (bits .andNot .i64 s (2 ^ i))) k
theorem ctI_top {n : Nat} {f : Nat → Int} {s : Int} (hT : ThP n f s) : ctI n f s 7 = ctI n f s n := by
  have h7 := hT.g.hi
  apply ext64 _ _ (setOf_I64 _ _) (setOf_I64 _ _)
  intro i hi
  show hasB (setOf _ 7) i = hasB (setOf _ n) i
  rw [setOf_bit _ _ _ hi, setOf_bit _ _ _ hi]
  cases h : hasB s i with
  | true =>
    have := hT.lt h
    rw [decide_eq_true (show i < 7 by omega), decide_eq_true this]
  | false => simp
end Go.Proofs.Ytacoeaoaabjkoaa
