import Derived.Test.YtdbmgejjpafhoaaSpecWholes
import Derived.Test.YtdbmgejjpafhoaaExactB
namespace Go.Proofs.Ytdbmgejjpafhoaa
open Go.RowKit

/-- the greatest of the first numbers of a row, 0 at least -/
def maxTo (g : Nat → Int) : Nat → Int
  | 0 => 0
  | k + 1 => max (maxTo g k) (g k)

/-- how long a chain of proper parts may be that ends with a thing; so deep at most -/
def depth (n : Nat) (f : Nat → Int) : Nat → Nat → Int
  | 0, _ => 0
  | k + 1, b => maxTo (fun a => if neHas (f b) a b then depth n f k a else 0) n + 1

theorem maxTo_nonneg (g : Nat → Int) (k : Nat) : 0 ≤ maxTo g k := by
  induction k with
  | zero => exact Int.le_refl _
  | succ k ih => rw [maxTo]; omega

theorem maxTo_le (g : Nat → Int) (k : Nat) (m : Int) (hm : 0 ≤ m) (h : ∀ i, i < k → g i ≤ m) : maxTo g k ≤ m := by
  induction k with
  | zero => exact hm
  | succ k ih => rw [maxTo]; have := ih (fun i hi => h i (by omega)); have := h k (by omega); omega

theorem le_maxTo (g : Nat → Int) (k i : Nat) (h : i < k) : g i ≤ maxTo g k := by
  induction k with
  | zero => omega
  | succ k ih =>
    rw [maxTo]
    by_cases e : i = k
    · subst e; omega
    · have := ih (by omega); omega

theorem maxTo_congr {g h : Nat → Int} (k : Nat) (e : ∀ i, i < k → g i = h i) : maxTo g k = maxTo h k := by
  induction k with
  | zero => rfl
  | succ k ih => rw [maxTo, maxTo, ih (fun i hi => e i (by omega)), e k (by omega)]

theorem depth_bd (n : Nat) (f : Nat → Int) (k b : Nat) : 0 ≤ depth n f k b ∧ depth n f k b ≤ k := by
  induction k generalizing b with
  | zero => exact ⟨Int.le_refl _, Int.le_refl _⟩
  | succ k ih =>
    rw [depth]
    have h1 := maxTo_nonneg (fun a => if neHas (f b) a b then depth n f k a else 0) n
    have h2 := maxTo_le (fun a => if neHas (f b) a b then depth n f k a else 0) n k (by omega) (fun i _ => by
      show (if neHas (f b) i b then depth n f k i else 0) ≤ _
      split
      · exact (ih i).2
      · omega)
    omega

/-- a proper part's set is smaller -/
theorem proper_lt {n : Nat} {f : Nat → Int} (h : WorldP n f) {a b : Nat} (ha : a < n) (hb : b < n) (hp : neHas (f b) a b = true) : f a < f b := by
  unfold neHas at hp
  simp only [Bool.and_eq_true, decide_eq_true_eq] at hp
  obtain ⟨hne, hab⟩ := hp
  have hsub := h.trans b hb a ha hab
  have hnb := h.anti b hb a ha (fun e => hne e.symm) hab
  have hor : orI (f b) (f a) = f b := (or_eq_iff _ _ ⟨by have := h.rng b hb; omega, by
    have := h.rng b hb; have := pow_bounds n h.hi; omega⟩).2 (fun i _ hi => hsub i hi)
  have hra := h.rng a ha
  have hrb := h.rng b hb
  obtain ⟨A, hA⟩ := Int.eq_ofNat_of_zero_le hra.1
  obtain ⟨B, hB⟩ := Int.eq_ofNat_of_zero_le hrb.1
  have hle : A ≤ B := by
    have : B ||| A = B := by
      apply Nat.eq_of_testBit_eq
      intro i
      rw [Nat.testBit_or, ← hasB_nat, ← hasB_nat, ← hA, ← hB]
      cases hi : hasB (f a) i with
      | false => simp
      | true => rw [hsub i hi]; rfl
    have h2 : A ≤ B ||| A := Nat.right_le_or
    omega
  have hne2 : A ≠ B := by
    intro e
    have : f a = f b := by rw [hA, hB, e]
    rw [this, h.self b hb] at hnb
    cases hnb
  omega

set_option maxHeartbeats 800000 in
theorem chainTo_any (bk n cap : Nat) (f : Nat → Int) (hP : Hid (WorldP n f)) (hn : n ≤ 7) (k : Nat) : ∀ (b : Nat) (w : World), b < n → f b ≤ k → k ≤ 200 → Row w bk 0 n f →
    Calls Try.prog 54 #[.slice (some ⟨bk, 0, none⟩) n cap, .int .i64 b] w fun e w' => e = .returned (.int .i64 (depth n f k b)) ∧ w = w' := by
  induction k with
  | zero =>
    intro b w hb hfb _ _
    exfalso
    have h1 := hP.out.self b hb
    have h2 := (hP.out.rng b hb).1
    rw [show f b = 0 by omega, hasB_zero] at h1
    cases h1
  | succ k ih =>
    intro b w hb hfb hk hr
    have IH := Lib.hid ih; clear ih
    have hc := hr b hb
    go_enter Try.func54, Try.ntmps54
    go_wp2_with fail
    go_loop [5, 9] (fun v i => ∃ j : Nat, j ≤ n ∧ i = .int .i64 j ∧ v = .int .i64 (maxTo (fun a => if neHas (f b) a b then depth n f k a else 0) j)) (fun _ i => n - (intOf i).toNat)
    case atStart => exact ⟨0, Nat.zero_le _, rfl, rfl⟩
    case round =>
      obtain ⟨j, hj, rfl, rfl⟩ := hrel
      have hm0 := maxTo_nonneg (fun a => if neHas (f b) a b then depth n f k a else 0) j
      have hm1 : maxTo (fun a => if neHas (f b) a b then depth n f k a else 0) j ≤ 200 := maxTo_le _ _ _ (by omega) (fun i _ => by
        show (if neHas (f b) i b then depth n f k i else 0) ≤ _
        have := (depth_bd n f k i).2
        split <;> omega)
      by_cases hlt : j < n
      · have hj63 : j ≤ 63 := by omega
        cases hnh : neHas (f b) j b with
        | true =>
          have hlt2 := proper_lt hP.out hlt hb hnh
          have hstep : maxTo (fun a => if neHas (f b) a b then depth n f k a else 0) (j + 1) = max (maxTo (fun a => if neHas (f b) a b then depth n f k a else 0) j) (depth n f k j) := by
            rw [maxTo, if_pos hnh]
          have hd := depth_bd n f k j
          obtain ⟨hd0, hd1⟩ := hd
          have HS := Lib.hid hstep; have HB := Lib.hid hnh; clear hstep hnh
          obtain ⟨mv, hmv⟩ : ∃ mv, mv = maxTo (fun a => if neHas (f b) a b then depth n f k a else 0) j := ⟨_, rfl⟩
          rw [← hmv] at hm0 hm1 HS ⊢
          clear hmv
          go_wp2_with fail
          refine (proper_any _ _ _ _ _ _ _ hb hj63 _ hc).mono ?_
          rintro e w' ⟨rfl, rfl⟩
          rw [HB.out]
          go_wp2_with fail
          refine (IH.out j w hlt (by omega) (by omega) hr).mono ?_
          rintro e w' ⟨rfl, rfl⟩
          go_wp2_with fail
          go_round
          case rel => exact ⟨j + 1, by omega, by go_num, congrArg _ (by rw [HS.out]; split <;> omega)⟩
          case measure => simp [intOf]; omega
        | false =>
          have hstep : maxTo (fun a => if neHas (f b) a b then depth n f k a else 0) (j + 1) = maxTo (fun a => if neHas (f b) a b then depth n f k a else 0) j := by
            rw [maxTo, if_neg (by rw [hnh]; decide)]; omega
          have HS := Lib.hid hstep; have HB := Lib.hid hnh; clear hstep hnh
          obtain ⟨mv, hmv⟩ : ∃ mv, mv = maxTo (fun a => if neHas (f b) a b then depth n f k a else 0) j := ⟨_, rfl⟩
          rw [← hmv] at hm0 hm1 HS ⊢
          clear hmv
          go_wp2_with fail
          refine (proper_any _ _ _ _ _ _ _ hb hj63 _ hc).mono ?_
          rintro e w' ⟨rfl, rfl⟩
          rw [HB.out]
          go_wp2_with fail
          go_round
          case rel => exact ⟨j + 1, by omega, by go_num, congrArg _ HS.out.symm⟩
          case measure => simp [intOf]; omega
      · have hfin : depth n f (k + 1) b = maxTo (fun a => if neHas (f b) a b then depth n f k a else 0) j + 1 := by
          rw [depth, show j = n by omega]
        have HF := Lib.hid hfin; clear hfin
        go_wp2_with fail
        go_ret
        exact ⟨reti HF.out.symm, rfl⟩

/-- how deep a world is -/
def deepI (n : Nat) (f : Nat → Int) : Int := maxTo (depth n f 200) n
def deepB (n : Nat) (f : Nat → Int) : Int := if worldB n f then deepI n f else -1

set_option maxHeartbeats 800000 in
theorem DeepOf_any (a : Option Addr) (n cap : Nat) (f : Nat → Int) (w : World) (hi : Ints w a n f) :
    Calls Try.prog 38 #[.slice a n cap] w fun e w' => e = .returned (.int .i64 (deepB n f)) ∧ Below w.heap.size w w' := by
  cases hwb : worldB n f with
  | true =>
    obtain ⟨h1, h7⟩ := worldB_7 hwb
    have hP := Lib.hid (world_of hi hwb)
    have hfin : deepB n f = deepI n f := by unfold deepB; rw [if_pos hwb]
    have HF := Lib.hid hfin; have HW := Lib.hid hwb; clear hfin hwb
    have hpw := pow_bounds n h7
    go_enter Try.func38, Try.ntmps38
    go_wp2_with fail
    refine (worldOf_end a n cap f w hi).mono ?_
    rintro e w' ⟨hbel, ⟨hb, rfl, hs, hr⟩ | ⟨hb, rfl⟩⟩
    · clear hb
      go_wp2_with fail
      go_loop [5, 16] (fun v i => ∃ j : Nat, j ≤ n ∧ i = .int .i64 j ∧ v = .int .i64 (maxTo (depth n f 200) j)) (fun _ i => n - (intOf i).toNat)
      case atStart => exact ⟨0, Nat.zero_le _, rfl, rfl⟩
      case round =>
        obtain ⟨j, hj, rfl, rfl⟩ := hrel
        by_cases hlt : j < n
        · have HS := Lib.hid (show maxTo (depth n f 200) (j + 1) = max (maxTo (depth n f 200) j) (depth n f 200 j) from rfl)
          have hrg := hP.out.rng j hlt
          go_wp2_with fail
          refine (chainTo_any _ _ _ f hP h7 200 j _ hlt (by omega) (by omega) hr).mono ?_
          rintro e w'' ⟨rfl, rfl⟩
          go_wp2_with fail
          go_round
          case rel => exact ⟨j + 1, by omega, by go_num, congrArg _ (by rw [HS.out]; split <;> omega)⟩
          case measure => simp [intOf]; omega
        · have hjn : j = n := by omega
          subst hjn
          go_wp2_with fail
          go_ret
          exact ⟨reti HF.out.symm, hbel⟩
    · rw [HW.out] at hb; cases hb
  | false =>
    have hfin : deepB n f = -1 := by unfold deepB; rw [if_neg (by rw [hwb]; decide)]
    have HF := Lib.hid hfin; have HW := Lib.hid hwb; clear hfin hwb
    go_enter Try.func38, Try.ntmps38
    go_wp2_with fail
    refine (worldOf_end a n cap f w hi).mono ?_
    rintro e w' ⟨hbel, ⟨hb, rfl, hs, hr⟩ | ⟨hb, rfl⟩⟩
    · rw [HW.out] at hb; cases hb
    · clear hb
      go_wp2_with fail
      go_ret
      exact ⟨reti HF.out.symm, hbel⟩

end Go.Proofs.Ytdbmgejjpafhoaa
