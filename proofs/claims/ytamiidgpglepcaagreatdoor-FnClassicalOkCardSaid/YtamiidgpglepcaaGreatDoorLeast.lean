import Derived.Test.YtamiidgpglepcaaGreatDoorSums
import Derived.Test.YtamiidgpglepcaaGreatDoorRestA
import Derived.Deep.RegionHeld3
import Derived.Test.YtamiidgpglepcaaGreatDoorBaseB
namespace Go.Proofs.YtamiidgpglepcaaGreatDoor
open Go.RowKit

set_option maxHeartbeats 800000 in
/-- those, where what is asked may make memory -/
theorem thoseB_any (K : Nat) (a : Option Addr) (n cap : Nat) (p1 p2 : Value) (g : Nat → Bool) (hn : n ≤ 7) (w : World)
    (hE : ∀ (args : Array Value) (w : World), Sem.run Tryz.prog (callFunc K args) w = .ok (.enter K args) w)
    (hF : Hid (∀ (wr : World) (b : Nat), b < n → Below w.heap.size w wr → Calls Tryz.prog K #[.int .i64 b, p1, p2] wr fun e w' => e = .returned (.bool (g b)) ∧ Below wr.heap.size wr w')) :
    Calls Tryz.prog 37 #[.slice a n cap, .func (.func K) #[] #[p1, p2]] w fun e w' => e = .returned (.int .i64 (setOf g n)) ∧ Below w.heap.size w w' := by
  go_enter Tryz.func37, Tryz.ntmps37
  go_wp2_with fail
  go_loopw [5, 9] (fun v i wr => ∃ k : Nat, k ≤ n ∧ i = .int .i64 k ∧ v = .int .i64 (setOf g k) ∧ Below w.heap.size w wr) (fun _ i _ => n - (intOf i).toNat)
  case atStart => exact ⟨0, Nat.zero_le _, rfl, rfl, Below.refl _ w⟩
  case round =>
    obtain ⟨k, hk, rfl, rfl, hd⟩ := hrel
    by_cases hlt : k < n
    · have hk7 : k < 7 := by omega
      have hp := pow_bounds k (by omega)
      obtain ⟨hp1, hp2⟩ := hp
      cases hg : g k with
      | true =>
        have HS := Lib.hid (setOf_yes g k hg); have HG := Lib.hid hg; clear hg
        go_wp2_with fail
        refine (hF.out wr k hlt hd).mono ?_
        rintro e w' ⟨rfl, hd'⟩
        rw [HG.out]
        go_wp2_with fail
        go_roundw
        case rel => exact ⟨k + 1, by omega, by go_num, by rw [HS.out], below_onto hd hd'⟩
        case measure => simp [intOf]; omega
      | false =>
        have HS := Lib.hid (setOf_no g k hg); have HG := Lib.hid hg; clear hg
        go_wp2_with fail
        refine (hF.out wr k hlt hd).mono ?_
        rintro e w' ⟨rfl, hd'⟩
        rw [HG.out]
        go_wp2_with fail
        go_roundw
        case rel => exact ⟨k + 1, by omega, by go_num, by rw [HS.out], below_onto hd hd'⟩
        case measure => simp [intOf]; omega
    · have hkn : k = n := by omega
      subst hkn
      go_wp2_with fail
      go_ret
      exact ⟨rfl, hd⟩

theorem below_onto' {w w1 w2 : World} (h : Below w.heap.size w w1) (k : Below w1.heap.size w1 w2) : Below w.heap.size w w2 := below_onto h k

theorem least_nat (n : Nat) (f : Nat → Int) (s : Int) (hn : n ≤ 7) : ∃ X : Nat, leastI n f s = X ∧ X < 128 := by
  have h := setOf_rng (leastG n f s) n (by omega)
  have hp := (pow_bounds n hn).2
  obtain ⟨X, e⟩ := Int.eq_ofNat_of_zero_le h.1
  exact ⟨X, e, by omega⟩

def TwoEnd (i : Int) (v : Bool) (w : World) (e : Ending) (w' : World) : Prop := e = .returned (.tuple #[.int .i64 i, .bool v]) ∧ Below w.heap.size w w'
def TwoDrew (i : Int) (v : Bool) (w : World) (e : Ending) (w' : World) : Prop := e = .returned (.tuple #[.int .i64 i, .bool v]) ∧ Drew w w'

def leastOk (n : Nat) (f : Nat → Int) (s : Int) : Bool := setB n f s && (leastI n f (boundsI n f s) != 0)
def leastN (n : Nat) (f : Nat → Int) (s : Int) : Int := if setB n f s then firstI (leastI n f (boundsI n f s)) else -1

end Go.Proofs.YtamiidgpglepcaaGreatDoor

namespace Go.Proofs.YtamiidgpglepcaaGreatDoor
open Go.RowKit

theorem least_bit {n : Nat} {f : Nat → Int} {x : Int} {a : Nat} (ha : a < n) (hn : n ≤ 7) : hasB (leastI n f x) a = leastG n f x a := by
  unfold leastI; rw [setOf_bit _ _ _ (by omega), decide_eq_true ha, Bool.true_and]

/-- none of the first k is it -/
def noneB (n : Nat) (f : Nat → Int) (x : Int) (k : Nat) : Bool := decide (∀ a, a < k → leastG n f x a = false)
theorem none_zero (n : Nat) (f : Nat → Int) (x : Int) : noneB n f x 0 = true := decide_eq_true (fun _ h => absurd h (Nat.not_lt_zero _))
theorem none_step {n : Nat} {f : Nat → Int} {x : Int} {k : Nat} (h : noneB n f x k = true) (hg : leastG n f x k = false) : noneB n f x (k + 1) = true := by
  unfold noneB at h ⊢; rw [decide_eq_true_eq] at h ⊢
  intro a ha
  by_cases e : a = k
  · subst e; exact hg
  · exact h a (by omega)

theorem leastI_found {n : Nat} {f : Nat → Int} {x : Int} (h7 : n ≤ 7) {k : Nat} (hk : k < n) (h0 : noneB n f x k = true) (h1 : leastG n f x k = true) : firstI (leastI n f x) = k ∧ (leastI n f x != 0) = true := by
  obtain ⟨R, hR, hR7⟩ := least_nat n f x h7
  have hbit : ∀ i, i < n → R.testBit i = leastG n f x i := fun i hi => by rw [← hasB_nat, ← hR, least_bit hi h7]
  unfold noneB at h0; rw [decide_eq_true_eq] at h0
  have hlow : ∀ i, i < k → R.testBit i = false := fun i hi => by rw [hbit i (by omega)]; exact h0 i hi
  have hk2 : R.testBit k = true := by rw [hbit k hk, h1]
  obtain ⟨h3, _⟩ := ctz_at hR7 hk2 hlow
  have h4 : R ≠ 0 := by intro e; subst e; simp at hk2
  rw [hR]
  constructor
  · unfold firstI; rw [if_neg (by omega), Int.toNat_natCast, h3]
  · rw [bne_iff_ne]; omega

theorem leastI_none {n : Nat} {f : Nat → Int} {x : Int} (h0 : noneB n f x n = true) : leastI n f x = 0 := by
  unfold noneB at h0; rw [decide_eq_true_eq] at h0
  refine ext64 _ _ (setOf_I64 _ _) I64_zero (fun i hi => ?_)
  unfold leastI; rw [hasB_zero, setOf_bit _ _ _ hi]
  by_cases hin : i < n
  · rw [h0 i hin]; simp
  · rw [decide_eq_false hin]; rfl

theorem least_found {n : Nat} {f : Nat → Int} {s : Int} (hs : setB n f s = true) {k : Nat} (hk : k < n) (h0 : noneB n f (boundsI n f s) k = true) (h1 : leastG n f (boundsI n f s) k = true) : leastN n f s = k ∧ leastOk n f s = true := by
  have h7 := (worldB_7 (setB_iff.1 hs).1).2
  obtain ⟨e1, e2⟩ := leastI_found h7 hk h0 h1
  exact ⟨by unfold leastN; rw [if_pos hs, e1], by unfold leastOk; rw [hs, e2]; rfl⟩
theorem least_none {n : Nat} {f : Nat → Int} {s : Int} (hs : setB n f s = true) (h0 : noneB n f (boundsI n f s) n = true) : leastN n f s = -1 ∧ leastOk n f s = false := by
  have e := leastI_none h0
  exact ⟨by unfold leastN; rw [if_pos hs, e]; rfl, by unfold leastOk; rw [hs, e]; rfl⟩

theorem leastG_zero (n : Nat) (f : Nat → Int) (a : Nat) : leastG n f 0 a = false := by unfold leastG; rw [hasB_zero]; rfl

end Go.Proofs.YtamiidgpglepcaaGreatDoor
