import Derived.Test.YtbhdeidnifilfaaDoorLawC
import Derived.Test.YtbhdeidnifilfaaDoorSumsK
import Derived.Test.YtbhdeidnifilfaaDoorDrawZ
import Derived.Deep.RegionHeld3
namespace Go.Proofs.YtbhdeidnifilfaaDoor
open Go.RowKit

theorem StrongOk_val (a : Option Addr) (n cap : Nat) (f : Nat → Int) (v : Bool) (w : World) (hv : strongB n f = v) (hi : Ints w a n f) :
    Calls Tryd.prog 12 #[.slice a n cap] w fun e w' => e = .returned (.bool v) ∧ Below w.heap.size w w' := by
  subst hv; exact StrongOk_any a n cap f w hi
theorem specBoundsOf_val (a : Option Addr) (n cap : Nat) (f : Nat → Int) (s v : Int) (w : World) (hv : boundsB n f s = v) (hi : Ints w a n f) :
    Calls Tryd.prog 9 #[.slice a n cap, .int .i64 s] w fun e w' => e = .returned (.int .i64 v) ∧ Drew w w' := by
  subst hv; exact specBoundsOf_any a n cap f s w hi
theorem bounds_rng (n : Nat) (f : Nat → Int) (s : Int) (hn : n ≤ 7) : 0 ≤ boundsI n f s ∧ boundsI n f s ≤ 128 := by
  have := setOf_rng (fun b => withinB s (f b)) n (by omega)
  have := pow_bounds n hn
  unfold boundsI; omega
theorem sums_rng (n : Nat) (f : Nat → Int) (s : Int) (hn : n ≤ 7) : 0 ≤ sumsI n f s ∧ sumsI n f s ≤ 128 := by
  have := setOf_rng (sumG n f s) n (by omega)
  have := pow_bounds n hn
  unfold sumsI; omega
theorem ne_false {a b : Int} (h : a = b) : (a != b) = false := by rw [h]; simp

/-- how many there are below k -/
def cntN (g : Nat → Bool) : Nat → Nat
  | 0 => 0
  | k + 1 => if g k then cntN g k + 1 else cntN g k
theorem cnt_yes {g : Nat → Bool} {k : Nat} (h : g k = true) : cntN g (k + 1) = cntN g k + 1 := by rw [cntN, if_pos h]
theorem cnt_no {g : Nat → Bool} {k : Nat} (h : g k = false) : cntN g (k + 1) = cntN g k := by rw [cntN, if_neg (by rw [h]; decide)]
theorem cnt_le (g : Nat → Bool) (k : Nat) : cntN g k ≤ k := by
  induction k with
  | zero => exact Nat.le_refl _
  | succ k ih => rw [cntN]; split <;> omega
theorem cnt_zero (g : Nat → Bool) (k : Nat) (h : ∀ a, a < k → g a = false) : cntN g k = 0 := by
  induction k with
  | zero => rfl
  | succ k ih => rw [cnt_no (h k (by omega))]; exact ih (fun a ha => h a (by omega))
theorem cnt_one (g : Nat → Bool) (k : Nat) (h : ∀ a b, a < k → b < k → g a = true → g b = true → a = b) : cntN g k ≤ 1 := by
  induction k with
  | zero => exact Nat.zero_le _
  | succ k ih =>
    cases e : g k with
    | true =>
      rw [cnt_yes e, cnt_zero g k (fun a ha => by
        cases e2 : g a with
        | false => rfl
        | true => have := h a k (by omega) (by omega) e2 e; omega)]
      omega
    | false => rw [cnt_no e]; exact ih (fun a b ha hb => h a b (by omega) (by omega))

theorem part_at {n : Nat} {f : Nat → Int} (hw : worldB n f = true) {x y : Nat} (hx : x < n) (hy : y < n) : partB n f x y = hasB (f y) x := by
  unfold partB; rw [(good2_iff n f x y).2 ⟨hw, by omega, by omega⟩]; rfl

end Go.Proofs.YtbhdeidnifilfaaDoor
