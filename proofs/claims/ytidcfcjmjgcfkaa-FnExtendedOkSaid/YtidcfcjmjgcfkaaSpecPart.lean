import Derived.Test.YtidcfcjmjgcfkaaWith
namespace Go.Proofs.Ytidcfcjmjgcfkaa
open Go.RowKit

theorem quiet_drew {P : Program} {f : FuncId} {args : Array Value} {w : World} {n : Nat} {v : Value}
    (h : Calls P f args (w.drewN n) fun e w' => e = .returned v ∧ Drew (w.drewN n) w') : Calls P f args (w.drewN n) fun e w'' => e = .returned v ∧ ∃ m, w'' = w.drewN m :=
  h.mono fun _ _ ⟨he, m, hm⟩ => ⟨he, n + m, by rw [hm, World.drewN_drewN]⟩

theorem Ints.drewN {w : World} {n : Nat} {a : Option Addr} {f : Nat → Int} (h : Ints w a n f) (m : Nat) : Ints (w.drewN m) a n f := h.below (below_drewN (Below.refl _ _) m) (Nat.le_refl _)

theorem specWorldOk_val (a : Option Addr) (n cap : Nat) (f : Nat → Int) (v : Bool) (w : World) (hv : worldB n f = v) (hi : Ints w a n f) :
    Calls Try.prog 28 #[.slice a n cap] w fun e w' => e = .returned (.bool v) ∧ Drew w w' := by
  subst hv; exact specWorldOk_any a n cap f w hi

theorem l1In_val (x l h : Int) (v : Bool) (w : World) (hv : inB l x h = v) :
    Calls Try.prog 45 #[.int .i64 x, .int .i64 l, .int .i64 h] w fun e w' => e = .returned (.bool v) ∧ w = w' := by
  subst hv; exact l1In_any x l h w

theorem inB_true {l x h : Int} (h1 : l ≤ x) (h2 : x ≤ h) : inB l x h = true := by
  unfold inB; rw [decide_eq_true h1, decide_eq_true h2]; rfl
theorem inB_false {l x h : Int} (h1 : ¬ (l ≤ x ∧ x ≤ h)) : inB l x h = false := by
  unfold inB
  by_cases h : l ≤ x
  · rw [decide_eq_false (fun h2 => h1 ⟨h, h2⟩)]; simp
  · rw [decide_eq_false h]; rfl

/-- a world's slice is a row -/
theorem Ints.row {w : World} {n : Nat} {a : Option Addr} {f : Nat → Int} (h : Ints w a n f) (h1 : 1 ≤ n) : ∃ b o, a = some ⟨b, o, none⟩ ∧ b < w.heap.size ∧ Row w b o n f := by
  obtain ⟨_, h | h⟩ := h
  · omega
  · exact h

theorem Ints.i64 {w : World} {n : Nat} {a : Option Addr} {f : Nat → Int} (h : Ints w a n f) : ∀ i, i < n → I64 (f i) := h.1.2

theorem world_of {w : World} {n : Nat} {a : Option Addr} {f : Nat → Int} (h : Ints w a n f) (hw : worldB n f = true) : WorldP n f := (worldB_iff n f h.i64).1 hw

theorem partB_no {n : Nat} {f : Nat → Int} {x y : Int} (h : ¬ (worldB n f = true ∧ (0 ≤ x ∧ x < n) ∧ 0 ≤ y ∧ y < n)) : good2 n f x y = false := by
  cases hg : good2 n f x y with
  | false => rfl
  | true => exact absurd ((good2_iff n f x y).1 hg) h

end Go.Proofs.Ytidcfcjmjgcfkaa
