import Derived.Test.YtndcnfbncepihaaOwnX
import Derived.Test.YtndcnfbncepihaaSameX
namespace Go.Proofs.Ytndcnfbncepihaa
set_option linter.unusedVariables false
set_option linter.unusedSimpArgs false
open Go.RowKit Go.Maps

def cmpI (x y : Int) : Int := if x < y then -1 else if y < x then 1 else 0
theorem isNaN_any (x : Int) (w : World) : Calls Try.prog 125 #[.int .i64 x] w fun e w' => e = .returned (.bool false) ∧ w = w' := by
  have hx : (x != x) = false := by simp
  go_enter Try.func125, Try.ntmps125
  go_wp2_with fail
  go_ret
  exact ⟨rfl, rfl⟩
/-- is f ahead of g, at the first place where they are not the same? -/
def ltB (n : Nat) (f g : Nat → Int) : Bool := decide (∃ k, k < n ∧ f k < g k ∧ ∀ i, i < k → f i = g i)
theorem ltB_yes {n : Nat} {f g : Nat → Int} {k : Nat} (hk : k < n) (h : f k < g k) (hb : ∀ i, i < k → f i = g i) : ltB n f g = true := decide_eq_true ⟨k, hk, h, hb⟩
theorem ltB_no {n : Nat} {f g : Nat → Int} {k : Nat} (h : g k < f k) (hb : ∀ i, i < k → f i = g i) : ltB n f g = false := by
  unfold ltB
  rw [decide_eq_false_iff_not]
  rintro ⟨j, hj, h1, h2⟩
  rcases Nat.lt_trichotomy j k with e | e | e
  · have := hb j e; omega
  · subst e; omega
  · have := h2 k e; omega
theorem ltB_eq {n : Nat} {f g : Nat → Int} (hb : ∀ i, i < n → f i = g i) : ltB n f g = false := by
  unfold ltB
  rw [decide_eq_false_iff_not]
  rintro ⟨j, hj, h1, h2⟩
  have := hb j hj; omega

def sameB (n : Nat) (f g : Nat → Int) : Bool := decide (∀ i, i < n → f i = g i)
set_option maxRecDepth 100000 in
set_option maxHeartbeats 3200000 in
theorem equal_row (g1 o1 c1 g2 o2 c2 n : Nat) (f g : Nat → Int) (hn : n ≤ 1000) (w : World) (h1 : Row w g1 o1 n f) (h2 : Row w g2 o2 n g) :
    Calls Try.prog 82 #[.slice (some ⟨g1, o1, none⟩) n c1, .slice (some ⟨g2, o2, none⟩) n c2] w fun e w' => e = .returned (.bool (sameB n f g)) ∧ Drew w w' := by
  have hne : ((n : Int) != (n : Int)) = false := by simp
  have H1 := Lib.hid h1; have H2 := Lib.hid h2
  clear h1 h2
  go_enter Try.func82, Try.ntmps82
  go_wp2_with fail
  go_loopw [5, 13] (fun _ i wr => ∃ k : Nat, k ≤ n ∧ i = .int .i64 k ∧ Hid (∀ i, i < k → f i = g i) ∧ Drew w wr) (fun _ i _ => n - (intOf i).toNat)
  case atStart => exact ⟨0, Nat.zero_le _, rfl, Lib.hid (fun i hi => absurd hi (Nat.not_lt_zero _)), Drew.refl _⟩
  case round =>
    obtain ⟨k, hk, rfl, hb, hd⟩ := hrel
    by_cases hlt : k < n
    · have hki : (k : Int) < (n : Int) := by omega
      have hk0 : (0 : Int) ≤ (k : Int) := by omega
      have hc1 : wr.cell? ⟨g1, o1 + k, none⟩ = some (.int .i64 (f k)) := by
        obtain ⟨m, rfl⟩ := hd
        exact H1.out k hlt
      have hc2 : wr.cell? ⟨g2, o2 + k, none⟩ = some (.int .i64 (g k)) := by
        obtain ⟨m, rfl⟩ := hd
        exact H2.out k hlt
      obtain ⟨x, hx⟩ : ∃ x, f k = x := ⟨_, rfl⟩
      obtain ⟨y, hy⟩ : ∃ y, g k = y := ⟨_, rfl⟩
      rw [hx] at hc1; rw [hy] at hc2
      have HX := Lib.hid hx; have HY := Lib.hid hy
      clear hx hy
      cases hv : (x != y) with
      | true =>
        have HV := Lib.hid hv
        go_wp2_with fail
        go_quiet (fail)
        go_wp2_with fail
        go_ret
        refine ⟨retb ?_, hd.more _⟩
        unfold sameB
        rw [eq_comm, decide_eq_false_iff_not]
        intro h
        have := h k hlt
        rw [HX.out, HY.out] at this
        rw [this] at HV
        have := HV.out
        simp at this
      | false =>
        have HV := Lib.hid hv
        go_wp2_with fail
        go_quiet (fail)
        go_wp2_with fail
        go_roundw
        case rel => exact ⟨k + 1, by omega, by go_num, Lib.hid (fun i hi => by
          by_cases e : i = k
          · subst e; rw [HX.out, HY.out]; simpa using HV.out
          · exact hb.out i (by omega)), hd.more _⟩
        case measure => simp [intOf]; omega
    · have hki : ¬ (k : Int) < (n : Int) := by omega
      have hkn : k = n := by omega
      subst hkn
      go_wp2_with fail
      go_ret
      exact ⟨retb (decide_eq_true hb.out).symm, hd⟩
end Go.Proofs.Ytndcnfbncepihaa
