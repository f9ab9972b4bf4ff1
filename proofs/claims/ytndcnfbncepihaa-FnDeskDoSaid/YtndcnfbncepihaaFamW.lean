import Derived.Test.YtndcnfbncepihaaFamTwo
namespace Go.Proofs.Ytndcnfbncepihaa
open Go.RowKit

/-! ### worlds of families with all points -/

/-- each point of a set is a set -/
def ClosedP (m : Nat) (g : Nat → Int) : Prop := ∀ t : Nat, memS m g t = true → ∀ i, i < 4 → hasB (t : Int) i = true → ∀ q : Nat, (2 : Int) ^ i = q → memS m g q = true

theorem pow4_I64 {i : Nat} (hi : i < 4) : I64 (2 ^ i) := by
  obtain ⟨q, e, _, h, _⟩ := pow4 hi
  rw [e]; unfold I64; omega
theorem point_of {m : Nat} {g : Nat → Int} (h : FamP m g) (hc : ClosedP m g) {a i : Nat} (ha : a < m) (hb : hasB (g a) i = true) : i < 4 ∧ ∃ c, c < m ∧ g c = 2 ^ i := by
  obtain ⟨x, e, _, hx⟩ := h.nat ha
  rw [e] at hb
  have h4 := bit16 hx hb
  obtain ⟨q, eq, _⟩ := pow4 h4
  obtain ⟨c, hc1, hc2⟩ := memS_iff.1 (hc x (memS_iff.2 ⟨a, ha, e⟩) i h4 hb q eq)
  exact ⟨h4, c, hc1, by rw [hc2, eq]⟩
theorem point_only {i x : Nat} (hi : i < 4) (hx1 : 1 ≤ x) (hx : x < 16) (hw : withinB (x : Int) (2 ^ i) = true) : (x : Int) = 2 ^ i := by
  obtain ⟨j, hj, hb⟩ := some_bit hx hx1
  have h1 := (within_iff _ _).1 hw j (by omega) hb
  rw [hasB_pow, decide_eq_true_eq] at h1
  subst h1
  refine ext64 _ _ (by unfold I64; omega) (pow4_I64 hi) (fun k hk => ?_)
  rw [hasB_pow, Bool.eq_iff_iff, decide_eq_true_eq]
  constructor
  · intro h
    have := (within_iff _ _).1 hw k hk h
    rwa [hasB_pow, decide_eq_true_eq] at this
  · rintro rfl; exact hb

/-- atoms are the sets of one point -/
theorem point_atom {m : Nat} {g : Nat → Int} (h : FamP m g) (hc : ClosedP m g) {k x : Nat} (hk : k < m) (e : g k = x) : atomB (wfF m g) k = ptB x := by
  have hP := wf_P h
  have hr := h.rng k hk
  rw [Bool.eq_iff_iff, atom_iff hP hk]
  constructor
  · intro hat
    obtain ⟨i, hi, hb⟩ := some_bit (x := x) (by omega) (by omega)
    rw [← e] at hb
    obtain ⟨_, c, hc1, hc2⟩ := point_of h hc hk hb
    have hw : withinB (g c) (g k) = true := by rw [hc2]; exact pow_within.2 (fun _ => hb)
    by_cases hck : c = k
    · subst hck
      obtain ⟨q, eq, _, _, hq, _⟩ := pow4 hi
      have : q = x := by omega
      subst this; exact hq
    · have := hat c hc1 hck
      rw [wf_bit h.hi hc1, hw] at this; cases this
  · intro hp b hb hbk
    obtain ⟨i, hi, ei⟩ := pt_pow hp
    rw [wf_bit h.hi hb, Bool.eq_false_iff]
    intro hw
    obtain ⟨y, ey, hy1, hy⟩ := h.nat hb
    rw [e, ← ei, ey] at hw
    have := point_only hi hy1 hy hw
    exact hbk (h.inj k hk b hb (by omega))

theorem not_within {x y : Int} (h : withinB x y = false) : ∃ i, i < 64 ∧ hasB x i = true ∧ hasB y i = false := by
  apply Classical.byContradiction; intro hn
  have : withinB x y = true := (within_iff _ _).2 (fun i hi h1 => by
    cases h2 : hasB y i with
    | true => rfl
    | false => exact absurd ⟨i, hi, h1, h2⟩ hn)
  rw [h] at this; cases this
/-- and it is strong -/
theorem point_strong {m : Nat} {g : Nat → Int} (h : FamP m g) (hc : ClosedP m g) : strongB m (wfF m g) = true := by
  refine (strong_iff (fun i _ => wf_I64 m g i)).2 ⟨wf_P h, fun a ha b hb _ hab => ?_⟩
  rw [wf_bit h.hi ha] at hab
  obtain ⟨i, hi, h1, h2⟩ := not_within hab
  obtain ⟨hi4, c, hc1, hc2⟩ := point_of h hc ha h1
  refine (apB_iff _ _ _ _).2 ⟨c, hc1, ?_, wf_apart h ?_⟩
  · rw [wf_bit h.hi hc1, hc2]; exact pow_within.2 (fun _ => h1)
  · rw [and_zero_iff, hc2]
    intro j hj hb2
    rw [hasB_pow, decide_eq_true_eq] at hb2
    subst hb2; exact h2

theorem FP_closed {n : Nat} {f : Nat → Int} (h : FamP n f) {m : Nat} {g : Nat → Int} (hm : ∀ t, memS m g t = FP (memS n f) t) : ClosedP m g := by
  intro t ht i hi hb q eq
  rw [hm] at ht ⊢
  exact (clos_pts (fun t ht => memS_rng h ht)).step t ht q (pts_mem.2 ⟨i, hi, hb, eq.symm⟩)

/-- what is put to it again -/
theorem again_done {m : Nat} {g : Nat → Int} (h : FamP m g) {F : Nat → Bool} (hF : ∀ t, F t = true → memS m g t = true) : doneL m g F = rowL g m ∧ roomB m g F = true := by
  have hw := with_again hF 16
  have hl : (withL m g F 16).length ≤ 7 := by rw [hw]; simp; exact h.hi
  have hr : roomB m g F = true := by unfold roomB; rw [famOk_iff.2 h, decide_eq_true hl]; rfl
  refine ⟨?_, hr⟩
  unfold doneL
  rw [if_pos hr, hw]; rfl
theorem FP_same {n : Nat} {f : Nat → Int} {m : Nat} {g : Nat → Int} (hm : ∀ t, memS m g t = FP (memS n f) t) : ∀ t, FP (memS m g) t = true → memS m g t = true := by
  have e : memS m g = FP (memS n f) := funext hm
  intro t ht
  rw [e] at ht ⊢
  exact FP_again ht

/-- the list that is handed back, as a family -/
theorem room_fam {n : Nat} {f : Nat → Int} {F : Nat → Bool} (hr : roomB n f F = true) (hF : famOkB n f = true → (∀ t, memS n f t = true → F t = true) ∧ ∀ t, F t = true → 1 ≤ t ∧ t < 16) :
    FamP n f ∧ ∃ (m : Nat) (g : Nat → Int), doneL n f F = rowL g m ∧ FamP m g ∧ n ≤ m ∧ (∀ t, memS m g t = F t) ∧ ∀ i, i < n → g i = f i := by
  have hr' := hr
  unfold roomB at hr'
  rw [Bool.and_eq_true, decide_eq_true_eq] at hr'
  obtain ⟨h1, h2⟩ := hr'
  have hP := famOk_iff.1 h1
  obtain ⟨h3, h4⟩ := hF h1
  obtain ⟨h5, h6⟩ := with_fam hP h3 h4 h2
  refine ⟨hP, (withL n f F 16).length, atL (withL n f F 16), ?_, h5, by rw [with_len]; omega, h6, fun i hi => with_head hi⟩
  unfold doneL
  rw [if_pos hr]
  exact (rowL_self _).symm

/-! ### worlds of families with all sums -/

def ClosedS (m : Nat) (g : Nat → Int) : Prop := ∀ t u q : Nat, memS m g t = true → memS m g u = true → orI (t : Int) (u : Int) = q → memS m g q = true
theorem FS_closed {n : Nat} {f : Nat → Int} {m : Nat} {g : Nat → Int} (hm : ∀ t, memS m g t = FS n f t) : ClosedS m g := by
  intro t u q ht hu e
  rw [hm] at ht hu ⊢
  exact FS_or ht hu e
theorem FS_same {m : Nat} {g : Nat → Int} (h : FamP m g) (hc : ClosedS m g) : ∀ t, FS m g t = true → memS m g t = true := fun _ ht =>
  FS_least h (fun _ h => h) (fun t u q _ ht hu e => hc t u q ht hu e) ht
/-- the thing that is both together -/
theorem join_at {m : Nat} {g : Nat → Int} (h : FamP m g) (hc : ClosedS m g) {a b : Nat} (ha : a < m) (hb : b < m) : ∃ c, c < m ∧ g c = orI (g a) (g b) := by
  obtain ⟨x, ex, _, hx⟩ := h.nat ha
  obtain ⟨y, ey, _, hy⟩ := h.nat hb
  obtain ⟨c, hc1, hc2⟩ := memS_iff.1 (hc x y _ (memS_iff.2 ⟨a, ha, ex⟩) (memS_iff.2 ⟨b, hb, ey⟩) (orI_nat x y (by omega) (by omega)))
  exact ⟨c, hc1, by rw [hc2, ex, ey, orI_nat x y (by omega) (by omega)]⟩
theorem pair_bit {a b i : Nat} (hi : i < 64) : hasB (orI (2 ^ a) (2 ^ b)) i = (decide (a = i) || decide (b = i)) := by rw [or_bit _ _ _ hi, hasB_pow, hasB_pow]
theorem pair_set {m : Nat} {g : Nat → Int} (h : FamP m g) {a b : Nat} (ha : a < m) (hb : b < m) : setB m (wfF m g) (orI (2 ^ a) (2 ^ b)) = true := by
  have h7 := h.hi
  have hr := lt_of_bits (orI (2 ^ a) (2 ^ b)) m (by omega) (orI_I64 _ _) (fun i hi hmi => by rw [pair_bit hi, decide_eq_false (by omega), decide_eq_false (by omega)]; rfl)
  have hp := pos_of_bit hr.1 (show hasB (orI (2 ^ a) (2 ^ b)) a = true by rw [pair_bit (by omega)]; simp)
  exact setB_iff.2 ⟨wf_world h, by omega, by omega⟩
theorem pair_within {m : Nat} {g : Nat → Int} (h : FamP m g) {a b c : Nat} (ha : a < m) (hb : b < m) : withinB (orI (2 ^ a) (2 ^ b)) (wfF m g c) = (withinB (g a) (g c) && withinB (g b) (g c)) := by
  have h7 := h.hi
  rw [Bool.eq_iff_iff, within_iff, Bool.and_eq_true]
  constructor
  · intro hw
    have h1 := hw a (by omega) (by rw [pair_bit (by omega)]; simp)
    have h2 := hw b (by omega) (by rw [pair_bit (by omega)]; simp)
    rw [wf_bit h7 ha] at h1
    rw [wf_bit h7 hb] at h2
    exact ⟨h1, h2⟩
  · rintro ⟨h1, h2⟩ i hi hb2
    rw [pair_bit hi, Bool.or_eq_true, decide_eq_true_eq, decide_eq_true_eq] at hb2
    rcases hb2 with rfl | rfl
    · rw [wf_bit h7 ha]; exact h1
    · rw [wf_bit h7 hb]; exact h2
/-- it is the least bound -/
theorem join_least {m : Nat} {g : Nat → Int} (h : FamP m g) {a b c : Nat} (ha : a < m) (hb : b < m) (hc : c < m) (e : g c = orI (g a) (g b)) :
    leastG m (wfF m g) (boundsI m (wfF m g) (orI (2 ^ a) (2 ^ b))) c = true := by
  have h7 := h.hi
  unfold leastG
  rw [Bool.and_eq_true]
  constructor
  · rw [bounds_bit hc h7, pair_within h ha hb, e, (within_or _ _).1, (within_or _ _).2]; rfl
  · rw [within_iff]
    intro i hi hb2
    unfold boundsI at hb2
    rw [setOf_bit _ _ _ hi, Bool.and_eq_true, decide_eq_true_eq] at hb2
    obtain ⟨him, hw⟩ := hb2
    rw [pair_within h ha hb, Bool.and_eq_true] at hw
    rw [wholesS_bit hi, decide_eq_true him, Bool.true_and, wf_bit h7 hc, e]
    exact orI_within hw.1 hw.2
end Go.Proofs.Ytndcnfbncepihaa
