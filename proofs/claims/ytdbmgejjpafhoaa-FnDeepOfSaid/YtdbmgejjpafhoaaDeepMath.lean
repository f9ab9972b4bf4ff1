import Derived.Test.YtdbmgejjpafhoaaDeep
namespace Go.Proofs.Ytdbmgejjpafhoaa
open Go.RowKit

/-- so deep a thing is -/
def dep (n : Nat) (f : Nat → Int) (b : Nat) : Int := depth n f 200 b

theorem depth_stable {n : Nat} {f : Nat → Int} (hP : WorldP n f) (k : Nat) : ∀ (b k' : Nat), b < n → f b ≤ k → k ≤ k' → depth n f k b = depth n f k' b := by
  induction k with
  | zero =>
    intro b k' hb hfb _
    exfalso
    have h1 := hP.self b hb
    have h2 := (hP.rng b hb).1
    rw [show f b = 0 by omega, hasB_zero] at h1
    cases h1
  | succ k ih =>
    intro b k' hb hfb hk
    obtain ⟨m, rfl⟩ : ∃ m, k' = m + 1 := ⟨k' - 1, by omega⟩
    rw [depth, depth]
    congr 1
    apply maxTo_congr
    intro a ha
    by_cases h : neHas (f b) a b = true
    · rw [if_pos h, if_pos h]
      have := proper_lt hP ha hb h
      exact ih a m ha (by omega) (by omega)
    · rw [if_neg h, if_neg h]

theorem f_le {n : Nat} {f : Nat → Int} (hP : WorldP n f) {b : Nat} (hb : b < n) : f b ≤ 199 := by
  have := hP.rng b hb; have := pow_bounds n hP.hi; omega

theorem dep_eq {n : Nat} {f : Nat → Int} (hP : WorldP n f) {b : Nat} (_hb : b < n) : dep n f b = maxTo (fun a => if neHas (f b) a b then dep n f a else 0) n + 1 := by
  have e : dep n f b = maxTo (fun a => if neHas (f b) a b then depth n f 199 a else 0) n + 1 := rfl
  rw [e]
  have e2 : maxTo (fun a => if neHas (f b) a b then depth n f 199 a else 0) n = maxTo (fun a => if neHas (f b) a b then dep n f a else 0) n := by
    apply maxTo_congr
    intro a ha
    by_cases h : neHas (f b) a b = true
    · rw [if_pos h, if_pos h]
      exact depth_stable hP 199 a 200 ha (f_le hP ha) (by omega)
    · rw [if_neg h, if_neg h]
  rw [e2]

theorem dep_pos {n : Nat} {f : Nat → Int} (hP : WorldP n f) {b : Nat} (hb : b < n) : 1 ≤ dep n f b := by
  rw [dep_eq hP hb]; have := maxTo_nonneg (fun a => if neHas (f b) a b then dep n f a else 0) n; omega

theorem dep_step {n : Nat} {f : Nat → Int} (hP : WorldP n f) {a b : Nat} (ha : a < n) (hb : b < n) (h : neHas (f b) a b = true) : dep n f a + 1 ≤ dep n f b := by
  rw [dep_eq hP hb]
  have := le_maxTo (fun a => if neHas (f b) a b then dep n f a else 0) n a ha
  simp only [h, if_true] at this
  omega

theorem maxTo_has (g : Nat → Int) (k : Nat) (h : 0 < maxTo g k) : ∃ i, i < k ∧ g i = maxTo g k := by
  induction k with
  | zero => rw [maxTo] at h; omega
  | succ k ih =>
    rw [maxTo] at h ⊢
    by_cases e : maxTo g k ≤ g k
    · exact ⟨k, by omega, by omega⟩
    · obtain ⟨i, hi, hg⟩ := ih (by omega)
      exact ⟨i, by omega, by omega⟩

theorem dep_from {n : Nat} {f : Nat → Int} (hP : WorldP n f) {b : Nat} (hb : b < n) (h : 2 ≤ dep n f b) : ∃ a, a < n ∧ neHas (f b) a b = true ∧ dep n f a + 1 = dep n f b := by
  rw [dep_eq hP hb] at h ⊢
  obtain ⟨a, ha, hg⟩ := maxTo_has _ n (by omega : 0 < maxTo (fun a => if neHas (f b) a b then dep n f a else 0) n)
  refine ⟨a, ha, ?_, ?_⟩
  · apply Classical.byContradiction; intro hn
    rw [if_neg hn] at hg; omega
  · by_cases hn : neHas (f b) a b = true
    · rw [if_pos hn] at hg; omega
    · rw [if_neg hn] at hg; omega

/-- how many of the first numbers a set has -/
def card (x : Int) : Nat → Nat
  | 0 => 0
  | k + 1 => card x k + (if hasB x k then 1 else 0)

theorem card_le (x : Int) (k : Nat) : card x k ≤ k := by
  induction k with
  | zero => exact Nat.le_refl _
  | succ k ih => rw [card]; split <;> omega

theorem card_mono (x y : Int) (k : Nat) (h : ∀ i, i < k → hasB x i = true → hasB y i = true) : card x k ≤ card y k := by
  induction k with
  | zero => exact Nat.le_refl _
  | succ k ih =>
    rw [card, card]
    have := ih (fun i hi => h i (by omega))
    by_cases hx : hasB x k = true
    · rw [if_pos hx, if_pos (h k (by omega) hx)]; omega
    · rw [if_neg hx]; omega

theorem card_lt (x y : Int) (k j : Nat) (hj : j < k) (h : ∀ i, i < k → hasB x i = true → hasB y i = true) (hx : hasB x j = false) (hy : hasB y j = true) : card x k < card y k := by
  induction k with
  | zero => omega
  | succ k ih =>
    rw [card, card]
    by_cases e : j = k
    · subst e
      have := card_mono x y j (fun i hi => h i (by omega))
      rw [hx, hy]; simp; omega
    · have := ih (by omega) (fun i hi => h i (by omega))
      by_cases hxk : hasB x k = true
      · rw [if_pos hxk, if_pos (h k (by omega) hxk)]; omega
      · rw [if_neg hxk]; omega

theorem neHas_iff (x : Int) (a b : Nat) : neHas x a b = true ↔ a ≠ b ∧ hasB x a = true := by
  unfold neHas; simp

theorem card_proper {n : Nat} {f : Nat → Int} (hP : WorldP n f) {a b : Nat} (ha : a < n) (hb : b < n) (h : neHas (f b) a b = true) : card (f a) n < card (f b) n := by
  obtain ⟨hne, hh⟩ := (neHas_iff _ _ _).1 h
  exact card_lt _ _ n b hb (fun i _ => hP.trans b hb a ha hh i) (hP.anti b hb a ha (fun e => hne e.symm) hh) (hP.self b hb)

theorem dep_card {n : Nat} {f : Nat → Int} (hP : WorldP n f) (m : Nat) : ∀ b, b < n → card (f b) n ≤ m → dep n f b ≤ card (f b) n := by
  induction m with
  | zero =>
    intro b hb hm
    have := card_lt 0 (f b) n b hb (fun i _ h => by rw [hasB_zero] at h; cases h) (hasB_zero b) (hP.self b hb)
    omega
  | succ m ih =>
    intro b hb hm
    by_cases h2 : 2 ≤ dep n f b
    · obtain ⟨a, ha, hab, he⟩ := dep_from hP hb h2
      have := card_proper hP ha hb hab
      have := ih a ha (by omega)
      omega
    · have := card_lt 0 (f b) n b hb (fun i _ h => by rw [hasB_zero] at h; cases h) (hasB_zero b) (hP.self b hb)
      omega

theorem dep_le {n : Nat} {f : Nat → Int} (hP : WorldP n f) {b : Nat} (hb : b < n) : dep n f b ≤ n := by
  have := dep_card hP _ b hb (Nat.le_refl _)
  have := card_le (f b) n
  omega

theorem dep_deepI {n : Nat} {f : Nat → Int} {b : Nat} (hb : b < n) : dep n f b ≤ deepI n f := le_maxTo (depth n f 200) n b hb
theorem deepI_le {n : Nat} {f : Nat → Int} (m : Int) (hm : 0 ≤ m) (h : ∀ b, b < n → dep n f b ≤ m) : deepI n f ≤ m := maxTo_le _ _ _ hm h
theorem deepI_has {n : Nat} {f : Nat → Int} (hP : WorldP n f) : ∃ b, b < n ∧ dep n f b = deepI n f := by
  have h0 := hP.lo
  have h1 := dep_pos hP (b := 0) (by omega)
  have h2 := dep_deepI (n := n) (f := f) (b := 0) (by omega)
  exact maxTo_has _ n (by show 0 < deepI n f; omega)

def upd (d : Nat → Int) (k : Nat) (v : Int) : Nat → Int := fun i => if i = k then v else d i
theorem upd_at (d : Nat → Int) (k : Nat) (v : Int) : upd d k v k = v := by unfold upd; rw [if_pos rfl]
theorem upd_other (d : Nat → Int) (k i : Nat) (v : Int) (h : i ≠ k) : upd d k v i = d i := by unfold upd; rw [if_neg h]

/-- what stands after r rounds, and at the thing k in the next one -/
structure DP (n : Nat) (f : Nat → Int) (r k : Nat) (d : Nat → Int) (best : Int) : Prop where
  lo : 1 ≤ best
  hi : best ≤ deepI n f
  all : ∀ i, i < n → 0 ≤ d i ∧ d i ≤ dep n f i ∧ d i ≤ best ∧ min (dep n f i) r ≤ d i ∧ (i < k → min (dep n f i) (r + 1) ≤ d i)

/-- inside, at the part j of the thing k -/
structure DPin (n : Nat) (f : Nat → Int) (r k j : Nat) (d : Nat → Int) (best : Int) : Prop where
  lo : 1 ≤ best
  hi : best ≤ deepI n f
  all : ∀ i, i < n → 0 ≤ d i ∧ d i ≤ dep n f i ∧ min (dep n f i) r ≤ d i ∧ (i < k → min (dep n f i) (r + 1) ≤ d i) ∧ (i ≠ k → d i ≤ best)
  one : 1 ≤ d k
  done : ∀ b, b < j → neHas (f k) b k = true → d b + 1 ≤ d k

theorem DP.start {n : Nat} {f : Nat → Int} (hP : WorldP n f) : DP n f 0 0 (fun _ => 0) 1 := by
  have h0 := hP.lo
  refine ⟨by omega, ?_, ?_⟩
  · have h1 := dep_pos hP (b := 0) (by omega)
    have h2 := dep_deepI (n := n) (f := f) (b := 0) (by omega)
    omega
  · intro i hi
    have := dep_pos hP hi
    refine ⟨by omega, by omega, by omega, by omega, by omega⟩

theorem DP.enter {n : Nat} {f : Nat → Int} (hP : WorldP n f) {r k : Nat} {d : Nat → Int} {best : Int} (h : DP n f r k d best) (hk : k < n) (v : Int) (hv : v = max (d k) 1) : DPin n f r k 0 (upd d k v) best := by
  refine ⟨h.lo, h.hi, ?_, ?_, fun b hb => absurd hb (Nat.not_lt_zero _)⟩
  · intro i hi
    have hd := dep_pos hP hi
    have ha := h.all i hi
    by_cases e : i = k
    · subst e; rw [upd_at]
      exact ⟨by omega, by omega, by omega, fun h => by omega, fun h => absurd rfl h⟩
    · rw [upd_other _ _ _ _ e]
      exact ⟨ha.1, ha.2.1, ha.2.2.2.1, ha.2.2.2.2, fun _ => ha.2.2.1⟩
  · rw [upd_at]; omega

theorem DPin.yes {n : Nat} {f : Nat → Int} (hP : WorldP n f) {r k j : Nat} {d : Nat → Int} {best : Int} (h : DPin n f r k j d best) (hk : k < n) (hj : j < n) (hp : neHas (f k) j k = true) (v : Int) (hv : v = max (d k) (d j + 1)) : DPin n f r k (j + 1) (upd d k v) best := by
  have hjk := ((neHas_iff _ _ _).1 hp).1
  have hs := dep_step hP hj hk hp
  have hkk := h.all k hk
  have hjj := h.all j hj
  refine ⟨h.lo, h.hi, ?_, ?_, ?_⟩
  · intro i hi
    have ha := h.all i hi
    by_cases e : i = k
    · subst e; rw [upd_at]
      exact ⟨by omega, by omega, by omega, fun h => by omega, fun h => absurd rfl h⟩
    · rw [upd_other _ _ _ _ e]; exact ha
  · rw [upd_at]; have := h.one; omega
  · intro b hb hbp
    have hbk := ((neHas_iff _ _ _).1 hbp).1
    rw [upd_at, upd_other _ _ _ _ hbk]
    by_cases e : b = j
    · subst e; omega
    · have := h.done b (by omega) hbp; omega

theorem DPin.no {n : Nat} {f : Nat → Int} {r k j : Nat} {d : Nat → Int} {best : Int} (h : DPin n f r k j d best) (hp : neHas (f k) j k = false) : DPin n f r k (j + 1) d best := by
  refine ⟨h.lo, h.hi, h.all, h.one, ?_⟩
  intro b hb hbp
  by_cases e : b = j
  · subst e; rw [hp] at hbp; cases hbp
  · exact h.done b (by omega) hbp

theorem DPin.leave {n : Nat} {f : Nat → Int} (hP : WorldP n f) {r k : Nat} {d : Nat → Int} {best : Int} (h : DPin n f r k n d best) (hk : k < n) (v : Int) (hv : v = max best (d k)) : DP n f r (k + 1) d v := by
  have hkk := h.all k hk
  have hdk := dep_deepI (n := n) (f := f) hk
  have hlo := h.lo
  have hhi := h.hi
  have hone := h.one
  refine ⟨by omega, by omega, ?_⟩
  intro i hi
  have ha := h.all i hi
  refine ⟨ha.1, ha.2.1, ?_, ha.2.2.1, ?_⟩
  · by_cases e : i = k
    · subst e; omega
    · have := ha.2.2.2.2 e; omega
  · intro hik
    by_cases e : i = k
    · subst e
      by_cases h2 : 2 ≤ dep n f i
      · obtain ⟨a, han, hab, he⟩ := dep_from hP hi h2
        have := h.done a han hab
        have := (h.all a han).2.2.1
        omega
      · omega
    · exact ha.2.2.2.1 (by omega)

theorem DP.round {n : Nat} {f : Nat → Int} {r : Nat} {d : Nat → Int} {best : Int} (h : DP n f r n d best) : DP n f (r + 1) 0 d best := by
  refine ⟨h.lo, h.hi, fun i hi => ?_⟩
  have ha := h.all i hi
  have := ha.2.2.2.2 hi
  exact ⟨ha.1, ha.2.1, ha.2.2.1, by omega, fun h => absurd h (Nat.not_lt_zero _)⟩

theorem DP.fin {n : Nat} {f : Nat → Int} (hP : WorldP n f) {d : Nat → Int} {best : Int} (h : DP n f n 0 d best) : best = deepI n f := by
  obtain ⟨b, hb, he⟩ := deepI_has hP
  have := h.all b hb
  have := dep_le hP hb
  have := h.hi
  omega
end Go.Proofs.Ytdbmgejjpafhoaa
