import Derived.Test.YtacoeaoaabjkoaaGrdM
namespace Go.Proofs.Ytacoeaoaabjkoaa
open Go.RowKit

/-- the mathematics of pieces: what is reached from a place within a thing, in k steps -/
def pcK (n : Nat) (f : Nat → Int) (a : Int) (p : Nat) : Nat → Int
  | 0 => 2 ^ p
  | k + 1 => andI (gwI n f (pcK n f a p k)) a
/-- the piece of a place -/
def pcI (n : Nat) (f : Nat → Int) (a : Int) (p : Nat) : Int := pcK n f a p n

/-- how many of the first k places a set has -/
def cntB (x : Int) : Nat → Nat
  | 0 => 0
  | k + 1 => cntB x k + (if hasB x k then 1 else 0)
theorem cnt_le (x : Int) (k : Nat) : cntB x k ≤ k := by
  induction k with
  | zero => exact Nat.le_refl _
  | succ k ih => rw [cntB]; split <;> omega
theorem cnt_mono {x y : Int} {k : Nat} (h : ∀ i, i < k → hasB x i = true → hasB y i = true) : cntB x k ≤ cntB y k := by
  induction k with
  | zero => exact Nat.le_refl _
  | succ k ih =>
    have h1 := ih (fun i hi => h i (by omega))
    rw [cntB, cntB]
    cases hx : hasB x k with
    | true => rw [h k (by omega) hx]; simpa using h1
    | false => simp; omega
theorem cnt_lt {x y : Int} {k : Nat} (h : ∀ i, i < k → hasB x i = true → hasB y i = true) {j : Nat} (hj : j < k) (h1 : hasB y j = true) (h2 : hasB x j = false) : cntB x k < cntB y k := by
  induction k with
  | zero => omega
  | succ k ih =>
    rw [cntB, cntB]
    by_cases e : j = k
    · subst e
      have h3 := cnt_mono (x := x) (y := y) (k := j) (fun i hi => h i (by omega))
      rw [h1, h2]; simp; omega
    · have h3 := ih (fun i hi => h i (by omega)) (by omega)
      cases hx : hasB x k with
      | true => rw [h k (by omega) hx]; simpa using h3
      | false => simp; omega
theorem cnt_pos {x : Int} {k j : Nat} (hj : j < k) (h1 : hasB x j = true) : 1 ≤ cntB x k := by
  have := cnt_lt (x := 0) (y := x) (k := k) (fun i _ hb => by rw [hasB_zero] at hb; cases hb) hj h1 (hasB_zero j)
  omega

section
variable {n : Nat} {f : Nat → Int} {a : Int} {p : Nat}
theorem hasB_pow8 (a i : Nat) : hasB ((2 : Int) ^ a) i = decide (a = i) := by
  rw [show (2 : Int) ^ a = ((2 ^ a : Nat) : Int) by simp, hasB_nat, Nat.testBit_two_pow]
theorem pw_self (p : Nat) : hasB ((2 : Int) ^ p) p = true := by rw [hasB_pow8]; simp

/-- a thing: places below n -/
structure ThP (n : Nat) (f : Nat → Int) (a : Int) : Prop where
  g : GrdP n f
  lo : 0 ≤ a
  hi : a < 2 ^ n
theorem ThP.lt (h : ThP n f a) {i : Nat} (hb : hasB a i = true) : i < n := hasB_lt ⟨h.lo, h.hi⟩ hb
theorem ThP.i64 (h : ThP n f a) : I64 a := by
  have := pow_bounds n h.g.hi
  have := h.lo; have := h.hi
  unfold I64; omega

theorem pcK_bit (k q : Nat) (hq : q < 64) : hasB (pcK n f a p (k + 1)) q = true ↔ (hasB (pcK n f a p k) q = true ∨ ∃ j, j < n ∧ hasB (pcK n f a p k) j = true ∧ hasB (f j) q = true) ∧ hasB a q = true := by
  rw [pcK, and_bit _ _ _ hq, Bool.and_eq_true, gw_bit _ _ _ _ hq]
theorem pcK_in (hp : hasB a p = true) (k q : Nat) (hq : q < 64) (h : hasB (pcK n f a p k) q = true) : hasB a q = true := by
  cases k with
  | zero =>
    rw [pcK, hasB_pow8, decide_eq_true_eq] at h
    subst h; exact hp
  | succ k => exact ((pcK_bit k q hq).1 h).2
theorem pcK_self (hp : hasB a p = true) (hq : p < 64) (k : Nat) : hasB (pcK n f a p k) p = true := by
  induction k with
  | zero => rw [pcK]; exact pw_self p
  | succ k ih => exact (pcK_bit k p hq).2 ⟨.inl ih, hp⟩
theorem pcK_up (hp : hasB a p = true) (k q : Nat) (hq : q < 64) (h : hasB (pcK n f a p k) q = true) : hasB (pcK n f a p (k + 1)) q = true :=
  (pcK_bit k q hq).2 ⟨.inl h, pcK_in hp k q hq h⟩
theorem pcK_le (hp : hasB a p = true) {k m : Nat} (hkm : k ≤ m) (q : Nat) (hq : q < 64) (h : hasB (pcK n f a p k) q = true) : hasB (pcK n f a p m) q = true := by
  induction hkm with
  | refl => exact h
  | step _ ih => exact pcK_up hp _ q hq ih
theorem pcK_I64 (hp : p < 63) (k : Nat) : I64 (pcK n f a p k) := by
  cases k with
  | zero =>
    rw [pcK]
    have h1 : (2 : Nat) ^ p < 2 ^ 63 := Nat.pow_lt_pow_right (by omega) hp
    have e1 : ((2 ^ p : Nat) : Int) = 2 ^ p := by simp
    have e2 : (2 : Nat) ^ 63 = 9223372036854775808 := by decide
    have h2 := Nat.one_le_two_pow (n := p)
    unfold I64; omega
  | succ k => rw [pcK]; exact andI_I64 _ _

theorem pc_still (hT : ThP n f a) (hp : hasB a p = true) (k : Nat) : (∃ j, j < k ∧ pcK n f a p (j + 1) = pcK n f a p j) ∨ k + 1 ≤ cntB (pcK n f a p k) n := by
  have h7 := hT.g.hi
  have hpn := hT.lt hp
  induction k with
  | zero => exact .inr (cnt_pos hpn (by rw [pcK]; exact pw_self p))
  | succ k ih =>
    by_cases e : pcK n f a p (k + 1) = pcK n f a p k
    · exact .inl ⟨k, by omega, e⟩
    · rcases ih with ⟨j, hj, h⟩ | h
      · exact .inl ⟨j, by omega, h⟩
      · refine .inr ?_
        have hex : ∃ i, i < 64 ∧ hasB (pcK n f a p (k + 1)) i = true ∧ hasB (pcK n f a p k) i = false := by
          apply Classical.byContradiction
          intro hno
          apply e
          apply ext64 _ _ (pcK_I64 (by omega) _) (pcK_I64 (by omega) _)
          intro i hi
          cases h1 : hasB (pcK n f a p k) i with
          | true => exact pcK_up hp k i hi h1
          | false =>
            cases h2 : hasB (pcK n f a p (k + 1)) i with
            | false => rfl
            | true => exact (hno ⟨i, hi, h2, h1⟩).elim
        obtain ⟨i, hi, h1, h2⟩ := hex
        have hin := hT.lt (pcK_in hp _ i hi h1)
        have := cnt_lt (x := pcK n f a p k) (y := pcK n f a p (k + 1)) (k := n) (fun i hi hb => pcK_up hp k i (by omega) hb) hin h1 h2
        omega
theorem pc_stop {j : Nat} (h : pcK n f a p (j + 1) = pcK n f a p j) {m : Nat} (hm : j ≤ m) : pcK n f a p m = pcK n f a p j := by
  induction hm with
  | refl => rfl
  | step _ ih =>
    rw [pcK, ih]
    rw [pcK] at h; exact h
theorem pc_end (hT : ThP n f a) (hp : hasB a p = true) (m : Nat) (hm : n ≤ m) : pcK n f a p m = pcI n f a p := by
  rcases pc_still hT hp n with ⟨j, hj, h⟩ | h
  · unfold pcI
    rw [pc_stop h (show j ≤ m by omega), pc_stop h (show j ≤ n by omega)]
  · have := cnt_le (pcK n f a p n) n
    omega
theorem pc_any (hT : ThP n f a) (hp : hasB a p = true) (k q : Nat) (hq : q < 64) (h : hasB (pcK n f a p k) q = true) : hasB (pcI n f a p) q = true := by
  by_cases hk : k ≤ n
  · exact pcK_le hp hk q hq h
  · rw [← pc_end hT hp k (by omega)]; exact h

/-- q is reached from p -/
def Cn (n : Nat) (f : Nat → Int) (a : Int) (p q : Nat) : Prop := hasB a p = true ∧ q < n ∧ hasB (pcI n f a p) q = true
theorem Cn.refl (hT : ThP n f a) (hp : hasB a p = true) : Cn n f a p p := by
  have h7 := hT.g.hi
  have := hT.lt hp
  exact ⟨hp, this, pcK_self hp (by omega) n⟩
theorem Cn.in {q : Nat} (hT : ThP n f a) (h : Cn n f a p q) : hasB a q = true := by
  have h7 := hT.g.hi
  exact pcK_in h.1 n q (by have := h.2.1; omega) h.2.2
theorem Cn.step {q r : Nat} (hT : ThP n f a) (h : Cn n f a p q) (hr : hasB a r = true) (hf : hasB (f q) r = true) : Cn n f a p r := by
  have h7 := hT.g.hi
  have hrn := hT.lt hr
  refine ⟨h.1, hrn, ?_⟩
  rw [← pc_end hT h.1 (n + 1) (by omega)]
  exact (pcK_bit n r (by omega)).2 ⟨.inr ⟨q, h.2.1, h.2.2, hf⟩, hr⟩
theorem Cn.ind (hT : ThP n f a) {P : Nat → Prop} (h0 : P p) (hs : ∀ q r, Cn n f a p q → P q → hasB a r = true → hasB (f q) r = true → P r) {q : Nat} (h : Cn n f a p q) : P q := by
  have h7 := hT.g.hi
  obtain ⟨hp, hq, hb⟩ := h
  have key : ∀ k q, q < n → hasB (pcK n f a p k) q = true → P q := by
    intro k
    induction k with
    | zero =>
      intro q _ hb
      rw [pcK, hasB_pow8, decide_eq_true_eq] at hb
      subst hb; exact h0
    | succ k ih =>
      intro q hq hb
      obtain ⟨h1 | ⟨j, hj, h1, h2⟩, h3⟩ := (pcK_bit k q (by omega)).1 hb
      · exact ih q hq h1
      · exact hs j q ⟨hp, hj, pc_any hT hp k j (by omega) h1⟩ (ih j hj h1) h3 h2
  exact key n q hq hb
theorem Cn.trans {q r : Nat} (hT : ThP n f a) (h1 : Cn n f a p q) (h2 : Cn n f a q r) : Cn n f a p r :=
  Cn.ind hT (P := fun r => Cn n f a p r) h1 (fun _ _ _ h hr hf => h.step hT hr hf) h2
theorem Cn.symm {q : Nat} (hT : ThP n f a) (h : Cn n f a p q) : Cn n f a q p := by
  refine Cn.ind hT (P := fun q => Cn n f a q p) (Cn.refl hT h.1) (fun x r hx hxp hr hf => ?_) h
  have hrn := hT.lt hr
  exact ((Cn.refl hT hr).step hT (hx.in hT) (by rw [hT.g.sym r hrn x hx.2.1]; exact hf)).trans hT hxp

theorem pc_I64 (hp : p < n) (hn : n ≤ 7) : I64 (pcI n f a p) := pcK_I64 (by omega) n
theorem pc_bit (hT : ThP n f a) (hp : hasB a p = true) {i : Nat} (hi : i < 64) : hasB (pcI n f a p) i = true ↔ Cn n f a p i := by
  constructor
  · intro h
    exact ⟨hp, hT.lt (pcK_in hp n i hi h), h⟩
  · intro h; exact h.2.2
theorem pc_rng (hT : ThP n f a) (hp : hasB a p = true) : 1 ≤ pcI n f a p ∧ pcI n f a p < 2 ^ n := by
  have h7 := hT.g.hi
  have hpn := hT.lt hp
  have h := lt_of_bits (pcI n f a p) n (by omega) (pc_I64 hpn h7) (fun i hi hni => by
    rw [Bool.eq_false_iff]
    intro hb
    have := ((pc_bit hT hp hi).1 hb).2.1
    omega)
  have hne : pcI n f a p ≠ 0 := by
    intro e
    have := (Cn.refl hT hp).2.2
    rw [e, hasB_zero] at this; cases this
  omega
theorem pc_same {q : Nat} (hT : ThP n f a) (h : Cn n f a p q) : pcI n f a q = pcI n f a p := by
  have h7 := hT.g.hi
  have hpn := hT.lt h.1
  have hq := h.in hT
  apply ext64 _ _ (pc_I64 h.2.1 h7) (pc_I64 hpn h7)
  intro i hi
  rw [Bool.eq_iff_iff, pc_bit hT hq hi, pc_bit hT h.1 hi]
  exact ⟨fun h2 => h.trans hT h2, fun h2 => (h.symm hT).trans hT h2⟩

/-- it hangs together -/
def tgB (n : Nat) (f : Nat → Int) (a : Int) : Bool := decide (∀ p, p < n → hasB a p = true → pcI n f a p = a)
theorem tg_iff (hT : ThP n f a) : tgB n f a = true ↔ ∀ p q, hasB a p = true → hasB a q = true → Cn n f a p q := by
  have h7 := hT.g.hi
  unfold tgB
  rw [decide_eq_true_eq]
  constructor
  · intro h p q hp hq
    have hqn := hT.lt hq
    refine (pc_bit hT hp (by omega)).1 ?_
    rw [h p (hT.lt hp) hp]; exact hq
  · intro h p hpn hp
    apply ext64 _ _ (pc_I64 hpn h7) hT.i64
    intro i hi
    rw [Bool.eq_iff_iff, pc_bit hT hp hi]
    exact ⟨fun h2 => h2.in hT, fun h2 => h p i hp h2⟩
/-- from one place all are reached -/
theorem tg_one (hT : ThP n f a) {p : Nat} (hp : hasB a p = true) : tgB n f a = (pcI n f a p == a) := by
  have h7 := hT.g.hi
  rw [Bool.eq_iff_iff, beq_iff_eq]
  constructor
  · intro h
    unfold tgB at h
    rw [decide_eq_true_eq] at h
    exact h p (hT.lt hp) hp
  · intro h
    refine (tg_iff hT).2 (fun q r hq hr => ?_)
    have hqn := hT.lt hq
    have hrn := hT.lt hr
    have h1 : Cn n f a p q := (pc_bit hT hp (by omega)).1 (by rw [h]; exact hq)
    have h2 : Cn n f a p r := (pc_bit hT hp (by omega)).1 (by rw [h]; exact hr)
    exact (h1.symm hT).trans hT h2

/-- two parts, both not empty, that do not touch -/
theorem tg_cut {x y : Int} (hT : ThP n f a) (hxy : ∀ i, i < 64 → hasB a i = (hasB x i || hasB y i)) (hx : ∃ i, i < n ∧ hasB x i = true) (hy : ∃ i, i < n ∧ hasB y i = true ∧ hasB x i = false)
    (h : tgB n f a = true) : andI (gwI n f x) y ≠ 0 := by
  have h7 := hT.g.hi
  intro hz
  rw [and_zero_iff] at hz
  obtain ⟨p, hpn, hp⟩ := hx
  obtain ⟨q, hqn, hq, hqx⟩ := hy
  have hpa : hasB a p = true := by rw [hxy p (by omega), hp]; rfl
  have hqa : hasB a q = true := by rw [hxy q (by omega), hq, Bool.or_true]
  have hc := (tg_iff hT).1 h p q hpa hqa
  have := Cn.ind hT (P := fun i => hasB x i = true) hp (fun i r hi hix hr hf => by
    have hrn := hT.lt hr
    have h1 := hxy r (by omega)
    rw [hr] at h1
    cases hrx : hasB x r with
    | true => rfl
    | false =>
      have h2 := hz r (by omega) ((gw_bit _ _ _ _ (by omega)).2 (.inr ⟨i, hi.2.1, hix, hf⟩))
      rw [hrx, h2] at h1; cases h1) hc
  rw [hqx] at this; cases this
/-- what does not hang together is cut by a piece -/
theorem tg_no (hT : ThP n f a) (h : tgB n f a = false) : ∃ p q, Cn n f a p p ∧ hasB a q = true ∧ ¬ Cn n f a p q := by
  apply Classical.byContradiction
  intro hno
  have : tgB n f a = true := (tg_iff hT).2 (fun p q hp hq => by
    apply Classical.byContradiction
    intro hc
    exact hno ⟨p, q, Cn.refl hT hp, hq, hc⟩)
  rw [h] at this; cases this
theorem touch_swap {x y : Int} (hP : GrdP n f) (hx : ∀ i, i < 64 → hasB x i = true → i < n) (_ : ∀ i, i < 64 → hasB y i = true → i < n) (h : andI (gwI n f x) y = 0) : andI (gwI n f y) x = 0 := by
  have h7 := hP.hi
  rw [and_zero_iff] at h ⊢
  intro i hi hb
  cases hix : hasB x i with
  | false => rfl
  | true =>
    have hin := hx i hi hix
    rcases (gw_bit _ _ _ _ hi).1 hb with h1 | ⟨j, hj, h1, h2⟩
    · have := h i hi ((gw_bit _ _ _ _ hi).2 (.inl hix))
      rw [h1] at this; cases this
    · have := h j (by omega) ((gw_bit _ _ _ _ (by omega)).2 (.inr ⟨i, hin, hix, by rw [hP.sym i hin j hj]; exact h2⟩))
      rw [h1] at this; cases this
/-- a piece touches nothing else of the thing -/
theorem pc_apart (hT : ThP n f a) (hp : hasB a p = true) {y : Int} (hy : ∀ i, i < 64 → hasB y i = true → hasB a i = true ∧ ¬ Cn n f a p i) : andI (gwI n f (pcI n f a p)) y = 0 := by
  have h7 := hT.g.hi
  rw [and_zero_iff]
  intro i hi hb
  cases hiy : hasB y i with
  | false => rfl
  | true =>
    obtain ⟨h1, h2⟩ := hy i hi hiy
    exfalso
    apply h2
    rcases (gw_bit _ _ _ _ hi).1 hb with h3 | ⟨j, hj, h3, h4⟩
    · exact (pc_bit hT hp hi).1 h3
    · exact ((pc_bit hT hp (by omega)).1 h3).step hT h1 h4

/-- the least place of its piece -/
def ldB (n : Nat) (f : Nat → Int) (a : Int) (p : Nat) : Bool := hasB a p && decide (∀ q, q < p → hasB (pcI n f a p) q = false)
theorem ld_iff (hT : ThP n f a) : ldB n f a p = true ↔ hasB a p = true ∧ ∀ q, q < p → ¬ Cn n f a p q := by
  unfold ldB
  rw [Bool.and_eq_true, decide_eq_true_eq]
  constructor
  · rintro ⟨h1, h2⟩
    exact ⟨h1, fun q hq h => by have := h2 q hq; rw [h.2.2] at this; cases this⟩
  · rintro ⟨h1, h2⟩
    have hpn := hT.lt h1
    refine ⟨h1, fun q hq => ?_⟩
    rw [Bool.eq_false_iff]
    intro hb
    exact h2 q hq ⟨h1, by omega, hb⟩
/-- each place is in the piece of a least one -/
theorem ld_of (hT : ThP n f a) : ∀ p, hasB a p = true → ∃ q, q ≤ p ∧ ldB n f a q = true ∧ Cn n f a q p := by
  intro p
  induction p using Nat.strongRecOn with
  | _ p ih =>
    intro hp
    by_cases h : ldB n f a p = true
    · exact ⟨p, Nat.le_refl _, h, Cn.refl hT hp⟩
    · rw [ld_iff hT] at h
      have : ∃ q, q < p ∧ Cn n f a p q := by
        apply Classical.byContradiction
        intro hno
        exact h ⟨hp, fun q hq hc => hno ⟨q, hq, hc⟩⟩
      obtain ⟨q, hq, hc⟩ := this
      obtain ⟨r, hr, h1, h2⟩ := ih q hq (hc.in hT)
      exact ⟨r, by omega, h1, h2.trans hT (hc.symm hT)⟩

/-- the pieces whose least place is below k -/
def pcsK (n : Nat) (f : Nat → Int) (a : Int) (k : Nat) : List Int := ((List.range k).filter (ldB n f a)).map (pcI n f a)
def pcsL (n : Nat) (f : Nat → Int) (a : Int) : List Int := pcsK n f a n
theorem pcsK_yes {k : Nat} (h : ldB n f a k = true) : pcsK n f a (k + 1) = pcsK n f a k ++ [pcI n f a k] := by
  unfold pcsK; rw [List.range_succ, List.filter_append, List.map_append]; simp [h]
theorem pcsK_no {k : Nat} (h : ldB n f a k = false) : pcsK n f a (k + 1) = pcsK n f a k := by
  unfold pcsK; rw [List.range_succ, List.filter_append, List.map_append]; simp [h]
theorem pcsK_top (hT : ThP n f a) (k : Nat) (hk : n ≤ k) : pcsK n f a k = pcsL n f a := by
  induction hk with
  | refl => rfl
  | @step m hm ih =>
    have hm2 : n ≤ m := hm
    rw [pcsK_no, ih]
    rw [Bool.eq_false_iff]
    intro h
    have := hT.lt ((ld_iff hT).1 h).1
    omega
theorem pcsK_len (k : Nat) : (pcsK n f a k).length ≤ k := by
  unfold pcsK
  rw [List.length_map]
  have := List.length_filter_le (ldB n f a) (List.range k)
  rw [List.length_range] at this
  exact this
theorem pcs_mem {x : Int} : x ∈ pcsL n f a ↔ ∃ p, p < n ∧ ldB n f a p = true ∧ pcI n f a p = x := by
  unfold pcsL pcsK
  rw [List.mem_map]
  constructor
  · rintro ⟨p, hp, rfl⟩
    rw [List.mem_filter, List.mem_range] at hp
    exact ⟨p, hp.1, hp.2, rfl⟩
  · rintro ⟨p, h1, h2, rfl⟩
    exact ⟨p, List.mem_filter.2 ⟨List.mem_range.2 h1, h2⟩, rfl⟩

/-- what is left, in the model's loop, when the places below k are over -/
def lfB (n : Nat) (f : Nat → Int) (a : Int) (k i : Nat) : Prop := hasB a i = true ∧ ∀ q, q < k → ldB n f a q = true → ¬ Cn n f a q i
theorem lf_zero (i : Nat) : lfB n f a 0 i ↔ hasB a i = true := ⟨fun h => h.1, fun h => ⟨h, fun _ hq => absurd hq (Nat.not_lt_zero _)⟩⟩
theorem lf_lead (hT : ThP n f a) (k : Nat) : lfB n f a k k ↔ ldB n f a k = true := by
  constructor
  · rintro ⟨h1, h2⟩
    refine (ld_iff hT).2 ⟨h1, fun q hq hc => ?_⟩
    obtain ⟨r, hr, h3, h4⟩ := ld_of hT q (hc.in hT)
    exact h2 r (by omega) h3 (h4.trans hT (hc.symm hT))
  · intro h
    obtain ⟨h1, h2⟩ := (ld_iff hT).1 h
    exact ⟨h1, fun q hq _ hc => h2 q hq (hc.symm hT)⟩
theorem lf_yes {k i : Nat} (h : ldB n f a k = true) : lfB n f a (k + 1) i ↔ lfB n f a k i ∧ ¬ Cn n f a k i := by
  constructor
  · rintro ⟨h1, h2⟩
    exact ⟨⟨h1, fun q hq => h2 q (by omega)⟩, h2 k (by omega) h⟩
  · rintro ⟨⟨h1, h2⟩, h3⟩
    refine ⟨h1, fun q hq hl hc => ?_⟩
    by_cases e : q = k
    · subst e; exact h3 hc
    · exact h2 q (by omega) hl hc
theorem lf_no {k i : Nat} (h : ldB n f a k = false) : lfB n f a (k + 1) i ↔ lfB n f a k i := by
  constructor
  · rintro ⟨h1, h2⟩
    exact ⟨h1, fun q hq => h2 q (by omega)⟩
  · rintro ⟨h1, h2⟩
    refine ⟨h1, fun q hq hl hc => ?_⟩
    by_cases e : q = k
    · subst e; rw [h] at hl; cases hl
    · exact h2 q (by omega) hl hc
end
end Go.Proofs.Ytacoeaoaabjkoaa

namespace Go.Proofs.Ytacoeaoaabjkoaa
open Go.RowKit

/-- what stands for a place: where the links lead -/
def rtU (u : Nat → Nat) (i : Nat) : Nat := if _h : u i < i then rtU u (u i) else i
  termination_by i
theorem rt_lt {u : Nat → Nat} {i : Nat} (h : u i < i) : rtU u i = rtU u (u i) := by rw [rtU, dif_pos h]
theorem rt_ge {u : Nat → Nat} {i : Nat} (h : ¬ u i < i) : rtU u i = i := by rw [rtU, dif_neg h]
def UpP (u : Nat → Nat) : Prop := ∀ i, i < 7 → u i ≤ i
theorem rt_le (u : Nat → Nat) (i : Nat) : rtU u i ≤ i := by
  induction i using Nat.strongRecOn with
  | _ i ih =>
    by_cases h : u i < i
    · rw [rt_lt h]; have := ih _ h; omega
    · rw [rt_ge h]; exact Nat.le_refl _
theorem rt_fix {u : Nat → Nat} (hu : UpP u) (i : Nat) (hi : i < 7) : u (rtU u i) = rtU u i := by
  induction i using Nat.strongRecOn with
  | _ i ih =>
    by_cases h : u i < i
    · rw [rt_lt h]; exact ih _ h (by omega)
    · rw [rt_ge h]; have := hu i hi; omega
theorem rt_of {u : Nat → Nat} {i : Nat} (h : u i = i) : rtU u i = i := rt_ge (by omega)
theorem rt_step {u : Nat → Nat} (hu : UpP u) {i : Nat} (hi : i < 7) : rtU u (u i) = rtU u i := by
  by_cases h : u i < i
  · rw [rt_lt h]
  · have : u i = i := by have := hu i hi; omega
    rw [this]
theorem rt_rt {u : Nat → Nat} (hu : UpP u) {i : Nat} (hi : i < 7) : rtU u (rtU u i) = rtU u i := rt_of (rt_fix hu i hi)
def setU (u : Nat → Nat) (M m : Nat) : Nat → Nat := fun i => if i = M then m else u i
theorem setU_up {u : Nat → Nat} (hu : UpP u) {M m : Nat} (h : m ≤ M) : UpP (setU u M m) := by
  intro i hi
  unfold setU
  split
  · omega
  · exact hu i hi
theorem setU_rt {u : Nat → Nat} {M m : Nat} (hM : u M = M) (hm : u m = m) (h : m ≤ M) (i : Nat) : rtU (setU u M m) i = if rtU u i = M then m else rtU u i := by
  have hmm : setU u M m m = m := by unfold setU; split; rfl; exact hm
  induction i using Nat.strongRecOn with
  | _ i ih =>
    by_cases e : i = M
    · subst e
      have hv : setU u i m i = m := by unfold setU; rw [if_pos rfl]
      rw [rt_of hM, if_pos rfl]
      by_cases h2 : m < i
      · rw [rt_lt (by rw [hv]; exact h2), hv, rt_of hmm]
      · rw [rt_ge (by rw [hv]; exact h2)]; omega
    · have hv : setU u M m i = u i := by unfold setU; rw [if_neg e]
      by_cases h2 : u i < i
      · rw [rt_lt (by rw [hv]; exact h2), hv, ih _ h2, rt_lt h2]
      · rw [rt_ge (by rw [hv]; exact h2), rt_ge h2, if_neg e]
def uniU (u : Nat → Nat) (p q : Nat) : Nat → Nat := setU u (max (rtU u p) (rtU u q)) (min (rtU u p) (rtU u q))

section
variable {n : Nat} {f : Nat → Int} {a : Int}
/-- the links know the edges D, and nothing that does not hang together -/
structure UfP (n : Nat) (f : Nat → Int) (a : Int) (u : Nat → Nat) (D : Nat → Nat → Prop) : Prop where
  up : UpP u
  sound : ∀ i j, i < 7 → j < 7 → rtU u i = rtU u j → i = j ∨ Cn n f a i j
  done : ∀ i j, D i j → rtU u i = rtU u j
theorem UfP.start : UfP n f a (fun i => i) (fun _ _ => False) :=
  ⟨fun i _ => Nat.le_refl i, fun i j _ _ h => by rw [rt_of rfl, rt_of rfl] at h; exact .inl h, fun _ _ h => h.elim⟩
theorem UfP.mono {u : Nat → Nat} {D D' : Nat → Nat → Prop} (h : UfP n f a u D) (hd : ∀ i j, D' i j → D i j) : UfP n f a u D' :=
  ⟨h.up, h.sound, fun i j hij => h.done i j (hd i j hij)⟩
theorem UfP.unite (hT : ThP n f a) {u : Nat → Nat} {D : Nat → Nat → Prop} (h : UfP n f a u D) {p q : Nat} (hp : p < 7) (hq : q < 7) (hc : Cn n f a p q) :
    UfP n f a (uniU u p q) (fun i j => D i j ∨ (i = p ∧ j = q)) := by
  have hrp := rt_fix h.up p hp
  have hrq := rt_fix h.up q hq
  have hle : min (rtU u p) (rtU u q) ≤ max (rtU u p) (rtU u q) := by omega
  have hM : u (max (rtU u p) (rtU u q)) = max (rtU u p) (rtU u q) := by
    rcases Nat.le_total (rtU u p) (rtU u q) with h1 | h1
    · rw [Nat.max_eq_right h1]; exact hrq
    · rw [Nat.max_eq_left h1]; exact hrp
  have hm : u (min (rtU u p) (rtU u q)) = min (rtU u p) (rtU u q) := by
    rcases Nat.le_total (rtU u p) (rtU u q) with h1 | h1
    · rw [Nat.min_eq_left h1]; exact hrp
    · rw [Nat.min_eq_right h1]; exact hrq
  have hR : ∀ i, rtU (uniU u p q) i = if rtU u i = max (rtU u p) (rtU u q) then min (rtU u p) (rtU u q) else rtU u i := setU_rt hM hm hle
  have hsym : ∀ i j, (i = j ∨ Cn n f a i j) → (j = i ∨ Cn n f a j i) := fun i j hij => by
    rcases hij with rfl | hij
    · exact .inl rfl
    · exact .inr (hij.symm hT)
  have htr : ∀ i j k, (i = j ∨ Cn n f a i j) → (j = k ∨ Cn n f a j k) → (i = k ∨ Cn n f a i k) := fun i j k h1 h2 => by
    rcases h1 with rfl | h1
    · exact h2
    · rcases h2 with rfl | h2
      · exact .inr h1
      · exact .inr (h1.trans hT h2)
  have hpq : p = q ∨ Cn n f a p q := .inr hc
  have hkey : ∀ i j, i < 7 → j < 7 → rtU u i = max (rtU u p) (rtU u q) → rtU u j = min (rtU u p) (rtU u q) → i = j ∨ Cn n f a i j := fun i j hi hj h1 h2 => by
    rcases Nat.le_total (rtU u p) (rtU u q) with h3 | h3
    · rw [Nat.max_eq_right h3] at h1
      rw [Nat.min_eq_left h3] at h2
      exact htr _ _ _ (h.sound i q hi hq h1) (htr _ _ _ (hsym _ _ hpq) (hsym _ _ (h.sound j p hj hp h2)))
    · rw [Nat.max_eq_left h3] at h1
      rw [Nat.min_eq_right h3] at h2
      exact htr _ _ _ (h.sound i p hi hp h1) (htr _ _ _ hpq (hsym _ _ (h.sound j q hj hq h2)))
  refine ⟨setU_up h.up hle, fun i j hi hj hij => ?_, fun i j hij => ?_⟩
  · rw [hR, hR] at hij
    split at hij
    · rename_i h1
      split at hij
      · rename_i h2
        exact h.sound i j hi hj (by rw [h1, h2])
      · exact hkey i j hi hj h1 hij.symm
    · split at hij
      · rename_i h2
        exact hsym _ _ (hkey j i hj hi h2 hij)
      · exact h.sound i j hi hj hij
  · rw [hR, hR]
    rcases hij with hij | ⟨rfl, rfl⟩
    · rw [h.done i j hij]
    · split
      · split
        · rfl
        · omega
      · split
        · omega
        · omega
/-- all edges are known -/
def Edg (_ : Nat) (f : Nat → Int) (a : Int) (i j : Nat) : Prop := hasB a i = true ∧ hasB a j = true ∧ hasB (f i) j = true
theorem UfP.all (hT : ThP n f a) {u : Nat → Nat} (h : UfP n f a u (Edg n f a)) {p q : Nat} (hc : Cn n f a p q) : rtU u p = rtU u q :=
  Cn.ind hT (P := fun q => rtU u p = rtU u q) rfl (fun i r hi hpi hr hf => hpi.trans (h.done i r ⟨hi.in hT, hr, hf⟩)) hc
/-- the places for which k stands -/
def stI (a : Int) (u : Nat → Nat) (k : Nat) : Int := setOf (fun i => hasB a i && (rtU u i == k)) 7
theorem st_yes (hT : ThP n f a) {u : Nat → Nat} (h : UfP n f a u (Edg n f a)) {k : Nat} (hl : ldB n f a k = true) : stI a u k = pcI n f a k := by
  have h7 := hT.g.hi
  obtain ⟨h1, h2⟩ := (ld_iff hT).1 hl
  have hkn := hT.lt h1
  have hrk : rtU u k = k := by
    have hle := rt_le u k
    rcases h.sound (rtU u k) k (by omega) (by omega) (rt_rt h.up (by omega)) with e | e
    · exact e
    · apply Classical.byContradiction
      intro hne
      exact h2 (rtU u k) (by omega) (e.symm hT)
  apply ext64 _ _ (setOf_I64 _ _) (pc_I64 hkn h7)
  intro i hi
  show hasB (setOf (fun i => hasB a i && (rtU u i == k)) 7) i = _
  rw [setOf_bit _ _ _ hi, Bool.eq_iff_iff, Bool.and_eq_true, Bool.and_eq_true, decide_eq_true_eq, beq_iff_eq, pc_bit hT h1 hi]
  constructor
  · rintro ⟨h3, h4, h5⟩
    rcases h.sound k i (by omega) h3 (by rw [hrk, h5]) with e | e
    · subst e; exact Cn.refl hT h1
    · exact e
  · intro hc
    have := hc.2.1
    exact ⟨by omega, hc.in hT, by rw [← h.all hT hc, hrk]⟩
theorem st_no (hT : ThP n f a) {u : Nat → Nat} (h : UfP n f a u (Edg n f a)) {k : Nat} (hk : k < 7) (hl : ldB n f a k = false) : stI a u k = 0 := by
  have h7 := hT.g.hi
  apply ext64 _ _ (setOf_I64 _ _) I64_zero
  intro i hi
  show hasB (setOf (fun i => hasB a i && (rtU u i == k)) 7) i = _
  rw [setOf_bit _ _ _ hi, hasB_zero, Bool.eq_false_iff]
  intro hb
  rw [Bool.and_eq_true, Bool.and_eq_true, decide_eq_true_eq, beq_iff_eq] at hb
  obtain ⟨h3, h4, h5⟩ := hb
  have hrk : rtU u k = k := by rw [← h5]; exact rt_rt h.up h3
  have hka : hasB a k = true := by
    rcases h.sound i k h3 hk (by rw [h5, hrk]) with e | e
    · subst e; exact h4
    · exact e.in hT
  rw [Bool.eq_false_iff] at hl
  apply hl
  refine (ld_iff hT).2 ⟨hka, fun q hq hc => ?_⟩
  have e := h.all hT hc
  have := rt_le u q
  omega
end
end Go.Proofs.Ytacoeaoaabjkoaa
