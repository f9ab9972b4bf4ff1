import Derived.Test.YtacoeaoaabjkoaaLaw9M
namespace Go.Proofs.Ytacoeaoaabjkoaa
open Go.RowKit

section
variable {n : Nat} {f : Nat → Int} {a : Int}
theorem th_rs (hT : ThP n f a) : ThP n f (rsI n a) ∧ ∀ i, i < 64 → hasB (rsI n a) i = (decide (i < n) && !hasB a i) := by
  have h7 := hT.g.hi
  have hb : ∀ i, i < 64 → hasB (rsI n a) i = (decide (i < n) && !hasB a i) := fun i hi => by
    rw [rsI, andNot_bit _ _ _ hi, hasB_low]
  have h := lt_of_bits (rsI n a) n (by omega) (andNot_I64 _ _) (fun i hi hni => by
    rw [hb i hi, decide_eq_false (by omega)]; rfl)
  exact ⟨⟨hT.g, h.1, h.2⟩, hb⟩
theorem th_all (hP : GrdP n f) : ThP n f (2 ^ n - 1) := by
  have := all_rng8 hP.lo
  exact ⟨hP, by omega, this.2⟩
/-- the holes are pieces of what is left -/
theorem ho_mem (h64 : ∀ i, i < n → I64 (f i)) (ha : I64 a) {h : Int} (hm : h ∈ hoV n f a) : ThP n f a ∧ 1 ≤ a ∧ ∃ p, hasB (rsI n a) p = true ∧ h = pcI n f (rsI n a) p ∧ hasB h 0 = false := by
  unfold hoV at hm
  split at hm
  · rename_i ht
    obtain ⟨hT, h1⟩ := th_of h64 ha ht
    obtain ⟨h2, h3⟩ := evL_mem.1 hm
    unfold pcV at h2
    split at h2
    · obtain ⟨p, _, hl, rfl⟩ := pcs_mem.1 h2
      exact ⟨hT, h1, p, ((ld_iff (th_rs hT).1).1 hl).1, rfl, h3⟩
    · cases h2
  · cases hm
theorem ho_tg (h64 : ∀ i, i < n → I64 (f i)) (ha : I64 a) {h : Int} (hm : h ∈ hoV n f a) : tgV n f h = true := by
  obtain ⟨hT, _, p, hp, rfl, _⟩ := ho_mem h64 ha hm
  exact pc_tgV h64 (th_rs hT).1 hp
theorem ho_and (h64 : ∀ i, i < n → I64 (f i)) (ha : I64 a) {h : Int} (hm : h ∈ hoV n f a) : andI h a = 0 := by
  obtain ⟨hT, _, p, hp, rfl, _⟩ := ho_mem h64 ha hm
  obtain ⟨hR, hb⟩ := th_rs hT
  refine (and_zero_iff _ _).2 (fun i hi hbi => ?_)
  have := ((pc_bit hR hp hi).1 hbi).in hR
  rw [hb i hi, Bool.and_eq_true, Bool.not_eq_true'] at this
  exact this.2
/-- in a ground that hangs together a hole touches the thing -/
theorem ho_near (hT : ThP n f a) (h1 : 1 ≤ a) (hw : tgB n f (2 ^ n - 1) = true) {p : Nat} (hp : hasB (rsI n a) p = true) : ∃ i j, i < n ∧ j < n ∧ hasB (pcI n f (rsI n a) p) i = true ∧ hasB a j = true ∧ hasB (f i) j = true := by
  have h7 := hT.g.hi
  obtain ⟨hR, hb⟩ := th_rs hT
  have hA := th_all hT.g
  have hpn := hR.lt hp
  obtain ⟨j0, hj0, hbj0⟩ := some_bit8 h7 ⟨h1, hT.hi⟩
  apply Classical.byContradiction
  intro hno
  have key := Cn.ind hA (P := fun i => hasB (pcI n f (rsI n a) p) i = true) (p := p) ((pc_bit hR hp (by omega)).2 (Cn.refl hR hp)) (fun i r hi hbi hr hf => by
    have hrn := hA.lt hr
    cases har : hasB a r with
    | true => exact (hno ⟨i, r, hi.2.1, hrn, hbi, har, hf⟩).elim
    | false =>
      have hrr : hasB (rsI n a) r = true := by rw [hb r (by omega), decide_eq_true hrn, har]; rfl
      exact (pc_bit hR hp (by omega)).2 (((pc_bit hR hp (by have := hi.2.1; omega)).1 hbi).step hR hrr hf)) ((tg_iff hA).1 hw p j0 (by rw [hasB_low, decide_eq_true hpn]) (by rw [hasB_low, decide_eq_true hj0]))
  have := ((pc_bit hR hp (by omega)).1 key).in hR
  rw [hb j0 (by omega), hbj0] at this
  simp at this
theorem ho_touch (h64 : ∀ i, i < n → I64 (f i)) (ha : I64 a) (hw : tgV n f (2 ^ n - 1) = true) {h : Int} (hm : h ∈ hoV n f a) : otB n f a h = true := by
  have hand := ho_and h64 ha hm
  obtain ⟨hT, h1, p, hp, rfl, _⟩ := ho_mem h64 ha hm
  have h7 := hT.g.hi
  obtain ⟨hR, _⟩ := th_rs hT
  have hA := th_all hT.g
  rw [tgV_of h64 hA (all_rng8 hT.g.lo).1] at hw
  obtain ⟨i, j, hi, hj, h2, h3, h4⟩ := ho_near hT h1 hw hp
  refine ot_iff.2 ⟨?_, by rw [and_comm8]; exact hand⟩
  exact (to_iff h64 ha (pc_I64 (hR.lt hp) h7)).2 ⟨hT.g, ⟨h1, hT.hi⟩, pc_rng hR hp, i, hi, j, hj, h3, h2, .inr (by rw [hT.g.sym j hj i hi]; exact h4)⟩

/-- what is filled -/
theorem fi_bit (h64 : ∀ i, i < n → I64 (f i)) (hT : ThP n f a) (h1 : 1 ≤ a) {i : Nat} (hi : i < 64) : hasB (fiL a (hoV n f a)) i = true ↔ hasB a i = true ∨ (hasB (rsI n a) i = true ∧ ¬ Cn n f (rsI n a) i 0) := by
  have h7 := hT.g.hi
  obtain ⟨hR, hb⟩ := th_rs hT
  rw [fiL_bit _ _ _ hi]
  constructor
  · rintro (h | ⟨y, hy, h⟩)
    · exact .inl h
    · obtain ⟨_, _, p, hp, rfl, h0⟩ := ho_mem h64 hT.i64 hy
      have hc := (pc_bit hR hp hi).1 h
      refine .inr ⟨hc.in hR, fun hc0 => ?_⟩
      rw [(pc_bit hR hp (by omega)).2 (hc.trans hR hc0)] at h0; cases h0
  · rintro (h | ⟨h, hc⟩)
    · exact .inl h
    · obtain ⟨q, hq, hl, hqi⟩ := ld_of hR i h
      have hin := hR.lt h
      have hr1 : 1 ≤ rsI n a := by
        have hne : rsI n a ≠ 0 := by intro e; rw [e, hasB_zero] at h; cases h
        have := hR.lo
        omega
      refine .inr ⟨pcI n f (rsI n a) q, ?_, (pc_bit hR hqi.1 hi).2 hqi⟩
      unfold hoV
      rw [if_pos ((thing_iff h64 hT.i64).2 ⟨hT.g, h1, hT.hi⟩)]
      refine evL_mem.2 ⟨?_, ?_⟩
      · unfold pcV
        rw [if_pos ((thing_iff h64 hR.i64).2 ⟨hT.g, hr1, hR.hi⟩)]
        exact pcs_mem.2 ⟨q, by omega, hl, rfl⟩
      · rw [Bool.eq_false_iff]
        intro hb0
        exact hc ((hqi.symm hR).trans hR ((pc_bit hR hqi.1 (by omega)).1 hb0))
theorem th_fi (h64 : ∀ i, i < n → I64 (f i)) (hT : ThP n f a) (h1 : 1 ≤ a) : ThP n f (fiL a (hoV n f a)) ∧ 1 ≤ fiL a (hoV n f a) := by
  have h7 := hT.g.hi
  obtain ⟨hR, _⟩ := th_rs hT
  have h64f := fiL_64 a hT.i64 (hoV n f a)
  have h := lt_of_bits (fiL a (hoV n f a)) n (by omega) h64f (fun i hi hni => by
    rw [Bool.eq_false_iff]
    intro hb
    rcases (fi_bit h64 hT h1 hi).1 hb with h | ⟨h, _⟩
    · have := hT.lt h; omega
    · have := hR.lt h; omega)
  obtain ⟨j, hj, hbj⟩ := some_bit8 h7 ⟨h1, hT.hi⟩
  have hne : fiL a (hoV n f a) ≠ 0 := by
    intro e
    have := (fi_bit h64 hT h1 (show j < 64 by omega)).2 (.inl hbj)
    rw [e, hasB_zero] at this; cases this
  exact ⟨⟨hT.g, h.1, h.2⟩, by omega⟩
theorem fi_own (h64 : ∀ i, i < n → I64 (f i)) (hT : ThP n f a) (h1 : 1 ≤ a) : bits .or .i64 (fiL a (hoV n f a)) a = fiL a (hoV n f a) :=
  (or_eq_iff _ _ (fiL_64 a hT.i64 _)).2 (fun _ hi hb => (fi_bit h64 hT h1 hi).2 (.inl hb))
/-- what is left of a filled thing is the piece with the place 0 -/
theorem fi_rest (h64 : ∀ i, i < n → I64 (f i)) (hT : ThP n f a) (h1 : 1 ≤ a) {i : Nat} (hi : i < 64) : hasB (rsI n (fiL a (hoV n f a))) i = true ↔ Cn n f (rsI n a) i 0 := by
  have h7 := hT.g.hi
  obtain ⟨hR, hb⟩ := th_rs hT
  have hF := (th_fi h64 hT h1).1
  rw [(th_rs hF).2 i hi, Bool.and_eq_true, decide_eq_true_eq, Bool.not_eq_true', Bool.eq_false_iff, ne_eq, fi_bit h64 hT h1 hi]
  constructor
  · rintro ⟨hin, h2⟩
    have hna : hasB a i = false := by
      cases h : hasB a i with
      | false => rfl
      | true => exact (h2 (.inl h)).elim
    have hri : hasB (rsI n a) i = true := by rw [hb i hi, decide_eq_true hin, hna]; rfl
    apply Classical.byContradiction
    intro hc
    exact h2 (.inr ⟨hri, hc⟩)
  · intro hc
    refine ⟨hR.lt hc.1, fun h2 => ?_⟩
    rcases h2 with h2 | ⟨_, h2⟩
    · have := hc.1
      rw [hb i hi, h2] at this
      simp at this
    · exact h2 hc
theorem fi_none (h64 : ∀ i, i < n → I64 (f i)) (hT : ThP n f a) (h1 : 1 ≤ a) : hoV n f (fiL a (hoV n f a)) = [] := by
  have h7 := hT.g.hi
  obtain ⟨hR, _⟩ := th_rs hT
  have hF := (th_fi h64 hT h1).1
  obtain ⟨hR2, _⟩ := th_rs hF
  cases hc : hoV n f (fiL a (hoV n f a)) with
  | nil => rfl
  | cons y ys =>
    exfalso
    obtain ⟨_, _, p, hp, rfl, h0⟩ := ho_mem (h := y) h64 hF.i64 (by rw [hc]; simp)
    have hpn := hR2.lt hp
    have hcn := (fi_rest h64 hT h1 (by omega)).1 hp
    -- within the piece of 0 each place leads to 0
    have : Cn n f (rsI n (fiL a (hoV n f a))) p 0 := by
      refine Cn.ind hR (P := fun q => Cn n f (rsI n (fiL a (hoV n f a))) p q) (Cn.refl hR2 hp) (fun x r hx hpx hr hf => ?_) hcn
      have hrn := hR.lt hr
      have hxr := hx.step hR hr hf
      exact hpx.step hR2 ((fi_rest h64 hT h1 (by omega)).2 ((hxr.symm hR).trans hR hcn)) hf
    rw [(pc_bit hR2 hp (by omega)).2 this] at h0
    cases h0
theorem fi_same (h64 : ∀ i, i < n → I64 (f i)) (hT : ThP n f a) (h1 : 1 ≤ a) : fiV n f (fiL a (hoV n f a)) = fiL a (hoV n f a) := by
  obtain ⟨hF, hF1⟩ := th_fi h64 hT h1
  unfold fiV
  rw [if_pos ((thing_iff h64 hF.i64).2 ⟨hT.g, hF1, hF.hi⟩), fi_none h64 hT h1]
  rfl
theorem fi_tg (h64 : ∀ i, i < n → I64 (f i)) (hT : ThP n f a) (h1 : 1 ≤ a) (hw : tgV n f (2 ^ n - 1) = true) (ht : tgV n f a = true) : tgV n f (fiL a (hoV n f a)) = true := by
  have h7 := hT.g.hi
  obtain ⟨hR, hb⟩ := th_rs hT
  obtain ⟨hF, hF1⟩ := th_fi h64 hT h1
  rw [tgV_of h64 (th_all hT.g) (all_rng8 hT.g.lo).1] at hw
  rw [tgV_of h64 hT h1] at ht
  rw [tgV_of h64 hF hF1]
  obtain ⟨j0, hj0, hbj0⟩ := some_bit8 h7 ⟨h1, hT.hi⟩
  have hsub : ∀ i, hasB a i = true → hasB (fiL a (hoV n f a)) i = true := fun i hi => (fi_bit h64 hT h1 (by have := hT.lt hi; omega)).2 (.inl hi)
  have hall : ∀ q, hasB (fiL a (hoV n f a)) q = true → Cn n f (fiL a (hoV n f a)) j0 q := fun q hq => by
    have hqn := hF.lt hq
    rcases (fi_bit h64 hT h1 (by omega)).1 hq with hqa | ⟨hqr, hq0⟩
    · exact ((tg_iff hT).1 ht j0 q hbj0 hqa).more hT hF hsub
    · obtain ⟨i, j, hi, hj, h2, h3, h4⟩ := ho_near hT h1 hw hqr
      have hqi := (pc_bit hR hqr (by omega)).1 h2
      have hin : ∀ x, Cn n f (rsI n a) q x → hasB (fiL a (hoV n f a)) x = true := fun x hx =>
        (fi_bit h64 hT h1 (by have := hx.2.1; omega)).2 (.inr ⟨hx.in hR, fun h0 => hq0 (hx.trans hR h0)⟩)
      have hji : Cn n f (fiL a (hoV n f a)) j0 i := (((tg_iff hT).1 ht j0 j hbj0 h3).more hT hF hsub).step hF (hin i hqi) (by rw [hT.g.sym j hj i hi]; exact h4)
      exact Cn.ind hR (P := fun x => Cn n f (fiL a (hoV n f a)) j0 x) hji (fun x r hx hp hr hf => hp.step hF (hin r (hqi.trans hR (hx.step hR hr hf))) hf) (hqi.symm hR)
  exact (tg_iff hF).2 (fun p q hp hq => ((hall p hp).symm hF).trans hF (hall q hq))

/-- some place is no cut: one that is farthest from v -/
theorem far_one (hT : ThP n f a) {v : Nat} (hv : hasB a v = true) (h2 : Two a) (ht : tgB n f a = true) : ∃ u, hasB a u = true ∧ u ≠ v ∧ tgB n f (bits .andNot .i64 a (2 ^ u)) = true := by
  have h7 := hT.g.hi
  have hall : ∀ i, hasB a i = true → hasB (pcK n f a v n) i = true := fun i hi => ((tg_iff hT).1 ht v i hv hi).2.2
  have key : ∀ k, (∀ i, hasB a i = true → hasB (pcK n f a v k) i = true) → ∃ u, hasB a u = true ∧ u ≠ v ∧ ∃ k, hasB (pcK n f a v k) u = false ∧ ∀ i, hasB a i = true → hasB (pcK n f a v (k + 1)) i = true := by
    intro k
    induction k with
    | zero =>
      intro h
      exfalso
      obtain ⟨i, j, hij, hi, hj⟩ := h2
      have h3 := h i hi
      have h4 := h j hj
      rw [pcK, hasB_pow8, decide_eq_true_eq] at h3 h4
      omega
    | succ k ih =>
      intro h
      by_cases h5 : ∀ i, hasB a i = true → hasB (pcK n f a v k) i = true
      · exact ih h5
      · have : ∃ u, hasB a u = true ∧ hasB (pcK n f a v k) u = false := by
          apply Classical.byContradiction
          intro hno
          apply h5
          intro i hi
          cases hb : hasB (pcK n f a v k) i with
          | true => rfl
          | false => exact (hno ⟨i, hi, hb⟩).elim
        obtain ⟨u, hu, hub⟩ := this
        refine ⟨u, hu, fun e => ?_, k, hub, h⟩
        subst e
        rw [pcK_self hu (by have := hT.lt hu; omega) k] at hub; cases hub
  obtain ⟨u, hu, huv, k, hk, hk1⟩ := key n hall
  refine ⟨u, hu, huv, ?_⟩
  have hL := th_less hT u
  have hbit : ∀ i, i < 64 → hasB (bits .andNot .i64 a (2 ^ u)) i = (hasB a i && !decide (u = i)) := fun i hi => less_bit hi
  have hin : ∀ i, hasB a i = true → i ≠ u → hasB (bits .andNot .i64 a (2 ^ u)) i = true := fun i hi hne => by
    rw [hbit i (by have := hT.lt hi; omega), hi, decide_eq_false (by omega)]; rfl
  have hvL := hin v hv (by omega)
  have hreach : ∀ m, m ≤ k + 1 → ∀ i, i < n → i ≠ u → hasB (pcK n f a v m) i = true → Cn n f (bits .andNot .i64 a (2 ^ u)) v i := by
    intro m
    induction m with
    | zero =>
      intro _ i _ _ hb
      rw [pcK, hasB_pow8, decide_eq_true_eq] at hb
      subst hb; exact Cn.refl hL hvL
    | succ m ih =>
      intro hm i hi hne hb
      have hia := pcK_in hv _ i (by omega) hb
      obtain ⟨h3 | ⟨j, hj, h3, h4⟩, _⟩ := (pcK_bit m i (by omega)).1 hb
      · exact ih (by omega) i hi hne h3
      · have hju : j ≠ u := fun e => by
          subst e
          rw [pcK_le hv (show m ≤ k by omega) j (by omega) h3] at hk; cases hk
        exact (ih (by omega) j hj hju h3).step hL (hin i hia hne) h4
  refine (tg_iff hL).2 (fun p q hp hq => ?_)
  have hget : ∀ i, hasB (bits .andNot .i64 a (2 ^ u)) i = true → Cn n f (bits .andNot .i64 a (2 ^ u)) v i := fun i hi => by
    have hin2 := hL.lt hi
    rw [hbit i (by omega), Bool.and_eq_true, Bool.not_eq_true', decide_eq_false_iff_not] at hi
    exact hreach (k + 1) (Nat.le_refl _) i hin2 (by omega) (hk1 i hi.1)
  exact ((hget p hp).symm hL).trans hL (hget q hq)
theorem two_free (hT : ThP n f a) (h2 : Two a) (ht : tgB n f a = true) : ∃ u v, u ≠ v ∧ (hasB a u = true ∧ tgB n f (bits .andNot .i64 a (2 ^ u)) = true) ∧ hasB a v = true ∧ tgB n f (bits .andNot .i64 a (2 ^ v)) = true := by
  have h3 := h2
  obtain ⟨i, _, _, hi, _⟩ := h3
  obtain ⟨u, hu, _, htu⟩ := far_one hT hi h2 ht
  obtain ⟨v, hv, huv, htv⟩ := far_one hT hu h2 ht
  exact ⟨u, v, by omega, ⟨hu, htu⟩, hv, htv⟩
theorem ct_bit (hT : ThP n f a) {i : Nat} (hi : i < 64) : hasB (ctI n f a n) i = (hasB a i && !tgB n f (bits .andNot .i64 a (2 ^ i))) := by
  show hasB (setOf _ n) i = _
  rw [setOf_bit _ _ _ hi]
  cases h : hasB a i with
  | true => rw [decide_eq_true (hT.lt h), Bool.true_and]
  | false => simp
theorem ct_rng (hT : ThP n f a) : 0 ≤ ctI n f a n ∧ ctI n f a n < 2 ^ n := by
  have h7 := hT.g.hi
  exact lt_of_bits _ n (by omega) (setOf_I64 _ _) (fun i hi hni => by
    rw [ct_bit hT hi]
    cases h : hasB a i with
    | false => rfl
    | true => have := hT.lt h; omega)
theorem ct_own (hT : ThP n f a) : bits .or .i64 (ctI n f a n) a = a := by
  show orI _ _ = _
  rw [or_comm]
  refine (or_eq_iff _ _ hT.i64).2 (fun i hi hb => ?_)
  rw [ct_bit hT hi, Bool.and_eq_true] at hb
  exact hb.1
/-- how many of the first k places are free -/
def frN (a s : Int) : Nat → Nat
  | 0 => 0
  | k + 1 => frN a s k + (if hasB a k && !hasB s k then 1 else 0)
theorem fr_le (a s : Int) (k : Nat) : frN a s k ≤ k := by
  induction k with
  | zero => exact Nat.le_refl _
  | succ k ih => rw [frN]; split <;> omega
theorem fr_one {a s : Int} {k i : Nat} (hi : i < k) (h1 : hasB a i = true) (h2 : hasB s i = false) : 1 ≤ frN a s k := by
  induction k with
  | zero => omega
  | succ k ih =>
    rw [frN]
    by_cases e : i = k
    · subst e; rw [h1, h2]; simp
    · have := ih (by omega); omega
theorem fr_two {a s : Int} {k i j : Nat} (hi : i < k) (hj : j < k) (hij : i < j) (h1 : hasB a i = true) (h2 : hasB s i = false) (h3 : hasB a j = true) (h4 : hasB s j = false) : 2 ≤ frN a s k := by
  induction k with
  | zero => omega
  | succ k ih =>
    rw [frN]
    by_cases e : j = k
    · subst e
      have := fr_one (k := j) (i := i) hij h1 h2
      rw [h3, h4]; simp; omega
    · have := ih (by omega) (by omega); omega
theorem fr_all (hT : ThP n f a) (h2 : Two a) (ht : tgB n f a = true) : 2 ≤ frN a (ctI n f a n) n := by
  have h7 := hT.g.hi
  obtain ⟨u, v, huv, ⟨h3, h4⟩, h5, h6⟩ := two_free hT h2 ht
  have hun := hT.lt h3
  have hvn := hT.lt h5
  have hu : hasB (ctI n f a n) u = false := by rw [ct_bit hT (by omega), h4]; simp
  have hv : hasB (ctI n f a n) v = false := by rw [ct_bit hT (by omega), h6]; simp
  rcases Nat.lt_or_gt_of_ne huv with h | h
  · exact fr_two hun hvn h h3 hu h5 hv
  · exact fr_two hvn hun h h5 hv h3 hu
theorem fr_yes {a s : Int} {k : Nat} (h1 : hasB a k = true) (h2 : hasB s k = false) : frN a s (k + 1) = frN a s k + 1 := by rw [frN, h1, h2]; rfl
theorem fr_no {a s : Int} {k : Nat} (h : (hasB a k && !hasB s k) = false) : frN a s (k + 1) = frN a s k := by rw [frN, h]; rfl
/-- the pieces of a thing without one of its places -/
theorem cut_pieces (h64 : ∀ i, i < n → I64 (f i)) (hT : ThP n f a) (h2 : Two a) (p : Nat) : decide (2 ≤ (pcV n f (bits .andNot .i64 a (2 ^ p))).length) = !tgB n f (bits .andNot .i64 a (2 ^ p)) := by
  have hL := th_less hT p
  have h1 := less_pos hT h2 p
  unfold pcV
  rw [if_pos ((thing_iff h64 hL.i64).2 ⟨hT.g, h1, hL.hi⟩)]
  exact pcs_two hL h1
end
end Go.Proofs.Ytacoeaoaabjkoaa
