import Derived.Test.YtdlafcioopclhaaDoorFamS
namespace Go.Proofs.YtdlafcioopclhaaDoor
open Go.RowKit Go.Maps

/-- what is put together of the first k sets -/
def allK (f : Nat → Int) : Nat → Int
  | 0 => 0
  | k + 1 => orI (allK f k) (f k)
theorem all_succ (f : Nat → Int) (k : Nat) : allK f (k + 1) = bits .or .i64 (allK f k) (f k) := rfl
theorem all_bit {f : Nat → Int} {k i : Nat} (hi : i < 64) : hasB (allK f k) i = true ↔ ∃ j, j < k ∧ hasB (f j) i = true := by
  induction k with
  | zero => rw [allK, hasB_zero]; simp
  | succ k ih =>
    rw [allK, or_bit _ _ _ hi, Bool.or_eq_true, ih]
    constructor
    · rintro (⟨j, h1, h2⟩ | h2)
      · exact ⟨j, by omega, h2⟩
      · exact ⟨k, by omega, h2⟩
    · rintro ⟨j, h1, h2⟩
      by_cases e : j = k
      · subst e; exact .inr h2
      · exact .inl ⟨j, by omega, h2⟩
theorem all_I64 (f : Nat → Int) (k : Nat) : I64 (allK f k) := by
  cases k with
  | zero => exact I64_zero
  | succ k => exact orI_I64 _ _
theorem all_rng {n : Nat} {f : Nat → Int} (h : FamP n f) (k : Nat) (hk : k ≤ n) : 0 ≤ allK f k ∧ allK f k < 2 ^ 4 :=
  lt_of_bits _ 4 (by omega) (all_I64 f k) (fun i hi h4 => by
    cases hb : hasB (allK f k) i with
    | false => rfl
    | true =>
      obtain ⟨j, hj, h1⟩ := (all_bit hi).1 hb
      obtain ⟨x, e, _, hx⟩ := h.nat (k := j) (by omega)
      rw [e] at h1
      have := bit16 hx h1
      omega)

/-- the sets of one point, each when its turn comes -/
theorem pts_turn {n : Nat} {f : Nat → Int} (h : FamP n f) {p m : Nat} (hp : p < 4) (hm : (2 : Int) ^ p = m) :
    newS (FP (memS n f)) (memS n f) m = (hasB (allK f n) p && !memS n f m) := by
  obtain ⟨m', e, h1, h16, hpt, _⟩ := pow4 hp
  have : m' = m := by omega
  subst this
  unfold newS
  cases hs : memS n f m' with
  | true => simp
  | false =>
    simp only [Bool.not_false, Bool.and_true]
    rw [Bool.eq_iff_iff, FP_iff, all_bit (by omega)]
    constructor
    · rintro (h2 | ⟨_, s, hs16, h2, hw⟩)
      · rw [hs] at h2; cases h2
      · obtain ⟨k, hk, ek⟩ := memS_iff.1 h2
        refine ⟨k, hk, ?_⟩
        rw [ek]; rw [← hm] at hw
        exact pow_within.1 hw (by omega)
    · rintro ⟨j, hj, hb⟩
      obtain ⟨x, ex, _, hx⟩ := h.nat hj
      refine .inr ⟨hpt, x, hx, memS_iff.2 ⟨j, hj, ex⟩, ?_⟩
      rw [← hm, ← ex]
      exact pow_within.2 (fun _ => hb)
theorem pts_none (S : Nat → Bool) {t : Nat} (h : ptB t = false) : newS (FP S) S t = false := by
  unfold newS FP; rw [h]; cases S t <;> rfl
theorem pts_next (n : Nat) (f : Nat → Int) {p m : Nat} (hp : p < 4) (hm : m = 2 ^ p) :
    withL n f (FP (memS n f)) (2 ^ (p + 1)) = if newS (FP (memS n f)) (memS n f) m then withL n f (FP (memS n f)) m ++ [(m : Int)] else withL n f (FP (memS n f)) m := by
  have hg : fam (newS (FP (memS n f)) (memS n f)) (2 ^ (p + 1)) = fam (newS (FP (memS n f)) (memS n f)) (m + 1) := by
    subst hm
    refine fam_gap (by rw [Nat.pow_succ]; have := Nat.one_le_two_pow (n := p); omega) (fun t h1 h2 => pts_none _ ?_)
    rcases (show p = 0 ∨ p = 1 ∨ p = 2 ∨ p = 3 by omega) with rfl | rfl | rfl | rfl
    · simp at h1 h2; omega
    · have : t = 3 := by simp at h1 h2; omega
      subst this; rfl
    · have : t = 5 ∨ t = 6 ∨ t = 7 := by simp at h1 h2; omega
      rcases this with rfl | rfl | rfl <;> rfl
    · have : t = 9 ∨ t = 10 ∨ t = 11 ∨ t = 12 ∨ t = 13 ∨ t = 14 ∨ t = 15 := by simp at h1 h2; omega
      rcases this with rfl | rfl | rfl | rfl | rfl | rfl | rfl <;> rfl
  unfold withL
  rw [hg]
  split
  · next h => rw [fam_yes h, List.append_assoc]
  · next h => rw [fam_no (by simpa using h)]
theorem with_in {n : Nat} {f : Nat → Int} {F : Nat → Bool} {m : Nat} (hm : memS n f m = true) (k : Nat) : (m : Int) ∈ withL n f F k := by
  obtain ⟨j, hj, e⟩ := memS_iff.1 hm
  unfold withL
  exact List.mem_append.2 (.inl (List.mem_map.2 ⟨j, List.mem_range.2 hj, e⟩))
theorem with_out {n : Nat} {f : Nat → Int} {F : Nat → Bool} {m : Nat} (hm : memS n f m = false) : (m : Int) ∉ withL n f F m := by
  unfold withL
  intro h
  rcases List.mem_append.1 h with h | h
  · obtain ⟨j, hj, e⟩ := List.mem_map.1 h
    rw [memS_iff.2 ⟨j, List.mem_range.1 hj, e⟩] at hm; cases hm
  · have := (fam_lo h).2; omega
theorem with_small (n : Nat) (f : Nat → Int) (F : Nat → Bool) {k : Nat} (hk : k ≤ 16) : (withL n f F k).length ≤ n + 16 := by
  rw [with_len]; have := fam_len_le (newS F (memS n f)) k; omega
theorem with_start {n : Nat} {f : Nat → Int} {F : Nat → Bool} (h : F 0 = false) : withL n f F 1 = rowL f n := by
  unfold withL rowL
  rw [fam_no (by unfold newS; rw [h]; rfl), fam, List.append_nil]
end Go.Proofs.YtdlafcioopclhaaDoor
