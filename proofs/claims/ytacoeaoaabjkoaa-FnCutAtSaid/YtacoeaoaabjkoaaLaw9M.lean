import Derived.Test.YtacoeaoaabjkoaaPcT
import Derived.Test.YtacoeaoaabjkoaaLaw8V
namespace Go.Proofs.Ytacoeaoaabjkoaa
open Go.RowKit

section
variable {n : Nat} {f : Nat → Int} {a b : Int}
/-- reached in less is reached in more -/
theorem Cn.more (ha : ThP n f a) (hb : ThP n f b) (hab : ∀ i, hasB a i = true → hasB b i = true) {p q : Nat} (h : Cn n f a p q) : Cn n f b p q :=
  Cn.ind ha (P := fun q => Cn n f b p q) (Cn.refl hb (hab p h.1)) (fun _ r _ hp hr hf => hp.step hb (hab r hr) hf) h
theorem th_pc (hT : ThP n f a) {p : Nat} (hp : hasB a p = true) : ThP n f (pcI n f a p) := by
  have := pc_rng hT hp
  exact ⟨hT.g, by omega, this.2⟩
/-- a piece hangs together -/
theorem pc_tg (hT : ThP n f a) {p : Nat} (hp : hasB a p = true) : tgB n f (pcI n f a p) = true := by
  have h7 := hT.g.hi
  have hC := th_pc hT hp
  have hin : ∀ q, Cn n f a p q → Cn n f (pcI n f a p) p q := fun q h =>
    Cn.ind hT (P := fun q => Cn n f (pcI n f a p) p q) (Cn.refl hC ((pc_bit hT hp (by have := hT.lt hp; omega)).2 (Cn.refl hT hp)))
      (fun x r hx hc hr hf => hc.step hC ((pc_bit hT hp (by have := hT.lt hr; omega)).2 (hx.step hT hr hf)) hf) h
  refine (tg_iff hC).2 (fun q r hq hr => ?_)
  have hqn := hC.lt hq
  have hrn := hC.lt hr
  exact ((hin q ((pc_bit hT hp (by omega)).1 hq)).symm hC).trans hC (hin r ((pc_bit hT hp (by omega)).1 hr))
theorem tgV_of (h64 : ∀ i, i < n → I64 (f i)) (hT : ThP n f a) (h1 : 1 ≤ a) : tgV n f a = tgB n f a := by
  unfold tgV
  rw [(thing_iff h64 hT.i64).2 ⟨hT.g, h1, hT.hi⟩, Bool.true_and]
theorem pc_tgV (h64 : ∀ i, i < n → I64 (f i)) (hT : ThP n f a) {p : Nat} (hp : hasB a p = true) : tgV n f (pcI n f a p) = true := by
  rw [tgV_of h64 (th_pc hT hp) (pc_rng hT hp).1, pc_tg hT hp]
theorem th_pow (hP : GrdP n f) {p : Nat} (hp : p < n) : ThP n f (2 ^ p) := by
  have := pow7 hp
  exact ⟨hP, by omega, this.2⟩
theorem one_tg (h64 : ∀ i, i < n → I64 (f i)) (hP : GrdP n f) {p : Nat} (hp : p < n) : tgV n f (2 ^ p) = true := by
  have hT := th_pow hP hp
  rw [tgV_of h64 hT (pow7 hp).1]
  refine (tg_iff hT).2 (fun q r hq hr => ?_)
  rw [hasB_pow8, decide_eq_true_eq] at hq hr
  subst hq; subst hr
  exact Cn.refl hT (pw_self _)

/-- touch, of two things -/
theorem to_val (h64 : ∀ i, i < n → I64 (f i)) (ha : ThP n f a) (hb : ThP n f b) (ha1 : 1 ≤ a) (hb1 : 1 ≤ b) : toB n f a b = (andI (gwI n f a) b != 0) := by
  unfold toB
  rw [(thing2_in h64 ha.i64 hb.i64).2 ⟨ha.g, ⟨ha1, ha.hi⟩, hb1, hb.hi⟩, Bool.true_and]
/-- whether each part touches the rest -/
def whB (n : Nat) (f : Nat → Int) (a : Int) (k : Nat) : Bool := decide (∀ b : Nat, b < k → 1 ≤ b → bits .or .i64 (b : Int) a = a → toB n f b (a - b) = true)
theorem wh_zero : whB n f a 1 = true := decide_eq_true (fun b hb h1 => by omega)
theorem wh_skip {k : Nat} (h : bits .or .i64 (k : Int) a ≠ a) : whB n f a (k + 1) = whB n f a k := by
  unfold whB
  rw [decide_eq_decide]
  constructor
  · intro h1 b hb; exact h1 b (by omega)
  · intro h1 b hb hb1 ho
    by_cases e : b = k
    · subst e; exact absurd ho h
    · exact h1 b (by omega) hb1 ho
theorem wh_step {k : Nat} (h1 : 1 ≤ k) (h : bits .or .i64 (k : Int) a = a) : whB n f a (k + 1) = (whB n f a k && toB n f k (a - k)) := by
  unfold whB
  rw [Bool.eq_iff_iff, Bool.and_eq_true, decide_eq_true_eq, decide_eq_true_eq]
  constructor
  · intro h2; exact ⟨fun b hb => h2 b (by omega), h2 k (by omega) h1 h⟩
  · rintro ⟨h2, h3⟩ b hb hb1 ho
    by_cases e : b = k
    · subst e; exact h3
    · exact h2 b (by omega) hb1 ho
theorem wh_false {k : Nat} (h : whB n f a k = false) : whB n f a (k + 1) = false := by
  unfold whB at h ⊢
  rw [decide_eq_false_iff_not] at h ⊢
  intro h2
  exact h (fun b hb => h2 b (by omega))
theorem or_sub {A B : Nat} (hA : A < 128) (hB : B < 128) : bits .or .i64 (B : Int) (A : Int) = (A : Int) ↔ B &&& A = B := by
  have h1 : bits .or .i64 (B : Int) (A : Int) = (A : Int) ↔ ∀ i, i < 64 → hasB (B : Int) i = true → hasB (A : Int) i = true := by
    show orI _ _ = _ ↔ _
    rw [or_comm]
    exact or_eq_iff _ _ (by unfold I64; omega)
  rw [h1]
  constructor
  · intro h
    apply Nat.eq_of_testBit_eq
    intro i
    rw [Nat.testBit_and]
    by_cases hi : i < 64
    · have := h i hi
      rw [hasB_nat, hasB_nat] at this
      cases hb : B.testBit i with
      | false => rfl
      | true => rw [this hb]; rfl
    · rw [tb_big hB (by omega)]; rfl
  · intro h i hi hb
    rw [hasB_nat] at hb ⊢
    rw [← h, Nat.testBit_and, Bool.and_eq_true] at hb
    exact hb.2
theorem wh_all {S : Nat} (h64 : ∀ i, i < n → I64 (f i)) (hT : ThP n f (S : Int)) : whB n f S S = tgB n f S := by
  have h7 := hT.g.hi
  have hS := thS hT
  have hp := pow_bounds n h7
  have hSn := hT.hi
  have hth : ∀ b : Nat, b ≤ S → ThP n f (b : Int) := fun b hb => ⟨hT.g, by omega, by omega⟩
  cases h : tgB n f S with
  | true =>
    refine decide_eq_true (fun b hb hb1 ho => ?_)
    have hsub := (or_sub (A := S) (B := b) hS (by omega)).1 ho
    obtain ⟨hle, _, hbit⟩ := sub9 hS hsub
    have e : ((S : Int) - (b : Int)) = ((S - b : Nat) : Int) := by omega
    rw [e, to_val h64 (hth b (by omega)) (hth (S - b) (by omega)) (by omega) (by omega), bne_iff_ne]
    refine tg_cut hT (fun i hi => ?_) (some_bit8 h7 ⟨by omega, by omega⟩) ?_ h
    · rw [hbit i hi]
      cases h4 : hasB (b : Int) i with
      | true =>
        have : hasB (S : Int) i = true := by
          rw [hasB_nat] at h4 ⊢
          rw [← hsub, Nat.testBit_and, Bool.and_eq_true] at h4
          exact h4.2
        rw [this]; rfl
      | false => simp
    · obtain ⟨i, hi, hbi⟩ := some_bit8 (n := n) (s := ((S - b : Nat) : Int)) h7 ⟨by omega, by omega⟩
      refine ⟨i, hi, hbi, ?_⟩
      rw [hbit i (by omega), Bool.and_eq_true, Bool.not_eq_true'] at hbi
      exact hbi.2
  | false =>
    obtain ⟨x, hx, hn⟩ := cut_none hT h
    obtain ⟨h1, h2, h3⟩ := hx
    refine decide_eq_false (fun hall => ?_)
    have := hall x h2 (by omega) ((or_sub hS (by omega)).2 h1)
    have e : ((S : Int) - (x : Int)) = ((S - x : Nat) : Int) := by omega
    rw [e, to_val h64 (hth x (by omega)) (hth (S - x) (by omega)) (by omega) (by omega), hn] at this
    cases this

/-- pieces do not touch -/
theorem pcs_at {k : Nat} (hk : k < (pcsL n f a).length) : ∃ p, ldB n f a p = true ∧ (pcsL n f a).getD k 0 = pcI n f a p := by
  obtain ⟨p, _, h2, h3⟩ := pcs_mem.1 (getD_mem hk)
  exact ⟨p, h2, h3.symm⟩
theorem ld_pc_inj (hT : ThP n f a) {p q : Nat} (hp : ldB n f a p = true) (hq : ldB n f a q = true) (hc : Cn n f a p q) : p = q := by
  have h1 := (ld_iff hT).1 hp
  have h2 := (ld_iff hT).1 hq
  rcases Nat.lt_trichotomy p q with h | h | h
  · exact absurd (hc.symm hT) (h2.2 p h)
  · exact h
  · exact absurd hc (h1.2 q h)
theorem pcs_nodup (_ : ThP n f a) {k j : Nat} (hk : k < (pcsL n f a).length) (hj : j < k) : ∃ p q, ldB n f a p = true ∧ ldB n f a q = true ∧ p ≠ q ∧ (pcsL n f a).getD k 0 = pcI n f a p ∧ (pcsL n f a).getD j 0 = pcI n f a q := by
  have hl : (pcsL n f a).length = ((List.range n).filter (ldB n f a)).length := by unfold pcsL pcsK; rw [List.length_map]
  have hat : ∀ i, i < (pcsL n f a).length → ∃ p, ldB n f a p = true ∧ ((List.range n).filter (ldB n f a))[i]? = some p ∧ (pcsL n f a).getD i 0 = pcI n f a p := fun i hi => by
    have hi2 : i < ((List.range n).filter (ldB n f a)).length := by omega
    refine ⟨((List.range n).filter (ldB n f a))[i], (List.mem_filter.1 (List.getElem_mem hi2)).2, List.getElem?_eq_getElem hi2, ?_⟩
    unfold pcsL pcsK
    rw [List.getD_eq_getElem?_getD, List.getElem?_map, List.getElem?_eq_getElem hi2]
    rfl
  obtain ⟨p, h1, h2, h3⟩ := hat k hk
  obtain ⟨q, h4, h5, h6⟩ := hat j (by omega)
  refine ⟨p, q, h1, h4, fun e => ?_, h3, h6⟩
  subst e
  have hnd : ((List.range n).filter (ldB n f a)).Nodup := List.nodup_range.filter _
  have := (List.getElem?_inj (by omega) hnd).1 (h2.trans h5.symm)
  omega
theorem pcs_touch (h64 : ∀ i, i < n → I64 (f i)) (hT : ThP n f a) {k j : Nat} (hk : k < (pcsL n f a).length) (hj : j < k) : toB n f ((pcsL n f a).getD k 0) ((pcsL n f a).getD j 0) = false := by
  obtain ⟨p, q, hp, hq, hne, e1, e2⟩ := pcs_nodup hT hk hj
  have hpa := ((ld_iff hT).1 hp).1
  have hqa := ((ld_iff hT).1 hq).1
  rw [e1, e2, to_val h64 (th_pc hT hpa) (th_pc hT hqa) (pc_rng hT hpa).1 (pc_rng hT hqa).1, bne_eq_false_iff_eq]
  refine pc_apart hT hpa (fun i hi hb => ?_)
  have hc := (pc_bit hT hqa hi).1 hb
  exact ⟨hc.in hT, fun hpc => hne (ld_pc_inj hT hp hq (hpc.trans hT (hc.symm hT)))⟩
/-- all pieces together -/
theorem fiL_bit (x : Int) (xs : List Int) (i : Nat) (hi : i < 64) : hasB (fiL x xs) i = true ↔ hasB x i = true ∨ ∃ y, y ∈ xs ∧ hasB y i = true := by
  induction xs generalizing x with
  | nil => exact ⟨fun h => .inl h, fun h => h.elim id (fun ⟨y, hy, _⟩ => by cases hy)⟩
  | cons z xs ih =>
    show hasB (fiL (bits .or .i64 x z) xs) i = true ↔ _
    rw [ih, show bits .or .i64 x z = orI x z from rfl, or_bit _ _ _ hi, Bool.or_eq_true]
    constructor
    · rintro ((h | h) | ⟨y, hy, h⟩)
      · exact .inl h
      · exact .inr ⟨z, by simp, h⟩
      · exact .inr ⟨y, by simp [hy], h⟩
    · rintro (h | ⟨y, hy, h⟩)
      · exact .inl (.inl h)
      · rw [List.mem_cons] at hy
        rcases hy with rfl | hy
        · exact .inl (.inr h)
        · exact .inr ⟨y, hy, h⟩
theorem fiL_64 (x : Int) (hx : I64 x) (xs : List Int) : I64 (fiL x xs) := by
  induction xs generalizing x with
  | nil => exact hx
  | cons z xs ih => exact ih _ (orI_I64 _ _)
theorem pcs_all (hT : ThP n f a) : fiL 0 (pcsL n f a) = a := by
  have h7 := hT.g.hi
  refine ext64 _ _ (fiL_64 _ I64_zero _) hT.i64 (fun i hi => ?_)
  rw [Bool.eq_iff_iff, fiL_bit _ _ _ hi, hasB_zero]
  constructor
  · rintro (h | ⟨y, hy, h⟩)
    · cases h
    · obtain ⟨p, _, hl, rfl⟩ := pcs_mem.1 hy
      exact ((pc_bit hT ((ld_iff hT).1 hl).1 hi).1 h).in hT
  · intro h
    obtain ⟨q, hq, hl, hc⟩ := ld_of hT i h
    have hin := hT.lt h
    exact .inr ⟨_, pcs_mem.2 ⟨q, by omega, hl, rfl⟩, (pc_bit hT hc.1 hi).2 hc⟩
/-- what hangs together is within one piece -/
theorem pcs_within (hT : ThP n f a) (hb : ThP n f b) (hb1 : 1 ≤ b) (hab : ∀ i, hasB b i = true → hasB a i = true) (h : tgB n f b = true) : ∃ k, k < (pcsL n f a).length ∧ bits .or .i64 b ((pcsL n f a).getD k 0) = (pcsL n f a).getD k 0 := by
  have h7 := hT.g.hi
  obtain ⟨i, hi, hbi⟩ := some_bit8 h7 ⟨hb1, hb.hi⟩
  obtain ⟨q, hq, hl, hc⟩ := ld_of hT i (hab i hbi)
  have hm : pcI n f a q ∈ pcsL n f a := pcs_mem.2 ⟨q, by omega, hl, rfl⟩
  obtain ⟨k, hk, hk2⟩ := List.getElem_of_mem hm
  refine ⟨k, hk, ?_⟩
  have e : (pcsL n f a).getD k 0 = pcI n f a q := by rw [List.getD_eq_getElem?_getD, List.getElem?_eq_getElem hk, hk2]; rfl
  rw [e]
  show orI _ _ = _
  rw [or_comm]
  refine (or_eq_iff _ _ (pc_I64 (hT.lt hc.1) h7)).2 (fun j hj hbj => ?_)
  refine (pc_bit hT hc.1 hj).2 (hc.trans hT ?_)
  exact ((tg_iff hb).1 h i j hbi hbj).more hb hT hab

/-- it hangs together just if it is one piece -/
theorem pcs_two (hT : ThP n f a) (_ : 1 ≤ a) : decide (2 ≤ (pcsL n f a).length) = !tgB n f a := by
  have h7 := hT.g.hi
  have hl : (pcsL n f a).length = (List.range n).countP (ldB n f a) := by unfold pcsL pcsK; rw [List.length_map, List.countP_eq_length_filter]
  rw [hl, Bool.eq_iff_iff, decide_eq_true_eq, countP_two _ List.nodup_range, Bool.not_eq_true', Bool.eq_false_iff]
  constructor
  · rintro ⟨i, j, _, _, hij, hi, hj⟩ ht
    exact hij (ld_pc_inj hT hi hj ((tg_iff hT).1 ht i j ((ld_iff hT).1 hi).1 ((ld_iff hT).1 hj).1))
  · intro hne
    obtain ⟨p, q, hp, hq, hnc⟩ := tg_no hT (by rw [Bool.eq_false_iff]; exact hne)
    obtain ⟨i, _, hi, hci⟩ := ld_of hT p hp.1
    obtain ⟨j, _, hj, hcj⟩ := ld_of hT q hq
    refine ⟨i, j, List.mem_range.2 (hT.lt hci.1), List.mem_range.2 (hT.lt hcj.1), fun e => ?_, hi, hj⟩
    subst e
    exact hnc ((hci.symm hT).trans hT hcj)
end
end Go.Proofs.Ytacoeaoaabjkoaa
