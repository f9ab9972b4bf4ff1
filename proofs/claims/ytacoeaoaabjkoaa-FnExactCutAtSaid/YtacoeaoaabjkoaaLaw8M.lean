import Derived.Test.YtacoeaoaabjkoaaGrdD
import Derived.Test.YtacoeaoaabjkoaaGrdS
import Derived.Test.YtacoeaoaabjkoaaLawC
namespace Go.Proofs.Ytacoeaoaabjkoaa
open Go.RowKit

/-- the laws' mathematics -/
theorem pow7 {p n : Nat} (hp : p < n) : 1 ≤ (2 : Int) ^ p ∧ (2 : Int) ^ p < 2 ^ n := by
  have h1 : (2 : Nat) ^ p < 2 ^ n := Nat.pow_lt_pow_right (by omega) hp
  have h2 := Nat.one_le_two_pow (n := p)
  have e1 : ((2 ^ p : Nat) : Int) = 2 ^ p := by simp
  have e2 : ((2 ^ n : Nat) : Int) = 2 ^ n := by simp
  omega
theorem rng_64 {n : Nat} {x : Int} (hn : n ≤ 7) (h : 1 ≤ x ∧ x < 2 ^ n) : I64 x := by
  have := pow_bounds n hn
  unfold I64; omega
theorem pow_64 {p : Nat} (hp : p < 8) : I64 ((2 : Int) ^ p) := by
  have h1 := pow7 hp
  have : (2 : Int) ^ 8 = 256 := by decide
  unfold I64; omega
theorem thing_iff {n : Nat} {f : Nat → Int} {s : Int} (h64 : ∀ i, i < n → I64 (f i)) (hs : I64 s) : thingB n f s = true ↔ GrdP n f ∧ 1 ≤ s ∧ s < 2 ^ n := by
  unfold thingB
  rw [Bool.and_eq_true]
  constructor
  · rintro ⟨h1, h2⟩
    have hP := (grd_iff h64).1 h1
    exact ⟨hP, (th_iff hP.hi hs).1 h2⟩
  · rintro ⟨hP, h⟩
    exact ⟨(grd_iff h64).2 hP, (th_iff hP.hi hs).2 h⟩
theorem thing2_in {n : Nat} {f : Nat → Int} {a b : Int} (h64 : ∀ i, i < n → I64 (f i)) (ha : I64 a) (hb : I64 b) : thing2B n f a b = true ↔ GrdP n f ∧ (1 ≤ a ∧ a < 2 ^ n) ∧ 1 ≤ b ∧ b < 2 ^ n := by
  rw [thing2_eq, Bool.and_eq_true, thing_iff h64 ha, thing_iff h64 hb]
  constructor
  · rintro ⟨⟨h1, h2⟩, _, h3⟩; exact ⟨h1, h2, h3⟩
  · rintro ⟨h1, h2, h3⟩; exact ⟨⟨h1, h2⟩, h1, h3⟩
theorem nz_iff {x : Int} (hx : I64 x) : (x != 0) = true ↔ ∃ i, i < 64 ∧ hasB x i = true := by
  rw [bne_iff_ne]
  constructor
  · intro h
    apply Classical.byContradiction
    intro hno
    apply h
    apply ext64 _ _ hx I64_zero
    intro i hi
    rw [hasB_zero]
    cases hb : hasB x i with
    | false => rfl
    | true => exact (hno ⟨i, hi, hb⟩).elim
  · rintro ⟨i, _, hb⟩ h
    rw [h, hasB_zero] at hb
    cases hb
theorem some_bit8 {n : Nat} {s : Int} (hn : n ≤ 7) (h : 1 ≤ s ∧ s < 2 ^ n) : ∃ i, i < n ∧ hasB s i = true := by
  obtain ⟨i, _, hb⟩ := (nz_iff (rng_64 hn h)).1 (by rw [bne_iff_ne]; omega)
  exact ⟨i, hasB_lt ⟨by omega, h.2⟩ hb, hb⟩
theorem of_bit8 {n : Nat} {s : Int} (h64 : I64 s) (hn : n ≤ 7) (hlt : ∀ i, i < 64 → hasB s i = true → i < n) {i : Nat} (hi : i < n) (hb : hasB s i = true) : 1 ≤ s ∧ s < 2 ^ n := by
  have h := lt_of_bits s n (by omega) h64 (fun k hk hnk => by
    cases hc : hasB s k with
    | false => rfl
    | true => have := hlt k hk hc; omega)
  have hne := (nz_iff h64).2 ⟨i, by omega, hb⟩
  rw [bne_iff_ne] at hne
  omega
theorem or_rng8 {n : Nat} {a b : Int} (hn : n ≤ 7) (ha : 1 ≤ a ∧ a < 2 ^ n) (hb : 0 ≤ b ∧ b < 2 ^ n) : 1 ≤ orI a b ∧ orI a b < 2 ^ n := by
  obtain ⟨i, hi, hai⟩ := some_bit8 hn ha
  refine of_bit8 (orI_I64 _ _) hn (fun k hk hkb => ?_) hi (by rw [or_bit _ _ _ (by omega), hai]; rfl)
  rw [or_bit _ _ _ hk, Bool.or_eq_true] at hkb
  rcases hkb with h | h
  · exact hasB_lt ⟨by omega, ha.2⟩ h
  · exact hasB_lt hb h

/-- some place of the one is a place, or a neighbour of a place, of the other -/
def Tch (n : Nat) (f : Nat → Int) (a b : Int) : Prop := ∃ i, i < n ∧ ∃ j, j < n ∧ hasB a j = true ∧ hasB b i = true ∧ (i = j ∨ hasB (f j) i = true)
theorem to_iff {n : Nat} {f : Nat → Int} {a b : Int} (h64 : ∀ i, i < n → I64 (f i)) (ha : I64 a) (hb : I64 b) :
    toB n f a b = true ↔ GrdP n f ∧ (1 ≤ a ∧ a < 2 ^ n) ∧ (1 ≤ b ∧ b < 2 ^ n) ∧ Tch n f a b := by
  unfold toB
  rw [Bool.and_eq_true, thing2_in h64 ha hb, nz_iff (andI_I64 _ _)]
  constructor
  · rintro ⟨⟨hP, h1, h2⟩, i, hi, hab⟩
    rw [and_bit _ _ _ hi, Bool.and_eq_true, gw_bit _ _ _ _ hi] at hab
    obtain ⟨h3, h4⟩ := hab
    have hin := hasB_lt ⟨by omega, h2.2⟩ h4
    refine ⟨hP, h1, h2, i, hin, ?_⟩
    rcases h3 with h3 | ⟨j, hj, h5, h6⟩
    · exact ⟨i, hin, h3, h4, .inl rfl⟩
    · exact ⟨j, hj, h5, h4, .inr h6⟩
  · rintro ⟨hP, h1, h2, i, hi, j, hj, h3, h4, h5⟩
    have h7 := hP.hi
    refine ⟨⟨hP, h1, h2⟩, i, by omega, ?_⟩
    rw [and_bit _ _ _ (by omega), Bool.and_eq_true, gw_bit _ _ _ _ (by omega)]
    refine ⟨?_, h4⟩
    rcases h5 with rfl | h5
    · exact .inl h3
    · exact .inr ⟨j, hj, h3, h5⟩
theorem Tch.comm {n : Nat} {f : Nat → Int} {a b : Int} (hP : GrdP n f) (h : Tch n f a b) : Tch n f b a := by
  obtain ⟨i, hi, j, hj, h1, h2, h3⟩ := h
  refine ⟨j, hj, i, hi, h2, h1, ?_⟩
  rcases h3 with h3 | h3
  · exact .inl h3.symm
  · exact .inr (by rw [hP.sym i hi j hj]; exact h3)
theorem to_comm {n : Nat} {f : Nat → Int} {a b : Int} (h64 : ∀ i, i < n → I64 (f i)) (ha : I64 a) (hb : I64 b) : toB n f b a = toB n f a b := by
  rw [Bool.eq_iff_iff, to_iff h64 hb ha, to_iff h64 ha hb]
  constructor
  · rintro ⟨h1, h2, h3, h4⟩; exact ⟨h1, h3, h2, h4.comm h1⟩
  · rintro ⟨h1, h2, h3, h4⟩; exact ⟨h1, h3, h2, h4.comm h1⟩
theorem to_self {n : Nat} {f : Nat → Int} {a : Int} (h64 : ∀ i, i < n → I64 (f i)) (hP : GrdP n f) (ha : 1 ≤ a ∧ a < 2 ^ n) : toB n f a a = true := by
  obtain ⟨i, hi, hb⟩ := some_bit8 hP.hi ha
  exact (to_iff h64 (rng_64 hP.hi ha) (rng_64 hP.hi ha)).2 ⟨hP, ha, ha, i, hi, i, hi, hb, hb, .inl rfl⟩
theorem to_and {n : Nat} {f : Nat → Int} {a b : Int} (h64 : ∀ i, i < n → I64 (f i)) (hP : GrdP n f) (ha : 1 ≤ a ∧ a < 2 ^ n) (hb : 1 ≤ b ∧ b < 2 ^ n) (h : (andI a b != 0) = true) : toB n f a b = true := by
  obtain ⟨i, hi, hc⟩ := (nz_iff (andI_I64 _ _)).1 h
  rw [and_bit _ _ _ hi, Bool.and_eq_true] at hc
  have hin := hasB_lt ⟨by omega, ha.2⟩ hc.1
  exact (to_iff h64 (rng_64 hP.hi ha) (rng_64 hP.hi hb)).2 ⟨hP, ha, hb, i, hin, i, hin, hc.1, hc.2, .inl rfl⟩
theorem to_more {n : Nat} {f : Nat → Int} {a b : Int} (h64 : ∀ i, i < n → I64 (f i)) (ha : I64 a) (hb : I64 b) (h : toB n f a b = true) {p : Nat} (hp : p < n) : toB n f (orI a (2 ^ p)) b = true := by
  obtain ⟨hP, h1, h2, i, hi, j, hj, h3, h4, h5⟩ := (to_iff h64 ha hb).1 h
  have h7 := hP.hi
  have hpw := pow7 hp
  exact (to_iff h64 (orI_I64 _ _) hb).2 ⟨hP, or_rng8 h7 h1 ⟨by omega, hpw.2⟩, h2, i, hi, j, hj, by rw [or_bit _ _ _ (by omega), h3]; rfl, h4, h5⟩
theorem to_more2 {n : Nat} {f : Nat → Int} {a b : Int} (h64 : ∀ i, i < n → I64 (f i)) (ha : I64 a) (hb : I64 b) (h : toB n f a b = true) {p : Nat} (hp : p < n) : toB n f a (orI b (2 ^ p)) = true := by
  rw [← to_comm h64 ha (orI_I64 _ _)]
  exact to_more h64 hb ha (by rw [to_comm h64 ha hb]; exact h) hp

theorem thing_more {n : Nat} {f : Nat → Int} {s : Int} (h64 : ∀ i, i < n → I64 (f i)) (hs : I64 s) (h : thingB n f s = true) {p : Nat} (hp : p < n) : thingB n f (orI s (2 ^ p)) = true := by
  obtain ⟨hP, h1⟩ := (thing_iff h64 hs).1 h
  have hpw := pow7 hp
  exact (thing_iff h64 (orI_I64 _ _)).2 ⟨hP, or_rng8 hP.hi h1 ⟨by omega, hpw.2⟩⟩
theorem all_rng8 {n : Nat} (h1 : 1 ≤ n) : 1 ≤ (2 : Int) ^ n - 1 ∧ (2 : Int) ^ n - 1 < 2 ^ n := by
  have := pow7 (show 0 < n by omega)
  have e : (2 : Int) ^ 0 = 1 := rfl
  omega
theorem thing_all {n : Nat} {f : Nat → Int} (h64 : ∀ i, i < n → I64 (f i)) (h : grdB n f = true) : thingB n f (2 ^ n - 1) = true := by
  have hP := (grd_iff h64).1 h
  exact (thing_iff h64 (rng_64 hP.hi (all_rng8 hP.lo))).2 ⟨hP, all_rng8 hP.lo⟩

/-- a ground without its last place -/
theorem grd_less {n : Nat} {f : Nat → Int} (h64 : ∀ i, i < n → I64 (f i)) (h : grdB n f = true) (h2 : 2 ≤ n) : grdB (n - 1) (fun k => andI (f k) (2 ^ (n - 1) - 1)) = true := by
  have hP := (grd_iff h64).1 h
  have h7 := hP.hi
  refine (grd_iff (fun i _ => andI_I64 _ _)).2 ⟨by omega, by omega, fun i hi => ?_, fun i hi => ?_, fun i hi j hj => ?_⟩
  · refine lt_of_bits _ _ (by omega) (andI_I64 _ _) (fun k hk hnk => ?_)
    rw [and_bit _ _ _ hk, hasB_low, decide_eq_false (by omega), Bool.and_false]
  · rw [and_bit _ _ _ (by omega), hP.irr i (by omega), Bool.false_and]
  · rw [and_bit _ _ _ (by omega), and_bit _ _ _ (by omega), hasB_low, hasB_low, decide_eq_true hi, decide_eq_true hj, Bool.and_true, Bool.and_true]
    exact hP.sym i (by omega) j (by omega)
theorem grd_congr {n : Nat} {f g : Nat → Int} (e : ∀ i, i < n → f i = g i) : grdB n f = grdB n g := by
  unfold grdB gnumB gsymB
  congr 2
  · rw [decide_eq_decide]
    constructor <;> intro h a ha <;> have := h a ha <;> have e1 := e a ha <;> simpa only [e1] using this
  · rw [decide_eq_decide]
    constructor <;> intro h b hb a hab <;> have := h b hb a hab <;> have e1 := e a (by omega) <;> have e2 := e b hb <;> simpa only [e1, e2] using this

/-- outside touch -/
theorem ot_iff {n : Nat} {f : Nat → Int} {a b : Int} : otB n f a b = true ↔ toB n f a b = true ∧ andI a b = 0 := by
  unfold otB; rw [Bool.and_eq_true, beq_iff_eq]
theorem and_comm8 (a b : Int) : andI a b = andI b a := by
  apply ext64 _ _ (andI_I64 _ _) (andI_I64 _ _)
  intro i hi
  rw [and_bit _ _ _ hi, and_bit _ _ _ hi, Bool.and_comm]
theorem ot_comm {n : Nat} {f : Nat → Int} {a b : Int} (h64 : ∀ i, i < n → I64 (f i)) (ha : I64 a) (hb : I64 b) : otB n f b a = otB n f a b := by
  unfold otB
  rw [to_comm h64 ha hb, and_comm8 b a]
theorem bit_pow {p i : Nat} : hasB ((2 : Int) ^ p) i = true ↔ p = i := by rw [hasB_pow, decide_eq_true_eq]
/-- single places -/
theorem ot_single {n : Nat} {f : Nat → Int} (h64 : ∀ i, i < n → I64 (f i)) (hP : GrdP n f) {p q : Nat} (hp : p < n) (hq : q < n) : otB n f (2 ^ p) (2 ^ q) = true ↔ hasB (f p) q = true := by
  have h7 := hP.hi
  have hpw := pow7 hp
  have hqw := pow7 hq
  rw [ot_iff, to_iff h64 (pow_64 (by omega)) (pow_64 (by omega)), and_zero_iff]
  constructor
  · rintro ⟨⟨_, _, _, i, hi, j, hj, h1, h2, h3⟩, h4⟩
    have e1 := bit_pow.1 h1
    have e2 := bit_pow.1 h2
    subst e1; subst e2
    rcases h3 with h3 | h3
    · subst h3
      have := h4 q (by omega) (bit_pow.2 rfl)
      rw [bit_pow.2 rfl] at this; cases this
    · exact h3
  · intro h
    refine ⟨⟨hP, hpw, hqw, q, hq, p, hp, bit_pow.2 rfl, bit_pow.2 rfl, .inr h⟩, fun i hi hb => ?_⟩
    have e := bit_pow.1 hb
    subst e
    rw [Bool.eq_false_iff]
    intro hc
    have e2 := bit_pow.1 hc
    subst e2
    rw [hP.irr _ hp] at h; cases h
/-- what the law's two loops gather -/
theorem ot_some {n : Nat} {f : Nat → Int} {a b : Int} (h64 : ∀ i, i < n → I64 (f i)) (hP : GrdP n f) (ha : 1 ≤ a ∧ a < 2 ^ n) (hb : 1 ≤ b ∧ b < 2 ^ n) {s : Bool}
    (h1 : s = true → ∃ p, p < n ∧ ∃ q, q < n ∧ hasB a p = true ∧ hasB b q = true ∧ otB n f (2 ^ p) (2 ^ q) = true)
    (h2 : ∀ p, p < n → ∀ q, q < n → hasB a p = true → hasB b q = true → otB n f (2 ^ p) (2 ^ q) = true → s = true) :
    otB n f a b = (s && (andI a b == 0)) := by
  rw [Bool.eq_iff_iff, ot_iff, to_iff h64 (rng_64 hP.hi ha) (rng_64 hP.hi hb), Bool.and_eq_true, beq_iff_eq]
  constructor
  · rintro ⟨⟨_, _, _, i, hi, j, hj, h3, h4, h5⟩, h6⟩
    refine ⟨?_, h6⟩
    rcases h5 with rfl | h5
    · have := (and_zero_iff _ _).1 h6 i (by have := hP.hi; omega) h3
      rw [h4] at this; cases this
    · exact h2 j hj i hi h3 h4 ((ot_single h64 hP hj hi).2 h5)
  · rintro ⟨hs, h6⟩
    obtain ⟨p, hp, q, hq, h3, h4, h5⟩ := h1 hs
    exact ⟨⟨hP, ha, hb, q, hq, p, hp, h3, h4, .inr ((ot_single h64 hP hp hq).1 h5)⟩, h6⟩

/-- inside -/
def Ins (n : Nat) (f : Nat → Int) (a b : Int) : Prop := ∀ j, j < n → hasB a j = true → hasB b j = true ∧ ∀ i, i < n → hasB (f j) i = true → hasB b i = true
theorem id_iff {n : Nat} {f : Nat → Int} {a b : Int} (h64 : ∀ i, i < n → I64 (f i)) (ha : I64 a) (hb : I64 b) :
    idB n f a b = true ↔ GrdP n f ∧ (1 ≤ a ∧ a < 2 ^ n) ∧ (1 ≤ b ∧ b < 2 ^ n) ∧ Ins n f a b := by
  unfold idB
  rw [Bool.and_eq_true, thing2_in h64 ha hb, within_iff]
  constructor
  · rintro ⟨⟨hP, h1, h2⟩, h3⟩
    have h7 := hP.hi
    refine ⟨hP, h1, h2, fun j hj hja => ⟨h3 j (by omega) ((gw_bit _ _ _ _ (by omega)).2 (.inl hja)), fun i hi hf => h3 i (by omega) ((gw_bit _ _ _ _ (by omega)).2 (.inr ⟨j, hj, hja, hf⟩))⟩⟩
  · rintro ⟨hP, h1, h2, h3⟩
    have h7 := hP.hi
    refine ⟨⟨hP, h1, h2⟩, fun i hi hg => ?_⟩
    rcases (gw_bit _ _ _ _ hi).1 hg with h | ⟨j, hj, h4, h5⟩
    · exact (h3 i (hasB_lt ⟨by omega, h1.2⟩ h) h).1
    · exact (h3 j hj h4).2 i (hasB_lt (hP.rng j hj) h5) h5
theorem id_more {n : Nat} {f : Nat → Int} {a b : Int} (h64 : ∀ i, i < n → I64 (f i)) (ha : I64 a) (hb : I64 b) (h : idB n f a b = true) {p : Nat} (hp : p < n) : idB n f a (orI b (2 ^ p)) = true := by
  obtain ⟨hP, h1, h2, h3⟩ := (id_iff h64 ha hb).1 h
  have h7 := hP.hi
  have hpw := pow7 hp
  refine (id_iff h64 ha (orI_I64 _ _)).2 ⟨hP, h1, or_rng8 h7 h2 ⟨by omega, hpw.2⟩, fun j hj hja => ?_⟩
  obtain ⟨h4, h5⟩ := h3 j hj hja
  exact ⟨by rw [or_bit _ _ _ (by omega), h4]; rfl, fun i hi hf => by rw [or_bit _ _ _ (by omega), h5 i hi hf]; rfl⟩
theorem id_both {n : Nat} {f : Nat → Int} {a b : Int} (h64 : ∀ i, i < n → I64 (f i)) (ha : I64 a) (hb : I64 b) (h : idB n f a b = true) {p : Nat} (hp : p < n) (h2 : idB n f (2 ^ p) b = true) : idB n f (orI a (2 ^ p)) b = true := by
  obtain ⟨hP, h1, hbr, h3⟩ := (id_iff h64 ha hb).1 h
  have h7 := hP.hi
  have hpw := pow7 hp
  obtain ⟨_, _, _, h4⟩ := (id_iff h64 (pow_64 (by omega)) hb).1 h2
  refine (id_iff h64 (orI_I64 _ _) hb).2 ⟨hP, or_rng8 h7 h1 ⟨by omega, hpw.2⟩, hbr, fun j hj hja => ?_⟩
  rw [or_bit _ _ _ (by omega), Bool.or_eq_true] at hja
  rcases hja with hja | hja
  · exact h3 j hj hja
  · exact h4 j hj hja
theorem id_all {n : Nat} {f : Nat → Int} (h64 : ∀ i, i < n → I64 (f i)) (hP : GrdP n f) : idB n f (2 ^ n - 1) (2 ^ n - 1) = true := by
  have h := all_rng8 hP.lo
  have hI := rng_64 hP.hi h
  refine (id_iff h64 hI hI).2 ⟨hP, h, h, fun j hj hja => ⟨hja, fun i hi _ => ?_⟩⟩
  rw [hasB_low, decide_eq_true hi]

/-- a set without a part of it -/
def subA : Bool := (List.range 128).all (fun a => (List.range 128).all (fun s => !(s ||| a == a) || (Nat.ble s a && (List.range 7).all (fun i => (a - s).testBit i == (a.testBit i && !s.testBit i)))))
theorem sub_all : subA = true := by kernel_rfl
theorem tb_big {S i : Nat} (hS : S < 128) (hi : 7 ≤ i) : S.testBit i = false :=
  Nat.testBit_lt_two_pow (Nat.lt_of_lt_of_le (show S < 2 ^ 7 by omega) (Nat.pow_le_pow_right (by omega) hi))
theorem sub_bit {n : Nat} {a s : Int} (hn : n ≤ 7) (ha : 0 ≤ a ∧ a < 2 ^ n) (hs : 0 ≤ s ∧ s < 2 ^ n) (h : ∀ i, i < 64 → hasB s i = true → hasB a i = true) :
    (0 ≤ a - s ∧ a - s ≤ a) ∧ ∀ i, i < 64 → hasB (a - s) i = (hasB a i && !hasB s i) := by
  have hp := pow_bounds n hn
  obtain ⟨A, rfl⟩ := Int.eq_ofNat_of_zero_le ha.1
  obtain ⟨S, rfl⟩ := Int.eq_ofNat_of_zero_le hs.1
  have hA : A < 128 := by omega
  have hS : S < 128 := by omega
  have hor : S ||| A = A := by
    apply Nat.eq_of_testBit_eq
    intro i
    rw [Nat.testBit_or]
    by_cases hi : i < 64
    · have hi2 := h i hi
      rw [hasB_nat, hasB_nat] at hi2
      cases hc : S.testBit i with
      | false => rfl
      | true => rw [hi2 hc]; rfl
    · rw [tb_big hS (by omega), Bool.false_or]
  have hk := sub_all
  unfold subA at hk
  rw [List.all_eq_true] at hk
  have h1 := hk A (List.mem_range.2 hA)
  rw [List.all_eq_true] at h1
  have h2 := h1 S (List.mem_range.2 hS)
  rw [hor, Bool.or_eq_true, Bool.not_eq_true', beq_eq_false_iff_ne, Bool.and_eq_true, List.all_eq_true] at h2
  rcases h2 with h2 | ⟨h2, h3⟩
  · exact absurd rfl h2
  · have hle := Nat.le_of_ble_eq_true h2
    have e : ((A : Int) - (S : Int)) = ((A - S : Nat) : Int) := by omega
    refine ⟨by omega, fun i _ => ?_⟩
    rw [e, hasB_nat, hasB_nat, hasB_nat]
    by_cases h7 : i < 7
    · exact eq_of_beq (h3 i (List.mem_range.2 h7))
    · rw [tb_big hA (by omega), tb_big (show A - S < 128 by omega) (by omega)]; rfl
theorem out_bit {n : Nat} {b : Int} (hn : n ≤ 7) (h1 : 1 ≤ n) (hb : 1 ≤ b ∧ b < 2 ^ n) :
    (0 ≤ 2 ^ n - 1 - b ∧ 2 ^ n - 1 - b < 2 ^ n) ∧ ∀ i, i < 64 → hasB (2 ^ n - 1 - b) i = (decide (i < n) && !hasB b i) := by
  have ha := all_rng8 h1
  obtain ⟨h2, h3⟩ := sub_bit hn (a := 2 ^ n - 1) (s := b) ⟨by omega, ha.2⟩ ⟨by omega, hb.2⟩ (fun i _ hbi => by rw [hasB_low, decide_eq_true (hasB_lt ⟨by omega, hb.2⟩ hbi)])
  exact ⟨by omega, fun i hi => by rw [h3 i hi, hasB_low]⟩
theorem id_out {n : Nat} {f : Nat → Int} {a b : Int} (h64 : ∀ i, i < n → I64 (f i)) (hP : GrdP n f) (ha : 1 ≤ a ∧ a < 2 ^ n) (hb : 1 ≤ b ∧ b < 2 ^ n) :
    idB n f a b = ((orI a b == b) && !(decide (0 < 2 ^ n - 1 - b) && toB n f a (2 ^ n - 1 - b))) := by
  have h7 := hP.hi
  have ha6 := rng_64 h7 ha
  have hb6 := rng_64 h7 hb
  obtain ⟨ho1, ho2⟩ := out_bit h7 hP.lo hb
  have ho6 : I64 (2 ^ n - 1 - b) := by have := pow_bounds n h7; unfold I64; omega
  rw [Bool.eq_iff_iff, id_iff h64 ha6 hb6, Bool.and_eq_true, beq_iff_eq, or_comm, or_eq_iff b a hb6, Bool.not_eq_true', Bool.eq_false_iff]
  constructor
  · rintro ⟨_, _, _, h3⟩
    refine ⟨fun i hi hai => (h3 i (hasB_lt ⟨by omega, ha.2⟩ hai) hai).1, fun hc => ?_⟩
    rw [Bool.and_eq_true] at hc
    obtain ⟨_, _, _, i, hi, j, hj, h4, h5, h6⟩ := (to_iff h64 ha6 ho6).1 hc.2
    rw [ho2 i (by omega), Bool.and_eq_true, Bool.not_eq_true'] at h5
    obtain ⟨h8, h9⟩ := h3 j hj h4
    rcases h6 with rfl | h6
    · rw [h5.2] at h8; cases h8
    · have := h9 i hi h6; rw [h5.2] at this; cases this
  · rintro ⟨h3, h4⟩
    refine ⟨hP, ha, hb, fun j hj hja => ⟨h3 j (by omega) hja, fun i hi hf => ?_⟩⟩
    cases hc : hasB b i with
    | true => rfl
    | false =>
      exfalso
      apply h4
      have hoi : hasB (2 ^ n - 1 - b) i = true := by rw [ho2 i (by omega), hc, decide_eq_true hi]; rfl
      have hor := of_bit8 ho6 h7 (fun k hk hkb => hasB_lt ho1 hkb) hi hoi
      rw [Bool.and_eq_true, decide_eq_true_eq]
      exact ⟨by omega, (to_iff h64 ha6 ho6).2 ⟨hP, ha, hor, i, hi, j, hj, hja, hoi, .inr hf⟩⟩

/-- borders -/
theorem bo_rng (n : Nat) (f : Nat → Int) (a : Int) (hn : n ≤ 7) : 0 ≤ boI n f a ∧ boI n f a < 2 ^ n := setOf_rng _ n (by omega)
theorem bo_in {n : Nat} {f : Nat → Int} {a : Int} (hP : GrdP n f) (ha : 1 ≤ a ∧ a < 2 ^ n) : orI (boI n f a) a = a := by
  have ha6 := rng_64 hP.hi ha
  rw [or_comm]
  exact (or_eq_iff _ _ ha6).2 (fun i hi hb => ((bo_bit hP ⟨by omega, ha.2⟩ ha6 i hi).1 hb).1)
theorem bo_rest {n : Nat} {f : Nat → Int} {a : Int} (h64 : ∀ i, i < n → I64 (f i)) (hP : GrdP n f) (ha : 1 ≤ a ∧ a < 2 ^ n) (hne : boI n f a ≠ a) : idB n f (a - boI n f a) a = true := by
  have h7 := hP.hi
  have ha6 := rng_64 h7 ha
  have ha0 : 0 ≤ a ∧ a < 2 ^ n := ⟨by omega, ha.2⟩
  obtain ⟨h1, h2⟩ := sub_bit h7 ha0 (bo_rng n f a h7) (fun i hi hb => ((bo_bit hP ha0 ha6 i hi).1 hb).1)
  have hr : 1 ≤ a - boI n f a ∧ a - boI n f a < 2 ^ n := by omega
  refine (id_iff h64 (rng_64 h7 hr) ha6).2 ⟨hP, hr, ha, fun j hj hja => ?_⟩
  rw [h2 j (by omega), Bool.and_eq_true, Bool.not_eq_true', Bool.eq_false_iff] at hja
  refine ⟨hja.1, fun i hi hf => ?_⟩
  cases hc : hasB a i with
  | true => rfl
  | false => exact (hja.2 ((bo_bit hP ha0 ha6 j (by omega)).2 ⟨hja.1, i, hi, hf, hc⟩)).elim
theorem bo_none {n : Nat} {f : Nat → Int} {a : Int} (h64 : ∀ i, i < n → I64 (f i)) (hP : GrdP n f) (ha : 1 ≤ a ∧ a < 2 ^ n) : (boI n f a == 0) = idB n f a a := by
  have h7 := hP.hi
  have ha6 := rng_64 h7 ha
  have ha0 : 0 ≤ a ∧ a < 2 ^ n := ⟨by omega, ha.2⟩
  rw [Bool.eq_iff_iff, beq_iff_eq, id_iff h64 ha6 ha6]
  constructor
  · intro h
    refine ⟨hP, ha, ha, fun j hj hja => ⟨hja, fun i hi hf => ?_⟩⟩
    cases hc : hasB a i with
    | true => rfl
    | false =>
      have := (bo_bit hP ha0 ha6 j (by omega)).2 ⟨hja, i, hi, hf, hc⟩
      rw [h, hasB_zero] at this; cases this
  · rintro ⟨_, _, _, h3⟩
    apply ext64 _ _ (setOf_I64 _ _) I64_zero
    intro i hi
    rw [hasB_zero, Bool.eq_false_iff]
    intro hb
    obtain ⟨h4, j, hj, h5, h6⟩ := (bo_bit hP ha0 ha6 i hi).1 hb
    have := (h3 i (hasB_lt ha0 h4) h4).2 j hj h5
    rw [h6] at this; cases this

/-- grown -/
theorem gw_place {n : Nat} {f : Nat → Int} {a : Int} (h64 : ∀ i, i < n → I64 (f i)) (hP : GrdP n f) (ha : 1 ≤ a ∧ a < 2 ^ n) {p : Nat} (hp : p < n) : toB n f a (2 ^ p) = hasB (gwI n f a) p := by
  have h7 := hP.hi
  rw [Bool.eq_iff_iff, to_iff h64 (rng_64 h7 ha) (pow_64 (by omega)), gw_bit _ _ _ _ (by omega)]
  constructor
  · rintro ⟨_, _, _, i, hi, j, hj, h1, h2, h3⟩
    have e := bit_pow.1 h2
    subst e
    rcases h3 with h3 | h3
    · subst h3; exact .inl h1
    · exact .inr ⟨j, hj, h1, h3⟩
  · intro h
    refine ⟨hP, ha, pow7 hp, p, hp, ?_⟩
    rcases h with h | ⟨j, hj, h1, h2⟩
    · exact ⟨p, hp, h, bit_pow.2 rfl, .inl rfl⟩
    · exact ⟨j, hj, h1, bit_pow.2 rfl, .inr h2⟩
theorem gw_both (n : Nat) (f : Nat → Int) (a c : Int) (hn : n ≤ 7) : gwI n f (orI a c) = orI (gwI n f a) (gwI n f c) := by
  apply ext64 _ _ (gw_I64 _ _ _) (orI_I64 _ _)
  intro i hi
  rw [or_bit _ _ _ hi, Bool.eq_iff_iff, Bool.or_eq_true, gw_bit _ _ _ _ hi, gw_bit _ _ _ _ hi, gw_bit _ _ _ _ hi, or_bit _ _ _ hi, Bool.or_eq_true]
  constructor
  · rintro ((h | h) | ⟨j, hj, h1, h2⟩)
    · exact .inl (.inl h)
    · exact .inr (.inl h)
    · rw [or_bit _ _ _ (by omega), Bool.or_eq_true] at h1
      rcases h1 with h1 | h1
      · exact .inl (.inr ⟨j, hj, h1, h2⟩)
      · exact .inr (.inr ⟨j, hj, h1, h2⟩)
  · rintro ((h | ⟨j, hj, h1, h2⟩) | (h | ⟨j, hj, h1, h2⟩))
    · exact .inl (.inl h)
    · exact .inr ⟨j, hj, by rw [or_bit _ _ _ (by omega), h1]; rfl, h2⟩
    · exact .inl (.inr h)
    · exact .inr ⟨j, hj, by rw [or_bit _ _ _ (by omega), h1, Bool.or_true], h2⟩
theorem gw_own (n : Nat) (f : Nat → Int) (a : Int) : orI (gwI n f a) a = gwI n f a :=
  (or_eq_iff _ _ (gw_I64 _ _ _)).2 (fun _ hi hb => (gw_bit _ _ _ _ hi).2 (.inl hb))
theorem gw_pos {n : Nat} {f : Nat → Int} {a : Int} (hP : GrdP n f) (ha : 1 ≤ a ∧ a < 2 ^ n) : 1 ≤ gwI n f a ∧ gwI n f a < 2 ^ n := by
  have h1 := gw_rng hP (s := a) ⟨by omega, ha.2⟩
  obtain ⟨i, hi, hb⟩ := some_bit8 hP.hi ha
  have h7 := hP.hi
  exact of_bit8 (gw_I64 _ _ _) h7 (fun k _ hkb => hasB_lt h1 hkb) hi ((gw_bit _ _ _ _ (by omega)).2 (.inl hb))
theorem gw_in {n : Nat} {f : Nat → Int} {a : Int} (h64 : ∀ i, i < n → I64 (f i)) (hP : GrdP n f) (ha : 1 ≤ a ∧ a < 2 ^ n) : idB n f a (gwI n f a) = true := by
  have h7 := hP.hi
  refine (id_iff h64 (rng_64 h7 ha) (gw_I64 _ _ _)).2 ⟨hP, ha, gw_pos hP ha, fun j hj hja => ⟨(gw_bit _ _ _ _ (by omega)).2 (.inl hja), fun i hi hf => (gw_bit _ _ _ _ (by omega)).2 (.inr ⟨j, hj, hja, hf⟩)⟩⟩
end Go.Proofs.Ytacoeaoaabjkoaa
