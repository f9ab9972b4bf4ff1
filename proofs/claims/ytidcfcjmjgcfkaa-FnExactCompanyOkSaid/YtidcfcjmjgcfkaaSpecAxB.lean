import Derived.Test.YtidcfcjmjgcfkaaSpecAxA
import Derived.Test.YtidcfcjmjgcfkaaAxiomU
namespace Go.Proofs.Ytidcfcjmjgcfkaa
open Go.RowKit

/-- how many of the first k bits are set -/
def popc : Nat → Nat → Nat
  | 0, _ => 0
  | k + 1, x => x % 2 + popc k (x / 2)

theorem popc_zero : ∀ k, popc k 0 = 0
  | 0 => rfl
  | k + 1 => by rw [popc]; simp [popc_zero k]

def SizeRel (x : Nat) (s c : Value) : Prop := ∃ k s' c' : Nat, s' < 2 ^ k ∧ k ≤ 7 ∧ s = .int .i64 s' ∧ c = .int .i64 c' ∧ c' + popc k s' = popc 7 x ∧ c' + k ≤ 7

set_option maxHeartbeats 800000 in
theorem l1Size_any (x : Nat) (hx : x < 128) (w : World) :
    Calls Try.prog 29 #[.int .i64 x] w fun e w' => e = .returned (.int .i64 (popc 7 x)) ∧ w = w' := by
  go_enter Try.func29, Try.ntmps29
  go_wp2_with fail
  go_loop [0, 3] (fun s c => SizeRel x s c) (fun s _ => (intOf s).toNat)
  case atStart => exact ⟨7, x, 0, by omega, by omega, rfl, rfl, by omega, by omega⟩
  case round =>
    obtain ⟨k, s, c, hs, hk, rfl, rfl, hsum, hck⟩ := hrel
    have hs128 : s < 128 := Nat.lt_of_lt_of_le hs (Nat.pow_le_pow_right (by decide) hk)
    by_cases h0 : 0 < s
    · obtain ⟨k', rfl⟩ : ∃ k', k = k' + 1 := by
        cases k with
        | zero => simp at hs; omega
        | succ k' => exact ⟨k', rfl⟩
      rw [popc] at hsum
      rw [Nat.pow_succ] at hs
      have HS := Lib.hid hsum; clear hsum
      have h0i : (0 : Int) < (s : Int) := by omega
      go_wp2_with fail
      go_round
      case rel => exact ⟨k', s / 2, c + s % 2, by omega, by omega, by go_num, by go_num, by have := HS.out; omega, by omega⟩
      case measure => simp [intOf]; omega
    · have hs0 : s = 0 := by omega
      subst hs0
      rw [popc_zero] at hsum
      have HS := Lib.hid hsum; clear hsum
      go_wp2_with fail
      go_ret
      exact ⟨reti (by have := HS.out; omega), rfl⟩

/-- a set of a thing with its number a, by its size, and by what is left without a -/
def sizeOk (x a : Nat) : Bool := !(hasB x a) || (((popc 7 x == 2) == (List.range 7).any (fun b => b != a && hasB x b && bits .andNot .i64 x (2 ^ a) == 2 ^ b)) && bits .andNot .i64 x (2 ^ a) == x - 2 ^ a)
theorem sizeOk_all : (List.range 128).all (fun x => (List.range 7).all (sizeOk x)) = true := by kernel_rfl
theorem sizeOk_at (x a : Nat) (hx : x < 128) (ha : a < 7) : sizeOk x a = true := by
  have h := sizeOk_all
  rw [List.all_eq_true] at h
  have h2 := h x (List.mem_range.2 hx)
  rw [List.all_eq_true] at h2
  exact h2 a (List.mem_range.2 ha)

theorem pow7le {n : Nat} (h : n ≤ 7) : (2 : Int) ^ n ≤ 128 := by
  match n, h with
  | 0, _ | 1, _ | 2, _ | 3, _ | 4, _ | 5, _ | 6, _ | 7, _ => decide

theorem size_nat {n : Nat} {f : Nat → Int} (hP : WorldP n f) {a : Nat} (ha : a < n) : ∃ X : Nat, f a = X ∧ X < 128 := by
  have h := hP.rng a ha
  have := pow7le hP.hi
  obtain ⟨X, e⟩ := Int.eq_ofNat_of_zero_le h.1
  exact ⟨X, e, by omega⟩

theorem pps_sub {n : Nat} {f : Nat → Int} (hP : WorldP n f) {a : Nat} (ha : a < n) : ppsI f a = f a - 2 ^ a := by
  obtain ⟨X, e, hX⟩ := size_nat hP ha
  have hs := hP.self a ha
  have h := sizeOk_at X a hX (by have := hP.hi; omega)
  unfold sizeOk at h
  unfold ppsI
  rw [e] at hs ⊢
  rw [hs] at h
  simp only [Bool.not_true, Bool.false_or, Bool.and_eq_true] at h
  exact beq_iff_eq.1 h.2

theorem company_size {n : Nat} {f : Nat → Int} (hP : WorldP n f) {a X : Nat} (ha : a < n) (e : f a = X) : (popc 7 X = 2) ↔ ∃ b, b < n ∧ a ≠ b ∧ companyG f a b = false := by
  obtain ⟨X', e', hX⟩ := size_nat hP ha
  obtain rfl : X = X' := by omega
  have hs := hP.self a ha
  have h := sizeOk_at X a hX (by have := hP.hi; omega)
  unfold sizeOk at h
  have hs2 := hs
  rw [e] at hs2
  rw [hs2] at h
  simp only [Bool.not_true, Bool.false_or, Bool.and_eq_true] at h
  have h1 := beq_iff_eq.1 h.1
  have h2 : (popc 7 X = 2) ↔ (popc 7 X == 2) = true := by rw [beq_iff_eq]
  rw [h2, h1, List.any_eq_true]
  constructor
  · rintro ⟨b, _, hb⟩
    simp only [Bool.and_eq_true, bne_iff_ne] at hb
    have hfb : hasB (f a) b = true := by rw [e]; exact hb.1.2
    refine ⟨b, hasB_lt (hP.rng a ha) hfb, fun e => hb.1.1 e.symm, ?_⟩
    unfold companyG neHas ppsI
    rw [hfb, decide_eq_true hb.1.1, e]
    have h3 := beq_iff_eq.1 hb.2
    rw [h3]; simp
  · rintro ⟨b, hb, hab, hc⟩
    unfold companyG at hc
    rw [Bool.or_eq_false_iff] at hc
    have h3 : neHas (f a) b a = true := by have := hc.1; simpa using this
    unfold neHas at h3
    rw [Bool.and_eq_true, decide_eq_true_eq] at h3
    have h4 : ppsI f a = 2 ^ b := by have := hc.2; simpa using this
    refine ⟨b, List.mem_range.2 (by have := hP.hi; omega), ?_⟩
    simp only [Bool.and_eq_true, bne_iff_ne]
    refine ⟨⟨h3.1, by rw [← e]; exact h3.2⟩, ?_⟩
    unfold ppsI at h4; rw [e] at h4
    rw [h4]; simp

theorem companyB_no {n : Nat} {f : Nat → Int} (hP : WorldP n f) {a X : Nat} (ha : a < n) (e : f a = X) (h : popc 7 X = 2) : companyB n f = false := by
  obtain ⟨b, hb, hab, hc⟩ := (company_size hP ha e).1 h
  unfold companyB; rw [each_no ha hb hab hc, Bool.and_false]
theorem companyB_of {n : Nat} {f : Nat → Int} (hw : worldB n f = true) (h : ∀ a, a < n → ∀ c, c < n → a ≠ c → companyG f a c = true) : companyB n f = true := by
  unfold companyB; rw [hw, each_iff.2 h]; rfl
theorem company_row {n : Nat} {f : Nat → Int} (hP : WorldP n f) {a X : Nat} (ha : a < n) (e : f a = X) (h : popc 7 X ≠ 2) : ∀ c, c < n → a ≠ c → companyG f a c = true := by
  intro c hc hac
  cases hg : companyG f a c with
  | true => rfl
  | false => exact absurd ((company_size hP ha e).2 ⟨c, hc, hac, hg⟩) h

set_option maxRecDepth 100000 in
set_option maxHeartbeats 3200000 in
theorem specCompanyOk_in (b o n cap : Nat) (f : Nat → Int) (hg : worldB n f = true) (w : World) (hi : Ints w (some ⟨b, o, none⟩) n f) (hr : Row w b o n f) :
    Calls Try.prog 12 #[.slice (some ⟨b, o, none⟩) n cap] w fun e w' => e = .returned (.bool (companyB n f)) ∧ Drew w w' := by
  have h7 := (worldB_7 hg).2
  have HPW := Lib.hid (world_of hi hg)
  have HG := Lib.hid hg; have HN := Lib.hid hi; have HR := Lib.hid hr; clear hg hi hr
  go_enter Try.func12, Try.ntmps12
  go_wp2_with fail
  go_loopw [3] (fun i wr => ∃ k : Nat, k ≤ n ∧ i = .int .i64 k ∧ Hid (∀ a, a < k → ∀ c, c < n → a ≠ c → companyG f a c = true) ∧ Drew w wr) (fun i _ => n - (intOf i).toNat)
  case atStart => exact ⟨0, Nat.zero_le _, rfl, fun a ha => absurd ha (Nat.not_lt_zero _), Drew.refl _⟩
  case round =>
    obtain ⟨k, hk, rfl, hall, hd⟩ := hrel
    by_cases hlt : k < n
    · go_wp2_with fail
      refine (specWorldOk_val _ _ _ f true _ HG.out (HN.out.drew hd)).mono ?_
      rintro e w1 ⟨rfl, hd1⟩
      have hd2 : Drew w w1 := by obtain ⟨m, rfl⟩ := hd1; exact hd.more m
      clear hd hd1
      obtain ⟨X, hX, hX7⟩ := size_nat HPW.out hlt
      have hc : w1.cell? ⟨b, o + k, none⟩ = some (.int .i64 X) := by
        have hrr : Row w1 b o n f := by obtain ⟨m, rfl⟩ := hd2; exact HR.out.drewN m
        have := hrr k hlt; rwa [hX] at this
      by_cases hp : popc 7 X = 2
      · have hpi : ((popc 7 X : Int) == 2) = true := by rw [beq_iff_eq]; omega
        have HF := Lib.hid (companyB_no HPW.out hlt hX hp); clear hp hX
        go_wp2_with fail
        refine (l1Size_any X hX7 _).mono ?_
        rintro e w' ⟨rfl, rfl⟩
        go_wp2_with fail
        go_ret
        exact ⟨retb HF.out.symm, hd2⟩
      · have hpi : ((popc 7 X : Int) == 2) = false := by rw [beq_eq_false_iff_ne]; omega
        have HF := Lib.hid (company_row HPW.out hlt hX hp); clear hp hX
        go_wp2_with fail
        refine (l1Size_any X hX7 _).mono ?_
        rintro e w' ⟨rfl, rfl⟩
        go_wp2_with fail
        go_roundw
        case rel => exact ⟨k + 1, by omega, by go_num, fun a ha c hcn hac => by
          by_cases hak : a = k
          · subst hak; exact HF.out c hcn hac
          · exact hall a (by omega) c hcn hac, hd2⟩
        case measure => simp [intOf]; omega
    · have HF := Lib.hid (companyB_of HG.out (fun a ha c hc hac => hall a (by omega) c hc hac))
      go_wp2_with fail
      refine (specWorldOk_val _ _ _ f true _ HG.out (HN.out.drew hd)).mono ?_
      rintro e w1 ⟨rfl, hd1⟩
      have hd2 : Drew w w1 := by obtain ⟨m, rfl⟩ := hd1; exact hd.more m
      clear hd hd1
      go_wp2_with fail
      go_ret
      exact ⟨retb HF.out.symm, hd2⟩

theorem specCompanyOk_any (a : Option Addr) (n cap : Nat) (f : Nat → Int) (w : World) (hi : Ints w a n f) :
    Calls Try.prog 12 #[.slice a n cap] w fun e w' => e = .returned (.bool (companyB n f)) ∧ Drew w w' := by
  cases hg : worldB n f with
  | true =>
    obtain ⟨b, o, rfl, hlt, hr⟩ := hi.row (worldB_7 hg).1
    exact specCompanyOk_in b o n cap f hg w hi hr
  | false =>
    have hfin : companyB n f = false := by unfold companyB; rw [hg]; rfl
    have HF := Lib.hid hfin; have HG := Lib.hid hg; have HN := Lib.hid hi; clear hfin hg hi
    have hn := HN.out.1.1
    go_enter Try.func12, Try.ntmps12
    go_wp2_with fail
    go_loopw [3] (fun i wr => i = .int .i64 0 ∧ wr = w) (fun _ _ => 0)
    case atStart => exact ⟨rfl, rfl⟩
    case round =>
      obtain ⟨rfl, rfl⟩ := hrel
      by_cases h0 : 0 < n
      · have h0i : (0 : Int) < (n : Int) := by omega
        go_wp2_with fail
        refine (specWorldOk_val _ _ _ f false _ HG.out HN.out).mono ?_
        rintro e w' ⟨rfl, m0, rfl⟩
        go_wp2_with fail
        refine (specWorldOk_val _ _ _ f false _ HG.out (HN.out.drew ⟨_, rfl⟩)).mono ?_
        rintro e w' ⟨rfl, m1, rfl⟩
        go_wp2_with fail
        go_ret
        exact ⟨retb HF.out.symm, _, rfl⟩
      · have h0i : ¬ (0 : Int) < (n : Int) := by omega
        go_wp2_with fail
        refine (specWorldOk_val _ _ _ f false _ HG.out HN.out).mono ?_
        rintro e w' ⟨rfl, m0, rfl⟩
        go_wp2_with fail
        go_ret
        exact ⟨retb HF.out.symm, _, rfl⟩

theorem extG_symm {n : Nat} {f : Nat → Int} (hP : WorldP n f) {a b : Nat} (ha : a < n) (hb : b < n) (h : extendedG f a b = true) : extendedG f b a = true := by
  unfold extendedG atomB at h ⊢
  rw [pps_sub hP ha, pps_sub hP hb] at h ⊢
  rw [Bool.or_eq_true, beq_iff_eq, bne_iff_ne] at h ⊢
  omega

theorem extG_at {n : Nat} {f : Nat → Int} (hP : WorldP n f) {a b : Nat} (ha : a < n) (hb : b < n) : extendedG f a b = ((f a == 2 ^ a) || !(f a - 2 ^ a == f b - 2 ^ b)) := by
  unfold extendedG atomB
  rw [pps_sub hP ha, pps_sub hP hb]; rfl

theorem extendedB_no {n : Nat} {f : Nat → Int} {a b : Nat} (ha : a < n) (hb : b < a) (h : extendedG f a b = false) : extendedB n f = false := by
  unfold extendedB; rw [each_no ha (Nat.lt_trans hb ha) (by omega) h, Bool.and_false]
theorem extendedB_of {n : Nat} {f : Nat → Int} (hw : worldB n f = true) (hP : WorldP n f) (h : ∀ a, a < n → ∀ c, c < a → extendedG f a c = true) : extendedB n f = true := by
  unfold extendedB; rw [hw, each_iff.2 (fun a ha c hc hac => by
    rcases Nat.lt_or_gt_of_ne hac with hlt | hlt
    · exact extG_symm hP hc ha (h c hc a hlt)
    · exact h a ha c hlt)]; rfl

set_option maxRecDepth 100000 in
set_option maxHeartbeats 3200000 in
theorem specExtendedOk_in (b o n cap : Nat) (f : Nat → Int) (hg : worldB n f = true) (w : World) (hi : Ints w (some ⟨b, o, none⟩) n f) (hr : Row w b o n f) :
    Calls Try.prog 21 #[.slice (some ⟨b, o, none⟩) n cap] w fun e w' => e = .returned (.bool (extendedB n f)) ∧ Drew w w' := by
  have h7 := (worldB_7 hg).2
  have HPW := Lib.hid (world_of hi hg)
  have HG := Lib.hid hg; have HN := Lib.hid hi; have HR := Lib.hid hr; clear hg hi hr
  go_enter Try.func21, Try.ntmps21
  go_wp2_with fail
  refine (specWorldOk_val _ _ _ f true _ HG.out HN.out).mono ?_
  rintro e w0 ⟨rfl, hd0⟩
  go_wp2_with fail
  go_loopw [3] (fun i wr => ∃ k : Nat, k ≤ n ∧ i = .int .i64 k ∧ Hid (∀ a, a < k → ∀ c, c < a → extendedG f a c = true) ∧ Drew w wr) (fun i _ => n - (intOf i).toNat)
  case atStart => exact ⟨0, Nat.zero_le _, rfl, fun a ha => absurd ha (Nat.not_lt_zero _), hd0⟩
  case round =>
    clear hd0
    obtain ⟨k, hk, rfl, hall, hd⟩ := hrel
    by_cases hlt : k < n
    · go_wp2_with fail
      go_loopw [4] (fun i wr => ∃ j : Nat, j ≤ k ∧ i = .int .i64 j ∧ Hid (∀ c, c < j → extendedG f k c = true) ∧ Drew w wr) (fun i _ => k - (intOf i).toNat)
      case atStart => exact ⟨0, Nat.zero_le _, rfl, fun a ha => absurd ha (Nat.not_lt_zero _), hd⟩
      case round =>
        clear hd
        obtain ⟨j, hj, rfl, hin, hd⟩ := hrel
        by_cases hjk : j < k
        · have hji : (j : Int) < (k : Int) := by omega
          have hjn : j < n := by omega
          have hrr : Row wr b o n f := by obtain ⟨m, rfl⟩ := hd; exact HR.out.drewN m
          have ck := hrr k hlt
          have cj := hrr j hjn
          have hkn' : (k : Int) < (n : Int) := by omega
          have hjn' : (j : Int) < (n : Int) := by omega
          have ⟨hp1, hp2⟩ := pow_bounds k (by omega)
          have ⟨hq1, hq2⟩ := pow_bounds j (by omega)
          have hka := HPW.out.rng k hlt
          have hja := HPW.out.rng j hjn
          have hn2 := pow7le h7
          have hw1 : IntKind.i64.wrap (f k - 2 ^ k) = f k - 2 ^ k := wrap_in _ (by unfold I64; omega)
          have hw2 : IntKind.i64.wrap (f j - 2 ^ j) = f j - 2 ^ j := wrap_in _ (by unfold I64; omega)
          have hx := extG_at HPW.out hlt hjn
          clear hrr hka hja
          cases he : (f k == 2 ^ k) with
          | true =>
            have hne : (f k != 2 ^ k) = false := by rw [bne, he]; rfl
            have HS := Lib.hid (show extendedG f k j = true by rw [hx, he]; rfl); clear hx he
            go_wp2_with fail
            go_quiet (fail)
            go_wp2_with fail
            clear hne hw1 hw2
            go_roundw
            case rel => exact ⟨j + 1, by omega, by go_num, fun c hc => by
              by_cases hcj : c = j
              · subst hcj; exact HS.out
              · exact hin c (by omega), hd.more _⟩
            case measure => simp [intOf]; omega
          | false =>
            have hne : (f k != 2 ^ k) = true := by rw [bne, he]; rfl
            cases hq : (f k - 2 ^ k == f j - 2 ^ j) with
            | false =>
              have HS := Lib.hid (show extendedG f k j = true by rw [hx, he, hq]; rfl); clear hx he
              go_wp2_with fail
              go_quiet (fail)
              go_wp2_with fail
              clear hne hw1 hw2 hq
              go_roundw
              case rel => exact ⟨j + 1, by omega, by go_num, fun c hc => by
                by_cases hcj : c = j
                · subst hcj; exact HS.out
                · exact hin c (by omega), hd.more _⟩
              case measure => simp [intOf]; omega
            | true =>
              have HF := Lib.hid (extendedB_no hlt hjk (show extendedG f k j = false by rw [hx, he, hq]; rfl)); clear hx he
              go_wp2_with fail
              go_quiet (fail)
              go_wp2_with fail
              go_ret
              exact ⟨retb HF.out.symm, hd.more _⟩
        · go_wp2_with fail
          go_roundw
          case rel => exact ⟨k + 1, by omega, by go_num, fun a ha c hc => by
            by_cases hak : a = k
            · subst hak; exact hin c (by omega)
            · exact hall a (by omega) c hc, hd⟩
          case measure => simp [intOf]; omega
    · have HF := Lib.hid (extendedB_of HG.out HPW.out (fun a ha c hc => hall a (by omega) c hc))
      go_wp2_with fail
      go_ret
      exact ⟨retb HF.out.symm, hd⟩

theorem specExtendedOk_any (a : Option Addr) (n cap : Nat) (f : Nat → Int) (w : World) (hi : Ints w a n f) :
    Calls Try.prog 21 #[.slice a n cap] w fun e w' => e = .returned (.bool (extendedB n f)) ∧ Drew w w' := by
  cases hg : worldB n f with
  | true =>
    obtain ⟨b, o, rfl, hlt, hr⟩ := hi.row (worldB_7 hg).1
    exact specExtendedOk_in b o n cap f hg w hi hr
  | false =>
    have hfin : extendedB n f = false := by unfold extendedB; rw [hg]; rfl
    have HF := Lib.hid hfin; have HG := Lib.hid hg; have HN := Lib.hid hi; clear hfin hg hi
    have hn := HN.out.1.1
    go_enter Try.func21, Try.ntmps21
    go_wp2_with fail
    refine (specWorldOk_val _ _ _ f false _ HG.out HN.out).mono ?_
    rintro e w' ⟨rfl, m0, rfl⟩
    go_wp2_with fail
    go_ret
    exact ⟨retb HF.out.symm, _, rfl⟩
end Go.Proofs.Ytidcfcjmjgcfkaa
