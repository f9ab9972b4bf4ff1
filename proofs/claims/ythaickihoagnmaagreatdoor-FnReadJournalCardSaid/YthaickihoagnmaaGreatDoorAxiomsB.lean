import Derived.Test.YthaickihoagnmaaGreatDoorAxioms
import Derived.Test.YthaickihoagnmaaGreatDoorAtoms
namespace Go.Proofs.YthaickihoagnmaaGreatDoor
open Go.RowKit Go.Maps

/-- the proper parts of a thing -/
def ppsI (f : Nat → Int) (a : Nat) : Int := bits .andNot .i64 (f a) (2 ^ a)

set_option maxHeartbeats 1600000 in
theorem pps_any (bk off n cap : Nat) (a : Nat) (f : Nat → Int) (hn : n ≤ 7) (ha : a < n) (w : World) (hr : Row w bk off n f) :
    Calls Tryz.prog 244 #[.slice (some ⟨bk, off, none⟩) n cap, .int .i64 a] w fun e w' => e = .returned (.int .i64 (ppsI f a)) ∧ ∃ m, w' = w.drewN m := by
  have hc := hr a ha
  have ⟨hp1, hp2⟩ := pow_bounds a (by omega)
  have hai : (a : Int) < (n : Int) := by omega
  go_enter Tryz.func244, Tryz.ntmps244
  go_wp2_with fail
  go_quiet (fail)
  go_wp2_with fail
  go_ret
  exact ⟨rfl, _, rfl⟩

def companyG (f : Nat → Int) (whole part : Nat) : Bool := !neHas (f whole) part whole || ppsI f whole != 2 ^ part
def extendedG (f : Nat → Int) (a b : Nat) : Bool := atomB f a || ppsI f a != ppsI f b

theorem below_of_drewN (w : World) (m : Nat) : Below w.heap.size w (w.drewN m) := below_drewN (Below.refl _ _) m

set_option maxHeartbeats 1600000 in
theorem company_any (bk off n cap : Nat) (a b : Nat) (f : Nat → Int) (hn : n ≤ 7) (ha : a < n) (hb : b < n) (w : World) (hr : Row w bk off n f) :
    Calls Tryz.prog 230 #[.slice (some ⟨bk, off, none⟩) n cap, .int .i64 a, .int .i64 b] w (AskEnd (companyG f a b) w) := by
  have hc := hr a ha
  have hnot : ∀ (x : Bool) (w : World), (Op.unary .not (.bool x)).run Tryz.prog w = .ok (.bool (!x)) w := fun _ _ => rfl
  have ⟨hp1, hp2⟩ := pow_bounds b (by omega)
  have HR := Lib.hid hr; have HC := Lib.hid hc; clear hr hc
  cases hp : neHas (f a) b a with
  | false =>
    have HF := Lib.hid (show companyG f a b = true by unfold companyG; rw [hp]; rfl)
    have HP := Lib.hid hp; clear hp
    go_enter Tryz.func230, Tryz.ntmps230
    go_wp2_with fail
    go_quiet ((go_at_call 243; exact quiet_left (proper_val bk off n cap b a (f a) false ha (by omega) _ HP.out (by rw [World.cell?_drewN]; exact HC.out))))
    go_wp2_with fail
    go_ret
    exact ⟨retb HF.out.symm, below_of_drewN _ _⟩
  | true =>
    have HF := Lib.hid (show companyG f a b = (ppsI f a != 2 ^ b) by unfold companyG; rw [hp]; rfl)
    have HP := Lib.hid hp; clear hp
    go_enter Tryz.func230, Tryz.ntmps230
    go_wp2_with fail
    go_quiet (first | (go_at_call 243; exact quiet_left (proper_val bk off n cap b a (f a) true ha (by omega) _ HP.out (by rw [World.cell?_drewN]; exact HC.out))) | (go_at_call 244; exact Calls.quiet_of (pps_any bk off n cap a f hn ha _ (HR.out.drewN _))))
    go_wp2_with fail
    go_ret
    exact ⟨retb HF.out.symm, below_of_drewN _ _⟩

set_option maxHeartbeats 1600000 in
theorem extended_any (bk off n cap : Nat) (a b : Nat) (f : Nat → Int) (hn : n ≤ 7) (ha : a < n) (hb : b < n) (w : World) (hr : Row w bk off n f) :
    Calls Tryz.prog 233 #[.slice (some ⟨bk, off, none⟩) n cap, .int .i64 a, .int .i64 b] w (AskEnd (extendedG f a b) w) := by
  have HR := Lib.hid hr; clear hr
  cases hp : atomB f a with
  | true =>
    have HF := Lib.hid (show extendedG f a b = true by unfold extendedG; rw [hp]; rfl)
    have HP := Lib.hid hp; clear hp
    go_enter Tryz.func233, Tryz.ntmps233
    go_wp2_with fail
    refine (atom_any bk off n cap a f hn ha _ HR.out).mono ?_
    rintro e w' ⟨rfl, m, rfl⟩
    rw [HP.out]
    go_wp2_with fail
    go_ret
    exact ⟨retb HF.out.symm, below_of_drewN _ _⟩
  | false =>
    have HF := Lib.hid (show extendedG f a b = (ppsI f a != ppsI f b) by unfold extendedG; rw [hp]; rfl)
    have HP := Lib.hid hp; clear hp
    go_enter Tryz.func233, Tryz.ntmps233
    go_wp2_with fail
    refine (atom_any bk off n cap a f hn ha _ HR.out).mono ?_
    rintro e w' ⟨rfl, m, rfl⟩
    rw [HP.out]
    go_wp2_with fail
    refine (pps_any bk off n cap a f hn ha _ (HR.out.drewN _)).mono ?_
    rintro e w' ⟨rfl, m2, rfl⟩
    go_wp2_with fail
    refine (pps_any bk off n cap b f hn hb _ (HR.out.drewN _)).mono ?_
    rintro e w' ⟨rfl, m3, rfl⟩
    go_wp2_with fail
    go_ret
    exact ⟨retb HF.out.symm, by first | exact below_of_drewN _ _ | exact below_drewN (below_of_drewN _ _) _⟩

def companyB (n : Nat) (f : Nat → Int) : Bool := worldB n f && eachB n (companyG f)
def extendedB (n : Nat) (f : Nat → Int) : Bool := worldB n f && eachB n (extendedG f)

set_option maxHeartbeats 1600000 in
theorem CompanyOk_any (a : Option Addr) (n cap : Nat) (f : Nat → Int) (w : World) (hi : Ints w a n f) :
    Calls Tryz.prog 158 #[.slice a n cap] w fun e w' => e = .returned (.bool (companyB n f)) ∧ Below w.heap.size w w' := by
  have HI := Lib.hid hi; clear hi
  go_enter Tryz.func158, Tryz.ntmps158
  go_wp2_with fail
  refine (axiomOk_at nmCompany (by decide) 0 (by omega) (by kernel_rfl) (by kernel_rfl) 230 (fun _ _ _ h => h.2.2.1) (enters_of (P := Tryz.prog) Tryz.func230 (by kernel_rfl) rfl) n f (companyG f) (fun h7 bk cap a b wr ha hb hr _ => company_any bk 0 n cap a b f h7 ha hb wr hr) a cap _ HI.out).mono ?_
  rintro e w' ⟨rfl, hb⟩
  go_wp2_with fail
  go_ret
  exact ⟨rfl, hb⟩

end Go.Proofs.YthaickihoagnmaaGreatDoor

namespace Go.Proofs.YthaickihoagnmaaGreatDoor
open Go.RowKit

/-- how many of the first k bits are set -/
def popc : Nat → Nat → Nat
  | 0, _ => 0
  | k + 1, x => x % 2 + popc k (x / 2)

theorem popc_zero : ∀ k, popc k 0 = 0
  | 0 => rfl
  | k + 1 => by rw [popc]; simp [popc_zero k]

def SizeRel (x : Nat) (s c : Value) : Prop := ∃ k s' c' : Nat, s' < 2 ^ k ∧ k ≤ 7 ∧ s = .int .i64 s' ∧ c = .int .i64 c' ∧ c' + popc k s' = popc 7 x ∧ c' + k ≤ 7

set_option maxHeartbeats 800000 in
theorem l1Size_any (x : Nat) (hx : x < 128) (w : World) :
    Calls Tryz.prog 122 #[.int .i64 x] w fun e w' => e = .returned (.int .i64 (popc 7 x)) ∧ w = w' := by
  go_enter Tryz.func122, Tryz.ntmps122
  go_wp2_with fail
  go_loop [0, 3] (fun s c => SizeRel x s c) (fun s _ => (intOf s).toNat)
  case atStart => exact ⟨7, x, 0, by omega, by omega, rfl, rfl, by omega, by omega⟩
  case round =>
    obtain ⟨k, s, c, hs, hk, rfl, rfl, hsum, hck⟩ := hrel
    have hs128 : s < 128 := Nat.lt_of_lt_of_le hs (Nat.pow_le_pow_right (by decide) hk)
    by_cases h0 : 0 < s
    · obtain ⟨k', rfl⟩ : ∃ k', k = k' + 1 := by
        cases k with
        | zero => simp at hs; omega
        | succ k' => exact ⟨k', rfl⟩
      rw [popc] at hsum
      rw [Nat.pow_succ] at hs
      have HS := Lib.hid hsum; clear hsum
      have h0i : (0 : Int) < (s : Int) := by omega
      go_wp2_with fail
      go_round
      case rel => exact ⟨k', s / 2, c + s % 2, by omega, by omega, by go_num, by go_num, by have := HS.out; omega, by omega⟩
      case measure => simp [intOf]; omega
    · have hs0 : s = 0 := by omega
      subst hs0
      rw [popc_zero] at hsum
      have HS := Lib.hid hsum; clear hsum
      go_wp2_with fail
      go_ret
      exact ⟨reti (by have := HS.out; omega), rfl⟩

/-- a set of a thing with its number a, by its size, and by what is left without a -/
def sizeOk (x a : Nat) : Bool := !(hasB x a) || (((popc 7 x == 2) == (List.range 7).any (fun b => b != a && hasB x b && bits .andNot .i64 x (2 ^ a) == 2 ^ b)) && bits .andNot .i64 x (2 ^ a) == x - 2 ^ a)
theorem sizeOk_all : (List.range 128).all (fun x => (List.range 7).all (sizeOk x)) = true := by kernel_rfl
theorem sizeOk_at (x a : Nat) (hx : x < 128) (ha : a < 7) : sizeOk x a = true := by
  have h := sizeOk_all
  rw [List.all_eq_true] at h
  have h2 := h x (List.mem_range.2 hx)
  rw [List.all_eq_true] at h2
  exact h2 a (List.mem_range.2 ha)

theorem pow7le {n : Nat} (h : n ≤ 7) : (2 : Int) ^ n ≤ 128 := by
  match n, h with
  | 0, _ | 1, _ | 2, _ | 3, _ | 4, _ | 5, _ | 6, _ | 7, _ => decide

theorem size_nat {n : Nat} {f : Nat → Int} (hP : WorldP n f) {a : Nat} (ha : a < n) : ∃ X : Nat, f a = X ∧ X < 128 := by
  have h := hP.rng a ha
  have := pow7le hP.hi
  obtain ⟨X, e⟩ := Int.eq_ofNat_of_zero_le h.1
  exact ⟨X, e, by omega⟩

theorem pps_sub {n : Nat} {f : Nat → Int} (hP : WorldP n f) {a : Nat} (ha : a < n) : ppsI f a = f a - 2 ^ a := by
  obtain ⟨X, e, hX⟩ := size_nat hP ha
  have hs := hP.self a ha
  have h := sizeOk_at X a hX (by have := hP.hi; omega)
  unfold sizeOk at h
  unfold ppsI
  rw [e] at hs ⊢
  rw [hs] at h
  simp only [Bool.not_true, Bool.false_or, Bool.and_eq_true] at h
  exact beq_iff_eq.1 h.2

theorem company_size {n : Nat} {f : Nat → Int} (hP : WorldP n f) {a X : Nat} (ha : a < n) (e : f a = X) : (popc 7 X = 2) ↔ ∃ b, b < n ∧ a ≠ b ∧ companyG f a b = false := by
  obtain ⟨X', e', hX⟩ := size_nat hP ha
  obtain rfl : X = X' := by omega
  have hs := hP.self a ha
  have h := sizeOk_at X a hX (by have := hP.hi; omega)
  unfold sizeOk at h
  have hs2 := hs
  rw [e] at hs2
  rw [hs2] at h
  simp only [Bool.not_true, Bool.false_or, Bool.and_eq_true] at h
  have h1 := beq_iff_eq.1 h.1
  have h2 : (popc 7 X = 2) ↔ (popc 7 X == 2) = true := by rw [beq_iff_eq]
  rw [h2, h1, List.any_eq_true]
  constructor
  · rintro ⟨b, _, hb⟩
    simp only [Bool.and_eq_true, bne_iff_ne] at hb
    have hfb : hasB (f a) b = true := by rw [e]; exact hb.1.2
    refine ⟨b, hasB_lt (hP.rng a ha) hfb, fun e => hb.1.1 e.symm, ?_⟩
    unfold companyG neHas ppsI
    rw [hfb, decide_eq_true hb.1.1, e]
    have h3 := beq_iff_eq.1 hb.2
    rw [h3]; simp
  · rintro ⟨b, hb, hab, hc⟩
    unfold companyG at hc
    rw [Bool.or_eq_false_iff] at hc
    have h3 : neHas (f a) b a = true := by have := hc.1; simpa using this
    unfold neHas at h3
    rw [Bool.and_eq_true, decide_eq_true_eq] at h3
    have h4 : ppsI f a = 2 ^ b := by have := hc.2; simpa using this
    refine ⟨b, List.mem_range.2 (by have := hP.hi; omega), ?_⟩
    simp only [Bool.and_eq_true, bne_iff_ne]
    refine ⟨⟨h3.1, by rw [← e]; exact h3.2⟩, ?_⟩
    unfold ppsI at h4; rw [e] at h4
    rw [h4]; simp

theorem companyB_no {n : Nat} {f : Nat → Int} (hP : WorldP n f) {a X : Nat} (ha : a < n) (e : f a = X) (h : popc 7 X = 2) : companyB n f = false := by
  obtain ⟨b, hb, hab, hc⟩ := (company_size hP ha e).1 h
  unfold companyB; rw [each_no ha hb hab hc, Bool.and_false]
theorem companyB_of {n : Nat} {f : Nat → Int} (hw : worldB n f = true) (h : ∀ a, a < n → ∀ c, c < n → a ≠ c → companyG f a c = true) : companyB n f = true := by
  unfold companyB; rw [hw, each_iff.2 h]; rfl
theorem company_row {n : Nat} {f : Nat → Int} (hP : WorldP n f) {a X : Nat} (ha : a < n) (e : f a = X) (h : popc 7 X ≠ 2) : ∀ c, c < n → a ≠ c → companyG f a c = true := by
  intro c hc hac
  cases hg : companyG f a c with
  | true => rfl
  | false => exact absurd ((company_size hP ha e).2 ⟨c, hc, hac, hg⟩) h

set_option maxRecDepth 100000 in
set_option maxHeartbeats 3200000 in
theorem specCompanyOk_in (b o n cap : Nat) (f : Nat → Int) (hg : worldB n f = true) (w : World) (hi : Ints w (some ⟨b, o, none⟩) n f) (hr : Row w b o n f) :
    Calls Tryz.prog 71 #[.slice (some ⟨b, o, none⟩) n cap] w fun e w' => e = .returned (.bool (companyB n f)) ∧ Drew w w' := by
  have h7 := (worldB_7 hg).2
  have HPW := Lib.hid (world_of hi hg)
  have HG := Lib.hid hg; have HN := Lib.hid hi; have HR := Lib.hid hr; clear hg hi hr
  go_enter Tryz.func71, Tryz.ntmps71
  go_wp2_with fail
  go_loopw [3] (fun i wr => ∃ k : Nat, k ≤ n ∧ i = .int .i64 k ∧ Hid (∀ a, a < k → ∀ c, c < n → a ≠ c → companyG f a c = true) ∧ Drew w wr) (fun i _ => n - (intOf i).toNat)
  case atStart => exact ⟨0, Nat.zero_le _, rfl, fun a ha => absurd ha (Nat.not_lt_zero _), Drew.refl _⟩
  case round =>
    obtain ⟨k, hk, rfl, hall, hd⟩ := hrel
    by_cases hlt : k < n
    · go_wp2_with fail
      refine (specWorldOk_val _ _ _ f true _ HG.out (HN.out.drew hd)).mono ?_
      rintro e w1 ⟨rfl, hd1⟩
      have hd2 : Drew w w1 := by obtain ⟨m, rfl⟩ := hd1; exact hd.more m
      clear hd hd1
      obtain ⟨X, hX, hX7⟩ := size_nat HPW.out hlt
      have hc : w1.cell? ⟨b, o + k, none⟩ = some (.int .i64 X) := by
        have hrr : Row w1 b o n f := by obtain ⟨m, rfl⟩ := hd2; exact HR.out.drewN m
        have := hrr k hlt; rwa [hX] at this
      by_cases hp : popc 7 X = 2
      · have hpi : ((popc 7 X : Int) == 2) = true := by rw [beq_iff_eq]; omega
        have HF := Lib.hid (companyB_no HPW.out hlt hX hp); clear hp hX
        go_wp2_with fail
        refine (l1Size_any X hX7 _).mono ?_
        rintro e w' ⟨rfl, rfl⟩
        go_wp2_with fail
        go_ret
        exact ⟨retb HF.out.symm, hd2⟩
      · have hpi : ((popc 7 X : Int) == 2) = false := by rw [beq_eq_false_iff_ne]; omega
        have HF := Lib.hid (company_row HPW.out hlt hX hp); clear hp hX
        go_wp2_with fail
        refine (l1Size_any X hX7 _).mono ?_
        rintro e w' ⟨rfl, rfl⟩
        go_wp2_with fail
        go_roundw
        case rel => exact ⟨k + 1, by omega, by go_num, fun a ha c hcn hac => by
          by_cases hak : a = k
          · subst hak; exact HF.out c hcn hac
          · exact hall a (by omega) c hcn hac, hd2⟩
        case measure => simp [intOf]; omega
    · have HF := Lib.hid (companyB_of HG.out (fun a ha c hc hac => hall a (by omega) c hc hac))
      go_wp2_with fail
      refine (specWorldOk_val _ _ _ f true _ HG.out (HN.out.drew hd)).mono ?_
      rintro e w1 ⟨rfl, hd1⟩
      have hd2 : Drew w w1 := by obtain ⟨m, rfl⟩ := hd1; exact hd.more m
      clear hd hd1
      go_wp2_with fail
      go_ret
      exact ⟨retb HF.out.symm, hd2⟩

theorem specCompanyOk_any (a : Option Addr) (n cap : Nat) (f : Nat → Int) (w : World) (hi : Ints w a n f) :
    Calls Tryz.prog 71 #[.slice a n cap] w fun e w' => e = .returned (.bool (companyB n f)) ∧ Drew w w' := by
  cases hg : worldB n f with
  | true =>
    obtain ⟨b, o, rfl, hlt, hr⟩ := hi.row (worldB_7 hg).1
    exact specCompanyOk_in b o n cap f hg w hi hr
  | false =>
    have hfin : companyB n f = false := by unfold companyB; rw [hg]; rfl
    have HF := Lib.hid hfin; have HG := Lib.hid hg; have HN := Lib.hid hi; clear hfin hg hi
    have hn := HN.out.1.1
    go_enter Tryz.func71, Tryz.ntmps71
    go_wp2_with fail
    go_loopw [3] (fun i wr => i = .int .i64 0 ∧ wr = w) (fun _ _ => 0)
    case atStart => exact ⟨rfl, rfl⟩
    case round =>
      obtain ⟨rfl, rfl⟩ := hrel
      by_cases h0 : 0 < n
      · have h0i : (0 : Int) < (n : Int) := by omega
        go_wp2_with fail
        refine (specWorldOk_val _ _ _ f false _ HG.out HN.out).mono ?_
        rintro e w' ⟨rfl, m0, rfl⟩
        go_wp2_with fail
        refine (specWorldOk_val _ _ _ f false _ HG.out (HN.out.drew ⟨_, rfl⟩)).mono ?_
        rintro e w' ⟨rfl, m1, rfl⟩
        go_wp2_with fail
        go_ret
        exact ⟨retb HF.out.symm, _, rfl⟩
      · have h0i : ¬ (0 : Int) < (n : Int) := by omega
        go_wp2_with fail
        refine (specWorldOk_val _ _ _ f false _ HG.out HN.out).mono ?_
        rintro e w' ⟨rfl, m0, rfl⟩
        go_wp2_with fail
        go_ret
        exact ⟨retb HF.out.symm, _, rfl⟩

theorem extG_symm {n : Nat} {f : Nat → Int} (hP : WorldP n f) {a b : Nat} (ha : a < n) (hb : b < n) (h : extendedG f a b = true) : extendedG f b a = true := by
  unfold extendedG atomB at h ⊢
  rw [pps_sub hP ha, pps_sub hP hb] at h ⊢
  rw [Bool.or_eq_true, beq_iff_eq, bne_iff_ne] at h ⊢
  omega

theorem extG_at {n : Nat} {f : Nat → Int} (hP : WorldP n f) {a b : Nat} (ha : a < n) (hb : b < n) : extendedG f a b = ((f a == 2 ^ a) || !(f a - 2 ^ a == f b - 2 ^ b)) := by
  unfold extendedG atomB
  rw [pps_sub hP ha, pps_sub hP hb]; rfl

theorem extendedB_no {n : Nat} {f : Nat → Int} {a b : Nat} (ha : a < n) (hb : b < a) (h : extendedG f a b = false) : extendedB n f = false := by
  unfold extendedB; rw [each_no ha (Nat.lt_trans hb ha) (by omega) h, Bool.and_false]
theorem extendedB_of {n : Nat} {f : Nat → Int} (hw : worldB n f = true) (hP : WorldP n f) (h : ∀ a, a < n → ∀ c, c < a → extendedG f a c = true) : extendedB n f = true := by
  unfold extendedB; rw [hw, each_iff.2 (fun a ha c hc hac => by
    rcases Nat.lt_or_gt_of_ne hac with hlt | hlt
    · exact extG_symm hP hc ha (h c hc a hlt)
    · exact h a ha c hlt)]; rfl

end Go.Proofs.YthaickihoagnmaaGreatDoor

namespace Go.Proofs.YthaickihoagnmaaGreatDoor
open Go.RowKit

theorem pps_bit {n : Nat} {f : Nat → Int} (hP : WorldP n f) (a i : Nat) (hi : i < n) : hasB (ppsI f a) i = (hasB (f a) i && !decide (a = i)) := by
  have h7 := hP.hi
  unfold ppsI
  rw [andNot_bit _ _ _ (by omega), hasB_pow]

theorem weak_company {n : Nat} {f : Nat → Int} (h64 : ∀ i, i < n → I64 (f i)) (h : weakB n f = true) : companyB n f = true := by
  obtain ⟨hP, hs⟩ := (weak_iff h64).1 h
  refine companyB_of (weak_world h) (fun a ha b hb hab => ?_)
  cases hg : companyG f a b with
  | true => rfl
  | false =>
    exfalso
    unfold companyG at hg
    rw [Bool.or_eq_false_iff] at hg
    have h3 : neHas (f a) b a = true := by have := hg.1; simpa using this
    unfold neHas at h3
    rw [Bool.and_eq_true] at h3
    have h4 : ppsI f a = 2 ^ b := by have := hg.2; simpa using this
    obtain ⟨c, hc, h5, h6⟩ := (apB_iff f a b n).1 (hs a ha b hb hab h3.2)
    by_cases hca : c = a
    · subst hca
      exact apart_not hP h6 hb h3.2 (hP.self b hb)
    · have h7 : hasB (ppsI f a) c = true := by rw [pps_bit hP a c hc, h5, decide_eq_false (fun e => hca e.symm)]; rfl
      rw [h4, hasB_pow, decide_eq_true_eq] at h7
      subst h7
      exact apart_not hP h6 hb (hP.self b hb) (hP.self b hb)

theorem atom_only {f : Nat → Int} {c i : Nat} (h : atomB f c = true) (hi : hasB (f c) i = true) : i = c := by
  unfold atomB at h
  rw [beq_iff_eq] at h
  rw [h, hasB_pow, decide_eq_true_eq] at hi
  exact hi.symm

theorem strong_made {n : Nat} {f : Nat → Int} (h64 : ∀ i, i < n → I64 (f i)) : strongB n f = madeB n f := by
  rw [Bool.eq_iff_iff, strong_iff h64]
  unfold madeB
  rw [Bool.and_eq_true, worldB_iff n f h64, each_iff]
  constructor
  · rintro ⟨hP, h⟩
    have h7 := hP.hi
    refine ⟨hP, fun a ha b hb hab => ?_⟩
    unfold madeC
    cases hh : hasB (f b) a with
    | true => rw [ain_mono hP ha hb hh]; rfl
    | false =>
      cases hw : withinB (ainI n f a) (ainI n f b) with
      | false => rfl
      | true =>
        exfalso
        obtain ⟨c, hc, h1, h2⟩ := (apB_iff f a b n).1 (h a ha b hb hab hh)
        obtain ⟨x, hx, h3, h4⟩ := has_atom hP (f c).toNat c hc (Nat.le_refl _)
        have h5 : hasB (f a) x = true := hP.trans a ha c hc h1 x h3
        have h6 := (within_iff _ _).1 hw x (by omega) (ain_yes h7 hx h5 h4)
        exact apart_not hP h2 hx h3 (ain_of (by omega) h6).2.1
  · rintro ⟨hP, h⟩
    have h7 := hP.hi
    refine ⟨hP, fun a ha b hb hab hh => ?_⟩
    have hm := h a ha b hb hab
    unfold madeC at hm
    rw [hh] at hm
    have hw : withinB (ainI n f a) (ainI n f b) = false := by
      cases e : withinB (ainI n f a) (ainI n f b) with
      | false => rfl
      | true => rw [e] at hm; cases hm
    apply Classical.byContradiction
    intro hn
    have : withinB (ainI n f a) (ainI n f b) = true := by
      rw [within_iff]
      intro i hi hx
      obtain ⟨h1, h2, h3⟩ := ain_of hi hx
      apply Classical.byContradiction; intro hy
      apply hn
      refine (apB_iff f a b n).2 ⟨i, h1, h2, ?_⟩
      rw [and_zero_iff]
      intro j hj hij
      have hji := atom_only h3 hij
      subst hji
      cases e : hasB (f b) j with
      | false => rfl
      | true => exact absurd (ain_yes h7 h1 e h3) hy
    rw [this] at hw; cases hw

theorem strong_extended {n : Nat} {f : Nat → Int} (h64 : ∀ i, i < n → I64 (f i)) (h : strongB n f = true) : extendedB n f = true := by
  obtain ⟨hP, hs⟩ := (strong_iff h64).1 h
  have h7 := hP.hi
  have key : ∀ a, a < n → ∀ b, b < n → a ≠ b → atomB f a = false → ppsI f a = ppsI f b → hasB (f b) a = false → False := by
    intro a ha b hb hab hat hpp hh
    obtain ⟨c, hc, h1, h2⟩ := (apB_iff f a b n).1 (hs a ha b hb hab hh)
    by_cases hca : c = a
    · subst hca
      apply Bool.false_ne_true
      rw [← hat, atom_iff hP ha]
      intro x hx hxc
      cases e : hasB (f c) x with
      | false => rfl
      | true =>
        exfalso
        have h3 : hasB (ppsI f c) x = true := by rw [pps_bit hP c x hx, e, decide_eq_false (fun e => hxc e.symm)]; rfl
        rw [hpp, pps_bit hP b x hx, Bool.and_eq_true] at h3
        exact apart_not hP h2 hx e h3.1
    · have h3 : hasB (ppsI f a) c = true := by rw [pps_bit hP a c hc, h1, decide_eq_false (fun e => hca e.symm)]; rfl
      rw [hpp, pps_bit hP b c hc, Bool.and_eq_true] at h3
      exact apart_not hP h2 hc (hP.self c hc) h3.1
  have key2 : ∀ a, a < n → ∀ b, b < n → a ≠ b → atomB f a = false → ppsI f a = ppsI f b → False := by
    intro a ha b hb hab hat hpp
    cases hh : hasB (f b) a with
    | false => exact key a ha b hb hab hat hpp hh
    | true =>
      have h3 : hasB (ppsI f b) a = true := by rw [pps_bit hP b a ha, hh, decide_eq_false (fun e => hab e.symm)]; rfl
      rw [← hpp, pps_bit hP a a ha, Bool.and_eq_true, decide_eq_true rfl] at h3
      exact absurd h3.2 (by decide)
  refine extendedB_of (strong_world h) hP (fun a ha c hc => ?_)
  unfold extendedG
  cases hat : atomB f a with
  | true => rfl
  | false =>
    rw [Bool.false_or, bne_iff_ne]
    exact fun e => key2 a ha c (by omega) (by omega) hat e
end Go.Proofs.YthaickihoagnmaaGreatDoor
