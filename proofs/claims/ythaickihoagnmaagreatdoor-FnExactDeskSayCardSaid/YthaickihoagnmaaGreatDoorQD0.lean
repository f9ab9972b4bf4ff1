import Derived.WalkKit
import Derived.Test.YthaickihoagnmaaGreatDoorRows
import Derived.WalkSpells
import Derived.WalkLawsBesides
import Derived.Deep.QuietTactic
import Derived.BigQuiet
import Derived.Lib.Hide
import Derived.Deep.OwnRows
import Derived.Shelf.Abstract
import Derived.Lib.Bytealg
import Derived.Laws.Concat
import Derived.OpenShut
import Derived.Laws.OwnMore
import Derived.Deep.DeepCutAuto
import Derived.Deep.CutBlock
import Derived.Deep.RegionWith
set_option linter.unusedVariables false
set_option linter.unusedSimpArgs false
set_option maxHeartbeats 12800000
namespace Go.Proofs.YthaickihoagnmaaGreatDoor
open Go.RowKit
def hasB (x : Int) (a : Nat) : Bool := x / 2 ^ a % 2 == 1
def withinB (x y : Int) : Bool := bits .andNot .i64 x y == 0
def orI (x y : Int) : Int := bits .or .i64 x y
def andI (x y : Int) : Int := bits .and .i64 x y
def inB (l x h : Int) : Bool := decide (l ≤ x) && decide (x ≤ h)
def I64 (x : Int) : Prop := -9223372036854775808 ≤ x ∧ x ≤ 9223372036854775807
theorem wrap_in (n : Int) (h : I64 n) : IntKind.i64.wrap n = n := by
  obtain ⟨h0, h1⟩ := h
  rw [IntKind.wrap_i64]; omega
theorem wrap_I64 (n : Int) : I64 (IntKind.i64.wrap n) := by
  rw [IntKind.wrap_i64]; unfold I64; omega
theorem pow_split (i : Nat) (h : i < 64) : (18446744073709551616 : Int) = 2 ^ i * (2 * 2 ^ (63 - i)) := by
  have e : i + (1 + (63 - i)) = 64 := by omega
  have : (2 : Int) ^ (i + (1 + (63 - i))) = 2 ^ i * (2 ^ 1 * 2 ^ (63 - i)) := by rw [Int.pow_add, Int.pow_add]
  rw [e] at this
  simpa using this
theorem hasB_add (x k : Int) (i : Nat) (h : i < 64) : hasB (x + 18446744073709551616 * k) i = hasB x i := by
  unfold hasB
  have hp : (0 : Int) < 2 ^ i := Int.pow_pos (by decide)
  rw [pow_split i h, Int.mul_assoc, Int.add_mul_ediv_left _ _ (by omega), Int.mul_assoc, Int.add_mul_emod_self_left]
theorem hasB_mod (x : Int) (i : Nat) (h : i < 64) : hasB (x % 18446744073709551616) i = hasB x i := by
  have := hasB_add (x % 18446744073709551616) (x / 18446744073709551616) i h
  rw [Int.emod_add_mul_ediv] at this
  exact this.symm
theorem hasB_wrap (x : Int) (i : Nat) (h : i < 64) : hasB (IntKind.i64.wrap x) i = hasB x i := by
  rw [IntKind.wrap_i64, ← hasB_mod _ i h]
  rw [show ((x + 9223372036854775808) % 18446744073709551616 - 9223372036854775808) % 18446744073709551616 = x % 18446744073709551616 from by omega]
  exact hasB_mod x i h
theorem hasB_nat (n : Nat) (i : Nat) : hasB (n : Int) i = n.testBit i := by
  unfold hasB
  rw [Nat.testBit_eq_decide_div_mod_eq]
  have : (n : Int) / 2 ^ i % 2 = ((n / 2 ^ i % 2 : Nat) : Int) := by simp
  rw [this]
  by_cases h : n / 2 ^ i % 2 = 1
  · simp [h]
  · have : ¬ ((n / 2 ^ i % 2 : Nat) : Int) = 1 := by omega
    simp [h, this, -Int.natCast_emod, -Int.natCast_ediv]
theorem ofInt_bit (x : Int) (i : Nat) (h : i < 64) : (BitVec.ofInt 64 x).getLsbD i = hasB x i := by
  rw [BitVec.getLsbD, ← hasB_nat, BitVec.toNat_ofInt, ← hasB_mod x i h]
  congr 1
  omega
theorem and_bit (x y : Int) (i : Nat) (h : i < 64) : hasB (andI x y) i = (hasB x i && hasB y i) := by
  show hasB (IntKind.i64.wrap ((BitVec.ofInt 64 x &&& BitVec.ofInt 64 y).toNat : Int)) i = _
  rw [hasB_wrap _ _ h, hasB_nat, BitVec.toNat_and, Nat.testBit_and, ← ofInt_bit x i h, ← ofInt_bit y i h]
  rfl
theorem or_bit (x y : Int) (i : Nat) (h : i < 64) : hasB (orI x y) i = (hasB x i || hasB y i) := by
  show hasB (IntKind.i64.wrap ((BitVec.ofInt 64 x ||| BitVec.ofInt 64 y).toNat : Int)) i = _
  rw [hasB_wrap _ _ h, hasB_nat, BitVec.toNat_or, Nat.testBit_or, ← ofInt_bit x i h, ← ofInt_bit y i h]
  rfl
theorem andNot_bit (x y : Int) (i : Nat) (h : i < 64) : hasB (bits .andNot .i64 x y) i = (hasB x i && !hasB y i) := by
  show hasB (IntKind.i64.wrap ((BitVec.ofInt 64 x &&& ~~~ BitVec.ofInt 64 y).toNat : Int)) i = _
  rw [hasB_wrap _ _ h, hasB_nat, ← ofInt_bit x i h, ← ofInt_bit y i h]
  show (BitVec.ofInt 64 x &&& ~~~ BitVec.ofInt 64 y).getLsbD i = _
  rw [BitVec.getLsbD_and, BitVec.getLsbD_not]
  simp [h]
theorem ext64 (x y : Int) (hx : I64 x) (hy : I64 y) (h : ∀ i, i < 64 → hasB x i = hasB y i) : x = y := by
  have e : BitVec.ofInt 64 x = BitVec.ofInt 64 y := by
    apply BitVec.eq_of_getLsbD_eq
    intro i hi
    rw [ofInt_bit x i hi, ofInt_bit y i hi, h i hi]
  have e2 := congrArg BitVec.toInt e
  rw [BitVec.toInt_ofInt, BitVec.toInt_ofInt] at e2
  obtain ⟨a, b⟩ := hx; obtain ⟨c, d⟩ := hy
  rw [Int.bmod_def, Int.bmod_def] at e2
  omega
theorem andI_I64 (x y : Int) : I64 (andI x y) := wrap_I64 _
theorem orI_I64 (x y : Int) : I64 (orI x y) := wrap_I64 _
theorem andNot_I64 (x y : Int) : I64 (bits .andNot .i64 x y) := wrap_I64 _
theorem I64_zero : I64 0 := by unfold I64; omega
theorem hasB_zero (i : Nat) : hasB 0 i = false := by unfold hasB; simp
theorem and_one (x : Int) : bits .and .i64 x 1 = x % 2 := by
  apply ext64 _ _ (andI_I64 _ _) (by unfold I64; omega)
  intro i hi
  show hasB (andI x 1) i = _
  rw [and_bit _ _ _ hi]
  have h1 : hasB 1 i = decide (i = 0) := by
    have := hasB_nat 1 i
    rw [show ((1 : Nat) : Int) = 1 from rfl] at this
    rw [this, show (1 : Nat) = 2 ^ 0 from rfl, Nat.testBit_two_pow]
    simp only [eq_comm]
  rw [h1]
  by_cases h0 : i = 0
  · subst h0; unfold hasB; simp
  · obtain ⟨j, rfl⟩ : ∃ j, i = j + 1 := ⟨i - 1, by omega⟩
    have : hasB (x % 2) (j + 1) = false := by
      have hx : x % 2 = 0 ∨ x % 2 = 1 := by omega
      unfold hasB
      rcases hx with hx | hx <;> rw [hx]
      · simp
      · have : (1 : Int) / 2 ^ (j + 1) = 0 := by
          apply Int.ediv_eq_zero_of_lt (by decide)
          have : (2 : Int) ^ (j + 1) = 2 * 2 ^ j := by rw [Int.pow_succ]; omega
          have hp : (0 : Int) < 2 ^ j := Int.pow_pos (by decide)
          omega
        rw [this]; rfl
    rw [this]; simp
theorem has_eq (x : Int) (a : Nat) : (bits .and .i64 (x / 2 ^ a) 1 == 1) = hasB x a := by
  rw [and_one]; rfl
theorem within_iff (x y : Int) : withinB x y = true ↔ ∀ i, i < 64 → hasB x i = true → hasB y i = true := by
  unfold withinB
  rw [beq_iff_eq]
  constructor
  · intro h i hi hx
    have := andNot_bit x y i hi
    rw [h, hasB_zero, hx] at this
    simpa using this
  · intro h
    apply ext64 _ _ (andNot_I64 _ _) I64_zero
    intro i hi
    rw [andNot_bit _ _ _ hi, hasB_zero]
    have := h i hi
    cases hx : hasB x i <;> simp_all
theorem or_eq_iff (x y : Int) (hx : I64 x) : orI x y = x ↔ ∀ i, i < 64 → hasB y i = true → hasB x i = true := by
  constructor
  · intro h i hi hy
    have := or_bit x y i hi
    rw [h, hy] at this
    simpa using this
  · intro h
    apply ext64 _ _ (orI_I64 _ _) hx
    intro i hi
    rw [or_bit _ _ _ hi]
    have := h i hi
    cases hy : hasB y i <;> simp_all
theorem hasB_low (n i : Nat) : hasB (2 ^ n - 1) i = decide (i < n) := by
  have h1 : ((2 ^ n - 1 : Nat) : Int) = 2 ^ n - 1 := by
    have := Nat.one_le_two_pow (n := n)
    rw [Int.ofNat_sub this]; simp
  rw [← h1, hasB_nat, Nat.testBit_two_pow_sub_one]
theorem hasB_neg (x : Int) (h0 : -9223372036854775808 ≤ x) (h1 : x < 0) : hasB x 63 = true := by
  unfold hasB
  have : x / 2 ^ 63 = -1 := by
    rw [show (2 : Int) ^ 63 = 9223372036854775808 from by decide]; omega
  rw [this]; decide
theorem hasB_big (x : Int) (n : Nat) (h0 : 0 ≤ x) (h1 : x < 2 ^ n) (i : Nat) (hi : n ≤ i) : hasB x i = false := by
  obtain ⟨m, rfl⟩ := Int.eq_ofNat_of_zero_le h0
  rw [hasB_nat]
  apply Nat.testBit_lt_two_pow
  have h2 : m < 2 ^ n := by
    have : ((2 ^ n : Nat) : Int) = 2 ^ n := by simp
    omega
  exact Nat.lt_of_lt_of_le h2 (Nat.pow_le_pow_right (by decide) hi)
theorem lt_of_bits (x : Int) (n : Nat) (hn : n ≤ 63) (hx : I64 x) (h : ∀ i, i < 64 → n ≤ i → hasB x i = false) : 0 ≤ x ∧ x < 2 ^ n := by
  have h0 : 0 ≤ x := by
    apply Classical.byContradiction; intro hneg
    have := hasB_neg x hx.1 (by omega)
    rw [h 63 (by omega) hn] at this
    cases this
  refine ⟨h0, ?_⟩
  obtain ⟨m, rfl⟩ := Int.eq_ofNat_of_zero_le h0
  have : m < 2 ^ n := by
    apply Nat.lt_pow_two_of_testBit
    intro i hi
    by_cases h6 : i < 64
    · rw [← hasB_nat]; exact h i h6 hi
    · apply Nat.testBit_lt_two_pow
      have : m < 2 ^ 63 := by have := hx.2; omega
      exact Nat.lt_of_lt_of_le this (Nat.pow_le_pow_right (by decide) (by omega))
  have h2 : ((2 ^ n : Nat) : Int) = 2 ^ n := by simp
  omega
theorem within_low (x : Int) (n : Nat) (hn : n ≤ 63) (hx : I64 x) : withinB x (2 ^ n - 1) = true ↔ 0 ≤ x ∧ x ≤ 2 ^ n - 1 := by
  rw [within_iff]
  constructor
  · intro h
    have := lt_of_bits x n hn hx (fun i hi hni => by
      cases hb : hasB x i with
      | false => rfl
      | true => have := h i hi hb; rw [hasB_low] at this; simp at this; omega)
    omega
  · rintro ⟨h0, h1⟩ i hi hb
    rw [hasB_low]
    simp
    apply Classical.byContradiction; intro hni
    rw [hasB_big x n h0 (by omega) i (by omega)] at hb
    cases hb
theorem retb {a b : Bool} (h : a = b) : Ending.returned (.bool a) = .returned (.bool b) := by rw [h]
theorem reti {k : IntKind} {a b : Int} (h : a = b) : Ending.returned (.int k a) = .returned (.int k b) := by rw [h]
theorem has_any (x : Int) (a : Nat) (ha : a ≤ 63) (w : World) :
    Calls Tryz.prog 177 #[.int .i64 x, .int .i64 a] w fun e w' => e = .returned (.bool (hasB x a)) ∧ w = w' := by
  go_enter Tryz.func177, Tryz.ntmps177
  go_wp2
  go_ret
  exact ⟨retb (has_eq x a), rfl⟩
theorem within_any (x y : Int) (w : World) :
    Calls Tryz.prog 174 #[.int .i64 x, .int .i64 y] w fun e w' => e = .returned (.bool (withinB x y)) ∧ w = w' := by
  go_enter Tryz.func174, Tryz.ntmps174
  go_wp2
  go_ret
  exact ⟨rfl, rfl⟩
theorem l1In_any (x l h : Int) (w : World) :
    Calls Tryz.prog 86 #[.int .i64 x, .int .i64 l, .int .i64 h] w fun e w' => e = .returned (.bool (inB l x h)) ∧ w = w' := by
  by_cases hl : l ≤ x
  · have hb : inB l x h = decide (x ≤ h) := by simp [inB, hl]
    have H := Lib.hid hb; clear hb
    go_enter Tryz.func86, Tryz.ntmps86
    go_wp2
    go_ret
    exact ⟨retb H.out.symm, rfl⟩
  · have hb : inB l x h = false := by simp [inB, hl]
    have H := Lib.hid hb; clear hb
    go_enter Tryz.func86, Tryz.ntmps86
    go_wp2
    go_ret
    exact ⟨retb H.out.symm, rfl⟩
theorem l1Has_any (x : Int) (a : Nat) (ha : a ≤ 63) (hx : 0 ≤ x) (w : World) :
    Calls Tryz.prog 87 #[.int .i64 x, .int .i64 a] w fun e w' => e = .returned (.bool (hasB x a)) ∧ w = w' := by
  have hq : 0 ≤ x / 2 ^ a := Int.ediv_nonneg hx (Int.le_of_lt (Int.pow_pos (by decide)))
  go_enter Tryz.func87, Tryz.ntmps87
  go_wp2
  go_ret
  exact ⟨rfl, rfl⟩
theorem part_any (bk off len cap : Nat) (a b : Nat) (x : Int) (hb : b < len) (ha : a ≤ 63) (w : World) (hc : w.cell? ⟨bk, off + b, none⟩ = some (.int .i64 x)) :
    Calls Tryz.prog 176 #[.slice (some ⟨bk, off, none⟩) len cap, .int .i64 a, .int .i64 b] w fun e w' => e = .returned (.bool (hasB x a)) ∧ w = w' := by
  go_enter Tryz.func176, Tryz.ntmps176
  go_wp2_with (go_at_call 177; refine (has_any _ _ ha _).mono ?_; rintro e w' ⟨rfl, rfl⟩)
  go_ret
  exact ⟨rfl, rfl⟩
theorem all_any (v : Option Addr) (len cap : Nat) (hl : len ≤ 7) (w : World) :
    Calls Tryz.prog 175 #[.slice v len cap] w fun e w' => e = .returned (.int .i64 (2 ^ len - 1)) ∧ w = w' := by
  have hp : (1 : Int) ≤ 2 ^ len ∧ (2 : Int) ^ len ≤ 128 := by
    match len, hl with
    | 0, _ | 1, _ | 2, _ | 3, _ | 4, _ | 5, _ | 6, _ | 7, _ => decide
  obtain ⟨hp1, hp2⟩ := hp
  go_enter Tryz.func175, Tryz.ntmps175
  go_wp2
  go_ret
  exact ⟨rfl, rfl⟩
theorem overlap_any (bk off len cap : Nat) (a b : Nat) (x y : Int) (ha : a < len) (hb : b < len) (w : World) (hca : w.cell? ⟨bk, off + a, none⟩ = some (.int .i64 x)) (hcb : w.cell? ⟨bk, off + b, none⟩ = some (.int .i64 y)) :
    Calls Tryz.prog 225 #[.slice (some ⟨bk, off, none⟩) len cap, .int .i64 a, .int .i64 b] w fun e w' => e = .returned (.bool (andI x y != 0)) ∧ ∃ n, w' = w.drewN n := by
  have ha' : (a : Int) < (len : Int) := by omega
  have hb' : (b : Int) < (len : Int) := by omega
  go_enter Tryz.func225, Tryz.ntmps225
  go_wp2
  go_quiet (fail)
  go_wp2
  go_ret
  exact ⟨rfl, _, rfl⟩
def neHas (x : Int) (a b : Nat) : Bool := decide (a ≠ b) && hasB x a
theorem proper_any (bk off len cap : Nat) (a b : Nat) (x : Int) (hb : b < len) (ha : a ≤ 63) (w : World) (hc : w.cell? ⟨bk, off + b, none⟩ = some (.int .i64 x)) :
    Calls Tryz.prog 243 #[.slice (some ⟨bk, off, none⟩) len cap, .int .i64 a, .int .i64 b] w fun e w' => e = .returned (.bool (neHas x a b)) ∧ w = w' := by
  by_cases hab : a = b
  · subst hab
    go_enter Tryz.func243, Tryz.ntmps243
    go_wp2
    go_ret
    exact ⟨retb (by simp [neHas]), rfl⟩
  · have hne : ((a : Int) != (b : Int)) = true := by rw [bne_iff_ne]; omega
    go_enter Tryz.func243, Tryz.ntmps243
    go_wp2_with (go_at_call 176; refine (part_any _ _ _ _ _ _ _ hb ha _ hc).mono ?_; rintro e w' ⟨rfl, rfl⟩)
    go_ret
    exact ⟨retb (by simp [neHas, hab]), rfl⟩
def Row (w : World) (b o n : Nat) (f : Nat → Int) : Prop := ∀ i, i < n → w.cell? ⟨b, o + i, none⟩ = some (.int .i64 (f i))
def numB (n : Nat) (f : Nat → Int) : Bool := decide (∀ a, a < n → withinB (f a) (2 ^ n - 1) = true)
def selfB (n : Nat) (f : Nat → Int) : Bool := decide (∀ a, a < n → hasB (f a) a = true)
def orderB (n : Nat) (f : Nat → Int) : Bool := decide (∀ b, b < n → ∀ a, a < b → (hasB (f b) a && hasB (f a) b) = false)
def popB (n : Nat) (f : Nat → Int) : Bool := decide (∀ b, b < n → ∀ a, a < n → hasB (f b) a = true → withinB (f a) (f b) = true)
theorem numbersOk_any (bk off n cap : Nat) (f : Nat → Int) (hn : n ≤ 7) (w : World) (hr : Row w bk off n f) :
    Calls Tryz.prog 148 #[.slice (some ⟨bk, off, none⟩) n cap] w fun e w' => e = .returned (.bool (numB n f)) ∧ w = w' := by
  go_enter Tryz.func148, Tryz.ntmps148
  go_wp2
  go_loop [7] (fun i => ∃ k : Nat, k ≤ n ∧ i = .int .i64 k ∧ Hid (∀ a, a < k → withinB (f a) (2 ^ n - 1) = true)) (fun i => n - (intOf i).toNat)
  case atStart => exact ⟨0, Nat.zero_le _, rfl, fun a ha => absurd ha (Nat.not_lt_zero _)⟩
  case round =>
    obtain ⟨k, hk, rfl, hall⟩ := hrel
    by_cases hlt : k < n
    · have hc := hr k hlt
      by_cases hb : withinB (f k) (2 ^ n - 1) = true
      · go_wp2_with (first | (go_at_call 175; refine (all_any _ _ _ hn _).mono ?_; rintro e w' ⟨rfl, rfl⟩) | (go_at_call 174; refine (within_any _ _ _).mono ?_; rintro e w' ⟨rfl, rfl⟩))
        go_round
        case rel => exact ⟨k + 1, by omega, by go_num, fun a ha => by
          by_cases hak : a = k
          · subst hak; exact hb
          · exact hall a (by omega)⟩
        case measure => simp [intOf]; omega
      · have hb' : withinB (f k) (2 ^ n - 1) = false := by simpa using hb
        have hfin : numB n f = false := decide_eq_false (fun h => hb (h k hlt))
        have HF := Lib.hid hfin; clear hfin
        go_wp2_with (first | (go_at_call 175; refine (all_any _ _ _ hn _).mono ?_; rintro e w' ⟨rfl, rfl⟩) | (go_at_call 174; refine (within_any _ _ _).mono ?_; rintro e w' ⟨rfl, rfl⟩))
        go_ret
        exact ⟨retb HF.out.symm, rfl⟩
    · have hfin : numB n f = true := decide_eq_true (fun a ha => hall a (by omega))
      have HF := Lib.hid hfin; clear hfin
      go_wp2
      go_ret
      exact ⟨retb HF.out.symm, rfl⟩
theorem itselfOk_any (bk off n cap : Nat) (f : Nat → Int) (hn : n ≤ 7) (w : World) (hr : Row w bk off n f) :
    Calls Tryz.prog 149 #[.slice (some ⟨bk, off, none⟩) n cap] w fun e w' => e = .returned (.bool (selfB n f)) ∧ w = w' := by
  go_enter Tryz.func149, Tryz.ntmps149
  go_wp2
  go_loop [6] (fun i => ∃ k : Nat, k ≤ n ∧ i = .int .i64 k ∧ Hid (∀ a, a < k → hasB (f a) a = true)) (fun i => n - (intOf i).toNat)
  case atStart => exact ⟨0, Nat.zero_le _, rfl, fun a ha => absurd ha (Nat.not_lt_zero _)⟩
  case round =>
    obtain ⟨k, hk, rfl, hall⟩ := hrel
    by_cases hlt : k < n
    · have hc := hr k hlt
      have hk6 : k ≤ 63 := by omega
      by_cases hb : hasB (f k) k = true
      · go_wp2_with (go_at_call 176; refine (part_any _ _ _ _ _ _ _ hlt hk6 _ hc).mono ?_; rintro e w' ⟨rfl, rfl⟩)
        go_round
        case rel => exact ⟨k + 1, by omega, by go_num, fun a ha => by
          by_cases hak : a = k
          · subst hak; exact hb
          · exact hall a (by omega)⟩
        case measure => simp [intOf]; omega
      · have hb' : hasB (f k) k = false := by simpa using hb
        have hfin : selfB n f = false := decide_eq_false (fun h => hb (h k hlt))
        have HF := Lib.hid hfin; clear hfin
        go_wp2_with (go_at_call 176; refine (part_any _ _ _ _ _ _ _ hlt hk6 _ hc).mono ?_; rintro e w' ⟨rfl, rfl⟩)
        go_ret
        exact ⟨retb HF.out.symm, rfl⟩
    · have hfin : selfB n f = true := decide_eq_true (fun a ha => hall a (by omega))
      have HF := Lib.hid hfin; clear hfin
      go_wp2
      go_ret
      exact ⟨retb HF.out.symm, rfl⟩
theorem orderOk_any (bk off n cap : Nat) (f : Nat → Int) (hn : n ≤ 7) (w : World) (hr : Row w bk off n f) :
    Calls Tryz.prog 150 #[.slice (some ⟨bk, off, none⟩) n cap] w fun e w' => e = .returned (.bool (orderB n f)) ∧ w = w' := by
  go_enter Tryz.func150, Tryz.ntmps150
  go_wp2
  go_loop [7] (fun i => ∃ k : Nat, k ≤ n ∧ i = .int .i64 k ∧ Hid (∀ b, b < k → ∀ a, a < b → (hasB (f b) a && hasB (f a) b) = false)) (fun i => n - (intOf i).toNat)
  case atStart => exact ⟨0, Nat.zero_le _, rfl, fun a ha => absurd ha (Nat.not_lt_zero _)⟩
  case round =>
    obtain ⟨k, hk, rfl, hall⟩ := hrel
    by_cases hlt : k < n
    · have hc := hr k hlt
      have hk6 : k ≤ 63 := by omega
      go_wp2
      go_loop [11] (fun i => ∃ j : Nat, j ≤ k ∧ i = .int .i64 j ∧ Hid (∀ a, a < j → (hasB (f k) a && hasB (f a) k) = false)) (fun i => k - (intOf i).toNat)
      case atStart => exact ⟨0, Nat.zero_le _, rfl, fun a ha => absurd ha (Nat.not_lt_zero _)⟩
      case round =>
        obtain ⟨j, hj, rfl, hin⟩ := hrel
        by_cases hjk : j < k
        · have hjn : j < n := by omega
          have hj6 : j ≤ 63 := by omega
          have hcj := hr j hjn
          by_cases h1 : hasB (f k) j = true
          · by_cases h2 : hasB (f j) k = true
            · have hfin : orderB n f = false := decide_eq_false (fun h => by have := h k hlt j hjk; rw [h1, h2] at this; cases this)
              have HF := Lib.hid hfin; clear hfin
              go_wp2_with fail
              refine (part_any _ _ _ _ _ _ _ hlt hj6 _ hc).mono ?_
              rintro e w' ⟨rfl, rfl⟩
              go_wp2_with fail
              refine (part_any _ _ _ _ _ _ _ hjn hk6 _ hcj).mono ?_
              rintro e w' ⟨rfl, rfl⟩
              go_wp2_with fail
              go_ret
              exact ⟨retb HF.out.symm, rfl⟩
            · have h2' : hasB (f j) k = false := by simpa using h2
              go_wp2_with fail
              refine (part_any _ _ _ _ _ _ _ hlt hj6 _ hc).mono ?_
              rintro e w' ⟨rfl, rfl⟩
              go_wp2_with fail
              refine (part_any _ _ _ _ _ _ _ hjn hk6 _ hcj).mono ?_
              rintro e w' ⟨rfl, rfl⟩
              go_wp2_with fail
              go_round
              case rel => exact ⟨j + 1, by omega, by go_num, fun a ha => by
                by_cases hak : a = j
                · subst hak; rw [h2']; simp
                · exact hin a (by omega)⟩
              case measure => simp [intOf]; omega
          · have h1' : hasB (f k) j = false := by simpa using h1
            go_wp2_with fail
            refine (part_any _ _ _ _ _ _ _ hlt hj6 _ hc).mono ?_
            rintro e w' ⟨rfl, rfl⟩
            go_wp2_with fail
            go_round
            case rel => exact ⟨j + 1, by omega, by go_num, fun a ha => by
              by_cases hak : a = j
              · subst hak; rw [h1']; simp
              · exact hin a (by omega)⟩
            case measure => simp [intOf]; omega
        · go_wp2
          go_round
          case rel => exact ⟨k + 1, by omega, by go_num, fun b hb a ha => by
            by_cases hak : b = k
            · subst hak; exact hin a (by omega)
            · exact hall b (by omega) a ha⟩
          case measure => simp [intOf]; omega
    · have hfin : orderB n f = true := decide_eq_true (fun b hb a ha => hall b (by omega) a ha)
      have HF := Lib.hid hfin; clear hfin
      go_wp2
      go_ret
      exact ⟨retb HF.out.symm, rfl⟩
theorem pop_any (bk off n cap : Nat) (f : Nat → Int) (hn : n ≤ 7) (w : World) (hr : Row w bk off n f) :
    Calls Tryz.prog 151 #[.slice (some ⟨bk, off, none⟩) n cap] w fun e w' => e = .returned (.bool (popB n f)) ∧ w = w' := by
  go_enter Tryz.func151, Tryz.ntmps151
  go_wp2
  go_loop [9] (fun i => ∃ k : Nat, k ≤ n ∧ i = .int .i64 k ∧ Hid (∀ b, b < k → ∀ a, a < n → hasB (f b) a = true → withinB (f a) (f b) = true)) (fun i => n - (intOf i).toNat)
  case atStart => exact ⟨0, Nat.zero_le _, rfl, fun a ha => absurd ha (Nat.not_lt_zero _)⟩
  case round =>
    obtain ⟨k, hk, rfl, hall⟩ := hrel
    by_cases hlt : k < n
    · have hc := hr k hlt
      go_wp2
      go_loop [15] (fun i => ∃ j : Nat, j ≤ n ∧ i = .int .i64 j ∧ Hid (∀ a, a < j → hasB (f k) a = true → withinB (f a) (f k) = true)) (fun i => n - (intOf i).toNat)
      case atStart => exact ⟨0, Nat.zero_le _, rfl, fun a ha => absurd ha (Nat.not_lt_zero _)⟩
      case round =>
        obtain ⟨j, hj, rfl, hin⟩ := hrel
        by_cases hjn : j < n
        · have hj6 : j ≤ 63 := by omega
          have hcj := hr j hjn
          by_cases h1 : hasB (f k) j = true
          · by_cases h2 : withinB (f j) (f k) = true
            · go_wp2_with fail
              refine (has_any _ _ hj6 _).mono ?_
              rintro e w' ⟨rfl, rfl⟩
              go_wp2_with fail
              refine (within_any _ _ _).mono ?_
              rintro e w' ⟨rfl, rfl⟩
              go_wp2_with fail
              go_round
              case rel => exact ⟨j + 1, by omega, by go_num, fun a ha => by
                by_cases hak : a = j
                · subst hak; exact fun _ => h2
                · exact hin a (by omega)⟩
              case measure => simp [intOf]; omega
            · have h2' : withinB (f j) (f k) = false := by simpa using h2
              have hfin : popB n f = false := decide_eq_false (fun h => h2 (h k hlt j hjn h1))
              have HF := Lib.hid hfin; clear hfin
              go_wp2_with fail
              refine (has_any _ _ hj6 _).mono ?_
              rintro e w' ⟨rfl, rfl⟩
              go_wp2_with fail
              refine (within_any _ _ _).mono ?_
              rintro e w' ⟨rfl, rfl⟩
              go_wp2_with fail
              go_ret
              exact ⟨retb HF.out.symm, rfl⟩
          · have h1' : hasB (f k) j = false := by simpa using h1
            go_wp2_with fail
            refine (has_any _ _ hj6 _).mono ?_
            rintro e w' ⟨rfl, rfl⟩
            go_wp2_with fail
            go_round
            case rel => exact ⟨j + 1, by omega, by go_num, fun a ha => by
              by_cases hak : a = j
              · subst hak; exact fun h => absurd h h1
              · exact hin a (by omega)⟩
            case measure => simp [intOf]; omega
        · go_wp2
          go_round
          case rel => exact ⟨k + 1, by omega, by go_num, fun b hb a ha => by
            by_cases hak : b = k
            · subst hak; exact hin a (by omega)
            · exact hall b (by omega) a ha⟩
          case measure => simp [intOf]; omega
    · have hfin : popB n f = true := decide_eq_true (fun b hb a ha => hall b (by omega) a ha)
      have HF := Lib.hid hfin; clear hfin
      go_wp2
      go_ret
      exact ⟨retb HF.out.symm, rfl⟩
theorem Tryz.infoThings : (Tryz.prog.info? 153).map (fun i => (i.zero, i.size, i.bytes)) = some (some (.int .i64 0), 1, 8) := by kernel_rfl
def okB (n : Nat) (f : Nat → Int) : Bool := numB n f && selfB n f && orderB n f && popB n f
theorem Row.below {w w' : World} {B b o n : Nat} {f : Nat → Int} (h : Row w b o n f) (hb : Below B w w') (hlt : b < B) : Row w' b o n f :=
  fun i hi => (hb.cell (p := ⟨b, o + i, none⟩) hlt).trans (h i hi)
theorem row_of_is {w : World} {b t n : Nat} {g : Nat → Value} {f : Nat → Int} (h : w.rowIs b t n g) (hg : ∀ i, i < n → g i = .int .i64 (f i)) : Row w b 0 n f :=
  fun i hi => by rw [Nat.zero_add, h.cell hi, hg i hi]
def fill (f : Nat → Int) (k i : Nat) : Value := .int .i64 (if i < k then f i else 0)
theorem fill_step {w : World} {b t n : Nat} {f : Nat → Int} {k : Nat} (h : w.rowIs b t n (fill f k)) : (w.setCell ⟨b, k, none⟩ (.int .i64 (f k))).rowIs b t n (fill f (k + 1)) := by
  refine (h.set k (.int .i64 (f k))).congr fun i _ => ?_
  unfold fill
  by_cases hik : i = k
  · subst hik; rw [if_pos rfl, if_pos (Nat.lt_succ_self _)]
  · by_cases hlt : i < k
    · rw [if_neg hik, if_pos hlt, if_pos (by omega)]
    · rw [if_neg hik, if_neg hlt, if_neg (by omega)]
def WorldOfPost (n : Nat) (f : Nat → Int) (w : World) (e : Ending) (w' : World) : Prop :=
  e = .returned (.tuple #[if okB n f then .slice (some ⟨w.heap.size, 0, none⟩) n n else .slice none 0 0, .bool (okB n f)]) ∧ Below w.heap.size w w' ∧ w.heap.size < w'.heap.size ∧ Row w' w.heap.size 0 n f
theorem worldOf_any (bk off n cap : Nat) (f : Nat → Int) (h1 : 1 ≤ n) (hn : n ≤ 7) (w : World) (hr : Row w bk off n f) (hbk : bk < w.heap.size) :
    Calls Tryz.prog 119 #[.slice (some ⟨bk, off, none⟩) n cap] w (WorldOfPost n f w) := by
  have hmk := run_make_row' (P := Tryz.prog) 136 153 (.int .i64 0) 8 Tryz.underlying136 Tryz.infoThings rfl .i64 .i64 n (by omega) (by omega)
  have hmade := World.rowIs_made w (.int .i64 0) n 153
  have hbel : Below w.heap.size w (w.alloc (.cells (madeCells #[.int .i64 0] n) 153)) := (Below.refl _ _).alloc (Nat.le_refl _) _
  have hd1 : decide ((n : Int) < 1) = false := by simp; omega
  have hd2 : decide ((7 : Int) < (n : Int)) = false := by simp; omega
  go_enter Tryz.func119, Tryz.ntmps119
  go_wp2_with fail
  go_loopw [20] (fun i wr => ∃ k : Nat, k ≤ n ∧ i = .int .i64 k ∧ wr.rowIs w.heap.size 153 n (fill f k) ∧ Below w.heap.size w wr) (fun i _ => n - (intOf i).toNat)
  case atStart => exact ⟨0, Nat.zero_le _, rfl, hmade, hbel⟩
  case round =>
    obtain ⟨k, hk, rfl, hrow, hb⟩ := hrel
    have hr' := hr.below hb hbk
    by_cases hlt : k < n
    · have hc := hr' k hlt
      have hold := hrow.cell hlt
      have hfr := hrow.frozen k
      go_wp2_with fail
      go_roundw
      case rel => exact ⟨k + 1, by omega, by go_num, fill_step hrow, hb.setCell (Nat.le_refl _) _⟩
      case measure => simp [intOf]; omega
    · have hown : Row wr w.heap.size 0 n f := row_of_is hrow (fun i hi => by unfold fill; rw [if_pos (by omega)])
      have hsz : w.heap.size < wr.heap.size := hrow.lt
      by_cases c0 : numB n f = true
      · by_cases c1 : selfB n f = true
        · by_cases c2 : orderB n f = true
          · by_cases c3 : popB n f = true
            · have hfin : okB n f = true := by simp [okB, c0, c1, c2, c3]
              have HF := Lib.hid hfin; clear hfin
              go_wp2_with fail
              refine (numbersOk_any _ _ _ _ f hn _ hown).mono ?_
              rintro e w' ⟨rfl, rfl⟩
              go_wp2_with fail
              refine (itselfOk_any _ _ _ _ f hn _ hown).mono ?_
              rintro e w' ⟨rfl, rfl⟩
              go_wp2_with fail
              refine (orderOk_any _ _ _ _ f hn _ hown).mono ?_
              rintro e w' ⟨rfl, rfl⟩
              go_wp2_with fail
              refine (pop_any _ _ _ _ f hn _ hown).mono ?_
              rintro e w' ⟨rfl, rfl⟩
              go_wp2_with fail
              go_ret2
              exact ⟨by first | rfl | (rw [HF.out]; rfl), hb, hsz, hown⟩
            · have d3 : popB n f = false := by simpa using c3
              have hfin : okB n f = false := by simp [okB, d3]
              clear c3
              have HF := Lib.hid hfin; clear hfin
              go_wp2_with fail
              refine (numbersOk_any _ _ _ _ f hn _ hown).mono ?_
              rintro e w' ⟨rfl, rfl⟩
              go_wp2_with fail
              refine (itselfOk_any _ _ _ _ f hn _ hown).mono ?_
              rintro e w' ⟨rfl, rfl⟩
              go_wp2_with fail
              refine (orderOk_any _ _ _ _ f hn _ hown).mono ?_
              rintro e w' ⟨rfl, rfl⟩
              go_wp2_with fail
              refine (pop_any _ _ _ _ f hn _ hown).mono ?_
              rintro e w' ⟨rfl, rfl⟩
              go_wp2_with fail
              go_ret2
              exact ⟨by first | rfl | (rw [HF.out]; rfl), hb, hsz, hown⟩
          · have d2 : orderB n f = false := by simpa using c2
            have hfin : okB n f = false := by simp [okB, d2]
            clear c2
            have HF := Lib.hid hfin; clear hfin
            go_wp2_with fail
            refine (numbersOk_any _ _ _ _ f hn _ hown).mono ?_
            rintro e w' ⟨rfl, rfl⟩
            go_wp2_with fail
            refine (itselfOk_any _ _ _ _ f hn _ hown).mono ?_
            rintro e w' ⟨rfl, rfl⟩
            go_wp2_with fail
            refine (orderOk_any _ _ _ _ f hn _ hown).mono ?_
            rintro e w' ⟨rfl, rfl⟩
            go_wp2_with fail
            go_ret2
            exact ⟨by first | rfl | (rw [HF.out]; rfl), hb, hsz, hown⟩
        · have d1 : selfB n f = false := by simpa using c1
          have hfin : okB n f = false := by simp [okB, d1]
          clear c1
          have HF := Lib.hid hfin; clear hfin
          go_wp2_with fail
          refine (numbersOk_any _ _ _ _ f hn _ hown).mono ?_
          rintro e w' ⟨rfl, rfl⟩
          go_wp2_with fail
          refine (itselfOk_any _ _ _ _ f hn _ hown).mono ?_
          rintro e w' ⟨rfl, rfl⟩
          go_wp2_with fail
          go_ret2
          exact ⟨by first | rfl | (rw [HF.out]; rfl), hb, hsz, hown⟩
      · have d0 : numB n f = false := by simpa using c0
        have hfin : okB n f = false := by simp [okB, d0]
        clear c0
        have HF := Lib.hid hfin; clear hfin
        go_wp2_with fail
        refine (numbersOk_any _ _ _ _ f hn _ hown).mono ?_
        rintro e w' ⟨rfl, rfl⟩
        go_wp2_with fail
        go_ret2
        exact ⟨by first | rfl | (rw [HF.out]; rfl), hb, hsz, hown⟩
theorem worldOf_no (a : Option Addr) (n cap : Nat) (h : n < 1 ∨ 7 < n) (hmax : n ≤ 9223372036854775807) (w : World) :
    Calls Tryz.prog 119 #[.slice a n cap] w fun e w' => e = .returned (.tuple #[.slice none 0 0, .bool false]) ∧ w = w' := by
  rcases h with h | h
  · have hd1 : decide ((n : Int) < 1) = true := by simp; omega
    go_enter Tryz.func119, Tryz.ntmps119
    go_wp2_with fail
    go_ret2
    exact ⟨rfl, rfl⟩
  · have hd1 : decide ((n : Int) < 1) = false := by simp; omega
    have hd2 : decide ((7 : Int) < (n : Int)) = true := by simp; omega
    go_enter Tryz.func119, Tryz.ntmps119
    go_wp2_with fail
    go_ret2
    exact ⟨rfl, rfl⟩
def Ints (w : World) (a : Option Addr) (n : Nat) (f : Nat → Int) : Prop :=
  (n ≤ 9223372036854775807 ∧ ∀ i, i < n → I64 (f i)) ∧ (n = 0 ∨ ∃ b o, a = some ⟨b, o, none⟩ ∧ b < w.heap.size ∧ Row w b o n f)
def worldB (n : Nat) (f : Nat → Int) : Bool := decide (1 ≤ n) && decide (n ≤ 7) && okB n f
theorem Ints.below {w w' : World} {B n : Nat} {a : Option Addr} {f : Nat → Int} (h : Ints w a n f) (hb : Below B w w') (hB : w.heap.size ≤ B) : Ints w' a n f := by
  obtain ⟨hm, h | ⟨b, o, rfl, hlt, hr⟩⟩ := h
  · exact ⟨hm, .inl h⟩
  · exact ⟨hm, .inr ⟨b, o, rfl, Nat.lt_of_lt_of_le hlt hb.size, hr.below hb (Nat.lt_of_lt_of_le hlt hB)⟩⟩
def WorldOfEnd (n : Nat) (f : Nat → Int) (w : World) (e : Ending) (w' : World) : Prop :=
  Below w.heap.size w w' ∧ ((worldB n f = true ∧ e = .returned (.tuple #[.slice (some ⟨w.heap.size, 0, none⟩) n n, .bool true]) ∧ w.heap.size < w'.heap.size ∧ Row w' w.heap.size 0 n f)
    ∨ (worldB n f = false ∧ e = .returned (.tuple #[.slice none 0 0, .bool false])))
theorem worldOf_end (a : Option Addr) (n cap : Nat) (f : Nat → Int) (w : World) (hi : Ints w a n f) :
    Calls Tryz.prog 119 #[.slice a n cap] w (WorldOfEnd n f w) := by
  obtain ⟨⟨hm, _⟩, hi⟩ := hi
  by_cases h : n < 1 ∨ 7 < n
  · refine (worldOf_no a n cap h hm w).mono ?_
    rintro e w' ⟨rfl, rfl⟩
    refine ⟨Below.refl _ _, .inr ⟨?_, rfl⟩⟩
    unfold worldB
    rcases h with h | h
    · rw [decide_eq_false (show ¬ 1 ≤ n by omega)]; rfl
    · rw [decide_eq_false (show ¬ n ≤ 7 by omega)]; simp
  · have h1 : 1 ≤ n := by omega
    have h7 : n ≤ 7 := by omega
    rcases hi with hi | ⟨b, o, rfl, hlt, hr⟩
    · omega
    · have hw : worldB n f = okB n f := by unfold worldB; rw [decide_eq_true h1, decide_eq_true h7]; rfl
      refine (worldOf_any b o n cap f h1 h7 w hr hlt).mono ?_
      rintro e w' ⟨he, hb, hs, hrow⟩
      refine ⟨hb, ?_⟩
      rw [hw]
      cases hok : okB n f with
      | true => rw [hok] at he; exact .inl ⟨rfl, he, hs, hrow⟩
      | false => rw [hok] at he; exact .inr ⟨rfl, he⟩
theorem quiet_left {P : Program} {f : FuncId} {args : Array Value} {w : World} {n : Nat} {v : Value}
    (h : Calls P f args (w.drewN n) fun e w' => e = .returned v ∧ w.drewN n = w') : Calls P f args (w.drewN n) fun e w'' => e = .returned v ∧ ∃ m, w'' = w.drewN m :=
  h.mono fun _ _ ⟨he, hm⟩ => ⟨he, n, hm.symm⟩
def Drew (w w' : World) : Prop := ∃ m, w' = w.drewN m
theorem Drew.refl (w : World) : Drew w w := ⟨0, rfl⟩
theorem Drew.more {w w' : World} (h : Drew w w') (n : Nat) : Drew w (w'.drewN n) := by
  obtain ⟨m, rfl⟩ := h; exact ⟨m + n, by rw [World.drewN_drewN]⟩
theorem Drew.below {w w' : World} (h : Drew w w') : Below w.heap.size w w' := by
  obtain ⟨m, rfl⟩ := h; exact below_drewN (Below.refl _ _) m
theorem Row.drewN {w : World} {b o n : Nat} {f : Nat → Int} (h : Row w b o n f) (m : Nat) : Row (w.drewN m) b o n f :=
  fun i hi => by rw [World.cell?_drewN]; exact h i hi
theorem l1Has_val (x : Int) (a : Nat) (v : Bool) (w : World) (hv : hasB x a = v) (ha : a ≤ 63) (hx : 0 ≤ x) :
    Calls Tryz.prog 87 #[.int .i64 x, .int .i64 a] w fun e w' => e = .returned (.bool v) ∧ w = w' := by
  subst hv; exact l1Has_any x a ha hx w
def rngB (n : Nat) (f : Nat → Int) : Bool := decide (∀ a, a < n → inB 0 (f a) (2 ^ n - 1) = true ∧ hasB (f a) a = true)
def ordB (n : Nat) (f : Nat → Int) : Bool := decide (∀ a, a < n → ∀ b, b < n → hasB (f a) b = true → orI (f a) (f b) = f a ∧ (a ≠ b → hasB (f b) a = false))
theorem pow_bounds (n : Nat) (h : n ≤ 7) : (1 : Int) ≤ 2 ^ n ∧ (2 : Int) ^ n ≤ 128 := by
  match n, h with
  | 0, _ | 1, _ | 2, _ | 3, _ | 4, _ | 5, _ | 6, _ | 7, _ => decide
theorem specWorldOk_no (a : Option Addr) (n cap : Nat) (h : n < 1 ∨ 7 < n) (hmax : n ≤ 9223372036854775807) (w : World) :
    Calls Tryz.prog 121 #[.slice a n cap] w fun e w' => e = .returned (.bool false) ∧ w = w' := by
  have hin : inB 1 n 7 = false := by
    unfold inB
    rcases h with h | h
    · rw [decide_eq_false (show ¬ (1 : Int) ≤ (n : Int) by omega)]; rfl
    · rw [decide_eq_false (show ¬ (n : Int) ≤ 7 by omega)]; simp
  go_enter Tryz.func121, Tryz.ntmps121
  go_wp2_with fail
  refine (l1In_any _ _ _ _).mono ?_
  rintro e w' ⟨rfl, rfl⟩
  go_wp2_with fail
  go_ret
  exact ⟨rfl, rfl⟩
theorem specWorldOk_in (bk off n cap : Nat) (f : Nat → Int) (h1 : 1 ≤ n) (hn : n ≤ 7) (hi64 : ∀ i, i < n → I64 (f i)) (w : World) (hr : Row w bk off n f) :
    Calls Tryz.prog 121 #[.slice (some ⟨bk, off, none⟩) n cap] w fun e w' => e = .returned (.bool (rngB n f && ordB n f)) ∧ Drew w w' := by
  have hin : inB 1 n 7 = true := by
    unfold inB
    rw [decide_eq_true (show (1 : Int) ≤ (n : Int) by omega), decide_eq_true (show (n : Int) ≤ 7 by omega)]; rfl
  have ⟨hp1, hp2⟩ := pow_bounds n hn
  have hi64' := Lib.hid hi64; clear hi64
  have hi64 := hi64'; clear hi64'
  go_enter Tryz.func121, Tryz.ntmps121
  go_wp2_with fail
  refine (l1In_any _ _ _ _).mono ?_
  rintro e w' ⟨rfl, rfl⟩
  go_wp2_with fail
  go_loopw [3] (fun i wr => ∃ k : Nat, k ≤ n ∧ i = .int .i64 k ∧ Row wr bk off n f ∧ Drew w wr ∧ Hid (∀ a, a < k → inB 0 (f a) (2 ^ n - 1) = true ∧ hasB (f a) a = true)) (fun i _ => n - (intOf i).toNat)
  case atStart => exact ⟨0, Nat.zero_le _, rfl, hr, Drew.refl w, fun a ha => absurd ha (Nat.not_lt_zero _)⟩
  case round =>
    obtain ⟨k, hk, rfl, hrow, hdr, hall⟩ := hrel
    by_cases hlt : k < n
    · have hc := hrow k hlt
      have hki : (k : Int) < (n : Int) := by omega
      by_cases c1 : inB 0 (f k) (2 ^ n - 1) = true
      · have hx : 0 ≤ f k := by unfold inB at c1; simp at c1; exact c1.1
        have hk6 : k ≤ 63 := by omega
        by_cases c2 : hasB (f k) k = true
        · go_wp2_with fail
          go_quiet (first | (go_at_call 86; exact quiet_left (l1In_any _ _ _ _)) | (go_at_call 87; exact quiet_left (l1Has_any _ _ hk6 hx _)))
          go_wp2_with fail
          go_roundw
          case rel => exact ⟨k + 1, by omega, by go_num, hrow.drewN _, hdr.more _, fun a ha => by
            by_cases hak : a = k
            · subst hak; exact ⟨c1, c2⟩
            · exact hall a (by omega)⟩
          case measure => simp [intOf]; omega
        · have c2' : hasB (f k) k = false := by simpa using c2
          have hfin : (rngB n f && ordB n f) = false := by
            have : rngB n f = false := decide_eq_false (fun h => c2 (h k hlt).2)
            rw [this]; rfl
          have HF := Lib.hid hfin; clear hfin
          go_wp2_with fail
          go_quiet (first | (go_at_call 86; exact quiet_left (l1In_any _ _ _ _)) | (go_at_call 87; exact quiet_left (l1Has_any _ _ (by omega) (by omega) _)))
          go_wp2_with fail
          go_ret
          exact ⟨retb HF.out.symm, hdr.more _⟩
      · have c1' : inB 0 (f k) (2 ^ n - 1) = false := by simpa using c1
        have hfin : (rngB n f && ordB n f) = false := by
          have : rngB n f = false := decide_eq_false (fun h => c1 (h k hlt).1)
          rw [this]; rfl
        have HF := Lib.hid hfin; clear hfin
        go_wp2_with fail
        go_quiet (first | (go_at_call 86; exact quiet_left (l1In_any _ _ _ _)) | (go_at_call 87; exact quiet_left (l1Has_any _ _ (by omega) (by omega) _)))
        go_wp2_with fail
        go_ret
        exact ⟨retb HF.out.symm, hdr.more _⟩
    · have hrng : rngB n f = true := decide_eq_true (fun a ha => hall a (by omega))
      have HR := Lib.hid hrng; clear hrng
      have H0 : Hid (∀ a, a < n → 0 ≤ f a) := fun a ha => by
        have := (hall a (by omega)).1
        unfold inB at this; simp at this; exact this.1
      clear hall
      obtain ⟨wo, rfl⟩ : ∃ wo : World, wo = wr := ⟨_, rfl⟩
      go_wp2_with fail
      clear hlt hk
      go_loopw [4] (fun i wr => ∃ k : Nat, k ≤ n ∧ i = .int .i64 k ∧ Row wr bk off n f ∧ Drew w wr ∧ Hid (∀ a, a < k → ∀ b, b < n → hasB (f a) b = true → orI (f a) (f b) = f a ∧ (a ≠ b → hasB (f b) a = false))) (fun i _ => n - (intOf i).toNat)
      case atStart => exact ⟨0, Nat.zero_le _, rfl, hrow, hdr, fun a ha => absurd ha (Nat.not_lt_zero _)⟩
      case round =>
        clear hrow hdr
        obtain ⟨k, hk, rfl, hrow, hdr, hall⟩ := hrel
        by_cases hlt : k < n
        · have hc := hrow k hlt
          have hx : 0 ≤ f k := H0.out k hlt
          have hk7 : k < 7 := by omega
          go_wp2_with fail
          go_loopw [5] (fun i wr => ∃ j : Nat, j ≤ n ∧ i = .int .i64 j ∧ Row wr bk off n f ∧ Drew w wr ∧ Hid (∀ b, b < j → hasB (f k) b = true → orI (f k) (f b) = f k ∧ (k ≠ b → hasB (f b) k = false))) (fun i _ => n - (intOf i).toNat)
          case atStart => exact ⟨0, Nat.zero_le _, rfl, hrow, hdr, fun a ha => absurd ha (Nat.not_lt_zero _)⟩
          case round =>
            clear hc
            obtain ⟨j, hj, rfl, hri, hdi, hin⟩ := hrel
            by_cases hjn : j < n
            · have hj7 : j < 7 := by omega
              have hck := hri k hlt
              have hki : (k : Int) < (n : Int) := by omega
              have hji : (j : Int) < (n : Int) := by omega
              by_cases h1 : hasB (f k) j = true
              · by_cases hkj : k = j
                · subst hkj
                  have hkk : ((k : Int) != (k : Int)) = false := by simp
                  have hoo : orI (f k) (f k) = f k := (or_eq_iff (f k) (f k) (hi64.out k hlt)).2 (fun _ _ h => h)
                  have hor : (bits .or .i64 (f k) (f k) != f k) = false := by rw [bne_eq_false_iff_eq]; exact hoo
                  have HO := Lib.hid hoo; clear hoo
                  go_wp2_with fail
                  go_quiet ((go_at_call 87; first | (refine quiet_left (l1Has_val _ _ true _ ?_ ?_ ?_); assumption; omega; omega) | (refine quiet_left (l1Has_val _ _ false _ ?_ ?_ ?_); assumption; omega; omega)))
                  go_wp2_with fail
                  go_roundw
                  case rel => exact ⟨k + 1, by omega, by go_num, hri.drewN _, hdi.more _, fun b hb => by
                    by_cases hbj : b = k
                    · subst hbj; exact fun _ => ⟨HO.out, fun h => absurd rfl h⟩
                    · exact hin b (by omega)⟩
                  case measure => simp [intOf]; omega
                · have hcj := hri j hjn
                  have hxj : 0 ≤ f j := H0.out j hjn
                  have hne : ((k : Int) != (j : Int)) = true := by rw [bne_iff_ne]; omega
                  by_cases h2 : bits .or .i64 (f k) (f j) = f k
                  · have hor : (bits .or .i64 (f k) (f j) != f k) = false := by rw [bne_eq_false_iff_eq]; exact h2
                    have H2 := Lib.hid h2; clear h2
                    by_cases h3 : hasB (f j) k = true
                    · have hfin : (rngB n f && ordB n f) = false := by
                        have : ordB n f = false := decide_eq_false (fun h => by have := (h k hlt j hjn h1).2 hkj; rw [h3] at this; cases this)
                        rw [this]; simp
                      have HF := Lib.hid hfin; clear hfin
                      go_wp2_with fail
                      go_quiet ((go_at_call 87; first | (refine quiet_left (l1Has_val _ _ true _ ?_ ?_ ?_); assumption; omega; omega) | (refine quiet_left (l1Has_val _ _ false _ ?_ ?_ ?_); assumption; omega; omega)))
                      go_wp2_with fail
                      go_ret
                      exact ⟨retb HF.out.symm, hdi.more _⟩
                    · have h3' : hasB (f j) k = false := by simpa using h3
                      clear h3
                      go_wp2_with fail
                      go_quiet ((go_at_call 87; first | (refine quiet_left (l1Has_val _ _ true _ ?_ ?_ ?_); assumption; omega; omega) | (refine quiet_left (l1Has_val _ _ false _ ?_ ?_ ?_); assumption; omega; omega)))
                      go_wp2_with fail
                      go_roundw
                      case rel => exact ⟨j + 1, by omega, by go_num, hri.drewN _, hdi.more _, fun b hb => by
                        by_cases hbj : b = j
                        · subst hbj; exact fun _ => ⟨H2.out, fun _ => h3'⟩
                        · exact hin b (by omega)⟩
                      case measure => simp [intOf]; omega
                  · have hor : (bits .or .i64 (f k) (f j) != f k) = true := by rw [bne_iff_ne]; exact h2
                    have H2 := Lib.hid h2; clear h2
                    have hfin : (rngB n f && ordB n f) = false := by
                      have : ordB n f = false := decide_eq_false (fun h => by exact H2.out (h k hlt j hjn h1).1)
                      rw [this]; simp
                    have HF := Lib.hid hfin; clear hfin
                    go_wp2_with fail
                    go_quiet ((go_at_call 87; first | (refine quiet_left (l1Has_val _ _ true _ ?_ ?_ ?_); assumption; omega; omega) | (refine quiet_left (l1Has_val _ _ false _ ?_ ?_ ?_); assumption; omega; omega)))
                    go_wp2_with fail
                    go_ret
                    exact ⟨retb HF.out.symm, hdi.more _⟩
              · have h1' : hasB (f k) j = false := by simpa using h1
                have H1 := Lib.hid h1; clear h1
                go_wp2_with fail
                go_quiet ((go_at_call 87; first | (refine quiet_left (l1Has_val _ _ true _ ?_ ?_ ?_); assumption; omega; omega) | (refine quiet_left (l1Has_val _ _ false _ ?_ ?_ ?_); assumption; omega; omega)))
                go_wp2_with fail
                go_roundw
                case rel => exact ⟨j + 1, by omega, by go_num, hri.drewN _, hdi.more _, fun b hb => by
                  by_cases hbj : b = j
                  · subst hbj; exact fun h => absurd h H1.out
                  · exact hin b (by omega)⟩
                case measure => simp [intOf]; omega
            · go_wp2_with fail
              go_roundw
              case rel => exact ⟨k + 1, by omega, by go_num, hri, hdi, fun a ha => by
                by_cases hak : a = k
                · subst hak; exact fun b hb => hin b (by omega)
                · exact hall a (by omega)⟩
              case measure => simp [intOf]; omega
        · have hfin : (rngB n f && ordB n f) = true := by
            rw [HR.out, show ordB n f = true from decide_eq_true (fun a ha => hall a (by omega))]; rfl
          have HF := Lib.hid hfin; clear hfin
          go_wp2_with fail
          go_ret
          exact ⟨retb HF.out.symm, hdr⟩
structure WorldP (n : Nat) (f : Nat → Int) : Prop where
  lo : 1 ≤ n
  hi : n ≤ 7
  rng : ∀ a, a < n → 0 ≤ f a ∧ f a < 2 ^ n
  self : ∀ a, a < n → hasB (f a) a = true
  anti : ∀ a, a < n → ∀ b, b < n → a ≠ b → hasB (f a) b = true → hasB (f b) a = false
  trans : ∀ a, a < n → ∀ b, b < n → hasB (f a) b = true → ∀ i, hasB (f b) i = true → hasB (f a) i = true
theorem hasB_lt {n : Nat} {x : Int} (h : 0 ≤ x ∧ x < 2 ^ n) {i : Nat} (hi : hasB x i = true) : i < n := by
  apply Classical.byContradiction; intro hni
  rw [hasB_big x n h.1 h.2 i (by omega)] at hi; cases hi
theorem okB_iff (n : Nat) (f : Nat → Int) (h7 : n ≤ 7) (h1 : 1 ≤ n) (h64 : ∀ i, i < n → I64 (f i)) : okB n f = true ↔ WorldP n f := by
  unfold okB numB selfB orderB popB
  simp only [Bool.and_eq_true, decide_eq_true_eq]
  constructor
  · rintro ⟨⟨⟨hn, hs⟩, ho⟩, hp⟩
    have hr : ∀ a, a < n → 0 ≤ f a ∧ f a < 2 ^ n := fun a ha => by
      have := (within_low (f a) n (by omega) (h64 a ha)).1 (hn a ha); omega
    refine ⟨h1, h7, hr, hs, ?_, ?_⟩
    · intro a ha b hb hab hba
      rcases Nat.lt_or_gt_of_ne hab with h | h
      · have := ho b hb a h; rw [hba] at this; simpa using this
      · have := ho a ha b h; rw [hba] at this; simpa using this
    · intro a ha b hb hba i hi
      exact (within_iff _ _).1 (hp a ha b hb hba) i (by have := hasB_lt (hr b hb) hi; omega) hi
  · intro h
    refine ⟨⟨⟨?_, h.self⟩, ?_⟩, ?_⟩
    · intro a ha
      exact (within_low (f a) n (by omega) (h64 a ha)).2 (by have := h.rng a ha; omega)
    · intro b hb a hab
      cases c : hasB (f b) a with
      | false => rfl
      | true => rw [h.anti b hb a (by omega) (by omega) c]; rfl
    · intro b hb a ha hba
      exact (within_iff _ _).2 (fun i _ hi => h.trans b hb a ha hba i hi)
theorem spec_iff (n : Nat) (f : Nat → Int) (h7 : n ≤ 7) (h1 : 1 ≤ n) (h64 : ∀ i, i < n → I64 (f i)) : (rngB n f && ordB n f) = true ↔ WorldP n f := by
  unfold rngB ordB
  simp only [Bool.and_eq_true, decide_eq_true_eq]
  constructor
  · rintro ⟨hn, ho⟩
    have hr : ∀ a, a < n → 0 ≤ f a ∧ f a < 2 ^ n := fun a ha => by
      have := (hn a ha).1; unfold inB at this; simp at this; omega
    refine ⟨h1, h7, hr, fun a ha => (hn a ha).2, ?_, ?_⟩
    · intro a ha b hb hab hba
      exact (ho a ha b hb hba).2 hab
    · intro a ha b hb hba i hi
      exact (or_eq_iff _ _ (h64 a ha)).1 (ho a ha b hb hba).1 i (by have := hasB_lt (hr b hb) hi; omega) hi
  · intro h
    refine ⟨?_, ?_⟩
    · intro a ha
      refine ⟨?_, h.self a ha⟩
      have := h.rng a ha; unfold inB; simp; omega
    · intro a ha b hb hba
      exact ⟨(or_eq_iff _ _ (h64 a ha)).2 (fun i _ hi => h.trans a ha b hb hba i hi), fun hab => h.anti a ha b hb hab hba⟩
theorem spec_eq (n : Nat) (f : Nat → Int) (h7 : n ≤ 7) (h1 : 1 ≤ n) (h64 : ∀ i, i < n → I64 (f i)) : (rngB n f && ordB n f) = worldB n f := by
  have e : worldB n f = okB n f := by unfold worldB; rw [decide_eq_true h1, decide_eq_true h7]; rfl
  rw [e, Bool.eq_iff_iff, spec_iff n f h7 h1 h64, okB_iff n f h7 h1 h64]
theorem worldB_iff (n : Nat) (f : Nat → Int) (h64 : ∀ i, i < n → I64 (f i)) : worldB n f = true ↔ WorldP n f := by
  unfold worldB
  constructor
  · intro h
    simp only [Bool.and_eq_true, decide_eq_true_eq] at h
    exact (okB_iff n f h.1.2 h.1.1 h64).1 h.2
  · intro h
    rw [decide_eq_true h.lo, decide_eq_true h.hi, (okB_iff n f h.hi h.lo h64).2 h]; rfl
theorem specWorldOk_any (a : Option Addr) (n cap : Nat) (f : Nat → Int) (w : World) (hi : Ints w a n f) :
    Calls Tryz.prog 121 #[.slice a n cap] w fun e w' => e = .returned (.bool (worldB n f)) ∧ Drew w w' := by
  obtain ⟨⟨hm, h64⟩, hi⟩ := hi
  by_cases h : n < 1 ∨ 7 < n
  · refine (specWorldOk_no a n cap h hm w).mono ?_
    rintro e w' ⟨rfl, rfl⟩
    refine ⟨?_, Drew.refl _⟩
    unfold worldB
    rcases h with h | h
    · rw [decide_eq_false (show ¬ 1 ≤ n by omega)]; rfl
    · rw [decide_eq_false (show ¬ n ≤ 7 by omega)]; simp
  · have h1 : 1 ≤ n := by omega
    have h7 : n ≤ 7 := by omega
    rcases hi with hi | ⟨b, o, rfl, hlt, hr⟩
    · omega
    · rw [← spec_eq n f h7 h1 h64]
      exact specWorldOk_in b o n cap f h1 h7 h64 w hr
def insB (n m : Nat) (g : Nat → Int) : Bool := decide (∀ i, i < m → 0 ≤ g i ∧ g i < n)
def WithEnd (n : Nat) (f : Nat → Int) (m : Nat) (g : Nat → Int) (w : World) (e : Ending) (w' : World) : Prop :=
  Below w.heap.size w w' ∧ (((worldB n f && insB n m g) = true ∧ e = .returned (.tuple #[.slice (some ⟨w.heap.size, 0, none⟩) n n, .bool true]) ∧ w.heap.size < w'.heap.size ∧ Row w' w.heap.size 0 n f)
    ∨ ((worldB n f && insB n m g) = false ∧ e = .returned (.tuple #[.slice none 0 0, .bool false])))
theorem worldWith_any (a : Option Addr) (n cap : Nat) (f : Nat → Int) (nb no m mc : Nat) (g : Nat → Int) (hm : m ≤ 1000) (w : World) (hi : Ints w a n f) (hg : Row w nb no m g) (hnb : nb < w.heap.size) :
    Calls Tryz.prog 212 #[.slice a n cap, .slice (some ⟨nb, no, none⟩) m mc] w (WithEnd n f m g w) := by
  have hn := hi.1.1
  go_enter Tryz.func212, Tryz.ntmps212
  go_wp2_with fail
  refine (worldOf_end a n cap f w hi).mono ?_
  rintro e w' ⟨hbel, ⟨hb, rfl, hs, hr⟩ | ⟨hb, rfl⟩⟩
  · have HB := Lib.hid hb; clear hb
    replace hg := hg.below hbel hnb
    go_wp2_with fail
    go_loop [19] (fun i => ∃ k : Nat, k ≤ m ∧ i = .int .i64 k ∧ Hid (∀ i, i < k → 0 ≤ g i ∧ g i < n)) (fun i => m - (intOf i).toNat)
    case atStart => exact ⟨0, Nat.zero_le _, rfl, fun a ha => absurd ha (Nat.not_lt_zero _)⟩
    case round =>
      obtain ⟨k, hk, rfl, hall⟩ := hrel
      by_cases hlt : k < m
      · have hc := hg k hlt
        by_cases hin : 0 ≤ g k ∧ g k < n
        · obtain ⟨hin0, hin1⟩ := hin
          have hd1 : decide (g k < 0) = false := by simp; omega
          have hd2 : decide ((n : Int) ≤ g k) = false := by simp; omega
          go_wp2_with fail
          go_round
          case rel => exact ⟨k + 1, by omega, by go_num, fun a ha => by
            by_cases hak : a = k
            · subst hak; exact ⟨hin0, hin1⟩
            · exact hall a (by omega)⟩
          case measure => simp [intOf]; omega
        · have hfin : (worldB n f && insB n m g) = false := by
            rw [show insB n m g = false from decide_eq_false (fun h => hin (h k hlt))]; simp
          have HF := Lib.hid hfin; clear hfin
          by_cases h0 : g k < 0
          · have hd1 : decide (g k < 0) = true := by simp; omega
            go_wp2_with fail
            go_ret2
            exact ⟨hbel, .inr ⟨HF.out, rfl⟩⟩
          · have hd1 : decide (g k < 0) = false := by simp; omega
            have hd2 : decide ((n : Int) ≤ g k) = true := by simp; omega
            go_wp2_with fail
            go_ret2
            exact ⟨hbel, .inr ⟨HF.out, rfl⟩⟩
      · have hfin : (worldB n f && insB n m g) = true := by
          rw [HB.out, show insB n m g = true from decide_eq_true (fun a ha => hall a (by omega))]; rfl
        have HF := Lib.hid hfin; clear hfin
        go_wp2_with fail
        go_ret2
        exact ⟨hbel, .inl ⟨HF.out, rfl, hs, hr⟩⟩
  · have hfin : (worldB n f && insB n m g) = false := by rw [hb]; rfl
    have HF := Lib.hid hfin; clear hfin hb
    go_wp2_with fail
    go_ret2
    exact ⟨hbel, .inr ⟨HF.out, rfl⟩⟩
def one (a : Int) : Nat → Int := fun _ => a
def two (a b : Int) : Nat → Int := fun i => if i = 0 then a else b
theorem insB_one (n : Nat) (a : Int) : insB n 1 (one a) = (decide (0 ≤ a) && decide (a < n)) := by
  unfold insB one
  rw [Bool.eq_iff_iff]; simp only [decide_eq_true_eq, Bool.and_eq_true]
  exact ⟨fun h => h 0 (by omega), fun h i _ => h⟩
theorem insB_two (n : Nat) (a b : Int) : insB n 2 (two a b) = ((decide (0 ≤ a) && decide (a < n)) && (decide (0 ≤ b) && decide (b < n))) := by
  unfold insB two
  rw [Bool.eq_iff_iff]; simp only [decide_eq_true_eq, Bool.and_eq_true]
  constructor
  · intro h
    exact ⟨by simpa using h 0 (by omega), by simpa using h 1 (by omega)⟩
  · rintro ⟨h1, h2⟩ i hi
    split <;> assumption
theorem row_two (w : World) (x y : Int) (t : TypeId) : Row (w.alloc (.cells #[.int .i64 x, .int .i64 y] t)) w.heap.size 0 2 (two x y) :=
  row_of_is (World.rowIs_alloc w #[.int .i64 x, .int .i64 y] t (fun i => .int .i64 (two x y i)) (by
    intro i hi
    match i, hi with
    | 0, _ => rfl
    | 1, _ => rfl)) (fun _ _ => rfl)
def good1 (n : Nat) (f : Nat → Int) (x : Int) : Bool := worldB n f && insB n 1 (one x)
def good2 (n : Nat) (f : Nat → Int) (x y : Int) : Bool := worldB n f && insB n 2 (two x y)
theorem good1_iff (n : Nat) (f : Nat → Int) (x : Int) : good1 n f x = true ↔ worldB n f = true ∧ 0 ≤ x ∧ x < n := by
  unfold good1; rw [insB_one]; simp only [Bool.and_eq_true, decide_eq_true_eq]
theorem good2_iff (n : Nat) (f : Nat → Int) (x y : Int) : good2 n f x y = true ↔ worldB n f = true ∧ (0 ≤ x ∧ x < n) ∧ 0 ≤ y ∧ y < n := by
  unfold good2; rw [insB_two]; simp only [Bool.and_eq_true, decide_eq_true_eq]
def partB (n : Nat) (f : Nat → Int) (x y : Int) : Bool := good2 n f x y && hasB (f y.toNat) x.toNat
theorem worldB_7 {n : Nat} {f : Nat → Int} (h : worldB n f = true) : 1 ≤ n ∧ n ≤ 7 := by
  unfold worldB at h; simp only [Bool.and_eq_true, decide_eq_true_eq] at h; exact h.1
theorem below_alloc_onto {w w' : World} {o : Obj} (h : Below (w.alloc o).heap.size (w.alloc o) w') : Below w.heap.size w w' :=
  ((Below.refl _ _).alloc (Nat.le_refl _) o).trans (h.mono (by show _ ≤ (w.heap.push _).size; rw [Array.size_push]; omega))
theorem with2 (a : Option Addr) (n cap : Nat) (f : Nat → Int) (x y : Int) (w : World) (hi : Ints w a n f) (t : TypeId) :
    Calls Tryz.prog 212 #[.slice a n cap, .slice (some ⟨w.heap.size, 0, none⟩) 2 2] (w.alloc (.cells #[.int .i64 x, .int .i64 y] t)) fun e w' =>
      Below w.heap.size w w' ∧ ((good2 n f x y = true ∧ e = .returned (.tuple #[.slice (some ⟨w.heap.size + 1, 0, none⟩) n n, .bool true]) ∧ Row w' (w.heap.size + 1) 0 n f) ∨ (good2 n f x y = false ∧ e = .returned (.tuple #[.slice none 0 0, .bool false]))) := by
  have hal : Below w.heap.size w (w.alloc (.cells #[.int .i64 x, .int .i64 y] t)) := (Below.refl _ _).alloc (Nat.le_refl _) _
  have hsz : (w.alloc (.cells #[.int .i64 x, .int .i64 y] t)).heap.size = w.heap.size + 1 := by show (w.heap.push _).size = _; rw [Array.size_push]
  refine (worldWith_any a n cap f _ _ _ _ (two x y) (by omega) _ (hi.below hal (Nat.le_refl _)) (row_two w x y t) (by rw [hsz]; omega)).mono ?_
  rintro e w' ⟨hb, h⟩
  refine ⟨below_alloc_onto hb, ?_⟩
  rcases h with ⟨h1, h2, _, h3⟩ | ⟨h1, h2⟩
  · rw [hsz] at h2 h3; exact .inl ⟨h1, h2, h3⟩
  · exact .inr ⟨h1, h2⟩
theorem quiet_drew {P : Program} {f : FuncId} {args : Array Value} {w : World} {n : Nat} {v : Value}
    (h : Calls P f args (w.drewN n) fun e w' => e = .returned v ∧ Drew (w.drewN n) w') : Calls P f args (w.drewN n) fun e w'' => e = .returned v ∧ ∃ m, w'' = w.drewN m :=
  h.mono fun _ _ ⟨he, m, hm⟩ => ⟨he, n + m, by rw [hm, World.drewN_drewN]⟩
theorem specWorldOk_val (a : Option Addr) (n cap : Nat) (f : Nat → Int) (v : Bool) (w : World) (hv : worldB n f = v) (hi : Ints w a n f) :
    Calls Tryz.prog 121 #[.slice a n cap] w fun e w' => e = .returned (.bool v) ∧ Drew w w' := by
  subst hv; exact specWorldOk_any a n cap f w hi
theorem l1In_val (x l h : Int) (v : Bool) (w : World) (hv : inB l x h = v) :
    Calls Tryz.prog 86 #[.int .i64 x, .int .i64 l, .int .i64 h] w fun e w' => e = .returned (.bool v) ∧ w = w' := by
  subst hv; exact l1In_any x l h w
theorem inB_true {l x h : Int} (h1 : l ≤ x) (h2 : x ≤ h) : inB l x h = true := by
  unfold inB; rw [decide_eq_true h1, decide_eq_true h2]; rfl
theorem inB_false {l x h : Int} (h1 : ¬ (l ≤ x ∧ x ≤ h)) : inB l x h = false := by
  unfold inB
  by_cases h : l ≤ x
  · rw [decide_eq_false (fun h2 => h1 ⟨h, h2⟩)]; simp
  · rw [decide_eq_false h]; rfl
theorem Ints.row {w : World} {n : Nat} {a : Option Addr} {f : Nat → Int} (h : Ints w a n f) (h1 : 1 ≤ n) : ∃ b o, a = some ⟨b, o, none⟩ ∧ b < w.heap.size ∧ Row w b o n f := by
  obtain ⟨_, h | h⟩ := h
  · omega
  · exact h
theorem Ints.i64 {w : World} {n : Nat} {a : Option Addr} {f : Nat → Int} (h : Ints w a n f) : ∀ i, i < n → I64 (f i) := h.1.2
theorem world_of {w : World} {n : Nat} {a : Option Addr} {f : Nat → Int} (h : Ints w a n f) (hw : worldB n f = true) : WorldP n f := (worldB_iff n f h.i64).1 hw
theorem partB_no {n : Nat} {f : Nat → Int} {x y : Int} (h : ¬ (worldB n f = true ∧ (0 ≤ x ∧ x < n) ∧ 0 ≤ y ∧ y < n)) : good2 n f x y = false := by
  cases hg : good2 n f x y with
  | false => rfl
  | true => exact absurd ((good2_iff n f x y).1 hg) h
theorem specPartOk_any (a : Option Addr) (n cap : Nat) (f : Nat → Int) (x y : Int) (w : World) (hi : Ints w a n f) :
    Calls Tryz.prog 127 #[.slice a n cap, .int .i64 x, .int .i64 y] w fun e w' => e = .returned (.bool (partB n f x y)) ∧ Drew w w' := by
  by_cases hw : worldB n f = true
  · obtain ⟨h1, h7⟩ := worldB_7 hw
    have hP := Lib.hid (world_of hi hw)
    have HW := Lib.hid hw; have HN := Lib.hid hi
    by_cases hx : 0 ≤ x ∧ x ≤ (n : Int) - 1
    · obtain ⟨hx0, hx1⟩ := hx
      have HI := Lib.hid (inB_true hx0 hx1)
      by_cases hy : 0 ≤ y ∧ y ≤ (n : Int) - 1
      · obtain ⟨hy0, hy1⟩ := hy
        have HJ := Lib.hid (inB_true hy0 hy1)
        obtain ⟨X, rfl⟩ := Int.eq_ofNat_of_zero_le hx0
        obtain ⟨Y, rfl⟩ := Int.eq_ofNat_of_zero_le hy0
        have hfin : partB n f X Y = hasB (f Y) X := by
          unfold partB; rw [(good2_iff n f X Y).2 ⟨hw, ⟨hx0, by omega⟩, hy0, by omega⟩]; rfl
        obtain ⟨b, o, rfl, hlt, hr⟩ := hi.row h1
        have hc := hr Y (by omega)
        have hnn := (hP.out.rng Y (by omega)).1
        have hX63 : X ≤ 63 := by omega
        have HF := Lib.hid hfin; clear hfin hi hw hx0 hy0
        go_enter Tryz.func127, Tryz.ntmps127
        go_wp2_with fail
        refine (specWorldOk_val _ _ _ f true _ HW.out HN.out).mono ?_
        rintro e w' ⟨rfl, m, rfl⟩
        go_wp2_with fail
        refine (l1In_val _ _ _ true _ HI.out).mono ?_
        rintro e w' ⟨rfl, rfl⟩
        go_wp2_with fail
        refine (l1In_val _ _ _ true _ HJ.out).mono ?_
        rintro e w' ⟨rfl, rfl⟩
        go_wp2_with fail
        refine (l1Has_any _ _ hX63 hnn _).mono ?_
        rintro e w' ⟨rfl, rfl⟩
        go_wp2_with fail
        go_ret
        exact ⟨retb HF.out.symm, _, rfl⟩
      · have hfin : partB n f x y = false := by unfold partB; rw [partB_no (fun h => hy (by omega))]; rfl
        have HJ := Lib.hid (inB_false hy)
        have HF := Lib.hid hfin; clear hfin hi hw hy
        go_enter Tryz.func127, Tryz.ntmps127
        go_wp2_with fail
        refine (specWorldOk_val _ _ _ f true _ HW.out HN.out).mono ?_
        rintro e w' ⟨rfl, m, rfl⟩
        go_wp2_with fail
        refine (l1In_val _ _ _ true _ HI.out).mono ?_
        rintro e w' ⟨rfl, rfl⟩
        go_wp2_with fail
        refine (l1In_val _ _ _ false _ HJ.out).mono ?_
        rintro e w' ⟨rfl, rfl⟩
        go_wp2_with fail
        go_ret
        exact ⟨retb HF.out.symm, _, rfl⟩
    · have hfin : partB n f x y = false := by unfold partB; rw [partB_no (fun h => hx (by omega))]; rfl
      have HI := Lib.hid (inB_false hx)
      have HF := Lib.hid hfin; clear hfin hi hw hx
      go_enter Tryz.func127, Tryz.ntmps127
      go_wp2_with fail
      refine (specWorldOk_val _ _ _ f true _ HW.out HN.out).mono ?_
      rintro e w' ⟨rfl, m, rfl⟩
      go_wp2_with fail
      refine (l1In_val _ _ _ false _ HI.out).mono ?_
      rintro e w' ⟨rfl, rfl⟩
      go_wp2_with fail
      go_ret
      exact ⟨retb HF.out.symm, _, rfl⟩
  · have hw' : worldB n f = false := by simpa using hw
    have hfin : partB n f x y = false := by unfold partB good2; rw [hw']; rfl
    have HF := Lib.hid hfin; have HW := Lib.hid hw'; have HN := Lib.hid hi; clear hfin hw hw' hi
    have hn := HN.out.1.1
    go_enter Tryz.func127, Tryz.ntmps127
    go_wp2_with fail
    refine (specWorldOk_val _ _ _ f false _ HW.out HN.out).mono ?_
    rintro e w' ⟨rfl, m, rfl⟩
    go_wp2_with fail
    go_ret
    exact ⟨retb HF.out.symm, _, rfl⟩
theorem specPartOk_val (a : Option Addr) (n cap : Nat) (f : Nat → Int) (x y : Int) (v : Bool) (w : World) (hv : partB n f x y = v) (hi : Ints w a n f) :
    Calls Tryz.prog 127 #[.slice a n cap, .int .i64 x, .int .i64 y] w fun e w' => e = .returned (.bool v) ∧ Drew w w' := by
  subst hv; exact specPartOk_any a n cap f x y w hi
def setOf (g : Nat → Bool) : Nat → Int
  | 0 => 0
  | k + 1 => if g k then orI (setOf g k) (2 ^ k) else setOf g k
theorem setOf_yes (g : Nat → Bool) (k : Nat) (h : g k = true) : setOf g (k + 1) = bits .or .i64 (setOf g k) (2 ^ k) := by
  rw [setOf, if_pos h]; rfl
theorem setOf_no (g : Nat → Bool) (k : Nat) (h : g k = false) : setOf g (k + 1) = setOf g k := by
  rw [setOf, if_neg (by rw [h]; decide)]
theorem hasB_pow (k i : Nat) : hasB (2 ^ k) i = decide (k = i) := by
  have h1 : ((2 ^ k : Nat) : Int) = 2 ^ k := by simp
  rw [← h1, hasB_nat, Nat.testBit_two_pow]
theorem setOf_I64 (g : Nat → Bool) (k : Nat) : I64 (setOf g k) := by
  induction k with
  | zero => exact I64_zero
  | succ k ih => rw [setOf]; split; exact orI_I64 _ _; exact ih
theorem setOf_bit (g : Nat → Bool) (k i : Nat) (hi : i < 64) : hasB (setOf g k) i = (decide (i < k) && g i) := by
  induction k with
  | zero => rw [setOf, hasB_zero]; simp
  | succ k ih =>
    rw [setOf]
    by_cases hg : g k = true
    · rw [if_pos hg, or_bit _ _ _ hi, ih, hasB_pow]
      by_cases h : k = i
      · subst h; rw [hg]; simp
      · rw [decide_eq_false h, Bool.or_false]
        by_cases h2 : i < k
        · rw [decide_eq_true h2, decide_eq_true (by omega)]
        · rw [decide_eq_false h2, decide_eq_false (by omega)]
    · rw [if_neg hg, ih]
      by_cases h : k = i
      · subst h; simp [hg]
      · by_cases h2 : i < k
        · rw [decide_eq_true h2, decide_eq_true (by omega)]
        · rw [decide_eq_false h2, decide_eq_false (by omega)]
theorem setOf_rng (g : Nat → Bool) (k : Nat) (hk : k ≤ 63) : 0 ≤ setOf g k ∧ setOf g k < 2 ^ k :=
  lt_of_bits _ k hk (setOf_I64 g k) (fun i hi hki => by rw [setOf_bit g k i hi, decide_eq_false (by omega)]; rfl)
theorem setOf_congr {g h : Nat → Bool} (k : Nat) (e : ∀ i, i < k → g i = h i) : setOf g k = setOf h k := by
  induction k with
  | zero => rfl
  | succ k ih => rw [setOf, setOf, ih (fun i hi => e i (by omega)), e k (by omega)]
theorem those_any (K : Nat) (a : Option Addr) (n cap : Nat) (p1 p2 : Value) (g : Nat → Bool) (hn : n ≤ 7) (w : World)
    (hE : ∀ (args : Array Value) (w : World), Sem.run Tryz.prog (callFunc K args) w = .ok (.enter K args) w)
    (hF : Hid (∀ (wr : World) (b : Nat), b < n → Drew w wr → Calls Tryz.prog K #[.int .i64 b, p1, p2] wr fun e w' => e = .returned (.bool (g b)) ∧ Drew wr w')) :
    Calls Tryz.prog 215 #[.slice a n cap, .func (.func K) #[] #[p1, p2]] w fun e w' => e = .returned (.int .i64 (setOf g n)) ∧ Drew w w' := by
  go_enter Tryz.func215, Tryz.ntmps215
  go_wp2_with fail
  go_loopw [5, 9] (fun v i wr => ∃ k : Nat, k ≤ n ∧ i = .int .i64 k ∧ v = .int .i64 (setOf g k) ∧ Drew w wr) (fun _ i _ => n - (intOf i).toNat)
  case atStart => exact ⟨0, Nat.zero_le _, rfl, rfl, Drew.refl w⟩
  case round =>
    obtain ⟨k, hk, rfl, rfl, hd⟩ := hrel
    by_cases hlt : k < n
    · have hk7 : k < 7 := by omega
      have hp := pow_bounds k (by omega)
      obtain ⟨hp1, hp2⟩ := hp
      cases hg : g k with
      | true =>
        have HS := Lib.hid (setOf_yes g k hg); have HG := Lib.hid hg; clear hg
        go_wp2_with fail
        refine (hF.out wr k hlt hd).mono ?_
        rintro e w' ⟨rfl, hd'⟩
        rw [HG.out]
        go_wp2_with fail
        go_roundw
        case rel => exact ⟨k + 1, by omega, by go_num, by rw [HS.out], by obtain ⟨m, rfl⟩ := hd'; exact hd.more m⟩
        case measure => simp [intOf]; omega
      | false =>
        have HS := Lib.hid (setOf_no g k hg); have HG := Lib.hid hg; clear hg
        go_wp2_with fail
        refine (hF.out wr k hlt hd).mono ?_
        rintro e w' ⟨rfl, hd'⟩
        rw [HG.out]
        go_wp2_with fail
        go_roundw
        case rel => exact ⟨k + 1, by omega, by go_num, by rw [HS.out], by obtain ⟨m, rfl⟩ := hd'; exact hd.more m⟩
        case measure => simp [intOf]; omega
    · have hkn : k = n := by omega
      subst hkn
      go_wp2_with fail
      go_ret
      exact ⟨rfl, hd⟩
theorem meetingC_any (bk off n cap p q : Nat) (x b : Nat) (f : Nat → Int) (hx : x < n) (hb : b < n) (w : World) (hr : Row w bk off n f)
    (hp : w.cell? ⟨p, 0, none⟩ = some (.slice (some ⟨bk, off, none⟩) n cap)) (hq : w.cell? ⟨q, 0, none⟩ = some (.int .i64 x)) :
    Calls Tryz.prog 239 #[.int .i64 b, .pointer (some ⟨p, 0, none⟩), .pointer (some ⟨q, 0, none⟩)] w fun e w' => e = .returned (.bool (andI (f x) (f b) != 0)) ∧ Drew w w' := by
  have hc := hr b hb
  have hcx := hr x hx
  go_enter Tryz.func239, Tryz.ntmps239
  go_wp2_with fail
  refine (overlap_any _ _ _ _ _ _ _ _ hx hb _ hcx hc).mono ?_
  rintro e w' ⟨rfl, m, rfl⟩
  go_wp2_with fail
  go_ret
  exact ⟨rfl, _, rfl⟩
theorem two_cells (w : World) (v1 v2 : Value) (t1 t2 : TypeId) :
    ((w.alloc (.cells #[v1] t1)).alloc (.cells #[v2] t2)).cell? ⟨w.heap.size, 0, none⟩ = some v1 ∧ ((w.alloc (.cells #[v1] t1)).alloc (.cells #[v2] t2)).cell? ⟨w.heap.size + 1, 0, none⟩ = some v2 ∧
    Below w.heap.size w ((w.alloc (.cells #[v1] t1)).alloc (.cells #[v2] t2)) := by
  have hsz : (w.alloc (.cells #[v1] t1)).heap.size = w.heap.size + 1 := by show (w.heap.push _).size = _; rw [Array.size_push]
  have hb1 : Below w.heap.size w (w.alloc (.cells #[v1] t1)) := (Below.refl _ _).alloc (Nat.le_refl _) _
  refine ⟨?_, ?_, hb1.alloc (by rw [hsz]; omega) _⟩
  · have := World.rowIs_alloc w #[v1] t1 (fun _ => v1) (by intro i hi; match i, hi with | 0, _ => rfl)
    exact (this.alloc _).cell (Nat.zero_lt_one)
  · have := World.rowIs_alloc (w.alloc (.cells #[v1] t1)) #[v2] t2 (fun _ => v2) (by intro i hi; match i, hi with | 0, _ => rfl)
    rw [hsz] at this
    exact this.cell (Nat.zero_lt_one)
def meetI (n : Nat) (f : Nat → Int) (x : Nat) : Int := setOf (fun b => andI (f x) (f b) != 0) n
theorem meeting_any (bk n cap : Nat) (x : Nat) (f : Nat → Int) (hn : n ≤ 7) (hx : x < n) (w : World) (hr : Row w bk 0 n f) (hlt : bk < w.heap.size) :
    Calls Tryz.prog 222 #[.slice (some ⟨bk, 0, none⟩) n cap, .int .i64 x] w fun e w' => e = .returned (.int .i64 (meetI n f x)) ∧ Below w.heap.size w w' := by
  obtain ⟨hc1, hc2, hbel⟩ := two_cells w (.slice (some ⟨bk, 0, none⟩) n cap) (.int .i64 x) 136 3
  replace hr := hr.below hbel hlt
  have hE : ∀ (args : Array Value) (w : World), Sem.run Tryz.prog (callFunc 239 args) w = .ok (.enter 239 args) w := enters_of Tryz.func239 (by kernel_rfl) rfl
  have H1 := Lib.hid hc1; have H2 := Lib.hid hc2; have HE := Lib.hid hE; clear hc1 hc2 hE
  go_enter Tryz.func222, Tryz.ntmps222
  go_wp2_with fail
  refine (those_any _ _ _ _ _ _ (fun b => andI (f x) (f b) != 0) hn _ HE.out ?_).mono ?_
  · rintro wr b hb ⟨m, rfl⟩
    exact meetingC_any bk 0 n cap _ _ x b f hx hb _ (hr.drewN m) (by rw [World.cell?_drewN]; exact H1.out) (by rw [World.cell?_drewN]; exact H2.out)
  · rintro e w' ⟨rfl, m, rfl⟩
    go_wp2_with fail
    go_ret
    exact ⟨rfl, below_drewN hbel m⟩
def meetB (n : Nat) (f : Nat → Int) (x : Int) : Int := if good1 n f x then meetI n f x.toNat else -1
theorem below_to {w w1 w2 : World} (h : Below w.heap.size w w1) (k : Below w1.heap.size w1 w2) : Below w.heap.size w w2 := h.trans (k.mono h.size)
theorem partB_self (n : Nat) (f : Nat → Int) (x : Int) (h64 : ∀ i, i < n → I64 (f i)) : partB n f x x = good1 n f x := by
  rw [Bool.eq_iff_iff, good1_iff]
  unfold partB
  rw [Bool.and_eq_true, good2_iff]
  constructor
  · rintro ⟨⟨h1, h2, _⟩, _⟩; exact ⟨h1, h2⟩
  · rintro ⟨h1, h2, h3⟩
    exact ⟨⟨h1, ⟨h2, h3⟩, h2, h3⟩, ((worldB_iff n f h64).1 h1).self x.toNat (by omega)⟩
theorem specMeetingSet_any (a : Option Addr) (n cap : Nat) (f : Nat → Int) (x : Int) (w : World) (hi : Ints w a n f) :
    Calls Tryz.prog 125 #[.slice a n cap, .int .i64 x] w fun e w' => e = .returned (.int .i64 (meetB n f x)) ∧ Drew w w' := by
  cases hg : good1 n f x with
  | true =>
    obtain ⟨hwb, hx0, hx1⟩ := (good1_iff n f x).1 hg
    obtain ⟨h1, h7⟩ := worldB_7 hwb
    have hfin : meetB n f x = meetI n f x.toNat := by unfold meetB; rw [if_pos hg]
    have hpp : partB n f x x = true := by rw [partB_self n f x hi.i64]; exact hg
    obtain ⟨X, rfl⟩ := Int.eq_ofNat_of_zero_le hx0
    obtain ⟨b, o, rfl, hlt, hr⟩ := hi.row h1
    have hXn : (X : Int) < (n : Int) := by omega
    have HF := Lib.hid hfin; have HG := Lib.hid hg; have HP := Lib.hid hpp; have HN := Lib.hid hi; clear hfin hg hwb hx0 hpp hi
    go_enter Tryz.func125, Tryz.ntmps125
    go_wp2_with fail
    refine (specPartOk_val _ _ _ f _ _ true _ HP.out HN.out).mono ?_
    rintro e w' ⟨rfl, m0, rfl⟩
    replace hr := hr.drewN m0
    go_wp2_with fail
    go_loopw [5, 6] (fun v i wr => ∃ k : Nat, k ≤ n ∧ i = .int .i64 k ∧ v = .int .i64 (setOf (fun b => andI (f X) (f b) != 0) k) ∧ Row wr b o n f ∧ Drew w wr) (fun _ i _ => n - (intOf i).toNat)
    case atStart => exact ⟨0, Nat.zero_le _, rfl, rfl, hr, _, rfl⟩
    case round =>
      obtain ⟨k, hk, rfl, rfl, hrk, hd⟩ := hrel
      by_cases hlt2 : k < n
      · have hc := hrk k hlt2
        have hcx := hrk X (by omega)
        have hkn : (k : Int) < (n : Int) := by omega
        have ⟨hp1, hp2⟩ := pow_bounds k (by omega)
        cases hb : andI (f X) (f k) != 0 with
        | true =>
          have HS := Lib.hid (setOf_yes (fun b => andI (f X) (f b) != 0) k hb)
          have hbb : (bits .and .i64 (f X) (f k) != 0) = true := hb
          clear hb
          go_wp2_with fail
          go_quiet (fail)
          go_wp2_with fail
          go_roundw
          case rel => exact ⟨k + 1, by omega, by go_num, by rw [HS.out], hrk.drewN _, hd.more _⟩
          case measure => simp [intOf]; omega
        | false =>
          have HS := Lib.hid (setOf_no (fun b => andI (f X) (f b) != 0) k hb)
          have hbb : (bits .and .i64 (f X) (f k) != 0) = false := hb
          clear hb
          go_wp2_with fail
          go_quiet (fail)
          go_wp2_with fail
          go_roundw
          case rel => exact ⟨k + 1, by omega, by go_num, by rw [HS.out], hrk.drewN _, hd.more _⟩
          case measure => simp [intOf]; omega
      · have hkn : k = n := by omega
        subst hkn
        go_wp2_with fail
        go_ret
        exact ⟨reti HF.out.symm, hd⟩
  | false =>
    have hfin : meetB n f x = -1 := by unfold meetB; rw [if_neg (by rw [hg]; decide)]
    have hpp : partB n f x x = false := by rw [partB_self n f x hi.i64]; exact hg
    have HF := Lib.hid hfin; have HP := Lib.hid hpp; have HN := Lib.hid hi; clear hfin hg hpp hi
    have hn := HN.out.1.1
    go_enter Tryz.func125, Tryz.ntmps125
    go_wp2_with fail
    refine (specPartOk_val _ _ _ f _ _ false _ HP.out HN.out).mono ?_
    rintro e w' ⟨rfl, m0, rfl⟩
    go_wp2_with fail
    go_ret
    exact ⟨reti HF.out.symm, _, rfl⟩
end Go.Proofs.YthaickihoagnmaaGreatDoor
namespace Go.Proofs.YthaickihoagnmaaGreatDoor
open Go.RowKit Go.Maps
def okX (x : Int) : Bool := decide (1 ≤ x ∧ x ≤ 15)
theorem okX_iff {x : Int} : okX x = true ↔ 1 ≤ x ∧ x ≤ 15 := by unfold okX; rw [decide_eq_true_eq]
theorem okX_no {x : Int} : okX x = false ↔ ¬ (1 ≤ x ∧ x ≤ 15) := by unfold okX; rw [decide_eq_false_iff_not]
theorem pointsOk_val (x : Int) (v : Bool) (hv : okX x = v) (w : World) :
    Calls Tryz.prog 57 #[.int .i64 x] w fun e w' => e = .returned (.bool v) ∧ w = w' := by
  cases v with
  | true =>
    have h := okX_iff.1 hv
    have h1 : decide (1 ≤ x) = true := decide_eq_true h.1
    have h2 : decide (x < 16) = true := decide_eq_true (by omega)
    clear hv
    go_enter Tryz.func57, Tryz.ntmps57
    go_wp2_with fail
    go_ret
    exact ⟨rfl, rfl⟩
  | false =>
    have h := okX_no.1 hv
    by_cases h1 : 1 ≤ x
    · have h2 : decide (x < 16) = false := decide_eq_false (by omega)
      clear hv h
      have h1 : decide (1 ≤ x) = true := decide_eq_true h1
      go_enter Tryz.func57, Tryz.ntmps57
      go_wp2_with fail
      go_ret
      exact ⟨rfl, rfl⟩
    · have h3 : decide (1 ≤ x) = false := decide_eq_false h1
      clear hv h
      go_enter Tryz.func57, Tryz.ntmps57
      go_wp2_with fail
      go_ret
      exact ⟨rfl, rfl⟩
theorem hasInt_any (x : Int) (a : Nat) (v : Bool) (ha : a ≤ 63) (w : World) (hv : hasB x a = v) :
    Calls Tryz.prog 117 #[.int .i64 x, .int .i64 a] w fun e w' => e = .returned (.bool v) ∧ w = w' := by
  subst hv
  go_enter Tryz.func117, Tryz.ntmps117
  go_wp2
  go_ret
  exact ⟨retb (has_eq x a), rfl⟩
end Go.Proofs.YthaickihoagnmaaGreatDoor
namespace Go.Proofs.YthaickihoagnmaaGreatDoor
def bs (l : List UInt8) : ByteArray := ⟨l.toArray⟩
theorem bs_list (l : List UInt8) : (bs l).toList = l := by unfold bs; exact ByteArray.toList_mk l
theorem bs_data (l : List UInt8) : (bs l).data.toList = l := rfl
theorem bs_size (l : List UInt8) : (bs l).size = l.length := rfl
theorem bs_of (s : ByteArray) : bs s.data.toList = s := rfl
theorem bs_app (a b : List UInt8) : bs a ++ bs b = bs (a ++ b) := ByteArray.mk_append_mk a b
theorem list_inj {a b : ByteArray} (h : a.data.toList = b.data.toList) : a = b := by rw [← bs_of a, ← bs_of b, h]
theorem toList_data' (s : ByteArray) : s.toList = s.data.toList := ByteArray.toList_eq s
def txtL (x : Nat) : List UInt8 := ((List.range 4).filter (fun p => x / 2 ^ p % 2 == 1)).map (fun p => (97 + p).toUInt8)
def letN (l : List UInt8) : Nat := ((if l.contains 97 then 1 else 0) + (if l.contains 98 then 2 else 0)) + ((if l.contains 99 then 4 else 0) + (if l.contains 100 then 8 else 0))
theorem txt_let : (List.range 16).all (fun x => letN (txtL x) == x) = true := by decide +kernel
theorem let_txt {x : Nat} (h : x < 16) : letN (txtL x) = x := by
  have := List.all_eq_true.1 txt_let x (List.mem_range.2 h)
  exact beq_iff_eq.1 this
theorem letN_lt (l : List UInt8) : letN l < 16 := by
  unfold letN
  split <;> split <;> split <;> split <;> omega
theorem txt_ne : (List.range 16).all (fun x => x == 0 || !(txtL x).isEmpty) = true := by decide +kernel
theorem txt_nonempty {x : Nat} (h1 : 1 ≤ x) (h : x < 16) : txtL x ≠ [] := by
  have := List.all_eq_true.1 txt_ne x (List.mem_range.2 h)
  intro e
  rw [e] at this
  simp at this
  omega
theorem txt_len : (List.range 16).all (fun x => decide ((txtL x).length ≤ 4)) = true := by decide +kernel
def setL (x : Int) : List UInt8 := if okX x then txtL x.toNat else []
def setT (x : Int) : ByteArray := bs (setL x)
theorem setL_no {x : Int} (h : okX x = false) : setL x = [] := by unfold setL; rw [if_neg (by rw [h]; decide)]
theorem setL_yes {x : Int} (h : okX x = true) : setL x = txtL x.toNat := by unfold setL; rw [if_pos h]
theorem setL_len (x : Int) : (setL x).length ≤ 4 := by
  cases h : okX x with
  | false => rw [setL_no h]; simp
  | true =>
    rw [setL_yes h]
    have := okX_iff.1 h
    have := List.all_eq_true.1 txt_len x.toNat (List.mem_range.2 (by omega))
    exact of_decide_eq_true this
theorem setL_ne {x : Int} (h : okX x = true) : setL x ≠ [] := by
  rw [setL_yes h]
  have := okX_iff.1 h
  exact txt_nonempty (by omega) (by omega)
def rdN (l : List UInt8) : Nat := if txtL (letN l) = l then letN l else 0
theorem rdN_lt (l : List UInt8) : rdN l < 16 := by
  unfold rdN
  split
  · exact letN_lt l
  · omega
theorem rdN_text {l : List UInt8} (h : rdN l ≠ 0) : txtL (rdN l) = l := by
  unfold rdN at h ⊢
  split
  · assumption
  · rename_i hn; rw [if_neg hn] at h; exact absurd rfl h
theorem rdN_of {x : Nat} (h : x < 16) : rdN (txtL x) = x := by
  unfold rdN
  rw [let_txt h, if_pos rfl]
theorem rdN_let {l : List UInt8} (h1 : letN l ≠ 0) (h : txtL (letN l) = l) : rdN l = letN l := by unfold rdN; rw [if_pos h]
theorem rdN_no {l : List UInt8} (h : txtL (letN l) ≠ l) : rdN l = 0 := by unfold rdN; rw [if_neg h]
theorem rdN_zero {l : List UInt8} (h : letN l = 0) : rdN l = 0 := by
  unfold rdN
  split
  · exact h
  · rfl
theorem rdN_iff {l : List UInt8} {x : Nat} (h1 : 1 ≤ x) (h : x < 16) : txtL x = l ↔ rdN l = x := by
  constructor
  · intro e; rw [← e, rdN_of h]
  · intro e; rw [← e]; exact rdN_text (by omega)
def rdI (l : List UInt8) : Int := if rdN l = 0 then -1 else (rdN l : Int)
def rdB (l : List UInt8) : Bool := rdN l != 0
theorem rd_no {l : List UInt8} (h : rdN l = 0) : rdI l = -1 ∧ rdB l = false := by unfold rdI rdB; rw [h]; exact ⟨rfl, rfl⟩
theorem rd_yes {l : List UInt8} (h : rdN l ≠ 0) : rdI l = (rdN l : Int) ∧ rdB l = true := by
  unfold rdI rdB
  rw [if_neg h]
  exact ⟨rfl, by simpa using h⟩
theorem rd_ok {l : List UInt8} (h : rdB l = true) : okX (rdI l) = true ∧ setL (rdI l) = l := by
  have h0 : rdN l ≠ 0 := by unfold rdB at h; simpa using h
  have hl := rdN_lt l
  have e : okX (rdI l) = true := by rw [(rd_yes h0).1, okX_iff]; omega
  refine ⟨e, ?_⟩
  rw [setL_yes e, (rd_yes h0).1, Int.toNat_natCast]
  exact rdN_text h0
theorem rd_bad {l : List UInt8} (h : rdB l = false) : rdI l = -1 := by
  unfold rdB at h
  have : rdN l = 0 := by simpa using h
  exact (rd_no this).1
theorem rdI_rng (l : List UInt8) : rdI l = -1 ∨ (1 ≤ rdI l ∧ rdI l ≤ 15) := by
  cases h : rdB l with
  | false => exact .inl (rd_bad h)
  | true => exact .inr (okX_iff.1 (rd_ok h).1)
def wordL : Nat → List UInt8
  | 0 => [112, 117, 116]
  | 1 => [116, 97, 107, 101]
  | 2 => [112, 111, 105, 110, 116, 115]
  | 3 => [115, 117, 109, 115]
  | 4 => [98, 97, 99, 107]
  | _ => []
def dOk (k x : Int) : Bool := (decide (0 ≤ k ∧ k ≤ 1) && okX x) || (decide (2 ≤ k ∧ k ≤ 4) && decide (x = 0))
theorem dOk_iff {k x : Int} : dOk k x = true ↔ (0 ≤ k ∧ k ≤ 1 ∧ 1 ≤ x ∧ x ≤ 15) ∨ (2 ≤ k ∧ k ≤ 4 ∧ x = 0) := by
  unfold dOk okX
  simp only [Bool.or_eq_true, Bool.and_eq_true, decide_eq_true_eq]
  omega
def deedL (k x : Int) : List UInt8 := if dOk k x then (if k ≤ 1 then wordL k.toNat ++ 32 :: setL x else wordL k.toNat) else []
def deedT (k x : Int) : ByteArray := bs (deedL k x)
theorem deedL_no {k x : Int} (h : dOk k x = false) : deedL k x = [] := by unfold deedL; rw [if_neg (by rw [h]; decide)]
def deeds : List (Int × Int) := (List.range 15).map (fun i : Nat => ((0 : Int), (i : Int) + 1)) ++ ((List.range 15).map (fun i : Nat => ((1 : Int), (i : Int) + 1)) ++ [(2, 0), (3, 0), (4, 0)])
theorem deeds_mem {k x : Int} : (k, x) ∈ deeds ↔ dOk k x = true := by
  rw [dOk_iff]
  unfold deeds
  simp only [List.mem_append, List.mem_map, List.mem_range, List.mem_cons, Prod.mk.injEq, List.not_mem_nil, or_false]
  constructor
  · rintro (⟨i, hi, rfl, rfl⟩ | ⟨i, hi, rfl, rfl⟩ | ⟨rfl, rfl⟩ | ⟨rfl, rfl⟩ | ⟨rfl, rfl⟩) <;> omega
  · rintro (⟨h1, h2, h3, h4⟩ | ⟨h1, h2, h3⟩)
    · have : k = 0 ∨ k = 1 := by omega
      rcases this with rfl | rfl
      · exact .inl ⟨(x - 1).toNat, by omega, rfl, by omega⟩
      · exact .inr (.inl ⟨(x - 1).toNat, by omega, rfl, by omega⟩)
    · have : k = 2 ∨ k = 3 ∨ k = 4 := by omega
      rcases this with rfl | rfl | rfl
      · exact .inr (.inr (.inl ⟨rfl, h3⟩))
      · exact .inr (.inr (.inr (.inl ⟨rfl, h3⟩)))
      · exact .inr (.inr (.inr (.inr ⟨rfl, h3⟩)))
def rdD (l : List UInt8) : Option (Int × Int) := deeds.find? (fun d => deedL d.1 d.2 == l)
theorem rdD_all : deeds.all (fun d => rdD (deedL d.1 d.2) == some d) = true := by decide +kernel
theorem rdD_of {k x : Int} (h : dOk k x = true) : rdD (deedL k x) = some (k, x) := by
  have := List.all_eq_true.1 rdD_all (k, x) (deeds_mem.2 h)
  exact beq_iff_eq.1 this
theorem rdD_some {l : List UInt8} {k x : Int} (h : rdD l = some (k, x)) : dOk k x = true ∧ deedL k x = l := by
  unfold rdD at h
  have h1 := List.mem_of_find?_eq_some h
  have h2 := List.find?_some h
  exact ⟨deeds_mem.1 h1, by simpa using h2⟩
theorem rdD_none {l : List UInt8} (h : rdD l = none) {k x : Int} (hd : dOk k x = true) : deedL k x ≠ l := by
  intro e
  rw [← e, rdD_of hd] at h
  cases h
theorem deed_ne_all : deeds.all (fun d => !(deedL d.1 d.2).isEmpty && decide ((deedL d.1 d.2).length ≤ 9) && !(deedL d.1 d.2).contains 10) = true := by decide +kernel
theorem deed_facts {k x : Int} (h : dOk k x = true) : deedL k x ≠ [] ∧ (deedL k x).length ≤ 9 ∧ (10 : UInt8) ∉ deedL k x := by
  have := List.all_eq_true.1 deed_ne_all (k, x) (deeds_mem.2 h)
  simp only [Bool.and_eq_true, Bool.not_eq_true', decide_eq_true_eq] at this
  refine ⟨fun e => ?_, this.1.2, fun e => ?_⟩
  · have := this.1.1
    rw [e] at this; cases this
  · have h2 := this.2
    rw [List.contains_iff_mem.2 e] at h2; cases h2
theorem deedL_iff {k x : Int} : deedL k x = [] ↔ dOk k x = false := by
  cases h : dOk k x with
  | true => exact ⟨fun e => absurd e (deed_facts h).1, fun e => by cases e⟩
  | false => exact ⟨fun _ => rfl, fun _ => deedL_no h⟩
theorem rdD_nil : rdD [] = none := by decide +kernel
def cut1 (l : List UInt8) : List UInt8 := if Lib.indexByte l 32 < 0 then l else l.take (Lib.indexByte l 32).toNat
def cut2 (l : List UInt8) : List UInt8 := if Lib.indexByte l 32 < 0 then [] else l.drop ((Lib.indexByte l 32).toNat + 1)
def idxW (l : List UInt8) : Int := if l = wordL 0 then 0 else if l = wordL 1 then 1 else if l = wordL 2 then 2 else if l = wordL 3 then 3 else if l = wordL 4 then 4 else -1
theorem idxW_rng (l : List UInt8) : -1 ≤ idxW l ∧ idxW l ≤ 4 := by
  unfold idxW
  repeat' split
  all_goals omega
def rdX (l : List UInt8) : Int := if rdB l then rdI l else 0
theorem cut_all : deeds.all (fun d => idxW (cut1 (deedL d.1 d.2)) == d.1 && rdX (cut2 (deedL d.1 d.2)) == d.2) = true := by decide +kernel
theorem idxW_nil : idxW (cut1 []) = -1 := by decide +kernel
theorem rdD_parts (l : List UInt8) : (idxW (cut1 l) < 0 ∨ deedL (idxW (cut1 l)) (rdX (cut2 l)) ≠ l) ∧ rdD l = none ∨
    (0 ≤ idxW (cut1 l) ∧ deedL (idxW (cut1 l)) (rdX (cut2 l)) = l ∧ rdD l = some (idxW (cut1 l), rdX (cut2 l))) := by
  cases hr : rdD l with
  | none =>
    refine .inl ⟨?_, rfl⟩
    by_cases h : idxW (cut1 l) < 0
    · exact .inl h
    · right
      intro e
      cases hd : dOk (idxW (cut1 l)) (rdX (cut2 l)) with
      | true => exact rdD_none hr hd e
      | false =>
        rw [deedL_no hd] at e
        rw [← e, idxW_nil] at h
        omega
  | some d =>
    obtain ⟨k, x⟩ := d
    obtain ⟨h1, h2⟩ := rdD_some hr
    have := List.all_eq_true.1 cut_all (k, x) (deeds_mem.2 h1)
    simp only [Bool.and_eq_true, beq_iff_eq, h2] at this
    rw [this.1, this.2]
    have h3 := dOk_iff.1 h1
    exact .inr ⟨by omega, h2, rfl⟩
end Go.Proofs.YthaickihoagnmaaGreatDoor
namespace Go.Proofs.YthaickihoagnmaaGreatDoor
open Go.RowKit
theorem Tryz.infoInt : (Tryz.prog.info? 3).map (fun i => (i.zero, i.size, i.bytes)) = some (some (.int .i64 0), 1, 8) := by kernel_rfl
theorem eqIntS_row (b1 o1 c1 b2 o2 c2 n : Nat) (f : Nat → Int) (hn : n ≤ 1048576) (w : World) (h1 : Row w b1 o1 n f) (h2 : Row w b2 o2 n f) :
    Calls Tryz.prog 92 #[.slice (some ⟨b1, o1, none⟩) n c1, .slice (some ⟨b2, o2, none⟩) n c2] w fun e w' => e = .returned (.bool true) ∧ Drew w w' := by
  have hne : ((n : Int) != (n : Int)) = false := by simp
  go_enter Tryz.func92, Tryz.ntmps92
  go_wp2_with fail
  go_loopw [5] (fun i wr => ∃ k : Nat, k ≤ n ∧ i = .int .i64 k ∧ Row wr b1 o1 n f ∧ Row wr b2 o2 n f ∧ Drew w wr) (fun i _ => n - (intOf i).toNat)
  case atStart => exact ⟨0, Nat.zero_le _, rfl, h1, h2, Drew.refl w⟩
  case round =>
    obtain ⟨k, hk, rfl, h1, h2, hd⟩ := hrel
    by_cases hlt : k < n
    · have hc1 := h1 k hlt
      have hc2 := h2 k hlt
      have hki : (k : Int) < (n : Int) := by omega
      have hne : (f k != f k) = false := by simp
      go_wp2_with fail
      go_quiet (fail)
      go_wp2_with fail
      go_roundw
      case rel => exact ⟨k + 1, by omega, by go_num, h1.drewN _, h2.drewN _, hd.more _⟩
      case measure => simp [intOf]; omega
    · go_wp2_with fail
      go_ret
      exact ⟨rfl, hd⟩
theorem eqIntS_nil (a1 a2 : Option Addr) (c1 c2 : Nat) (w : World) :
    Calls Tryz.prog 92 #[.slice a1 0 c1, .slice a2 0 c2] w fun e w' => e = .returned (.bool true) ∧ Drew w w' := by
  go_enter Tryz.func92, Tryz.ntmps92
  go_wp2_with fail
  go_loopw [5] (fun i wr => i = .int .i64 0 ∧ Drew w wr) (fun i _ => 0)
  case atStart => exact ⟨rfl, Drew.refl w⟩
  case round =>
    obtain ⟨rfl, hd⟩ := hrel
    go_wp2_with fail
    go_ret
    exact ⟨rfl, hd⟩
theorem eqIntS_any (a1 a2 : Option Addr) (c1 c2 n : Nat) (f : Nat → Int) (hn2 : n ≤ 1048576) (w : World) (h1 : Ints w a1 n f) (h2 : Ints w a2 n f) :
    Calls Tryz.prog 92 #[.slice a1 n c1, .slice a2 n c2] w fun e w' => e = .returned (.bool true) ∧ Drew w w' := by
  obtain ⟨_, rfl | ⟨b1, o1, rfl, hl1, hr1⟩⟩ := h1
  · exact eqIntS_nil a1 a2 c1 c2 w
  obtain ⟨_, rfl | ⟨b2, o2, rfl, hl2, hr2⟩⟩ := h2
  · exact eqIntS_nil _ a2 c1 c2 w
  exact eqIntS_row b1 o1 c1 b2 o2 c2 n f hn2 w hr1 hr2
def TrueEnd (w : World) (e : Ending) (w' : World) : Prop := e = .returned (.bool true) ∧ Below w.heap.size w w'
theorem below_onto {w a b : World} (h : Below w.heap.size w a) (k : Below a.heap.size a b) : Below w.heap.size w b := h.trans (k.mono h.size)
theorem Ints.drew {w w' : World} {n : Nat} {a : Option Addr} {f : Nat → Int} (h : Ints w a n f) (hd : Drew w w') : Ints w' a n f := h.below hd.below (Nat.le_refl _)
theorem Ints.next {w w' : World} {n : Nat} {a : Option Addr} {f : Nat → Int} (h : Ints w a n f) (hb : Below w.heap.size w w') : Ints w' a n f := h.below hb (Nat.le_refl _)
theorem ints_of {w : World} {a : Option Addr} {len cap : Nat} {zs : List Int} (h : (a = none ∧ len = 0 ∧ cap = 0 ∧ zs = []) ∨
    ∃ x, a = some x ∧ len ≤ cap ∧ cap ≤ maxLen ∧ zs.length = cap ∧ (∀ i, i < zs.length → w.cell? (x.add i) = some (.int .i64 (zs.getD i 0))) ∧ ∀ n ∈ zs, (Lit.int .i64 n).wf = true) :
    Ints w a len (fun i => zs.getD i 0) := by
  rcases h with ⟨rfl, rfl, rfl, rfl⟩ | ⟨x, rfl, hl, hm, hz, hc, hwf⟩
  · exact ⟨⟨by omega, fun i hi => absurd hi (Nat.not_lt_zero _)⟩, .inl rfl⟩
  · unfold maxLen at hm
    refine ⟨⟨by omega, fun i hi => ?_⟩, ?_⟩
    · have hm : zs.getD i 0 ∈ zs := by
        rw [List.getD_eq_getElem?_getD, List.getElem?_eq_getElem (by omega : i < zs.length)]
        exact List.getElem_mem _
      have := hwf _ hm
      unfold I64
      simp [Lit.wf, IntKind.min, IntKind.max, IntKind.bits, IntKind.signed] at this
      exact this
    · by_cases h0 : len = 0
      · exact .inl h0
      · right
        obtain ⟨b, o, rfl, hcell⟩ := ints_at hc (by omega)
        have h1 := hcell 0 (by omega)
        exact ⟨b, o, rfl, World.block_lt_of_cell? w _ h1, fun i hi => hcell i (by omega)⟩
def eachB (n : Nat) (g : Nat → Nat → Bool) : Bool := decide (∀ a, a < n → ∀ c, c < n → a ≠ c → g a c = true)
def EachEnd (n : Nat) (g : Nat → Nat → Bool) (J : World → Prop) (e : Ending) (w' : World) : Prop := e = .returned (.bool (eachB n g)) ∧ J w'
theorem each2_any (K : Nat) (a : Option Addr) (n cap : Nat) (p1 p2 : Value) (g : Nat → Nat → Bool) (J : World → Prop) (hn : n ≤ 7) (w : World) (hJ : J w)
    (hE : ∀ (args : Array Value) (w : World), Sem.run Tryz.prog (callFunc K args) w = .ok (.enter K args) w)
    (hF : Hid (∀ (wr : World) (a c : Nat), a < n → c < n → J wr → Calls Tryz.prog K #[.int .i64 a, .int .i64 c, p1, p2] wr fun e w' => e = .returned (.bool (g a c)) ∧ J w')) :
    Calls Tryz.prog 208 #[.slice a n cap, .func (.func K) #[] #[p1, p2]] w (fun e w' => EachEnd n g J e w') := by
  have HJ := Lib.hid hJ; clear hJ
  go_enter Tryz.func208, Tryz.ntmps208
  go_wp2_with fail
  go_loopw [9] (fun i wr => ∃ k : Nat, k ≤ n ∧ i = .int .i64 k ∧ Hid (∀ a, a < k → ∀ c, c < n → a ≠ c → g a c = true) ∧ Hid (J wr)) (fun i _ => n - (intOf i).toNat)
  case atStart => exact ⟨0, Nat.zero_le _, rfl, fun a ha => absurd ha (Nat.not_lt_zero _), HJ⟩
  case round =>
    clear HJ
    obtain ⟨k, hk, rfl, hall, hJ⟩ := hrel
    by_cases hlt : k < n
    · go_wp2_with fail
      go_loopw [14] (fun i wr => ∃ j : Nat, j ≤ n ∧ i = .int .i64 j ∧ Hid (∀ c, c < j → k ≠ c → g k c = true) ∧ Hid (J wr)) (fun i _ => n - (intOf i).toNat)
      case atStart => exact ⟨0, Nat.zero_le _, rfl, fun a ha => absurd ha (Nat.not_lt_zero _), hJ⟩
      case round =>
        clear hJ
        obtain ⟨j, hj, rfl, hin, hJ⟩ := hrel
        by_cases hjn : j < n
        · by_cases hkj : k = j
          · subst hkj
            have hne : ((k : Int) != (k : Int)) = false := by simp
            go_wp2_with fail
            go_roundw
            case rel => exact ⟨k + 1, by omega, by go_num, fun c hc hkc => hin c (by omega) hkc, hJ⟩
            case measure => simp [intOf]; omega
          · have hne : ((k : Int) != (j : Int)) = true := by rw [bne_iff_ne]; omega
            cases hg : g k j with
            | true =>
              have HG := Lib.hid hg; clear hg
              go_wp2_with fail
              refine (hF.out _ k j hlt hjn hJ.out).mono ?_
              rintro e w' ⟨rfl, hJ2⟩
              have HJ2 := Lib.hid hJ2; clear hJ2
              rw [HG.out]
              go_wp2_with fail
              go_roundw
              case rel => exact ⟨j + 1, by omega, by go_num, fun c hc hkc => by
                by_cases hcj : c = j
                · subst hcj; exact HG.out
                · exact hin c (by omega) hkc, HJ2⟩
              case measure => simp [intOf]; omega
            | false =>
              have hfin : eachB n g = false := decide_eq_false (fun h => by have := h k hlt j hjn hkj; rw [hg] at this; cases this)
              have HG := Lib.hid hg; have HF := Lib.hid hfin; clear hg hfin
              go_wp2_with fail
              refine (hF.out _ k j hlt hjn hJ.out).mono ?_
              rintro e w' ⟨rfl, hJ2⟩
              have HJ2 := Lib.hid hJ2; clear hJ2
              rw [HG.out]
              go_wp2_with fail
              go_ret
              exact ⟨retb HF.out.symm, HJ2.out⟩
        · go_wp2_with fail
          go_roundw
          case rel => exact ⟨k + 1, by omega, by go_num, fun a ha c hc hac => by
            by_cases hak : a = k
            · subst hak; exact hin c (by omega) hac
            · exact hall a (by omega) c hc hac, hJ⟩
          case measure => simp [intOf]; omega
    · have hfin : eachB n g = true := decide_eq_true (fun a ha c hc hac => hall a (by omega) c hc hac)
      have HF := Lib.hid hfin; clear hfin
      go_wp2_with fail
      go_ret
      exact ⟨retb HF.out.symm, hJ.out⟩
structure Only (rb : Nat) (w w' : World) : Prop where
  os : w'.os = w.os
  tape : w'.tape = w.tape
  output : w'.output = w.output
  size : w.heap.size ≤ w'.heap.size
  block : ∀ k, k < w.heap.size → k ≠ rb → w'.heap[k]? = w.heap[k]?
theorem Only.refl (rb : Nat) (w : World) : Only rb w w := ⟨rfl, rfl, rfl, Nat.le_refl _, fun _ _ _ => rfl⟩
theorem Only.trans {rb : Nat} {a b c : World} (h : Only rb a b) (k : Only rb b c) : Only rb a c :=
  ⟨k.os.trans h.os, k.tape.trans h.tape, k.output.trans h.output, Nat.le_trans h.size k.size, fun i hi hn => (k.block i (Nat.lt_of_lt_of_le hi h.size) hn).trans (h.block i hi hn)⟩
theorem Only.of_below {rb : Nat} {w w' : World} (h : Below w.heap.size w w') : Only rb w w' := ⟨h.os, h.tape, h.output, h.size, fun k hk _ => h.block k hk⟩
theorem Only.below {rb : Nat} {w w' : World} (h : Only rb w w') {B : Nat} (hB : B ≤ rb) (hs : B ≤ w.heap.size) : Below B w w' := ⟨h.os, h.tape, h.output, h.size, fun k hk => h.block k (by omega) (by omega)⟩
theorem Only.setCell {rb : Nat} {w w' : World} (h : Only rb w w') (i : Nat) (v : Value) : Only rb w (w'.setCell ⟨rb, i, none⟩ v) :=
  ⟨h.os, h.tape, h.output, by simp [World.setCell]; exact h.size, fun k hk hn => (Below.heap_setCell w' ⟨rb, i, none⟩ v k hn).trans (h.block k hk hn)⟩
theorem Only.drewN {rb : Nat} {w w' : World} (h : Only rb w w') (n : Nat) : Only rb w (w'.drewN n) :=
  ⟨h.os, h.tape, h.output, h.size, h.block⟩
theorem Row.only {w w' : World} {rb b o n : Nat} {f : Nat → Int} (h : Row w b o n f) (hb : Only rb w w') (hlt : b < w.heap.size) (hne : b ≠ rb) : Row w' b o n f :=
  fun i hi => (World.cell?_of_block (w := w) (hb.block b hlt hne)).trans (h i hi)
theorem alloc_size (w : World) (o : Obj) : (w.alloc o).heap.size = w.heap.size + 1 := by show (w.heap.push _).size = _; rw [Array.size_push]
theorem alloc_below (w : World) (o : Obj) : Below w.heap.size w (w.alloc o) := (Below.refl _ _).alloc (Nat.le_refl _) o
def src (m : Nat) (f : Nat → Int) : List Value := (List.range m).map (fun i => Value.int .i64 (f i))
end Go.Proofs.YthaickihoagnmaaGreatDoor

