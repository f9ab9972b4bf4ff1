import Derived.Test.YtidcfcjmjgcfkaaDoorLeaf
namespace Go.Proofs.YtidcfcjmjgcfkaaDoor
open Go.RowKit

/-- n numbers lie in a row from a cell on -/
def Row (w : World) (b o n : Nat) (f : Nat → Int) : Prop := ∀ i, i < n → w.cell? ⟨b, o + i, none⟩ = some (.int .i64 (f i))

def numB (n : Nat) (f : Nat → Int) : Bool := decide (∀ a, a < n → withinB (f a) (2 ^ n - 1) = true)
def selfB (n : Nat) (f : Nat → Int) : Bool := decide (∀ a, a < n → hasB (f a) a = true)
def orderB (n : Nat) (f : Nat → Int) : Bool := decide (∀ b, b < n → ∀ a, a < b → (hasB (f b) a && hasB (f a) b) = false)
def popB (n : Nat) (f : Nat → Int) : Bool := decide (∀ b, b < n → ∀ a, a < n → hasB (f b) a = true → withinB (f a) (f b) = true)

set_option maxHeartbeats 400000 in
theorem numbersOk_any (bk off n cap : Nat) (f : Nat → Int) (hn : n ≤ 7) (w : World) (hr : Row w bk off n f) :
    Calls Tryd.prog 42 #[.slice (some ⟨bk, off, none⟩) n cap] w fun e w' => e = .returned (.bool (numB n f)) ∧ w = w' := by
  go_enter Tryd.func42, Tryd.ntmps42
  go_wp2
  go_loop [7] (fun i => ∃ k : Nat, k ≤ n ∧ i = .int .i64 k ∧ Hid (∀ a, a < k → withinB (f a) (2 ^ n - 1) = true)) (fun i => n - (intOf i).toNat)
  case atStart => exact ⟨0, Nat.zero_le _, rfl, fun a ha => absurd ha (Nat.not_lt_zero _)⟩
  case round =>
    obtain ⟨k, hk, rfl, hall⟩ := hrel
    by_cases hlt : k < n
    · have hc := hr k hlt
      by_cases hb : withinB (f k) (2 ^ n - 1) = true
      · go_wp2_with (first | (go_at_call 54; refine (all_any _ _ _ hn _).mono ?_; rintro e w' ⟨rfl, rfl⟩) | (go_at_call 53; refine (within_any _ _ _).mono ?_; rintro e w' ⟨rfl, rfl⟩))
        go_round
        case rel => exact ⟨k + 1, by omega, by go_num, fun a ha => by
          by_cases hak : a = k
          · subst hak; exact hb
          · exact hall a (by omega)⟩
        case measure => simp [intOf]; omega
      · have hb' : withinB (f k) (2 ^ n - 1) = false := by simpa using hb
        have hfin : numB n f = false := decide_eq_false (fun h => hb (h k hlt))
        have HF := Lib.hid hfin; clear hfin
        go_wp2_with (first | (go_at_call 54; refine (all_any _ _ _ hn _).mono ?_; rintro e w' ⟨rfl, rfl⟩) | (go_at_call 53; refine (within_any _ _ _).mono ?_; rintro e w' ⟨rfl, rfl⟩))
        go_ret
        exact ⟨retb HF.out.symm, rfl⟩
    · have hfin : numB n f = true := decide_eq_true (fun a ha => hall a (by omega))
      have HF := Lib.hid hfin; clear hfin
      go_wp2
      go_ret
      exact ⟨retb HF.out.symm, rfl⟩

set_option maxHeartbeats 400000 in
theorem itselfOk_any (bk off n cap : Nat) (f : Nat → Int) (hn : n ≤ 7) (w : World) (hr : Row w bk off n f) :
    Calls Tryd.prog 43 #[.slice (some ⟨bk, off, none⟩) n cap] w fun e w' => e = .returned (.bool (selfB n f)) ∧ w = w' := by
  go_enter Tryd.func43, Tryd.ntmps43
  go_wp2
  go_loop [6] (fun i => ∃ k : Nat, k ≤ n ∧ i = .int .i64 k ∧ Hid (∀ a, a < k → hasB (f a) a = true)) (fun i => n - (intOf i).toNat)
  case atStart => exact ⟨0, Nat.zero_le _, rfl, fun a ha => absurd ha (Nat.not_lt_zero _)⟩
  case round =>
    obtain ⟨k, hk, rfl, hall⟩ := hrel
    by_cases hlt : k < n
    · have hc := hr k hlt
      have hk6 : k ≤ 63 := by omega
      by_cases hb : hasB (f k) k = true
      · go_wp2_with (go_at_call 32; refine (part_any _ _ _ _ _ _ _ hlt hk6 _ hc).mono ?_; rintro e w' ⟨rfl, rfl⟩)
        go_round
        case rel => exact ⟨k + 1, by omega, by go_num, fun a ha => by
          by_cases hak : a = k
          · subst hak; exact hb
          · exact hall a (by omega)⟩
        case measure => simp [intOf]; omega
      · have hb' : hasB (f k) k = false := by simpa using hb
        have hfin : selfB n f = false := decide_eq_false (fun h => hb (h k hlt))
        have HF := Lib.hid hfin; clear hfin
        go_wp2_with (go_at_call 32; refine (part_any _ _ _ _ _ _ _ hlt hk6 _ hc).mono ?_; rintro e w' ⟨rfl, rfl⟩)
        go_ret
        exact ⟨retb HF.out.symm, rfl⟩
    · have hfin : selfB n f = true := decide_eq_true (fun a ha => hall a (by omega))
      have HF := Lib.hid hfin; clear hfin
      go_wp2
      go_ret
      exact ⟨retb HF.out.symm, rfl⟩

set_option maxHeartbeats 800000 in
theorem orderOk_any (bk off n cap : Nat) (f : Nat → Int) (hn : n ≤ 7) (w : World) (hr : Row w bk off n f) :
    Calls Tryd.prog 44 #[.slice (some ⟨bk, off, none⟩) n cap] w fun e w' => e = .returned (.bool (orderB n f)) ∧ w = w' := by
  go_enter Tryd.func44, Tryd.ntmps44
  go_wp2
  go_loop [7] (fun i => ∃ k : Nat, k ≤ n ∧ i = .int .i64 k ∧ Hid (∀ b, b < k → ∀ a, a < b → (hasB (f b) a && hasB (f a) b) = false)) (fun i => n - (intOf i).toNat)
  case atStart => exact ⟨0, Nat.zero_le _, rfl, fun a ha => absurd ha (Nat.not_lt_zero _)⟩
  case round =>
    obtain ⟨k, hk, rfl, hall⟩ := hrel
    by_cases hlt : k < n
    · have hc := hr k hlt
      have hk6 : k ≤ 63 := by omega
      go_wp2
      go_loop [11] (fun i => ∃ j : Nat, j ≤ k ∧ i = .int .i64 j ∧ Hid (∀ a, a < j → (hasB (f k) a && hasB (f a) k) = false)) (fun i => k - (intOf i).toNat)
      case atStart => exact ⟨0, Nat.zero_le _, rfl, fun a ha => absurd ha (Nat.not_lt_zero _)⟩
      case round =>
        obtain ⟨j, hj, rfl, hin⟩ := hrel
        by_cases hjk : j < k
        · have hjn : j < n := by omega
          have hj6 : j ≤ 63 := by omega
          have hcj := hr j hjn
          by_cases h1 : hasB (f k) j = true
          · by_cases h2 : hasB (f j) k = true
            · have hfin : orderB n f = false := decide_eq_false (fun h => by have := h k hlt j hjk; rw [h1, h2] at this; cases this)
              have HF := Lib.hid hfin; clear hfin
              go_wp2_with fail
              refine (part_any _ _ _ _ _ _ _ hlt hj6 _ hc).mono ?_
              rintro e w' ⟨rfl, rfl⟩
              go_wp2_with fail
              refine (part_any _ _ _ _ _ _ _ hjn hk6 _ hcj).mono ?_
              rintro e w' ⟨rfl, rfl⟩
              go_wp2_with fail
              go_ret
              exact ⟨retb HF.out.symm, rfl⟩
            · have h2' : hasB (f j) k = false := by simpa using h2
              go_wp2_with fail
              refine (part_any _ _ _ _ _ _ _ hlt hj6 _ hc).mono ?_
              rintro e w' ⟨rfl, rfl⟩
              go_wp2_with fail
              refine (part_any _ _ _ _ _ _ _ hjn hk6 _ hcj).mono ?_
              rintro e w' ⟨rfl, rfl⟩
              go_wp2_with fail
              go_round
              case rel => exact ⟨j + 1, by omega, by go_num, fun a ha => by
                by_cases hak : a = j
                · subst hak; rw [h2']; simp
                · exact hin a (by omega)⟩
              case measure => simp [intOf]; omega
          · have h1' : hasB (f k) j = false := by simpa using h1
            go_wp2_with fail
            refine (part_any _ _ _ _ _ _ _ hlt hj6 _ hc).mono ?_
            rintro e w' ⟨rfl, rfl⟩
            go_wp2_with fail
            go_round
            case rel => exact ⟨j + 1, by omega, by go_num, fun a ha => by
              by_cases hak : a = j
              · subst hak; rw [h1']; simp
              · exact hin a (by omega)⟩
            case measure => simp [intOf]; omega
        · go_wp2
          go_round
          case rel => exact ⟨k + 1, by omega, by go_num, fun b hb a ha => by
            by_cases hak : b = k
            · subst hak; exact hin a (by omega)
            · exact hall b (by omega) a ha⟩
          case measure => simp [intOf]; omega
    · have hfin : orderB n f = true := decide_eq_true (fun b hb a ha => hall b (by omega) a ha)
      have HF := Lib.hid hfin; clear hfin
      go_wp2
      go_ret
      exact ⟨retb HF.out.symm, rfl⟩

set_option maxHeartbeats 800000 in
theorem pop_any (bk off n cap : Nat) (f : Nat → Int) (hn : n ≤ 7) (w : World) (hr : Row w bk off n f) :
    Calls Tryd.prog 45 #[.slice (some ⟨bk, off, none⟩) n cap] w fun e w' => e = .returned (.bool (popB n f)) ∧ w = w' := by
  go_enter Tryd.func45, Tryd.ntmps45
  go_wp2
  go_loop [9] (fun i => ∃ k : Nat, k ≤ n ∧ i = .int .i64 k ∧ Hid (∀ b, b < k → ∀ a, a < n → hasB (f b) a = true → withinB (f a) (f b) = true)) (fun i => n - (intOf i).toNat)
  case atStart => exact ⟨0, Nat.zero_le _, rfl, fun a ha => absurd ha (Nat.not_lt_zero _)⟩
  case round =>
    obtain ⟨k, hk, rfl, hall⟩ := hrel
    by_cases hlt : k < n
    · have hc := hr k hlt
      go_wp2
      go_loop [15] (fun i => ∃ j : Nat, j ≤ n ∧ i = .int .i64 j ∧ Hid (∀ a, a < j → hasB (f k) a = true → withinB (f a) (f k) = true)) (fun i => n - (intOf i).toNat)
      case atStart => exact ⟨0, Nat.zero_le _, rfl, fun a ha => absurd ha (Nat.not_lt_zero _)⟩
      case round =>
        obtain ⟨j, hj, rfl, hin⟩ := hrel
        by_cases hjn : j < n
        · have hj6 : j ≤ 63 := by omega
          have hcj := hr j hjn
          by_cases h1 : hasB (f k) j = true
          · by_cases h2 : withinB (f j) (f k) = true
            · go_wp2_with fail
              refine (has_any _ _ hj6 _).mono ?_
              rintro e w' ⟨rfl, rfl⟩
              go_wp2_with fail
              refine (within_any _ _ _).mono ?_
              rintro e w' ⟨rfl, rfl⟩
              go_wp2_with fail
              go_round
              case rel => exact ⟨j + 1, by omega, by go_num, fun a ha => by
                by_cases hak : a = j
                · subst hak; exact fun _ => h2
                · exact hin a (by omega)⟩
              case measure => simp [intOf]; omega
            · have h2' : withinB (f j) (f k) = false := by simpa using h2
              have hfin : popB n f = false := decide_eq_false (fun h => h2 (h k hlt j hjn h1))
              have HF := Lib.hid hfin; clear hfin
              go_wp2_with fail
              refine (has_any _ _ hj6 _).mono ?_
              rintro e w' ⟨rfl, rfl⟩
              go_wp2_with fail
              refine (within_any _ _ _).mono ?_
              rintro e w' ⟨rfl, rfl⟩
              go_wp2_with fail
              go_ret
              exact ⟨retb HF.out.symm, rfl⟩
          · have h1' : hasB (f k) j = false := by simpa using h1
            go_wp2_with fail
            refine (has_any _ _ hj6 _).mono ?_
            rintro e w' ⟨rfl, rfl⟩
            go_wp2_with fail
            go_round
            case rel => exact ⟨j + 1, by omega, by go_num, fun a ha => by
              by_cases hak : a = j
              · subst hak; exact fun h => absurd h h1
              · exact hin a (by omega)⟩
            case measure => simp [intOf]; omega
        · go_wp2
          go_round
          case rel => exact ⟨k + 1, by omega, by go_num, fun b hb a ha => by
            by_cases hak : b = k
            · subst hak; exact hin a (by omega)
            · exact hall b (by omega) a ha⟩
          case measure => simp [intOf]; omega
    · have hfin : popB n f = true := decide_eq_true (fun b hb a ha => hall b (by omega) a ha)
      have HF := Lib.hid hfin; clear hfin
      go_wp2
      go_ret
      exact ⟨retb HF.out.symm, rfl⟩
end Go.Proofs.YtidcfcjmjgcfkaaDoor
