import Derived.Test.YtidcfcjmjgcfkaaDoorWorldB
namespace Go.Proofs.YtidcfcjmjgcfkaaDoor
open Go.RowKit

theorem quiet_left {P : Program} {f : FuncId} {args : Array Value} {w : World} {n : Nat} {v : Value}
    (h : Calls P f args (w.drewN n) fun e w' => e = .returned v ∧ w.drewN n = w') : Calls P f args (w.drewN n) fun e w'' => e = .returned v ∧ ∃ m, w'' = w.drewN m :=
  h.mono fun _ _ ⟨he, hm⟩ => ⟨he, n, hm.symm⟩

/-- only draws lie between -/
def Drew (w w' : World) : Prop := ∃ m, w' = w.drewN m
theorem Drew.refl (w : World) : Drew w w := ⟨0, rfl⟩
theorem Drew.more {w w' : World} (h : Drew w w') (n : Nat) : Drew w (w'.drewN n) := by
  obtain ⟨m, rfl⟩ := h; exact ⟨m + n, by rw [World.drewN_drewN]⟩
theorem Drew.below {w w' : World} (h : Drew w w') : Below w.heap.size w w' := by
  obtain ⟨m, rfl⟩ := h; exact below_drewN (Below.refl _ _) m
theorem Row.drewN {w : World} {b o n : Nat} {f : Nat → Int} (h : Row w b o n f) (m : Nat) : Row (w.drewN m) b o n f :=
  fun i hi => by rw [World.cell?_drewN]; exact h i hi

theorem l1Has_val (x : Int) (a : Nat) (v : Bool) (w : World) (hv : hasB x a = v) (ha : a ≤ 63) (hx : 0 ≤ x) :
    Calls Tryd.prog 24 #[.int .i64 x, .int .i64 a] w fun e w' => e = .returned (.bool v) ∧ w = w' := by
  subst hv; exact l1Has_any x a ha hx w

def rngB (n : Nat) (f : Nat → Int) : Bool := decide (∀ a, a < n → inB 0 (f a) (2 ^ n - 1) = true ∧ hasB (f a) a = true)
def ordB (n : Nat) (f : Nat → Int) : Bool := decide (∀ a, a < n → ∀ b, b < n → hasB (f a) b = true → orI (f a) (f b) = f a ∧ (a ≠ b → hasB (f b) a = false))

theorem pow_bounds (n : Nat) (h : n ≤ 7) : (1 : Int) ≤ 2 ^ n ∧ (2 : Int) ^ n ≤ 128 := by
  match n, h with
  | 0, _ | 1, _ | 2, _ | 3, _ | 4, _ | 5, _ | 6, _ | 7, _ => decide

set_option maxHeartbeats 800000 in
theorem specWorldOk_no (a : Option Addr) (n cap : Nat) (h : n < 1 ∨ 7 < n) (hmax : n ≤ 9223372036854775807) (w : World) :
    Calls Tryd.prog 23 #[.slice a n cap] w fun e w' => e = .returned (.bool false) ∧ w = w' := by
  have hin : inB 1 n 7 = false := by
    unfold inB
    rcases h with h | h
    · rw [decide_eq_false (show ¬ (1 : Int) ≤ (n : Int) by omega)]; rfl
    · rw [decide_eq_false (show ¬ (n : Int) ≤ 7 by omega)]; simp
  go_enter Tryd.func23, Tryd.ntmps23
  go_wp2_with fail
  refine (l1In_any _ _ _ _).mono ?_
  rintro e w' ⟨rfl, rfl⟩
  go_wp2_with fail
  go_ret
  exact ⟨rfl, rfl⟩

set_option maxHeartbeats 4000000 in
theorem specWorldOk_in (bk off n cap : Nat) (f : Nat → Int) (h1 : 1 ≤ n) (hn : n ≤ 7) (hi64 : ∀ i, i < n → I64 (f i)) (w : World) (hr : Row w bk off n f) :
    Calls Tryd.prog 23 #[.slice (some ⟨bk, off, none⟩) n cap] w fun e w' => e = .returned (.bool (rngB n f && ordB n f)) ∧ Drew w w' := by
  have hin : inB 1 n 7 = true := by
    unfold inB
    rw [decide_eq_true (show (1 : Int) ≤ (n : Int) by omega), decide_eq_true (show (n : Int) ≤ 7 by omega)]; rfl
  have ⟨hp1, hp2⟩ := pow_bounds n hn
  have hi64' := Lib.hid hi64; clear hi64
  have hi64 := hi64'; clear hi64'
  go_enter Tryd.func23, Tryd.ntmps23
  go_wp2_with fail
  refine (l1In_any _ _ _ _).mono ?_
  rintro e w' ⟨rfl, rfl⟩
  go_wp2_with fail
  go_loopw [3] (fun i wr => ∃ k : Nat, k ≤ n ∧ i = .int .i64 k ∧ Row wr bk off n f ∧ Drew w wr ∧ Hid (∀ a, a < k → inB 0 (f a) (2 ^ n - 1) = true ∧ hasB (f a) a = true)) (fun i _ => n - (intOf i).toNat)
  case atStart => exact ⟨0, Nat.zero_le _, rfl, hr, Drew.refl w, fun a ha => absurd ha (Nat.not_lt_zero _)⟩
  case round =>
    obtain ⟨k, hk, rfl, hrow, hdr, hall⟩ := hrel
    by_cases hlt : k < n
    · have hc := hrow k hlt
      have hki : (k : Int) < (n : Int) := by omega
      by_cases c1 : inB 0 (f k) (2 ^ n - 1) = true
      · have hx : 0 ≤ f k := by unfold inB at c1; simp at c1; exact c1.1
        have hk6 : k ≤ 63 := by omega
        by_cases c2 : hasB (f k) k = true
        · go_wp2_with fail
          go_quiet (first | (go_at_call 41; exact quiet_left (l1In_any _ _ _ _)) | (go_at_call 24; exact quiet_left (l1Has_any _ _ hk6 hx _)))
          go_wp2_with fail
          go_roundw
          case rel => exact ⟨k + 1, by omega, by go_num, hrow.drewN _, hdr.more _, fun a ha => by
            by_cases hak : a = k
            · subst hak; exact ⟨c1, c2⟩
            · exact hall a (by omega)⟩
          case measure => simp [intOf]; omega
        · have c2' : hasB (f k) k = false := by simpa using c2
          have hfin : (rngB n f && ordB n f) = false := by
            have : rngB n f = false := decide_eq_false (fun h => c2 (h k hlt).2)
            rw [this]; rfl
          have HF := Lib.hid hfin; clear hfin
          go_wp2_with fail
          go_quiet (first | (go_at_call 41; exact quiet_left (l1In_any _ _ _ _)) | (go_at_call 24; exact quiet_left (l1Has_any _ _ (by omega) (by omega) _)))
          go_wp2_with fail
          go_ret
          exact ⟨retb HF.out.symm, hdr.more _⟩
      · have c1' : inB 0 (f k) (2 ^ n - 1) = false := by simpa using c1
        have hfin : (rngB n f && ordB n f) = false := by
          have : rngB n f = false := decide_eq_false (fun h => c1 (h k hlt).1)
          rw [this]; rfl
        have HF := Lib.hid hfin; clear hfin
        go_wp2_with fail
        go_quiet (first | (go_at_call 41; exact quiet_left (l1In_any _ _ _ _)) | (go_at_call 24; exact quiet_left (l1Has_any _ _ (by omega) (by omega) _)))
        go_wp2_with fail
        go_ret
        exact ⟨retb HF.out.symm, hdr.more _⟩
    · have hrng : rngB n f = true := decide_eq_true (fun a ha => hall a (by omega))
      have HR := Lib.hid hrng; clear hrng
      have H0 : Hid (∀ a, a < n → 0 ≤ f a) := fun a ha => by
        have := (hall a (by omega)).1
        unfold inB at this; simp at this; exact this.1
      clear hall
      obtain ⟨wo, rfl⟩ : ∃ wo : World, wo = wr := ⟨_, rfl⟩
      go_wp2_with fail
      clear hlt hk
      go_loopw [4] (fun i wr => ∃ k : Nat, k ≤ n ∧ i = .int .i64 k ∧ Row wr bk off n f ∧ Drew w wr ∧ Hid (∀ a, a < k → ∀ b, b < n → hasB (f a) b = true → orI (f a) (f b) = f a ∧ (a ≠ b → hasB (f b) a = false))) (fun i _ => n - (intOf i).toNat)
      case atStart => exact ⟨0, Nat.zero_le _, rfl, hrow, hdr, fun a ha => absurd ha (Nat.not_lt_zero _)⟩
      case round =>
        clear hrow hdr
        obtain ⟨k, hk, rfl, hrow, hdr, hall⟩ := hrel
        by_cases hlt : k < n
        · have hc := hrow k hlt
          have hx : 0 ≤ f k := H0.out k hlt
          have hk7 : k < 7 := by omega
          go_wp2_with fail
          go_loopw [5] (fun i wr => ∃ j : Nat, j ≤ n ∧ i = .int .i64 j ∧ Row wr bk off n f ∧ Drew w wr ∧ Hid (∀ b, b < j → hasB (f k) b = true → orI (f k) (f b) = f k ∧ (k ≠ b → hasB (f b) k = false))) (fun i _ => n - (intOf i).toNat)
          case atStart => exact ⟨0, Nat.zero_le _, rfl, hrow, hdr, fun a ha => absurd ha (Nat.not_lt_zero _)⟩
          case round =>
            clear hc
            obtain ⟨j, hj, rfl, hri, hdi, hin⟩ := hrel
            by_cases hjn : j < n
            · have hj7 : j < 7 := by omega
              have hck := hri k hlt
              have hki : (k : Int) < (n : Int) := by omega
              have hji : (j : Int) < (n : Int) := by omega
              by_cases h1 : hasB (f k) j = true
              · by_cases hkj : k = j
                · subst hkj
                  have hkk : ((k : Int) != (k : Int)) = false := by simp
                  have hoo : orI (f k) (f k) = f k := (or_eq_iff (f k) (f k) (hi64.out k hlt)).2 (fun _ _ h => h)
                  have hor : (bits .or .i64 (f k) (f k) != f k) = false := by rw [bne_eq_false_iff_eq]; exact hoo
                  have HO := Lib.hid hoo; clear hoo
                  go_wp2_with fail
                  go_quiet ((go_at_call 24; first | (refine quiet_left (l1Has_val _ _ true _ ?_ ?_ ?_); assumption; omega; omega) | (refine quiet_left (l1Has_val _ _ false _ ?_ ?_ ?_); assumption; omega; omega)))
                  go_wp2_with fail
                  go_roundw
                  case rel => exact ⟨k + 1, by omega, by go_num, hri.drewN _, hdi.more _, fun b hb => by
                    by_cases hbj : b = k
                    · subst hbj; exact fun _ => ⟨HO.out, fun h => absurd rfl h⟩
                    · exact hin b (by omega)⟩
                  case measure => simp [intOf]; omega
                · have hcj := hri j hjn
                  have hxj : 0 ≤ f j := H0.out j hjn
                  have hne : ((k : Int) != (j : Int)) = true := by rw [bne_iff_ne]; omega
                  by_cases h2 : bits .or .i64 (f k) (f j) = f k
                  · have hor : (bits .or .i64 (f k) (f j) != f k) = false := by rw [bne_eq_false_iff_eq]; exact h2
                    have H2 := Lib.hid h2; clear h2
                    by_cases h3 : hasB (f j) k = true
                    · have hfin : (rngB n f && ordB n f) = false := by
                        have : ordB n f = false := decide_eq_false (fun h => by have := (h k hlt j hjn h1).2 hkj; rw [h3] at this; cases this)
                        rw [this]; simp
                      have HF := Lib.hid hfin; clear hfin
                      go_wp2_with fail
                      go_quiet ((go_at_call 24; first | (refine quiet_left (l1Has_val _ _ true _ ?_ ?_ ?_); assumption; omega; omega) | (refine quiet_left (l1Has_val _ _ false _ ?_ ?_ ?_); assumption; omega; omega)))
                      go_wp2_with fail
                      go_ret
                      exact ⟨retb HF.out.symm, hdi.more _⟩
                    · have h3' : hasB (f j) k = false := by simpa using h3
                      clear h3
                      go_wp2_with fail
                      go_quiet ((go_at_call 24; first | (refine quiet_left (l1Has_val _ _ true _ ?_ ?_ ?_); assumption; omega; omega) | (refine quiet_left (l1Has_val _ _ false _ ?_ ?_ ?_); assumption; omega; omega)))
                      go_wp2_with fail
                      go_roundw
                      case rel => exact ⟨j + 1, by omega, by go_num, hri.drewN _, hdi.more _, fun b hb => by
                        by_cases hbj : b = j
                        · subst hbj; exact fun _ => ⟨H2.out, fun _ => h3'⟩
                        · exact hin b (by omega)⟩
                      case measure => simp [intOf]; omega
                  · have hor : (bits .or .i64 (f k) (f j) != f k) = true := by rw [bne_iff_ne]; exact h2
                    have H2 := Lib.hid h2; clear h2
                    have hfin : (rngB n f && ordB n f) = false := by
                      have : ordB n f = false := decide_eq_false (fun h => by exact H2.out (h k hlt j hjn h1).1)
                      rw [this]; simp
                    have HF := Lib.hid hfin; clear hfin
                    go_wp2_with fail
                    go_quiet ((go_at_call 24; first | (refine quiet_left (l1Has_val _ _ true _ ?_ ?_ ?_); assumption; omega; omega) | (refine quiet_left (l1Has_val _ _ false _ ?_ ?_ ?_); assumption; omega; omega)))
                    go_wp2_with fail
                    go_ret
                    exact ⟨retb HF.out.symm, hdi.more _⟩
              · have h1' : hasB (f k) j = false := by simpa using h1
                have H1 := Lib.hid h1; clear h1
                go_wp2_with fail
                go_quiet ((go_at_call 24; first | (refine quiet_left (l1Has_val _ _ true _ ?_ ?_ ?_); assumption; omega; omega) | (refine quiet_left (l1Has_val _ _ false _ ?_ ?_ ?_); assumption; omega; omega)))
                go_wp2_with fail
                go_roundw
                case rel => exact ⟨j + 1, by omega, by go_num, hri.drewN _, hdi.more _, fun b hb => by
                  by_cases hbj : b = j
                  · subst hbj; exact fun h => absurd h H1.out
                  · exact hin b (by omega)⟩
                case measure => simp [intOf]; omega
            · go_wp2_with fail
              go_roundw
              case rel => exact ⟨k + 1, by omega, by go_num, hri, hdi, fun a ha => by
                by_cases hak : a = k
                · subst hak; exact fun b hb => hin b (by omega)
                · exact hall a (by omega)⟩
              case measure => simp [intOf]; omega
        · have hfin : (rngB n f && ordB n f) = true := by
            rw [HR.out, show ordB n f = true from decide_eq_true (fun a ha => hall a (by omega))]; rfl
          have HF := Lib.hid hfin; clear hfin
          go_wp2_with fail
          go_ret
          exact ⟨retb HF.out.symm, hdr⟩
end Go.Proofs.YtidcfcjmjgcfkaaDoor
