import Derived.Test.YtacoeaoaabjkoaaGrdM
import Derived.Test.YtacoeaoaabjkoaaDraws
namespace Go.Proofs.Ytacoeaoaabjkoaa
open Go.RowKit

set_option maxRecDepth 100000 in
set_option maxHeartbeats 800000 in
theorem specGroundOk_no (a : Option Addr) (n cap : Nat) (h : n < 1 ∨ 7 < n) (hmax : n ≤ 9223372036854775807) (w : World) :
    Calls Try.prog 44 #[.slice a n cap] w fun e w' => e = .returned (.bool false) ∧ w = w' := by
  have hin : inB 1 n 7 = false := by
    unfold inB
    rcases h with h | h
    · rw [decide_eq_false (show ¬ (1 : Int) ≤ (n : Int) by omega)]; rfl
    · rw [decide_eq_false (show ¬ (n : Int) ≤ 7 by omega)]; simp
  go_enter Try.func44, Try.ntmps44
  go_wp2_with fail
  refine (l1In_any _ _ _ _).mono ?_
  rintro e w' ⟨rfl, rfl⟩
  go_wp2_with fail
  go_ret
  exact ⟨rfl, rfl⟩

set_option maxRecDepth 100000 in
set_option maxHeartbeats 4000000 in
theorem specGroundOk_in (bk off n cap : Nat) (f : Nat → Int) (h1 : 1 ≤ n) (hn : n ≤ 7) (w : World) (hr : Row w bk off n f) :
    Calls Try.prog 44 #[.slice (some ⟨bk, off, none⟩) n cap] w fun e w' => e = .returned (.bool (hnumB n f && hsymB n f)) ∧ Drew w w' := by
  have hin : inB 1 n 7 = true := by
    unfold inB
    rw [decide_eq_true (show (1 : Int) ≤ (n : Int) by omega), decide_eq_true (show (n : Int) ≤ 7 by omega)]; rfl
  have ⟨hp1, hp2⟩ := pow_bounds n hn
  go_enter Try.func44, Try.ntmps44
  go_wp2_with fail
  refine (l1In_any _ _ _ _).mono ?_
  rintro e w' ⟨rfl, rfl⟩
  go_wp2_with fail
  go_loopw [4] (fun i wr => ∃ k : Nat, k ≤ n ∧ i = .int .i64 k ∧ Row wr bk off n f ∧ Drew w wr ∧ Hid (∀ a, a < k → inB 0 (f a) (2 ^ n - 1) = true ∧ hasB (f a) a = false)) (fun i _ => n - (intOf i).toNat)
  case atStart => exact ⟨0, Nat.zero_le _, rfl, hr, Drew.refl w, fun a ha => absurd ha (Nat.not_lt_zero _)⟩
  case round =>
    obtain ⟨k, hk, rfl, hrow, hdr, hall⟩ := hrel
    by_cases hlt : k < n
    · have hc := hrow k hlt
      have hki : (k : Int) < (n : Int) := by omega
      by_cases c1 : inB 0 (f k) (2 ^ n - 1) = true
      · have hx : 0 ≤ f k := by unfold inB at c1; simp at c1; exact c1.1
        have hk6 : k ≤ 63 := by omega
        by_cases c2 : hasB (f k) k = true
        · have hfin : (hnumB n f && hsymB n f) = false := by
            have : hnumB n f = false := decide_eq_false (fun h => by have := (h k hlt).2; rw [c2] at this; cases this)
            rw [this]; rfl
          have HF := Lib.hid hfin; clear hfin
          go_wp2_with fail
          go_quiet (first | (go_at_call 45; exact quiet_left (l1In_any _ _ _ _)) | (go_at_call 42; exact quiet_left (l1Has_any _ _ hk6 hx _)))
          go_wp2_with fail
          go_ret
          exact ⟨retb HF.out.symm, hdr.more _⟩
        · have c2' : hasB (f k) k = false := by simpa using c2
          clear c2
          go_wp2_with fail
          go_quiet (first | (go_at_call 45; exact quiet_left (l1In_any _ _ _ _)) | (go_at_call 42; exact quiet_left (l1Has_any _ _ hk6 hx _)))
          go_wp2_with fail
          go_roundw
          case rel => exact ⟨k + 1, by omega, by go_num, hrow.drewN _, hdr.more _, fun a ha => by
            by_cases hak : a = k
            · subst hak; exact ⟨c1, c2'⟩
            · exact hall a (by omega)⟩
          case measure => simp [intOf]; omega
      · have c1' : inB 0 (f k) (2 ^ n - 1) = false := by simpa using c1
        have hfin : (hnumB n f && hsymB n f) = false := by
          have : hnumB n f = false := decide_eq_false (fun h => c1 (h k hlt).1)
          rw [this]; rfl
        have HF := Lib.hid hfin; clear hfin c1
        go_wp2_with fail
        go_quiet (first | (go_at_call 45; exact quiet_left (l1In_any _ _ _ _)) | (go_at_call 42; exact quiet_left (l1Has_any _ _ (by omega) (by omega) _)))
        go_wp2_with fail
        go_ret
        exact ⟨retb HF.out.symm, hdr.more _⟩
    · have hrng : hnumB n f = true := decide_eq_true (fun a ha => hall a (by omega))
      have HR := Lib.hid hrng; clear hrng
      have H0 : Hid (∀ a, a < n → 0 ≤ f a) := fun a ha => by
        have := (hall a (by omega)).1
        unfold inB at this; simp at this; exact this.1
      clear hall
      go_wp2_with fail
      clear hlt hk
      go_loopw [5] (fun i wr => ∃ k : Nat, k ≤ n ∧ i = .int .i64 k ∧ Row wr bk off n f ∧ Drew w wr ∧ Hid (∀ a, a < k → ∀ b, b < n → hasB (f a) b = hasB (f b) a)) (fun i _ => n - (intOf i).toNat)
      case atStart => exact ⟨0, Nat.zero_le _, rfl, hrow, hdr, fun a ha => absurd ha (Nat.not_lt_zero _)⟩
      case round =>
        clear hrow hdr
        obtain ⟨k, hk, rfl, hrow, hdr, hall⟩ := hrel
        by_cases hlt : k < n
        · have hki : (k : Int) < (n : Int) := by omega
          go_wp2_with fail
          go_loopw [6] (fun i wr => ∃ j : Nat, j ≤ n ∧ i = .int .i64 j ∧ Row wr bk off n f ∧ Drew w wr ∧ Hid (∀ b, b < j → hasB (f k) b = hasB (f b) k)) (fun i _ => n - (intOf i).toNat)
          case atStart => exact ⟨0, Nat.zero_le _, rfl, hrow, hdr, fun a ha => absurd ha (Nat.not_lt_zero _)⟩
          case round =>
            clear hrow hdr
            obtain ⟨j, hj, rfl, hrow, hdr, hin⟩ := hrel
            by_cases hjn : j < n
            · have hji : (j : Int) < (n : Int) := by omega
              have hck := hrow k hlt
              have hcj := hrow j hjn
              have hx : 0 ≤ f k := H0.out k hlt
              have hy : 0 ≤ f j := H0.out j hjn
              have hk6 : k ≤ 63 := by omega
              have hj6 : j ≤ 63 := by omega
              cases hne : (hasB (f k) j != hasB (f j) k) with
              | false =>
                have hne2 : (!(hasB (f k) j == hasB (f j) k)) = false := hne
                have HE := Lib.hid (show hasB (f k) j = hasB (f j) k from bne_eq_false_iff_eq.1 hne)
                go_wp2_with fail
                go_quiet ((go_at_call 42; exact quiet_left (l1Has_any _ _ (by assumption) (by assumption) _)))
                go_wp2_with fail
                go_roundw
                case rel => exact ⟨j + 1, by omega, by go_num, hrow.drewN _, hdr.more _, (fun b hb => by
                  by_cases hbj : b = j
                  · subst hbj; exact HE.out
                  · exact hin b (by omega))⟩
                case measure => simp [intOf]; omega
              | true =>
                have hne2 : (!(hasB (f k) j == hasB (f j) k)) = true := hne
                have HF := Lib.hid (show (hnumB n f && hsymB n f) = false by
                  rw [show hsymB n f = false from decide_eq_false (fun h => by rw [h k hlt j hjn] at hne; simp at hne)]; simp)
                go_wp2_with fail
                go_quiet ((go_at_call 42; exact quiet_left (l1Has_any _ _ (by assumption) (by assumption) _)))
                go_wp2_with fail
                go_ret
                exact ⟨retb HF.out.symm, hdr.more _⟩
            · have hji : ¬ (j : Int) < (n : Int) := by omega
              go_wp2_with fail
              go_roundw
              case rel => exact ⟨k + 1, by omega, by go_num, hrow, hdr, (fun a ha b hb => by
                by_cases hak : a = k
                · subst hak; exact hin b (by omega)
                · exact hall a (by omega) b hb)⟩
              case measure => simp [intOf]; omega
        · have hki : ¬ (k : Int) < (n : Int) := by omega
          have HF := Lib.hid (show (hnumB n f && hsymB n f) = true by
            rw [HR.out, show hsymB n f = true from decide_eq_true (fun a ha => hall a (by omega))]; rfl)
          go_wp2_with fail
          go_ret
          exact ⟨retb HF.out.symm, hdr⟩

theorem specGroundOk_any (a : Option Addr) (n cap : Nat) (f : Nat → Int) (w : World) (hi : Ints w a n f) :
    Calls Try.prog 44 #[.slice a n cap] w fun e w' => e = .returned (.bool (grdB n f)) ∧ Drew w w' := by
  obtain ⟨⟨hm, h64⟩, hi⟩ := hi
  by_cases h : n < 1 ∨ 7 < n
  · refine (specGroundOk_no a n cap h hm w).mono ?_
    rintro e w' ⟨rfl, rfl⟩
    exact ⟨retb (show false = grdB n f by unfold grdB; rw [decide_eq_false (by omega)]; rfl), Drew.refl _⟩
  · rcases hi with hi | ⟨b, o, rfl, hlt, hr⟩
    · omega
    · rw [← grd_spec (by omega) (by omega) h64]
      exact specGroundOk_in b o n cap f (by omega) (by omega) w hr

theorem specGroundOk_val (a : Option Addr) (n cap : Nat) (f : Nat → Int) (v : Bool) (w : World) (hv : grdB n f = v) (hi : Ints w a n f) :
    Calls Try.prog 44 #[.slice a n cap] w fun e w' => e = .returned (.bool v) ∧ Drew w w' := by
  subst hv; exact specGroundOk_any a n cap f w hi

set_option maxRecDepth 100000 in
set_option maxHeartbeats 1600000 in
theorem l8Around_any (bk off n cap : Nat) (f : Nat → Int) (x : Int) (h0 : 0 ≤ x) (hn : n ≤ 7) (w : World) (hr : Row w bk off n f) :
    Calls Try.prog 63 #[.slice (some ⟨bk, off, none⟩) n cap, .int .i64 x] w fun e w' => e = .returned (.int .i64 (arS f x n)) ∧ w = w' := by
  go_enter Try.func63, Try.ntmps63
  go_wp2_with fail
  go_loopw [5, 6] (fun v i wr => ∃ k : Nat, k ≤ n ∧ i = .int .i64 k ∧ v = .int .i64 (arS f x k) ∧ w = wr) (fun _ i _ => n - (intOf i).toNat)
  case atStart => exact ⟨0, Nat.zero_le _, rfl, rfl, rfl⟩
  case round =>
    obtain ⟨k, hk, rfl, rfl, rfl⟩ := hrel
    by_cases hlt : k < n
    · have hc := hr k hlt
      have hki : (k : Int) < (n : Int) := by omega
      have hk6 : k ≤ 63 := by omega
      cases hg : hasB x k with
      | true =>
        have HS := Lib.hid (arS_yes (f := f) hg); have HG := Lib.hid hg; clear hg
        go_wp2_with fail
        refine (l1Has_val _ _ true _ HG.out hk6 h0).mono ?_
        rintro e w' ⟨rfl, rfl⟩
        go_wp2_with fail
        go_roundw
        case rel => exact ⟨k + 1, by omega, by go_num, by rw [HS.out], by first | rfl | trivial⟩
        case measure => simp [intOf]; omega
      | false =>
        have HS := Lib.hid (arS_no (f := f) hg); have HG := Lib.hid hg; clear hg
        go_wp2_with fail
        refine (l1Has_val _ _ false _ HG.out hk6 h0).mono ?_
        rintro e w' ⟨rfl, rfl⟩
        go_wp2_with fail
        go_roundw
        case rel => exact ⟨k + 1, by omega, by go_num, by rw [HS.out], by first | rfl | trivial⟩
        case measure => simp [intOf]; omega
    · have hki : ¬ (k : Int) < (n : Int) := by omega
      have hkn : k = n := by omega
      subst hkn
      go_wp2_with fail
      go_ret
      exact ⟨rfl, rfl⟩

/-- of a thing: all its places and their neighbours -/
theorem l8Around_thing (a : Option Addr) (n cap : Nat) (f : Nat → Int) (x : Int) (hx : I64 x) (ht : thingB n f x = true) (w : World) (hi : Ints w a n f) :
    Calls Try.prog 63 #[.slice a n cap, .int .i64 x] w fun e w' => e = .returned (.int .i64 (gwI n f x)) ∧ w = w' := by
  have hg := ht
  unfold thingB at hg
  rw [Bool.and_eq_true] at hg
  have h17 := grd_7 hg.1
  have hr := (th_iff h17.2 hx).1 hg.2
  obtain ⟨b, o, rfl, _, hrow⟩ := hi.row h17.1
  unfold gwI
  rw [← arS_eq f hx n]
  exact l8Around_any b o n cap f x (by omega) h17.2 w hrow

set_option maxRecDepth 100000 in
set_option maxHeartbeats 800000 in
theorem specThingOk_any (a : Option Addr) (n cap : Nat) (f : Nat → Int) (x : Int) (hx : I64 x) (w : World) (hi : Ints w a n f) :
    Calls Try.prog 16 #[.slice a n cap, .int .i64 x] w fun e w' => e = .returned (.bool (thingB n f x)) ∧ Drew w w' := by
  cases hg : grdB n f with
  | true =>
    have h17 := grd_7 hg
    obtain ⟨hp1, hp2⟩ := pow_bounds n h17.2
    have HF := Lib.hid (show thingB n f x = inB 1 x (2 ^ n - 1) by
      unfold thingB; rw [hg, Bool.true_and, Bool.eq_iff_iff, th_iff h17.2 hx, inB_in]; omega)
    obtain ⟨h1, h7⟩ := h17
    have HG := Lib.hid hg; clear hg
    go_enter Try.func16, Try.ntmps16
    go_wp2_with fail
    refine (specGroundOk_val a n cap f true _ HG.out hi).mono ?_
    rintro e w1 ⟨rfl, hd⟩
    go_wp2_with fail
    refine (l1In_any _ _ _ _).mono ?_
    rintro e w' ⟨rfl, rfl⟩
    go_wp2_with fail
    go_ret
    exact ⟨retb HF.out.symm, hd⟩
  | false =>
    have HF := Lib.hid (show thingB n f x = false by unfold thingB; rw [hg]; rfl)
    have HG := Lib.hid hg; clear hg
    go_enter Try.func16, Try.ntmps16
    go_wp2_with fail
    refine (specGroundOk_val a n cap f false _ HG.out hi).mono ?_
    rintro e w1 ⟨rfl, hd⟩
    go_wp2_with fail
    go_ret
    exact ⟨retb HF.out.symm, hd⟩

theorem specThingOk_val (a : Option Addr) (n cap : Nat) (f : Nat → Int) (x : Int) (v : Bool) (hx : I64 x) (w : World) (hv : thingB n f x = v) (hi : Ints w a n f) :
    Calls Try.prog 16 #[.slice a n cap, .int .i64 x] w fun e w' => e = .returned (.bool v) ∧ Drew w w' := by
  subst hv; exact specThingOk_any a n cap f x hx w hi

theorem Drew.on2 {a b c : World} (h : Drew a b) (k : Drew b c) : Drew a c := by obtain ⟨m, rfl⟩ := k; exact h.more m

end Go.Proofs.Ytacoeaoaabjkoaa
