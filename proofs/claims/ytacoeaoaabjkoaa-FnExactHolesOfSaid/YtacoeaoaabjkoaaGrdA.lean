import Derived.Test.YtacoeaoaabjkoaaGrdM
import Derived.Test.YtacoeaoaabjkoaaDraws
import Derived.Maps.AppendAt
import Derived.Maps.Own
import Derived.Maps.OwnOps
namespace Go.Proofs.Ytacoeaoaabjkoaa
open Go.RowKit Go.Maps

set_option maxHeartbeats 400000 in
theorem hasP_any (x : Int) (a : Nat) (ha : a ≤ 63) (w : World) :
    Calls Try.prog 73 #[.int .i64 x, .int .i64 a] w fun e w' => e = .returned (.bool (hasB x a)) ∧ w = w' := by
  go_enter Try.func73, Try.ntmps73
  go_wp2
  go_ret
  exact ⟨retb (has_eq x a), rfl⟩
theorem hasP_val (x : Int) (a : Nat) (v : Bool) (ha : a ≤ 63) (w : World) (hv : hasB x a = v) :
    Calls Try.prog 73 #[.int .i64 x, .int .i64 a] w fun e w' => e = .returned (.bool v) ∧ w = w' := by
  subst hv; exact hasP_any x a ha w

set_option maxHeartbeats 400000 in
theorem withinP_any (x y : Int) (w : World) :
    Calls Try.prog 60 #[.int .i64 x, .int .i64 y] w fun e w' => e = .returned (.bool (withinB x y)) ∧ w = w' := by
  go_enter Try.func60, Try.ntmps60
  go_wp2
  go_ret
  exact ⟨rfl, rfl⟩
theorem withinP_val (x y : Int) (v : Bool) (w : World) (hv : withinB x y = v) :
    Calls Try.prog 60 #[.int .i64 x, .int .i64 y] w fun e w' => e = .returned (.bool v) ∧ w = w' := by
  subst hv; exact withinP_any x y w

theorem cell2_new (w : World) (v1 v2 : Value) (t : TypeId) :
    (w.alloc (.cells #[v1, v2] t)).cell? ⟨w.heap.size, 0, none⟩ = some v1 ∧ (w.alloc (.cells #[v1, v2] t)).cell? ⟨w.heap.size, 1, none⟩ = some v2 ∧ w.heap.size < (w.alloc (.cells #[v1, v2] t)).heap.size := by
  have h := World.rowIs_alloc w #[v1, v2] t (fun i => if i = 0 then v1 else v2) (by
    intro i hi
    match i, hi with
    | 0, _ => rfl
    | 1, _ => rfl)
  exact ⟨h.cell (i := 0) (by show 0 < 2; omega), h.cell (i := 1) (by show 1 < 2; omega), by rw [alloc_size]; omega⟩

/-- a ground, as a value -/
def gdV (n g cap : Nat) : Value := .agg #[.int .i64 (2 ^ n - 1), .slice (some ⟨g, 0, none⟩) n cap]

set_option maxRecDepth 100000 in
set_option maxHeartbeats 1600000 in
theorem around_any (g n cap : Nat) (f : Nat → Int) (x : Int) (hn : n ≤ 7) (w : World) (hr : Row w g 0 n f) (hg : g < w.heap.size) :
    Calls Try.prog 61 #[.agg #[.int .i64 (2 ^ n - 1), .slice (some ⟨g, 0, none⟩) n cap], .int .i64 x] w fun e w' => e = .returned (.int .i64 (arI f x n)) ∧ Below w.heap.size w w' := by
  go_enter Try.func61, Try.ntmps61
  go_wp2_with fail
  have hrow := hr.below (alloc_below w (.cells #[.int .i64 (2 ^ n - 1), .slice (some ⟨g, 0, none⟩) n cap] 55)) hg
  have hb := alloc_below w (.cells #[.int .i64 (2 ^ n - 1), .slice (some ⟨g, 0, none⟩) n cap] 55)
  have HR := Lib.hid hrow; have HB := Lib.hid hb
  clear hr hrow hb
  obtain ⟨w2, hw2⟩ : ∃ w2, w.alloc (.cells #[.int .i64 (2 ^ n - 1), .slice (some ⟨g, 0, none⟩) n cap] 55) = w2 := ⟨_, rfl⟩
  rw [hw2] at HR HB ⊢
  go_loopw [5, 11] (fun v i wr => ∃ k : Nat, k ≤ n ∧ i = .int .i64 k ∧ v = .int .i64 (arI f x k) ∧ w2 = wr) (fun _ i _ => n - (intOf i).toNat)
  case atStart => exact ⟨0, Nat.zero_le _, rfl, rfl, rfl⟩
  case round =>
    obtain ⟨k, hk, rfl, rfl, rfl⟩ := hrel
    by_cases hlt : k < n
    · have hc := HR.out k hlt
      rw [Nat.zero_add] at hc
      have hki : (k : Int) < (n : Int) := by omega
      have hk6 : k ≤ 63 := by omega
      cases hg : hasB x k with
      | true =>
        have HS := Lib.hid (arI_yes (f := f) hg); have HG := Lib.hid hg; clear hg
        go_wp2_with fail
        refine (hasP_val _ _ true hk6 _ HG.out).mono ?_
        rintro e w' ⟨rfl, rfl⟩
        go_wp2_with fail
        go_roundw
        case rel => exact ⟨k + 1, by omega, by go_num, by rw [HS.out], by first | rfl | trivial⟩
        case measure => simp [intOf]; omega
      | false =>
        have HS := Lib.hid (arI_no (f := f) hg); have HG := Lib.hid hg; clear hg
        go_wp2_with fail
        refine (hasP_val _ _ false hk6 _ HG.out).mono ?_
        rintro e w' ⟨rfl, rfl⟩
        go_wp2_with fail
        go_roundw
        case rel => exact ⟨k + 1, by omega, by go_num, by rw [HS.out], by first | rfl | trivial⟩
        case measure => simp [intOf]; omega
    · have hki : ¬ (k : Int) < (n : Int) := by omega
      have hkn : k = n := by omega
      subst hkn
      go_wp2_with fail
      go_ret
      exact ⟨rfl, HB.out⟩

set_option maxRecDepth 100000 in
set_option maxHeartbeats 1600000 in
theorem gnumbersOk_any (g n cap : Nat) (f : Nat → Int) (hn : n ≤ 7) (w : World) (hr : Row w g 0 n f) (hg : g < w.heap.size) :
    Calls Try.prog 71 #[.agg #[.int .i64 (2 ^ n - 1), .slice (some ⟨g, 0, none⟩) n cap]] w fun e w' => e = .returned (.bool (gnumB n f)) ∧ Below w.heap.size w w' := by
  have hrow := hr.below (alloc_below w (.cells #[.int .i64 (2 ^ n - 1), .slice (some ⟨g, 0, none⟩) n cap] 55)) hg
  have hb := alloc_below w (.cells #[.int .i64 (2 ^ n - 1), .slice (some ⟨g, 0, none⟩) n cap] 55)
  have hcell := cell2_new w (.int .i64 (2 ^ n - 1)) (.slice (some ⟨g, 0, none⟩) n cap) 55
  go_enter Try.func71, Try.ntmps71
  go_wp2_with fail
  have HR := Lib.hid hrow; have HB := Lib.hid hb; have HC := Lib.hid hcell
  clear hr hrow hb hcell
  obtain ⟨w2, hw2⟩ : ∃ w2, w.alloc (.cells #[.int .i64 (2 ^ n - 1), .slice (some ⟨g, 0, none⟩) n cap] 55) = w2 := ⟨_, rfl⟩
  rw [hw2] at HR HB HC ⊢
  go_loopw [8] (fun i wr => ∃ k : Nat, k ≤ n ∧ i = .int .i64 k ∧ Hid (∀ a, a < k → withinB (f a) (2 ^ n - 1) = true ∧ hasB (f a) a = false) ∧ w2 = wr) (fun i _ => n - (intOf i).toNat)
  case atStart => exact ⟨0, Nat.zero_le _, rfl, (fun a ha => absurd ha (Nat.not_lt_zero _)), rfl⟩
  case round =>
    obtain ⟨k, hk, rfl, hall, rfl⟩ := hrel
    by_cases hlt : k < n
    · have hc := HR.out k hlt
      rw [Nat.zero_add] at hc
      have hca := HC.out.1
      have hki : (k : Int) < (n : Int) := by omega
      have hk6 : k ≤ 63 := by omega
      cases hwi : withinB (f k) (2 ^ n - 1) with
      | true =>
        have HW := Lib.hid hwi; clear hwi
        cases hh : hasB (f k) k with
        | true =>
          have HF := Lib.hid (show gnumB n f = false from decide_eq_false (fun h => by have := (h k hlt).2; rw [hh] at this; cases this))
          have HH := Lib.hid hh; clear hh
          go_wp2_with fail
          refine (withinP_val _ _ true _ HW.out).mono ?_
          rintro e w' ⟨rfl, rfl⟩
          go_wp2_with fail
          refine (hasP_val _ _ true hk6 _ HH.out).mono ?_
          rintro e w' ⟨rfl, rfl⟩
          go_wp2_with fail
          go_ret
          exact ⟨retb HF.out.symm, HB.out⟩
        | false =>
          have HH := Lib.hid hh; clear hh
          go_wp2_with fail
          refine (withinP_val _ _ true _ HW.out).mono ?_
          rintro e w' ⟨rfl, rfl⟩
          go_wp2_with fail
          refine (hasP_val _ _ false hk6 _ HH.out).mono ?_
          rintro e w' ⟨rfl, rfl⟩
          go_wp2_with fail
          go_roundw
          case rel => exact ⟨k + 1, by omega, by go_num, (fun a ha => by
            by_cases hak : a = k
            · subst hak; exact ⟨HW.out, HH.out⟩
            · exact hall a (by omega)), by first | rfl | trivial⟩
          case measure => simp [intOf]; omega
      | false =>
        have HF := Lib.hid (show gnumB n f = false from decide_eq_false (fun h => by have := (h k hlt).1; rw [hwi] at this; cases this))
        have HW := Lib.hid hwi; clear hwi
        go_wp2_with fail
        refine (withinP_val _ _ false _ HW.out).mono ?_
        rintro e w' ⟨rfl, rfl⟩
        go_wp2_with fail
        go_ret
        exact ⟨retb HF.out.symm, HB.out⟩
    · have hki : ¬ (k : Int) < (n : Int) := by omega
      have HF := Lib.hid (show gnumB n f = true from decide_eq_true (fun a ha => hall a (by omega)))
      go_wp2_with fail
      go_ret
      exact ⟨retb HF.out.symm, HB.out⟩

set_option maxRecDepth 100000 in
set_option maxHeartbeats 1600000 in
theorem bothWaysOk_any (g n cap : Nat) (f : Nat → Int) (hn : n ≤ 7) (w : World) (hr : Row w g 0 n f) (hg : g < w.heap.size) :
    Calls Try.prog 72 #[.agg #[.int .i64 (2 ^ n - 1), .slice (some ⟨g, 0, none⟩) n cap]] w fun e w' => e = .returned (.bool (gsymB n f)) ∧ Below w.heap.size w w' := by
  have hrow := hr.below (alloc_below w (.cells #[.int .i64 (2 ^ n - 1), .slice (some ⟨g, 0, none⟩) n cap] 55)) hg
  have hb := alloc_below w (.cells #[.int .i64 (2 ^ n - 1), .slice (some ⟨g, 0, none⟩) n cap] 55)
  have hcell := cell2_new w (.int .i64 (2 ^ n - 1)) (.slice (some ⟨g, 0, none⟩) n cap) 55
  go_enter Try.func72, Try.ntmps72
  go_wp2_with fail
  have HR := Lib.hid hrow; have HB := Lib.hid hb; have HC := Lib.hid hcell
  clear hr hrow hb hcell
  obtain ⟨w2, hw2⟩ : ∃ w2, w.alloc (.cells #[.int .i64 (2 ^ n - 1), .slice (some ⟨g, 0, none⟩) n cap] 55) = w2 := ⟨_, rfl⟩
  rw [hw2] at HR HB HC ⊢
  go_loopw [8] (fun i wr => ∃ k : Nat, k ≤ n ∧ i = .int .i64 k ∧ Hid (∀ b, b < k → ∀ a, a < b → hasB (f a) b = hasB (f b) a) ∧ Drew w2 wr) (fun i _ => n - (intOf i).toNat)
  case atStart => exact ⟨0, Nat.zero_le _, rfl, (fun a ha => absurd ha (Nat.not_lt_zero _)), Drew.refl _⟩
  case round =>
    obtain ⟨k, hk, rfl, hall, hd⟩ := hrel
    by_cases hlt : k < n
    · have hki : (k : Int) < (n : Int) := by omega
      go_wp2_with fail
      go_loopw [12] (fun i wr => ∃ j : Nat, j ≤ k ∧ i = .int .i64 j ∧ Hid (∀ a, a < j → hasB (f a) k = hasB (f k) a) ∧ Drew w2 wr) (fun i _ => k - (intOf i).toNat)
      case atStart => exact ⟨0, Nat.zero_le _, rfl, (fun a ha => absurd ha (Nat.not_lt_zero _)), hd⟩
      case round =>
        clear hd
        obtain ⟨j, hj, rfl, hin, hd⟩ := hrel
        by_cases hjk : j < k
        · have hjki : (j : Int) < (k : Int) := by omega
          have hjni : (j : Int) < (n : Int) := by omega
          have hk6 : k ≤ 63 := by omega
          have hj6 : j ≤ 63 := by omega
          have hr2 := HR.out.drew hd
          have hck := hr2 k hlt
          have hcj := hr2 j (by omega)
          rw [Nat.zero_add] at hck hcj
          have hcell := (hd.below.cell (p := ⟨w.heap.size, 1, none⟩) HC.out.2.2).trans HC.out.2.1
          clear hr2
          cases hne : (hasB (f j) k != hasB (f k) j) with
          | false =>
            have hne2 : (!(hasB (f j) k == hasB (f k) j)) = false := hne
            have HE := Lib.hid (show hasB (f j) k = hasB (f k) j from bne_eq_false_iff_eq.1 hne)
            go_wp2_with fail
            go_quiet ((go_at_call 73; exact quiet_left (hasP_any _ _ (by assumption) _)))
            go_wp2_with fail
            go_roundw
            case rel => exact ⟨j + 1, by omega, by go_num, (fun a ha => by
              by_cases haj : a = j
              · subst haj; exact HE.out
              · exact hin a (by omega)), hd.more _⟩
            case measure => simp [intOf]; omega
          | true =>
            have hne2 : (!(hasB (f j) k == hasB (f k) j)) = true := hne
            have HF := Lib.hid (show gsymB n f = false from decide_eq_false (fun h => by rw [h k hlt j hjk] at hne; simp at hne))
            go_wp2_with fail
            go_quiet ((go_at_call 73; exact quiet_left (hasP_any _ _ (by assumption) _)))
            go_wp2_with fail
            go_ret
            exact ⟨retb HF.out.symm, below_onto HB.out (hd.more _).below⟩
        · go_wp2_with fail
          go_roundw
          case rel => exact ⟨k + 1, by omega, by go_num, (fun b hb a ha => by
            by_cases hak : b = k
            · subst hak; exact hin a (by omega)
            · exact hall b (by omega) a ha), hd⟩
          case measure => simp [intOf]; omega
    · have hki : ¬ (k : Int) < (n : Int) := by omega
      have HF := Lib.hid (show gsymB n f = true from decide_eq_true (fun a ha => hall a (by omega)))
      go_wp2_with fail
      go_ret
      exact ⟨retb HF.out.symm, below_onto HB.out hd.below⟩
end Go.Proofs.Ytacoeaoaabjkoaa
