import Derived.Test.YtacoeaoaabjkoaaGrdC
namespace Go.Proofs.Ytacoeaoaabjkoaa
open Go.RowKit Go.Maps

theorem arE : ∀ (args : Array Value) (w : World), Sem.run Try.prog (callFunc 61 args) w = .ok (.enter 61 args) w :=
  enters_of Try.func61 (by kernel_rfl) rfl

set_option maxRecDepth 100000 in
set_option maxHeartbeats 1600000 in
theorem grown_any (g n cap : Nat) (f : Nat → Int) (x : Int) (hn : n ≤ 7) (w : World) (hr : Row w g 0 n f) (hg : g < w.heap.size) :
    Calls Try.prog 65 #[.func (.func 61) #[.agg #[.int .i64 (2 ^ n - 1), .slice (some ⟨g, 0, none⟩) n cap]] #[], .int .i64 x] w fun e w' => e = .returned (.int .i64 (gwI n f x)) ∧ Below w.heap.size w w' := by
  have hen := arE
  go_enter Try.func65, Try.ntmps65
  go_wp2_with fail
  refine (around_any g n cap f x hn _ hr hg).mono ?_
  rintro e w' ⟨rfl, hb⟩
  go_wp2_with fail
  go_ret
  exact ⟨rfl, hb⟩

set_option maxRecDepth 100000 in
set_option maxHeartbeats 1600000 in
theorem touch_any (g n cap : Nat) (f : Nat → Int) (x y : Int) (hn : n ≤ 7) (w : World) (hr : Row w g 0 n f) (hg : g < w.heap.size) :
    Calls Try.prog 47 #[.func (.func 61) #[.agg #[.int .i64 (2 ^ n - 1), .slice (some ⟨g, 0, none⟩) n cap]] #[], .int .i64 x, .int .i64 y] w fun e w' => e = .returned (.bool (andI (gwI n f x) y != 0)) ∧ Below w.heap.size w w' := by
  go_enter Try.func47, Try.ntmps47
  go_wp2_with fail
  refine (grown_any g n cap f x hn _ hr hg).mono ?_
  rintro e w' ⟨rfl, hb⟩
  go_wp2_with fail
  go_ret
  exact ⟨rfl, hb⟩

/-- aroundOn, behind a slice of one number that the call lays, of two -/
def On1 (n : Nat) (f : Nat → Int) (x : Int) (w : World) (e : Ending) (w' : World) : Prop :=
  Below w.heap.size w w' ∧ ((thingB n f x = true ∧ ∃ g cap, e = .returned (.tuple #[.func (.func 61) #[.agg #[.int .i64 (2 ^ n - 1), .slice (some ⟨g, 0, none⟩) n cap]] #[], .bool true]) ∧ g < w'.heap.size ∧ Row w' g 0 n f)
    ∨ (thingB n f x = false ∧ e = .returned (.tuple #[.nilFunc, .bool false])))
def On2 (n : Nat) (f : Nat → Int) (x y : Int) (w : World) (e : Ending) (w' : World) : Prop :=
  Below w.heap.size w w' ∧ ((thing2B n f x y = true ∧ ∃ g cap, e = .returned (.tuple #[.func (.func 61) #[.agg #[.int .i64 (2 ^ n - 1), .slice (some ⟨g, 0, none⟩) n cap]] #[], .bool true]) ∧ g < w'.heap.size ∧ Row w' g 0 n f)
    ∨ (thing2B n f x y = false ∧ e = .returned (.tuple #[.nilFunc, .bool false])))
theorem on1_any (a : Option Addr) (n cap : Nat) (f : Nat → Int) (x : Int) (hx : I64 x) (w : World) (hi : Ints w a n f) :
    Calls Try.prog 40 #[.slice a n cap, .slice (some ⟨w.heap.size, 0, none⟩) 1 1] (w.alloc (.cells #[.int .i64 x] 3)) (On1 n f x w) := by
  have hal := alloc_below w (.cells #[.int .i64 x] 3)
  refine (aroundOn_any a n cap f (some ⟨w.heap.size, 0, none⟩) 1 1 (one x) (by omega) _ (hi.below hal (Nat.le_refl _)) ⟨⟨by omega, fun _ _ => hx⟩, .inr ⟨_, _, rfl, by rw [alloc_size]; omega, row_one w x _⟩⟩).mono ?_
  rintro e w' ⟨hb, h⟩
  refine ⟨below_alloc_onto hb, ?_⟩
  rw [ths_one] at h
  exact h
theorem on2_any (a : Option Addr) (n cap : Nat) (f : Nat → Int) (x y : Int) (hx : I64 x) (hy : I64 y) (w : World) (hi : Ints w a n f) :
    Calls Try.prog 40 #[.slice a n cap, .slice (some ⟨w.heap.size, 0, none⟩) 2 2] (w.alloc (.cells #[.int .i64 x, .int .i64 y] 3)) (On2 n f x y w) := by
  have hal := alloc_below w (.cells #[.int .i64 x, .int .i64 y] 3)
  refine (aroundOn_any a n cap f (some ⟨w.heap.size, 0, none⟩) 2 2 (two x y) (by omega) _ (hi.below hal (Nat.le_refl _)) ⟨⟨by omega, fun i _ => by unfold two; split <;> assumption⟩, .inr ⟨_, _, rfl, by rw [alloc_size]; omega, row_two w x y _⟩⟩).mono ?_
  rintro e w' ⟨hb, h⟩
  refine ⟨below_alloc_onto hb, ?_⟩
  rw [ths_two] at h
  exact h

set_option maxRecDepth 100000 in
set_option maxHeartbeats 800000 in
theorem ThingOk_any (a : Option Addr) (n cap : Nat) (f : Nat → Int) (x : Int) (hx : I64 x) (w : World) (hi : Ints w a n f) :
    Calls Try.prog 23 #[.slice a n cap, .int .i64 x] w fun e w' => e = .returned (.bool (thingB n f x)) ∧ Below w.heap.size w w' := by
  have HI := Lib.hid hi; have HX := Lib.hid hx; clear hi hx
  go_enter Try.func23, Try.ntmps23
  go_wp2_with fail
  refine (on1_any a n cap f x HX.out w HI.out).mono ?_
  rintro e w' ⟨hb, ⟨hg, g, c9, rfl, _, _⟩ | ⟨hg, rfl⟩⟩
  · have HG := Lib.hid hg; clear hg
    go_wp2_with fail
    go_ret
    exact ⟨retb HG.out.symm, hb⟩
  · have HG := Lib.hid hg; clear hg
    go_wp2_with fail
    go_ret
    exact ⟨retb HG.out.symm, hb⟩

theorem thing2_grd {n : Nat} {f : Nat → Int} {x y : Int} (h : thing2B n f x y = true) : grdB n f = true := by
  unfold thing2B at h; rw [Bool.and_eq_true] at h; exact h.1
theorem thing_grd {n : Nat} {f : Nat → Int} {x : Int} (h : thingB n f x = true) : grdB n f = true := by
  unfold thingB at h; rw [Bool.and_eq_true] at h; exact h.1
theorem thing_rng {n : Nat} {f : Nat → Int} {x : Int} (hx : I64 x) (h : thingB n f x = true) : 1 ≤ x ∧ x < 2 ^ n := by
  have h7 := (grd_7 (thing_grd h)).2
  unfold thingB at h; rw [Bool.and_eq_true] at h
  exact (th_iff h7 hx).1 h.2

set_option maxRecDepth 100000 in
set_option maxHeartbeats 800000 in
theorem TouchOk_any (a : Option Addr) (n cap : Nat) (f : Nat → Int) (x y : Int) (hx : I64 x) (hy : I64 y) (w : World) (hi : Ints w a n f) :
    Calls Try.prog 18 #[.slice a n cap, .int .i64 x, .int .i64 y] w fun e w' => e = .returned (.bool (toB n f x y)) ∧ Below w.heap.size w w' := by
  have HI := Lib.hid hi; have HX := Lib.hid hx; have HY := Lib.hid hy; clear hi hx hy
  go_enter Try.func18, Try.ntmps18
  go_wp2_with fail
  refine (on2_any a n cap f x y HX.out HY.out w HI.out).mono ?_
  rintro e w1 ⟨hb, ⟨hg, g, c9, rfl, hgl, hrow⟩ | ⟨hg, rfl⟩⟩
  · have H7 := Lib.hid (grd_7 (thing2_grd hg)).2
    have HF := Lib.hid (show toB n f x y = (andI (gwI n f x) y != 0) by unfold toB; rw [hg]; rfl); clear hg
    go_wp2_with fail
    refine (touch_any g n c9 f x y H7.out _ hrow hgl).mono ?_
    rintro e w2 ⟨rfl, hb2⟩
    go_wp2_with fail
    go_ret
    exact ⟨retb HF.out.symm, below_onto hb hb2⟩
  · have HF := Lib.hid (show toB n f x y = false by unfold toB; rw [hg]; rfl); clear hg
    go_wp2_with fail
    go_ret
    exact ⟨retb HF.out.symm, hb⟩

set_option maxRecDepth 100000 in
set_option maxHeartbeats 800000 in
theorem OutsideTouch_any (a : Option Addr) (n cap : Nat) (f : Nat → Int) (x y : Int) (hx : I64 x) (hy : I64 y) (w : World) (hi : Ints w a n f) :
    Calls Try.prog 28 #[.slice a n cap, .int .i64 x, .int .i64 y] w fun e w' => e = .returned (.bool (otB n f x y)) ∧ Below w.heap.size w w' := by
  have HI := Lib.hid hi; have HX := Lib.hid hx; have HY := Lib.hid hy; clear hi hx hy
  go_enter Try.func28, Try.ntmps28
  go_wp2_with fail
  refine (TouchOk_any a n cap f x y HX.out HY.out w HI.out).mono ?_
  rintro e w1 ⟨rfl, hb⟩
  cases ht : toB n f x y with
  | true =>
    have HF := Lib.hid (show otB n f x y = (andI x y == 0) by unfold otB; rw [ht]; rfl); clear ht
    go_wp2_with fail
    go_ret
    exact ⟨retb HF.out.symm, hb⟩
  | false =>
    have HF := Lib.hid (show otB n f x y = false by unfold otB; rw [ht]; rfl); clear ht
    go_wp2_with fail
    go_ret
    exact ⟨retb HF.out.symm, hb⟩

end Go.Proofs.Ytacoeaoaabjkoaa
