import Derived.Test.YtncgcopdpoaagaaGrdC
namespace Go.Proofs.Ytncgcopdpoaagaa
open Go.RowKit Go.Maps

theorem arE : ∀ (args : Array Value) (w : World), Sem.run Try.prog (callFunc 58 args) w = .ok (.enter 58 args) w :=
  enters_of Try.func58 (by kernel_rfl) rfl

set_option maxRecDepth 100000 in
set_option maxHeartbeats 1600000 in
theorem grown_any (g n cap : Nat) (f : Nat → Int) (x : Int) (hn : n ≤ 7) (w : World) (hr : Row w g 0 n f) (hg : g < w.heap.size) :
    Calls Try.prog 54 #[.func (.func 58) #[.agg #[.int .i64 (2 ^ n - 1), .slice (some ⟨g, 0, none⟩) n cap]] #[], .int .i64 x] w fun e w' => e = .returned (.int .i64 (gwI n f x)) ∧ Below w.heap.size w w' := by
  have hen := arE
  go_enter Try.func54, Try.ntmps54
  go_wp2_with fail
  refine (around_any g n cap f x hn _ hr hg).mono ?_
  rintro e w' ⟨rfl, hb⟩
  go_wp2_with fail
  go_ret
  exact ⟨rfl, hb⟩

set_option maxRecDepth 100000 in
set_option maxHeartbeats 1600000 in
theorem touch_any (g n cap : Nat) (f : Nat → Int) (x y : Int) (hn : n ≤ 7) (w : World) (hr : Row w g 0 n f) (hg : g < w.heap.size) :
    Calls Try.prog 51 #[.func (.func 58) #[.agg #[.int .i64 (2 ^ n - 1), .slice (some ⟨g, 0, none⟩) n cap]] #[], .int .i64 x, .int .i64 y] w fun e w' => e = .returned (.bool (andI (gwI n f x) y != 0)) ∧ Below w.heap.size w w' := by
  go_enter Try.func51, Try.ntmps51
  go_wp2_with fail
  refine (grown_any g n cap f x hn _ hr hg).mono ?_
  rintro e w' ⟨rfl, hb⟩
  go_wp2_with fail
  go_ret
  exact ⟨rfl, hb⟩

set_option maxRecDepth 100000 in
set_option maxHeartbeats 1600000 in
theorem border_any (g n cap : Nat) (f : Nat → Int) (x : Int) (hP : GrdP n f) (hx : 0 ≤ x ∧ x < 2 ^ n) (h64 : I64 x) (w : World) (hr : Row w g 0 n f) (hg : g < w.heap.size) :
    Calls Try.prog 55 #[.func (.func 58) #[.agg #[.int .i64 (2 ^ n - 1), .slice (some ⟨g, 0, none⟩) n cap]] #[], .int .i64 x] w fun e w' => e = .returned (.int .i64 (boI n f x)) ∧ Below w.heap.size w w' := by
  have hen := arE
  have HP := Lib.hid hP; have HX := Lib.hid hx; have H64 := Lib.hid h64
  clear hP hx h64
  go_enter Try.func55, Try.ntmps55
  go_wp2_with fail
  refine (around_any g n cap f _ HP.out.hi _ hr hg).mono ?_
  rintro e w' ⟨rfl, hb⟩
  go_wp2_with fail
  go_ret
  refine ⟨reti (bo_eq HP.out HX.out H64.out ?_), hb⟩
  intro i hi
  rw [xor_bit _ _ _ hi, hasB_ones i hi]
  cases hasB x i <;> rfl

set_option maxRecDepth 100000 in
set_option maxHeartbeats 800000 in
theorem GroundOk_any (a : Option Addr) (n cap : Nat) (f : Nat → Int) (w : World) (hi : Ints w a n f) :
    Calls Try.prog 18 #[.slice a n cap] w fun e w' => e = .returned (.bool (grdB n f)) ∧ Below w.heap.size w w' := by
  have hz : Ints w none 0 (fun _ => 0) := ⟨⟨by omega, fun i hi => absurd hi (Nat.not_lt_zero _)⟩, .inl rfl⟩
  have HT := Lib.hid (ths_zero n (fun _ => 0))
  have HI := Lib.hid hi; have HZ := Lib.hid hz; clear hi hz
  go_enter Try.func18, Try.ntmps18
  go_wp2_with fail
  refine (aroundOn_any a n cap f none 0 0 (fun _ => 0) (by omega) w HI.out HZ.out).mono ?_
  rintro e w' ⟨hb, h⟩
  rw [HT.out, Bool.and_true] at h
  rcases h with ⟨hg, g, c9, rfl, _, _⟩ | ⟨hg, rfl⟩
  · have HG := Lib.hid hg; clear hg
    go_wp2_with fail
    go_ret
    exact ⟨retb HG.out.symm, hb⟩
  · have HG := Lib.hid hg; clear hg
    go_wp2_with fail
    go_ret
    exact ⟨retb HG.out.symm, hb⟩

/-- aroundOn, behind a slice of one number that the call lays, of two -/
def On1 (n : Nat) (f : Nat → Int) (x : Int) (w : World) (e : Ending) (w' : World) : Prop :=
  Below w.heap.size w w' ∧ ((thingB n f x = true ∧ ∃ g cap, e = .returned (.tuple #[.func (.func 58) #[.agg #[.int .i64 (2 ^ n - 1), .slice (some ⟨g, 0, none⟩) n cap]] #[], .bool true]) ∧ g < w'.heap.size ∧ Row w' g 0 n f)
    ∨ (thingB n f x = false ∧ e = .returned (.tuple #[.nilFunc, .bool false])))
def On2 (n : Nat) (f : Nat → Int) (x y : Int) (w : World) (e : Ending) (w' : World) : Prop :=
  Below w.heap.size w w' ∧ ((thing2B n f x y = true ∧ ∃ g cap, e = .returned (.tuple #[.func (.func 58) #[.agg #[.int .i64 (2 ^ n - 1), .slice (some ⟨g, 0, none⟩) n cap]] #[], .bool true]) ∧ g < w'.heap.size ∧ Row w' g 0 n f)
    ∨ (thing2B n f x y = false ∧ e = .returned (.tuple #[.nilFunc, .bool false])))
theorem on1_any (a : Option Addr) (n cap : Nat) (f : Nat → Int) (x : Int) (hx : I64 x) (w : World) (hi : Ints w a n f) :
    Calls Try.prog 44 #[.slice a n cap, .slice (some ⟨w.heap.size, 0, none⟩) 1 1] (w.alloc (.cells #[.int .i64 x] 3)) (On1 n f x w) := by
  have hal := alloc_below w (.cells #[.int .i64 x] 3)
  refine (aroundOn_any a n cap f (some ⟨w.heap.size, 0, none⟩) 1 1 (one x) (by omega) _ (hi.below hal (Nat.le_refl _)) ⟨⟨by omega, fun _ _ => hx⟩, .inr ⟨_, _, rfl, by rw [alloc_size]; omega, row_one w x _⟩⟩).mono ?_
  rintro e w' ⟨hb, h⟩
  refine ⟨below_alloc_onto hb, ?_⟩
  rw [ths_one] at h
  exact h
theorem on2_any (a : Option Addr) (n cap : Nat) (f : Nat → Int) (x y : Int) (hx : I64 x) (hy : I64 y) (w : World) (hi : Ints w a n f) :
    Calls Try.prog 44 #[.slice a n cap, .slice (some ⟨w.heap.size, 0, none⟩) 2 2] (w.alloc (.cells #[.int .i64 x, .int .i64 y] 3)) (On2 n f x y w) := by
  have hal := alloc_below w (.cells #[.int .i64 x, .int .i64 y] 3)
  refine (aroundOn_any a n cap f (some ⟨w.heap.size, 0, none⟩) 2 2 (two x y) (by omega) _ (hi.below hal (Nat.le_refl _)) ⟨⟨by omega, fun i _ => by unfold two; split <;> assumption⟩, .inr ⟨_, _, rfl, by rw [alloc_size]; omega, row_two w x y _⟩⟩).mono ?_
  rintro e w' ⟨hb, h⟩
  refine ⟨below_alloc_onto hb, ?_⟩
  rw [ths_two] at h
  exact h

set_option maxRecDepth 100000 in
set_option maxHeartbeats 800000 in
theorem ThingOk_any (a : Option Addr) (n cap : Nat) (f : Nat → Int) (x : Int) (hx : I64 x) (w : World) (hi : Ints w a n f) :
    Calls Try.prog 22 #[.slice a n cap, .int .i64 x] w fun e w' => e = .returned (.bool (thingB n f x)) ∧ Below w.heap.size w w' := by
  have HI := Lib.hid hi; have HX := Lib.hid hx; clear hi hx
  go_enter Try.func22, Try.ntmps22
  go_wp2_with fail
  refine (on1_any a n cap f x HX.out w HI.out).mono ?_
  rintro e w' ⟨hb, ⟨hg, g, c9, rfl, _, _⟩ | ⟨hg, rfl⟩⟩
  · have HG := Lib.hid hg; clear hg
    go_wp2_with fail
    go_ret
    exact ⟨retb HG.out.symm, hb⟩
  · have HG := Lib.hid hg; clear hg
    go_wp2_with fail
    go_ret
    exact ⟨retb HG.out.symm, hb⟩

theorem thing2_grd {n : Nat} {f : Nat → Int} {x y : Int} (h : thing2B n f x y = true) : grdB n f = true := by
  unfold thing2B at h; rw [Bool.and_eq_true] at h; exact h.1
theorem thing_grd {n : Nat} {f : Nat → Int} {x : Int} (h : thingB n f x = true) : grdB n f = true := by
  unfold thingB at h; rw [Bool.and_eq_true] at h; exact h.1
theorem thing_rng {n : Nat} {f : Nat → Int} {x : Int} (hx : I64 x) (h : thingB n f x = true) : 1 ≤ x ∧ x < 2 ^ n := by
  have h7 := (grd_7 (thing_grd h)).2
  unfold thingB at h; rw [Bool.and_eq_true] at h
  exact (th_iff h7 hx).1 h.2

set_option maxRecDepth 100000 in
set_option maxHeartbeats 800000 in
theorem TouchOk_any (a : Option Addr) (n cap : Nat) (f : Nat → Int) (x y : Int) (hx : I64 x) (hy : I64 y) (w : World) (hi : Ints w a n f) :
    Calls Try.prog 25 #[.slice a n cap, .int .i64 x, .int .i64 y] w fun e w' => e = .returned (.bool (toB n f x y)) ∧ Below w.heap.size w w' := by
  have HI := Lib.hid hi; have HX := Lib.hid hx; have HY := Lib.hid hy; clear hi hx hy
  go_enter Try.func25, Try.ntmps25
  go_wp2_with fail
  refine (on2_any a n cap f x y HX.out HY.out w HI.out).mono ?_
  rintro e w1 ⟨hb, ⟨hg, g, c9, rfl, hgl, hrow⟩ | ⟨hg, rfl⟩⟩
  · have H7 := Lib.hid (grd_7 (thing2_grd hg)).2
    have HF := Lib.hid (show toB n f x y = (andI (gwI n f x) y != 0) by unfold toB; rw [hg]; rfl); clear hg
    go_wp2_with fail
    refine (touch_any g n c9 f x y H7.out _ hrow hgl).mono ?_
    rintro e w2 ⟨rfl, hb2⟩
    go_wp2_with fail
    go_ret
    exact ⟨retb HF.out.symm, below_onto hb hb2⟩
  · have HF := Lib.hid (show toB n f x y = false by unfold toB; rw [hg]; rfl); clear hg
    go_wp2_with fail
    go_ret
    exact ⟨retb HF.out.symm, hb⟩

set_option maxRecDepth 100000 in
set_option maxHeartbeats 800000 in
theorem OutsideTouch_any (a : Option Addr) (n cap : Nat) (f : Nat → Int) (x y : Int) (hx : I64 x) (hy : I64 y) (w : World) (hi : Ints w a n f) :
    Calls Try.prog 28 #[.slice a n cap, .int .i64 x, .int .i64 y] w fun e w' => e = .returned (.bool (otB n f x y)) ∧ Below w.heap.size w w' := by
  have HI := Lib.hid hi; have HX := Lib.hid hx; have HY := Lib.hid hy; clear hi hx hy
  go_enter Try.func28, Try.ntmps28
  go_wp2_with fail
  refine (TouchOk_any a n cap f x y HX.out HY.out w HI.out).mono ?_
  rintro e w1 ⟨rfl, hb⟩
  cases ht : toB n f x y with
  | true =>
    have HF := Lib.hid (show otB n f x y = (andI x y == 0) by unfold otB; rw [ht]; rfl); clear ht
    go_wp2_with fail
    go_ret
    exact ⟨retb HF.out.symm, hb⟩
  | false =>
    have HF := Lib.hid (show otB n f x y = false by unfold otB; rw [ht]; rfl); clear ht
    go_wp2_with fail
    go_ret
    exact ⟨retb HF.out.symm, hb⟩

set_option maxRecDepth 100000 in
set_option maxHeartbeats 800000 in
theorem InsideOk_any (a : Option Addr) (n cap : Nat) (f : Nat → Int) (x y : Int) (hx : I64 x) (hy : I64 y) (w : World) (hi : Ints w a n f) :
    Calls Try.prog 32 #[.slice a n cap, .int .i64 x, .int .i64 y] w fun e w' => e = .returned (.bool (idB n f x y)) ∧ Below w.heap.size w w' := by
  have HI := Lib.hid hi; have HX := Lib.hid hx; have HY := Lib.hid hy; clear hi hx hy
  go_enter Try.func32, Try.ntmps32
  go_wp2_with fail
  refine (on2_any a n cap f x y HX.out HY.out w HI.out).mono ?_
  rintro e w1 ⟨hb, ⟨hg, g, c9, rfl, hgl, hrow⟩ | ⟨hg, rfl⟩⟩
  · have H7 := Lib.hid (grd_7 (thing2_grd hg)).2
    have HF := Lib.hid (show idB n f x y = withinB (gwI n f x) y by unfold idB; rw [hg]; rfl); clear hg
    go_wp2_with fail
    refine (grown_any g n c9 f x H7.out _ hrow hgl).mono ?_
    rintro e w2 ⟨rfl, hb2⟩
    go_wp2_with fail
    refine (withinP_any _ _ _).mono ?_
    rintro e w' ⟨rfl, rfl⟩
    go_wp2_with fail
    go_ret
    exact ⟨retb HF.out.symm, below_onto hb hb2⟩
  · have HF := Lib.hid (show idB n f x y = false by unfold idB; rw [hg]; rfl); clear hg
    go_wp2_with fail
    go_ret
    exact ⟨retb HF.out.symm, hb⟩

set_option maxRecDepth 100000 in
set_option maxHeartbeats 800000 in
theorem BorderOf_any (a : Option Addr) (n cap : Nat) (f : Nat → Int) (x : Int) (hx : I64 x) (w : World) (hi : Ints w a n f) :
    Calls Try.prog 35 #[.slice a n cap, .int .i64 x] w fun e w' => e = .returned (.int .i64 (boV n f x)) ∧ Below w.heap.size w w' := by
  have HI := Lib.hid hi; have HX := Lib.hid hx; clear hi hx
  go_enter Try.func35, Try.ntmps35
  go_wp2_with fail
  refine (on1_any a n cap f x HX.out w HI.out).mono ?_
  rintro e w1 ⟨hb, ⟨hg, g, c9, rfl, hgl, hrow⟩ | ⟨hg, rfl⟩⟩
  · have HP := Lib.hid ((grd_iff HI.out.i64).1 (thing_grd hg))
    have hrg := thing_rng HX.out hg
    have HR := Lib.hid (show 0 ≤ x ∧ x < 2 ^ n by omega); clear hrg
    have HF := Lib.hid (show boV n f x = boI n f x by unfold boV; rw [if_pos hg]); clear hg
    go_wp2_with fail
    refine (border_any g n c9 f x HP.out HR.out HX.out _ hrow hgl).mono ?_
    rintro e w2 ⟨rfl, hb2⟩
    go_wp2_with fail
    go_ret
    exact ⟨reti HF.out.symm, below_onto hb hb2⟩
  · have HF := Lib.hid (show boV n f x = -1 by unfold boV; rw [if_neg (by rw [hg]; decide)]); clear hg
    go_wp2_with fail
    go_ret
    exact ⟨reti HF.out.symm, hb⟩

set_option maxRecDepth 100000 in
set_option maxHeartbeats 800000 in
theorem GrownOf_any (a : Option Addr) (n cap : Nat) (f : Nat → Int) (x : Int) (hx : I64 x) (w : World) (hi : Ints w a n f) :
    Calls Try.prog 38 #[.slice a n cap, .int .i64 x] w fun e w' => e = .returned (.int .i64 (gwV n f x)) ∧ Below w.heap.size w w' := by
  have HI := Lib.hid hi; have HX := Lib.hid hx; clear hi hx
  go_enter Try.func38, Try.ntmps38
  go_wp2_with fail
  refine (on1_any a n cap f x HX.out w HI.out).mono ?_
  rintro e w1 ⟨hb, ⟨hg, g, c9, rfl, hgl, hrow⟩ | ⟨hg, rfl⟩⟩
  · have H7 := Lib.hid (grd_7 (thing_grd hg)).2
    have HF := Lib.hid (show gwV n f x = gwI n f x by unfold gwV; rw [if_pos hg]); clear hg
    go_wp2_with fail
    refine (grown_any g n c9 f x H7.out _ hrow hgl).mono ?_
    rintro e w2 ⟨rfl, hb2⟩
    go_wp2_with fail
    go_ret
    exact ⟨reti HF.out.symm, below_onto hb hb2⟩
  · have HF := Lib.hid (show gwV n f x = -1 by unfold gwV; rw [if_neg (by rw [hg]; decide)]); clear hg
    go_wp2_with fail
    go_ret
    exact ⟨reti HF.out.symm, hb⟩
end Go.Proofs.Ytncgcopdpoaagaa
