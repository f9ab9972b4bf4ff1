import Derived.Test.YtncgcopdpoaagaaGrdD
import Derived.Test.YtncgcopdpoaagaaGrdS
import Derived.Test.YtncgcopdpoaagaaBaseB
namespace Go.Proofs.Ytncgcopdpoaagaa
open Go.RowKit

theorem i64_lit {n : Int} (h : (Lit.int .i64 n).wf = true) : Hid (I64 n) := by
  apply Lib.hid
  unfold I64
  simp [Lit.wf, IntKind.min, IntKind.max, IntKind.bits, IntKind.signed] at h
  exact h

set_option maxRecDepth 100000 in
set_option maxHeartbeats 1600000 in
theorem exactGroundOk_in (a : Option Addr) (n cap : Nat) (f : Nat → Int) (hn : n ≤ 1048576) (w : World) (hi : Ints w a n f) :
    Calls Try.prog 10 #[.slice a n cap] w (TrueEnd w) := by
  have h64 := Lib.hid hi.1
  go_enter Try.func10, Try.ntmps10
  go_wp2_with fail
  refine (toIntS_any a n cap f hn _ hi).mono ?_
  intro e w1 hf1
  have hi1 := hf1.ints h64.out
  obtain ⟨hb1, rfl, hs1, hr1⟩ := hf1
  replace hi := hi.next hb1
  clear hr1
  go_wp2_with fail
  refine (specGroundOk_any _ n n f  _ hi1).mono ?_
  rintro e w2 ⟨rfl, hd2⟩
  clear hi1
  replace hi := hi.drew hd2
  replace hb1 := below_onto hb1 hd2.below
  go_wp2_with fail
  refine (toIntS_any a n cap f hn _ hi).mono ?_
  intro e w3 hf3
  have hi3 := hf3.ints h64.out
  obtain ⟨hb3, rfl, hs3, hr3⟩ := hf3
  replace hi := hi.next hb3
  replace hb1 := below_onto hb1 hb3
  clear hr3
  go_wp2_with fail
  refine (GroundOk_any _ n n f  _ hi3).mono ?_
  rintro e w4 ⟨rfl, hb4⟩
  replace hi := hi.next hb4
  replace hi3 := hi3.next hb4
  replace hb1 := below_onto hb1 hb4
  have hne : (grdB n f != grdB n f) = false := by simp
  go_wp2_with fail
  refine (toIntS_any a n cap f hn _ hi).mono ?_
  intro e w5 hf5
  have hi5 := hf5.ints h64.out
  obtain ⟨hb5, rfl, hs5, hr5⟩ := hf5
  replace hi3 := hi3.next hb5
  replace hb1 := below_onto hb1 hb5
  clear hr5
  go_wp2_with fail
  refine (eqIntS_any _ _ _ _ n f hn _ hi3 hi5).mono ?_
  rintro e w6 ⟨rfl, hd6⟩
  go_wp2_with fail
  go_ret
  exact ⟨rfl, below_onto hb1 hd6.below⟩

set_option maxRecDepth 100000 in
set_option maxHeartbeats 800000 in
theorem exactGroundOk_big (a : Option Addr) (n cap : Nat) (hn : 1048576 < n) (hm : n ≤ 9223372036854775807) (w : World) :
    Calls Try.prog 10 #[.slice a n cap] w (TrueEnd w) := by
  go_enter Try.func10, Try.ntmps10
  go_wp2_with fail
  go_ret
  exact ⟨rfl, Below.refl _ _⟩

theorem exactGroundOk (a : Option Addr) (n cap : Nat) (f : Nat → Int) (w : World) (hi : Ints w a n f) :
    Calls Try.prog 10 #[.slice a n cap] w (TrueEnd w) := by
  by_cases hn : n ≤ 1048576
  · exact exactGroundOk_in a n cap f  hn w hi
  · exact exactGroundOk_big a n cap  (by omega) hi.1.1 w

set_option maxRecDepth 100000 in
set_option maxHeartbeats 1600000 in
theorem exactThingOk_in (a : Option Addr) (n cap : Nat) (f : Nat → Int) (x : Int) (hx : Hid (I64 x)) (hn : n ≤ 1048576) (w : World) (hi : Ints w a n f) :
    Calls Try.prog 11 #[.slice a n cap, .int .i64 x] w (TrueEnd w) := by
  have h64 := Lib.hid hi.1
  go_enter Try.func11, Try.ntmps11
  go_wp2_with fail
  refine (toIntS_any a n cap f hn _ hi).mono ?_
  intro e w1 hf1
  have hi1 := hf1.ints h64.out
  obtain ⟨hb1, rfl, hs1, hr1⟩ := hf1
  replace hi := hi.next hb1
  clear hr1
  go_wp2_with fail
  refine (specThingOk_any _ n n f _ hx.out _ hi1).mono ?_
  rintro e w2 ⟨rfl, hd2⟩
  clear hi1
  replace hi := hi.drew hd2
  replace hb1 := below_onto hb1 hd2.below
  go_wp2_with fail
  refine (toIntS_any a n cap f hn _ hi).mono ?_
  intro e w3 hf3
  have hi3 := hf3.ints h64.out
  obtain ⟨hb3, rfl, hs3, hr3⟩ := hf3
  replace hi := hi.next hb3
  replace hb1 := below_onto hb1 hb3
  clear hr3
  go_wp2_with fail
  refine (ThingOk_any _ n n f _ hx.out _ hi3).mono ?_
  rintro e w4 ⟨rfl, hb4⟩
  replace hi := hi.next hb4
  replace hi3 := hi3.next hb4
  replace hb1 := below_onto hb1 hb4
  have hne : (thingB n f x != thingB n f x) = false := by simp
  go_wp2_with fail
  refine (toIntS_any a n cap f hn _ hi).mono ?_
  intro e w5 hf5
  have hi5 := hf5.ints h64.out
  obtain ⟨hb5, rfl, hs5, hr5⟩ := hf5
  replace hi3 := hi3.next hb5
  replace hb1 := below_onto hb1 hb5
  clear hr5
  go_wp2_with fail
  refine (eqIntS_any _ _ _ _ n f hn _ hi3 hi5).mono ?_
  rintro e w6 ⟨rfl, hd6⟩
  go_wp2_with fail
  go_ret
  exact ⟨rfl, below_onto hb1 hd6.below⟩

set_option maxRecDepth 100000 in
set_option maxHeartbeats 800000 in
theorem exactThingOk_big (a : Option Addr) (n cap : Nat) (x : Int) (hn : 1048576 < n) (hm : n ≤ 9223372036854775807) (w : World) :
    Calls Try.prog 11 #[.slice a n cap, .int .i64 x] w (TrueEnd w) := by
  go_enter Try.func11, Try.ntmps11
  go_wp2_with fail
  go_ret
  exact ⟨rfl, Below.refl _ _⟩

theorem exactThingOk (a : Option Addr) (n cap : Nat) (f : Nat → Int) (x : Int) (hx : Hid (I64 x)) (w : World) (hi : Ints w a n f) :
    Calls Try.prog 11 #[.slice a n cap, .int .i64 x] w (TrueEnd w) := by
  by_cases hn : n ≤ 1048576
  · exact exactThingOk_in a n cap f x hx hn w hi
  · exact exactThingOk_big a n cap x (by omega) hi.1.1 w

set_option maxRecDepth 100000 in
set_option maxHeartbeats 1600000 in
theorem exactTouchOk_in (a : Option Addr) (n cap : Nat) (f : Nat → Int) (x y : Int) (hx : Hid (I64 x)) (hy : Hid (I64 y)) (hn : n ≤ 1048576) (w : World) (hi : Ints w a n f) :
    Calls Try.prog 12 #[.slice a n cap, .int .i64 x, .int .i64 y] w (TrueEnd w) := by
  have h64 := Lib.hid hi.1
  go_enter Try.func12, Try.ntmps12
  go_wp2_with fail
  refine (toIntS_any a n cap f hn _ hi).mono ?_
  intro e w1 hf1
  have hi1 := hf1.ints h64.out
  obtain ⟨hb1, rfl, hs1, hr1⟩ := hf1
  replace hi := hi.next hb1
  clear hr1
  go_wp2_with fail
  refine (specTouchOk_any _ n n f _ _ hx.out hy.out _ hi1).mono ?_
  rintro e w2 ⟨rfl, hd2⟩
  clear hi1
  replace hi := hi.drew hd2
  replace hb1 := below_onto hb1 hd2.below
  go_wp2_with fail
  refine (toIntS_any a n cap f hn _ hi).mono ?_
  intro e w3 hf3
  have hi3 := hf3.ints h64.out
  obtain ⟨hb3, rfl, hs3, hr3⟩ := hf3
  replace hi := hi.next hb3
  replace hb1 := below_onto hb1 hb3
  clear hr3
  go_wp2_with fail
  refine (TouchOk_any _ n n f _ _ hx.out hy.out _ hi3).mono ?_
  rintro e w4 ⟨rfl, hb4⟩
  replace hi := hi.next hb4
  replace hi3 := hi3.next hb4
  replace hb1 := below_onto hb1 hb4
  have hne : (toB n f x y != toB n f x y) = false := by simp
  go_wp2_with fail
  refine (toIntS_any a n cap f hn _ hi).mono ?_
  intro e w5 hf5
  have hi5 := hf5.ints h64.out
  obtain ⟨hb5, rfl, hs5, hr5⟩ := hf5
  replace hi3 := hi3.next hb5
  replace hb1 := below_onto hb1 hb5
  clear hr5
  go_wp2_with fail
  refine (eqIntS_any _ _ _ _ n f hn _ hi3 hi5).mono ?_
  rintro e w6 ⟨rfl, hd6⟩
  go_wp2_with fail
  go_ret
  exact ⟨rfl, below_onto hb1 hd6.below⟩

set_option maxRecDepth 100000 in
set_option maxHeartbeats 800000 in
theorem exactTouchOk_big (a : Option Addr) (n cap : Nat) (x y : Int) (hn : 1048576 < n) (hm : n ≤ 9223372036854775807) (w : World) :
    Calls Try.prog 12 #[.slice a n cap, .int .i64 x, .int .i64 y] w (TrueEnd w) := by
  go_enter Try.func12, Try.ntmps12
  go_wp2_with fail
  go_ret
  exact ⟨rfl, Below.refl _ _⟩

theorem exactTouchOk (a : Option Addr) (n cap : Nat) (f : Nat → Int) (x y : Int) (hx : Hid (I64 x)) (hy : Hid (I64 y)) (w : World) (hi : Ints w a n f) :
    Calls Try.prog 12 #[.slice a n cap, .int .i64 x, .int .i64 y] w (TrueEnd w) := by
  by_cases hn : n ≤ 1048576
  · exact exactTouchOk_in a n cap f x y hx hy hn w hi
  · exact exactTouchOk_big a n cap x y (by omega) hi.1.1 w

set_option maxRecDepth 100000 in
set_option maxHeartbeats 1600000 in
theorem exactOutsideTouch_in (a : Option Addr) (n cap : Nat) (f : Nat → Int) (x y : Int) (hx : Hid (I64 x)) (hy : Hid (I64 y)) (hn : n ≤ 1048576) (w : World) (hi : Ints w a n f) :
    Calls Try.prog 13 #[.slice a n cap, .int .i64 x, .int .i64 y] w (TrueEnd w) := by
  have h64 := Lib.hid hi.1
  go_enter Try.func13, Try.ntmps13
  go_wp2_with fail
  refine (toIntS_any a n cap f hn _ hi).mono ?_
  intro e w1 hf1
  have hi1 := hf1.ints h64.out
  obtain ⟨hb1, rfl, hs1, hr1⟩ := hf1
  replace hi := hi.next hb1
  clear hr1
  go_wp2_with fail
  refine (specOutsideTouch_any _ n n f _ _ hx.out hy.out _ hi1).mono ?_
  rintro e w2 ⟨rfl, hd2⟩
  clear hi1
  replace hi := hi.drew hd2
  replace hb1 := below_onto hb1 hd2.below
  go_wp2_with fail
  refine (toIntS_any a n cap f hn _ hi).mono ?_
  intro e w3 hf3
  have hi3 := hf3.ints h64.out
  obtain ⟨hb3, rfl, hs3, hr3⟩ := hf3
  replace hi := hi.next hb3
  replace hb1 := below_onto hb1 hb3
  clear hr3
  go_wp2_with fail
  refine (OutsideTouch_any _ n n f _ _ hx.out hy.out _ hi3).mono ?_
  rintro e w4 ⟨rfl, hb4⟩
  replace hi := hi.next hb4
  replace hi3 := hi3.next hb4
  replace hb1 := below_onto hb1 hb4
  have hne : (otB n f x y != otB n f x y) = false := by simp
  go_wp2_with fail
  refine (toIntS_any a n cap f hn _ hi).mono ?_
  intro e w5 hf5
  have hi5 := hf5.ints h64.out
  obtain ⟨hb5, rfl, hs5, hr5⟩ := hf5
  replace hi3 := hi3.next hb5
  replace hb1 := below_onto hb1 hb5
  clear hr5
  go_wp2_with fail
  refine (eqIntS_any _ _ _ _ n f hn _ hi3 hi5).mono ?_
  rintro e w6 ⟨rfl, hd6⟩
  go_wp2_with fail
  go_ret
  exact ⟨rfl, below_onto hb1 hd6.below⟩

set_option maxRecDepth 100000 in
set_option maxHeartbeats 800000 in
theorem exactOutsideTouch_big (a : Option Addr) (n cap : Nat) (x y : Int) (hn : 1048576 < n) (hm : n ≤ 9223372036854775807) (w : World) :
    Calls Try.prog 13 #[.slice a n cap, .int .i64 x, .int .i64 y] w (TrueEnd w) := by
  go_enter Try.func13, Try.ntmps13
  go_wp2_with fail
  go_ret
  exact ⟨rfl, Below.refl _ _⟩

theorem exactOutsideTouch (a : Option Addr) (n cap : Nat) (f : Nat → Int) (x y : Int) (hx : Hid (I64 x)) (hy : Hid (I64 y)) (w : World) (hi : Ints w a n f) :
    Calls Try.prog 13 #[.slice a n cap, .int .i64 x, .int .i64 y] w (TrueEnd w) := by
  by_cases hn : n ≤ 1048576
  · exact exactOutsideTouch_in a n cap f x y hx hy hn w hi
  · exact exactOutsideTouch_big a n cap x y (by omega) hi.1.1 w

set_option maxRecDepth 100000 in
set_option maxHeartbeats 1600000 in
theorem exactInsideOk_in (a : Option Addr) (n cap : Nat) (f : Nat → Int) (x y : Int) (hx : Hid (I64 x)) (hy : Hid (I64 y)) (hn : n ≤ 1048576) (w : World) (hi : Ints w a n f) :
    Calls Try.prog 14 #[.slice a n cap, .int .i64 x, .int .i64 y] w (TrueEnd w) := by
  have h64 := Lib.hid hi.1
  go_enter Try.func14, Try.ntmps14
  go_wp2_with fail
  refine (toIntS_any a n cap f hn _ hi).mono ?_
  intro e w1 hf1
  have hi1 := hf1.ints h64.out
  obtain ⟨hb1, rfl, hs1, hr1⟩ := hf1
  replace hi := hi.next hb1
  clear hr1
  go_wp2_with fail
  refine (specInsideOk_any _ n n f _ _ hx.out hy.out _ hi1).mono ?_
  rintro e w2 ⟨rfl, hd2⟩
  clear hi1
  replace hi := hi.drew hd2
  replace hb1 := below_onto hb1 hd2.below
  go_wp2_with fail
  refine (toIntS_any a n cap f hn _ hi).mono ?_
  intro e w3 hf3
  have hi3 := hf3.ints h64.out
  obtain ⟨hb3, rfl, hs3, hr3⟩ := hf3
  replace hi := hi.next hb3
  replace hb1 := below_onto hb1 hb3
  clear hr3
  go_wp2_with fail
  refine (InsideOk_any _ n n f _ _ hx.out hy.out _ hi3).mono ?_
  rintro e w4 ⟨rfl, hb4⟩
  replace hi := hi.next hb4
  replace hi3 := hi3.next hb4
  replace hb1 := below_onto hb1 hb4
  have hne : (idB n f x y != idB n f x y) = false := by simp
  go_wp2_with fail
  refine (toIntS_any a n cap f hn _ hi).mono ?_
  intro e w5 hf5
  have hi5 := hf5.ints h64.out
  obtain ⟨hb5, rfl, hs5, hr5⟩ := hf5
  replace hi3 := hi3.next hb5
  replace hb1 := below_onto hb1 hb5
  clear hr5
  go_wp2_with fail
  refine (eqIntS_any _ _ _ _ n f hn _ hi3 hi5).mono ?_
  rintro e w6 ⟨rfl, hd6⟩
  go_wp2_with fail
  go_ret
  exact ⟨rfl, below_onto hb1 hd6.below⟩

set_option maxRecDepth 100000 in
set_option maxHeartbeats 800000 in
theorem exactInsideOk_big (a : Option Addr) (n cap : Nat) (x y : Int) (hn : 1048576 < n) (hm : n ≤ 9223372036854775807) (w : World) :
    Calls Try.prog 14 #[.slice a n cap, .int .i64 x, .int .i64 y] w (TrueEnd w) := by
  go_enter Try.func14, Try.ntmps14
  go_wp2_with fail
  go_ret
  exact ⟨rfl, Below.refl _ _⟩

theorem exactInsideOk (a : Option Addr) (n cap : Nat) (f : Nat → Int) (x y : Int) (hx : Hid (I64 x)) (hy : Hid (I64 y)) (w : World) (hi : Ints w a n f) :
    Calls Try.prog 14 #[.slice a n cap, .int .i64 x, .int .i64 y] w (TrueEnd w) := by
  by_cases hn : n ≤ 1048576
  · exact exactInsideOk_in a n cap f x y hx hy hn w hi
  · exact exactInsideOk_big a n cap x y (by omega) hi.1.1 w

set_option maxRecDepth 100000 in
set_option maxHeartbeats 1600000 in
theorem exactBorderOf_in (a : Option Addr) (n cap : Nat) (f : Nat → Int) (x : Int) (hx : Hid (I64 x)) (hn : n ≤ 1048576) (w : World) (hi : Ints w a n f) :
    Calls Try.prog 15 #[.slice a n cap, .int .i64 x] w (TrueEnd w) := by
  have h64 := Lib.hid hi.1
  go_enter Try.func15, Try.ntmps15
  go_wp2_with fail
  refine (toIntS_any a n cap f hn _ hi).mono ?_
  intro e w1 hf1
  have hi1 := hf1.ints h64.out
  obtain ⟨hb1, rfl, hs1, hr1⟩ := hf1
  replace hi := hi.next hb1
  clear hr1
  go_wp2_with fail
  refine (specBorderOf_any _ n n f _ hx.out _ hi1).mono ?_
  rintro e w2 ⟨rfl, hd2⟩
  clear hi1
  replace hi := hi.drew hd2
  replace hb1 := below_onto hb1 hd2.below
  go_wp2_with fail
  refine (toIntS_any a n cap f hn _ hi).mono ?_
  intro e w3 hf3
  have hi3 := hf3.ints h64.out
  obtain ⟨hb3, rfl, hs3, hr3⟩ := hf3
  replace hi := hi.next hb3
  replace hb1 := below_onto hb1 hb3
  clear hr3
  go_wp2_with fail
  refine (BorderOf_any _ n n f _ hx.out _ hi3).mono ?_
  rintro e w4 ⟨rfl, hb4⟩
  replace hi := hi.next hb4
  replace hi3 := hi3.next hb4
  replace hb1 := below_onto hb1 hb4
  have hne : (boV n f x != boV n f x) = false := by simp
  go_wp2_with fail
  refine (toIntS_any a n cap f hn _ hi).mono ?_
  intro e w5 hf5
  have hi5 := hf5.ints h64.out
  obtain ⟨hb5, rfl, hs5, hr5⟩ := hf5
  replace hi3 := hi3.next hb5
  replace hb1 := below_onto hb1 hb5
  clear hr5
  go_wp2_with fail
  refine (eqIntS_any _ _ _ _ n f hn _ hi3 hi5).mono ?_
  rintro e w6 ⟨rfl, hd6⟩
  go_wp2_with fail
  go_ret
  exact ⟨rfl, below_onto hb1 hd6.below⟩

set_option maxRecDepth 100000 in
set_option maxHeartbeats 800000 in
theorem exactBorderOf_big (a : Option Addr) (n cap : Nat) (x : Int) (hn : 1048576 < n) (hm : n ≤ 9223372036854775807) (w : World) :
    Calls Try.prog 15 #[.slice a n cap, .int .i64 x] w (TrueEnd w) := by
  go_enter Try.func15, Try.ntmps15
  go_wp2_with fail
  go_ret
  exact ⟨rfl, Below.refl _ _⟩

theorem exactBorderOf (a : Option Addr) (n cap : Nat) (f : Nat → Int) (x : Int) (hx : Hid (I64 x)) (w : World) (hi : Ints w a n f) :
    Calls Try.prog 15 #[.slice a n cap, .int .i64 x] w (TrueEnd w) := by
  by_cases hn : n ≤ 1048576
  · exact exactBorderOf_in a n cap f x hx hn w hi
  · exact exactBorderOf_big a n cap x (by omega) hi.1.1 w

set_option maxRecDepth 100000 in
set_option maxHeartbeats 1600000 in
theorem exactGrownOf_in (a : Option Addr) (n cap : Nat) (f : Nat → Int) (x : Int) (hx : Hid (I64 x)) (hn : n ≤ 1048576) (w : World) (hi : Ints w a n f) :
    Calls Try.prog 16 #[.slice a n cap, .int .i64 x] w (TrueEnd w) := by
  have h64 := Lib.hid hi.1
  go_enter Try.func16, Try.ntmps16
  go_wp2_with fail
  refine (toIntS_any a n cap f hn _ hi).mono ?_
  intro e w1 hf1
  have hi1 := hf1.ints h64.out
  obtain ⟨hb1, rfl, hs1, hr1⟩ := hf1
  replace hi := hi.next hb1
  clear hr1
  go_wp2_with fail
  refine (specGrownOf_any _ n n f _ hx.out _ hi1).mono ?_
  rintro e w2 ⟨rfl, hd2⟩
  clear hi1
  replace hi := hi.drew hd2
  replace hb1 := below_onto hb1 hd2.below
  go_wp2_with fail
  refine (toIntS_any a n cap f hn _ hi).mono ?_
  intro e w3 hf3
  have hi3 := hf3.ints h64.out
  obtain ⟨hb3, rfl, hs3, hr3⟩ := hf3
  replace hi := hi.next hb3
  replace hb1 := below_onto hb1 hb3
  clear hr3
  go_wp2_with fail
  refine (GrownOf_any _ n n f _ hx.out _ hi3).mono ?_
  rintro e w4 ⟨rfl, hb4⟩
  replace hi := hi.next hb4
  replace hi3 := hi3.next hb4
  replace hb1 := below_onto hb1 hb4
  have hne : (gwV n f x != gwV n f x) = false := by simp
  go_wp2_with fail
  refine (toIntS_any a n cap f hn _ hi).mono ?_
  intro e w5 hf5
  have hi5 := hf5.ints h64.out
  obtain ⟨hb5, rfl, hs5, hr5⟩ := hf5
  replace hi3 := hi3.next hb5
  replace hb1 := below_onto hb1 hb5
  clear hr5
  go_wp2_with fail
  refine (eqIntS_any _ _ _ _ n f hn _ hi3 hi5).mono ?_
  rintro e w6 ⟨rfl, hd6⟩
  go_wp2_with fail
  go_ret
  exact ⟨rfl, below_onto hb1 hd6.below⟩

set_option maxRecDepth 100000 in
set_option maxHeartbeats 800000 in
theorem exactGrownOf_big (a : Option Addr) (n cap : Nat) (x : Int) (hn : 1048576 < n) (hm : n ≤ 9223372036854775807) (w : World) :
    Calls Try.prog 16 #[.slice a n cap, .int .i64 x] w (TrueEnd w) := by
  go_enter Try.func16, Try.ntmps16
  go_wp2_with fail
  go_ret
  exact ⟨rfl, Below.refl _ _⟩

theorem exactGrownOf (a : Option Addr) (n cap : Nat) (f : Nat → Int) (x : Int) (hx : Hid (I64 x)) (w : World) (hi : Ints w a n f) :
    Calls Try.prog 16 #[.slice a n cap, .int .i64 x] w (TrueEnd w) := by
  by_cases hn : n ≤ 1048576
  · exact exactGrownOf_in a n cap f x hx hn w hi
  · exact exactGrownOf_big a n cap x (by omega) hi.1.1 w
end Go.Proofs.Ytncgcopdpoaagaa
