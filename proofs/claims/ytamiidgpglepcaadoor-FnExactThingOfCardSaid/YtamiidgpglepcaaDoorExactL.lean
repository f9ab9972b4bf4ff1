import Derived.Test.YtamiidgpglepcaaDoorThingA
namespace Go.Proofs.YtamiidgpglepcaaDoor
open Go.RowKit

set_option maxRecDepth 100000 in
set_option maxHeartbeats 1600000 in
theorem exactThingOf_in (a : Option Addr) (n cap : Nat) (f : Nat → Int) (x : Int) (hn : n ≤ 1048576) (w : World) (hi : Ints w a n f) (hT : TabW w) :
    Calls Tryd.prog 5 #[.slice a n cap, .int .i64 x] w (TrueEnd w) := by
  have h64 := Lib.hid hi.1
  have HT := Lib.hid hT; clear hT
  have hne1 : (thingN n f x != thingN n f x) = false := by simp
  have hne2 : (thingOk n f x != thingOk n f x) = false := by simp
  go_enter Tryd.func5, Tryd.ntmps5
  go_wp2_with fail
  refine (toIntS_any a n cap f hn _ hi).mono ?_
  intro e w1 hf1
  have hi1 := hf1.ints h64.out
  obtain ⟨hb1, rfl, hs1, hr1⟩ := hf1
  replace hi := hi.next hb1
  clear hr1
  go_wp2_with fail
  refine (specThingOf_any _ n n f x _ hi1).mono ?_
  rintro e w2 ⟨rfl, hd2⟩
  clear hi1
  replace hi := hi.drew hd2
  replace hb1 := below_onto hb1 hd2.below
  go_wp2_with fail
  refine (toIntS_any a n cap f hn _ hi).mono ?_
  intro e w3 hf3
  have hi3 := hf3.ints h64.out
  obtain ⟨hb3, rfl, hs3, hr3⟩ := hf3
  replace hi := hi.next hb3
  replace hb1 := below_onto hb1 hb3
  replace HT := Lib.hid (HT.out.below hb1)
  clear hr3
  go_wp2_with fail
  refine (ThingOf_any _ n n f x _ hi3 HT.out).mono ?_
  rintro e w4 ⟨rfl, hb4⟩
  replace hi := hi.next hb4
  replace hi3 := hi3.next hb4
  replace hb1 := below_onto hb1 hb4
  go_wp2_with fail
  refine (toIntS_any a n cap f hn _ hi).mono ?_
  intro e w5 hf5
  have hi5 := hf5.ints h64.out
  obtain ⟨hb5, rfl, hs5, hr5⟩ := hf5
  replace hi3 := hi3.next hb5
  replace hb1 := below_onto hb1 hb5
  clear hr5
  go_wp2_with fail
  refine (eqIntS_any _ _ _ _ n f hn _ hi3 hi5).mono ?_
  rintro e w6 ⟨rfl, hd6⟩
  go_wp2_with fail
  go_ret
  exact ⟨rfl, below_onto hb1 hd6.below⟩

set_option maxRecDepth 100000 in
set_option maxHeartbeats 800000 in
theorem exactThingOf_big (a : Option Addr) (n cap : Nat) (x : Int) (hn : 1048576 < n) (hm : n ≤ 9223372036854775807) (w : World) :
    Calls Tryd.prog 5 #[.slice a n cap, .int .i64 x] w (TrueEnd w) := by
  go_enter Tryd.func5, Tryd.ntmps5
  go_wp2_with fail
  go_ret
  exact ⟨rfl, Below.refl _ _⟩

theorem exactThingOf (a : Option Addr) (n cap : Nat) (f : Nat → Int) (x : Int) (w : World) (hi : Ints w a n f) (hT : TabW w) :
    Calls Tryd.prog 5 #[.slice a n cap, .int .i64 x] w (TrueEnd w) := by
  by_cases hn : n ≤ 1048576
  · exact exactThingOf_in a n cap f x hn w hi hT
  · exact exactThingOf_big a n cap x (by omega) hi.1.1 w
end Go.Proofs.YtamiidgpglepcaaDoor
