import Derived.Test.YtglnefffkcillaaWcK
namespace Go.Proofs.Ytglnefffkcillaa
open Go.RowKit

set_option maxHeartbeats 1600000 in
theorem exactKindOk_in (a : Option Addr) (n cap : Nat) (f : Nat → Int) (k : Int) (hn : n ≤ 1048576) (w : World) (hi : Ints w a n f) :
    Calls Try.prog 8 #[.slice a n cap, .int .i64 k] w (TrueEnd w) := by
  have h64 := Lib.hid hi.1
  go_enter Try.func8, Try.ntmps8
  go_wp2_with fail
  refine (toIntS_any a n cap f hn _ hi).mono ?_
  intro e w1 hf1
  have hi1 := hf1.ints h64.out
  obtain ⟨hb1, rfl, hs1, hr1⟩ := hf1
  replace hi := hi.next hb1
  clear hr1
  go_wp2_with fail
  refine (specKindOk_any _ n n f _ _ hi1).mono ?_
  rintro e w2 ⟨rfl, hd2⟩
  clear hi1
  replace hi := hi.drew hd2
  replace hb1 := below_onto hb1 hd2.below
  go_wp2_with fail
  refine (toIntS_any a n cap f hn _ hi).mono ?_
  intro e w3 hf3
  have hi3 := hf3.ints h64.out
  obtain ⟨hb3, rfl, hs3, hr3⟩ := hf3
  replace hi := hi.next hb3
  replace hb1 := below_onto hb1 hb3
  clear hr3
  go_wp2_with fail
  refine (KindOk_any _ n n f _ _ hi3).mono ?_
  rintro e w4 ⟨rfl, hb4⟩
  replace hi := hi.next hb4
  replace hi3 := hi3.next hb4
  replace hb1 := below_onto hb1 hb4
  have hne : (kindB n f k != kindB n f k) = false := by simp
  go_wp2_with fail
  refine (toIntS_any a n cap f hn _ hi).mono ?_
  intro e w5 hf5
  have hi5 := hf5.ints h64.out
  obtain ⟨hb5, rfl, hs5, hr5⟩ := hf5
  replace hi3 := hi3.next hb5
  replace hb1 := below_onto hb1 hb5
  clear hr5
  go_wp2_with fail
  refine (eqIntS_any _ _ _ _ n f hn _ hi3 hi5).mono ?_
  rintro e w6 ⟨rfl, hd6⟩
  go_wp2_with fail
  go_ret
  exact ⟨rfl, below_onto hb1 hd6.below⟩

set_option maxHeartbeats 800000 in
theorem exactKindOk_big (a : Option Addr) (n cap : Nat) (k : Int) (hn : 1048576 < n) (hm : n ≤ 9223372036854775807) (w : World) :
    Calls Try.prog 8 #[.slice a n cap, .int .i64 k] w (TrueEnd w) := by
  go_enter Try.func8, Try.ntmps8
  go_wp2_with fail
  go_ret
  exact ⟨rfl, Below.refl _ _⟩

theorem exactKindOk (a : Option Addr) (n cap : Nat) (f : Nat → Int) (k : Int) (w : World) (hi : Ints w a n f) :
    Calls Try.prog 8 #[.slice a n cap, .int .i64 k] w (TrueEnd w) := by
  by_cases hn : n ≤ 1048576
  · exact exactKindOk_in a n cap f k hn w hi
  · exact exactKindOk_big a n cap k (by omega) hi.1.1 w
end Go.Proofs.Ytglnefffkcillaa
