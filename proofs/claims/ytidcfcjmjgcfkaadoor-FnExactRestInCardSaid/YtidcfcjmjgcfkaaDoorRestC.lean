import Derived.Test.YtidcfcjmjgcfkaaDoorRestB
import Derived.Test.YtidcfcjmjgcfkaaDoorExactB
namespace Go.Proofs.YtidcfcjmjgcfkaaDoor
open Go.RowKit

theorem part_not {n : Nat} {f : Nat → Int} {w : World} {a : Option Addr} (hi : Ints w a n f) {x : Int} (h : good1 n f x = false) : partB n f x x = false := by
  rw [partB_self n f x hi.i64]; exact h
theorem good2_split {n : Nat} {f : Nat → Int} {x y : Int} (h : ¬ good2 n f x y = true) (h1 : good1 n f x = true) : good1 n f y = false := by
  cases e : good1 n f y with
  | false => rfl
  | true => exact absurd ((good2_iff n f x y).2 ⟨((good1_iff n f x).1 h1).1, ((good1_iff n f x).1 h1).2, ((good1_iff n f y).1 e).2⟩) h

set_option maxRecDepth 100000 in
set_option maxHeartbeats 3200000 in
theorem specRestIn_any (a : Option Addr) (n cap : Nat) (f : Nat → Int) (x y : Int) (w : World) (hi : Ints w a n f) :
    Calls Tryd.prog 15 #[.slice a n cap, .int .i64 x, .int .i64 y] w (RestDrew (restN n f x y) (restOk n f x y) w) := by
  by_cases hg : good2 n f x y = true
  · obtain ⟨hwb, ⟨hx0, hx1⟩, hy0, hy1⟩ := (good2_iff n f x y).1 hg
    obtain ⟨X, rfl⟩ := Int.eq_ofNat_of_zero_le hx0
    obtain ⟨Y, rfl⟩ := Int.eq_ofNat_of_zero_le hy0
    obtain ⟨b, o, rfl, hlt, hr⟩ := hi.row (worldB_7 hwb).1
    exact specRestIn_in b o n cap f X Y hwb (by omega) (by omega) w hi hr
  · have HF := Lib.hid (show restN n f x y = -1 ∧ restOk n f x y = false from ⟨by unfold restN; rw [if_neg hg], by unfold restOk; rw [show good2 n f x y = false by simpa using hg]; rfl⟩)
    have hn := hi.1.1
    have HN := Lib.hid hi; clear hi
    by_cases h0 : 0 < n
    · have h0i : (0 : Int) < (n : Int) := by omega
      cases hx : good1 n f x with
      | false =>
        have HP := Lib.hid (part_not HN.out hx); clear hx hg
        go_enter Tryd.func15, Tryd.ntmps15
        go_wp2_with fail
        go_loopw [8] (fun i wr => i = .int .i64 0 ∧ wr = w) (fun _ _ => 0)
        case atStart => exact ⟨rfl, rfl⟩
        case round =>
          obtain ⟨rfl, rfl⟩ := hrel
          go_wp2_with fail
          refine (specPartOk_val _ _ _ f x x false _ HP.out HN.out).mono ?_
          rintro e w1 ⟨rfl, m1, rfl⟩
          go_wp2_with fail
          go_ret2
          exact ⟨by rw [HF.out.1, HF.out.2]; rfl, _, rfl⟩
      | true =>
        have HP := Lib.hid (part_self_of HN.out ((good1_iff n f x).1 hx).1 ((good1_iff n f x).1 hx).2.1 ((good1_iff n f x).1 hx).2.2)
        have HQ := Lib.hid (part_not HN.out (good2_split hg hx)); clear hx hg
        go_enter Tryd.func15, Tryd.ntmps15
        go_wp2_with fail
        go_loopw [8] (fun i wr => i = .int .i64 0 ∧ wr = w) (fun _ _ => 0)
        case atStart => exact ⟨rfl, rfl⟩
        case round =>
          obtain ⟨rfl, rfl⟩ := hrel
          go_wp2_with fail
          refine (specPartOk_val _ _ _ f x x true _ HP.out HN.out).mono ?_
          rintro e w1 ⟨rfl, m1, rfl⟩
          go_wp2_with fail
          refine (specPartOk_val _ _ _ f y y false _ HQ.out (HN.out.drew ⟨_, rfl⟩)).mono ?_
          rintro e w2 ⟨rfl, m2, rfl⟩
          go_wp2_with fail
          go_ret2
          exact ⟨by rw [HF.out.1, HF.out.2]; rfl, _, rfl⟩
    · have h0i : ¬ (0 : Int) < (n : Int) := by omega
      clear hg
      go_enter Tryd.func15, Tryd.ntmps15
      go_wp2_with fail
      go_loopw [8] (fun i wr => i = .int .i64 0 ∧ wr = w) (fun _ _ => 0)
      case atStart => exact ⟨rfl, rfl⟩
      case round =>
        obtain ⟨rfl, rfl⟩ := hrel
        go_wp2_with fail
        go_ret2
        exact ⟨by rw [HF.out.1, HF.out.2]; rfl, 0, rfl⟩

set_option maxHeartbeats 1600000 in
theorem exactRestIn_in (a : Option Addr) (n cap : Nat) (f : Nat → Int) (x y : Int) (hn : n ≤ 1048576) (w : World) (hi : Ints w a n f) (hT : TabW w) :
    Calls Tryd.prog 5 #[.slice a n cap, .int .i64 x, .int .i64 y] w (TrueEnd w) := by
  have h64 := Lib.hid hi.1
  have HT := Lib.hid hT; clear hT
  have hne1 : (restN n f x y != restN n f x y) = false := by simp
  have hne2 : (restOk n f x y != restOk n f x y) = false := by simp
  go_enter Tryd.func5, Tryd.ntmps5
  go_wp2_with fail
  refine (toIntS_any a n cap f hn _ hi).mono ?_
  intro e w1 hf1
  have hi1 := hf1.ints h64.out
  obtain ⟨hb1, rfl, hs1, hr1⟩ := hf1
  replace hi := hi.next hb1
  clear hr1
  go_wp2_with fail
  refine (specRestIn_any _ n n f x y _ hi1).mono ?_
  rintro e w2 ⟨rfl, hd2⟩
  clear hi1
  replace hi := hi.drew hd2
  replace hb1 := below_onto hb1 hd2.below
  go_wp2_with fail
  refine (toIntS_any a n cap f hn _ hi).mono ?_
  intro e w3 hf3
  have hi3 := hf3.ints h64.out
  obtain ⟨hb3, rfl, hs3, hr3⟩ := hf3
  replace hi := hi.next hb3
  replace hb1 := below_onto hb1 hb3
  replace HT := Lib.hid (HT.out.below hb1)
  clear hr3
  go_wp2_with fail
  refine (RestIn_any _ n n f x y _ hi3 HT.out).mono ?_
  rintro e w4 ⟨rfl, hb4⟩
  replace hi := hi.next hb4
  replace hi3 := hi3.next hb4
  replace hb1 := below_onto hb1 hb4
  go_wp2_with fail
  refine (toIntS_any a n cap f hn _ hi).mono ?_
  intro e w5 hf5
  have hi5 := hf5.ints h64.out
  obtain ⟨hb5, rfl, hs5, hr5⟩ := hf5
  replace hi3 := hi3.next hb5
  replace hb1 := below_onto hb1 hb5
  clear hr5
  go_wp2_with fail
  refine (eqIntS_any _ _ _ _ n f hn _ hi3 hi5).mono ?_
  rintro e w6 ⟨rfl, hd6⟩
  go_wp2_with fail
  go_ret
  exact ⟨rfl, below_onto hb1 hd6.below⟩

set_option maxHeartbeats 800000 in
theorem exactRestIn_big (a : Option Addr) (n cap : Nat) (x y : Int) (hn : 1048576 < n) (hm : n ≤ 9223372036854775807) (w : World) :
    Calls Tryd.prog 5 #[.slice a n cap, .int .i64 x, .int .i64 y] w (TrueEnd w) := by
  go_enter Tryd.func5, Tryd.ntmps5
  go_wp2_with fail
  go_ret
  exact ⟨rfl, Below.refl _ _⟩

theorem exactRestIn (a : Option Addr) (n cap : Nat) (f : Nat → Int) (x y : Int) (w : World) (hi : Ints w a n f) (hT : TabW w) :
    Calls Tryd.prog 5 #[.slice a n cap, .int .i64 x, .int .i64 y] w (TrueEnd w) := by
  by_cases hn : n ≤ 1048576
  · exact exactRestIn_in a n cap f x y hn w hi hT
  · exact exactRestIn_big a n cap x y (by omega) hi.1.1 w
end Go.Proofs.YtidcfcjmjgcfkaaDoor
