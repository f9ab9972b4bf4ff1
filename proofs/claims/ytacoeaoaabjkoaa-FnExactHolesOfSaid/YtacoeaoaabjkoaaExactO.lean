import Derived.Test.YtacoeaoaabjkoaaPcT
import Derived.Test.YtacoeaoaabjkoaaExactN
import Derived.Test.YtacoeaoaabjkoaaHeldX
namespace Go.Proofs.Ytacoeaoaabjkoaa
open Go.RowKit Go.Maps

theorem pcV_I64 {n : Nat} {f : Nat → Int} {x : Int} (h64 : ∀ i, i < n → I64 (f i)) (hx : I64 x) : (pcV n f x).length ≤ 1000 ∧ ∀ y ∈ pcV n f x, I64 y :=
  ⟨by have := pcV_7 (n := n) (f := f) (a := x); omega, pcV_64 h64 hx⟩
theorem hoV_I64 {n : Nat} {f : Nat → Int} {x : Int} (h64 : ∀ i, i < n → I64 (f i)) (_ : I64 x) : (hoV n f x).length ≤ 1000 ∧ ∀ y ∈ hoV n f x, I64 y :=
  ⟨by have := hoV_7 (n := n) (f := f) (a := x); omega, hoV_64 h64⟩


set_option maxRecDepth 100000 in
set_option maxHeartbeats 1600000 in
theorem exactTogetherOk_in (a : Option Addr) (n cap : Nat) (f : Nat → Int) (x : Int) (hx : Hid (I64 x)) (hn : n ≤ 1048576) (w : World) (hi : Ints w a n f) :
    Calls Try.prog 8 #[.slice a n cap, .int .i64 x] w (TrueEnd w) := by
  have h64 := Lib.hid hi.1
  go_enter Try.func8, Try.ntmps8
  go_wp2_with fail
  refine (toIntS_any a n cap f hn _ hi).mono ?_
  intro e w1 hf1
  have hi1 := hf1.ints h64.out
  obtain ⟨hb1, rfl, hs1, hr1⟩ := hf1
  replace hi := hi.next hb1
  clear hr1
  go_wp2_with fail
  refine (specTogetherOk_any _ n n f _ hx.out _ hi1).mono ?_
  rintro e w2 ⟨rfl, hd2⟩
  clear hi1
  replace hi := hi.drew hd2
  replace hb1 := below_onto hb1 hd2.below
  go_wp2_with fail
  refine (toIntS_any a n cap f hn _ hi).mono ?_
  intro e w3 hf3
  have hi3 := hf3.ints h64.out
  obtain ⟨hb3, rfl, hs3, hr3⟩ := hf3
  replace hi := hi.next hb3
  replace hb1 := below_onto hb1 hb3
  clear hr3
  go_wp2_with fail
  refine (TogetherOk_any _ n n f _ hx.out _ hi3).mono ?_
  rintro e w4 ⟨rfl, hb4⟩
  replace hi := hi.next hb4
  replace hi3 := hi3.next hb4
  replace hb1 := below_onto hb1 hb4
  have hne : (tgV n f x != tgV n f x) = false := by simp
  go_wp2_with fail
  refine (toIntS_any a n cap f hn _ hi).mono ?_
  intro e w5 hf5
  have hi5 := hf5.ints h64.out
  obtain ⟨hb5, rfl, hs5, hr5⟩ := hf5
  replace hi3 := hi3.next hb5
  replace hb1 := below_onto hb1 hb5
  clear hr5
  go_wp2_with fail
  refine (eqIntS_any _ _ _ _ n f hn _ hi3 hi5).mono ?_
  rintro e w6 ⟨rfl, hd6⟩
  go_wp2_with fail
  go_ret
  exact ⟨rfl, below_onto hb1 hd6.below⟩

set_option maxRecDepth 100000 in
set_option maxHeartbeats 800000 in
theorem exactTogetherOk_big (a : Option Addr) (n cap : Nat) (x : Int) (hn : 1048576 < n) (hm : n ≤ 9223372036854775807) (w : World) :
    Calls Try.prog 8 #[.slice a n cap, .int .i64 x] w (TrueEnd w) := by
  go_enter Try.func8, Try.ntmps8
  go_wp2_with fail
  go_ret
  exact ⟨rfl, Below.refl _ _⟩

theorem exactTogetherOk (a : Option Addr) (n cap : Nat) (f : Nat → Int) (x : Int) (hx : Hid (I64 x)) (w : World) (hi : Ints w a n f) :
    Calls Try.prog 8 #[.slice a n cap, .int .i64 x] w (TrueEnd w) := by
  by_cases hn : n ≤ 1048576
  · exact exactTogetherOk_in a n cap f x hx hn w hi
  · exact exactTogetherOk_big a n cap x (by omega) hi.1.1 w

set_option maxRecDepth 100000 in
set_option maxHeartbeats 1600000 in
theorem exactFilledOf_in (a : Option Addr) (n cap : Nat) (f : Nat → Int) (x : Int) (hx : Hid (I64 x)) (hn : n ≤ 1048576) (w : World) (hi : Ints w a n f) :
    Calls Try.prog 11 #[.slice a n cap, .int .i64 x] w (TrueEnd w) := by
  have h64 := Lib.hid hi.1
  go_enter Try.func11, Try.ntmps11
  go_wp2_with fail
  refine (toIntS_any a n cap f hn _ hi).mono ?_
  intro e w1 hf1
  have hi1 := hf1.ints h64.out
  obtain ⟨hb1, rfl, hs1, hr1⟩ := hf1
  replace hi := hi.next hb1
  clear hr1
  go_wp2_with fail
  refine (specFilledOf_any _ n n f _ hx.out _ hi1).mono ?_
  rintro e w2 ⟨rfl, hd2⟩
  clear hi1
  replace hi := hi.next hd2
  replace hb1 := below_onto hb1 hd2
  go_wp2_with fail
  refine (toIntS_any a n cap f hn _ hi).mono ?_
  intro e w3 hf3
  have hi3 := hf3.ints h64.out
  obtain ⟨hb3, rfl, hs3, hr3⟩ := hf3
  replace hi := hi.next hb3
  replace hb1 := below_onto hb1 hb3
  clear hr3
  go_wp2_with fail
  refine (FilledOf_any _ n n f _ hx.out _ hi3).mono ?_
  rintro e w4 ⟨rfl, hb4⟩
  replace hi := hi.next hb4
  replace hi3 := hi3.next hb4
  replace hb1 := below_onto hb1 hb4
  have hne : (fiV n f x != fiV n f x) = false := by simp
  go_wp2_with fail
  refine (toIntS_any a n cap f hn _ hi).mono ?_
  intro e w5 hf5
  have hi5 := hf5.ints h64.out
  obtain ⟨hb5, rfl, hs5, hr5⟩ := hf5
  replace hi3 := hi3.next hb5
  replace hb1 := below_onto hb1 hb5
  clear hr5
  go_wp2_with fail
  refine (eqIntS_any _ _ _ _ n f hn _ hi3 hi5).mono ?_
  rintro e w6 ⟨rfl, hd6⟩
  go_wp2_with fail
  go_ret
  exact ⟨rfl, below_onto hb1 hd6.below⟩

set_option maxRecDepth 100000 in
set_option maxHeartbeats 800000 in
theorem exactFilledOf_big (a : Option Addr) (n cap : Nat) (x : Int) (hn : 1048576 < n) (hm : n ≤ 9223372036854775807) (w : World) :
    Calls Try.prog 11 #[.slice a n cap, .int .i64 x] w (TrueEnd w) := by
  go_enter Try.func11, Try.ntmps11
  go_wp2_with fail
  go_ret
  exact ⟨rfl, Below.refl _ _⟩

theorem exactFilledOf (a : Option Addr) (n cap : Nat) (f : Nat → Int) (x : Int) (hx : Hid (I64 x)) (w : World) (hi : Ints w a n f) :
    Calls Try.prog 11 #[.slice a n cap, .int .i64 x] w (TrueEnd w) := by
  by_cases hn : n ≤ 1048576
  · exact exactFilledOf_in a n cap f x hx hn w hi
  · exact exactFilledOf_big a n cap x (by omega) hi.1.1 w

set_option maxRecDepth 100000 in
set_option maxHeartbeats 1600000 in
theorem exactCutAt_in (a : Option Addr) (n cap : Nat) (f : Nat → Int) (x : Int) (hx : Hid (I64 x)) (hn : n ≤ 1048576) (w : World) (hi : Ints w a n f) :
    Calls Try.prog 12 #[.slice a n cap, .int .i64 x] w (TrueEnd w) := by
  have h64 := Lib.hid hi.1
  go_enter Try.func12, Try.ntmps12
  go_wp2_with fail
  refine (toIntS_any a n cap f hn _ hi).mono ?_
  intro e w1 hf1
  have hi1 := hf1.ints h64.out
  obtain ⟨hb1, rfl, hs1, hr1⟩ := hf1
  replace hi := hi.next hb1
  clear hr1
  go_wp2_with fail
  refine (specCutAt_any _ n n f _ hx.out _ hi1).mono ?_
  rintro e w2 ⟨rfl, hd2⟩
  clear hi1
  replace hi := hi.drew hd2
  replace hb1 := below_onto hb1 hd2.below
  go_wp2_with fail
  refine (toIntS_any a n cap f hn _ hi).mono ?_
  intro e w3 hf3
  have hi3 := hf3.ints h64.out
  obtain ⟨hb3, rfl, hs3, hr3⟩ := hf3
  replace hi := hi.next hb3
  replace hb1 := below_onto hb1 hb3
  clear hr3
  go_wp2_with fail
  refine (CutAt_any _ n n f _ hx.out _ hi3).mono ?_
  rintro e w4 ⟨rfl, hb4⟩
  replace hi := hi.next hb4
  replace hi3 := hi3.next hb4
  replace hb1 := below_onto hb1 hb4
  have hne : (cuV n f x != cuV n f x) = false := by simp
  go_wp2_with fail
  refine (toIntS_any a n cap f hn _ hi).mono ?_
  intro e w5 hf5
  have hi5 := hf5.ints h64.out
  obtain ⟨hb5, rfl, hs5, hr5⟩ := hf5
  replace hi3 := hi3.next hb5
  replace hb1 := below_onto hb1 hb5
  clear hr5
  go_wp2_with fail
  refine (eqIntS_any _ _ _ _ n f hn _ hi3 hi5).mono ?_
  rintro e w6 ⟨rfl, hd6⟩
  go_wp2_with fail
  go_ret
  exact ⟨rfl, below_onto hb1 hd6.below⟩

set_option maxRecDepth 100000 in
set_option maxHeartbeats 800000 in
theorem exactCutAt_big (a : Option Addr) (n cap : Nat) (x : Int) (hn : 1048576 < n) (hm : n ≤ 9223372036854775807) (w : World) :
    Calls Try.prog 12 #[.slice a n cap, .int .i64 x] w (TrueEnd w) := by
  go_enter Try.func12, Try.ntmps12
  go_wp2_with fail
  go_ret
  exact ⟨rfl, Below.refl _ _⟩

theorem exactCutAt (a : Option Addr) (n cap : Nat) (f : Nat → Int) (x : Int) (hx : Hid (I64 x)) (w : World) (hi : Ints w a n f) :
    Calls Try.prog 12 #[.slice a n cap, .int .i64 x] w (TrueEnd w) := by
  by_cases hn : n ≤ 1048576
  · exact exactCutAt_in a n cap f x hx hn w hi
  · exact exactCutAt_big a n cap x (by omega) hi.1.1 w

set_option maxRecDepth 100000 in
set_option maxHeartbeats 6400000 in
theorem exactPiecesOf_in (a : Option Addr) (n cap : Nat)  (f : Nat → Int) (x : Int) (hx : Hid (I64 x)) (hn : n ≤ 1048576) (w : World) (hi : Ints w a n f) :
    Calls Try.prog 9 #[.slice a n cap, .int .i64 x] w (TrueEnd w) := by
  have hnot : ∀ (x : Bool) (w : World), (Op.unary .not (.bool x)).run Try.prog w = .ok (.bool (!x)) w := fun _ _ => rfl
  obtain ⟨hl, h64⟩ := pcV_I64 hi.i64 hx.out
  obtain ⟨m, hm⟩ : ∃ m, (pcV n f x).length = m := ⟨_, rfl⟩
  have HM := Lib.hid hm; have HL := Lib.hid hl; have H64 := Lib.hid h64; have HI := Lib.hid hi
  have hm1 : ¬ ((m : Int) + 1 < 0) := by omega
  have hn1 : ¬ ((n : Int) + 1 < 0) := by omega
  have hne : (((m : Int) + 1) != ((m : Int) + 1)) = false := by simp
  clear hm hl h64 hi
  go_enter Try.func9, Try.ntmps9
  go_wp2_with fail
  refine (toIntF_any a n cap f hn _ HI.out).mono ?_
  rintro e w1 ⟨rfl, hb1, hi1, _⟩
  have HB := Lib.hid hb1; have HI1 := Lib.hid hi1; have HS1 := Lib.hid hb1.size; clear hb1 hi1
  go_wp2_with fail
  refine (specPiecesOf_any _ n n f x _ rfl hx.out _ HI1.out).mono ?_
  intro e w2 hg
  obtain ⟨a1, c1, rfl, h1, hb2⟩ := hg.has HL.out H64.out
  rw [HM.out]
  have H1 := Lib.hid h1; have HS2 := Lib.hid hb2.size; replace HB := Lib.hid (below_onto HB.out hb2); clear hg h1 hb2 HI1
  go_wp2_with fail
  refine (toIntF_any a n cap f hn _ (HI.out.below HB.out (Nat.le_refl _))).mono ?_
  rintro e w3 ⟨rfl, hb3, hi3, hx3⟩
  have HI3 := Lib.hid hi3; have HX := Lib.hid hx3; have HS3 := Lib.hid hb3.size; replace H1 := Lib.hid (H1.out.next hb3); replace HB := Lib.hid (below_onto HB.out hb3); clear hb3 hi3 hx3
  go_wp2_with fail
  refine (PiecesOf_any _ n n f x _ rfl hx.out _ HI3.out).mono ?_
  intro e w4 hg
  obtain ⟨a2, c2, rfl, h2, hb4⟩ := hg.has HL.out H64.out
  rw [HM.out]
  have H2 := Lib.hid h2; have HS4 := Lib.hid hb4.size; replace H1 := Lib.hid (H1.out.next hb4); replace HX := Lib.hid (HX.out.next hb4); replace HI3 := Lib.hid (HI3.out.next hb4); replace HB := Lib.hid (below_onto HB.out hb4); clear hg h2 hb4
  go_wp2_with fail
  refine (eqIntS_has _ _ m _ _ _ _ _ _ _ HM.out _ H2.out H1.out).mono ?_
  rintro e w5 ⟨rfl, hd⟩
  replace H1 := Lib.hid (H1.out.next hd.below); replace H2 := Lib.hid (H2.out.next hd.below); replace HX := Lib.hid (HX.out.next hd.below); replace HI3 := Lib.hid (HI3.out.next hd.below); replace HB := Lib.hid (below_onto HB.out hd.below)
  clear hd
  go_wp2_with fail
  refine (toIntF_any a n cap f hn _ (HI.out.below HB.out (Nat.le_refl _))).mono ?_
  rintro e w6 ⟨rfl, hb6, hi6, _⟩
  have HI6 := Lib.hid hi6; replace H1 := Lib.hid (H1.out.next hb6); replace H2 := Lib.hid (H2.out.next hb6); replace HX := Lib.hid (HX.out.next hb6); replace HI3 := Lib.hid (HI3.out.next hb6); replace HB := Lib.hid (below_onto HB.out hb6)
  clear hb6 hi6
  go_wp2_with fail
  refine (eqIntS_any _ _ _ _ n f hn _ HI3.out HI6.out).mono ?_
  rintro e w7 ⟨rfl, hd⟩
  replace H1 := Lib.hid (H1.out.next hd.below); replace H2 := Lib.hid (H2.out.next hd.below); replace HX := Lib.hid (HX.out.next hd.below); replace HB := Lib.hid (below_onto HB.out hd.below)
  clear hd HI3 HI6
  go_wp2_with fail
  refine (mark_any _ _ _ n _ _ (rowL_len f n) _ HX.out).mono ?_
  rintro e w8 ⟨rfl, hb, _⟩
  replace H1 := Lib.hid (H1.out.apart hb (.inl (Nat.le_refl _))); replace H2 := Lib.hid (H2.out.apart hb (.inr (Nat.le_refl _)))
  replace HB := Lib.hid (HB.out.trans (hb.below (C := w.heap.size) (Nat.le_trans HS1.out HS2.out) HB.out.size))
  clear hb HX
  go_wp2_with fail
  refine (eqIntS_has _ _ m _ _ _ _ _ _ _ HM.out _ H2.out H1.out).mono ?_
  rintro e w9 ⟨rfl, hd⟩
  replace H1 := Lib.hid (H1.out.next hd.below); replace H2 := Lib.hid (H2.out.next hd.below); replace HB := Lib.hid (below_onto HB.out hd.below)
  clear hd
  go_wp2_with fail
  refine (mark_any _ _ _ m _ _ HM.out _ H2.out).mono ?_
  rintro e w10 ⟨rfl, hb, h2⟩
  replace H1 := Lib.hid (H1.out.apart hb (.inl HS3.out)); replace H2 := Lib.hid h2
  replace HB := Lib.hid (HB.out.trans (hb.below (C := w.heap.size) (Nat.le_trans HS1.out (Nat.le_trans HS2.out HS3.out)) HB.out.size))
  clear hb h2
  go_wp2_with fail
  refine (held_any _ _ _ m _ _ H2.out).mono ?_
  rintro e w' ⟨rfl, rfl⟩
  go_wp2_with fail
  refine (toIntF_any a n cap f hn _ (HI.out.below HB.out (Nat.le_refl _))).mono ?_
  rintro e w11 ⟨rfl, hb11, hi11, _⟩
  have HI11 := Lib.hid hi11; replace H1 := Lib.hid (H1.out.next hb11); replace H2 := Lib.hid (H2.out.next hb11); replace HB := Lib.hid (below_onto HB.out hb11)
  clear hb11 hi11
  go_wp2_with fail
  refine (PiecesOf_any _ n n f x _ rfl hx.out _ HI11.out).mono ?_
  intro e w12 hg
  obtain ⟨a5, c5, rfl, h5, hb12⟩ := hg.has HL.out H64.out
  rw [HM.out]
  have H5 := Lib.hid h5; replace H1 := Lib.hid (H1.out.next hb12); replace H2 := Lib.hid (H2.out.next hb12); replace HB := Lib.hid (below_onto HB.out hb12)
  clear hg h5 hb12
  go_wp2_with fail
  refine (eqIntS_has _ _ m _ _ _ _ _ _ _ HM.out _ H5.out H1.out).mono ?_
  rintro e w13 ⟨rfl, hd⟩
  replace H2 := Lib.hid (H2.out.next hd.below); replace HB := Lib.hid (below_onto HB.out hd.below)
  clear hd
  go_wp2_with fail
  refine (held_any _ _ _ m _ _ H2.out).mono ?_
  rintro e w' ⟨rfl, rfl⟩
  go_wp2_with fail
  go_ret
  exact ⟨rfl, HB.out⟩

set_option maxRecDepth 100000 in
set_option maxHeartbeats 800000 in
theorem exactPiecesOf_big (a : Option Addr) (n cap : Nat) (x : Int) (hn : 1048576 < n) (hm : n ≤ 9223372036854775807) (w : World) :
    Calls Try.prog 9 #[.slice a n cap, .int .i64 x] w (TrueEnd w) := by
  go_enter Try.func9, Try.ntmps9
  go_wp2_with fail
  go_ret
  exact ⟨rfl, Below.refl _ _⟩

theorem exactPiecesOf (a : Option Addr) (n cap : Nat) (f : Nat → Int) (x : Int) (hx : Hid (I64 x)) (w : World) (hi : Ints w a n f) :
    Calls Try.prog 9 #[.slice a n cap, .int .i64 x] w (TrueEnd w) := by
  by_cases hn : n ≤ 1048576
  · exact exactPiecesOf_in a n cap f x hx hn w hi
  · exact exactPiecesOf_big a n cap x (by omega) hi.1.1 w


set_option maxRecDepth 100000 in
set_option maxHeartbeats 6400000 in
theorem exactHolesOf_in (a : Option Addr) (n cap : Nat)  (f : Nat → Int) (x : Int) (hx : Hid (I64 x)) (hn : n ≤ 1048576) (w : World) (hi : Ints w a n f) :
    Calls Try.prog 10 #[.slice a n cap, .int .i64 x] w (TrueEnd w) := by
  have hnot : ∀ (x : Bool) (w : World), (Op.unary .not (.bool x)).run Try.prog w = .ok (.bool (!x)) w := fun _ _ => rfl
  obtain ⟨hl, h64⟩ := hoV_I64 hi.i64 hx.out
  obtain ⟨m, hm⟩ : ∃ m, (hoV n f x).length = m := ⟨_, rfl⟩
  have HM := Lib.hid hm; have HL := Lib.hid hl; have H64 := Lib.hid h64; have HI := Lib.hid hi
  have hm1 : ¬ ((m : Int) + 1 < 0) := by omega
  have hn1 : ¬ ((n : Int) + 1 < 0) := by omega
  have hne : (((m : Int) + 1) != ((m : Int) + 1)) = false := by simp
  clear hm hl h64 hi
  go_enter Try.func10, Try.ntmps10
  go_wp2_with fail
  refine (toIntF_any a n cap f hn _ HI.out).mono ?_
  rintro e w1 ⟨rfl, hb1, hi1, _⟩
  have HB := Lib.hid hb1; have HI1 := Lib.hid hi1; have HS1 := Lib.hid hb1.size; clear hb1 hi1
  go_wp2_with fail
  refine (specHolesOf_any _ n n f x _ rfl hx.out _ HI1.out).mono ?_
  intro e w2 hg
  obtain ⟨a1, c1, rfl, h1, hb2⟩ := hg.has HL.out H64.out
  rw [HM.out]
  have H1 := Lib.hid h1; have HS2 := Lib.hid hb2.size; replace HB := Lib.hid (below_onto HB.out hb2); clear hg h1 hb2 HI1
  go_wp2_with fail
  refine (toIntF_any a n cap f hn _ (HI.out.below HB.out (Nat.le_refl _))).mono ?_
  rintro e w3 ⟨rfl, hb3, hi3, hx3⟩
  have HI3 := Lib.hid hi3; have HX := Lib.hid hx3; have HS3 := Lib.hid hb3.size; replace H1 := Lib.hid (H1.out.next hb3); replace HB := Lib.hid (below_onto HB.out hb3); clear hb3 hi3 hx3
  go_wp2_with fail
  refine (HolesOf_any _ n n f x _ rfl hx.out _ HI3.out).mono ?_
  intro e w4 hg
  obtain ⟨a2, c2, rfl, h2, hb4⟩ := hg.has HL.out H64.out
  rw [HM.out]
  have H2 := Lib.hid h2; have HS4 := Lib.hid hb4.size; replace H1 := Lib.hid (H1.out.next hb4); replace HX := Lib.hid (HX.out.next hb4); replace HI3 := Lib.hid (HI3.out.next hb4); replace HB := Lib.hid (below_onto HB.out hb4); clear hg h2 hb4
  go_wp2_with fail
  refine (eqIntS_has _ _ m _ _ _ _ _ _ _ HM.out _ H2.out H1.out).mono ?_
  rintro e w5 ⟨rfl, hd⟩
  replace H1 := Lib.hid (H1.out.next hd.below); replace H2 := Lib.hid (H2.out.next hd.below); replace HX := Lib.hid (HX.out.next hd.below); replace HI3 := Lib.hid (HI3.out.next hd.below); replace HB := Lib.hid (below_onto HB.out hd.below)
  clear hd
  go_wp2_with fail
  refine (toIntF_any a n cap f hn _ (HI.out.below HB.out (Nat.le_refl _))).mono ?_
  rintro e w6 ⟨rfl, hb6, hi6, _⟩
  have HI6 := Lib.hid hi6; replace H1 := Lib.hid (H1.out.next hb6); replace H2 := Lib.hid (H2.out.next hb6); replace HX := Lib.hid (HX.out.next hb6); replace HI3 := Lib.hid (HI3.out.next hb6); replace HB := Lib.hid (below_onto HB.out hb6)
  clear hb6 hi6
  go_wp2_with fail
  refine (eqIntS_any _ _ _ _ n f hn _ HI3.out HI6.out).mono ?_
  rintro e w7 ⟨rfl, hd⟩
  replace H1 := Lib.hid (H1.out.next hd.below); replace H2 := Lib.hid (H2.out.next hd.below); replace HX := Lib.hid (HX.out.next hd.below); replace HB := Lib.hid (below_onto HB.out hd.below)
  clear hd HI3 HI6
  go_wp2_with fail
  refine (mark_any _ _ _ n _ _ (rowL_len f n) _ HX.out).mono ?_
  rintro e w8 ⟨rfl, hb, _⟩
  replace H1 := Lib.hid (H1.out.apart hb (.inl (Nat.le_refl _))); replace H2 := Lib.hid (H2.out.apart hb (.inr (Nat.le_refl _)))
  replace HB := Lib.hid (HB.out.trans (hb.below (C := w.heap.size) (Nat.le_trans HS1.out HS2.out) HB.out.size))
  clear hb HX
  go_wp2_with fail
  refine (eqIntS_has _ _ m _ _ _ _ _ _ _ HM.out _ H2.out H1.out).mono ?_
  rintro e w9 ⟨rfl, hd⟩
  replace H1 := Lib.hid (H1.out.next hd.below); replace H2 := Lib.hid (H2.out.next hd.below); replace HB := Lib.hid (below_onto HB.out hd.below)
  clear hd
  go_wp2_with fail
  refine (mark_any _ _ _ m _ _ HM.out _ H2.out).mono ?_
  rintro e w10 ⟨rfl, hb, h2⟩
  replace H1 := Lib.hid (H1.out.apart hb (.inl HS3.out)); replace H2 := Lib.hid h2
  replace HB := Lib.hid (HB.out.trans (hb.below (C := w.heap.size) (Nat.le_trans HS1.out (Nat.le_trans HS2.out HS3.out)) HB.out.size))
  clear hb h2
  go_wp2_with fail
  refine (held_any _ _ _ m _ _ H2.out).mono ?_
  rintro e w' ⟨rfl, rfl⟩
  go_wp2_with fail
  refine (toIntF_any a n cap f hn _ (HI.out.below HB.out (Nat.le_refl _))).mono ?_
  rintro e w11 ⟨rfl, hb11, hi11, _⟩
  have HI11 := Lib.hid hi11; replace H1 := Lib.hid (H1.out.next hb11); replace H2 := Lib.hid (H2.out.next hb11); replace HB := Lib.hid (below_onto HB.out hb11)
  clear hb11 hi11
  go_wp2_with fail
  refine (HolesOf_any _ n n f x _ rfl hx.out _ HI11.out).mono ?_
  intro e w12 hg
  obtain ⟨a5, c5, rfl, h5, hb12⟩ := hg.has HL.out H64.out
  rw [HM.out]
  have H5 := Lib.hid h5; replace H1 := Lib.hid (H1.out.next hb12); replace H2 := Lib.hid (H2.out.next hb12); replace HB := Lib.hid (below_onto HB.out hb12)
  clear hg h5 hb12
  go_wp2_with fail
  refine (eqIntS_has _ _ m _ _ _ _ _ _ _ HM.out _ H5.out H1.out).mono ?_
  rintro e w13 ⟨rfl, hd⟩
  replace H2 := Lib.hid (H2.out.next hd.below); replace HB := Lib.hid (below_onto HB.out hd.below)
  clear hd
  go_wp2_with fail
  refine (held_any _ _ _ m _ _ H2.out).mono ?_
  rintro e w' ⟨rfl, rfl⟩
  go_wp2_with fail
  go_ret
  exact ⟨rfl, HB.out⟩

set_option maxRecDepth 100000 in
set_option maxHeartbeats 800000 in
theorem exactHolesOf_big (a : Option Addr) (n cap : Nat) (x : Int) (hn : 1048576 < n) (hm : n ≤ 9223372036854775807) (w : World) :
    Calls Try.prog 10 #[.slice a n cap, .int .i64 x] w (TrueEnd w) := by
  go_enter Try.func10, Try.ntmps10
  go_wp2_with fail
  go_ret
  exact ⟨rfl, Below.refl _ _⟩

theorem exactHolesOf (a : Option Addr) (n cap : Nat) (f : Nat → Int) (x : Int) (hx : Hid (I64 x)) (w : World) (hi : Ints w a n f) :
    Calls Try.prog 10 #[.slice a n cap, .int .i64 x] w (TrueEnd w) := by
  by_cases hn : n ≤ 1048576
  · exact exactHolesOf_in a n cap f x hx hn w hi
  · exact exactHolesOf_big a n cap x (by omega) hi.1.1 w


end Go.Proofs.Ytacoeaoaabjkoaa
