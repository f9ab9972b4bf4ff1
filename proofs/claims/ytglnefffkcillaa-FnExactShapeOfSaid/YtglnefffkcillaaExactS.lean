import Derived.Test.YtglnefffkcillaaWdF
import Derived.Test.YtglnefffkcillaaHeldX
namespace Go.Proofs.Ytglnefffkcillaa
set_option linter.unusedVariables false
set_option linter.unusedSimpArgs false
open Go.RowKit

set_option maxRecDepth 100000 in
set_option maxHeartbeats 6400000 in
theorem exactShapeOf_in (a : Option Addr) (n cap : Nat) (f : Nat → Int) (hn : n ≤ 1048576) (w : World) (hi : Ints w a n f) :
    Calls Try.prog 11 #[.slice a n cap] w (TrueEnd w) := by
  have hnot : ∀ (x : Bool) (w : World), (Op.unary .not (.bool x)).run Try.prog w = .ok (.bool (!x)) w := fun _ _ => rfl
  obtain ⟨hl, h64⟩ := shV_I64 hi.i64
  obtain ⟨m, hm⟩ : ∃ m, (shV n f).length = m := ⟨_, rfl⟩
  have HM := Lib.hid hm; have HL := Lib.hid hl; have H64 := Lib.hid h64; have HI := Lib.hid hi
  have hm1 : ¬ ((m : Int) + 1 < 0) := by omega
  have hn1 : ¬ ((n : Int) + 1 < 0) := by omega
  have hne : (((m : Int) + 1) != ((m : Int) + 1)) = false := by simp
  clear hm hl h64 hi
  go_enter Try.func11, Try.ntmps11
  go_wp2_with fail
  refine (toIntF_any a n cap f hn _ HI.out).mono ?_
  rintro e w1 ⟨rfl, hb1, hi1, _⟩
  have HB := Lib.hid hb1; have HI1 := Lib.hid hi1; have HS1 := Lib.hid hb1.size; clear hb1 hi1
  go_wp2_with fail
  refine (specShapeOf_any _ n n f _ HI1.out).mono ?_
  intro e w2 hg
  obtain ⟨a1, c1, rfl, h1, hb2⟩ := hg.has HL.out H64.out
  rw [HM.out]
  have H1 := Lib.hid h1; have HS2 := Lib.hid hb2.size; replace HB := Lib.hid (below_onto HB.out hb2); clear hg h1 hb2 HI1
  go_wp2_with fail
  refine (toIntF_any a n cap f hn _ (HI.out.below HB.out (Nat.le_refl _))).mono ?_
  rintro e w3 ⟨rfl, hb3, hi3, hx3⟩
  have HI3 := Lib.hid hi3; have HX := Lib.hid hx3; have HS3 := Lib.hid hb3.size; replace H1 := Lib.hid (H1.out.next hb3); replace HB := Lib.hid (below_onto HB.out hb3); clear hb3 hi3 hx3
  go_wp2_with fail
  refine (ShapeOf_any _ n n f _ HI3.out).mono ?_
  intro e w4 hg
  obtain ⟨a2, c2, rfl, h2, hb4⟩ := hg.has HL.out H64.out
  rw [HM.out]
  have H2 := Lib.hid h2; have HS4 := Lib.hid hb4.size; replace H1 := Lib.hid (H1.out.next hb4); replace HX := Lib.hid (HX.out.next hb4); replace HI3 := Lib.hid (HI3.out.next hb4); replace HB := Lib.hid (below_onto HB.out hb4); clear hg h2 hb4
  go_wp2_with fail
  refine (eqIntS_has _ _ m _ _ _ _ _ _ _ HM.out _ H2.out H1.out).mono ?_
  rintro e w5 ⟨rfl, hd⟩
  replace H1 := Lib.hid (H1.out.next hd.below); replace H2 := Lib.hid (H2.out.next hd.below); replace HX := Lib.hid (HX.out.next hd.below); replace HI3 := Lib.hid (HI3.out.next hd.below); replace HB := Lib.hid (below_onto HB.out hd.below)
  clear hd
  go_wp2_with fail
  refine (toIntF_any a n cap f hn _ (HI.out.below HB.out (Nat.le_refl _))).mono ?_
  rintro e w6 ⟨rfl, hb6, hi6, _⟩
  have HI6 := Lib.hid hi6; replace H1 := Lib.hid (H1.out.next hb6); replace H2 := Lib.hid (H2.out.next hb6); replace HX := Lib.hid (HX.out.next hb6); replace HI3 := Lib.hid (HI3.out.next hb6); replace HB := Lib.hid (below_onto HB.out hb6)
  clear hb6 hi6
  go_wp2_with fail
  refine (eqIntS_any _ _ _ _ n f hn _ HI3.out HI6.out).mono ?_
  rintro e w7 ⟨rfl, hd⟩
  replace H1 := Lib.hid (H1.out.next hd.below); replace H2 := Lib.hid (H2.out.next hd.below); replace HX := Lib.hid (HX.out.next hd.below); replace HB := Lib.hid (below_onto HB.out hd.below)
  clear hd HI3 HI6
  go_wp2_with fail
  refine (mark_any _ _ _ n _ _ (rowL_len f n) _ HX.out).mono ?_
  rintro e w8 ⟨rfl, hb, _⟩
  replace H1 := Lib.hid (H1.out.apart hb (.inl (Nat.le_refl _))); replace H2 := Lib.hid (H2.out.apart hb (.inr (Nat.le_refl _)))
  replace HB := Lib.hid (HB.out.trans (hb.below (C := w.heap.size) (Nat.le_trans HS1.out HS2.out) HB.out.size))
  clear hb HX
  go_wp2_with fail
  refine (eqIntS_has _ _ m _ _ _ _ _ _ _ HM.out _ H2.out H1.out).mono ?_
  rintro e w9 ⟨rfl, hd⟩
  replace H1 := Lib.hid (H1.out.next hd.below); replace H2 := Lib.hid (H2.out.next hd.below); replace HB := Lib.hid (below_onto HB.out hd.below)
  clear hd
  go_wp2_with fail
  refine (mark_any _ _ _ m _ _ HM.out _ H2.out).mono ?_
  rintro e w10 ⟨rfl, hb, h2⟩
  replace H1 := Lib.hid (H1.out.apart hb (.inl HS3.out)); replace H2 := Lib.hid h2
  replace HB := Lib.hid (HB.out.trans (hb.below (C := w.heap.size) (Nat.le_trans HS1.out (Nat.le_trans HS2.out HS3.out)) HB.out.size))
  clear hb h2
  go_wp2_with fail
  refine (held_any _ _ _ m _ _ H2.out).mono ?_
  rintro e w' ⟨rfl, rfl⟩
  go_wp2_with fail
  refine (toIntF_any a n cap f hn _ (HI.out.below HB.out (Nat.le_refl _))).mono ?_
  rintro e w11 ⟨rfl, hb11, hi11, _⟩
  have HI11 := Lib.hid hi11; replace H1 := Lib.hid (H1.out.next hb11); replace H2 := Lib.hid (H2.out.next hb11); replace HB := Lib.hid (below_onto HB.out hb11)
  clear hb11 hi11
  go_wp2_with fail
  refine (ShapeOf_any _ n n f _ HI11.out).mono ?_
  intro e w12 hg
  obtain ⟨a5, c5, rfl, h5, hb12⟩ := hg.has HL.out H64.out
  rw [HM.out]
  have H5 := Lib.hid h5; replace H1 := Lib.hid (H1.out.next hb12); replace H2 := Lib.hid (H2.out.next hb12); replace HB := Lib.hid (below_onto HB.out hb12)
  clear hg h5 hb12
  go_wp2_with fail
  refine (eqIntS_has _ _ m _ _ _ _ _ _ _ HM.out _ H5.out H1.out).mono ?_
  rintro e w13 ⟨rfl, hd⟩
  replace H2 := Lib.hid (H2.out.next hd.below); replace HB := Lib.hid (below_onto HB.out hd.below)
  clear hd
  go_wp2_with fail
  refine (held_any _ _ _ m _ _ H2.out).mono ?_
  rintro e w' ⟨rfl, rfl⟩
  go_wp2_with fail
  go_ret
  exact ⟨rfl, HB.out⟩

set_option maxRecDepth 100000 in
set_option maxHeartbeats 800000 in
theorem exactShapeOf_big (a : Option Addr) (n cap : Nat) (hn : 1048576 < n) (hm : n ≤ 9223372036854775807) (w : World) :
    Calls Try.prog 11 #[.slice a n cap] w (TrueEnd w) := by
  go_enter Try.func11, Try.ntmps11
  go_wp2_with fail
  go_ret
  exact ⟨rfl, Below.refl _ _⟩

theorem exactShapeOf (a : Option Addr) (n cap : Nat) (f : Nat → Int) (w : World) (hi : Ints w a n f) :
    Calls Try.prog 11 #[.slice a n cap] w (TrueEnd w) := by
  by_cases hn : n ≤ 1048576
  · exact exactShapeOf_in a n cap f hn w hi
  · exact exactShapeOf_big a n cap (by omega) hi.1.1 w
end Go.Proofs.Ytglnefffkcillaa
