import Derived.Test.YtibjdmmcnhlgnaaPlZ
namespace Go.Proofs.Ytibjdmmcnhlgnaa
set_option linter.unusedVariables false
set_option linter.unusedSimpArgs false
open Go.RowKit Go.Maps

set_option maxRecDepth 100000 in
set_option maxHeartbeats 6400000 in
theorem exactShipOk_in (a : Option Addr) (n cap : Nat) (f : Nat → Int) (hn : n ≤ 1048576) (w : World) (hi : Ints w a n f) :
    Calls Try.prog 10 #[.slice a n cap] w (TrueEnd w) := by
  have HI := Lib.hid hi; clear hi
  go_enter Try.func10, Try.ntmps10
  go_wp2_with fail
  refine (toIntF_any a n cap f (by omega) _ HI.out).mono ?_
  rintro e w1 ⟨rfl, hb1, hi1, hx1⟩
  have X0 := Lib.hid hi1
  have HB := Lib.hid hb1
  clear hb1 hi1 hx1
  go_wp2_with fail
  refine (specShipOk_any _ n n f _ X0.out).mono ?_
  rintro e w2 ⟨rfl, hd2⟩
  replace X0 := Lib.hid (X0.out.next hd2.below); replace HB := Lib.hid (below_onto HB.out hd2.below)
  clear hd2
  clear X0
  go_wp2_with fail
  refine (toIntF_any a n cap f (by omega) _ (HI.out.below HB.out (Nat.le_refl _))).mono ?_
  rintro e w3 ⟨rfl, hb3, hi3, hx3⟩
  have X1 := Lib.hid hi3
  replace HB := Lib.hid (below_onto HB.out hb3)
  clear hb3 hi3 hx3
  go_wp2_with fail
  refine (ShipOk_any _ n n f (Nat.le_refl _) _ X1.out).mono ?_
  rintro e w' ⟨rfl, rfl⟩
  have hne : (shipB n f != shipB n f) = false := by simp
  go_wp2_with fail
  refine (toIntF_any a n cap f (by omega) _ (HI.out.below HB.out (Nat.le_refl _))).mono ?_
  rintro e w4 ⟨rfl, hb4, hi4, hx4⟩
  have X2 := Lib.hid hi4
  replace X1 := Lib.hid (X1.out.next hb4); replace HB := Lib.hid (below_onto HB.out hb4)
  clear hb4 hi4 hx4
  go_wp2_with fail
  refine (eqIntS_any _ _ _ _ n f (by omega) _ X1.out X2.out).mono ?_
  rintro e w5 ⟨rfl, hd5⟩
  replace X1 := Lib.hid (X1.out.next hd5.below); replace X2 := Lib.hid (X2.out.next hd5.below); replace HB := Lib.hid (below_onto HB.out hd5.below)
  clear hd5
  go_wp2_with fail
  go_ret
  exact ⟨rfl, HB.out⟩

theorem exactShipOk (a : Option Addr) (n cap : Nat) (f : Nat → Int) (w : World) (hi : Ints w a n f) :
    Calls Try.prog 10 #[.slice a n cap] w (TrueEnd w) := by
  by_cases hn : n ≤ 1048576
  · exact exactShipOk_in a n cap f hn w hi
  · have hm := hi.1.1
    clear hi
    go_enter Try.func10, Try.ntmps10
    go_wp2_with fail
    go_ret
    exact ⟨rfl, Below.refl _ _⟩

set_option maxRecDepth 100000 in
set_option maxHeartbeats 6400000 in
theorem exactCommonIn_in (a b : Option Addr) (n c m c2 : Nat) (f g : Nat → Int) (hn : n ≤ 1048576) (hm : m ≤ 1048576) (w : World) (hi : Ints w a n f) (hj : Ints w b m g) :
    Calls Try.prog 11 #[.slice a n c, .slice b m c2] w (TrueEnd w) := by
  have HI := Lib.hid hi; have HJ := Lib.hid hj; clear hi hj
  go_enter Try.func11, Try.ntmps11
  go_wp2_with fail
  refine (toIntF_any a n c f (by omega) _ HI.out).mono ?_
  rintro e w1 ⟨rfl, hb1, hi1, hx1⟩
  have X0 := Lib.hid hi1
  have HB := Lib.hid hb1
  clear hb1 hi1 hx1
  go_wp2_with fail
  refine (toIntF_any b m c2 g (by omega) _ (HJ.out.below HB.out (Nat.le_refl _))).mono ?_
  rintro e w2 ⟨rfl, hb2, hi2, hx2⟩
  have Y0 := Lib.hid hi2
  replace X0 := Lib.hid (X0.out.next hb2); replace HB := Lib.hid (below_onto HB.out hb2)
  clear hb2 hi2 hx2
  go_wp2_with fail
  refine (specCommonIn_any _ _ n n m m f g _ X0.out Y0.out).mono ?_
  rintro e w3 ⟨rfl, hd3⟩
  replace X0 := Lib.hid (X0.out.next hd3.below); replace Y0 := Lib.hid (Y0.out.next hd3.below); replace HB := Lib.hid (below_onto HB.out hd3.below)
  clear hd3
  clear X0 Y0
  go_wp2_with fail
  refine (toIntF_any a n c f (by omega) _ (HI.out.below HB.out (Nat.le_refl _))).mono ?_
  rintro e w4 ⟨rfl, hb4, hi4, hx4⟩
  have X1 := Lib.hid hi4
  replace HB := Lib.hid (below_onto HB.out hb4)
  clear hb4 hi4 hx4
  go_wp2_with fail
  refine (toIntF_any b m c2 g (by omega) _ (HJ.out.below HB.out (Nat.le_refl _))).mono ?_
  rintro e w5 ⟨rfl, hb5, hi5, hx5⟩
  have Y1 := Lib.hid hi5
  replace X1 := Lib.hid (X1.out.next hb5); replace HB := Lib.hid (below_onto HB.out hb5)
  clear hb5 hi5 hx5
  go_wp2_with fail
  refine (CommonIn_any _ _ n n m m f g (Nat.le_refl _) (Nat.le_refl _) _ X1.out Y1.out).mono ?_
  rintro e w' ⟨rfl, rfl⟩
  have hne : (cmI n f m g != cmI n f m g) = false := by simp
  go_wp2_with fail
  refine (toIntF_any a n c f (by omega) _ (HI.out.below HB.out (Nat.le_refl _))).mono ?_
  rintro e w6 ⟨rfl, hb6, hi6, hx6⟩
  have X2 := Lib.hid hi6
  replace X1 := Lib.hid (X1.out.next hb6); replace Y1 := Lib.hid (Y1.out.next hb6); replace HB := Lib.hid (below_onto HB.out hb6)
  clear hb6 hi6 hx6
  go_wp2_with fail
  refine (eqIntS_any _ _ _ _ n f (by omega) _ X1.out X2.out).mono ?_
  rintro e w7 ⟨rfl, hd7⟩
  replace X1 := Lib.hid (X1.out.next hd7.below); replace Y1 := Lib.hid (Y1.out.next hd7.below); replace X2 := Lib.hid (X2.out.next hd7.below); replace HB := Lib.hid (below_onto HB.out hd7.below)
  clear hd7
  clear X2
  go_wp2_with fail
  refine (toIntF_any b m c2 g (by omega) _ (HJ.out.below HB.out (Nat.le_refl _))).mono ?_
  rintro e w8 ⟨rfl, hb8, hi8, hx8⟩
  have Y2 := Lib.hid hi8
  replace X1 := Lib.hid (X1.out.next hb8); replace Y1 := Lib.hid (Y1.out.next hb8); replace HB := Lib.hid (below_onto HB.out hb8)
  clear hb8 hi8 hx8
  go_wp2_with fail
  refine (eqIntS_any _ _ _ _ m g (by omega) _ Y1.out Y2.out).mono ?_
  rintro e w9 ⟨rfl, hd9⟩
  replace X1 := Lib.hid (X1.out.next hd9.below); replace Y1 := Lib.hid (Y1.out.next hd9.below); replace Y2 := Lib.hid (Y2.out.next hd9.below); replace HB := Lib.hid (below_onto HB.out hd9.below)
  clear hd9
  go_wp2_with fail
  go_ret
  exact ⟨rfl, HB.out⟩

theorem exactCommonIn (a b : Option Addr) (n c m c2 : Nat) (f g : Nat → Int) (w : World) (hi : Ints w a n f) (hj : Ints w b m g) :
    Calls Try.prog 11 #[.slice a n c, .slice b m c2] w (TrueEnd w) := by
  have hnm := hi.1.1
  have hmm := hj.1.1
  by_cases hn : n ≤ 1048576
  · by_cases hm : m ≤ 1048576
    · exact exactCommonIn_in a b n c m c2 f g hn hm w hi hj
    · clear hi hj
      go_enter Try.func11, Try.ntmps11
      go_wp2_with fail
      go_ret
      exact ⟨rfl, Below.refl _ _⟩
  · clear hi hj
    go_enter Try.func11, Try.ntmps11
    go_wp2_with fail
    go_ret
    exact ⟨rfl, Below.refl _ _⟩

set_option maxRecDepth 100000 in
set_option maxHeartbeats 6400000 in
theorem exactMostlyOk_in (a b : Option Addr) (n c m c2 : Nat) (f g : Nat → Int) (but : Int) (hn : n ≤ 1048576) (hm : m ≤ 1048576) (w : World) (hi : Ints w a n f) (hj : Ints w b m g) :
    Calls Try.prog 12 #[.slice a n c, .slice b m c2, .int .i64 but] w (TrueEnd w) := by
  have HI := Lib.hid hi; have HJ := Lib.hid hj; clear hi hj
  go_enter Try.func12, Try.ntmps12
  go_wp2_with fail
  refine (toIntF_any a n c f (by omega) _ HI.out).mono ?_
  rintro e w1 ⟨rfl, hb1, hi1, hx1⟩
  have X0 := Lib.hid hi1
  have HB := Lib.hid hb1
  clear hb1 hi1 hx1
  go_wp2_with fail
  refine (toIntF_any b m c2 g (by omega) _ (HJ.out.below HB.out (Nat.le_refl _))).mono ?_
  rintro e w2 ⟨rfl, hb2, hi2, hx2⟩
  have Y0 := Lib.hid hi2
  replace X0 := Lib.hid (X0.out.next hb2); replace HB := Lib.hid (below_onto HB.out hb2)
  clear hb2 hi2 hx2
  go_wp2_with fail
  refine (specMostlyOk_any _ _ n n m m f g but _ X0.out Y0.out).mono ?_
  rintro e w3 ⟨rfl, hd3⟩
  replace X0 := Lib.hid (X0.out.next hd3.below); replace Y0 := Lib.hid (Y0.out.next hd3.below); replace HB := Lib.hid (below_onto HB.out hd3.below)
  clear hd3
  clear X0 Y0
  go_wp2_with fail
  refine (toIntF_any a n c f (by omega) _ (HI.out.below HB.out (Nat.le_refl _))).mono ?_
  rintro e w4 ⟨rfl, hb4, hi4, hx4⟩
  have X1 := Lib.hid hi4
  replace HB := Lib.hid (below_onto HB.out hb4)
  clear hb4 hi4 hx4
  go_wp2_with fail
  refine (toIntF_any b m c2 g (by omega) _ (HJ.out.below HB.out (Nat.le_refl _))).mono ?_
  rintro e w5 ⟨rfl, hb5, hi5, hx5⟩
  have Y1 := Lib.hid hi5
  replace X1 := Lib.hid (X1.out.next hb5); replace HB := Lib.hid (below_onto HB.out hb5)
  clear hb5 hi5 hx5
  go_wp2_with fail
  refine (MostlyOk_any _ _ n n m m f g but (Nat.le_refl _) (Nat.le_refl _) _ X1.out Y1.out).mono ?_
  rintro e w' ⟨rfl, rfl⟩
  have hne : (moB n f m g but != moB n f m g but) = false := by simp
  go_wp2_with fail
  refine (toIntF_any a n c f (by omega) _ (HI.out.below HB.out (Nat.le_refl _))).mono ?_
  rintro e w6 ⟨rfl, hb6, hi6, hx6⟩
  have X2 := Lib.hid hi6
  replace X1 := Lib.hid (X1.out.next hb6); replace Y1 := Lib.hid (Y1.out.next hb6); replace HB := Lib.hid (below_onto HB.out hb6)
  clear hb6 hi6 hx6
  go_wp2_with fail
  refine (eqIntS_any _ _ _ _ n f (by omega) _ X1.out X2.out).mono ?_
  rintro e w7 ⟨rfl, hd7⟩
  replace X1 := Lib.hid (X1.out.next hd7.below); replace Y1 := Lib.hid (Y1.out.next hd7.below); replace X2 := Lib.hid (X2.out.next hd7.below); replace HB := Lib.hid (below_onto HB.out hd7.below)
  clear hd7
  clear X2
  go_wp2_with fail
  refine (toIntF_any b m c2 g (by omega) _ (HJ.out.below HB.out (Nat.le_refl _))).mono ?_
  rintro e w8 ⟨rfl, hb8, hi8, hx8⟩
  have Y2 := Lib.hid hi8
  replace X1 := Lib.hid (X1.out.next hb8); replace Y1 := Lib.hid (Y1.out.next hb8); replace HB := Lib.hid (below_onto HB.out hb8)
  clear hb8 hi8 hx8
  go_wp2_with fail
  refine (eqIntS_any _ _ _ _ m g (by omega) _ Y1.out Y2.out).mono ?_
  rintro e w9 ⟨rfl, hd9⟩
  replace X1 := Lib.hid (X1.out.next hd9.below); replace Y1 := Lib.hid (Y1.out.next hd9.below); replace Y2 := Lib.hid (Y2.out.next hd9.below); replace HB := Lib.hid (below_onto HB.out hd9.below)
  clear hd9
  go_wp2_with fail
  go_ret
  exact ⟨rfl, HB.out⟩

theorem exactMostlyOk (a b : Option Addr) (n c m c2 : Nat) (f g : Nat → Int) (but : Int) (w : World) (hi : Ints w a n f) (hj : Ints w b m g) :
    Calls Try.prog 12 #[.slice a n c, .slice b m c2, .int .i64 but] w (TrueEnd w) := by
  have hnm := hi.1.1
  have hmm := hj.1.1
  by_cases hn : n ≤ 1048576
  · by_cases hm : m ≤ 1048576
    · exact exactMostlyOk_in a b n c m c2 f g but hn hm w hi hj
    · clear hi hj
      go_enter Try.func12, Try.ntmps12
      go_wp2_with fail
      go_ret
      exact ⟨rfl, Below.refl _ _⟩
  · clear hi hj
    go_enter Try.func12, Try.ntmps12
    go_wp2_with fail
    go_ret
    exact ⟨rfl, Below.refl _ _⟩

set_option maxRecDepth 100000 in
set_option maxHeartbeats 6400000 in
theorem exactBuiltAgain_in (a b : Option Addr) (n c m c2 : Nat) (f P Q : Nat → Int) (hn : n ≤ 1048576) (hm : m ≤ 1048576) (w : World) (hi : Ints w a n f) (hp : Prs w b m P Q) :
    Calls Try.prog 16 #[.slice a n c, .slice b m c2] w (TrueEnd w) := by
  have hnot : ∀ (x : Bool) (w : World), (Op.unary .not (.bool x)).run Try.prog w = .ok (.bool (!x)) w := fun _ _ => rfl
  have HI := Lib.hid hi; have HP := Lib.hid hp
  clear hi hp
  have hsz : decide ((1048576 : Int) - (m : Int) < 0) = false := by simp; omega
  go_enter Try.func16, Try.ntmps16
  go_wp2_with fail
  refine (szChangeS_any b m c2 1048576 (by omega) HP.out.1.1 _).mono ?_
  rintro e w' ⟨rfl, rfl⟩
  rw [if_neg (by omega)]
  go_wp2_with fail
  refine (toIntF_any a n c f (by omega) _ HI.out).mono ?_
  rintro e w1 ⟨rfl, hb1, hi1, hx1⟩
  have X0 := Lib.hid hi1
  have HB := Lib.hid hb1
  clear hb1 hi1 hx1
  go_wp2_with fail
  refine (toChangeS_any b m c2 P Q (by omega) _ (HP.out.below HB.out (Nat.le_refl _))).mono ?_
  rintro e w2 ⟨rfl, hb2, hr2⟩
  have Y0 := Lib.hid (CopiedP.prs hr2 HP.out.1); have Z0 := Lib.hid hr2
  replace X0 := Lib.hid (X0.out.next hb2); replace HB := Lib.hid (below_onto HB.out hb2)
  clear hb2 hr2
  go_wp2_with fail
  refine (specBuiltAgain_any _ _ n n m m f P Q _ X0.out Y0.out).mono ?_
  rintro e w3 ⟨rfl, hb3⟩
  replace X0 := Lib.hid (X0.out.next hb3); replace Y0 := Lib.hid (Y0.out.next hb3); replace Z0 := Lib.hid (Z0.out.at (hb3.block _ Z0.out.lt)); replace HB := Lib.hid (below_onto HB.out hb3)
  clear hb3
  clear X0 Y0 Z0
  go_wp2_with fail
  refine (toIntF_any a n c f (by omega) _ (HI.out.below HB.out (Nat.le_refl _))).mono ?_
  rintro e w4 ⟨rfl, hb4, hi4, hx4⟩
  have X1 := Lib.hid hi4
  replace HB := Lib.hid (below_onto HB.out hb4)
  clear hb4 hi4 hx4
  go_wp2_with fail
  refine (toChangeS_any b m c2 P Q (by omega) _ (HP.out.below HB.out (Nat.le_refl _))).mono ?_
  rintro e w5 ⟨rfl, hb5, hr5⟩
  have Y1 := Lib.hid (CopiedP.prs hr5 HP.out.1); have Z1 := Lib.hid hr5
  replace X1 := Lib.hid (X1.out.next hb5); replace HB := Lib.hid (below_onto HB.out hb5)
  clear hb5 hr5
  go_wp2_with fail
  refine (BuiltAgain_any _ _ n n m m f P Q (Nat.le_refl _) _ X1.out Y1.out).mono ?_
  rintro e w6 ⟨rfl, hb6⟩
  replace X1 := Lib.hid (X1.out.next hb6); replace Y1 := Lib.hid (Y1.out.next hb6); replace Z1 := Lib.hid (Z1.out.at (hb6.block _ Z1.out.lt)); replace HB := Lib.hid (below_onto HB.out hb6)
  clear hb6
  have hne : (buB n f P Q m != buB n f P Q m) = false := by simp
  go_wp2_with fail
  refine (toIntF_any a n c f (by omega) _ (HI.out.below HB.out (Nat.le_refl _))).mono ?_
  rintro e w7 ⟨rfl, hb7, hi7, hx7⟩
  have X2 := Lib.hid hi7
  replace X1 := Lib.hid (X1.out.next hb7); replace Y1 := Lib.hid (Y1.out.next hb7); replace Z1 := Lib.hid (Z1.out.at (hb7.block _ Z1.out.lt)); replace HB := Lib.hid (below_onto HB.out hb7)
  clear hb7 hi7 hx7
  go_wp2_with fail
  refine (eqIntS_any _ _ _ _ n f (by omega) _ X1.out X2.out).mono ?_
  rintro e w8 ⟨rfl, hd8⟩
  replace X1 := Lib.hid (X1.out.next hd8.below); replace Y1 := Lib.hid (Y1.out.next hd8.below); replace Z1 := Lib.hid (Z1.out.at (hd8.below.block _ Z1.out.lt)); replace X2 := Lib.hid (X2.out.next hd8.below); replace HB := Lib.hid (below_onto HB.out hd8.below)
  clear hd8
  clear X2 X1
  go_wp2_with fail
  refine (toChangeS_any b m c2 P Q (by omega) _ (HP.out.below HB.out (Nat.le_refl _))).mono ?_
  rintro e w9 ⟨rfl, hb9, hr9⟩
  have Y2 := Lib.hid (CopiedP.prs hr9 HP.out.1); have Z2 := Lib.hid hr9
  replace Y1 := Lib.hid (Y1.out.next hb9); replace Z1 := Lib.hid (Z1.out.at (hb9.block _ Z1.out.lt)); replace HB := Lib.hid (below_onto HB.out hb9)
  clear hb9 hr9
  go_wp2_with fail
  refine (eqChangeS_any _ _ m _ _ P Q (by omega) _ Y1.out Y2.out).mono ?_
  rintro e w10 ⟨rfl, hb10⟩
  replace Y1 := Lib.hid (Y1.out.next hb10); replace Z1 := Lib.hid (Z1.out.at (hb10.block _ Z1.out.lt)); replace Y2 := Lib.hid (Y2.out.next hb10); replace Z2 := Lib.hid (Z2.out.at (hb10.block _ Z2.out.lt)); replace HB := Lib.hid (below_onto HB.out hb10)
  clear hb10
  go_wp2_with fail
  go_ret
  exact ⟨rfl, HB.out⟩

theorem exactBuiltAgain (a b : Option Addr) (n c m c2 : Nat) (f P Q : Nat → Int) (w : World) (hi : Ints w a n f) (hp : Prs w b m P Q) :
    Calls Try.prog 16 #[.slice a n c, .slice b m c2] w (TrueEnd w) := by
  have hnm := hi.1.1
  have hmm := hp.1.1
  by_cases hn : n ≤ 1048576
  · by_cases hm : m ≤ 1048576
    · exact exactBuiltAgain_in a b n c m c2 f P Q hn hm w hi hp
    · clear hi hp
      go_enter Try.func16, Try.ntmps16
      go_wp2_with fail
      refine (szChangeS_any b m c2 1048576 (by omega) hmm _).mono ?_
      rintro e w' ⟨rfl, rfl⟩
      rw [if_pos (by omega)]
      go_wp2_with fail
      go_ret
      exact ⟨rfl, Below.refl _ _⟩
  · clear hi hp
    go_enter Try.func16, Try.ntmps16
    go_wp2_with fail
    go_ret
    exact ⟨rfl, Below.refl _ _⟩

set_option maxRecDepth 100000 in
set_option maxHeartbeats 6400000 in
theorem exactTakenOut_in (a b : Option Addr) (n c m c2 : Nat) (f P Q : Nat → Int) (hn : n ≤ 1048576) (hm : m ≤ 1048576) (w : World) (hi : Ints w a n f) (hp : Prs w b m P Q) :
    Calls Try.prog 15 #[.slice a n c, .slice b m c2] w (TrueEnd w) := by
  have hnot : ∀ (x : Bool) (w : World), (Op.unary .not (.bool x)).run Try.prog w = .ok (.bool (!x)) w := fun _ _ => rfl
  have HI := Lib.hid hi; have HP := Lib.hid hp
  obtain ⟨hl, h64⟩ : (tyL n f P Q m).length ≤ 1000 ∧ ∀ x ∈ tyL n f P Q m, I64 x := ⟨by have := ty_len n f P Q m; omega, ty_64⟩
  obtain ⟨k, hk⟩ : ∃ k, (tyL n f P Q m).length = k := ⟨_, rfl⟩
  have HM := Lib.hid hk; have HL := Lib.hid hl; have H64 := Lib.hid h64
  have hm1 : ¬ ((k : Int) + 1 < 0) := by omega
  have hn1 : ¬ ((n : Int) + 1 < 0) := by omega
  have hne : (((k : Int) + 1) != ((k : Int) + 1)) = false := by simp
  clear hk hl h64
  clear hi hp
  have hsz : decide ((1048576 : Int) - (m : Int) < 0) = false := by simp; omega
  go_enter Try.func15, Try.ntmps15
  go_wp2_with fail
  refine (szChangeS_any b m c2 1048576 (by omega) HP.out.1.1 _).mono ?_
  rintro e w' ⟨rfl, rfl⟩
  rw [if_neg (by omega)]
  go_wp2_with fail
  refine (toIntF_any a n c f (by omega) _ HI.out).mono ?_
  rintro e w1 ⟨rfl, hb1, hi1, hx1⟩
  have X0 := Lib.hid hi1
  have HB := Lib.hid hb1
  have S1 := Lib.hid hb1.size
  clear hb1 hi1 hx1
  go_wp2_with fail
  refine (toChangeS_any b m c2 P Q (by omega) _ (HP.out.below HB.out (Nat.le_refl _))).mono ?_
  rintro e w2 ⟨rfl, hb2, hr2⟩
  have Y0 := Lib.hid (CopiedP.prs hr2 HP.out.1); have Z0 := Lib.hid hr2
  have S2 := Lib.hid hb2.size; have L2 := Lib.hid hr2.lt
  replace X0 := Lib.hid (X0.out.next hb2); replace HB := Lib.hid (below_onto HB.out hb2)
  clear hb2 hr2
  go_wp2_with fail
  refine (specTakenOut_any _ _ n n m m f P Q _ X0.out Y0.out).mono ?_
  intro e w3 hg
  obtain ⟨a3, c3, rfl, h3, hb3⟩ := hg.has HL.out H64.out
  rw [HM.out]
  have H1 := Lib.hid h3
  have S3 := Lib.hid hb3.size
  replace X0 := Lib.hid (X0.out.next hb3); replace Y0 := Lib.hid (Y0.out.next hb3); replace Z0 := Lib.hid (Z0.out.at (hb3.block _ Z0.out.lt)); replace HB := Lib.hid (below_onto HB.out hb3)
  clear hg h3 hb3
  clear X0 Y0 Z0
  go_wp2_with fail
  refine (toIntF_any a n c f (by omega) _ (HI.out.below HB.out (Nat.le_refl _))).mono ?_
  rintro e w4 ⟨rfl, hb4, hi4, hx4⟩
  have X1 := Lib.hid hi4; have XH := Lib.hid hx4
  replace H1 := Lib.hid (H1.out.next hb4); replace HB := Lib.hid (below_onto HB.out hb4)
  have S4 := Lib.hid hb4.size
  clear hb4 hi4 hx4
  go_wp2_with fail
  refine (toChangeS_any b m c2 P Q (by omega) _ (HP.out.below HB.out (Nat.le_refl _))).mono ?_
  rintro e w5 ⟨rfl, hb5, hr5⟩
  have Y1 := Lib.hid (CopiedP.prs hr5 HP.out.1); have Z1 := Lib.hid hr5
  have S5 := Lib.hid hb5.size; have L5 := Lib.hid hr5.lt
  replace H1 := Lib.hid (H1.out.next hb5); replace X1 := Lib.hid (X1.out.next hb5); replace XH := Lib.hid (XH.out.next hb5); replace HB := Lib.hid (below_onto HB.out hb5)
  clear hb5 hr5
  go_wp2_with fail
  refine (TakenOut_any _ _ n n m m f P Q (Nat.le_refl _) _ X1.out Y1.out).mono ?_
  intro e w6 hg
  obtain ⟨a6, c6, rfl, h6, hb6⟩ := hg.has HL.out H64.out
  rw [HM.out]
  have H2 := Lib.hid h6
  have S6 := Lib.hid hb6.size
  replace H1 := Lib.hid (H1.out.next hb6); replace X1 := Lib.hid (X1.out.next hb6); replace XH := Lib.hid (XH.out.next hb6); replace Y1 := Lib.hid (Y1.out.next hb6); replace Z1 := Lib.hid (Z1.out.at (hb6.block _ Z1.out.lt)); replace HB := Lib.hid (below_onto HB.out hb6)
  clear hg h6 hb6
  go_wp2_with fail
  refine (eqIntS_has _ _ k _ _ _ _ _ _ _ HM.out _ H2.out H1.out).mono ?_
  rintro e w7 ⟨rfl, hd7⟩
  replace H1 := Lib.hid (H1.out.next hd7.below); replace X1 := Lib.hid (X1.out.next hd7.below); replace XH := Lib.hid (XH.out.next hd7.below); replace Y1 := Lib.hid (Y1.out.next hd7.below); replace Z1 := Lib.hid (Z1.out.at (hd7.below.block _ Z1.out.lt)); replace H2 := Lib.hid (H2.out.next hd7.below); replace HB := Lib.hid (below_onto HB.out hd7.below)
  clear hd7
  go_wp2_with fail
  refine (toIntF_any a n c f (by omega) _ (HI.out.below HB.out (Nat.le_refl _))).mono ?_
  rintro e w8 ⟨rfl, hb8, hi8, hx8⟩
  have X2 := Lib.hid hi8
  replace H1 := Lib.hid (H1.out.next hb8); replace X1 := Lib.hid (X1.out.next hb8); replace XH := Lib.hid (XH.out.next hb8); replace Y1 := Lib.hid (Y1.out.next hb8); replace Z1 := Lib.hid (Z1.out.at (hb8.block _ Z1.out.lt)); replace H2 := Lib.hid (H2.out.next hb8); replace HB := Lib.hid (below_onto HB.out hb8)
  have S8 := Lib.hid hb8.size
  clear hb8 hi8 hx8
  go_wp2_with fail
  refine (eqIntS_any _ _ _ _ n f (by omega) _ X1.out X2.out).mono ?_
  rintro e w9 ⟨rfl, hd9⟩
  replace H1 := Lib.hid (H1.out.next hd9.below); replace X1 := Lib.hid (X1.out.next hd9.below); replace XH := Lib.hid (XH.out.next hd9.below); replace Y1 := Lib.hid (Y1.out.next hd9.below); replace Z1 := Lib.hid (Z1.out.at (hd9.below.block _ Z1.out.lt)); replace H2 := Lib.hid (H2.out.next hd9.below); replace X2 := Lib.hid (X2.out.next hd9.below); replace HB := Lib.hid (below_onto HB.out hd9.below)
  clear hd9
  clear X2 X1
  go_wp2_with fail
  refine (toChangeS_any b m c2 P Q (by omega) _ (HP.out.below HB.out (Nat.le_refl _))).mono ?_
  rintro e w10 ⟨rfl, hb10, hr10⟩
  have Y2 := Lib.hid (CopiedP.prs hr10 HP.out.1); have Z2 := Lib.hid hr10
  have S10 := Lib.hid hb10.size; have L10 := Lib.hid hr10.lt
  replace H1 := Lib.hid (H1.out.next hb10); replace XH := Lib.hid (XH.out.next hb10); replace Y1 := Lib.hid (Y1.out.next hb10); replace Z1 := Lib.hid (Z1.out.at (hb10.block _ Z1.out.lt)); replace H2 := Lib.hid (H2.out.next hb10); replace HB := Lib.hid (below_onto HB.out hb10)
  clear hb10 hr10
  go_wp2_with fail
  refine (eqChangeS_any _ _ m _ _ P Q (by omega) _ Y1.out Y2.out).mono ?_
  rintro e w11 ⟨rfl, hb11⟩
  replace H1 := Lib.hid (H1.out.next hb11); replace XH := Lib.hid (XH.out.next hb11); replace Y1 := Lib.hid (Y1.out.next hb11); replace Z1 := Lib.hid (Z1.out.at (hb11.block _ Z1.out.lt)); replace H2 := Lib.hid (H2.out.next hb11); replace Y2 := Lib.hid (Y2.out.next hb11); replace Z2 := Lib.hid (Z2.out.at (hb11.block _ Z2.out.lt)); replace HB := Lib.hid (below_onto HB.out hb11)
  clear hb11
  clear Y1 Y2 Z2
  go_wp2_with fail
  refine (mark_any _ _ _ n _ _ (rowL_len f n) _ XH.out).mono ?_
  rintro e wa ⟨rfl, hb, _⟩
  replace H1 := Lib.hid (H1.out.apart hb (.inl (Nat.le_refl _))); replace H2 := Lib.hid (H2.out.apart hb (.inr S5.out))
  replace Z1 := Lib.hid (Z1.out.at (hb.block _ Z1.out.lt (.inr (Nat.le_refl _))))
  replace HB := Lib.hid (HB.out.trans (hb.below (C := w.heap.size) (Nat.le_trans S1.out (Nat.le_trans S2.out S3.out)) HB.out.size))
  clear hb XH
  rw [show ((n : Int) + 1) = ((n + 1 : Nat) : Int) by omega]
  go_wp2_with fail
  refine (markChange_any _ _ m m (n + 1) _ _ (by omega) _ Z1.out).mono ?_
  rintro e wb ⟨rfl, ho⟩
  have s4 := S4.out; have s5 := S5.out; have hzl := Z1.out.lt
  replace H1 := Lib.hid (H1.out.same ho.size (fun g h1 h2 h3 => ho.block g h3 (by omega))); replace H2 := Lib.hid (H2.out.same ho.size (fun g h1 h2 h3 => ho.block g h3 (by have := L5.out; omega)))
  replace HB := Lib.hid (HB.out.trans (ho.below (B := w.heap.size) (by have := S1.out; have := S2.out; have := S3.out; omega) HB.out.size))
  clear ho s4 s5 hzl Z1
  rw [show (((n + 1 : Nat) : Int) + (m : Int) * 2) = ((n + 1 + m * 2 : Nat) : Int) by omega]
  obtain ⟨z, hz⟩ : ∃ z, n + 1 + m * 2 = z := ⟨_, rfl⟩
  rw [hz]
  clear hz
  have hzn : ¬ ((z : Int) < 0) := by omega
  go_wp2_with fail
  refine (eqIntS_has _ _ k _ _ _ _ _ _ _ HM.out _ H2.out H1.out).mono ?_
  rintro e w12 ⟨rfl, hd12⟩
  replace H1 := Lib.hid (H1.out.next hd12.below); replace H2 := Lib.hid (H2.out.next hd12.below); replace HB := Lib.hid (below_onto HB.out hd12.below)
  clear hd12
  go_wp2_with fail
  refine (mark_any _ _ _ k _ _ HM.out _ H2.out).mono ?_
  rintro e wc ⟨rfl, hb, h2⟩
  replace H1 := Lib.hid (H1.out.apart hb (.inl (Nat.le_trans S4.out S5.out))); replace H2 := Lib.hid h2
  replace HB := Lib.hid (HB.out.trans (hb.below (C := w.heap.size) (Nat.le_trans S1.out (Nat.le_trans S2.out (Nat.le_trans S3.out (Nat.le_trans S4.out S5.out)))) HB.out.size))
  clear hb h2
  go_wp2_with fail
  refine (held_any _ _ _ k _ _ H2.out).mono ?_
  rintro e w' ⟨rfl, rfl⟩
  go_wp2_with fail
  refine (toIntF_any a n c f (by omega) _ (HI.out.below HB.out (Nat.le_refl _))).mono ?_
  rintro e w13 ⟨rfl, hb13, hi13, hx13⟩
  have X3 := Lib.hid hi13
  replace H1 := Lib.hid (H1.out.next hb13); replace H2 := Lib.hid (H2.out.next hb13); replace HB := Lib.hid (below_onto HB.out hb13)
  have S13 := Lib.hid hb13.size
  clear hb13 hi13 hx13
  go_wp2_with fail
  refine (toChangeS_any b m c2 P Q (by omega) _ (HP.out.below HB.out (Nat.le_refl _))).mono ?_
  rintro e w14 ⟨rfl, hb14, hr14⟩
  have Y3 := Lib.hid (CopiedP.prs hr14 HP.out.1); have Z3 := Lib.hid hr14
  have S14 := Lib.hid hb14.size; have L14 := Lib.hid hr14.lt
  replace H1 := Lib.hid (H1.out.next hb14); replace H2 := Lib.hid (H2.out.next hb14); replace X3 := Lib.hid (X3.out.next hb14); replace HB := Lib.hid (below_onto HB.out hb14)
  clear hb14 hr14
  go_wp2_with fail
  refine (TakenOut_any _ _ n n m m f P Q (Nat.le_refl _) _ X3.out Y3.out).mono ?_
  intro e w15 hg
  obtain ⟨a15, c15, rfl, h15, hb15⟩ := hg.has HL.out H64.out
  rw [HM.out]
  have H5 := Lib.hid h15
  have S15 := Lib.hid hb15.size
  replace H1 := Lib.hid (H1.out.next hb15); replace H2 := Lib.hid (H2.out.next hb15); replace X3 := Lib.hid (X3.out.next hb15); replace Y3 := Lib.hid (Y3.out.next hb15); replace Z3 := Lib.hid (Z3.out.at (hb15.block _ Z3.out.lt)); replace HB := Lib.hid (below_onto HB.out hb15)
  clear hg h15 hb15
  clear X3 Y3 Z3
  go_wp2_with fail
  refine (eqIntS_has _ _ k _ _ _ _ _ _ _ HM.out _ H5.out H1.out).mono ?_
  rintro e w16 ⟨rfl, hd16⟩
  replace H1 := Lib.hid (H1.out.next hd16.below); replace H2 := Lib.hid (H2.out.next hd16.below); replace H5 := Lib.hid (H5.out.next hd16.below); replace HB := Lib.hid (below_onto HB.out hd16.below)
  clear hd16
  go_wp2_with fail
  refine (held_any _ _ _ k _ _ H2.out).mono ?_
  rintro e w' ⟨rfl, rfl⟩
  go_wp2_with fail
  go_ret
  exact ⟨rfl, HB.out⟩

theorem exactTakenOut (a b : Option Addr) (n c m c2 : Nat) (f P Q : Nat → Int) (w : World) (hi : Ints w a n f) (hp : Prs w b m P Q) :
    Calls Try.prog 15 #[.slice a n c, .slice b m c2] w (TrueEnd w) := by
  have hnm := hi.1.1
  have hmm := hp.1.1
  by_cases hn : n ≤ 1048576
  · by_cases hm : m ≤ 1048576
    · exact exactTakenOut_in a b n c m c2 f P Q hn hm w hi hp
    · clear hi hp
      go_enter Try.func15, Try.ntmps15
      go_wp2_with fail
      refine (szChangeS_any b m c2 1048576 (by omega) hmm _).mono ?_
      rintro e w' ⟨rfl, rfl⟩
      rw [if_pos (by omega)]
      go_wp2_with fail
      go_ret
      exact ⟨rfl, Below.refl _ _⟩
  · clear hi hp
    go_enter Try.func15, Try.ntmps15
    go_wp2_with fail
    go_ret
    exact ⟨rfl, Below.refl _ _⟩

set_option maxRecDepth 100000 in
set_option maxHeartbeats 6400000 in
theorem exactStoryOf_in (a b : Option Addr) (n c m c2 : Nat) (f P Q : Nat → Int) (hn : n ≤ 1048576) (hm : m ≤ 1048576) (w : World) (hi : Ints w a n f) (hp : Prs w b m P Q) :
    Calls Try.prog 14 #[.slice a n c, .slice b m c2] w (TrueEnd w) := by
  have hnot : ∀ (x : Bool) (w : World), (Op.unary .not (.bool x)).run Try.prog w = .ok (.bool (!x)) w := fun _ _ => rfl
  have HI := Lib.hid hi; have HP := Lib.hid hp
  have HK := Lib.hid (nn_rng n f m)
  have HSE : Hid ((syL n f P Q m).length ≤ 100) := Lib.hid (by have := sy_len n f P Q m; omega)
  obtain ⟨k, hk⟩ : ∃ k, nnN n f m = k := ⟨_, rfl⟩
  obtain ⟨SL, hsl⟩ : ∃ SL, syL n f P Q m = SL := ⟨_, rfl⟩
  rw [hk] at HK
  rw [hsl] at HSE
  have HSL := Lib.hid hsl; have HNN := Lib.hid hk
  have hn1 : ¬ ((n : Int) + 1 < 0) := by omega
  clear hk hsl
  clear hi hp
  have hsz : decide ((1048576 : Int) - (m : Int) < 0) = false := by simp; omega
  go_enter Try.func14, Try.ntmps14
  go_wp2_with fail
  refine (szChangeS_any b m c2 1048576 (by omega) HP.out.1.1 _).mono ?_
  rintro e w' ⟨rfl, rfl⟩
  rw [if_neg (by omega)]
  go_wp2_with fail
  refine (toIntF_any a n c f (by omega) _ HI.out).mono ?_
  rintro e w1 ⟨rfl, hb1, hi1, hx1⟩
  have X0 := Lib.hid hi1
  have HB := Lib.hid hb1
  have S1 := Lib.hid hb1.size
  clear hb1 hi1 hx1
  go_wp2_with fail
  refine (toChangeS_any b m c2 P Q (by omega) _ (HP.out.below HB.out (Nat.le_refl _))).mono ?_
  rintro e w2 ⟨rfl, hb2, hr2⟩
  have Y0 := Lib.hid (CopiedP.prs hr2 HP.out.1); have Z0 := Lib.hid hr2
  have S2 := Lib.hid hb2.size; have L2 := Lib.hid hr2.lt
  replace X0 := Lib.hid (X0.out.next hb2); replace HB := Lib.hid (below_onto HB.out hb2)
  clear hb2 hr2
  go_wp2_with fail
  refine (specStoryOf_any _ _ n n m m f P Q _ X0.out Y0.out).mono ?_
  intro e w3 hg
  obtain ⟨v3, r3, rfl, h3, hb3⟩ := hg.nn
  rw [HSL.out] at h3
  rw [HNN.out] at h3
  have H1 := Lib.hid h3; have LT1 := Lib.hid h3.ltB
  have S3 := Lib.hid hb3.size
  replace X0 := Lib.hid (X0.out.next hb3); replace Y0 := Lib.hid (Y0.out.next hb3); replace Z0 := Lib.hid (Z0.out.at (hb3.block _ Z0.out.lt)); replace HB := Lib.hid (below_onto HB.out hb3)
  clear hg h3 hb3
  clear X0 Y0 Z0
  go_wp2_with fail
  refine (toIntF_any a n c f (by omega) _ (HI.out.below HB.out (Nat.le_refl _))).mono ?_
  rintro e w4 ⟨rfl, hb4, hi4, hx4⟩
  have X1 := Lib.hid hi4; have XH := Lib.hid hx4
  replace H1 := Lib.hid (H1.out.kept hb4); replace HB := Lib.hid (below_onto HB.out hb4)
  have S4 := Lib.hid hb4.size
  clear hb4 hi4 hx4
  go_wp2_with fail
  refine (toChangeS_any b m c2 P Q (by omega) _ (HP.out.below HB.out (Nat.le_refl _))).mono ?_
  rintro e w5 ⟨rfl, hb5, hr5⟩
  have Y1 := Lib.hid (CopiedP.prs hr5 HP.out.1); have Z1 := Lib.hid hr5
  have S5 := Lib.hid hb5.size; have L5 := Lib.hid hr5.lt
  replace H1 := Lib.hid (H1.out.kept hb5); replace X1 := Lib.hid (X1.out.next hb5); replace XH := Lib.hid (XH.out.next hb5); replace HB := Lib.hid (below_onto HB.out hb5)
  clear hb5 hr5
  go_wp2_with fail
  refine (StoryOf_any _ _ n n m m f P Q (Nat.le_refl _) _ X1.out Y1.out).mono ?_
  intro e w6 hg
  obtain ⟨v6, r6, rfl, h6, hb6⟩ := hg.nn
  rw [HSL.out] at h6
  rw [HNN.out] at h6
  have H2 := Lib.hid h6; have LT2 := Lib.hid h6.ltB
  have S6 := Lib.hid hb6.size
  replace H1 := Lib.hid (H1.out.kept hb6); replace X1 := Lib.hid (X1.out.next hb6); replace XH := Lib.hid (XH.out.next hb6); replace Y1 := Lib.hid (Y1.out.next hb6); replace Z1 := Lib.hid (Z1.out.at (hb6.block _ Z1.out.lt)); replace HB := Lib.hid (below_onto HB.out hb6)
  clear hg h6 hb6
  go_wp2_with fail
  refine (eqIntSS_any k HK.out _ _ _ _ SL _ _ HSE.out _ H2.out H1.out).mono ?_
  rintro e w7 ⟨rfl, hd7⟩
  replace H1 := Lib.hid (H1.out.kept hd7.below); replace X1 := Lib.hid (X1.out.next hd7.below); replace XH := Lib.hid (XH.out.next hd7.below); replace Y1 := Lib.hid (Y1.out.next hd7.below); replace Z1 := Lib.hid (Z1.out.at (hd7.below.block _ Z1.out.lt)); replace H2 := Lib.hid (H2.out.kept hd7.below); replace HB := Lib.hid (below_onto HB.out hd7.below)
  clear hd7
  go_wp2_with fail
  refine (toIntF_any a n c f (by omega) _ (HI.out.below HB.out (Nat.le_refl _))).mono ?_
  rintro e w8 ⟨rfl, hb8, hi8, hx8⟩
  have X2 := Lib.hid hi8
  replace H1 := Lib.hid (H1.out.kept hb8); replace X1 := Lib.hid (X1.out.next hb8); replace XH := Lib.hid (XH.out.next hb8); replace Y1 := Lib.hid (Y1.out.next hb8); replace Z1 := Lib.hid (Z1.out.at (hb8.block _ Z1.out.lt)); replace H2 := Lib.hid (H2.out.kept hb8); replace HB := Lib.hid (below_onto HB.out hb8)
  have S8 := Lib.hid hb8.size
  clear hb8 hi8 hx8
  go_wp2_with fail
  refine (eqIntS_any _ _ _ _ n f (by omega) _ X1.out X2.out).mono ?_
  rintro e w9 ⟨rfl, hd9⟩
  replace H1 := Lib.hid (H1.out.kept hd9.below); replace X1 := Lib.hid (X1.out.next hd9.below); replace XH := Lib.hid (XH.out.next hd9.below); replace Y1 := Lib.hid (Y1.out.next hd9.below); replace Z1 := Lib.hid (Z1.out.at (hd9.below.block _ Z1.out.lt)); replace H2 := Lib.hid (H2.out.kept hd9.below); replace X2 := Lib.hid (X2.out.next hd9.below); replace HB := Lib.hid (below_onto HB.out hd9.below)
  clear hd9
  clear X2 X1
  go_wp2_with fail
  refine (toChangeS_any b m c2 P Q (by omega) _ (HP.out.below HB.out (Nat.le_refl _))).mono ?_
  rintro e w10 ⟨rfl, hb10, hr10⟩
  have Y2 := Lib.hid (CopiedP.prs hr10 HP.out.1); have Z2 := Lib.hid hr10
  have S10 := Lib.hid hb10.size; have L10 := Lib.hid hr10.lt
  replace H1 := Lib.hid (H1.out.kept hb10); replace XH := Lib.hid (XH.out.next hb10); replace Y1 := Lib.hid (Y1.out.next hb10); replace Z1 := Lib.hid (Z1.out.at (hb10.block _ Z1.out.lt)); replace H2 := Lib.hid (H2.out.kept hb10); replace HB := Lib.hid (below_onto HB.out hb10)
  clear hb10 hr10
  go_wp2_with fail
  refine (eqChangeS_any _ _ m _ _ P Q (by omega) _ Y1.out Y2.out).mono ?_
  rintro e w11 ⟨rfl, hb11⟩
  replace H1 := Lib.hid (H1.out.kept hb11); replace XH := Lib.hid (XH.out.next hb11); replace Y1 := Lib.hid (Y1.out.next hb11); replace Z1 := Lib.hid (Z1.out.at (hb11.block _ Z1.out.lt)); replace H2 := Lib.hid (H2.out.kept hb11); replace Y2 := Lib.hid (Y2.out.next hb11); replace Z2 := Lib.hid (Z2.out.at (hb11.block _ Z2.out.lt)); replace HB := Lib.hid (below_onto HB.out hb11)
  clear hb11
  clear Y1 Y2 Z2
  go_wp2_with fail
  refine (mark_any _ _ _ n _ _ (rowL_len f n) _ XH.out).mono ?_
  rintro e wa ⟨rfl, hb, _⟩
  have s4 := S4.out; have s5 := S5.out
  replace H1 := Lib.hid (H1.out.other (fun g hg => hb.block g (H1.out.ltB g hg).2 (.inl (LT1.out g hg).2))); replace H2 := Lib.hid (H2.out.other (fun g hg => hb.block g (H2.out.ltB g hg).2 (.inr (by have := (LT2.out g hg).1; omega))))
  replace Z1 := Lib.hid (Z1.out.at (hb.block _ Z1.out.lt (.inr (Nat.le_refl _))))
  replace HB := Lib.hid (HB.out.trans (hb.below (C := w.heap.size) (Nat.le_trans S1.out (Nat.le_trans S2.out S3.out)) HB.out.size))
  clear hb XH s4 s5
  rw [show ((n : Int) + 1) = ((n + 1 : Nat) : Int) by omega]
  go_wp2_with fail
  refine (markChange_any _ _ m m (n + 1) _ _ (by omega) _ Z1.out).mono ?_
  rintro e wb ⟨rfl, ho⟩
  have s4 := S4.out; have s5 := S5.out; have l5 := L5.out
  replace H1 := Lib.hid (H1.out.other (fun g hg => ho.block g (H1.out.ltB g hg).2 (by have := (LT1.out g hg).2; omega))); replace H2 := Lib.hid (H2.out.other (fun g hg => ho.block g (H2.out.ltB g hg).2 (by have := (LT2.out g hg).1; omega)))
  replace HB := Lib.hid (HB.out.trans (ho.below (B := w.heap.size) (by have := S1.out; have := S2.out; have := S3.out; omega) HB.out.size))
  clear ho s4 s5 l5 Z1
  rw [show (((n + 1 : Nat) : Int) + (m : Int) * 2) = ((n + 1 + m * 2 : Nat) : Int) by omega]
  obtain ⟨z, hz⟩ : ∃ z, n + 1 + m * 2 = z := ⟨_, rfl⟩
  rw [hz]
  clear hz
  have hzn : ¬ ((z : Int) < 0) := by omega
  go_wp2_with fail
  refine (eqIntSS_any k HK.out _ _ _ _ SL _ _ HSE.out _ H2.out H1.out).mono ?_
  rintro e w12 ⟨rfl, hd12⟩
  replace H1 := Lib.hid (H1.out.kept hd12.below); replace H2 := Lib.hid (H2.out.kept hd12.below); replace HB := Lib.hid (below_onto HB.out hd12.below)
  clear hd12
  go_wp2_with fail
  refine (markSS_one k HK.out _ _ SL _ HSE.out _ H2.out).mono ?_
  rintro e wc ⟨rfl, hb, h2⟩
  have s4 := S4.out; have s5 := S5.out
  replace H1 := Lib.hid (H1.out.other (fun g hg => hb.block g (H1.out.ltB g hg).2 (fun r hr e => by have := (LT2.out r.1 (.inr ⟨r, hr, rfl⟩)).1; have := (LT1.out g hg).2; omega))); replace H2 := Lib.hid h2
  replace HB := Lib.hid (HB.out.trans (hb.below (B := w.heap.size) (fun r hr => by have := (LT2.out r.1 (.inr ⟨r, hr, rfl⟩)).1; have := S1.out; have := S2.out; have := S3.out; omega) HB.out.size))
  clear hb h2 s4 s5
  obtain ⟨y, hy⟩ : ∃ y, 1 + SL.length * k = y := ⟨_, rfl⟩
  rw [hy]
  have HY := Lib.hid hy; clear hy
  have hyn : ¬ ((y : Int) < 0) := by omega
  have hyy : ((y : Int) != (y : Int)) = false := by simp
  go_wp2_with fail
  refine (heldSS_one k HK.out _ _ SL _ HSE.out _ H2.out).mono ?_
  rintro e w' ⟨rfl, rfl⟩
  rw [HY.out]
  go_wp2_with fail
  refine (toIntF_any a n c f (by omega) _ (HI.out.below HB.out (Nat.le_refl _))).mono ?_
  rintro e w13 ⟨rfl, hb13, hi13, hx13⟩
  have X3 := Lib.hid hi13
  replace H1 := Lib.hid (H1.out.kept hb13); replace H2 := Lib.hid (H2.out.kept hb13); replace HB := Lib.hid (below_onto HB.out hb13)
  have S13 := Lib.hid hb13.size
  clear hb13 hi13 hx13
  go_wp2_with fail
  refine (toChangeS_any b m c2 P Q (by omega) _ (HP.out.below HB.out (Nat.le_refl _))).mono ?_
  rintro e w14 ⟨rfl, hb14, hr14⟩
  have Y3 := Lib.hid (CopiedP.prs hr14 HP.out.1); have Z3 := Lib.hid hr14
  have S14 := Lib.hid hb14.size; have L14 := Lib.hid hr14.lt
  replace H1 := Lib.hid (H1.out.kept hb14); replace H2 := Lib.hid (H2.out.kept hb14); replace X3 := Lib.hid (X3.out.next hb14); replace HB := Lib.hid (below_onto HB.out hb14)
  clear hb14 hr14
  go_wp2_with fail
  refine (StoryOf_any _ _ n n m m f P Q (Nat.le_refl _) _ X3.out Y3.out).mono ?_
  intro e w15 hg
  obtain ⟨v15, r15, rfl, h15, hb15⟩ := hg.nn
  rw [HSL.out] at h15
  rw [HNN.out] at h15
  have H5 := Lib.hid h15; have LT5 := Lib.hid h15.ltB
  have S15 := Lib.hid hb15.size
  replace H1 := Lib.hid (H1.out.kept hb15); replace H2 := Lib.hid (H2.out.kept hb15); replace X3 := Lib.hid (X3.out.next hb15); replace Y3 := Lib.hid (Y3.out.next hb15); replace Z3 := Lib.hid (Z3.out.at (hb15.block _ Z3.out.lt)); replace HB := Lib.hid (below_onto HB.out hb15)
  clear hg h15 hb15
  clear X3 Y3 Z3
  go_wp2_with fail
  refine (eqIntSS_any k HK.out _ _ _ _ SL _ _ HSE.out _ H5.out H1.out).mono ?_
  rintro e w16 ⟨rfl, hd16⟩
  replace H1 := Lib.hid (H1.out.kept hd16.below); replace H2 := Lib.hid (H2.out.kept hd16.below); replace H5 := Lib.hid (H5.out.kept hd16.below); replace HB := Lib.hid (below_onto HB.out hd16.below)
  clear hd16
  go_wp2_with fail
  refine (heldSS_one k HK.out _ _ SL _ HSE.out _ H2.out).mono ?_
  rintro e w' ⟨rfl, rfl⟩
  rw [HY.out]
  go_wp2_with fail
  go_ret
  exact ⟨rfl, HB.out⟩

theorem exactStoryOf (a b : Option Addr) (n c m c2 : Nat) (f P Q : Nat → Int) (w : World) (hi : Ints w a n f) (hp : Prs w b m P Q) :
    Calls Try.prog 14 #[.slice a n c, .slice b m c2] w (TrueEnd w) := by
  have hnm := hi.1.1
  have hmm := hp.1.1
  by_cases hn : n ≤ 1048576
  · by_cases hm : m ≤ 1048576
    · exact exactStoryOf_in a b n c m c2 f P Q hn hm w hi hp
    · clear hi hp
      go_enter Try.func14, Try.ntmps14
      go_wp2_with fail
      refine (szChangeS_any b m c2 1048576 (by omega) hmm _).mono ?_
      rintro e w' ⟨rfl, rfl⟩
      rw [if_pos (by omega)]
      go_wp2_with fail
      go_ret
      exact ⟨rfl, Below.refl _ _⟩
  · clear hi hp
    go_enter Try.func14, Try.ntmps14
    go_wp2_with fail
    go_ret
    exact ⟨rfl, Below.refl _ _⟩

end Go.Proofs.Ytibjdmmcnhlgnaa
