import Derived.Test.YtdlafcioopclhaaExactK
import Derived.Test.YtdlafcioopclhaaFamV
namespace Go.Proofs.Ytdlafcioopclhaa
open Go.RowKit Go.Maps

theorem wfL_I64 (n : Nat) (f : Nat → Int) : (wfL n f).length ≤ 1000 ∧ ∀ y ∈ wfL n f, I64 y := by
  unfold wfL
  split
  · next h =>
    have h7 := (famOk_iff.1 h).hi
    exact ⟨by rw [rowL_len]; omega, rowL_mem (P := I64) (fun i _ => wf_I64 n f i)⟩
  · exact ⟨by simp, by simp⟩
theorem fofL_I64 (n : Nat) (f : Nat → Int) (h64 : ∀ i, i < n → I64 (f i)) : (fofL n f).length ≤ 1000 ∧ ∀ y ∈ fofL n f, I64 y := by
  unfold fofL
  split
  · next h =>
    unfold fofB at h
    rw [Bool.and_eq_true] at h
    have hP := (worldB_iff n f h64).1 (strong_world h.1)
    have h7 := hP.hi
    exact ⟨by rw [rowL_len]; omega, rowL_mem (P := I64) (fun i hi => by
      obtain ⟨z, h1, h2, h3⟩ := name_fof hP hi
      rw [h3]; unfold I64; omega)⟩
  · exact ⟨by simp, by simp⟩
theorem doneL_I64 (n : Nat) (f : Nat → Int) (F : Nat → Bool) : (doneL n f F).length ≤ 1000 ∧ ∀ y ∈ doneL n f F, I64 y := by
  unfold doneL
  split
  · next h =>
    unfold roomB at h
    rw [Bool.and_eq_true, decide_eq_true_eq] at h
    have hP := famOk_iff.1 h.1
    refine ⟨by omega, fun y hy => ?_⟩
    unfold withL at hy
    rcases List.mem_append.1 hy with hy | hy
    · obtain ⟨k, hk, rfl⟩ := List.mem_map.1 hy
      exact hP.i64 (List.mem_range.1 hk)
    · exact fam_I64 _ (by omega) y hy
  · exact ⟨by simp, by simp⟩
theorem GivesB.has {xs : List Int} {b : Bool} {w w' : World} {e : Ending} (h : GivesB xs b w e w') (hl : xs.length ≤ 1000) (h64 : ∀ x ∈ xs, I64 x) :
    ∃ (a : Option Addr) (cap : Nat), e = .returned (.tuple #[.slice a xs.length cap, .bool b]) ∧ HasIn w' w.heap.size w'.heap.size a xs ∧ Below w.heap.size w w' := by
  obtain ⟨v, rfl, h1, h2⟩ := h
  obtain ⟨a, cap, rfl, h3⟩ := h1.has hl h64
  exact ⟨a, cap, rfl, h3.within, h2⟩

set_option maxRecDepth 100000 in
set_option maxHeartbeats 6400000 in
theorem exactWorldFrom_in (a : Option Addr) (n cap : Nat) (f : Nat → Int) (hn : n ≤ 1048576) (w : World) (hi : Ints w a n f) :
    Calls Try.prog 7 #[.slice a n cap] w (TrueEnd w) := by
  have hnot : ∀ (x : Bool) (w : World), (Op.unary .not (.bool x)).run Try.prog w = .ok (.bool (!x)) w := fun _ _ => rfl
  obtain ⟨hl, h64⟩ := wfL_I64 n f
  obtain ⟨m, hm⟩ : ∃ m, (wfL n f).length = m := ⟨_, rfl⟩
  have HM := Lib.hid hm; have HL := Lib.hid hl; have H64 := Lib.hid h64; have HI := Lib.hid hi
  have hm1 : ¬ ((m : Int) + 1 < 0) := by omega
  have hn1 : ¬ ((n : Int) + 1 < 0) := by omega
  have hne : (((m : Int) + 1) != ((m : Int) + 1)) = false := by simp
  clear hm hl h64 hi
  go_enter Try.func7, Try.ntmps7
  go_wp2_with fail
  refine (toIntF_any a n cap f hn _ HI.out).mono ?_
  rintro e w1 ⟨rfl, hb1, hi1, _⟩
  have HB := Lib.hid hb1; have HI1 := Lib.hid hi1; have HS1 := Lib.hid hb1.size; clear hb1 hi1
  go_wp2_with fail
  refine (specWorldFrom_any _ n n f _ HI1.out).mono ?_
  intro e w2 hg
  obtain ⟨a1, c1, rfl, h1, hb2⟩ := hg.has HL.out H64.out
  rw [HM.out]
  have H1 := Lib.hid h1; have HS2 := Lib.hid hb2.size; replace HB := Lib.hid (below_onto HB.out hb2); clear hg h1 hb2 HI1
  go_wp2_with fail
  refine (toIntF_any a n cap f hn _ (HI.out.below HB.out (Nat.le_refl _))).mono ?_
  rintro e w3 ⟨rfl, hb3, hi3, hx3⟩
  have HI3 := Lib.hid hi3; have HX := Lib.hid hx3; have HS3 := Lib.hid hb3.size; replace H1 := Lib.hid (H1.out.next hb3); replace HB := Lib.hid (below_onto HB.out hb3); clear hb3 hi3 hx3
  go_wp2_with fail
  refine (WorldFrom_any _ n n f _ HI3.out).mono ?_
  intro e w4 hg
  obtain ⟨a2, c2, rfl, h2, hb4⟩ := hg.has HL.out H64.out
  rw [HM.out]
  have H2 := Lib.hid h2; have HS4 := Lib.hid hb4.size; replace H1 := Lib.hid (H1.out.next hb4); replace HX := Lib.hid (HX.out.next hb4); replace HI3 := Lib.hid (HI3.out.next hb4); replace HB := Lib.hid (below_onto HB.out hb4); clear hg h2 hb4
  go_wp2_with fail
  refine (eqIntS_has _ _ m _ _ _ _ _ _ _ HM.out _ H2.out H1.out).mono ?_
  rintro e w5 ⟨rfl, hd⟩
  replace H1 := Lib.hid (H1.out.next hd.below); replace H2 := Lib.hid (H2.out.next hd.below); replace HX := Lib.hid (HX.out.next hd.below); replace HI3 := Lib.hid (HI3.out.next hd.below); replace HB := Lib.hid (below_onto HB.out hd.below)
  clear hd
  go_wp2_with fail
  refine (toIntF_any a n cap f hn _ (HI.out.below HB.out (Nat.le_refl _))).mono ?_
  rintro e w6 ⟨rfl, hb6, hi6, _⟩
  have HI6 := Lib.hid hi6; replace H1 := Lib.hid (H1.out.next hb6); replace H2 := Lib.hid (H2.out.next hb6); replace HX := Lib.hid (HX.out.next hb6); replace HI3 := Lib.hid (HI3.out.next hb6); replace HB := Lib.hid (below_onto HB.out hb6)
  clear hb6 hi6
  go_wp2_with fail
  refine (eqIntS_any _ _ _ _ n f hn _ HI3.out HI6.out).mono ?_
  rintro e w7 ⟨rfl, hd⟩
  replace H1 := Lib.hid (H1.out.next hd.below); replace H2 := Lib.hid (H2.out.next hd.below); replace HX := Lib.hid (HX.out.next hd.below); replace HB := Lib.hid (below_onto HB.out hd.below)
  clear hd HI3 HI6
  go_wp2_with fail
  refine (mark_any _ _ _ n _ _ (rowL_len f n) _ HX.out).mono ?_
  rintro e w8 ⟨rfl, hb, _⟩
  replace H1 := Lib.hid (H1.out.apart hb (.inl (Nat.le_refl _))); replace H2 := Lib.hid (H2.out.apart hb (.inr (Nat.le_refl _)))
  replace HB := Lib.hid (HB.out.trans (hb.below (C := w.heap.size) (Nat.le_trans HS1.out HS2.out) HB.out.size))
  clear hb HX
  go_wp2_with fail
  refine (eqIntS_has _ _ m _ _ _ _ _ _ _ HM.out _ H2.out H1.out).mono ?_
  rintro e w9 ⟨rfl, hd⟩
  replace H1 := Lib.hid (H1.out.next hd.below); replace H2 := Lib.hid (H2.out.next hd.below); replace HB := Lib.hid (below_onto HB.out hd.below)
  clear hd
  go_wp2_with fail
  refine (mark_any _ _ _ m _ _ HM.out _ H2.out).mono ?_
  rintro e w10 ⟨rfl, hb, h2⟩
  replace H1 := Lib.hid (H1.out.apart hb (.inl HS3.out)); replace H2 := Lib.hid h2
  replace HB := Lib.hid (HB.out.trans (hb.below (C := w.heap.size) (Nat.le_trans HS1.out (Nat.le_trans HS2.out HS3.out)) HB.out.size))
  clear hb h2
  go_wp2_with fail
  refine (held_any _ _ _ m _ _ H2.out).mono ?_
  rintro e w' ⟨rfl, rfl⟩
  go_wp2_with fail
  refine (toIntF_any a n cap f hn _ (HI.out.below HB.out (Nat.le_refl _))).mono ?_
  rintro e w11 ⟨rfl, hb11, hi11, _⟩
  have HI11 := Lib.hid hi11; replace H1 := Lib.hid (H1.out.next hb11); replace H2 := Lib.hid (H2.out.next hb11); replace HB := Lib.hid (below_onto HB.out hb11)
  clear hb11 hi11
  go_wp2_with fail
  refine (WorldFrom_any _ n n f _ HI11.out).mono ?_
  intro e w12 hg
  obtain ⟨a5, c5, rfl, h5, hb12⟩ := hg.has HL.out H64.out
  rw [HM.out]
  have H5 := Lib.hid h5; replace H1 := Lib.hid (H1.out.next hb12); replace H2 := Lib.hid (H2.out.next hb12); replace HB := Lib.hid (below_onto HB.out hb12)
  clear hg h5 hb12
  go_wp2_with fail
  refine (eqIntS_has _ _ m _ _ _ _ _ _ _ HM.out _ H5.out H1.out).mono ?_
  rintro e w13 ⟨rfl, hd⟩
  replace H2 := Lib.hid (H2.out.next hd.below); replace HB := Lib.hid (below_onto HB.out hd.below)
  clear hd
  go_wp2_with fail
  refine (held_any _ _ _ m _ _ H2.out).mono ?_
  rintro e w' ⟨rfl, rfl⟩
  go_wp2_with fail
  go_ret
  exact ⟨rfl, HB.out⟩

set_option maxRecDepth 100000 in
set_option maxHeartbeats 800000 in
theorem exactWorldFrom_big (a : Option Addr) (n cap : Nat) (hn : 1048576 < n) (hm : n ≤ 9223372036854775807) (w : World) :
    Calls Try.prog 7 #[.slice a n cap] w (TrueEnd w) := by
  go_enter Try.func7, Try.ntmps7
  go_wp2_with fail
  go_ret
  exact ⟨rfl, Below.refl _ _⟩

theorem exactWorldFrom (a : Option Addr) (n cap : Nat) (f : Nat → Int) (w : World) (hi : Ints w a n f) :
    Calls Try.prog 7 #[.slice a n cap] w (TrueEnd w) := by
  by_cases hn : n ≤ 1048576
  · exact exactWorldFrom_in a n cap f hn w hi
  · exact exactWorldFrom_big a n cap (by omega) hi.1.1 w

set_option maxRecDepth 100000 in
set_option maxHeartbeats 6400000 in
theorem exactFamilyOf_in (a : Option Addr) (n cap : Nat) (f : Nat → Int) (hn : n ≤ 1048576) (w : World) (hi : Ints w a n f) :
    Calls Try.prog 8 #[.slice a n cap] w (TrueEnd w) := by
  have hnot : ∀ (x : Bool) (w : World), (Op.unary .not (.bool x)).run Try.prog w = .ok (.bool (!x)) w := fun _ _ => rfl
  obtain ⟨hl, h64⟩ := fofL_I64 n f hi.i64
  obtain ⟨m, hm⟩ : ∃ m, (fofL n f).length = m := ⟨_, rfl⟩
  have HM := Lib.hid hm; have HL := Lib.hid hl; have H64 := Lib.hid h64; have HI := Lib.hid hi
  have hm1 : ¬ ((m : Int) + 1 < 0) := by omega
  have hn1 : ¬ ((n : Int) + 1 < 0) := by omega
  have hne : (((m : Int) + 1) != ((m : Int) + 1)) = false := by simp
  clear hm hl h64 hi
  go_enter Try.func8, Try.ntmps8
  go_wp2_with fail
  refine (toIntF_any a n cap f hn _ HI.out).mono ?_
  rintro e w1 ⟨rfl, hb1, hi1, _⟩
  have HB := Lib.hid hb1; have HI1 := Lib.hid hi1; have HS1 := Lib.hid hb1.size; clear hb1 hi1
  go_wp2_with fail
  refine (specFamilyOf_any _ n n f _ HI1.out).mono ?_
  intro e w2 hg
  obtain ⟨a1, c1, rfl, h1, hb2⟩ := hg.has HL.out H64.out
  rw [HM.out]
  have H1 := Lib.hid h1; have HS2 := Lib.hid hb2.size; replace HB := Lib.hid (below_onto HB.out hb2); clear hg h1 hb2 HI1
  go_wp2_with fail
  refine (toIntF_any a n cap f hn _ (HI.out.below HB.out (Nat.le_refl _))).mono ?_
  rintro e w3 ⟨rfl, hb3, hi3, hx3⟩
  have HI3 := Lib.hid hi3; have HX := Lib.hid hx3; have HS3 := Lib.hid hb3.size; replace H1 := Lib.hid (H1.out.next hb3); replace HB := Lib.hid (below_onto HB.out hb3); clear hb3 hi3 hx3
  go_wp2_with fail
  refine (FamilyOf_any _ n n f _ HI3.out).mono ?_
  intro e w4 hg
  obtain ⟨a2, c2, rfl, h2, hb4⟩ := hg.has HL.out H64.out
  rw [HM.out]
  have H2 := Lib.hid h2; have HS4 := Lib.hid hb4.size; replace H1 := Lib.hid (H1.out.next hb4); replace HX := Lib.hid (HX.out.next hb4); replace HI3 := Lib.hid (HI3.out.next hb4); replace HB := Lib.hid (below_onto HB.out hb4); clear hg h2 hb4
  go_wp2_with fail
  refine (eqIntS_has _ _ m _ _ _ _ _ _ _ HM.out _ H2.out H1.out).mono ?_
  rintro e w5 ⟨rfl, hd⟩
  replace H1 := Lib.hid (H1.out.next hd.below); replace H2 := Lib.hid (H2.out.next hd.below); replace HX := Lib.hid (HX.out.next hd.below); replace HI3 := Lib.hid (HI3.out.next hd.below); replace HB := Lib.hid (below_onto HB.out hd.below)
  clear hd
  go_wp2_with fail
  refine (toIntF_any a n cap f hn _ (HI.out.below HB.out (Nat.le_refl _))).mono ?_
  rintro e w6 ⟨rfl, hb6, hi6, _⟩
  have HI6 := Lib.hid hi6; replace H1 := Lib.hid (H1.out.next hb6); replace H2 := Lib.hid (H2.out.next hb6); replace HX := Lib.hid (HX.out.next hb6); replace HI3 := Lib.hid (HI3.out.next hb6); replace HB := Lib.hid (below_onto HB.out hb6)
  clear hb6 hi6
  go_wp2_with fail
  refine (eqIntS_any _ _ _ _ n f hn _ HI3.out HI6.out).mono ?_
  rintro e w7 ⟨rfl, hd⟩
  replace H1 := Lib.hid (H1.out.next hd.below); replace H2 := Lib.hid (H2.out.next hd.below); replace HX := Lib.hid (HX.out.next hd.below); replace HB := Lib.hid (below_onto HB.out hd.below)
  clear hd HI3 HI6
  go_wp2_with fail
  refine (mark_any _ _ _ n _ _ (rowL_len f n) _ HX.out).mono ?_
  rintro e w8 ⟨rfl, hb, _⟩
  replace H1 := Lib.hid (H1.out.apart hb (.inl (Nat.le_refl _))); replace H2 := Lib.hid (H2.out.apart hb (.inr (Nat.le_refl _)))
  replace HB := Lib.hid (HB.out.trans (hb.below (C := w.heap.size) (Nat.le_trans HS1.out HS2.out) HB.out.size))
  clear hb HX
  go_wp2_with fail
  refine (eqIntS_has _ _ m _ _ _ _ _ _ _ HM.out _ H2.out H1.out).mono ?_
  rintro e w9 ⟨rfl, hd⟩
  replace H1 := Lib.hid (H1.out.next hd.below); replace H2 := Lib.hid (H2.out.next hd.below); replace HB := Lib.hid (below_onto HB.out hd.below)
  clear hd
  go_wp2_with fail
  refine (mark_any _ _ _ m _ _ HM.out _ H2.out).mono ?_
  rintro e w10 ⟨rfl, hb, h2⟩
  replace H1 := Lib.hid (H1.out.apart hb (.inl HS3.out)); replace H2 := Lib.hid h2
  replace HB := Lib.hid (HB.out.trans (hb.below (C := w.heap.size) (Nat.le_trans HS1.out (Nat.le_trans HS2.out HS3.out)) HB.out.size))
  clear hb h2
  go_wp2_with fail
  refine (held_any _ _ _ m _ _ H2.out).mono ?_
  rintro e w' ⟨rfl, rfl⟩
  go_wp2_with fail
  refine (toIntF_any a n cap f hn _ (HI.out.below HB.out (Nat.le_refl _))).mono ?_
  rintro e w11 ⟨rfl, hb11, hi11, _⟩
  have HI11 := Lib.hid hi11; replace H1 := Lib.hid (H1.out.next hb11); replace H2 := Lib.hid (H2.out.next hb11); replace HB := Lib.hid (below_onto HB.out hb11)
  clear hb11 hi11
  go_wp2_with fail
  refine (FamilyOf_any _ n n f _ HI11.out).mono ?_
  intro e w12 hg
  obtain ⟨a5, c5, rfl, h5, hb12⟩ := hg.has HL.out H64.out
  rw [HM.out]
  have H5 := Lib.hid h5; replace H1 := Lib.hid (H1.out.next hb12); replace H2 := Lib.hid (H2.out.next hb12); replace HB := Lib.hid (below_onto HB.out hb12)
  clear hg h5 hb12
  go_wp2_with fail
  refine (eqIntS_has _ _ m _ _ _ _ _ _ _ HM.out _ H5.out H1.out).mono ?_
  rintro e w13 ⟨rfl, hd⟩
  replace H2 := Lib.hid (H2.out.next hd.below); replace HB := Lib.hid (below_onto HB.out hd.below)
  clear hd
  go_wp2_with fail
  refine (held_any _ _ _ m _ _ H2.out).mono ?_
  rintro e w' ⟨rfl, rfl⟩
  go_wp2_with fail
  go_ret
  exact ⟨rfl, HB.out⟩

set_option maxRecDepth 100000 in
set_option maxHeartbeats 800000 in
theorem exactFamilyOf_big (a : Option Addr) (n cap : Nat) (hn : 1048576 < n) (hm : n ≤ 9223372036854775807) (w : World) :
    Calls Try.prog 8 #[.slice a n cap] w (TrueEnd w) := by
  go_enter Try.func8, Try.ntmps8
  go_wp2_with fail
  go_ret
  exact ⟨rfl, Below.refl _ _⟩

theorem exactFamilyOf (a : Option Addr) (n cap : Nat) (f : Nat → Int) (w : World) (hi : Ints w a n f) :
    Calls Try.prog 8 #[.slice a n cap] w (TrueEnd w) := by
  by_cases hn : n ≤ 1048576
  · exact exactFamilyOf_in a n cap f hn w hi
  · exact exactFamilyOf_big a n cap (by omega) hi.1.1 w

set_option maxRecDepth 100000 in
set_option maxHeartbeats 6400000 in
theorem exactWithPoints_in (a : Option Addr) (n cap : Nat) (f : Nat → Int) (hn : n ≤ 1048576) (w : World) (hi : Ints w a n f) :
    Calls Try.prog 9 #[.slice a n cap] w (TrueEnd w) := by
  have hnot : ∀ (x : Bool) (w : World), (Op.unary .not (.bool x)).run Try.prog w = .ok (.bool (!x)) w := fun _ _ => rfl
  obtain ⟨hl, h64⟩ := doneL_I64 n f (FP (memS n f))
  obtain ⟨m, hm⟩ : ∃ m, (doneL n f (FP (memS n f))).length = m := ⟨_, rfl⟩
  obtain ⟨bb, hbb⟩ : ∃ bb, roomB n f (FP (memS n f)) = bb := ⟨_, rfl⟩
  have HBB := Lib.hid hbb
  have hbf : (bb != bb) = false := by simp
  clear hbb
  have HM := Lib.hid hm; have HL := Lib.hid hl; have H64 := Lib.hid h64; have HI := Lib.hid hi
  have hm1 : ¬ ((m : Int) + 1 < 0) := by omega
  have hn1 : ¬ ((n : Int) + 1 < 0) := by omega
  have hne : (((m : Int) + 1) != ((m : Int) + 1)) = false := by simp
  clear hm hl h64 hi
  go_enter Try.func9, Try.ntmps9
  go_wp2_with fail
  refine (toIntF_any a n cap f hn _ HI.out).mono ?_
  rintro e w1 ⟨rfl, hb1, hi1, _⟩
  have HB := Lib.hid hb1; have HI1 := Lib.hid hi1; have HS1 := Lib.hid hb1.size; clear hb1 hi1
  go_wp2_with fail
  refine (specWithPoints_any _ n n f _ HI1.out).mono ?_
  intro e w2 hg
  rw [HBB.out] at hg
  obtain ⟨a1, c1, rfl, h1, hb2⟩ := hg.has HL.out H64.out
  rw [HM.out]
  have H1 := Lib.hid h1; have HS2 := Lib.hid hb2.size; replace HB := Lib.hid (below_onto HB.out hb2); clear hg h1 hb2 HI1
  go_wp2_with fail
  refine (toIntF_any a n cap f hn _ (HI.out.below HB.out (Nat.le_refl _))).mono ?_
  rintro e w3 ⟨rfl, hb3, hi3, hx3⟩
  have HI3 := Lib.hid hi3; have HX := Lib.hid hx3; have HS3 := Lib.hid hb3.size; replace H1 := Lib.hid (H1.out.next hb3); replace HB := Lib.hid (below_onto HB.out hb3); clear hb3 hi3 hx3
  go_wp2_with fail
  refine (WithPoints_any _ n n f _ HI3.out).mono ?_
  intro e w4 hg
  rw [HBB.out] at hg
  obtain ⟨a2, c2, rfl, h2, hb4⟩ := hg.has HL.out H64.out
  rw [HM.out]
  have H2 := Lib.hid h2; have HS4 := Lib.hid hb4.size; replace H1 := Lib.hid (H1.out.next hb4); replace HX := Lib.hid (HX.out.next hb4); replace HI3 := Lib.hid (HI3.out.next hb4); replace HB := Lib.hid (below_onto HB.out hb4); clear hg h2 hb4
  go_wp2_with fail
  refine (eqIntS_has _ _ m _ _ _ _ _ _ _ HM.out _ H2.out H1.out).mono ?_
  rintro e w5 ⟨rfl, hd⟩
  replace H1 := Lib.hid (H1.out.next hd.below); replace H2 := Lib.hid (H2.out.next hd.below); replace HX := Lib.hid (HX.out.next hd.below); replace HI3 := Lib.hid (HI3.out.next hd.below); replace HB := Lib.hid (below_onto HB.out hd.below)
  clear hd
  go_wp2_with fail
  refine (toIntF_any a n cap f hn _ (HI.out.below HB.out (Nat.le_refl _))).mono ?_
  rintro e w6 ⟨rfl, hb6, hi6, _⟩
  have HI6 := Lib.hid hi6; replace H1 := Lib.hid (H1.out.next hb6); replace H2 := Lib.hid (H2.out.next hb6); replace HX := Lib.hid (HX.out.next hb6); replace HI3 := Lib.hid (HI3.out.next hb6); replace HB := Lib.hid (below_onto HB.out hb6)
  clear hb6 hi6
  go_wp2_with fail
  refine (eqIntS_any _ _ _ _ n f hn _ HI3.out HI6.out).mono ?_
  rintro e w7 ⟨rfl, hd⟩
  replace H1 := Lib.hid (H1.out.next hd.below); replace H2 := Lib.hid (H2.out.next hd.below); replace HX := Lib.hid (HX.out.next hd.below); replace HB := Lib.hid (below_onto HB.out hd.below)
  clear hd HI3 HI6
  go_wp2_with fail
  refine (mark_any _ _ _ n _ _ (rowL_len f n) _ HX.out).mono ?_
  rintro e w8 ⟨rfl, hb, _⟩
  replace H1 := Lib.hid (H1.out.apart hb (.inl (Nat.le_refl _))); replace H2 := Lib.hid (H2.out.apart hb (.inr (Nat.le_refl _)))
  replace HB := Lib.hid (HB.out.trans (hb.below (C := w.heap.size) (Nat.le_trans HS1.out HS2.out) HB.out.size))
  clear hb HX
  go_wp2_with fail
  refine (eqIntS_has _ _ m _ _ _ _ _ _ _ HM.out _ H2.out H1.out).mono ?_
  rintro e w9 ⟨rfl, hd⟩
  replace H1 := Lib.hid (H1.out.next hd.below); replace H2 := Lib.hid (H2.out.next hd.below); replace HB := Lib.hid (below_onto HB.out hd.below)
  clear hd
  go_wp2_with fail
  refine (mark_any _ _ _ m _ _ HM.out _ H2.out).mono ?_
  rintro e w10 ⟨rfl, hb, h2⟩
  replace H1 := Lib.hid (H1.out.apart hb (.inl HS3.out)); replace H2 := Lib.hid h2
  replace HB := Lib.hid (HB.out.trans (hb.below (C := w.heap.size) (Nat.le_trans HS1.out (Nat.le_trans HS2.out HS3.out)) HB.out.size))
  clear hb h2
  go_wp2_with fail
  refine (held_any _ _ _ m _ _ H2.out).mono ?_
  rintro e w' ⟨rfl, rfl⟩
  go_wp2_with fail
  refine (toIntF_any a n cap f hn _ (HI.out.below HB.out (Nat.le_refl _))).mono ?_
  rintro e w11 ⟨rfl, hb11, hi11, _⟩
  have HI11 := Lib.hid hi11; replace H1 := Lib.hid (H1.out.next hb11); replace H2 := Lib.hid (H2.out.next hb11); replace HB := Lib.hid (below_onto HB.out hb11)
  clear hb11 hi11
  go_wp2_with fail
  refine (WithPoints_any _ n n f _ HI11.out).mono ?_
  intro e w12 hg
  rw [HBB.out] at hg
  obtain ⟨a5, c5, rfl, h5, hb12⟩ := hg.has HL.out H64.out
  rw [HM.out]
  have H5 := Lib.hid h5; replace H1 := Lib.hid (H1.out.next hb12); replace H2 := Lib.hid (H2.out.next hb12); replace HB := Lib.hid (below_onto HB.out hb12)
  clear hg h5 hb12
  go_wp2_with fail
  refine (eqIntS_has _ _ m _ _ _ _ _ _ _ HM.out _ H5.out H1.out).mono ?_
  rintro e w13 ⟨rfl, hd⟩
  replace H2 := Lib.hid (H2.out.next hd.below); replace HB := Lib.hid (below_onto HB.out hd.below)
  clear hd
  go_wp2_with fail
  refine (held_any _ _ _ m _ _ H2.out).mono ?_
  rintro e w' ⟨rfl, rfl⟩
  go_wp2_with fail
  go_ret
  exact ⟨rfl, HB.out⟩

set_option maxRecDepth 100000 in
set_option maxHeartbeats 800000 in
theorem exactWithPoints_big (a : Option Addr) (n cap : Nat) (hn : 1048576 < n) (hm : n ≤ 9223372036854775807) (w : World) :
    Calls Try.prog 9 #[.slice a n cap] w (TrueEnd w) := by
  go_enter Try.func9, Try.ntmps9
  go_wp2_with fail
  go_ret
  exact ⟨rfl, Below.refl _ _⟩

theorem exactWithPoints (a : Option Addr) (n cap : Nat) (f : Nat → Int) (w : World) (hi : Ints w a n f) :
    Calls Try.prog 9 #[.slice a n cap] w (TrueEnd w) := by
  by_cases hn : n ≤ 1048576
  · exact exactWithPoints_in a n cap f hn w hi
  · exact exactWithPoints_big a n cap (by omega) hi.1.1 w

set_option maxRecDepth 100000 in
set_option maxHeartbeats 6400000 in
theorem exactWithSums_in (a : Option Addr) (n cap : Nat) (f : Nat → Int) (hn : n ≤ 1048576) (w : World) (hi : Ints w a n f) :
    Calls Try.prog 10 #[.slice a n cap] w (TrueEnd w) := by
  have hnot : ∀ (x : Bool) (w : World), (Op.unary .not (.bool x)).run Try.prog w = .ok (.bool (!x)) w := fun _ _ => rfl
  obtain ⟨hl, h64⟩ := doneL_I64 n f (FS n f)
  obtain ⟨m, hm⟩ : ∃ m, (doneL n f (FS n f)).length = m := ⟨_, rfl⟩
  obtain ⟨bb, hbb⟩ : ∃ bb, roomB n f (FS n f) = bb := ⟨_, rfl⟩
  have HBB := Lib.hid hbb
  have hbf : (bb != bb) = false := by simp
  clear hbb
  have HM := Lib.hid hm; have HL := Lib.hid hl; have H64 := Lib.hid h64; have HI := Lib.hid hi
  have hm1 : ¬ ((m : Int) + 1 < 0) := by omega
  have hn1 : ¬ ((n : Int) + 1 < 0) := by omega
  have hne : (((m : Int) + 1) != ((m : Int) + 1)) = false := by simp
  clear hm hl h64 hi
  go_enter Try.func10, Try.ntmps10
  go_wp2_with fail
  refine (toIntF_any a n cap f hn _ HI.out).mono ?_
  rintro e w1 ⟨rfl, hb1, hi1, _⟩
  have HB := Lib.hid hb1; have HI1 := Lib.hid hi1; have HS1 := Lib.hid hb1.size; clear hb1 hi1
  go_wp2_with fail
  refine (specWithSums_any _ n n f _ HI1.out).mono ?_
  intro e w2 hg
  rw [HBB.out] at hg
  obtain ⟨a1, c1, rfl, h1, hb2⟩ := hg.has HL.out H64.out
  rw [HM.out]
  have H1 := Lib.hid h1; have HS2 := Lib.hid hb2.size; replace HB := Lib.hid (below_onto HB.out hb2); clear hg h1 hb2 HI1
  go_wp2_with fail
  refine (toIntF_any a n cap f hn _ (HI.out.below HB.out (Nat.le_refl _))).mono ?_
  rintro e w3 ⟨rfl, hb3, hi3, hx3⟩
  have HI3 := Lib.hid hi3; have HX := Lib.hid hx3; have HS3 := Lib.hid hb3.size; replace H1 := Lib.hid (H1.out.next hb3); replace HB := Lib.hid (below_onto HB.out hb3); clear hb3 hi3 hx3
  go_wp2_with fail
  refine (WithSums_any _ n n f _ HI3.out).mono ?_
  intro e w4 hg
  rw [HBB.out] at hg
  obtain ⟨a2, c2, rfl, h2, hb4⟩ := hg.has HL.out H64.out
  rw [HM.out]
  have H2 := Lib.hid h2; have HS4 := Lib.hid hb4.size; replace H1 := Lib.hid (H1.out.next hb4); replace HX := Lib.hid (HX.out.next hb4); replace HI3 := Lib.hid (HI3.out.next hb4); replace HB := Lib.hid (below_onto HB.out hb4); clear hg h2 hb4
  go_wp2_with fail
  refine (eqIntS_has _ _ m _ _ _ _ _ _ _ HM.out _ H2.out H1.out).mono ?_
  rintro e w5 ⟨rfl, hd⟩
  replace H1 := Lib.hid (H1.out.next hd.below); replace H2 := Lib.hid (H2.out.next hd.below); replace HX := Lib.hid (HX.out.next hd.below); replace HI3 := Lib.hid (HI3.out.next hd.below); replace HB := Lib.hid (below_onto HB.out hd.below)
  clear hd
  go_wp2_with fail
  refine (toIntF_any a n cap f hn _ (HI.out.below HB.out (Nat.le_refl _))).mono ?_
  rintro e w6 ⟨rfl, hb6, hi6, _⟩
  have HI6 := Lib.hid hi6; replace H1 := Lib.hid (H1.out.next hb6); replace H2 := Lib.hid (H2.out.next hb6); replace HX := Lib.hid (HX.out.next hb6); replace HI3 := Lib.hid (HI3.out.next hb6); replace HB := Lib.hid (below_onto HB.out hb6)
  clear hb6 hi6
  go_wp2_with fail
  refine (eqIntS_any _ _ _ _ n f hn _ HI3.out HI6.out).mono ?_
  rintro e w7 ⟨rfl, hd⟩
  replace H1 := Lib.hid (H1.out.next hd.below); replace H2 := Lib.hid (H2.out.next hd.below); replace HX := Lib.hid (HX.out.next hd.below); replace HB := Lib.hid (below_onto HB.out hd.below)
  clear hd HI3 HI6
  go_wp2_with fail
  refine (mark_any _ _ _ n _ _ (rowL_len f n) _ HX.out).mono ?_
  rintro e w8 ⟨rfl, hb, _⟩
  replace H1 := Lib.hid (H1.out.apart hb (.inl (Nat.le_refl _))); replace H2 := Lib.hid (H2.out.apart hb (.inr (Nat.le_refl _)))
  replace HB := Lib.hid (HB.out.trans (hb.below (C := w.heap.size) (Nat.le_trans HS1.out HS2.out) HB.out.size))
  clear hb HX
  go_wp2_with fail
  refine (eqIntS_has _ _ m _ _ _ _ _ _ _ HM.out _ H2.out H1.out).mono ?_
  rintro e w9 ⟨rfl, hd⟩
  replace H1 := Lib.hid (H1.out.next hd.below); replace H2 := Lib.hid (H2.out.next hd.below); replace HB := Lib.hid (below_onto HB.out hd.below)
  clear hd
  go_wp2_with fail
  refine (mark_any _ _ _ m _ _ HM.out _ H2.out).mono ?_
  rintro e w10 ⟨rfl, hb, h2⟩
  replace H1 := Lib.hid (H1.out.apart hb (.inl HS3.out)); replace H2 := Lib.hid h2
  replace HB := Lib.hid (HB.out.trans (hb.below (C := w.heap.size) (Nat.le_trans HS1.out (Nat.le_trans HS2.out HS3.out)) HB.out.size))
  clear hb h2
  go_wp2_with fail
  refine (held_any _ _ _ m _ _ H2.out).mono ?_
  rintro e w' ⟨rfl, rfl⟩
  go_wp2_with fail
  refine (toIntF_any a n cap f hn _ (HI.out.below HB.out (Nat.le_refl _))).mono ?_
  rintro e w11 ⟨rfl, hb11, hi11, _⟩
  have HI11 := Lib.hid hi11; replace H1 := Lib.hid (H1.out.next hb11); replace H2 := Lib.hid (H2.out.next hb11); replace HB := Lib.hid (below_onto HB.out hb11)
  clear hb11 hi11
  go_wp2_with fail
  refine (WithSums_any _ n n f _ HI11.out).mono ?_
  intro e w12 hg
  rw [HBB.out] at hg
  obtain ⟨a5, c5, rfl, h5, hb12⟩ := hg.has HL.out H64.out
  rw [HM.out]
  have H5 := Lib.hid h5; replace H1 := Lib.hid (H1.out.next hb12); replace H2 := Lib.hid (H2.out.next hb12); replace HB := Lib.hid (below_onto HB.out hb12)
  clear hg h5 hb12
  go_wp2_with fail
  refine (eqIntS_has _ _ m _ _ _ _ _ _ _ HM.out _ H5.out H1.out).mono ?_
  rintro e w13 ⟨rfl, hd⟩
  replace H2 := Lib.hid (H2.out.next hd.below); replace HB := Lib.hid (below_onto HB.out hd.below)
  clear hd
  go_wp2_with fail
  refine (held_any _ _ _ m _ _ H2.out).mono ?_
  rintro e w' ⟨rfl, rfl⟩
  go_wp2_with fail
  go_ret
  exact ⟨rfl, HB.out⟩

set_option maxRecDepth 100000 in
set_option maxHeartbeats 800000 in
theorem exactWithSums_big (a : Option Addr) (n cap : Nat) (hn : 1048576 < n) (hm : n ≤ 9223372036854775807) (w : World) :
    Calls Try.prog 10 #[.slice a n cap] w (TrueEnd w) := by
  go_enter Try.func10, Try.ntmps10
  go_wp2_with fail
  go_ret
  exact ⟨rfl, Below.refl _ _⟩

theorem exactWithSums (a : Option Addr) (n cap : Nat) (f : Nat → Int) (w : World) (hi : Ints w a n f) :
    Calls Try.prog 10 #[.slice a n cap] w (TrueEnd w) := by
  by_cases hn : n ≤ 1048576
  · exact exactWithSums_in a n cap f hn w hi
  · exact exactWithSums_big a n cap (by omega) hi.1.1 w

set_option maxRecDepth 100000 in
set_option maxHeartbeats 1600000 in
theorem exactFamilyOk_in (a : Option Addr) (n cap : Nat) (f : Nat → Int) (hn : n ≤ 1048576) (w : World) (hi : Ints w a n f) :
    Calls Try.prog 6 #[.slice a n cap] w (TrueEnd w) := by
  have h64 := Lib.hid hi.1
  go_enter Try.func6, Try.ntmps6
  go_wp2_with fail
  refine (toIntS_any a n cap f hn _ hi).mono ?_
  intro e w1 hf1
  have hi1 := hf1.ints h64.out
  obtain ⟨hb1, rfl, hs1, hr1⟩ := hf1
  replace hi := hi.next hb1
  clear hr1
  go_wp2_with fail
  refine (specFamilyOk_any _ n n f  _ hi1).mono ?_
  rintro e w2 ⟨rfl, hd2⟩
  clear hi1
  replace hi := hi.drew hd2
  replace hb1 := below_onto hb1 hd2.below
  go_wp2_with fail
  refine (toIntS_any a n cap f hn _ hi).mono ?_
  intro e w3 hf3
  have hi3 := hf3.ints h64.out
  obtain ⟨hb3, rfl, hs3, hr3⟩ := hf3
  replace hi := hi.next hb3
  replace hb1 := below_onto hb1 hb3
  clear hr3
  go_wp2_with fail
  refine (FamilyOk_any _ n n f  _ hi3).mono ?_
  rintro e w4 ⟨rfl, hb4⟩
  replace hi := hi.next hb4
  replace hi3 := hi3.next hb4
  replace hb1 := below_onto hb1 hb4
  have hne : (famOkB n f != famOkB n f) = false := by simp
  go_wp2_with fail
  refine (toIntS_any a n cap f hn _ hi).mono ?_
  intro e w5 hf5
  have hi5 := hf5.ints h64.out
  obtain ⟨hb5, rfl, hs5, hr5⟩ := hf5
  replace hi3 := hi3.next hb5
  replace hb1 := below_onto hb1 hb5
  clear hr5
  go_wp2_with fail
  refine (eqIntS_any _ _ _ _ n f hn _ hi3 hi5).mono ?_
  rintro e w6 ⟨rfl, hd6⟩
  go_wp2_with fail
  go_ret
  exact ⟨rfl, below_onto hb1 hd6.below⟩

set_option maxRecDepth 100000 in
set_option maxHeartbeats 800000 in
theorem exactFamilyOk_big (a : Option Addr) (n cap : Nat) (hn : 1048576 < n) (hm : n ≤ 9223372036854775807) (w : World) :
    Calls Try.prog 6 #[.slice a n cap] w (TrueEnd w) := by
  go_enter Try.func6, Try.ntmps6
  go_wp2_with fail
  go_ret
  exact ⟨rfl, Below.refl _ _⟩

theorem exactFamilyOk (a : Option Addr) (n cap : Nat) (f : Nat → Int) (w : World) (hi : Ints w a n f) :
    Calls Try.prog 6 #[.slice a n cap] w (TrueEnd w) := by
  by_cases hn : n ≤ 1048576
  · exact exactFamilyOk_in a n cap f  hn w hi
  · exact exactFamilyOk_big a n cap  (by omega) hi.1.1 w
end Go.Proofs.Ytdlafcioopclhaa
