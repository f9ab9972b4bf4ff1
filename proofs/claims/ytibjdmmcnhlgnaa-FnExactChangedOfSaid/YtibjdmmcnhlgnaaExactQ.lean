import Derived.Test.YtibjdmmcnhlgnaaExactP
namespace Go.Proofs.Ytibjdmmcnhlgnaa
set_option linter.unusedVariables false
set_option linter.unusedSimpArgs false
open Go.RowKit Go.Maps

set_option maxRecDepth 100000 in
set_option maxHeartbeats 6400000 in
theorem exactChangedOf_in (a : Option Addr) (n cap : Nat) (f : Nat → Int) (p q : Int) (hn : n ≤ 1048576) (w : World) (hi : Ints w a n f) :
    Calls Try.prog 13 #[.slice a n cap, .agg #[.int .i64 p, .int .i64 q]] w (TrueEnd w) := by
  have hnot : ∀ (x : Bool) (w : World), (Op.unary .not (.bool x)).run Try.prog w = .ok (.bool (!x)) w := fun _ _ => rfl
  obtain ⟨hl, h64⟩ := ch_len n f p q
  have hab := alloc_below w (.cells #[.int .i64 p, .int .i64 q] 51)
  have hwl : w.heap.size < (w.alloc (.cells #[.int .i64 p, .int .i64 q] 51)).heap.size := by rw [alloc_size]; omega
  have hk := Blk2.new w 51 (.int .i64 p) (.int .i64 q)
  have HI := Lib.hid (hi.below hab (Nat.le_refl _))
  have HAB := Lib.hid hab
  obtain ⟨W, hW⟩ : ∃ W, w.alloc (.cells #[.int .i64 p, .int .i64 q] 51) = W := ⟨_, rfl⟩
  rw [hW] at HI HAB hwl hk
  have HB := Lib.hid (Below.refl W.heap.size W)
  have HKS := Lib.hid (show ∀ X, Below W.heap.size W X → X.cell? ⟨w.heap.size, 0, none⟩ = some (.int .i64 p) ∧ X.cell? ⟨w.heap.size, 1, none⟩ = some (.int .i64 q) from fun X hX => (hk.kept hX hwl).cell)
  have HL := Lib.hid (show (chL n f p q).length ≤ 1000 by omega); have H64 := Lib.hid h64
  obtain ⟨k, hk2⟩ : ∃ k, (chL n f p q).length = k := ⟨_, rfl⟩
  have HM := Lib.hid hk2
  have hm1 : ¬ ((k : Int) + 1 < 0) := by omega
  have hn1 : ¬ ((n : Int) + 1 < 0) := by omega
  have hkk : (((k : Int) + 1) != ((k : Int) + 1)) = false := by simp
  have hdn : decide ((1048576 : Int) < (n : Int)) = false := by simp; omega
  have hne : ((chB n f p q) != (chB n f p q)) = false := by simp
  clear hl h64 hi hab hk hwl hk2
  go_enter Try.func13, Try.ntmps13
  go_wp2_with fail
  go_region_held3 (fun w' => w'.cell? ⟨w.heap.size, 0, none⟩ = some (.int .i64 p) ∧ w'.cell? ⟨w.heap.size, 1, none⟩ = some (.int .i64 q)) (first | exact HKS.out _ HB.out | exact HKS.out _ HB.out.drew | exact HKS.out _ (below_drewN HB.out _) | go_keep)
    (first | (go_at_call 41; refine (toIntF_any a n cap f (by omega) _ (HI.out.below (by first | exact HB.out | exact HB.out.drew | exact below_drewN HB.out _) (Nat.le_refl _))).mono ?_; rintro e wi1 ⟨rfl, hbi1, hii1, _⟩; have HX1 := Lib.hid hii1; replace HB := Lib.hid (by first | exact below_onto HB.out hbi1 | exact below_onto HB.out.drew hbi1 | exact below_onto (below_drewN HB.out _) hbi1 : Below W.heap.size W _); clear hbi1 hii1) | (go_at_call 43; refine (toChange_any p q _).mono ?_; rintro e wj1 ⟨rfl, hbj1⟩; replace HX1 := Lib.hid (by first | exact HX1.out.next hbj1 | exact (HX1.out.next (below_drewN (Below.refl _ _) _)).next hbj1); replace HB := Lib.hid (by first | exact below_onto HB.out hbj1 | exact below_onto HB.out.drew hbj1 | exact below_onto (below_drewN HB.out _) hbj1 : Below W.heap.size W _); clear hbj1) | (go_at_call 29; refine (specChangedOf_any _ n n f p q _ (by first | exact HX1.out | exact HX1.out.drewN _)).mono ?_; intro e wk1 hg; obtain ⟨v1, rfl, ho1, hbk1⟩ := hg; obtain ⟨a1, c1, rfl, hh1⟩ := ho1.has HL.out H64.out; rw [HM.out]; have H1 := Lib.hid hh1.within; replace HB := Lib.hid (by first | exact below_onto HB.out hbk1 | exact below_onto HB.out.drew hbk1 | exact below_onto (below_drewN HB.out _) hbk1 : Below W.heap.size W _); clear hbk1 hh1 ho1))
  clear HX1
  have SW1 := Lib.hid HB.out.size
  go_wp2_with fail
  refine (toIntF_any a n cap f (by omega) _ (HI.out.below HB.out (Nat.le_refl _))).mono ?_
  rintro e w2 ⟨rfl, hb2, hi2, hx2⟩
  have X1 := Lib.hid hi2; have XH := Lib.hid hx2
  replace H1 := Lib.hid (H1.out.next hb2); replace HB := Lib.hid (below_onto HB.out hb2)
  have S2 := Lib.hid hb2.size
  clear hb2 hi2 hx2
  have SS := S2
  obtain ⟨hq0, hq1⟩ := HKS.out _ HB.out
  go_wp2_with fail
  refine (toChange_any p q _).mono ?_
  rintro e w3 ⟨rfl, hb3⟩
  have SX := Lib.hid hb3.size
  replace H1 := Lib.hid (H1.out.next hb3); replace X1 := Lib.hid (X1.out.next hb3); replace XH := Lib.hid (XH.out.next hb3); replace HB := Lib.hid (below_onto HB.out hb3)
  clear hb3 hq0 hq1
  go_wp2_with fail
  refine (ChangedOf_any _ n n f p q (Nat.le_refl _) _ X1.out).mono ?_
  rintro e w4 ⟨v4, rfl, ho4, hb4⟩
  obtain ⟨a4, c4, rfl, hh4⟩ := ho4.has HL.out H64.out
  rw [HM.out]
  have H2 := Lib.hid hh4.within; have SY := Lib.hid hb4.size
  replace H1 := Lib.hid (H1.out.next hb4); replace X1 := Lib.hid (X1.out.next hb4); replace XH := Lib.hid (XH.out.next hb4); replace HB := Lib.hid (below_onto HB.out hb4)
  clear ho4 hb4 hh4
  go_wp2_with fail
  refine (eqIntS_has _ _ k _ _ _ _ _ _ _ HM.out _ H2.out H1.out).mono ?_
  rintro e w5 ⟨rfl, hd5⟩
  replace H1 := Lib.hid (H1.out.next hd5.below); replace X1 := Lib.hid (X1.out.next hd5.below); replace XH := Lib.hid (XH.out.next hd5.below); replace H2 := Lib.hid (H2.out.next hd5.below); replace HB := Lib.hid (below_onto HB.out hd5.below)
  clear hd5
  go_wp2_with fail
  refine (toIntF_any a n cap f (by omega) _ (HI.out.below HB.out (Nat.le_refl _))).mono ?_
  rintro e w6 ⟨rfl, hb6, hi6, hx6⟩
  have X2 := Lib.hid hi6
  replace H1 := Lib.hid (H1.out.next hb6); replace X1 := Lib.hid (X1.out.next hb6); replace XH := Lib.hid (XH.out.next hb6); replace H2 := Lib.hid (H2.out.next hb6); replace HB := Lib.hid (below_onto HB.out hb6)
  clear hb6 hi6 hx6
  go_wp2_with fail
  refine (eqIntS_any _ _ _ _ n f (by omega) _ X1.out X2.out).mono ?_
  rintro e w7 ⟨rfl, hd7⟩
  replace H1 := Lib.hid (H1.out.next hd7.below); replace X1 := Lib.hid (X1.out.next hd7.below); replace XH := Lib.hid (XH.out.next hd7.below); replace H2 := Lib.hid (H2.out.next hd7.below); replace X2 := Lib.hid (X2.out.next hd7.below); replace HB := Lib.hid (below_onto HB.out hd7.below)
  clear hd7
  clear X1 X2
  go_wp2_with fail
  refine (mark_any _ _ _ n _ _ (rowL_len f n) _ XH.out).mono ?_
  rintro e wa ⟨rfl, hb, _⟩
  replace H1 := Lib.hid (H1.out.apart hb (.inl (Nat.le_refl _))); replace H2 := Lib.hid (H2.out.apart hb (.inr SX.out))
  replace HB := Lib.hid (HB.out.trans (hb.below (C := W.heap.size) SW1.out HB.out.size))
  clear hb XH
  go_wp2_with fail
  refine (eqIntS_has _ _ k _ _ _ _ _ _ _ HM.out _ H2.out H1.out).mono ?_
  rintro e w8 ⟨rfl, hd8⟩
  replace H1 := Lib.hid (H1.out.next hd8.below); replace H2 := Lib.hid (H2.out.next hd8.below); replace HB := Lib.hid (below_onto HB.out hd8.below)
  clear hd8
  go_wp2_with fail
  refine (mark_any _ _ _ k _ _ HM.out _ H2.out).mono ?_
  rintro e wc ⟨rfl, hb, h2⟩
  replace H1 := Lib.hid (H1.out.apart hb (.inl (Nat.le_trans SS.out SX.out))); replace H2 := Lib.hid h2
  replace HB := Lib.hid (HB.out.trans (hb.below (C := W.heap.size) (Nat.le_trans SW1.out (Nat.le_trans SS.out SX.out)) HB.out.size))
  clear hb h2
  go_wp2_with fail
  refine (held_any _ _ _ k _ _ H2.out).mono ?_
  rintro e w' ⟨rfl, rfl⟩
  go_wp2_with fail
  go_region_held3 (fun w' => w'.cell? ⟨w.heap.size, 0, none⟩ = some (.int .i64 p) ∧ w'.cell? ⟨w.heap.size, 1, none⟩ = some (.int .i64 q)) (first | exact HKS.out _ HB.out | exact HKS.out _ HB.out.drew | exact HKS.out _ (below_drewN HB.out _) | go_keep)
    (first | (go_at_call 41; refine (toIntF_any a n cap f (by omega) _ (HI.out.below (by first | exact HB.out | exact HB.out.drew | exact below_drewN HB.out _) (Nat.le_refl _))).mono ?_; rintro e wi9 ⟨rfl, hbi9, hii9, _⟩; have HX9 := Lib.hid hii9; replace H1 := Lib.hid (by first | exact H1.out.next hbi9 | exact (H1.out.next (below_drewN (Below.refl _ _) _)).next hbi9); replace H2 := Lib.hid (by first | exact H2.out.next hbi9 | exact (H2.out.next (below_drewN (Below.refl _ _) _)).next hbi9); replace HB := Lib.hid (by first | exact below_onto HB.out hbi9 | exact below_onto HB.out.drew hbi9 | exact below_onto (below_drewN HB.out _) hbi9 : Below W.heap.size W _); clear hbi9 hii9) | (go_at_call 43; refine (toChange_any p q _).mono ?_; rintro e wj9 ⟨rfl, hbj9⟩; replace HX9 := Lib.hid (by first | exact HX9.out.next hbj9 | exact (HX9.out.next (below_drewN (Below.refl _ _) _)).next hbj9); replace H1 := Lib.hid (by first | exact H1.out.next hbj9 | exact (H1.out.next (below_drewN (Below.refl _ _) _)).next hbj9); replace H2 := Lib.hid (by first | exact H2.out.next hbj9 | exact (H2.out.next (below_drewN (Below.refl _ _) _)).next hbj9); replace HB := Lib.hid (by first | exact below_onto HB.out hbj9 | exact below_onto HB.out.drew hbj9 | exact below_onto (below_drewN HB.out _) hbj9 : Below W.heap.size W _); clear hbj9) | (go_at_call 28; refine (ChangedOf_any _ n n f p q (Nat.le_refl _) _ (by first | exact HX9.out | exact HX9.out.drewN _)).mono ?_; intro e wk9 hg; obtain ⟨v9, rfl, ho9, hbk9⟩ := hg; obtain ⟨a9, c9, rfl, hh9⟩ := ho9.has HL.out H64.out; rw [HM.out]; have H5 := Lib.hid hh9.within; replace H1 := Lib.hid (by first | exact H1.out.next hbk9 | exact (H1.out.next (below_drewN (Below.refl _ _) _)).next hbk9); replace H2 := Lib.hid (by first | exact H2.out.next hbk9 | exact (H2.out.next (below_drewN (Below.refl _ _) _)).next hbk9); replace HB := Lib.hid (by first | exact below_onto HB.out hbk9 | exact below_onto HB.out.drew hbk9 | exact below_onto (below_drewN HB.out _) hbk9 : Below W.heap.size W _); clear hbk9 hh9 ho9))
  go_wp2_with fail
  refine (eqIntS_has _ _ k _ _ _ _ _ _ _ HM.out _ H5.out H1.out).mono ?_
  rintro e w10 ⟨rfl, hd10⟩
  replace H1 := Lib.hid (H1.out.next hd10.below); replace H2 := Lib.hid (H2.out.next hd10.below); replace H5 := Lib.hid (H5.out.next hd10.below); replace HB := Lib.hid (below_onto HB.out hd10.below)
  clear hd10
  go_wp2_with fail
  refine (held_any _ _ _ k _ _ H2.out).mono ?_
  rintro e w' ⟨rfl, rfl⟩
  go_wp2_with fail
  go_ret
  exact ⟨rfl, below_onto HAB.out HB.out⟩

theorem exactChangedOf (a : Option Addr) (n cap : Nat) (f : Nat → Int) (p q : Int) (w : World) (hi : Ints w a n f) :
    Calls Try.prog 13 #[.slice a n cap, .agg #[.int .i64 p, .int .i64 q]] w (TrueEnd w) := by
  by_cases hn : n ≤ 1048576
  · exact exactChangedOf_in a n cap f p q hn w hi
  · have hm := hi.1.1
    have HAB := Lib.hid (alloc_below w (.cells #[.int .i64 p, .int .i64 q] 51))
    clear hi
    go_enter Try.func13, Try.ntmps13
    go_wp2_with fail
    go_ret
    exact ⟨rfl, HAB.out⟩

end Go.Proofs.Ytibjdmmcnhlgnaa
