import Derived.Test.YtdlafcioopclhaaGreatFamU
import Derived.Test.YtdlafcioopclhaaGreatOcA
import Derived.Test.YtdlafcioopclhaaGreatClassN
namespace Go.Proofs.YtdlafcioopclhaaGreat
open Go.RowKit Go.Maps

/-- the set of a thing's atoms, as points -/
def fofI (n : Nat) (f : Nat → Int) (a : Nat) : Int := cmpK (atomsI n f) (f a) n
/-- how many atoms there are -/
def atomsN (n : Nat) (f : Nat → Int) : Nat := popc 7 (atomsI n f).toNat
def fofB (n : Nat) (f : Nat → Int) : Bool := strongB n f && decide (atomsN n f ≤ 4)
def fofL (n : Nat) (f : Nat → Int) : List Int := if fofB n f then rowL (fofI n f) n else []

theorem strongOk_val (a : Option Addr) (n cap : Nat) (f : Nat → Int) (v : Bool) (w : World) (hv : strongB n f = v) (hi : Ints w a n f) :
    Calls Tryz.prog 11 #[.slice a n cap] w fun e w' => e = .returned (.bool v) ∧ Below w.heap.size w w' := by subst hv; exact StrongOk_any a n cap f w hi
theorem specStrong_val (a : Option Addr) (n cap : Nat) (f : Nat → Int) (v : Bool) (w : World) (hv : strongB n f = v) (hi : Ints w a n f) :
    Calls Tryz.prog 23 #[.slice a n cap] w fun e w' => e = .returned (.bool v) ∧ Drew w w' := by subst hv; exact specStrongOk_any a n cap f w hi
theorem specAtoms_at (a : Option Addr) (n cap : Nat) (f : Nat → Int) (w : World) (hw : worldB n f = true) (hi : Ints w a n f) :
    Calls Tryz.prog 25 #[.slice a n cap] w fun e w' => e = .returned (.int .i64 (atomsI n f)) ∧ Drew w w' := by
  have := specAtomsOf_any a n cap f w hi
  rwa [show atomsB n f = atomsI n f by unfold atomsB; rw [if_pos hw]] at this

/-! ### the program -/

theorem rowL_set (F : Nat → Int) (n k : Nat) (x : Int) : (rowL F n).set k x = rowL (fun i => if i = k then x else F i) n := by
  unfold rowL
  apply List.ext_getElem?
  intro i
  rw [List.getElem?_set, List.getElem?_map, List.getElem?_map]
  by_cases hi : i < n
  · rw [List.getElem?_range hi]
    by_cases e : k = i
    · subst e; simp [hi]
    · have e' : ¬ i = k := fun h => e h.symm
      simp [e, e']
  · rw [List.getElem?_eq_none (by simp; omega : (List.range n).length ≤ i)]
    by_cases e : k = i
    · subst e; simp; omega
    · simp [e]
theorem OwnX.put {w : World} {B g cap n j : Nat} {F : Nat → Int} {s : Int} (h : OwnX w B 3 (.slice (some ⟨g, 0, none⟩) n cap) (rowL F n)) : OwnX (w.setCell ⟨g, j, none⟩ (.int .i64 s)) B 3 (.slice (some ⟨g, 0, none⟩) n cap) (rowL (fun i => if i = j then s else F i) n) := by
  have h' : w.ownsRow B 3 1 (.slice (some ⟨g, 0, none⟩) n cap) n ((rowL F n).map (Value.int .i64)) := by
    have := h; unfold OwnX at this; rwa [rowL_len] at this
  have := (World.ownsRow.stored h' j (.int .i64 s)).1
  unfold OwnX
  rw [rowL_len, ← rowL_set, List.map_set]
  exact this
/-- the list while it is counted up -/
def upF (n : Nat) (f : Nat → Int) (k i : Nat) : Int := if i < k then fofI n f i else nameI n f i
theorem up_zero (n : Nat) (f : Nat → Int) : upF n f 0 = nameI n f := by funext i; unfold upF; rw [if_neg (by omega)]
theorem up_all (n : Nat) (f : Nat → Int) : rowL (upF n f n) n = rowL (fofI n f) n := by
  unfold rowL
  refine List.map_congr_left (fun i hi => ?_)
  unfold upF; rw [if_pos (List.mem_range.1 hi)]
theorem up_step (n : Nat) (f : Nat → Int) (k : Nat) : (fun i => if i = k then fofI n f k else upF n f k i) = upF n f (k + 1) := by
  funext i; unfold upF
  by_cases e : i = k
  · subst e; rw [if_pos rfl, if_pos (by omega)]
  · rw [if_neg e]
    by_cases h : i < k
    · rw [if_pos h, if_pos (by omega)]
    · rw [if_neg h, if_neg (by omega)]
theorem name_fof {n : Nat} {f : Nat → Int} (hP : WorldP n f) {k : Nat} (hk : k < n) : ∃ z : Nat, z < 1000 ∧ nameI n f k = z ∧ fofI n f k = (z : Int) + 1 := by
  obtain ⟨X, hX, _, h128⟩ := atoms_nat (f := f) hP.hi
  obtain ⟨i, h1, _, h3⟩ := name_at hP hX hk
  refine ⟨i, ?_, h3, by unfold nameI at h3; unfold fofI; omega⟩
  have := subs_len_le X (X + 1)
  omega

set_option maxRecDepth 100000 in
set_option maxHeartbeats 6400000 in
theorem FamilyOf_in (a : Option Addr) (n cap : Nat) (f : Nat → Int) (w : World) (hi : Ints w a n f) (hs : strongB n f = true) (v : Bool) (hv : decide (atomsN n f ≤ 4) = v) (xs : List Int) (hx : (if v then rowL (fofI n f) n else []) = xs) :
    Calls Tryz.prog 5 #[.slice a n cap] w (Gives 3 xs w) := by
  have HX := Lib.hid hx; clear hx
  have hnot : ∀ (x : Bool) (w : World), (Op.unary .not (.bool x)).run Tryz.prog w = .ok (.bool (!x)) w := fun _ _ => rfl
  have hw := strong_world hs
  have hP := world_of hi hw
  have HP := Lib.hid hP
  have h7 := hP.hi
  have h1n := hP.lo
  obtain ⟨X, hX, _, hX7⟩ := atoms_nat (f := f) h7
  have HV := Lib.hid (show decide (popc 7 X ≤ 4) = v by
    rw [← hv]; unfold atomsN; rw [hX]; rfl)
  have HI := Lib.hid hi; have HC := Lib.hid hs; have HXX := Lib.hid hX; have HW := Lib.hid hw
  clear hi hs hX hw hv hP
  go_enter Tryz.func5, Tryz.ntmps5
  go_wp2_with fail
  refine (atomWorld0 a n cap f _ HI.out).mono ?_
  rintro e w1 ⟨hbel, ⟨hg, b, g, rfl, haw, hbb⟩ | ⟨hg, rfl⟩⟩
  · have HA := Lib.hid haw; have HB := Lib.hid hbel; have HBB := Lib.hid hbb; clear haw hg hbel hbb
    go_wp2_with fail
    refine (strongOk_val _ n cap f true _ HC.out (HI.out.next HB.out)).mono ?_
    rintro e w2 ⟨rfl, hb2⟩
    have HA2 := Lib.hid (HA.out.below hb2); have HB2 := Lib.hid (below_onto HB.out hb2)
    clear hb2
    go_wp2_with fail
    refine (atoms_any b g n n f h7 _ HA2.out).mono ?_
    rw [HXX.out]
    rintro e w3 ⟨rfl, ha3, ho3⟩
    have HA3 := Lib.hid ha3; have HO3 := Lib.hid ho3
    have HB3 := Lib.hid (only_onto HB2.out ho3 HBB.out)
    clear ha3 ho3
    go_wp2_with fail
    refine (count_any X hX7 _).mono ?_
    rintro e w' ⟨rfl, rfl⟩
    cases v with
    | false =>
      have hc4 : decide ((4 : Int) < ((popc 7 X : Nat) : Int)) = true := decide_eq_true (by have := of_decide_eq_false HV.out; omega)
      have HN := Lib.hid (OwnX.nil w3 w.heap.size 3)
      go_wp2_with fail
      go_ret
      exact ⟨_, rfl, by rw [← HX.out]; exact HN.out, HB3.out⟩
    | true =>
      have hc4 : decide ((4 : Int) < ((popc 7 X : Nat) : Int)) = false := decide_eq_false (by have := of_decide_eq_true HV.out; omega)
      go_wp2_with fail
      refine (named_any b g n n f X HP.out HXX.out _ HA3.out).mono ?_
      rintro e w4 ⟨v4, rfl, hown4, ho4, _⟩
      have HB4 := Lib.hid (only_onto HB3.out ho4 HBB.out)
      have hst : OwnX w4 w3.heap.size 3 v4 (rowL (upF n f 0) n) := by rw [up_zero]; exact hown4
      obtain ⟨g4, c4, e4, hg4, _, _⟩ := hown4.shape (by rw [rowL_len]; exact h1n)
      rw [rowL_len] at e4
      subst e4
      have HG4 := Lib.hid (show w.heap.size ≤ g4 from Nat.le_trans HB3.out.size hg4)
      have HSZ := Lib.hid HB3.out.size
      clear hown4 ho4 hg4
      go_wp2_with fail
      go_loopw [29] (fun i wr => ∃ k : Nat, k ≤ n ∧ i = .int .i64 k ∧ OwnX wr w3.heap.size 3 (.slice (some ⟨g4, 0, none⟩) n c4) (rowL (upF n f k) n) ∧ Below w.heap.size w wr) (fun i _ => n - (intOf i).toNat)
      case atStart => exact ⟨0, Nat.zero_le _, rfl, hst, HB4.out⟩
      case round =>
        clear hst
        obtain ⟨k, hk, rfl, hown, hbel⟩ := hrel
        by_cases hlt : k < n
        · have hki : (k : Int) < (n : Int) := by omega
          obtain ⟨g5, c5, e5, _, _, _, _, hrow5, hfz5⟩ := hown.shape (by rw [rowL_len]; exact h1n)
          rw [rowL_len] at e5
          injection e5 with e5 _ e6
          injection e5 with e5; injection e5 with e5
          subst e5; subst e6
          replace hrow5 := row_of_list hrow5
          obtain ⟨z, hz1, hz2, hz3⟩ := name_fof HP.out hlt
          have hc : wr.cell? ⟨g4, k, none⟩ = some (.int .i64 (z : Int)) := by
            have := hrow5 k hlt
            rw [Nat.zero_add] at this
            rw [this]; unfold upF; rw [if_neg (by omega), hz2]
          have hfr := hfz5 k
          have HNX : Hid (OwnX (wr.setCell ⟨g4, k, none⟩ (.int .i64 ((z : Int) + 1))) w3.heap.size 3 (.slice (some ⟨g4, 0, none⟩) n c4) (rowL (upF n f (k + 1)) n)) := Lib.hid (by
            rw [← up_step, ← hz3]; rw [hz3]; have := hown.put (j := k) (s := (z : Int) + 1)
            rwa [← hz3] at this ⊢)
          have HBN := Lib.hid (show Below w.heap.size w (wr.setCell ⟨g4, k, none⟩ (.int .i64 ((z : Int) + 1))) from hbel.setCell HG4.out _)
          clear hown hbel hrow5 hfz5 hz2 hz3
          go_wp2_with fail
          go_roundw
          case rel => exact ⟨k + 1, by omega, by go_num, HNX.out, HBN.out⟩
          case measure => simp [intOf]; omega
        · have hki : ¬ (k : Int) < (n : Int) := by omega
          have hkn : k = n := by omega
          subst hkn
          have HO := Lib.hid hown; have HB := Lib.hid hbel; clear hown hbel
          have HUP := Lib.hid (up_all k f)
          go_wp2_with fail
          go_ret
          exact ⟨_, rfl, by have h := HO.out.base HSZ.out; rw [HUP.out] at h; rw [← HX.out]; exact h, HB.out⟩
  · rw [HW.out] at hg; cases hg

set_option maxRecDepth 100000 in
set_option maxHeartbeats 1600000 in
theorem FamilyOf_no (a : Option Addr) (n cap : Nat) (f : Nat → Int) (w : World) (hi : Ints w a n f) (hs : strongB n f = false) :
    Calls Tryz.prog 5 #[.slice a n cap] w (Gives 3 [] w) := by
  have hnot : ∀ (x : Bool) (w : World), (Op.unary .not (.bool x)).run Tryz.prog w = .ok (.bool (!x)) w := fun _ _ => rfl
  have HC := Lib.hid hs; have HI := Lib.hid hi; clear hs hi
  go_enter Tryz.func5, Tryz.ntmps5
  go_wp2_with fail
  refine (atomWorld0 a n cap f _ HI.out).mono ?_
  rintro e w1 ⟨hbel, ⟨hg, b, g, rfl, haw, hbb⟩ | ⟨hg, rfl⟩⟩
  · clear haw hg hbb
    have HB := Lib.hid hbel; clear hbel
    go_wp2_with fail
    refine (strongOk_val _ n cap f false _ HC.out (HI.out.next HB.out)).mono ?_
    rintro e w2 ⟨rfl, hb2⟩
    have HN := Lib.hid (OwnX.nil w2 w.heap.size 3)
    have HB2 := Lib.hid (below_onto HB.out hb2)
    clear hb2
    go_wp2_with fail
    go_ret
    exact ⟨_, rfl, HN.out, HB2.out⟩
  · have HN := Lib.hid (OwnX.nil w1 w.heap.size 3)
    go_wp2_with fail
    go_ret
    exact ⟨_, rfl, HN.out, hbel⟩

theorem FamilyOf_any (a : Option Addr) (n cap : Nat) (f : Nat → Int) (w : World) (hi : Ints w a n f) :
    Calls Tryz.prog 5 #[.slice a n cap] w (Gives 3 (fofL n f) w) := by
  cases hs : strongB n f with
  | true =>
    have := FamilyOf_in a n cap f w hi hs _ rfl _ rfl
    unfold fofL fofB
    rw [hs, Bool.true_and]; exact this
  | false =>
    rw [show fofL n f = [] by unfold fofL fofB; rw [hs]; rfl]
    exact FamilyOf_no a n cap f w hi hs

/-! ### the model -/

set_option maxRecDepth 100000 in
set_option maxHeartbeats 6400000 in
theorem specFamilyOf_in (b o n cap : Nat) (f : Nat → Int) (w : World) (hi : Ints w (some ⟨b, o, none⟩) n f) (hrow : Row w b o n f) (hbl : b < w.heap.size) (hs : strongB n f = true) (v : Bool) (hv : decide (atomsN n f ≤ 4) = v) (xs : List Int) (hx : (if v then rowL (fofI n f) n else []) = xs) :
    Calls Tryz.prog 7 #[.slice (some ⟨b, o, none⟩) n cap] w (Gives 3 xs w) := by
  have HX := Lib.hid hx; clear hx
  obtain ⟨i0, hii, hz0, hz1, hz2⟩ := info_parts Tryz.infoInt
  have hnot : ∀ (x : Bool) (w : World), (Op.unary .not (.bool x)).run Tryz.prog w = .ok (.bool (!x)) w := fun _ _ => rfl
  have hw := strong_world hs
  have hP := world_of hi hw
  have h7 := hP.hi
  have h1n := hP.lo
  have hA0 : 0 ≤ atomsI n f := (atomsI_rng n f h7).1
  obtain ⟨X, hX, _, hX7⟩ := atoms_nat (f := f) h7
  have HV := Lib.hid (show decide (popc 7 X ≤ 4) = v by
    rw [← hv]; unfold atomsN; rw [hX]; rfl)
  have HRG := Lib.hid hP.rng
  have HI := Lib.hid hi; have HC := Lib.hid hs; have HW := Lib.hid hw; have HR := Lib.hid hrow; have HXX := Lib.hid hX
  have hst : OwnX (w.alloc (.cells #[] 3)) w.heap.size 3 (.slice (some ⟨w.heap.size, 0, none⟩) 0 0) (rowL (fofI n f) 0) := OwnX.made w _ (Nat.le_refl _) _
  have HST := Lib.hid hst
  have HSB := Lib.hid (alloc_below w (.cells #[] 3))
  clear hi hs hw hP hrow hX hv hst
  go_enter Tryz.func7, Tryz.ntmps7
  go_wp2_with fail
  refine (specStrong_val _ n cap f true _ HC.out (HI.out.below HSB.out (Nat.le_refl _))).mono ?_
  rintro e w1 ⟨rfl, hd1⟩
  have HB1 := Lib.hid (below_onto HSB.out hd1.below); have HST1 := Lib.hid (HST.out.kept hd1.below)
  clear hd1
  go_wp2_with fail
  refine (specAtoms_at _ n cap f _ HW.out (HI.out.below HB1.out (Nat.le_refl _))).mono ?_
  rw [HXX.out]
  rintro e w2 ⟨rfl, hd2⟩
  have HB2 := Lib.hid (below_onto HB1.out hd2.below); have HST2 := Lib.hid (HST1.out.kept hd2.below)
  clear hd2
  go_wp2_with fail
  refine (l1Size_any X hX7 _).mono ?_
  rintro e w' ⟨rfl, rfl⟩
  cases v with
  | false =>
    have hc4 : decide ((4 : Int) < ((popc 7 X : Nat) : Int)) = true := decide_eq_true (by have := of_decide_eq_false HV.out; omega)
    go_wp2_with fail
    go_ret
    exact ⟨_, rfl, by rw [← HX.out]; exact HST2.out, HB2.out⟩
  | true =>
    have hc4 : decide ((4 : Int) < ((popc 7 X : Nat) : Int)) = false := decide_eq_false (by have := of_decide_eq_true HV.out; omega)
    go_wp2_with fail
    go_loopw [3, 4] (fun v i wr => ∃ k : Nat, k ≤ n ∧ i = .int .i64 k ∧ OwnX wr w.heap.size 3 v (rowL (fofI n f) k) ∧ Below w.heap.size w wr) (fun _ i _ => n - (intOf i).toNat)
    case atStart => exact ⟨0, Nat.zero_le _, rfl, HST2.out, HB2.out⟩
    case round =>
      obtain ⟨k, hk, rfl, hown, hbel⟩ := hrel
      obtain ⟨a9, c9, rfl⟩ := hown.slice
      have HOW := Lib.hid hown; have HB := Lib.hid hbel; clear hown hbel
      by_cases hlt : k < n
      · have hki : (k : Int) < (n : Int) := by omega
        go_wp2_with fail
        obtain ⟨w1', hw1'⟩ : ∃ wo : World, wo = wr := ⟨_, rfl⟩
        subst hw1'
        go_loopw [5, 6, 7] (fun v t i wr => ∃ j : Nat, j ≤ n ∧ i = .int .i64 j ∧ t = .int .i64 (atK (atomsI n f) j : Nat) ∧ v = .int .i64 (cmpK (atomsI n f) (f k) j) ∧ Drew w1' wr) (fun _ _ i _ => n - (intOf i).toNat)
        case atStart => exact ⟨0, Nat.zero_le _, rfl, rfl, rfl, Drew.refl _⟩
        case round =>
          obtain ⟨j, hj, rfl, rfl, rfl, hd⟩ := hrel
          have hbw : Below w.heap.size w wr := HB.out.trans (hd.below.mono HB.out.size)
          have hiw := HI.out.next hbw
          have hrw := HR.out.below hbw hbl
          by_cases hjn : j < n
          · have hji : (j : Int) < (n : Int) := by omega
            have hc : wr.cell? ⟨b, o + k, none⟩ = some (.int .i64 (f k)) := hrw k hlt
            have hat := atK_le (atomsI n f) j
            have ⟨hp1, hp2⟩ := pow_bounds (atK (atomsI n f) j) (by omega)
            have hfk := (HRG.out k hlt).1
            have HBW := Lib.hid hbw; have HIW := Lib.hid hiw; clear hbw hiw hrw
            cases hh : hasB (atomsI n f) j with
            | false =>
              have HA := Lib.hid (atK_no hh); have HM := Lib.hid (cmpK_no (x := f k) (show (hasB (atomsI n f) j && hasB (f k) j) = false by rw [hh]; rfl))
              have HH := Lib.hid hh; clear hh
              go_wp2_with fail
              refine (specAtoms_at _ _ _ f _ HW.out HIW.out).mono ?_
              rintro e w2 ⟨rfl, m2, rfl⟩
              go_wp2_with fail
              refine (l1Has_val _ j false _ HH.out (by omega) hA0).mono ?_
              rintro e w' ⟨rfl, rfl⟩
              go_wp2_with fail
              go_roundw
              case rel => exact ⟨j + 1, by omega, by go_num, by rw [HA.out], by rw [HM.out], hd.more _⟩
              case measure => simp [intOf]; omega
            | true =>
              cases hq : hasB (f k) j with
              | false =>
                have HA := Lib.hid (atK_yes hh); have HM := Lib.hid (cmpK_no (x := f k) (show (hasB (atomsI n f) j && hasB (f k) j) = false by rw [hq, Bool.and_false]))
                have HH := Lib.hid hh; have HQ := Lib.hid hq; clear hh hq
                go_wp2_with fail
                refine (specAtoms_at _ _ _ f _ HW.out HIW.out).mono ?_
                rintro e w2 ⟨rfl, m2, rfl⟩
                go_wp2_with fail
                refine (l1Has_val _ j true _ HH.out (by omega) hA0).mono ?_
                rintro e w' ⟨rfl, rfl⟩
                go_wp2_with fail
                refine (l1Has_val _ j false _ HQ.out (by omega) hfk).mono ?_
                rintro e w' ⟨rfl, rfl⟩
                go_wp2_with fail
                go_roundw
                case rel => exact ⟨j + 1, by omega, by go_num, by rw [HA.out]; go_num, by rw [HM.out], hd.more _⟩
                case measure => simp [intOf]; omega
              | true =>
                have HA := Lib.hid (atK_yes hh); have HM := Lib.hid (cmpK_yes hh hq)
                have HH := Lib.hid hh; have HQ := Lib.hid hq; clear hh hq
                go_wp2_with fail
                refine (specAtoms_at _ _ _ f _ HW.out HIW.out).mono ?_
                rintro e w2 ⟨rfl, m2, rfl⟩
                go_wp2_with fail
                refine (l1Has_val _ j true _ HH.out (by omega) hA0).mono ?_
                rintro e w' ⟨rfl, rfl⟩
                go_wp2_with fail
                refine (l1Has_val _ j true _ HQ.out (by omega) hfk).mono ?_
                rintro e w' ⟨rfl, rfl⟩
                go_wp2_with fail
                go_roundw
                case rel => exact ⟨j + 1, by omega, by go_num, by rw [HA.out]; go_num, by rw [HM.out], hd.more _⟩
                case measure => simp [intOf]; omega
          · have hje : j = n := by omega
            subst hje
            have hji : ¬ ((j : Int) < (j : Int)) := by omega
            obtain ⟨z, hz⟩ : ∃ z, cmpK (atomsI j f) (f k) j = z := ⟨_, rfl⟩
            have HZ := Lib.hid hz
            have HS := Lib.hid (show rowL (fofI j f) (k + 1) = rowL (fofI j f) k ++ [z] by rw [rowL_succ]; unfold fofI; rw [hz])
            have HL := Lib.hid (show (rowL (fofI j f) k).length ≤ 1000 by rw [rowL_len]; omega)
            have HSZ := Lib.hid hbw.size; have HBW := Lib.hid hbw
            have HO : Hid (wr.ownsRow w.heap.size 3 1 (.slice a9 (rowL (fofI j f) k).length c9) (rowL (fofI j f) k).length ((rowL (fofI j f) k).map (Value.int .i64))) := Lib.hid (HOW.out.kept hd.below)
            clear hz hbw hiw hrw hd
            rw [HZ.out]
            have k1 := Lib.hid (fun (j : Nat) (u : Value) (h : [Value.int .i64 z][j]? = some u) => cell_one_new wr (.int .i64 z) 3 j u h)
            have k2 : Hid (∀ u ∈ [Value.int .i64 z], u.oneCell' = true) := Lib.hid (by intro u hu; simp at hu; subst hu; rfl)
            have k3 : Hid ((rowL (fofI j f) k).length + 1 ≤ maxLen) := Lib.hid (by have := HL.out; unfold maxLen; omega)
            have k4 : Hid (((rowL (fofI j f) k).length + 1) * 8 ≤ 140737488355328) := Lib.hid (by have := HL.out; omega)
            have k5 : Hid (w.heap.size ≤ (wr.alloc (.cells #[.int .i64 z] 3)).heap.size) := Lib.hid (by rw [alloc_size]; have := HSZ.out; omega)
            go_wp2_with (at_builtin; refine wpList_append_own _ rfl (.tmp 48) (.tmp 50) 23 rfl w.heap.size 3 i0 (.int .i64 0) 1 8 Tryz.underlying23 hii hz0 hz1 hz2 rfl (by decide) _ _ _ rfl (HO.out.alloc _) ⟨wr.heap.size, 0, none⟩ 1 1 [.int .i64 z] rfl rfl k1.out k2.out k3.out k4.out k5.out ?_)
            intro v' w5 hown' hgrow _
            have hg5 : Below w.heap.size wr w5 := ((Below.refl w.heap.size wr).alloc HSZ.out _).grown hgrow (by have := HSZ.out; rw [alloc_size]; omega) (fun q hq => (HO.out.lt q hq).1)
            have ho5 := OwnX.snoc hown'
            clear hown' hgrow k1 k2 k3 k4 k5
            have HO5 := Lib.hid ho5; have HG5 := Lib.hid hg5; clear ho5 hg5
            go_wp2_with fail
            go_roundw
            case rel => exact ⟨k + 1, by omega, by go_num, by rw [HS.out]; exact HO5.out, HBW.out.trans HG5.out⟩
            case measure => simp [intOf]; omega
      · have hki : ¬ (k : Int) < (n : Int) := by omega
        have hkn : k = n := by omega
        subst hkn
        go_wp2_with fail
        go_ret
        exact ⟨_, rfl, by rw [← HX.out]; exact HOW.out, HB.out⟩

set_option maxRecDepth 100000 in
set_option maxHeartbeats 1600000 in
theorem specFamilyOf_no (a : Option Addr) (n cap : Nat) (f : Nat → Int) (w : World) (hi : Ints w a n f) (hs : strongB n f = false) :
    Calls Tryz.prog 7 #[.slice a n cap] w (Gives 3 [] w) := by
  have hnot : ∀ (x : Bool) (w : World), (Op.unary .not (.bool x)).run Tryz.prog w = .ok (.bool (!x)) w := fun _ _ => rfl
  have HC := Lib.hid hs; have HI := Lib.hid hi
  have HST := Lib.hid (OwnX.made w w.heap.size (Nat.le_refl _) 3)
  have HSB := Lib.hid (alloc_below w (.cells #[] 3))
  clear hs hi
  go_enter Tryz.func7, Tryz.ntmps7
  go_wp2_with fail
  refine (specStrong_val _ n cap f false _ HC.out (HI.out.below HSB.out (Nat.le_refl _))).mono ?_
  rintro e w1 ⟨rfl, hd1⟩
  have HB1 := Lib.hid (below_onto HSB.out hd1.below); have HST1 := Lib.hid (HST.out.kept hd1.below)
  clear hd1
  go_wp2_with fail
  go_ret
  exact ⟨_, rfl, HST1.out, HB1.out⟩

theorem specFamilyOf_any (a : Option Addr) (n cap : Nat) (f : Nat → Int) (w : World) (hi : Ints w a n f) :
    Calls Tryz.prog 7 #[.slice a n cap] w (Gives 3 (fofL n f) w) := by
  cases hs : strongB n f with
  | true =>
    obtain ⟨b, o, rfl, hbl, hrow⟩ := hi.row (worldB_7 (strong_world hs)).1
    have := specFamilyOf_in b o n cap f w hi hrow hbl hs _ rfl _ rfl
    unfold fofL fofB
    rw [hs, Bool.true_and]; exact this
  | false =>
    rw [show fofL n f = [] by unfold fofL fofB; rw [hs]; rfl]
    exact specFamilyOf_no a n cap f w hi hs
end Go.Proofs.YtdlafcioopclhaaGreat
