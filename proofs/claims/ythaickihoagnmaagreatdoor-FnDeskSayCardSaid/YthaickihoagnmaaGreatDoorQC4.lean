import Derived.Test.YthaickihoagnmaaGreatDoorQC3
import Derived.RangeFuncNested
import Derived.RangeFuncBound
import Derived.RangeFuncCalls
import Derived.RangeFuncLeaves
import Derived.Shelf.Abstract
import Derived.Shelf.RegionOpen
import Derived.WalkKit
import Derived.OwnWalkIn
import Derived.TacticsInMore
import Derived.LoopNIn
import Derived.LoopIn
import Derived.Defers
import Derived.RegionCalls
import Derived.StillTailTactics
import Derived.Deep.RegionWith
import Derived.Deep.RegionHeld3
set_option linter.unusedVariables false
set_option linter.unusedSimpArgs false
set_option maxHeartbeats 12800000
namespace Go.Proofs.YthaickihoagnmaaGreatDoor
open Go.RowKit
def metK (n : Nat) (f : Nat → Int) (s : Int) : Nat → Int
  | 0 => 0
  | k + 1 => if hasB s k then orI (metK n f s k) (meetI n f k) else metK n f s k
def metI (n : Nat) (f : Nat → Int) (s : Int) : Int := metK n f s n
def sumG (n : Nat) (f : Nat → Int) (s : Int) (a : Nat) : Bool := meetI n f a == metI n f s
def setB (n : Nat) (f : Nat → Int) (s : Int) : Bool := worldB n f && inB 1 s (2 ^ n - 1)
def sumsI (n : Nat) (f : Nat → Int) (s : Int) : Int := setOf (sumG n f s) n
def sumsB (n : Nat) (f : Nat → Int) (s : Int) : Int := if setB n f s then sumsI n f s else -1
def hasSumB (n : Nat) (f : Nat → Int) (s : Int) : Bool := decide (∃ a, a < n ∧ sumG n f s a = true)
def summedB (n : Nat) (f : Nat → Int) : Bool := worldB n f && decide (∀ s : Nat, s < 2 ^ n → 1 ≤ s → hasSumB n f s = true)
theorem metK_yes {n : Nat} {f : Nat → Int} {s : Int} {k : Nat} (h : hasB s k = true) : metK n f s (k + 1) = bits .or .i64 (metK n f s k) (meetI n f k) := by
  rw [metK, if_pos h]; rfl
theorem metK_no {n : Nat} {f : Nat → Int} {s : Int} {k : Nat} (h : hasB s k = false) : metK n f s (k + 1) = metK n f s k := by
  rw [metK, if_neg (by rw [h]; decide)]
theorem anti_eq {n : Nat} {f : Nat → Int} (hP : WorldP n f) {a b : Nat} (ha : a < n) (hb : b < n) (h1 : hasB (f a) b = true) (h2 : hasB (f b) a = true) : a = b := by
  apply Classical.byContradiction; intro e
  rw [hP.anti a ha b hb e h1] at h2; cases h2
theorem setB_iff {n : Nat} {f : Nat → Int} {s : Int} : setB n f s = true ↔ worldB n f = true ∧ 1 ≤ s ∧ s ≤ 2 ^ n - 1 := by
  unfold setB inB; simp only [Bool.and_eq_true, decide_eq_true_eq]
theorem sums_bit {n : Nat} {f : Nat → Int} {s : Int} {a : Nat} (ha : a < n) (hn : n ≤ 7) : hasB (sumsI n f s) a = sumG n f s a := by
  unfold sumsI; rw [setOf_bit _ _ _ (by omega), decide_eq_true ha, Bool.true_and]
theorem or_eq_within (x y : Int) (hx : I64 x) : (bits .or .i64 x y == x) = withinB y x := by
  rw [Bool.eq_iff_iff, beq_iff_eq, within_iff]; exact or_eq_iff x y hx
theorem setB_eq {n : Nat} {f : Nat → Int} {s : Int} (h64 : I64 s) : setB n f s = (worldB n f && (!(s == 0) && withinB s (2 ^ n - 1))) := by
  unfold setB
  cases hw : worldB n f with
  | false => rfl
  | true =>
    have h7 := (worldB_7 hw).2
    rw [Bool.true_and, Bool.true_and, Bool.eq_iff_iff, Bool.and_eq_true, within_low s n (by omega) h64]
    unfold inB
    simp only [Bool.and_eq_true, decide_eq_true_eq, Bool.not_eq_true', beq_eq_false_iff_ne]
    omega
theorem Drew.onto {a b c : World} (h : Drew a b) (k : Drew b c) : Drew a c := by obtain ⟨m, rfl⟩ := k; exact h.more m
theorem row_drew {w w' : World} {b o n : Nat} {f : Nat → Int} (h : Row w b o n f) (hd : Drew w w') : Row w' b o n f := by obtain ⟨m, rfl⟩ := hd; exact h.drewN m
theorem l4Set_any (a : Option Addr) (n cap : Nat) (f : Nat → Int) (s : Int) (w : World) (hi : Ints w a n f) :
    Calls Tryz.prog 124 #[.slice a n cap, .int .i64 s] w fun e w' => e = .returned (.bool (setB n f s)) ∧ Drew w w' := by
  cases hw : worldB n f with
  | true =>
    have h7 := (worldB_7 hw).2
    obtain ⟨hp1, hp2⟩ := pow_bounds n h7
    have HF := Lib.hid (show setB n f s = inB 1 s (2 ^ n - 1) by unfold setB; rw [hw]; rfl)
    have HW := Lib.hid hw; have HN := Lib.hid hi; clear hw hi
    go_enter Tryz.func124, Tryz.ntmps124
    go_wp2_with fail
    refine (specWorldOk_val _ _ _ f true _ HW.out HN.out).mono ?_
    rintro e w' ⟨rfl, m, rfl⟩
    go_wp2_with fail
    refine (l1In_any s 1 (2 ^ n - 1) _).mono ?_
    rintro e w' ⟨rfl, rfl⟩
    go_wp2_with fail
    go_ret
    exact ⟨retb HF.out.symm, _, rfl⟩
  | false =>
    have HF := Lib.hid (show setB n f s = false by unfold setB; rw [hw]; rfl)
    have HW := Lib.hid hw; have HN := Lib.hid hi; clear hw hi
    go_enter Tryz.func124, Tryz.ntmps124
    go_wp2_with fail
    refine (specWorldOk_val _ _ _ f false _ HW.out HN.out).mono ?_
    rintro e w' ⟨rfl, m, rfl⟩
    go_wp2_with fail
    go_ret
    exact ⟨retb HF.out.symm, _, rfl⟩
theorem l4Set_val (a : Option Addr) (n cap : Nat) (f : Nat → Int) (s : Int) (v : Bool) (w : World) (hv : setB n f s = v) (hi : Ints w a n f) :
    Calls Tryz.prog 124 #[.slice a n cap, .int .i64 s] w fun e w' => e = .returned (.bool v) ∧ Drew w w' := by
  subst hv; exact l4Set_any a n cap f s w hi
theorem meetB_at {n : Nat} {f : Nat → Int} {k : Nat} (hw : worldB n f = true) (hk : k < n) : meetB n f k = meetI n f k := by
  unfold meetB; rw [if_pos ((good1_iff n f k).2 ⟨hw, by omega, by omega⟩), Int.toNat_natCast]
theorem specMeet_at (a : Option Addr) (n cap : Nat) (f : Nat → Int) (k : Nat) (w : World) (hw : worldB n f = true) (hk : k < n) (hi : Ints w a n f) :
    Calls Tryz.prog 125 #[.slice a n cap, .int .i64 k] w fun e w' => e = .returned (.int .i64 (meetI n f k)) ∧ Drew w w' := by
  rw [← meetB_at hw hk]; exact specMeetingSet_any a n cap f k w hi
theorem l4Met_any (a : Option Addr) (n cap : Nat) (f : Nat → Int) (s : Int) (w : World) (hs : setB n f s = true) (hi : Ints w a n f) :
    Calls Tryz.prog 126 #[.slice a n cap, .int .i64 s] w fun e w' => e = .returned (.int .i64 (metI n f s)) ∧ Drew w w' := by
  obtain ⟨hw, hs1, hs2⟩ := setB_iff.1 hs
  have h7 := (worldB_7 hw).2
  have hs0 : 0 ≤ s := by omega
  have HW := Lib.hid hw; have HN := Lib.hid hi; clear hw hi hs hs1 hs2
  go_enter Tryz.func126, Tryz.ntmps126
  go_wp2_with fail
  go_loopw [5, 6] (fun v i wr => ∃ k : Nat, k ≤ n ∧ i = .int .i64 k ∧ v = .int .i64 (metK n f s k) ∧ Drew w wr) (fun _ i _ => n - (intOf i).toNat)
  case atStart => exact ⟨0, Nat.zero_le _, rfl, rfl, Drew.refl _⟩
  case round =>
    obtain ⟨k, hk, rfl, rfl, hd⟩ := hrel
    by_cases hlt : k < n
    · have hki : (k : Int) < (n : Int) := by omega
      have hk63 : k ≤ 63 := by omega
      cases hb : hasB s k with
      | true =>
        have HS := Lib.hid (metK_yes (n := n) (f := f) hb); have HB := Lib.hid hb; clear hb
        go_wp2_with fail
        refine (l1Has_val s k true _ HB.out hk63 hs0).mono ?_
        rintro e w1 ⟨rfl, rfl⟩
        go_wp2_with fail
        refine (specMeet_at a n _ f k _ HW.out hlt (HN.out.drew hd)).mono ?_
        rintro e w1 ⟨rfl, m1, rfl⟩
        go_wp2_with fail
        go_roundw
        case rel => exact ⟨k + 1, by omega, by go_num, by rw [HS.out], hd.more m1⟩
        case measure => simp [intOf]; omega
      | false =>
        have HS := Lib.hid (metK_no (n := n) (f := f) hb); have HB := Lib.hid hb; clear hb
        go_wp2_with fail
        refine (l1Has_val s k false _ HB.out hk63 hs0).mono ?_
        rintro e w1 ⟨rfl, rfl⟩
        go_wp2_with fail
        go_roundw
        case rel => exact ⟨k + 1, by omega, by go_num, by rw [HS.out], hd⟩
        case measure => simp [intOf]; omega
    · have hkn : k = n := by omega
      subst hkn
      go_wp2_with fail
      go_ret
      exact ⟨rfl, hd⟩
theorem specSumsOf_in (b o n cap : Nat) (f : Nat → Int) (s : Int) (w : World) (hs : setB n f s = true) (hi : Ints w (some ⟨b, o, none⟩) n f) (hr : Row w b o n f) :
    Calls Tryz.prog 80 #[.slice (some ⟨b, o, none⟩) n cap, .int .i64 s] w fun e w' => e = .returned (.int .i64 (sumsI n f s)) ∧ Drew w w' := by
  obtain ⟨hw, hs1, hs2⟩ := setB_iff.1 hs
  have h7 := (worldB_7 hw).2
  have HW := Lib.hid hw; have HN := Lib.hid hi; have HS := Lib.hid hs; have HR := Lib.hid hr; clear hw hi hs hs1 hs2 hr
  have h64 := Lib.hid HN.out.i64
  go_enter Tryz.func80, Tryz.ntmps80
  go_wp2_with fail
  refine (l4Set_val _ n _ f s true _ HS.out HN.out).mono ?_
  rintro e w0 ⟨rfl, m0, rfl⟩
  go_wp2_with fail
  go_loopw [5, 6] (fun v i wr => ∃ k : Nat, k ≤ n ∧ i = .int .i64 k ∧ v = .int .i64 (setOf (sumG n f s) k) ∧ Drew w wr) (fun _ i _ => n - (intOf i).toNat)
  case atStart => exact ⟨0, Nat.zero_le _, rfl, rfl, _, rfl⟩
  case round =>
    obtain ⟨k, hk, rfl, rfl, hd⟩ := hrel
    by_cases hlt : k < n
    · have hki : (k : Int) < (n : Int) := by omega
      have ⟨hp1, hp2⟩ := pow_bounds k (by omega)
      cases hg : (sumG n f s) k with
      | true =>
        have HG := Lib.hid (setOf_yes (sumG n f s) k hg)
        have he : (meetI n f k == metI n f s) = true := hg
        clear hg
        go_wp2_with fail
        refine (specMeet_at _ n _ f k _ HW.out hlt (HN.out.drew hd)).mono ?_
        rintro e w1 ⟨rfl, hd1⟩
        replace hd := hd.onto hd1
        go_wp2_with fail
        refine (l4Met_any _ n _ f s _ HS.out (HN.out.drew hd)).mono ?_
        rintro e w2 ⟨rfl, hd2⟩
        replace hd := hd.onto hd2
        go_wp2_with fail
        go_roundw
        case rel => exact ⟨k + 1, by omega, by go_num, by rw [HG.out], hd⟩
        case measure => simp [intOf]; omega
      | false =>
        have HG := Lib.hid (setOf_no (sumG n f s) k hg)
        have he : (meetI n f k == metI n f s) = false := hg
        clear hg
        go_wp2_with fail
        refine (specMeet_at _ n _ f k _ HW.out hlt (HN.out.drew hd)).mono ?_
        rintro e w1 ⟨rfl, hd1⟩
        replace hd := hd.onto hd1
        go_wp2_with fail
        refine (l4Met_any _ n _ f s _ HS.out (HN.out.drew hd)).mono ?_
        rintro e w2 ⟨rfl, hd2⟩
        replace hd := hd.onto hd2
        go_wp2_with fail
        go_roundw
        case rel => exact ⟨k + 1, by omega, by go_num, by rw [HG.out], hd⟩
        case measure => simp [intOf]; omega
    · have hkn : k = n := by omega
      subst hkn
      go_wp2_with fail
      go_ret
      exact ⟨rfl, hd⟩
theorem specSumsOf_any (a : Option Addr) (n cap : Nat) (f : Nat → Int) (s : Int) (w : World) (hi : Ints w a n f) :
    Calls Tryz.prog 80 #[.slice a n cap, .int .i64 s] w fun e w' => e = .returned (.int .i64 (sumsB n f s)) ∧ Drew w w' := by
  cases hs : setB n f s with
  | true =>
    obtain ⟨b, o, rfl, hlt, hr⟩ := hi.row (worldB_7 (setB_iff.1 hs).1).1
    have e : sumsB n f s = sumsI n f s := by unfold sumsB; rw [if_pos hs]
    rw [e]
    exact specSumsOf_in b o n cap f s w hs hi hr
  | false =>
    have HF := Lib.hid (show sumsB n f s = -1 by unfold sumsB; rw [if_neg (by rw [hs]; decide)])
    have HN := Lib.hid hi; have HS := Lib.hid hs; clear hi hs
    go_enter Tryz.func80, Tryz.ntmps80
    go_wp2_with fail
    refine (l4Set_val _ n _ f s false _ HS.out HN.out).mono ?_
    rintro e w0 ⟨rfl, m0, rfl⟩
    go_wp2_with fail
    go_ret
    exact ⟨reti HF.out.symm, _, rfl⟩
theorem within_val (x y : Int) (v : Bool) (w : World) (hv : withinB x y = v) :
    Calls Tryz.prog 174 #[.int .i64 x, .int .i64 y] w fun e w' => e = .returned (.bool v) ∧ w = w' := by
  subst hv; exact within_any x y w
theorem has_val (x : Int) (a : Nat) (v : Bool) (w : World) (hv : hasB x a = v) (ha : a ≤ 63) :
    Calls Tryz.prog 177 #[.int .i64 x, .int .i64 a] w fun e w' => e = .returned (.bool v) ∧ w = w' := by
  subst hv; exact has_any x a ha w
def SetEnd (n : Nat) (f : Nat → Int) (s : Int) (w : World) (e : Ending) (w' : World) : Prop :=
  Below w.heap.size w w' ∧ ((setB n f s = true ∧ e = .returned (.tuple #[.slice (some ⟨w.heap.size, 0, none⟩) n n, .int .i64 s, .bool true]) ∧ w.heap.size < w'.heap.size ∧ Row w' w.heap.size 0 n f)
    ∨ (setB n f s = false ∧ e = .returned (.tuple #[.slice none 0 0, .int .i64 0, .bool false])))
theorem worldWithSet_any (a : Option Addr) (n cap : Nat) (f : Nat → Int) (s : Int) (hs64 : I64 s) (w : World) (hi : Ints w a n f) :
    Calls Tryz.prog 192 #[.slice a n cap, .int .i64 s] w (SetEnd n f s w) := by
  have he := setB_eq (n := n) (f := f) hs64
  have HN := Lib.hid hi; clear hi
  cases h0 : (s == 0) with
  | true =>
    have HF := Lib.hid (show setB n f s = false by rw [he, h0]; simp)
    clear he
    go_enter Tryz.func192, Tryz.ntmps192
    go_wp2_with fail
    refine (worldOf_end a n cap f w HN.out).mono ?_
    rintro e w' ⟨hbel, ⟨hb, rfl, hs, hr⟩ | ⟨hb, rfl⟩⟩
    · clear hb hr
      go_wp2_with fail
      go_ret3
      exact ⟨hbel, .inr ⟨HF.out, rfl⟩⟩
    · clear hb
      go_wp2_with fail
      go_ret3
      exact ⟨hbel, .inr ⟨HF.out, rfl⟩⟩
  | false =>
    cases hx : withinB s (2 ^ n - 1) with
    | true =>
      have HF := Lib.hid (show setB n f s = worldB n f by rw [he, h0, hx]; simp)
      have HX := Lib.hid hx
      clear he hx
      go_enter Tryz.func192, Tryz.ntmps192
      go_wp2_with fail
      refine (worldOf_end a n cap f w HN.out).mono ?_
      rintro e w' ⟨hbel, ⟨hb, rfl, hs, hr⟩ | ⟨hb, rfl⟩⟩
      · have hfin := Lib.hid (HF.out.trans hb)
        have h7 := (worldB_7 hb).2
        have HR := Lib.hid hr
        clear hb hr
        go_wp2_with fail
        refine (all_any _ _ _ h7 _).mono ?_
        rintro e w2 ⟨rfl, rfl⟩
        go_wp2_with fail
        refine (within_val s (2 ^ n - 1) true _ HX.out).mono ?_
        rintro e w2 ⟨rfl, rfl⟩
        go_wp2_with fail
        go_ret3
        exact ⟨hbel, .inl ⟨hfin.out, rfl, hs, HR.out⟩⟩
      · have hfin := Lib.hid (HF.out.trans hb)
        clear hb
        go_wp2_with fail
        go_ret3
        exact ⟨hbel, .inr ⟨hfin.out, rfl⟩⟩
    | false =>
      have HF := Lib.hid (show setB n f s = false by rw [he, h0, hx]; simp)
      have HX := Lib.hid hx
      clear he hx
      go_enter Tryz.func192, Tryz.ntmps192
      go_wp2_with fail
      refine (worldOf_end a n cap f w HN.out).mono ?_
      rintro e w' ⟨hbel, ⟨hb, rfl, hs, hr⟩ | ⟨hb, rfl⟩⟩
      · have h7 := (worldB_7 hb).2
        clear hb hr
        go_wp2_with fail
        refine (all_any _ _ _ h7 _).mono ?_
        rintro e w2 ⟨rfl, rfl⟩
        go_wp2_with fail
        refine (within_val s (2 ^ n - 1) false _ HX.out).mono ?_
        rintro e w2 ⟨rfl, rfl⟩
        go_wp2_with fail
        go_ret3
        exact ⟨hbel, .inr ⟨HF.out, rfl⟩⟩
      · clear hb
        go_wp2_with fail
        go_ret3
        exact ⟨hbel, .inr ⟨HF.out, rfl⟩⟩
theorem met_any (bk n cap : Nat) (f : Nat → Int) (s : Int) (hn : n ≤ 7) (w : World) (hr : Row w bk 0 n f) (hlt : bk < w.heap.size) :
    Calls Tryz.prog 221 #[.slice (some ⟨bk, 0, none⟩) n cap, .int .i64 s] w fun e w' => e = .returned (.int .i64 (metI n f s)) ∧ Below w.heap.size w w' := by
  have HR := Lib.hid hr; clear hr
  go_enter Tryz.func221, Tryz.ntmps221
  go_wp2_with fail
  go_loopw [5, 9] (fun v i wr => ∃ k : Nat, k ≤ n ∧ i = .int .i64 k ∧ v = .int .i64 (metK n f s k) ∧ Below w.heap.size w wr) (fun _ i _ => n - (intOf i).toNat)
  case atStart => exact ⟨0, Nat.zero_le _, rfl, rfl, Below.refl _ _⟩
  case round =>
    obtain ⟨k, hk, rfl, rfl, hd⟩ := hrel
    by_cases hk2 : k < n
    · have hki : (k : Int) < (n : Int) := by omega
      have hk63 : k ≤ 63 := by omega
      cases hb : hasB s k with
      | true =>
        have HS := Lib.hid (metK_yes (n := n) (f := f) hb); have HB := Lib.hid hb; clear hb
        go_wp2_with fail
        refine (has_val s k true _ HB.out hk63).mono ?_
        rintro e w1 ⟨rfl, rfl⟩
        go_wp2_with fail
        refine (meeting_any bk n cap k f hn hk2 _ (HR.out.below hd hlt) (Nat.lt_of_lt_of_le hlt hd.size)).mono ?_
        rintro e w1 ⟨rfl, hb1⟩
        replace hd := hd.trans (hb1.mono hd.size)
        clear hb1
        go_wp2_with fail
        go_roundw
        case rel => exact ⟨k + 1, by omega, by go_num, by rw [HS.out], hd⟩
        case measure => simp [intOf]; omega
      | false =>
        have HS := Lib.hid (metK_no (n := n) (f := f) hb); have HB := Lib.hid hb; clear hb
        go_wp2_with fail
        refine (has_val s k false _ HB.out hk63).mono ?_
        rintro e w1 ⟨rfl, rfl⟩
        go_wp2_with fail
        go_roundw
        case rel => exact ⟨k + 1, by omega, by go_num, by rw [HS.out], hd⟩
        case measure => simp [intOf]; omega
    · have hkn : k = n := by omega
      subst hkn
      go_wp2_with fail
      go_ret
      exact ⟨rfl, hd⟩
end Go.Proofs.YthaickihoagnmaaGreatDoor
namespace Go.Proofs.YthaickihoagnmaaGreatDoor
open Go.RowKit Go.Shelf
attribute [local go_sem] Oper.semAt_some
abbrev Th := { x : Nat // x < 7 }
def Came (g : Nat → Bool) (k : Nat) (xs : List Th) : Prop := xs.map (fun x => x.1) = (List.range k).filter g
theorem Came.none (g : Nat → Bool) : Came g 0 [] := rfl
theorem Came.yes {g : Nat → Bool} {k : Nat} {xs : List Th} (h : Came g k xs) (hk : k < 7) (hg : g k = true) : Came g (k + 1) (xs ++ [⟨k, hk⟩]) := by
  unfold Came at h ⊢
  rw [List.map_append, h, List.range_succ, List.filter_append]
  simp [hg]
theorem Came.no {g : Nat → Bool} {k : Nat} {xs : List Th} (h : Came g k xs) (hg : g k = false) : Came g (k + 1) xs := by
  unfold Came at h ⊢
  rw [h, List.range_succ, List.filter_append]
  simp [hg]
theorem Came.len {g : Nat → Bool} {k : Nat} {xs : List Th} (h : Came g k xs) : xs.length ≤ k := by
  unfold Came at h
  have h1 : xs.length = ((List.range k).filter g).length := by rw [← h, List.length_map]
  have h2 := List.length_filter_le g (List.range k)
  rw [List.length_range] at h2
  omega
theorem grown_of_below {W W' : World} (h : Below W.heap.size W W') : W.grownBy W' none :=
  ⟨h.os, h.tape, h.output, h.size, fun k hk _ => h.block k hk⟩
def Kept (n₀ Bp : Nat) (W W' : World) : Prop := Below n₀ W W' ∧ W'.cell? ⟨Bp, 0, none⟩ = W.cell? ⟨Bp, 0, none⟩
theorem Kept.of {n₀ Bp : Nat} {W W' : World} (h : Below W.heap.size W W') (hn : n₀ ≤ W.heap.size) (hB : Bp < W.heap.size) : Kept n₀ Bp W W' := ⟨h.mono hn, h.cell (p := ⟨Bp, 0, none⟩) hB⟩
theorem Kept.on {n₀ Bp : Nat} {A B C : World} (h : Kept n₀ Bp A B) (k : Kept n₀ Bp B C) : Kept n₀ Bp A C := ⟨h.1.trans k.1, k.2.trans h.2⟩
theorem kept_b {n₀ Bp : Nat} {w : World} (hn : n₀ ≤ w.heap.size) (hB : Bp < w.heap.size) (W : World) (l : Nat) (o o' : Obj) (hl : w.heap.size ≤ l) (h : W.heap[l]? = some o) (h1 : o.isCells = false) (h2 : o.isWalk = false) : Kept n₀ Bp W (W.putObj l o') :=
  ⟨belowK_b hn W l o o' hl h h1 h2, (belowK_b (n₀ := w.heap.size) (Nat.le_refl _) W l o o' hl h h1 h2).cell (p := ⟨Bp, 0, none⟩) hB⟩
theorem sums_any (v : Option Addr) (n cap : Nat) (s : Int) (w : World) :
    Calls Tryz.prog 193 #[.slice v n cap, .int .i64 s] w fun e w' => e = .returned (.func (.func 220) #[] #[.pointer (some ⟨w.heap.size, 0, none⟩), .pointer (some ⟨w.heap.size + 1, 0, none⟩)]) ∧
      w' = (w.alloc (.cells #[.slice v n cap] 136)).alloc (.cells #[.int .i64 s] 153) := by
  go_enter Tryz.func193, Tryz.ntmps193
  go_wp2_with fail
  go_ret
  exact ⟨rfl, rfl⟩
set_option maxRecDepth 100000 in
/-- the iterator: it yields the sums in their order -/
theorem sumsC_in (N l Bp Bq n₀ bk n cap : Nat) (f : Nat → Int) (s : Int) (hn : n ≤ 7) (hbk : bk < n₀) (J Jx : List Th → World → Prop) (W : World) (hn₀ : n₀ ≤ W.heap.size) (hBp : Bp < W.heap.size) (hJ : AbidesFrom W.heap.size J)
    (hY : ∀ pre x W, J pre W → pre.length < n → YieldAt Fence.wide (N - 1) Tryz.prog l #[.int .i64 (x.1 : Int)] W fun e W' =>
      (e = .returned (.bool true) ∧ J (pre ++ [x]) W' ∧ Kept n₀ Bp W W') ∨ (e = .returned (.bool false) ∧ Jx (pre ++ [x]) W'))
    (hr : Row W bk 0 n f) (hp : W.cell? ⟨Bp, 0, none⟩ = some (.slice (some ⟨bk, 0, none⟩) n cap)) (hq : W.cell? ⟨Bq, 0, none⟩ = some (.int .i64 s)) (h0 : J [] W) :
    CallsIn Fence.wide N Tryz.prog 220 #[.func (.yield l) #[] #[], .pointer (some ⟨Bp, 0, none⟩), .pointer (some ⟨Bq, 0, none⟩)] W fun e W' => (∃ v, e = .returned v) ∧
      ((∃ xs, Came (sumG n f s) n xs ∧ J xs W') ∨ (∃ pre, (∃ k, k < n ∧ sumG n f s k = true) ∧ Jx pre W')) := by
  have hlt : bk < W.heap.size := by omega
  have HP := Lib.hid hp; have HR := Lib.hid hr; have HJ := Lib.hid hJ; have HY := Lib.hid hY; clear hr hJ hY
  refine callsIn_of_wp Tryz.func220 rfl trivial ?_ rfl
  simp only [Tryz.ntmps220, List.size_toArray, List.length_cons, List.length_nil, Nat.reduceAdd, Nat.reduceSub, Array.replicate_succ, Array.replicate_zero, List.push_toArray, List.append_toArray, List.nil_append, List.cons_append]
  gi_wp2_with fail
  refine ⟨trivial, (fun h => by cases h), (callsIn_wide.2 (met_any bk n cap f s hn _ HR.out hlt)).mono ?_⟩
  rintro e w1 ⟨rfl, hb1⟩
  have hp1 : w1.cell? ⟨Bp, 0, none⟩ = some (.slice (some ⟨bk, 0, none⟩) n cap) := (hb1.cell (p := ⟨Bp, 0, none⟩) hBp).trans hp
  have H1 := Lib.hid (HJ.out [] _ _ none h0 (grown_of_below hb1) (fun r e => by cases e))
  have HB1 := Lib.hid (Kept.of hb1 hn₀ hBp)
  clear hb1 h0 hq
  gi_wp2_with fail
  gi_loopw [11] (fun i wr => ∃ k : Nat, k ≤ n ∧ i = .int .i64 k ∧ (∃ xs, Hid (Came (sumG n f s) k xs) ∧ Hid (J xs wr)) ∧ Hid (Kept n₀ Bp W wr)) (fun i _ => n - (intOf i).toNat)
  case atStart => exact ⟨0, Nat.zero_le _, rfl, ⟨[], Lib.hid (Came.none _), H1⟩, HB1⟩
  case round =>
    obtain ⟨k, hk, rfl, ⟨xs, hxs, hJx⟩, hB⟩ := hrel
    clear hp hp1
    have hp : wr.cell? ⟨Bp, 0, none⟩ = some (.slice (some ⟨bk, 0, none⟩) n cap) := hB.out.2.trans HP.out
    by_cases hk2 : k < n
    · have hki : (k : Int) < (n : Int) := by omega
      have hk7 : k < 7 := by omega
      have hszr : W.heap.size ≤ wr.heap.size := hB.out.1.size
      gi_wp2_with fail
      refine ⟨trivial, (fun h => by cases h), (callsIn_wide.2 (meeting_any bk n cap k f hn hk2 _ (HR.out.below hB.out.1 hbk) (by omega))).mono ?_⟩
      rintro e w2 ⟨rfl, hb2⟩
      replace hJx := Lib.hid (HJ.out xs _ _ none hJx.out (grown_of_below hb2) (fun r e => by cases e))
      replace hB := Lib.hid (hB.out.on (Kept.of hb2 (by omega) (by omega)))
      clear hb2 hszr hp
      cases hg : sumG n f s k with
      | true =>
        have he : (meetI n f k == metI n f s) = true := hg
        have HG := Lib.hid hg; clear hg
        obtain ⟨fn, tmps, assign, body, hy, hR⟩ := HY.out xs ⟨k, hk7⟩ w2 hJx.out (by have := hxs.out.len; omega)
        dsimp only at hy
        gi_wp2_with fail
        refine ⟨(fun h => by cases h), hR.mono ?_⟩
        rintro e W3 (⟨rfl, hJ3, hk3⟩ | ⟨rfl, hJx3⟩)
        · replace hJ3 := Lib.hid hJ3
          replace hB := Lib.hid (hB.out.on hk3)
          clear hk3 hy hR
          gi_wp2_with fail
          go_roundw
          case rel => exact ⟨k + 1, by omega, by go_num, ⟨_, Lib.hid (hxs.out.yes hk7 HG.out), hJ3⟩, hB⟩
          case measure => simp [intOf]; omega
        · replace hJx3 := Lib.hid hJx3
          clear hy hR
          gi_wp2_with fail
          refine bodyPost_ret (results_none rfl _ _ _) rfl ?_
          exact ⟨⟨_, rfl⟩, .inr ⟨_, ⟨k, hk2, HG.out⟩, hJx3.out⟩⟩
      | false =>
        have he : (meetI n f k == metI n f s) = false := hg
        have HG := Lib.hid hg; clear hg
        gi_wp2_with fail
        refine ⟨fun _ h => (by cases h), ?_⟩
        gi_wp2_with fail
        go_roundw
        case rel => exact ⟨k + 1, by omega, by go_num, ⟨xs, Lib.hid (hxs.out.no HG.out), hJx⟩, hB⟩
        case measure => simp [intOf]; omega
    · have hkn : k = n := by omega
      subst hkn
      gi_wp2_with fail
      go_end0
      exact ⟨⟨_, rfl⟩, .inl ⟨xs, hxs.out, hJx.out⟩⟩
theorem sumsC_stops (N Bp Bq n₀ bk n cap : Nat) (f : Nat → Int) (s : Int) (hn : n ≤ 7) (hbk : bk < n₀) (w : World) (hn₀ : n₀ ≤ w.heap.size) (hBp : Bp < w.heap.size)
    (hr : Row w bk 0 n f) (hBq : Bq < w.heap.size) (hp : w.cell? ⟨Bp, 0, none⟩ = some (.slice (some ⟨bk, 0, none⟩) n cap)) (hq : w.cell? ⟨Bq, 0, none⟩ = some (.int .i64 s)) :
    SeqStopsK Fence.wide N Tryz.prog 220 #[.pointer (some ⟨Bp, 0, none⟩), .pointer (some ⟨Bq, 0, none⟩)] (fun x : Th => #[Value.int .i64 (x.1 : Int)]) (Kept n₀ Bp)
      (Came (sumG n f s) n) (fun _ => ∃ k, k < n ∧ sumG n f s k = true) n w := fun l J Jx W hW hJ _ hY h0 =>
  sumsC_in N l Bp Bq n₀ bk n cap f s hn hbk J Jx W (Nat.le_trans hn₀ hW.size) (Nat.lt_of_lt_of_le hBp hW.size) hJ hY (hr.below hW (by omega)) ((hW.cell (p := ⟨Bp, 0, none⟩) hBp).trans hp) ((hW.cell (p := ⟨Bq, 0, none⟩) hBq).trans hq) h0
attribute [local go_sem] Oper.semAt_some
def orAll (xs : List Th) : Int := (xs.map (fun x => x.1)).foldl (fun v a => bits .or .i64 v (2 ^ a)) 0
theorem orAll_snoc (xs : List Th) (x : Th) : orAll (xs ++ [x]) = bits .or .i64 (orAll xs) (2 ^ x.1) := by
  unfold orAll; rw [List.map_append, List.foldl_append]; rfl
theorem orAll_range (g : Nat → Bool) (k : Nat) : ((List.range k).filter g).foldl (fun v a => bits .or .i64 v (2 ^ a)) 0 = setOf g k := by
  induction k with
  | zero => rfl
  | succ k ih =>
    rw [List.range_succ, List.filter_append, List.foldl_append, ih]
    cases h : g k with
    | true => rw [setOf_yes g k h]; simp [h]
    | false => rw [setOf_no g k h]; simp [h]
theorem orAll_came {g : Nat → Bool} {k : Nat} {xs : List Th} (h : Came g k xs) : orAll xs = setOf g k := by
  unfold Came at h; unfold orAll; rw [h, orAll_range]
set_option maxRecDepth 100000 in
theorem SumsOf_in (a : Option Addr) (n cap : Nat) (f : Nat → Int) (s : Int) (hs64 : I64 s) (w : World) (hi : Ints w a n f) (hs : setB n f s = true) :
    Calls Tryz.prog 167 #[.slice a n cap, .int .i64 s] w fun e w' => e = .returned (.int .i64 (sumsI n f s)) ∧ Below w.heap.size w w' := by
  have h7 := (worldB_7 (setB_iff.1 hs).1).2
  have HN := Lib.hid hi; have HS := Lib.hid hs; clear hi hs
  refine (callsIn_wide (n := 9)).1 ?_
  refine callsIn_of_wp_marks Tryz.func167 rfl trivial ?_ rfl
  simp only [Tryz.ntmps167, List.size_toArray, List.length_cons, List.length_nil, Nat.reduceAdd, Nat.reduceSub, Array.replicate_succ, Array.replicate_zero, List.push_toArray, List.append_toArray, List.nil_append, List.cons_append]
  gi_wp2_with fail
  refine ⟨trivial, (callsIn_wide.2 (worldWithSet_any a n cap f s hs64 w HN.out)).mono ?_⟩
  rintro e w1 ⟨hbel, ⟨hb, rfl, hlt, hr⟩ | ⟨hb, rfl⟩⟩
  · have HR := Lib.hid hr; clear hb hr
    gi_wp2_with fail
    refine ⟨trivial, (callsIn_wide.2 (sums_any _ n n s _)).mono ?_⟩
    rintro e w2 ⟨rfl, rfl⟩
    gi_wp2_with fail
    have bF := Boxed.new w1 153 (.int .i64 0)
    have bP := Boxed.new (w1.alloc (.cells #[.int .i64 0] 153)) 136 (.slice (some ⟨w.heap.size, 0, none⟩) n n)
    have bQ := Boxed.new ((w1.alloc (.cells #[.int .i64 0] 153)).alloc (.cells #[.slice (some ⟨w.heap.size, 0, none⟩) n n] 136)) 153 (.int .i64 s)
    replace bF := (bF.alloc (.cells #[.slice (some ⟨w.heap.size, 0, none⟩) n n] 136)).alloc (.cells #[.int .i64 s] 153)
    replace bP := bP.alloc (.cells #[.int .i64 s] 153)
    have hB0 : Below w1.heap.size w1 (((w1.alloc (.cells #[.int .i64 0] 153)).alloc (.cells #[.slice (some ⟨w.heap.size, 0, none⟩) n n] 136)).alloc (.cells #[.int .i64 s] 153)) :=
      (((Below.refl _ w1).alloc (Nat.le_refl _) _).alloc (by simp) _).alloc (by simp; omega) _
    simp only [World.size_alloc] at bP bQ
    refine wpIn_rangeFunc_ownF rfl (by omega) (gf := 220) (lb := #[.pointer (some ⟨w1.heap.size + 1, 0, none⟩), .pointer (some ⟨w1.heap.size + 1 + 1, 0, none⟩)]) rfl trivial (enters_of Tryz.func220 (by kernel_rfl) rfl)
      (sumsC_stops _ (w1.heap.size + 1) (w1.heap.size + 1 + 1) w1.heap.size w.heap.size n n f s h7 hlt _ (by simp; omega) (by simp) (HR.out.below hB0 hlt) (by simp) bP.cell bQ.cell)
      (fun h k => Kept.on h k) (kept_b (by simp; omega) (by simp)) (Below.refl _ _) (fun _ => rfl)
      (fun pre W => (W.cell? ⟨w1.heap.size, 0, none⟩ = some (.int .i64 (orAll pre)) ∧ W.frozen? ⟨w1.heap.size, 0, none⟩ = false) ∧ Below w1.heap.size w1 W)
      (fun _ _ _ => False)
      (OwnFrom.and (Own.from (fun s A B row hs hg hr => ⟨cell_kept hs.1 hg hr, (frozen_kept hs.1 hg hr).trans hs.2⟩) _) (ownFrom_below (Nat.le_refl _) (by simp; omega)))
      (fun _ _ _ _ _ hs _ _ => hs)
      ⟨⟨bF.cell, bF.frozen⟩, hB0⟩
      (fun x => { tmps := #[.slice a n cap, .int .i64 s, undef, undef, .int .i64 0, .slice (some ⟨w.heap.size, 0, none⟩) n n, .int .i64 s, .bool true, .pointer (some ⟨w1.heap.size, 0, none⟩), .int .i64 (x.1 : Int),
          .tuple #[.slice (some ⟨w.heap.size, 0, none⟩) n n, .int .i64 s, .bool true], .slice a n cap, .int .i64 s, .tuple #[.slice (some ⟨w.heap.size, 0, none⟩) n n, .int .i64 s, .bool true],
          .slice (some ⟨w.heap.size, 0, none⟩) n n, .int .i64 s, .bool true, .bool true, .bool false, .slice (some ⟨w.heap.size, 0, none⟩) n n, .int .i64 s,
          .func (.func 220) #[] #[.pointer (some ⟨w1.heap.size + 1, 0, none⟩), .pointer (some ⟨w1.heap.size + 1 + 1, 0, none⟩)], .int .i64 (x.1 : Int), undef, undef, undef, undef, undef], defers := [] }) ?assign ?body ?done ?stop
    case assign =>
      intro l x W K hK
      gi_wp2_with fail
      exact hK
    case body =>
      rintro l pre x W ⟨⟨hc, hf⟩, hB⟩ _
      have hmx : Tryz.prog.follows .mixedOrders = true := by kernel_rfl
      have hx7 := x.2
      have ⟨hp1, hp2⟩ := pow_bounds x.1 (by omega)
      have hwr : IntKind.i64.wrap (2 ^ x.1) = 2 ^ x.1 := wrap_in _ (by unfold I64; omega)
      gi_wp2_with fail
      gi_region_with_o (fail)
      all_goals gi_wp2_with fail
      all_goals
        exact ⟨(KeepsOthers.setCell _ _ _).trans (KeepsOthers.drew _),
          ⟨((Below.refl w1.heap.size W).setCell (p := ⟨w1.heap.size, 0, none⟩) (Nat.le_refl _) _).drew, by rw [World.cell?_drew]; exact World.cell?_setCell_other _ _ _ _ (by simp)⟩,
          ⟨by rw [orAll_snoc, World.cell?_drew]; exact World.cell?_setCell_same' _ _ _ (by rw [hc]; rfl), by rw [frozen_drew_own, World.frozen?_setCell]; exact hf⟩,
          (hB.setCell (p := ⟨w1.heap.size, 0, none⟩) (Nat.le_refl _) _).drew⟩
    case done =>
      rintro D ys W hD hys ⟨⟨hc, _⟩, hB⟩ hK
      gi_wp2_with fail
      refine ⟨by simp, .inl ⟨_, _, rfl, run_takeDeferred hK, ?_⟩⟩
      exact ⟨_, results_tmp rfl _ _ _, by rw [orAll_came hys]; rfl, below_to hbel (hB.trans (belowK_b (w := w1) (Nat.le_refl _) W D _ _ (by simp at hD; omega) hK rfl rfl))⟩
    case stop =>
      rintro D c pre W _ _ h _
      exact h.elim
  · rw [HS.out] at hb; cases hb
theorem SumsOf_any (a : Option Addr) (n cap : Nat) (f : Nat → Int) (s : Int) (hs64 : I64 s) (w : World) (hi : Ints w a n f) :
    Calls Tryz.prog 167 #[.slice a n cap, .int .i64 s] w fun e w' => e = .returned (.int .i64 (sumsB n f s)) ∧ Below w.heap.size w w' := by
  cases hs : setB n f s with
  | true =>
    have e : sumsB n f s = sumsI n f s := by unfold sumsB; rw [if_pos hs]
    rw [e]
    exact SumsOf_in a n cap f s hs64 w hi hs
  | false =>
    have HN := Lib.hid hi; clear hi
    have HF := Lib.hid (show sumsB n f s = -1 by unfold sumsB; rw [if_neg (by rw [hs]; decide)])
    have HS := Lib.hid hs; clear hs
    go_enter Tryz.func167, Tryz.ntmps167
    go_wp2_with fail
    refine (worldWithSet_any a n cap f s hs64 w HN.out).mono ?_
    rintro e w' ⟨hbel, ⟨hb, rfl, hlt, hr⟩ | ⟨hb, rfl⟩⟩
    · rw [HS.out] at hb; cases hb
    · clear hb
      go_wp2_with fail
      go_ret
      exact ⟨reti HF.out.symm, hbel⟩
theorem SumsOf_val (a : Option Addr) (n cap : Nat) (f : Nat → Int) (s : Int) (v : Int) (hs64 : I64 s) (w : World) (hv : sumsB n f s = v) (hi : Ints w a n f) :
    Calls Tryz.prog 167 #[.slice a n cap, .int .i64 s] w fun e w' => e = .returned (.int .i64 v) ∧ Below w.heap.size w w' := by
  subst hv; exact SumsOf_any a n cap f s hs64 w hi
set_option maxRecDepth 100000 in
theorem hasSum_any (bk n cap : Nat) (f : Nat → Int) (s : Int) (h7 : n ≤ 7) (w : World) (hr : Row w bk 0 n f) (hlt : bk < w.heap.size) :
    Calls Tryz.prog 211 #[.slice (some ⟨bk, 0, none⟩) n cap, .int .i64 s] w fun e w' => e = .returned (.bool (hasSumB n f s)) ∧ Below w.heap.size w w' := by
  have HR := Lib.hid hr; clear hr
  refine (callsIn_wide (n := 9)).1 ?_
  refine callsIn_of_wp_marks Tryz.func211 rfl trivial ?_ rfl
  simp only [Tryz.ntmps211, List.size_toArray, List.length_cons, List.length_nil, Nat.reduceAdd, Nat.reduceSub, Array.replicate_succ, Array.replicate_zero, List.push_toArray, List.append_toArray, List.nil_append, List.cons_append]
  gi_wp2_with fail
  refine ⟨trivial, (callsIn_wide.2 (sums_any _ n cap s _)).mono ?_⟩
  rintro e w2 ⟨rfl, rfl⟩
  gi_wp2_with fail
  have bF := Boxed.new w 4 (.bool false)
  have bP := Boxed.new (w.alloc (.cells #[.bool false] 4)) 136 (.slice (some ⟨bk, 0, none⟩) n cap)
  have bQ := Boxed.new ((w.alloc (.cells #[.bool false] 4)).alloc (.cells #[.slice (some ⟨bk, 0, none⟩) n cap] 136)) 153 (.int .i64 s)
  replace bF := (bF.alloc (.cells #[.slice (some ⟨bk, 0, none⟩) n cap] 136)).alloc (.cells #[.int .i64 s] 153)
  replace bP := bP.alloc (.cells #[.int .i64 s] 153)
  have hB0 : Below w.heap.size w (((w.alloc (.cells #[.bool false] 4)).alloc (.cells #[.slice (some ⟨bk, 0, none⟩) n cap] 136)).alloc (.cells #[.int .i64 s] 153)) :=
    (((Below.refl _ w).alloc (Nat.le_refl _) _).alloc (by simp) _).alloc (by simp; omega) _
  simp only [World.size_alloc] at bP bQ
  refine wpIn_rangeFunc_ownF rfl (by omega) (gf := 220) (lb := #[.pointer (some ⟨w.heap.size + 1, 0, none⟩), .pointer (some ⟨w.heap.size + 1 + 1, 0, none⟩)]) rfl trivial (enters_of Tryz.func220 (by kernel_rfl) rfl)
    (sumsC_stops _ (w.heap.size + 1) (w.heap.size + 1 + 1) w.heap.size bk n cap f s h7 hlt _ (by simp; omega) (by simp) (HR.out.below hB0 hlt) (by simp) bP.cell bQ.cell)
    (fun h k => Kept.on h k) (kept_b (by simp; omega) (by simp)) (Below.refl _ _) (fun _ => rfl)
    (fun pre W => (pre = [] ∧ W.cell? ⟨w.heap.size, 0, none⟩ = some (.bool false) ∧ W.frozen? ⟨w.heap.size, 0, none⟩ = false) ∧ Below w.heap.size w W)
    (fun c pre W => (c = .ret ∧ W.cell? ⟨w.heap.size, 0, none⟩ = some (.bool true)) ∧ Below w.heap.size w W)
    (OwnFrom.and (Own.from (fun s A B row hs hg hr => ⟨hs.1, cell_kept hs.2.1 hg hr, (frozen_kept hs.2.1 hg hr).trans hs.2.2⟩) _) (ownFrom_below (Nat.le_refl _) (by simp; omega)))
    (fun c => OwnFrom.and (Own.from (fun s A B row hs hg hr => ⟨hs.1, cell_kept hs.2 hg hr⟩) _) (ownFrom_below (Nat.le_refl _) (by simp; omega)))
    ⟨⟨rfl, bF.cell, bF.frozen⟩, hB0⟩
    (fun x => { tmps := #[.slice (some ⟨bk, 0, none⟩) n cap, .int .i64 s, undef, undef, .pointer (some ⟨w.heap.size, 0, none⟩), .slice (some ⟨bk, 0, none⟩) n cap, .int .i64 s,
        .func (.func 220) #[] #[.pointer (some ⟨w.heap.size + 1, 0, none⟩), .pointer (some ⟨w.heap.size + 1 + 1, 0, none⟩)], .int .i64 (x.1 : Int)], defers := [] }) ?assign ?body ?done ?stop
  case assign =>
    intro l x W K hK
    gi_wp2_with fail
    simpa using hK
  case body =>
    rintro l pre x W ⟨⟨rfl, hc, hf⟩, hB⟩ _
    gi_wp2_with fail
    exact ⟨KeepsOthers.setCell _ _ _, ⟨rfl, World.cell?_setCell_same' _ _ _ (by rw [hc]; rfl)⟩, hB.setCell (p := ⟨w.heap.size, 0, none⟩) (Nat.le_refl _) _⟩
  case done =>
    rintro D ys W hD hys ⟨⟨rfl, hcr, hfr⟩, hB⟩ hK
    gi_wp2_with fail
    have hK' := (KeepsOthers.setCell W ⟨w.heap.size, 0, none⟩ (.bool false)).same D _ hK rfl
    refine ⟨by simp, .inl ⟨_, _, rfl, run_takeDeferred hK', ?_⟩⟩
    have hc5 := cell_kept (World.cell?_setCell_same' W ⟨w.heap.size, 0, none⟩ (.bool false) (by rw [hcr]; rfl)) (grownBy_putObj' _ D (.deferred none)) (fun r e => by cases e; exact ⟨_, hK', rfl⟩)
    have hfin : hasSumB n f s = false := by
      refine decide_eq_false ?_
      rintro ⟨k, hk, hg⟩
      have : k ∈ (List.range n).filter (sumG n f s) := List.mem_filter.2 ⟨List.mem_range.2 hk, hg⟩
      unfold Came at hys
      rw [← hys] at this
      simp at this
    refine ⟨.bool false, ?_, by rw [hfin], (hB.setCell (p := ⟨w.heap.size, 0, none⟩) (Nat.le_refl _) _).trans (belowK_b (w := w) (Nat.le_refl _) _ D _ _ (by simp at hD; omega) hK' rfl rfl)⟩
    simp [results, Tryz.f211, go_sem, hc5]
  case stop =>
    rintro D c pre W hD ⟨k, hk, hg⟩ ⟨⟨rfl, hcr⟩, hB⟩ hK
    gi_wp2_with fail
    refine ⟨by simp, .inl ⟨_, _, rfl, run_takeDeferred hK, ?_⟩⟩
    have hc5 := cell_kept hcr (grownBy_putObj' _ D (.deferred none)) (fun r e => by cases e; exact ⟨_, hK, rfl⟩)
    refine ⟨.bool true, ?_, by rw [show hasSumB n f s = true from decide_eq_true ⟨k, hk, hg⟩], hB.trans (belowK_b (w := w) (Nat.le_refl _) W D _ _ (by simp at hD; omega) hK rfl rfl)⟩
    simp [results, Tryz.f211, go_sem, hc5]
theorem hasSum_val (bk n cap : Nat) (f : Nat → Int) (s : Int) (v : Bool) (h7 : n ≤ 7) (w : World) (hv : hasSumB n f s = v) (hr : Row w bk 0 n f) (hlt : bk < w.heap.size) :
    Calls Tryz.prog 211 #[.slice (some ⟨bk, 0, none⟩) n cap, .int .i64 s] w fun e w' => e = .returned (.bool v) ∧ Below w.heap.size w w' := by
  subst hv; exact hasSum_any bk n cap f s h7 w hr hlt
theorem summed_no {n : Nat} {f : Nat → Int} {k : Nat} (h1 : 1 ≤ k) (hk : k < 2 ^ n) (h : hasSumB n f k = false) : decide (∀ s : Nat, s < 2 ^ n → 1 ≤ s → hasSumB n f s = true) = false :=
  decide_eq_false (fun e => by have := e k hk h1; rw [h] at this; cases this)
theorem summed_any (bk n cap : Nat) (f : Nat → Int) (h7 : n ≤ 7) (w : World) (hr : Row w bk 0 n f) (hlt : bk < w.heap.size) :
    Calls Tryz.prog 187 #[.slice (some ⟨bk, 0, none⟩) n cap] w fun e w' => e = .returned (.bool (decide (∀ s : Nat, s < 2 ^ n → 1 ≤ s → hasSumB n f s = true))) ∧ Below w.heap.size w w' := by
  have HR := Lib.hid hr; clear hr
  obtain ⟨hp1, hp2⟩ := pow_bounds n h7
  have e2 : ((2 ^ n : Nat) : Int) = 2 ^ n := by simp
  go_enter Tryz.func187, Tryz.ntmps187
  go_wp2_with fail
  go_loopw [3] (fun v wr => ∃ k : Nat, 1 ≤ k ∧ k ≤ 2 ^ n ∧ v = .int .i64 k ∧ Hid (∀ s : Nat, s < k → 1 ≤ s → hasSumB n f s = true) ∧ Below w.heap.size w wr) (fun v _ => 2 ^ n - (intOf v).toNat)
  case atStart => exact ⟨1, by omega, Nat.one_le_two_pow, rfl, Lib.hid (fun s h1 h2 => by omega), Below.refl _ _⟩
  case round =>
    obtain ⟨k, hk1, hk, rfl, hall, hd⟩ := hrel
    by_cases hk2 : k < 2 ^ n
    · have hle : decide ((k : Int) ≤ 2 ^ n - 1) = true := by simp; omega
      cases hg : hasSumB n f k with
      | true =>
        have HG := Lib.hid hg; clear hg
        go_wp2_with fail
        refine (all_any _ _ _ h7 _).mono ?_
        rintro e w1 ⟨rfl, rfl⟩
        go_wp2_with fail
        refine (hasSum_val bk n cap f k true h7 _ HG.out (HR.out.below hd hlt) (Nat.lt_of_lt_of_le hlt hd.size)).mono ?_
        rintro e w1 ⟨rfl, hb1⟩
        replace hd := hd.trans (hb1.mono hd.size)
        clear hb1
        go_wp2_with fail
        go_roundw
        case rel => exact ⟨k + 1, by omega, by omega, by go_num, Lib.hid (fun s h1 h2 => by
          by_cases e : s = k
          · subst e; exact HG.out
          · exact hall.out s (by omega) h2), hd⟩
        case measure => simp [intOf]; omega
      | false =>
        have HF := Lib.hid (summed_no hk1 hk2 hg); have HG := Lib.hid hg; clear hg
        go_wp2_with fail
        refine (all_any _ _ _ h7 _).mono ?_
        rintro e w1 ⟨rfl, rfl⟩
        go_wp2_with fail
        refine (hasSum_val bk n cap f k false h7 _ HG.out (HR.out.below hd hlt) (Nat.lt_of_lt_of_le hlt hd.size)).mono ?_
        rintro e w1 ⟨rfl, hb1⟩
        replace hd := hd.trans (hb1.mono hd.size)
        clear hb1
        go_wp2_with fail
        go_ret
        exact ⟨retb HF.out.symm, hd⟩
    · have hle : decide ((k : Int) ≤ 2 ^ n - 1) = false := by simp; omega
      have hkn : k = 2 ^ n := by omega
      have HF := Lib.hid (show decide (∀ s : Nat, s < 2 ^ n → 1 ≤ s → hasSumB n f s = true) = true from decide_eq_true (fun s h1 h2 => hall.out s (by omega) h2))
      go_wp2_with fail
      refine (all_any _ _ _ h7 _).mono ?_
      rintro e w1 ⟨rfl, rfl⟩
      go_wp2_with fail
      go_ret
      exact ⟨retb HF.out.symm, hd⟩
theorem SummedOk_any (a : Option Addr) (n cap : Nat) (f : Nat → Int) (w : World) (hi : Ints w a n f) :
    Calls Tryz.prog 162 #[.slice a n cap] w fun e w' => e = .returned (.bool (summedB n f)) ∧ Below w.heap.size w w' := by
  have HN := Lib.hid hi; clear hi
  go_enter Tryz.func162, Tryz.ntmps162
  go_wp2_with fail
  refine (worldOf_end a n cap f w HN.out).mono ?_
  rintro e w' ⟨hbel, ⟨hb, rfl, hlt, hr⟩ | ⟨hb, rfl⟩⟩
  · have h7 := (worldB_7 hb).2
    have HF := Lib.hid (show summedB n f = decide (∀ s : Nat, s < 2 ^ n → 1 ≤ s → hasSumB n f s = true) by unfold summedB; rw [hb]; rfl)
    clear hb
    go_wp2_with fail
    refine (summed_any _ n n f h7 _ hr hlt).mono ?_
    rintro e w2 ⟨rfl, hb2⟩
    go_wp2_with fail
    go_ret
    exact ⟨retb HF.out.symm, below_to hbel hb2⟩
  · have HF := Lib.hid (show summedB n f = false by unfold summedB; rw [hb]; rfl)
    clear hb
    go_wp2_with fail
    go_ret
    exact ⟨retb HF.out.symm, hbel⟩
end Go.Proofs.YthaickihoagnmaaGreatDoor
namespace Go.Proofs.YthaickihoagnmaaGreatDoor
open Go.RowKit
theorem sums_zero {n : Nat} {f : Nat → Int} {s : Int} (h7 : n ≤ 7) : (sumsI n f s == 0) = !hasSumB n f s := by
  cases h : hasSumB n f s with
  | true =>
    obtain ⟨a, ha, hg⟩ : ∃ a, a < n ∧ sumG n f s a = true := by unfold hasSumB at h; exact of_decide_eq_true h
    rw [beq_eq_false_iff_ne.2]; rfl
    intro e
    have := sums_bit (n := n) (f := f) (s := s) ha h7
    rw [e, hasB_zero, hg] at this; cases this
  | false =>
    rw [beq_iff_eq.2]; rfl
    refine ext64 _ _ (setOf_I64 _ _) I64_zero (fun i hi => ?_)
    unfold sumsI; rw [hasB_zero, setOf_bit _ _ _ hi]
    by_cases hin : i < n
    · rw [decide_eq_true hin, Bool.true_and]
      cases e : sumG n f s i with
      | false => rfl
      | true => unfold hasSumB at h; exact absurd ⟨i, hin, e⟩ (of_decide_eq_false h)
    · rw [decide_eq_false hin]; rfl
theorem set_at {n : Nat} {f : Nat → Int} {k : Nat} (hw : worldB n f = true) (h1 : 1 ≤ k) (hk : k < 2 ^ n) : setB n f k = true := by
  have e2 : ((2 ^ n : Nat) : Int) = 2 ^ n := by simp
  exact setB_iff.2 ⟨hw, by omega, by omega⟩
theorem specSums_at (a : Option Addr) (n cap : Nat) (f : Nat → Int) (k : Nat) (w : World) (hw : worldB n f = true) (h1 : 1 ≤ k) (hk : k < 2 ^ n) (hi : Ints w a n f) :
    Calls Tryz.prog 80 #[.slice a n cap, .int .i64 k] w fun e w' => e = .returned (.int .i64 (sumsI n f k)) ∧ Drew w w' := by
  have e : sumsB n f k = sumsI n f k := by unfold sumsB; rw [if_pos (set_at hw h1 hk)]
  rw [← e]; exact specSumsOf_any a n cap f k w hi
theorem specSummedOk_any (a : Option Addr) (n cap : Nat) (f : Nat → Int) (w : World) (hi : Ints w a n f) :
    Calls Tryz.prog 74 #[.slice a n cap] w fun e w' => e = .returned (.bool (summedB n f)) ∧ Drew w w' := by
  cases hw : worldB n f with
  | true =>
    have h7 := (worldB_7 hw).2
    obtain ⟨hp1, hp2⟩ := pow_bounds n h7
    have e2 : ((2 ^ n : Nat) : Int) = 2 ^ n := by simp
    have HF := Lib.hid (show summedB n f = decide (∀ s : Nat, s < 2 ^ n → 1 ≤ s → hasSumB n f s = true) by unfold summedB; rw [hw]; rfl)
    have HW := Lib.hid hw; have HN := Lib.hid hi; clear hw hi
    go_enter Tryz.func74, Tryz.ntmps74
    go_wp2_with fail
    go_loopw [3] (fun v wr => ∃ k : Nat, 1 ≤ k ∧ k ≤ 2 ^ n ∧ v = .int .i64 k ∧ Hid (∀ s : Nat, s < k → 1 ≤ s → hasSumB n f s = true) ∧ Drew w wr) (fun v _ => 2 ^ n - (intOf v).toNat)
    case atStart => exact ⟨1, by omega, Nat.one_le_two_pow, rfl, Lib.hid (fun s h1 h2 => by omega), Drew.refl _⟩
    case round =>
      obtain ⟨k, hk1, hk, rfl, hall, hd⟩ := hrel
      by_cases hk2 : k < 2 ^ n
      · have hle : decide ((k : Int) < 2 ^ n) = true := by simp; omega
        have hz := sums_zero (n := n) (f := f) (s := k) h7
        cases hg : hasSumB n f k with
        | true =>
          rw [hg] at hz
          replace hz : (sumsI n f k == 0) = false := hz
          have HG := Lib.hid hg; clear hg
          go_wp2_with fail
          refine (specWorldOk_val _ _ _ f true _ HW.out (HN.out.drew hd)).mono ?_
          rintro e w1 ⟨rfl, hd1⟩
          replace hd := hd.onto hd1
          clear hd1
          go_wp2_with fail
          refine (specSums_at a n _ f k _ HW.out hk1 hk2 (HN.out.drew hd)).mono ?_
          rintro e w2 ⟨rfl, hd2⟩
          replace hd := hd.onto hd2
          clear hd2
          go_wp2_with fail
          go_roundw
          case rel => exact ⟨k + 1, by omega, by omega, by go_num, Lib.hid (fun s h1 h2 => by
            by_cases e : s = k
            · subst e; exact HG.out
            · exact hall.out s (by omega) h2), hd⟩
          case measure => simp [intOf]; omega
        | false =>
          rw [hg] at hz
          replace hz : (sumsI n f k == 0) = true := hz
          have HF2 := Lib.hid (HF.out.trans (summed_no hk1 hk2 hg)); clear hg
          go_wp2_with fail
          refine (specWorldOk_val _ _ _ f true _ HW.out (HN.out.drew hd)).mono ?_
          rintro e w1 ⟨rfl, hd1⟩
          replace hd := hd.onto hd1
          clear hd1
          go_wp2_with fail
          refine (specSums_at a n _ f k _ HW.out hk1 hk2 (HN.out.drew hd)).mono ?_
          rintro e w2 ⟨rfl, hd2⟩
          replace hd := hd.onto hd2
          clear hd2
          go_wp2_with fail
          go_ret
          exact ⟨retb HF2.out.symm, hd⟩
      · have hle : decide ((k : Int) < 2 ^ n) = false := by simp; omega
        have HF2 := Lib.hid (HF.out.trans (decide_eq_true (fun s h1 h2 => hall.out s (by omega) h2)))
        go_wp2_with fail
        refine (specWorldOk_val _ _ _ f true _ HW.out (HN.out.drew hd)).mono ?_
        rintro e w1 ⟨rfl, hd1⟩
        replace hd := hd.onto hd1
        clear hd1
        go_wp2_with fail
        refine (specWorldOk_val _ _ _ f true _ HW.out (HN.out.drew hd)).mono ?_
        rintro e w2 ⟨rfl, hd2⟩
        replace hd := hd.onto hd2
        clear hd2
        go_wp2_with fail
        go_ret
        exact ⟨retb HF2.out.symm, hd⟩
  | false =>
    have HF := Lib.hid (show summedB n f = false by unfold summedB; rw [hw]; rfl)
    have HW := Lib.hid hw; have HN := Lib.hid hi; clear hw hi
    go_enter Tryz.func74, Tryz.ntmps74
    go_wp2_with fail
    go_loopw [3] (fun v wr => v = .int .i64 1 ∧ wr = w) (fun _ _ => 0)
    case atStart => exact ⟨rfl, rfl⟩
    case round =>
      obtain ⟨rfl, rfl⟩ := hrel
      go_wp2_with fail
      refine (specWorldOk_val _ _ _ f false _ HW.out HN.out).mono ?_
      rintro e w1 ⟨rfl, hd1⟩
      go_wp2_with fail
      refine (specWorldOk_val _ _ _ f false _ HW.out (HN.out.drew hd1)).mono ?_
      rintro e w2 ⟨rfl, hd2⟩
      go_wp2_with fail
      go_ret
      exact ⟨retb HF.out.symm, hd1.onto hd2⟩
structure AW (w : World) (b : Nat) (s : Value) (d st x : Int) : Prop where
  lt : b < w.heap.size
  c0 : w.cell? ⟨b, 0, none⟩ = some s
  c1 : w.cell? ⟨b, 1, none⟩ = some (.int .u32 d)
  c2 : w.cell? ⟨b, 2, none⟩ = some (.int .i32 st)
  c4 : w.cell? ⟨b, 4, none⟩ = some (.int .i64 x)
  f1 : w.frozen? ⟨b, 1, none⟩ = false
  f2 : w.frozen? ⟨b, 2, none⟩ = false
  f4 : w.frozen? ⟨b, 4, none⟩ = false
theorem size_setCell (w : World) (p : Addr) (v : Value) : (w.setCell p v).heap.size = w.heap.size := by simp [World.setCell]
theorem AW.setD {w : World} {b : Nat} {s : Value} {d st x : Int} (h : AW w b s d st x) (y : Int) : AW (w.setCell ⟨b, 1, none⟩ (.int .u32 y)) b s y st x := by
  obtain ⟨h0, h1, h2, h3, h4, h5, h6, h7⟩ := h
  refine ⟨by rw [size_setCell]; exact h0, ?_, ?_, ?_, ?_, ?_, ?_, ?_⟩
  · rw [World.cell?_setCell_other _ _ _ _ (by simp)]; exact h1
  · exact World.cell?_setCell_same _ _ _ h2
  · rw [World.cell?_setCell_other _ _ _ _ (by simp)]; exact h3
  · rw [World.cell?_setCell_other _ _ _ _ (by simp)]; exact h4
  · rw [← h5]; go_simp
  · rw [← h6]; go_simp
  · rw [← h7]; go_simp
theorem AW.setSt {w : World} {b : Nat} {s : Value} {d st x : Int} (h : AW w b s d st x) (y : Int) : AW (w.setCell ⟨b, 2, none⟩ (.int .i32 y)) b s d y x := by
  obtain ⟨h0, h1, h2, h3, h4, h5, h6, h7⟩ := h
  refine ⟨by rw [size_setCell]; exact h0, ?_, ?_, ?_, ?_, ?_, ?_, ?_⟩
  · rw [World.cell?_setCell_other _ _ _ _ (by simp)]; exact h1
  · rw [World.cell?_setCell_other _ _ _ _ (by simp)]; exact h2
  · exact World.cell?_setCell_same _ _ _ h3
  · rw [World.cell?_setCell_other _ _ _ _ (by simp)]; exact h4
  · rw [← h5]; go_simp
  · rw [← h6]; go_simp
  · rw [← h7]; go_simp
theorem AW.setX {w : World} {b : Nat} {s : Value} {d st x : Int} (h : AW w b s d st x) (y : Int) : AW (w.setCell ⟨b, 4, none⟩ (.int .i64 y)) b s d st y := by
  obtain ⟨h0, h1, h2, h3, h4, h5, h6, h7⟩ := h
  refine ⟨by rw [size_setCell]; exact h0, ?_, ?_, ?_, ?_, ?_, ?_, ?_⟩
  · rw [World.cell?_setCell_other _ _ _ _ (by simp)]; exact h1
  · rw [World.cell?_setCell_other _ _ _ _ (by simp)]; exact h2
  · rw [World.cell?_setCell_other _ _ _ _ (by simp)]; exact h3
  · exact World.cell?_setCell_same _ _ _ h4
  · rw [← h5]; go_simp
  · rw [← h6]; go_simp
  · rw [← h7]; go_simp
theorem AW.below {w w' : World} {b : Nat} {s : Value} {d st x : Int} (h : AW w b s d st x) {B : Nat} (hb : Below B w w') (hB : b < B) : AW w' b s d st x := by
  obtain ⟨h0, h1, h2, h3, h4, h5, h6, h7⟩ := h
  exact ⟨Nat.lt_of_lt_of_le h0 hb.size, (hb.cell (p := ⟨b, 0, none⟩) hB).trans h1, (hb.cell (p := ⟨b, 1, none⟩) hB).trans h2, (hb.cell (p := ⟨b, 2, none⟩) hB).trans h3, (hb.cell (p := ⟨b, 4, none⟩) hB).trans h4,
    (hb.frozen (p := ⟨b, 1, none⟩) hB).trans h5, (hb.frozen (p := ⟨b, 2, none⟩) hB).trans h6, (hb.frozen (p := ⟨b, 4, none⟩) hB).trans h7⟩
theorem AW.drewN {w : World} {b : Nat} {s : Value} {d st x : Int} (h : AW w b s d st x) (n : Nat) : AW (w.drewN n) b s d st x :=
  h.below (below_drewN (Below.refl _ _) n) h.lt
theorem AW.drew {w : World} {b : Nat} {s : Value} {d st x : Int} (h : AW w b s d st x) : AW w.drew b s d st x :=
  h.below (Below.refl _ _).drew h.lt
theorem Only.drew {rb : Nat} {w w' : World} (h : Only rb w w') : Only rb w w'.drew := ⟨h.os, h.tape, h.output, h.size, h.block⟩
theorem once_disable (w : World) : (callFunc 259 #[]).run Tryz.prog w = .ok (.value (.tuple #[])) w := run_call_mark0 Tryz.func259 (by kernel_rfl) (by kernel_rfl) (by kernel_rfl) .disable (by kernel_rfl) w
theorem once_enable (w : World) : (callFunc 261 #[]).run Tryz.prog w = .ok (.value (.tuple #[])) w := run_call_mark0 Tryz.func261 (by kernel_rfl) (by kernel_rfl) (by kernel_rfl) .enable (by kernel_rfl) w
theorem once_acquire (a : Addr) (w : World) : (callFunc 262 #[.pointer (some a)]).run Tryz.prog w = .ok (.value (.tuple #[])) w := run_call_marked Tryz.func262 (by kernel_rfl) (by kernel_rfl) (by kernel_rfl) .acquire (by kernel_rfl) a w
theorem once_release (a : Addr) (w : World) : (callFunc 264 #[.pointer (some a)]).run Tryz.prog w = .ok (.value (.tuple #[])) w := run_call_marked Tryz.func264 (by kernel_rfl) (by kernel_rfl) (by kernel_rfl) .releaseMerge (by kernel_rfl) a w
theorem once_store (a : Addr) (x : Value) (u : FrameMode) (w : World) (hc : w.cell? a = some x) (hz : w.frozen? a = false) :
    CallsD Tryz.prog 251 #[.pointer (some a), .bool true] u w fun e u' w' => u' = u ∧ (e = .returned (.tuple #[]) ∧ w' = w.drew.setCell a (.int .u32 1)) := by
  have hc' : w.drew.cell? a = some x := by go_simp
  have hz' : w.drew.frozen? a = false := by go_simp
  have hst := run_call_store (P := Tryz.prog) Tryz.func255 (by kernel_rfl) (by kernel_rfl) (by kernel_rfl) (by kernel_rfl) (k := .u32) (y := 1) hc' hz'
  go_enter_d Tryz.func251, Tryz.ntmps251
  go_wp2
  go_region_calls
  all_goals (go_end0; exact ⟨rfl, rfl⟩)
set_option maxRecDepth 100000 in
/-- the lock is let go, as a deferred call -/
theorem once_unlock (a : Addr) (u : FrameMode) (w : World) (hc : w.cell? a = some (.int .i32 1)) (hz : w.frozen? a = false) :
    CallsD Tryz.prog 250 #[.pointer (some a)] u w fun e u' w' => u' = u ∧ (e = .returned (.tuple #[]) ∧ w' = w.setCell a (.int .i32 0)) := by
  have hd := once_disable
  have he := once_enable
  have hr := once_release
  have hadd := run_call_add (P := Tryz.prog) Tryz.func265 (by kernel_rfl) (by kernel_rfl) (by kernel_rfl) .i32 (by kernel_rfl) (y := -1) (s := 0) hc hz (by simp [go_sem]; rfl)
  have hcv := run_convert_to_unsafe (P := Tryz.prog) (src := 238) (dst := 151) Tryz.underlying238 Tryz.underlying151 (by kernel_rfl) hc
  go_enter_d Tryz.func250, Tryz.ntmps250
  go_wp2
  go_end0
  go_wp2
  go_end0
  exact ⟨rfl, rfl⟩
set_option maxRecDepth 100000 in
/-- the lock is taken -/
theorem once_lock (a : Addr) (w : World) (hc : w.cell? a = some (.int .i32 0)) (hz : w.frozen? a = false) :
    Calls Tryz.prog 249 #[.pointer (some a)] w fun e w' => e = .returned (.tuple #[]) ∧ w' = w.setCell a (.int .i32 1) := by
  have hd := once_disable
  have he := once_enable
  have ha := once_acquire
  have hcas := run_call_cas_hit (P := Tryz.prog) Tryz.func260 (by kernel_rfl) (by kernel_rfl) (by kernel_rfl) .i32 (by kernel_rfl) (y := 1) hc hz
  have hc' : (w.setCell a (.int .i32 1)).cell? a = some (.int .i32 1) := World.cell?_setCell_same w a _ hc
  have hcv := run_convert_to_unsafe (P := Tryz.prog) (src := 238) (dst := 151) Tryz.underlying238 Tryz.underlying151 (by kernel_rfl) hc'
  go_enter Tryz.func249, Tryz.ntmps249
  go_wp2
  first | go_end0 | (simp only [Exit.inBlock, Exit.then]; refine bodyPost_ret (results_none rfl _ _ _) rfl ?_) | refine bodyPost_ret (results_none rfl _ _ _) rfl ?_
  go_wp2
  go_end0
  exact ⟨rfl, rfl⟩
def OnceEnd (b : Nat) (s : Value) (d st x : Int) (w : World) (e : Ending) (w' : World) : Prop :=
  e = .returned (.tuple #[]) ∧ AW w' b s d st x ∧ Only b w w'
theorem once_load (a : Addr) (d : Int) (v : Bool) (hv : (d != 0) = v) (w : World) (hc : w.cell? a = some (.int .u32 d)) :
    Calls Tryz.prog 235 #[.pointer (some a)] w fun e w' => e = .returned (.bool v) ∧ w = w' := by
  have hl := run_call_load (P := Tryz.prog) Tryz.func248 (by kernel_rfl) (by kernel_rfl) (by kernel_rfl) .u32 (by kernel_rfl) hc
  have HV := Lib.hid hv; clear hv
  go_enter Tryz.func235, Tryz.ntmps235
  go_wp2
  go_ret
  exact ⟨retb HV.out, rfl⟩
set_option maxRecDepth 100000 in
theorem once_slow (K : Nat) (b p : Nat) (s : Value) (x0 x : Int) (w : World) (h : AW w b s 0 0 x0)
    (hE : ∀ (args : Array Value) (w : World), Sem.run Tryz.prog (callFunc K args) w = .ok (.enter K args) w)
    (hF : Hid (∀ w1, AW w1 b s 0 1 x0 → Only b w w1 → Calls Tryz.prog K #[.pointer (some ⟨p, 0, none⟩)] w1 (OnceEnd b s 0 1 x w1))) :
    Calls Tryz.prog 236 #[.pointer (some ⟨b, 1, none⟩), .func (.func K) #[] #[.pointer (some ⟨p, 0, none⟩)]] w (OnceEnd b s 1 0 x w) := by
  have H := Lib.hid h; clear h
  have hnot : ∀ (x : Bool) (w : World), (Op.unary .not (.bool x)).run Tryz.prog w = .ok (.bool (!x)) w := fun _ _ => rfl
  go_enter_defers Tryz.func236, Tryz.ntmps236
  go_wp2_with fail
  refine (once_lock _ _ H.out.c2 H.out.f2).mono ?_
  rintro e w1 ⟨rfl, hw1⟩
  have h1 : AW w1 b s 0 1 x0 := by rw [hw1]; exact H.out.setSt 1
  have o1 : Only b w w1 := by rw [hw1]; exact (Only.refl b w).setCell 2 _
  have H1 := Lib.hid h1; have HW1 := Lib.hid hw1
  clear hw1 h1
  go_wp2_with fail
  refine (once_load _ 0 false rfl _ H1.out.c1).mono ?_
  rintro e w' ⟨rfl, rfl⟩
  go_wp2_with fail
  refine (hF.out w1 H1.out o1).mono ?_
  rintro e w2 ⟨rfl, h2, o2⟩
  have H2 := Lib.hid h2
  replace o1 := o1.trans o2
  clear h2 o2
  go_wp2_with fail
  refine leaves_cons (f := 251) (args := #[.pointer (some ⟨b, 1, none⟩), .bool true]) (by simp) (by simp [go_sem]) ?_
  refine (once_store ⟨b, 1, none⟩ _ .returning _ H2.out.c1 H2.out.f1).mono ?_
  rintro e u' w3 ⟨rfl, rfl, hw3⟩
  have h3 : AW w3 b s 1 1 x := by rw [hw3]; exact H2.out.drew.setD 1
  replace o1 : Only b w w3 := by rw [hw3]; exact o1.drew.setCell 1 _
  clear hw3
  refine leaves_cons (f := 250) (args := #[.pointer (some ⟨b, 2, none⟩)]) (by simp [settle]) (by simp [go_sem]) ?_
  refine (once_unlock ⟨b, 2, none⟩ _ _ h3.c2 h3.f2).mono ?_
  rintro e u' w4 ⟨rfl, rfl, hw4⟩
  have h4 : AW w4 b s 1 0 x := by rw [hw4]; exact h3.setSt 0
  replace o1 : Only b w w4 := by rw [hw4]; exact o1.setCell 2 _
  clear hw4
  have hfin : OnceEnd b s 1 0 x w (.returned (.tuple #[])) w4 := ⟨rfl, h4, o1⟩
  have HF := Lib.hid hfin; clear hfin
  simp [Leaves, settle, results, Tryz.results236]
  exact HF.out
set_option maxRecDepth 100000 in
theorem once_first (K : Nat) (b p : Nat) (s : Value) (x0 x : Int) (w : World) (h : AW w b s 0 0 x0)
    (hE : ∀ (args : Array Value) (w : World), Sem.run Tryz.prog (callFunc K args) w = .ok (.enter K args) w)
    (hF : Hid (∀ w1, AW w1 b s 0 1 x0 → Only b w w1 → Calls Tryz.prog K #[.pointer (some ⟨p, 0, none⟩)] w1 (OnceEnd b s 0 1 x w1))) :
    Calls Tryz.prog 213 #[.pointer (some ⟨b, 1, none⟩), .func (.func K) #[] #[.pointer (some ⟨p, 0, none⟩)]] w (OnceEnd b s 1 0 x w) := by
  have H := Lib.hid h; clear h
  have HE := Lib.hid hE; clear hE
  have hnot : ∀ (x : Bool) (w : World), (Op.unary .not (.bool x)).run Tryz.prog w = .ok (.bool (!x)) w := fun _ _ => rfl
  go_enter Tryz.func213, Tryz.ntmps213
  go_wp2_with fail
  refine (once_load _ 0 false rfl _ H.out.c1).mono ?_
  rintro e w' ⟨rfl, rfl⟩
  go_wp2_with fail
  refine (once_slow K b p s x0 x _ H.out HE.out hF).mono ?_
  rintro e w' ⟨rfl, h1, h2⟩
  have h1 := Lib.hid h1
  go_wp2_with fail
  go_end0
  exact ⟨rfl, h1.out, h2⟩
theorem once_done (b : Nat) (fv s : Value) (x : Int) (w : World) (h : AW w b s 1 0 x) :
    Calls Tryz.prog 213 #[.pointer (some ⟨b, 1, none⟩), fv] w (OnceEnd b s 1 0 x w) := by
  have H := Lib.hid h; clear h
  have hnot : ∀ (x : Bool) (w : World), (Op.unary .not (.bool x)).run Tryz.prog w = .ok (.bool (!x)) w := fun _ _ => rfl
  go_enter Tryz.func213, Tryz.ntmps213
  go_wp2_with fail
  refine (once_load _ 1 true rfl _ H.out.c1).mono ?_
  rintro e w' ⟨rfl, rfl⟩
  go_wp2_with fail
  go_end0
  exact ⟨rfl, H.out, Only.refl b w⟩
theorem thoseM_any (K : Nat) (a : Option Addr) (n cap : Nat) (r : Value) (g : Nat → Bool) (hn : n ≤ 7) (w : World)
    (hE : ∀ (args : Array Value) (w : World), Sem.run Tryz.prog (callFunc K args) w = .ok (.enter K args) w)
    (hF : Hid (∀ (wr : World) (b : Nat), b < n → Drew w wr → Calls Tryz.prog K #[r, .int .i64 b] wr fun e w' => e = .returned (.bool (g b)) ∧ Drew wr w')) :
    Calls Tryz.prog 215 #[.slice a n cap, .func (.func K) #[r] #[]] w fun e w' => e = .returned (.int .i64 (setOf g n)) ∧ Drew w w' := by
  go_enter Tryz.func215, Tryz.ntmps215
  go_wp2_with fail
  go_loopw [5, 9] (fun v i wr => ∃ k : Nat, k ≤ n ∧ i = .int .i64 k ∧ v = .int .i64 (setOf g k) ∧ Drew w wr) (fun _ i _ => n - (intOf i).toNat)
  case atStart => exact ⟨0, Nat.zero_le _, rfl, rfl, Drew.refl w⟩
  case round =>
    obtain ⟨k, hk, rfl, rfl, hd⟩ := hrel
    by_cases hlt : k < n
    · have hk7 : k < 7 := by omega
      have hp := pow_bounds k (by omega)
      obtain ⟨hp1, hp2⟩ := hp
      cases hg : g k with
      | true =>
        have HS := Lib.hid (setOf_yes g k hg); have HG := Lib.hid hg; clear hg
        go_wp2_with fail
        refine (hF.out wr k hlt hd).mono ?_
        rintro e w' ⟨rfl, hd'⟩
        rw [HG.out]
        go_wp2_with fail
        go_roundw
        case rel => exact ⟨k + 1, by omega, by go_num, by rw [HS.out], by obtain ⟨m, rfl⟩ := hd'; exact hd.more m⟩
        case measure => simp [intOf]; omega
      | false =>
        have HS := Lib.hid (setOf_no g k hg); have HG := Lib.hid hg; clear hg
        go_wp2_with fail
        refine (hF.out wr k hlt hd).mono ?_
        rintro e w' ⟨rfl, hd'⟩
        rw [HG.out]
        go_wp2_with fail
        go_roundw
        case rel => exact ⟨k + 1, by omega, by go_num, by rw [HS.out], by obtain ⟨m, rfl⟩ := hd'; exact hd.more m⟩
        case measure => simp [intOf]; omega
    · have hkn : k = n := by omega
      subst hkn
      go_wp2_with fail
      go_ret
      exact ⟨rfl, hd⟩
def atomB (f : Nat → Int) (a : Nat) : Bool := f a == 2 ^ a
def atomsI (n : Nat) (f : Nat → Int) : Int := setOf (atomB f) n
theorem atom_any (bk off n cap : Nat) (a : Nat) (f : Nat → Int) (hn : n ≤ 7) (ha : a < n) (w : World) (hr : Row w bk off n f) :
    Calls Tryz.prog 216 #[.slice (some ⟨bk, off, none⟩) n cap, .int .i64 a] w fun e w' => e = .returned (.bool (atomB f a)) ∧ Drew w w' := by
  have hc := hr a ha
  have ⟨hp1, hp2⟩ := pow_bounds a (by omega)
  have hai : (a : Int) < (n : Int) := by omega
  go_enter Tryz.func216, Tryz.ntmps216
  go_wp2_with fail
  go_quiet (fail)
  go_wp2_with fail
  go_ret
  exact ⟨rfl, _, rfl⟩
/-- the function that is handed to Do: it lays what was found -/
theorem atomsC_any (b p g n cap : Nat) (f : Nat → Int) (d st x0 : Int) (hn : n ≤ 7) (w : World) (h : AW w b (.slice (some ⟨g, 0, none⟩) n cap) d st x0)
    (hp : w.cell? ⟨p, 0, none⟩ = some (.pointer (some ⟨b, 0, none⟩))) (hr : Row w g 0 n f) :
    Calls Tryz.prog 214 #[.pointer (some ⟨p, 0, none⟩)] w (OnceEnd b (.slice (some ⟨g, 0, none⟩) n cap) d st (atomsI n f) w) := by
  have hE : ∀ (args : Array Value) (w : World), Sem.run Tryz.prog (callFunc 216 args) w = .ok (.enter 216 args) w := enters_of Tryz.func216 (by kernel_rfl) rfl
  have c0 := h.c0; have c4 := h.c4; have f4 := h.f4
  have K1 := Lib.hid (show ∀ (W : World) (v : Value), W.cell? ⟨p, 0, none⟩ = some (.pointer (some ⟨b, 0, none⟩)) → (W.setCell ⟨b, 4, none⟩ v).cell? ⟨p, 0, none⟩ = some (.pointer (some ⟨b, 0, none⟩)) from
    fun W v h => (World.cell?_setCell_other _ _ _ _ (by simp)).trans h)
  have K2 := Lib.hid (show ∀ (W : World) (v : Value), W.cell? ⟨b, 0, none⟩ = some (.slice (some ⟨g, 0, none⟩) n cap) → (W.setCell ⟨b, 4, none⟩ v).cell? ⟨b, 0, none⟩ = some (.slice (some ⟨g, 0, none⟩) n cap) from
    fun W v h => (World.cell?_setCell_other _ _ _ _ (by simp)).trans h)
  have H := Lib.hid h; have HE := Lib.hid hE; have HR := Lib.hid hr; clear h hE hr
  have hmf : ∀ (fn : Fn) (first cap : Array Value) (w : World), (Instr.makeFunc fn first cap).run Tryz.prog w = .ok (.func fn first cap) w := fun _ _ _ _ => rfl
  go_enter Tryz.func214, Tryz.ntmps214
  go_wp2_with fail
  go_region_held3 (fun w' => w'.cell? ⟨p, 0, none⟩ = some (.pointer (some ⟨b, 0, none⟩)) ∧ w'.cell? ⟨b, 0, none⟩ = some (.slice (some ⟨g, 0, none⟩) n cap)) (first | go_keep | exact ⟨K1.out _ _ (by simp [*]), K2.out _ _ (by simp [*])⟩)
    (first | (go_at_call 215; refine (thoseM_any _ _ _ _ _ (atomB f) hn _ HE.out ?_).mono ?_; ((rintro wr b hb ⟨m, rfl⟩; exact atom_any g 0 n cap b f hn hb _ (HR.out.drewN m))); rintro e w' ⟨rfl, m, rfl⟩))
  go_wp2_with fail
  go_end0
  exact ⟨rfl, (H.out.drewN _).setX _, ((Only.refl b w).drewN _).setCell 4 _⟩
def AtomW (w : World) (b g n cap : Nat) (f : Nat → Int) : Prop :=
  (∃ d x, AW w b (.slice (some ⟨g, 0, none⟩) n cap) d 0 x ∧ (d = 0 ∨ (d = 1 ∧ x = atomsI n f))) ∧ Row w g 0 n f ∧ g < w.heap.size ∧ g ≠ b
def AtomEnd (b g n cap : Nat) (f : Nat → Int) (v : Value) (w : World) (e : Ending) (w' : World) : Prop :=
  e = .returned v ∧ AtomW w' b g n cap f ∧ Only b w w'
theorem one_cell (w : World) (v : Value) (t : TypeId) :
    (w.alloc (.cells #[v] t)).cell? ⟨w.heap.size, 0, none⟩ = some v ∧ Below w.heap.size w (w.alloc (.cells #[v] t)) :=
  ⟨(World.rowIs_alloc w #[v] t (fun _ => v) (by intro i hi; match i, hi with | 0, _ => rfl)).cell (Nat.zero_lt_one), (Below.refl _ _).alloc (Nat.le_refl _) _⟩
theorem atoms_any (b g n cap : Nat) (f : Nat → Int) (hn : n ≤ 7) (w : World) (h : AtomW w b g n cap f) :
    Calls Tryz.prog 189 #[.pointer (some ⟨b, 0, none⟩)] w (AtomEnd b g n cap f (.int .i64 (atomsI n f)) w) := by
  have hE : ∀ (args : Array Value) (w : World), Sem.run Tryz.prog (callFunc 214 args) w = .ok (.enter 214 args) w := enters_of Tryz.func214 (by kernel_rfl) rfl
  have hmf : ∀ (fn : Fn) (first cap : Array Value) (w : World), (Instr.makeFunc fn first cap).run Tryz.prog w = .ok (.func fn first cap) w := fun _ _ _ _ => rfl
  obtain ⟨⟨d, x, haw, hd⟩, hr, hg, hgb⟩ := h
  have hlt := haw.lt
  obtain ⟨hc1, hbel⟩ := one_cell w (.pointer (some ⟨b, 0, none⟩)) 170
  replace haw := haw.below hbel hlt
  replace hr := hr.below hbel hg
  have hg2 := Nat.lt_of_lt_of_le hg hbel.size
  have o1 : Only b w (w.alloc (.cells #[.pointer (some ⟨b, 0, none⟩)] 170)) := Only.of_below hbel
  have hpb : w.heap.size ≠ b := by omega
  have C1 := Lib.hid hc1; have H := Lib.hid haw; have HR := Lib.hid hr; have HE := Lib.hid hE; have HO := Lib.hid o1
  have CP := Lib.hid (show ∀ W, Only b (w.alloc (.cells #[.pointer (some ⟨b, 0, none⟩)] 170)) W → W.cell? ⟨w.heap.size, 0, none⟩ = some (.pointer (some ⟨b, 0, none⟩)) from
    fun W o => (World.cell?_of_block (o.block w.heap.size (by show _ < (w.heap.push _).size; rw [Array.size_push]; omega) hpb)).trans hc1)
  have RP := Lib.hid (show ∀ W, Only b (w.alloc (.cells #[.pointer (some ⟨b, 0, none⟩)] 170)) W → Row W g 0 n f ∧ g < W.heap.size from
    fun W o => ⟨hr.only o hg2 hgb, Nat.lt_of_lt_of_le hg2 o.size⟩)
  clear hc1 haw hr hE o1 hbel
  rcases hd with rfl | ⟨rfl, rfl⟩
  · go_enter Tryz.func189, Tryz.ntmps189
    go_wp2_with fail
    refine (once_first _ b _ _ x (atomsI n f) _ H.out HE.out ?_).mono ?_
    · exact fun w1 h1 o1 => atomsC_any b _ g n cap f 0 1 x hn w1 h1 (CP.out _ o1) (RP.out _ o1).1
    · rintro e w2 ⟨rfl, h2, o2⟩
      have hcp := CP.out _ o2
      have h4 := h2.c4
      have H2 := Lib.hid h2; have O2 := Lib.hid o2; clear h2 o2
      go_wp2_with fail
      go_ret
      exact ⟨rfl, ⟨⟨1, _, H2.out, .inr ⟨rfl, rfl⟩⟩, (RP.out _ O2.out).1, (RP.out _ O2.out).2, hgb⟩, HO.out.trans O2.out⟩
  · go_enter Tryz.func189, Tryz.ntmps189
    go_wp2_with fail
    refine (once_done b _ _ _ _ H.out).mono ?_
    rintro e w2 ⟨rfl, h2, o2⟩
    have hcp := CP.out _ o2
    have h4 := h2.c4
    have H2 := Lib.hid h2; have O2 := Lib.hid o2; clear h2 o2
    go_wp2_with fail
    go_ret
    exact ⟨rfl, ⟨⟨1, _, H2.out, .inr ⟨rfl, rfl⟩⟩, (RP.out _ O2.out).1, (RP.out _ O2.out).2, hgb⟩, HO.out.trans O2.out⟩
theorem worldWith_nil (a : Option Addr) (n cap : Nat) (f : Nat → Int) (w : World) (hi : Ints w a n f) :
    Calls Tryz.prog 212 #[.slice a n cap, .slice none 0 0] w fun e w' => WithEnd n f 0 (one 0) w e w' := by
  have hn := hi.1.1
  have hno : insB n 0 (one 0) = true := decide_eq_true (fun i hi => absurd hi (Nat.not_lt_zero _))
  have HNO := Lib.hid hno; clear hno
  go_enter Tryz.func212, Tryz.ntmps212
  go_wp2_with fail
  refine (worldOf_end a n cap f w hi).mono ?_
  rintro e w' ⟨hbel, ⟨hb, rfl, hs, hr⟩ | ⟨hb, rfl⟩⟩
  · have HB := Lib.hid hb; clear hb
    go_wp2_with fail
    go_loopw [19] (fun i wr => i = .int .i64 0 ∧ wr = w') (fun i _ => 0)
    case atStart => exact ⟨rfl, rfl⟩
    case round =>
      obtain ⟨rfl, rfl⟩ := hrel
      go_wp2_with fail
      go_ret2
      exact ⟨hbel, .inl ⟨by rw [HB.out, HNO.out]; rfl, rfl, hs, hr⟩⟩
  · have hfin : (worldB n f && insB n 0 (one 0)) = false := by rw [hb]; rfl
    have HF := Lib.hid hfin; clear hfin hb
    go_wp2_with fail
    go_ret2
    exact ⟨hbel, .inr ⟨HF.out, rfl⟩⟩
theorem aw_new (w : World) (s : Value) (t : TypeId) : AW (w.alloc (.cells #[s, .int .u32 0, .int .i32 0, .int .u32 0, .int .i64 0] t)) w.heap.size s 0 0 0 := by
  have hrow := World.rowIs_alloc w #[s, .int .u32 0, .int .i32 0, .int .u32 0, .int .i64 0] t (fun i => if i = 0 then s else if i = 1 then .int .u32 0 else if i = 2 then .int .i32 0 else if i = 3 then .int .u32 0 else .int .i64 0) (by
    intro i hi
    match i, hi with
    | 0, _ => rfl
    | 1, _ => rfl
    | 2, _ => rfl
    | 3, _ => rfl
    | 4, _ => rfl)
  refine ⟨by show _ < (w.heap.push _).size; rw [Array.size_push]; omega, ?_, ?_, ?_, ?_, hrow.frozen 1, hrow.frozen 2, hrow.frozen 4⟩
  · exact hrow.cell (i := 0) (by show 0 < 5; omega)
  · exact hrow.cell (i := 1) (by show 1 < 5; omega)
  · exact hrow.cell (i := 2) (by show 2 < 5; omega)
  · exact hrow.cell (i := 4) (by show 4 < 5; omega)
def AWEnd (n : Nat) (f : Nat → Int) (good : Bool) (w : World) (e : Ending) (w' : World) : Prop :=
  Below w.heap.size w w' ∧ ((good = true ∧ ∃ b g, e = .returned (.tuple #[.pointer (some ⟨b, 0, none⟩), .bool true]) ∧ AtomW w' b g n n f ∧ w.heap.size ≤ b)
    ∨ (good = false ∧ e = .returned (.tuple #[.pointer none, .bool false])))
theorem atomWorldOf_any (a : Option Addr) (n cap : Nat) (f : Nat → Int) (nv : Option Addr) (m mc : Nat) (g : Nat → Int) (w : World)
    (hW : Calls Tryz.prog 212 #[.slice a n cap, .slice nv m mc] w (WithEnd n f m g w)) :
    Calls Tryz.prog 188 #[.slice a n cap, .slice nv m mc] w (AWEnd n f (worldB n f && insB n m g) w) := by
  have HW := Lib.hid hW; clear hW
  have hnot : ∀ (x : Bool) (w : World), (Op.unary .not (.bool x)).run Tryz.prog w = .ok (.bool (!x)) w := fun _ _ => rfl
  go_enter Tryz.func188, Tryz.ntmps188
  go_wp2_with fail
  refine HW.out.mono ?_
  rintro e w' ⟨hbel, ⟨hb, rfl, hs, hr⟩ | ⟨hb, rfl⟩⟩
  · have HB := Lib.hid hb; have HR := Lib.hid hr; have HBel := Lib.hid hbel; clear hb hr
    have hsz : w.heap.size ≤ w'.heap.size := hbel.size
    have hnew := Lib.hid (aw_new w' (.slice (some ⟨w.heap.size, 0, none⟩) n n) 214)
    clear hbel
    go_wp2_with fail
    go_ret2
    refine ⟨HBel.out.alloc hsz _, .inl ⟨HB.out, w'.heap.size, w.heap.size, rfl, ⟨⟨0, 0, hnew.out, .inl rfl⟩, HR.out.below ((Below.refl w'.heap.size w').alloc (Nat.le_refl _) _) hs, ?_, by omega⟩, hsz⟩⟩
    show _ < (w'.heap.push _).size; rw [Array.size_push]; omega
  · have HB := Lib.hid hb; clear hb
    go_wp2_with fail
    go_ret2
    exact ⟨hbel, .inr ⟨HB.out, rfl⟩⟩
theorem atomWorld0 (a : Option Addr) (n cap : Nat) (f : Nat → Int) (w : World) (hi : Ints w a n f) :
    Calls Tryz.prog 188 #[.slice a n cap, .slice none 0 0] w (AWEnd n f (worldB n f) w) := by
  have := atomWorldOf_any a n cap f none 0 0 (one 0) w (worldWith_nil a n cap f w hi)
  rw [show insB n 0 (one 0) = true from decide_eq_true (fun i hi => absurd hi (Nat.not_lt_zero _)), Bool.and_true] at this
  exact this
def atomsB (n : Nat) (f : Nat → Int) : Int := if worldB n f then atomsI n f else -1
theorem only_onto {b : Nat} {w a c : World} (h : Below w.heap.size w a) (k : Only b a c) (hb : w.heap.size ≤ b) : Below w.heap.size w c := h.trans (k.below hb h.size)
theorem AtomsOf_any (a : Option Addr) (n cap : Nat) (f : Nat → Int) (w : World) (hi : Ints w a n f) :
    Calls Tryz.prog 164 #[.slice a n cap] w fun e w' => e = .returned (.int .i64 (atomsB n f)) ∧ Below w.heap.size w w' := by
  have HI := Lib.hid hi; clear hi
  have hnot : ∀ (x : Bool) (w : World), (Op.unary .not (.bool x)).run Tryz.prog w = .ok (.bool (!x)) w := fun _ _ => rfl
  go_enter Tryz.func164, Tryz.ntmps164
  go_wp2_with fail
  refine (atomWorld0 a n cap f _ HI.out).mono ?_
  rintro e w1 ⟨hbel, ⟨hg, b, g, rfl, haw, hbb⟩ | ⟨hg, rfl⟩⟩
  · have h7 := (worldB_7 hg).2
    have hfin : atomsB n f = atomsI n f := by unfold atomsB; rw [if_pos hg]
    have HF := Lib.hid hfin; have HA := Lib.hid haw; clear hfin haw hg
    go_wp2_with fail
    refine (atoms_any b g n n f h7 _ HA.out).mono ?_
    rintro e w2 ⟨rfl, h2, o2⟩
    clear h2
    go_wp2_with fail
    go_ret
    exact ⟨reti HF.out.symm, only_onto hbel o2 hbb⟩
  · have hfin : atomsB n f = -1 := by unfold atomsB; rw [if_neg (by rw [hg]; decide)]
    have HF := Lib.hid hfin; clear hfin hg
    go_wp2_with fail
    go_ret
    exact ⟨reti HF.out.symm, hbel⟩
theorem specAtomsOf_in (b o n cap : Nat) (f : Nat → Int) (hg : worldB n f = true) (w : World) (hi : Ints w (some ⟨b, o, none⟩) n f) (hr : Row w b o n f) :
    Calls Tryz.prog 76 #[.slice (some ⟨b, o, none⟩) n cap] w fun e w' => e = .returned (.int .i64 (atomsI n f)) ∧ Drew w w' := by
  have h7 := (worldB_7 hg).2
  have HG := Lib.hid hg; have HN := Lib.hid hi; clear hg hi
  go_enter Tryz.func76, Tryz.ntmps76
  go_wp2_with fail
  refine (specWorldOk_val _ _ _ f true _ HG.out HN.out).mono ?_
  rintro e w' ⟨rfl, m0, rfl⟩
  replace hr := hr.drewN m0
  go_wp2_with fail
  go_loopw [3, 4] (fun v i wr => ∃ k : Nat, k ≤ n ∧ i = .int .i64 k ∧ v = .int .i64 (setOf (atomB f) k) ∧ Row wr b o n f ∧ Drew w wr) (fun _ i _ => n - (intOf i).toNat)
  case atStart => exact ⟨0, Nat.zero_le _, rfl, rfl, hr, _, rfl⟩
  case round =>
    obtain ⟨k, hk, rfl, rfl, hrk, hd⟩ := hrel
    by_cases hlt2 : k < n
    · have hc := hrk k hlt2
      have hkn : (k : Int) < (n : Int) := by omega
      have ⟨hp1, hp2⟩ := pow_bounds k (by omega)
      cases hb : atomB f k with
      | true =>
        have HS := Lib.hid (setOf_yes (atomB f) k hb)
        have hbb : (f k == 2 ^ k) = true := hb
        clear hb
        go_wp2_with fail
        go_quiet (fail)
        go_wp2_with fail
        go_roundw
        case rel => exact ⟨k + 1, by omega, by go_num, by rw [HS.out], hrk.drewN _, hd.more _⟩
        case measure => simp [intOf]; omega
      | false =>
        have HS := Lib.hid (setOf_no (atomB f) k hb)
        have hbb : (f k == 2 ^ k) = false := hb
        clear hb
        go_wp2_with fail
        go_quiet (fail)
        go_wp2_with fail
        go_roundw
        case rel => exact ⟨k + 1, by omega, by go_num, by rw [HS.out], hrk.drewN _, hd.more _⟩
        case measure => simp [intOf]; omega
    · have hkn : k = n := by omega
      subst hkn
      go_wp2_with fail
      go_ret
      exact ⟨rfl, hd⟩
theorem specAtomsOf_any (a : Option Addr) (n cap : Nat) (f : Nat → Int) (w : World) (hi : Ints w a n f) :
    Calls Tryz.prog 76 #[.slice a n cap] w fun e w' => e = .returned (.int .i64 (atomsB n f)) ∧ Drew w w' := by
  cases hg : worldB n f with
  | true =>
    obtain ⟨b, o, rfl, hlt, hr⟩ := hi.row (worldB_7 hg).1
    rw [show atomsB n f = atomsI n f by unfold atomsB; rw [if_pos hg]]
    exact specAtomsOf_in b o n cap f hg w hi hr
  | false =>
    have hfin : atomsB n f = -1 := by unfold atomsB; rw [if_neg (by rw [hg]; decide)]
    have HF := Lib.hid hfin; have HG := Lib.hid hg; have HN := Lib.hid hi; clear hfin hg hi
    have hn := HN.out.1.1
    go_enter Tryz.func76, Tryz.ntmps76
    go_wp2_with fail
    refine (specWorldOk_val _ _ _ f false _ HG.out HN.out).mono ?_
    rintro e w' ⟨rfl, m0, rfl⟩
    go_wp2_with fail
    go_ret
    exact ⟨reti HF.out.symm, _, rfl⟩
theorem orI_comm (x y : Int) : orI x y = orI y x :=
  ext64 _ _ (orI_I64 _ _) (orI_I64 _ _) (fun i hi => by rw [or_bit _ _ _ hi, or_bit _ _ _ hi, Bool.or_comm])
theorem or_within (x y : Int) (hy : I64 y) : (bits .or .i64 x y == y) = withinB x y := by
  rw [Bool.eq_iff_iff, beq_iff_eq]
  show orI x y = y ↔ _
  rw [orI_comm, or_eq_iff y x hy, within_iff]
theorem within_self (x : Int) : withinB x x = true := (within_iff x x).2 (fun _ _ h => h)
end Go.Proofs.YthaickihoagnmaaGreatDoor
namespace Go.Proofs.YthaickihoagnmaaGreatDoor
open Go.RowKit Go.Maps
def ppsI (f : Nat → Int) (a : Nat) : Int := bits .andNot .i64 (f a) (2 ^ a)
theorem pps_any (bk off n cap : Nat) (a : Nat) (f : Nat → Int) (hn : n ≤ 7) (ha : a < n) (w : World) (hr : Row w bk off n f) :
    Calls Tryz.prog 244 #[.slice (some ⟨bk, off, none⟩) n cap, .int .i64 a] w fun e w' => e = .returned (.int .i64 (ppsI f a)) ∧ ∃ m, w' = w.drewN m := by
  have hc := hr a ha
  have ⟨hp1, hp2⟩ := pow_bounds a (by omega)
  have hai : (a : Int) < (n : Int) := by omega
  go_enter Tryz.func244, Tryz.ntmps244
  go_wp2_with fail
  go_quiet (fail)
  go_wp2_with fail
  go_ret
  exact ⟨rfl, _, rfl⟩
def companyG (f : Nat → Int) (whole part : Nat) : Bool := !neHas (f whole) part whole || ppsI f whole != 2 ^ part
theorem below_of_drewN (w : World) (m : Nat) : Below w.heap.size w (w.drewN m) := below_drewN (Below.refl _ _) m
theorem company_any (bk off n cap : Nat) (a b : Nat) (f : Nat → Int) (hn : n ≤ 7) (ha : a < n) (hb : b < n) (w : World) (hr : Row w bk off n f) :
    Calls Tryz.prog 230 #[.slice (some ⟨bk, off, none⟩) n cap, .int .i64 a, .int .i64 b] w (AskEnd (companyG f a b) w) := by
  have hc := hr a ha
  have hnot : ∀ (x : Bool) (w : World), (Op.unary .not (.bool x)).run Tryz.prog w = .ok (.bool (!x)) w := fun _ _ => rfl
  have ⟨hp1, hp2⟩ := pow_bounds b (by omega)
  have HR := Lib.hid hr; have HC := Lib.hid hc; clear hr hc
  cases hp : neHas (f a) b a with
  | false =>
    have HF := Lib.hid (show companyG f a b = true by unfold companyG; rw [hp]; rfl)
    have HP := Lib.hid hp; clear hp
    go_enter Tryz.func230, Tryz.ntmps230
    go_wp2_with fail
    go_quiet ((go_at_call 243; exact quiet_left (proper_val bk off n cap b a (f a) false ha (by omega) _ HP.out (by rw [World.cell?_drewN]; exact HC.out))))
    go_wp2_with fail
    go_ret
    exact ⟨retb HF.out.symm, below_of_drewN _ _⟩
  | true =>
    have HF := Lib.hid (show companyG f a b = (ppsI f a != 2 ^ b) by unfold companyG; rw [hp]; rfl)
    have HP := Lib.hid hp; clear hp
    go_enter Tryz.func230, Tryz.ntmps230
    go_wp2_with fail
    go_quiet (first | (go_at_call 243; exact quiet_left (proper_val bk off n cap b a (f a) true ha (by omega) _ HP.out (by rw [World.cell?_drewN]; exact HC.out))) | (go_at_call 244; exact Calls.quiet_of (pps_any bk off n cap a f hn ha _ (HR.out.drewN _))))
    go_wp2_with fail
    go_ret
    exact ⟨retb HF.out.symm, below_of_drewN _ _⟩
def companyB (n : Nat) (f : Nat → Int) : Bool := worldB n f && eachB n (companyG f)
theorem CompanyOk_any (a : Option Addr) (n cap : Nat) (f : Nat → Int) (w : World) (hi : Ints w a n f) :
    Calls Tryz.prog 158 #[.slice a n cap] w fun e w' => e = .returned (.bool (companyB n f)) ∧ Below w.heap.size w w' := by
  have HI := Lib.hid hi; clear hi
  go_enter Tryz.func158, Tryz.ntmps158
  go_wp2_with fail
  refine (axiomOk_at nmCompany (by decide) 0 (by omega) (by kernel_rfl) (by kernel_rfl) 230 (fun _ _ _ h => h.2.2.1) (enters_of (P := Tryz.prog) Tryz.func230 (by kernel_rfl) rfl) n f (companyG f) (fun h7 bk cap a b wr ha hb hr _ => company_any bk 0 n cap a b f h7 ha hb wr hr) a cap _ HI.out).mono ?_
  rintro e w' ⟨rfl, hb⟩
  go_wp2_with fail
  go_ret
  exact ⟨rfl, hb⟩
end Go.Proofs.YthaickihoagnmaaGreatDoor
namespace Go.Proofs.YthaickihoagnmaaGreatDoor
open Go.RowKit
def popc : Nat → Nat → Nat
  | 0, _ => 0
  | k + 1, x => x % 2 + popc k (x / 2)
theorem popc_zero : ∀ k, popc k 0 = 0
  | 0 => rfl
  | k + 1 => by rw [popc]; simp [popc_zero k]
def SizeRel (x : Nat) (s c : Value) : Prop := ∃ k s' c' : Nat, s' < 2 ^ k ∧ k ≤ 7 ∧ s = .int .i64 s' ∧ c = .int .i64 c' ∧ c' + popc k s' = popc 7 x ∧ c' + k ≤ 7
theorem l1Size_any (x : Nat) (hx : x < 128) (w : World) :
    Calls Tryz.prog 122 #[.int .i64 x] w fun e w' => e = .returned (.int .i64 (popc 7 x)) ∧ w = w' := by
  go_enter Tryz.func122, Tryz.ntmps122
  go_wp2_with fail
  go_loop [0, 3] (fun s c => SizeRel x s c) (fun s _ => (intOf s).toNat)
  case atStart => exact ⟨7, x, 0, by omega, by omega, rfl, rfl, by omega, by omega⟩
  case round =>
    obtain ⟨k, s, c, hs, hk, rfl, rfl, hsum, hck⟩ := hrel
    have hs128 : s < 128 := Nat.lt_of_lt_of_le hs (Nat.pow_le_pow_right (by decide) hk)
    by_cases h0 : 0 < s
    · obtain ⟨k', rfl⟩ : ∃ k', k = k' + 1 := by
        cases k with
        | zero => simp at hs; omega
        | succ k' => exact ⟨k', rfl⟩
      rw [popc] at hsum
      rw [Nat.pow_succ] at hs
      have HS := Lib.hid hsum; clear hsum
      have h0i : (0 : Int) < (s : Int) := by omega
      go_wp2_with fail
      go_round
      case rel => exact ⟨k', s / 2, c + s % 2, by omega, by omega, by go_num, by go_num, by have := HS.out; omega, by omega⟩
      case measure => simp [intOf]; omega
    · have hs0 : s = 0 := by omega
      subst hs0
      rw [popc_zero] at hsum
      have HS := Lib.hid hsum; clear hsum
      go_wp2_with fail
      go_ret
      exact ⟨reti (by have := HS.out; omega), rfl⟩
def sizeOk (x a : Nat) : Bool := !(hasB x a) || (((popc 7 x == 2) == (List.range 7).any (fun b => b != a && hasB x b && bits .andNot .i64 x (2 ^ a) == 2 ^ b)) && bits .andNot .i64 x (2 ^ a) == x - 2 ^ a)
theorem sizeOk_all : (List.range 128).all (fun x => (List.range 7).all (sizeOk x)) = true := by kernel_rfl
theorem sizeOk_at (x a : Nat) (hx : x < 128) (ha : a < 7) : sizeOk x a = true := by
  have h := sizeOk_all
  rw [List.all_eq_true] at h
  have h2 := h x (List.mem_range.2 hx)
  rw [List.all_eq_true] at h2
  exact h2 a (List.mem_range.2 ha)
theorem pow7le {n : Nat} (h : n ≤ 7) : (2 : Int) ^ n ≤ 128 := by
  match n, h with
  | 0, _ | 1, _ | 2, _ | 3, _ | 4, _ | 5, _ | 6, _ | 7, _ => decide
theorem size_nat {n : Nat} {f : Nat → Int} (hP : WorldP n f) {a : Nat} (ha : a < n) : ∃ X : Nat, f a = X ∧ X < 128 := by
  have h := hP.rng a ha
  have := pow7le hP.hi
  obtain ⟨X, e⟩ := Int.eq_ofNat_of_zero_le h.1
  exact ⟨X, e, by omega⟩
theorem company_size {n : Nat} {f : Nat → Int} (hP : WorldP n f) {a X : Nat} (ha : a < n) (e : f a = X) : (popc 7 X = 2) ↔ ∃ b, b < n ∧ a ≠ b ∧ companyG f a b = false := by
  obtain ⟨X', e', hX⟩ := size_nat hP ha
  obtain rfl : X = X' := by omega
  have hs := hP.self a ha
  have h := sizeOk_at X a hX (by have := hP.hi; omega)
  unfold sizeOk at h
  have hs2 := hs
  rw [e] at hs2
  rw [hs2] at h
  simp only [Bool.not_true, Bool.false_or, Bool.and_eq_true] at h
  have h1 := beq_iff_eq.1 h.1
  have h2 : (popc 7 X = 2) ↔ (popc 7 X == 2) = true := by rw [beq_iff_eq]
  rw [h2, h1, List.any_eq_true]
  constructor
  · rintro ⟨b, _, hb⟩
    simp only [Bool.and_eq_true, bne_iff_ne] at hb
    have hfb : hasB (f a) b = true := by rw [e]; exact hb.1.2
    refine ⟨b, hasB_lt (hP.rng a ha) hfb, fun e => hb.1.1 e.symm, ?_⟩
    unfold companyG neHas ppsI
    rw [hfb, decide_eq_true hb.1.1, e]
    have h3 := beq_iff_eq.1 hb.2
    rw [h3]; simp
  · rintro ⟨b, hb, hab, hc⟩
    unfold companyG at hc
    rw [Bool.or_eq_false_iff] at hc
    have h3 : neHas (f a) b a = true := by have := hc.1; simpa using this
    unfold neHas at h3
    rw [Bool.and_eq_true, decide_eq_true_eq] at h3
    have h4 : ppsI f a = 2 ^ b := by have := hc.2; simpa using this
    refine ⟨b, List.mem_range.2 (by have := hP.hi; omega), ?_⟩
    simp only [Bool.and_eq_true, bne_iff_ne]
    refine ⟨⟨h3.1, by rw [← e]; exact h3.2⟩, ?_⟩
    unfold ppsI at h4; rw [e] at h4
    rw [h4]; simp
theorem companyB_no {n : Nat} {f : Nat → Int} (hP : WorldP n f) {a X : Nat} (ha : a < n) (e : f a = X) (h : popc 7 X = 2) : companyB n f = false := by
  obtain ⟨b, hb, hab, hc⟩ := (company_size hP ha e).1 h
  unfold companyB; rw [each_no ha hb hab hc, Bool.and_false]
theorem companyB_of {n : Nat} {f : Nat → Int} (hw : worldB n f = true) (h : ∀ a, a < n → ∀ c, c < n → a ≠ c → companyG f a c = true) : companyB n f = true := by
  unfold companyB; rw [hw, each_iff.2 h]; rfl
theorem company_row {n : Nat} {f : Nat → Int} (hP : WorldP n f) {a X : Nat} (ha : a < n) (e : f a = X) (h : popc 7 X ≠ 2) : ∀ c, c < n → a ≠ c → companyG f a c = true := by
  intro c hc hac
  cases hg : companyG f a c with
  | true => rfl
  | false => exact absurd ((company_size hP ha e).2 ⟨c, hc, hac, hg⟩) h
set_option maxRecDepth 100000 in
theorem specCompanyOk_in (b o n cap : Nat) (f : Nat → Int) (hg : worldB n f = true) (w : World) (hi : Ints w (some ⟨b, o, none⟩) n f) (hr : Row w b o n f) :
    Calls Tryz.prog 71 #[.slice (some ⟨b, o, none⟩) n cap] w fun e w' => e = .returned (.bool (companyB n f)) ∧ Drew w w' := by
  have h7 := (worldB_7 hg).2
  have HPW := Lib.hid (world_of hi hg)
  have HG := Lib.hid hg; have HN := Lib.hid hi; have HR := Lib.hid hr; clear hg hi hr
  go_enter Tryz.func71, Tryz.ntmps71
  go_wp2_with fail
  go_loopw [3] (fun i wr => ∃ k : Nat, k ≤ n ∧ i = .int .i64 k ∧ Hid (∀ a, a < k → ∀ c, c < n → a ≠ c → companyG f a c = true) ∧ Drew w wr) (fun i _ => n - (intOf i).toNat)
  case atStart => exact ⟨0, Nat.zero_le _, rfl, fun a ha => absurd ha (Nat.not_lt_zero _), Drew.refl _⟩
  case round =>
    obtain ⟨k, hk, rfl, hall, hd⟩ := hrel
    by_cases hlt : k < n
    · go_wp2_with fail
      refine (specWorldOk_val _ _ _ f true _ HG.out (HN.out.drew hd)).mono ?_
      rintro e w1 ⟨rfl, hd1⟩
      have hd2 : Drew w w1 := by obtain ⟨m, rfl⟩ := hd1; exact hd.more m
      clear hd hd1
      obtain ⟨X, hX, hX7⟩ := size_nat HPW.out hlt
      have hc : w1.cell? ⟨b, o + k, none⟩ = some (.int .i64 X) := by
        have hrr : Row w1 b o n f := by obtain ⟨m, rfl⟩ := hd2; exact HR.out.drewN m
        have := hrr k hlt; rwa [hX] at this
      by_cases hp : popc 7 X = 2
      · have hpi : ((popc 7 X : Int) == 2) = true := by rw [beq_iff_eq]; omega
        have HF := Lib.hid (companyB_no HPW.out hlt hX hp); clear hp hX
        go_wp2_with fail
        refine (l1Size_any X hX7 _).mono ?_
        rintro e w' ⟨rfl, rfl⟩
        go_wp2_with fail
        go_ret
        exact ⟨retb HF.out.symm, hd2⟩
      · have hpi : ((popc 7 X : Int) == 2) = false := by rw [beq_eq_false_iff_ne]; omega
        have HF := Lib.hid (company_row HPW.out hlt hX hp); clear hp hX
        go_wp2_with fail
        refine (l1Size_any X hX7 _).mono ?_
        rintro e w' ⟨rfl, rfl⟩
        go_wp2_with fail
        go_roundw
        case rel => exact ⟨k + 1, by omega, by go_num, fun a ha c hcn hac => by
          by_cases hak : a = k
          · subst hak; exact HF.out c hcn hac
          · exact hall a (by omega) c hcn hac, hd2⟩
        case measure => simp [intOf]; omega
    · have HF := Lib.hid (companyB_of HG.out (fun a ha c hc hac => hall a (by omega) c hc hac))
      go_wp2_with fail
      refine (specWorldOk_val _ _ _ f true _ HG.out (HN.out.drew hd)).mono ?_
      rintro e w1 ⟨rfl, hd1⟩
      have hd2 : Drew w w1 := by obtain ⟨m, rfl⟩ := hd1; exact hd.more m
      clear hd hd1
      go_wp2_with fail
      go_ret
      exact ⟨retb HF.out.symm, hd2⟩
theorem specCompanyOk_any (a : Option Addr) (n cap : Nat) (f : Nat → Int) (w : World) (hi : Ints w a n f) :
    Calls Tryz.prog 71 #[.slice a n cap] w fun e w' => e = .returned (.bool (companyB n f)) ∧ Drew w w' := by
  cases hg : worldB n f with
  | true =>
    obtain ⟨b, o, rfl, hlt, hr⟩ := hi.row (worldB_7 hg).1
    exact specCompanyOk_in b o n cap f hg w hi hr
  | false =>
    have hfin : companyB n f = false := by unfold companyB; rw [hg]; rfl
    have HF := Lib.hid hfin; have HG := Lib.hid hg; have HN := Lib.hid hi; clear hfin hg hi
    have hn := HN.out.1.1
    go_enter Tryz.func71, Tryz.ntmps71
    go_wp2_with fail
    go_loopw [3] (fun i wr => i = .int .i64 0 ∧ wr = w) (fun _ _ => 0)
    case atStart => exact ⟨rfl, rfl⟩
    case round =>
      obtain ⟨rfl, rfl⟩ := hrel
      by_cases h0 : 0 < n
      · have h0i : (0 : Int) < (n : Int) := by omega
        go_wp2_with fail
        refine (specWorldOk_val _ _ _ f false _ HG.out HN.out).mono ?_
        rintro e w' ⟨rfl, m0, rfl⟩
        go_wp2_with fail
        refine (specWorldOk_val _ _ _ f false _ HG.out (HN.out.drew ⟨_, rfl⟩)).mono ?_
        rintro e w' ⟨rfl, m1, rfl⟩
        go_wp2_with fail
        go_ret
        exact ⟨retb HF.out.symm, _, rfl⟩
      · have h0i : ¬ (0 : Int) < (n : Int) := by omega
        go_wp2_with fail
        refine (specWorldOk_val _ _ _ f false _ HG.out HN.out).mono ?_
        rintro e w' ⟨rfl, m0, rfl⟩
        go_wp2_with fail
        go_ret
        exact ⟨retb HF.out.symm, _, rfl⟩
end Go.Proofs.YthaickihoagnmaaGreatDoor

