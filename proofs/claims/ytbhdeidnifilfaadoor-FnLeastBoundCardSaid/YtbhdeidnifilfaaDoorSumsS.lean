import Derived.Test.YtbhdeidnifilfaaDoorSumsM
namespace Go.Proofs.YtbhdeidnifilfaaDoor
open Go.RowKit

theorem i64_of_wf {x : Int} (h : (Lit.int .i64 x).wf = true) : I64 x := by
  have := h
  simp [Lit.wf, IntKind.min, IntKind.max, IntKind.signed, IntKind.bits] at this
  unfold I64; omega

theorem Drew.onto {a b c : World} (h : Drew a b) (k : Drew b c) : Drew a c := by obtain ⟨m, rfl⟩ := k; exact h.more m
theorem row_drew {w w' : World} {b o n : Nat} {f : Nat → Int} (h : Row w b o n f) (hd : Drew w w') : Row w' b o n f := by obtain ⟨m, rfl⟩ := hd; exact h.drewN m

set_option maxHeartbeats 800000 in
theorem l4Set_any (a : Option Addr) (n cap : Nat) (f : Nat → Int) (s : Int) (w : World) (hi : Ints w a n f) :
    Calls Tryd.prog 23 #[.slice a n cap, .int .i64 s] w fun e w' => e = .returned (.bool (setB n f s)) ∧ Drew w w' := by
  cases hw : worldB n f with
  | true =>
    have h7 := (worldB_7 hw).2
    obtain ⟨hp1, hp2⟩ := pow_bounds n h7
    have HF := Lib.hid (show setB n f s = inB 1 s (2 ^ n - 1) by unfold setB; rw [hw]; rfl)
    have HW := Lib.hid hw; have HN := Lib.hid hi; clear hw hi
    go_enter Tryd.func23, Tryd.ntmps23
    go_wp2_with fail
    refine (specWorldOk_val _ _ _ f true _ HW.out HN.out).mono ?_
    rintro e w' ⟨rfl, m, rfl⟩
    go_wp2_with fail
    refine (l1In_any s 1 (2 ^ n - 1) _).mono ?_
    rintro e w' ⟨rfl, rfl⟩
    go_wp2_with fail
    go_ret
    exact ⟨retb HF.out.symm, _, rfl⟩
  | false =>
    have HF := Lib.hid (show setB n f s = false by unfold setB; rw [hw]; rfl)
    have HW := Lib.hid hw; have HN := Lib.hid hi; clear hw hi
    go_enter Tryd.func23, Tryd.ntmps23
    go_wp2_with fail
    refine (specWorldOk_val _ _ _ f false _ HW.out HN.out).mono ?_
    rintro e w' ⟨rfl, m, rfl⟩
    go_wp2_with fail
    go_ret
    exact ⟨retb HF.out.symm, _, rfl⟩

theorem l4Set_val (a : Option Addr) (n cap : Nat) (f : Nat → Int) (s : Int) (v : Bool) (w : World) (hv : setB n f s = v) (hi : Ints w a n f) :
    Calls Tryd.prog 23 #[.slice a n cap, .int .i64 s] w fun e w' => e = .returned (.bool v) ∧ Drew w w' := by
  subst hv; exact l4Set_any a n cap f s w hi

theorem meetB_at {n : Nat} {f : Nat → Int} {k : Nat} (hw : worldB n f = true) (hk : k < n) : meetB n f k = meetI n f k := by
  unfold meetB; rw [if_pos ((good1_iff n f k).2 ⟨hw, by omega, by omega⟩), Int.toNat_natCast]
theorem wholesB_at {n : Nat} {f : Nat → Int} {k : Nat} (hw : worldB n f = true) (hk : k < n) : wholesB n f k = wholesI n f k := by
  unfold wholesB; rw [if_pos ((good1_iff n f k).2 ⟨hw, by omega, by omega⟩), Int.toNat_natCast]

set_option maxHeartbeats 1600000 in
theorem specBoundsOf_in (b o n cap : Nat) (f : Nat → Int) (s : Int) (w : World) (hs : setB n f s = true) (hi : Ints w (some ⟨b, o, none⟩) n f) (hr : Row w b o n f) :
    Calls Tryd.prog 9 #[.slice (some ⟨b, o, none⟩) n cap, .int .i64 s] w fun e w' => e = .returned (.int .i64 (boundsI n f s)) ∧ Drew w w' := by
  obtain ⟨hw, hs1, hs2⟩ := setB_iff.1 hs
  have h7 := (worldB_7 hw).2
  have HW := Lib.hid hw; have HN := Lib.hid hi; have HS := Lib.hid hs; have HR := Lib.hid hr; clear hw hi hs hs1 hs2 hr
  have h64 := Lib.hid HN.out.i64
  go_enter Tryd.func9, Tryd.ntmps9
  go_wp2_with fail
  refine (l4Set_val _ n _ f s true _ HS.out HN.out).mono ?_
  rintro e w0 ⟨rfl, m0, rfl⟩
  go_wp2_with fail
  go_loopw [5, 6] (fun v i wr => ∃ k : Nat, k ≤ n ∧ i = .int .i64 k ∧ v = .int .i64 (setOf (fun b => withinB s (f b)) k) ∧ Drew w wr) (fun _ i _ => n - (intOf i).toNat)
  case atStart => exact ⟨0, Nat.zero_le _, rfl, rfl, _, rfl⟩
  case round =>
    obtain ⟨k, hk, rfl, rfl, hd⟩ := hrel
    by_cases hlt : k < n
    · have hki : (k : Int) < (n : Int) := by omega
      have ⟨hp1, hp2⟩ := pow_bounds k (by omega)
      have hrr := row_drew HR.out hd
      have hc := hrr k hlt
      clear hrr
      have ho := or_eq_within (f k) s (h64.out k hlt)
      cases hg : (fun b => withinB s (f b)) k with
      | true =>
        have HG := Lib.hid (setOf_yes (fun b => withinB s (f b)) k hg)
        have he : (bits .or .i64 (f k) s == f k) = true := ho.trans hg
        clear hg ho
        go_wp2_with fail
        go_quiet (fail)
        go_wp2_with fail
        go_roundw
        case rel => exact ⟨k + 1, by omega, by go_num, by rw [HG.out], hd.more _⟩
        case measure => simp [intOf]; omega
      | false =>
        have HG := Lib.hid (setOf_no (fun b => withinB s (f b)) k hg)
        have he : (bits .or .i64 (f k) s == f k) = false := ho.trans hg
        clear hg ho
        go_wp2_with fail
        go_quiet (fail)
        go_wp2_with fail
        go_roundw
        case rel => exact ⟨k + 1, by omega, by go_num, by rw [HG.out], hd.more _⟩
        case measure => simp [intOf]; omega
    · have hkn : k = n := by omega
      subst hkn
      go_wp2_with fail
      go_ret
      exact ⟨rfl, hd⟩

set_option maxHeartbeats 800000 in
theorem specBoundsOf_any (a : Option Addr) (n cap : Nat) (f : Nat → Int) (s : Int) (w : World) (hi : Ints w a n f) :
    Calls Tryd.prog 9 #[.slice a n cap, .int .i64 s] w fun e w' => e = .returned (.int .i64 (boundsB n f s)) ∧ Drew w w' := by
  cases hs : setB n f s with
  | true =>
    obtain ⟨b, o, rfl, hlt, hr⟩ := hi.row (worldB_7 (setB_iff.1 hs).1).1
    have e : boundsB n f s = boundsI n f s := by unfold boundsB; rw [if_pos hs]
    rw [e]
    exact specBoundsOf_in b o n cap f s w hs hi hr
  | false =>
    have HF := Lib.hid (show boundsB n f s = -1 by unfold boundsB; rw [if_neg (by rw [hs]; decide)])
    have HN := Lib.hid hi; have HS := Lib.hid hs; clear hi hs
    go_enter Tryd.func9, Tryd.ntmps9
    go_wp2_with fail
    refine (l4Set_val _ n _ f s false _ HS.out HN.out).mono ?_
    rintro e w0 ⟨rfl, m0, rfl⟩
    go_wp2_with fail
    go_ret
    exact ⟨reti HF.out.symm, _, rfl⟩
end Go.Proofs.YtbhdeidnifilfaaDoor
