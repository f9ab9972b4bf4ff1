import Derived.Test.YtidcfcjmjgcfkaaDoorWith
namespace Go.Proofs.YtidcfcjmjgcfkaaDoor
open Go.RowKit

theorem quiet_drew {P : Program} {f : FuncId} {args : Array Value} {w : World} {n : Nat} {v : Value}
    (h : Calls P f args (w.drewN n) fun e w' => e = .returned v ∧ Drew (w.drewN n) w') : Calls P f args (w.drewN n) fun e w'' => e = .returned v ∧ ∃ m, w'' = w.drewN m :=
  h.mono fun _ _ ⟨he, m, hm⟩ => ⟨he, n + m, by rw [hm, World.drewN_drewN]⟩

theorem Ints.drewN {w : World} {n : Nat} {a : Option Addr} {f : Nat → Int} (h : Ints w a n f) (m : Nat) : Ints (w.drewN m) a n f := h.below (below_drewN (Below.refl _ _) m) (Nat.le_refl _)

theorem specWorldOk_val (a : Option Addr) (n cap : Nat) (f : Nat → Int) (v : Bool) (w : World) (hv : worldB n f = v) (hi : Ints w a n f) :
    Calls Tryd.prog 23 #[.slice a n cap] w fun e w' => e = .returned (.bool v) ∧ Drew w w' := by
  subst hv; exact specWorldOk_any a n cap f w hi

theorem l1In_val (x l h : Int) (v : Bool) (w : World) (hv : inB l x h = v) :
    Calls Tryd.prog 41 #[.int .i64 x, .int .i64 l, .int .i64 h] w fun e w' => e = .returned (.bool v) ∧ w = w' := by
  subst hv; exact l1In_any x l h w

theorem inB_true {l x h : Int} (h1 : l ≤ x) (h2 : x ≤ h) : inB l x h = true := by
  unfold inB; rw [decide_eq_true h1, decide_eq_true h2]; rfl
theorem inB_false {l x h : Int} (h1 : ¬ (l ≤ x ∧ x ≤ h)) : inB l x h = false := by
  unfold inB
  by_cases h : l ≤ x
  · rw [decide_eq_false (fun h2 => h1 ⟨h, h2⟩)]; simp
  · rw [decide_eq_false h]; rfl

/-- a world's slice is a row -/
theorem Ints.row {w : World} {n : Nat} {a : Option Addr} {f : Nat → Int} (h : Ints w a n f) (h1 : 1 ≤ n) : ∃ b o, a = some ⟨b, o, none⟩ ∧ b < w.heap.size ∧ Row w b o n f := by
  obtain ⟨_, h | h⟩ := h
  · omega
  · exact h

theorem Ints.i64 {w : World} {n : Nat} {a : Option Addr} {f : Nat → Int} (h : Ints w a n f) : ∀ i, i < n → I64 (f i) := h.1.2

theorem world_of {w : World} {n : Nat} {a : Option Addr} {f : Nat → Int} (h : Ints w a n f) (hw : worldB n f = true) : WorldP n f := (worldB_iff n f h.i64).1 hw

theorem partB_no {n : Nat} {f : Nat → Int} {x y : Int} (h : ¬ (worldB n f = true ∧ (0 ≤ x ∧ x < n) ∧ 0 ≤ y ∧ y < n)) : good2 n f x y = false := by
  cases hg : good2 n f x y with
  | false => rfl
  | true => exact absurd ((good2_iff n f x y).1 hg) h

set_option maxHeartbeats 1600000 in
theorem specPartOk_any (a : Option Addr) (n cap : Nat) (f : Nat → Int) (x y : Int) (w : World) (hi : Ints w a n f) :
    Calls Tryd.prog 31 #[.slice a n cap, .int .i64 x, .int .i64 y] w fun e w' => e = .returned (.bool (partB n f x y)) ∧ Drew w w' := by
  by_cases hw : worldB n f = true
  · obtain ⟨h1, h7⟩ := worldB_7 hw
    have hP := Lib.hid (world_of hi hw)
    have HW := Lib.hid hw; have HN := Lib.hid hi
    by_cases hx : 0 ≤ x ∧ x ≤ (n : Int) - 1
    · obtain ⟨hx0, hx1⟩ := hx
      have HI := Lib.hid (inB_true hx0 hx1)
      by_cases hy : 0 ≤ y ∧ y ≤ (n : Int) - 1
      · obtain ⟨hy0, hy1⟩ := hy
        have HJ := Lib.hid (inB_true hy0 hy1)
        obtain ⟨X, rfl⟩ := Int.eq_ofNat_of_zero_le hx0
        obtain ⟨Y, rfl⟩ := Int.eq_ofNat_of_zero_le hy0
        have hfin : partB n f X Y = hasB (f Y) X := by
          unfold partB; rw [(good2_iff n f X Y).2 ⟨hw, ⟨hx0, by omega⟩, hy0, by omega⟩]; rfl
        obtain ⟨b, o, rfl, hlt, hr⟩ := hi.row h1
        have hc := hr Y (by omega)
        have hnn := (hP.out.rng Y (by omega)).1
        have hX63 : X ≤ 63 := by omega
        have HF := Lib.hid hfin; clear hfin hi hw hx0 hy0
        go_enter Tryd.func31, Tryd.ntmps31
        go_wp2_with fail
        refine (specWorldOk_val _ _ _ f true _ HW.out HN.out).mono ?_
        rintro e w' ⟨rfl, m, rfl⟩
        go_wp2_with fail
        refine (l1In_val _ _ _ true _ HI.out).mono ?_
        rintro e w' ⟨rfl, rfl⟩
        go_wp2_with fail
        refine (l1In_val _ _ _ true _ HJ.out).mono ?_
        rintro e w' ⟨rfl, rfl⟩
        go_wp2_with fail
        refine (l1Has_any _ _ hX63 hnn _).mono ?_
        rintro e w' ⟨rfl, rfl⟩
        go_wp2_with fail
        go_ret
        exact ⟨retb HF.out.symm, _, rfl⟩
      · have hfin : partB n f x y = false := by unfold partB; rw [partB_no (fun h => hy (by omega))]; rfl
        have HJ := Lib.hid (inB_false hy)
        have HF := Lib.hid hfin; clear hfin hi hw hy
        go_enter Tryd.func31, Tryd.ntmps31
        go_wp2_with fail
        refine (specWorldOk_val _ _ _ f true _ HW.out HN.out).mono ?_
        rintro e w' ⟨rfl, m, rfl⟩
        go_wp2_with fail
        refine (l1In_val _ _ _ true _ HI.out).mono ?_
        rintro e w' ⟨rfl, rfl⟩
        go_wp2_with fail
        refine (l1In_val _ _ _ false _ HJ.out).mono ?_
        rintro e w' ⟨rfl, rfl⟩
        go_wp2_with fail
        go_ret
        exact ⟨retb HF.out.symm, _, rfl⟩
    · have hfin : partB n f x y = false := by unfold partB; rw [partB_no (fun h => hx (by omega))]; rfl
      have HI := Lib.hid (inB_false hx)
      have HF := Lib.hid hfin; clear hfin hi hw hx
      go_enter Tryd.func31, Tryd.ntmps31
      go_wp2_with fail
      refine (specWorldOk_val _ _ _ f true _ HW.out HN.out).mono ?_
      rintro e w' ⟨rfl, m, rfl⟩
      go_wp2_with fail
      refine (l1In_val _ _ _ false _ HI.out).mono ?_
      rintro e w' ⟨rfl, rfl⟩
      go_wp2_with fail
      go_ret
      exact ⟨retb HF.out.symm, _, rfl⟩
  · have hw' : worldB n f = false := by simpa using hw
    have hfin : partB n f x y = false := by unfold partB good2; rw [hw']; rfl
    have HF := Lib.hid hfin; have HW := Lib.hid hw'; have HN := Lib.hid hi; clear hfin hw hw' hi
    have hn := HN.out.1.1
    go_enter Tryd.func31, Tryd.ntmps31
    go_wp2_with fail
    refine (specWorldOk_val _ _ _ f false _ HW.out HN.out).mono ?_
    rintro e w' ⟨rfl, m, rfl⟩
    go_wp2_with fail
    go_ret
    exact ⟨retb HF.out.symm, _, rfl⟩

theorem specPartOk_val (a : Option Addr) (n cap : Nat) (f : Nat → Int) (x y : Int) (v : Bool) (w : World) (hv : partB n f x y = v) (hi : Ints w a n f) :
    Calls Tryd.prog 31 #[.slice a n cap, .int .i64 x, .int .i64 y] w fun e w' => e = .returned (.bool v) ∧ Drew w w' := by
  subst hv; exact specPartOk_any a n cap f x y w hi

end Go.Proofs.YtidcfcjmjgcfkaaDoor
