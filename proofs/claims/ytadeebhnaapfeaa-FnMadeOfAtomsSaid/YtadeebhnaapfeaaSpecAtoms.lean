import Derived.Test.YtadeebhnaapfeaaAtomsE
import Derived.Test.YtadeebhnaapfeaaSpecWholes
namespace Go.Proofs.Ytadeebhnaapfeaa
open Go.RowKit

theorem specAtomsOf_in (b o n cap : Nat) (f : Nat → Int) (hg : worldB n f = true) (w : World) (hi : Ints w (some ⟨b, o, none⟩) n f) (hr : Row w b o n f) :
    Calls Try.prog 13 #[.slice (some ⟨b, o, none⟩) n cap] w fun e w' => e = .returned (.int .i64 (atomsI n f)) ∧ Drew w w' := by
  have h7 := (worldB_7 hg).2
  have HG := Lib.hid hg; have HN := Lib.hid hi; clear hg hi
  go_enter Try.func13, Try.ntmps13
  go_wp2_with fail
  refine (specWorldOk_val _ _ _ f true _ HG.out HN.out).mono ?_
  rintro e w' ⟨rfl, m0, rfl⟩
  replace hr := hr.drewN m0
  go_wp2_with fail
  go_loopw [3, 4] (fun v i wr => ∃ k : Nat, k ≤ n ∧ i = .int .i64 k ∧ v = .int .i64 (setOf (atomB f) k) ∧ Row wr b o n f ∧ Drew w wr) (fun _ i _ => n - (intOf i).toNat)
  case atStart => exact ⟨0, Nat.zero_le _, rfl, rfl, hr, _, rfl⟩
  case round =>
    obtain ⟨k, hk, rfl, rfl, hrk, hd⟩ := hrel
    by_cases hlt2 : k < n
    · have hc := hrk k hlt2
      have hkn : (k : Int) < (n : Int) := by omega
      have ⟨hp1, hp2⟩ := pow_bounds k (by omega)
      cases hb : atomB f k with
      | true =>
        have HS := Lib.hid (setOf_yes (atomB f) k hb)
        have hbb : (f k == 2 ^ k) = true := hb
        clear hb
        go_wp2_with fail
        go_quiet (fail)
        go_wp2_with fail
        go_roundw
        case rel => exact ⟨k + 1, by omega, by go_num, by rw [HS.out], hrk.drewN _, hd.more _⟩
        case measure => simp [intOf]; omega
      | false =>
        have HS := Lib.hid (setOf_no (atomB f) k hb)
        have hbb : (f k == 2 ^ k) = false := hb
        clear hb
        go_wp2_with fail
        go_quiet (fail)
        go_wp2_with fail
        go_roundw
        case rel => exact ⟨k + 1, by omega, by go_num, by rw [HS.out], hrk.drewN _, hd.more _⟩
        case measure => simp [intOf]; omega
    · have hkn : k = n := by omega
      subst hkn
      go_wp2_with fail
      go_ret
      exact ⟨rfl, hd⟩

theorem specAtomsOf_any (a : Option Addr) (n cap : Nat) (f : Nat → Int) (w : World) (hi : Ints w a n f) :
    Calls Try.prog 13 #[.slice a n cap] w fun e w' => e = .returned (.int .i64 (atomsB n f)) ∧ Drew w w' := by
  cases hg : worldB n f with
  | true =>
    obtain ⟨b, o, rfl, hlt, hr⟩ := hi.row (worldB_7 hg).1
    rw [show atomsB n f = atomsI n f by unfold atomsB; rw [if_pos hg]]
    exact specAtomsOf_in b o n cap f hg w hi hr
  | false =>
    have hfin : atomsB n f = -1 := by unfold atomsB; rw [if_neg (by rw [hg]; decide)]
    have HF := Lib.hid hfin; have HG := Lib.hid hg; have HN := Lib.hid hi; clear hfin hg hi
    have hn := HN.out.1.1
    go_enter Try.func13, Try.ntmps13
    go_wp2_with fail
    refine (specWorldOk_val _ _ _ f false _ HG.out HN.out).mono ?_
    rintro e w' ⟨rfl, m0, rfl⟩
    go_wp2_with fail
    go_ret
    exact ⟨reti HF.out.symm, _, rfl⟩

theorem andI_comm (x y : Int) : andI x y = andI y x :=
  ext64 _ _ (andI_I64 _ _) (andI_I64 _ _) (fun i hi => by rw [and_bit _ _ _ hi, and_bit _ _ _ hi, Bool.and_comm])
theorem orI_comm (x y : Int) : orI x y = orI y x :=
  ext64 _ _ (orI_I64 _ _) (orI_I64 _ _) (fun i hi => by rw [or_bit _ _ _ hi, or_bit _ _ _ hi, Bool.or_comm])

theorem specAtomsIn_in (b o n cap : Nat) (f : Nat → Int) (x : Nat) (hg : worldB n f = true) (hx : x < n) (w : World) (hi : Ints w (some ⟨b, o, none⟩) n f) (hr : Row w b o n f) :
    Calls Try.prog 20 #[.slice (some ⟨b, o, none⟩) n cap, .int .i64 x] w fun e w' => e = .returned (.int .i64 (ainI n f x)) ∧ Drew w w' := by
  have hpp : partB n f x x = true := by rw [partB_self n f x hi.i64]; exact (good1_iff n f x).2 ⟨hg, by omega, by omega⟩
  have hfin : ainI n f x = bits .and .i64 (atomsI n f) (f x) := andI_comm _ _
  have hxi : (x : Int) < (n : Int) := by omega
  have HF := Lib.hid hfin; have HG := Lib.hid hg; have HN := Lib.hid hi; have HP := Lib.hid hpp; clear hg hi hpp hfin
  go_enter Try.func20, Try.ntmps20
  go_wp2_with fail
  refine (specPartOk_val _ _ _ f _ _ true _ HP.out HN.out).mono ?_
  rintro e w1 ⟨rfl, hd1⟩
  have hr2 : Row w1 b o n f := by obtain ⟨m, rfl⟩ := hd1; exact hr.drewN m
  have hc := hr2 x hx
  have HN2 := Lib.hid (HN.out.drew hd1); have HR2 := Lib.hid hr2; clear hr2
  go_wp2_with fail
  go_quiet ((go_at_call 13; exact quiet_drew (specAtomsOf_in b o n cap f HG.out _ (HN2.out.drewN _) (HR2.out.drewN _))))
  go_wp2_with fail
  go_ret
  obtain ⟨m, rfl⟩ := hd1
  exact ⟨reti HF.out.symm, by rw [World.drewN_drewN]; exact ⟨_, rfl⟩⟩

theorem specAtomsIn_any (a : Option Addr) (n cap : Nat) (f : Nat → Int) (x : Int) (w : World) (hi : Ints w a n f) :
    Calls Try.prog 20 #[.slice a n cap, .int .i64 x] w fun e w' => e = .returned (.int .i64 (ainB n f x)) ∧ Drew w w' := by
  cases hg : good1 n f x with
  | true =>
    obtain ⟨hwb, hx0, hx1⟩ := (good1_iff n f x).1 hg
    obtain ⟨b, o, rfl, hlt, hr⟩ := hi.row (worldB_7 hwb).1
    rw [show ainB n f x = ainI n f x.toNat by unfold ainB; rw [if_pos hg]]
    obtain ⟨X, rfl⟩ := Int.eq_ofNat_of_zero_le hx0
    exact specAtomsIn_in b o n cap f X hwb (by omega) w hi hr
  | false =>
    have hfin : ainB n f x = -1 := by unfold ainB; rw [if_neg (by rw [hg]; decide)]
    have hpp : partB n f x x = false := by rw [partB_self n f x hi.i64]; exact hg
    have HF := Lib.hid hfin; have HP := Lib.hid hpp; have HN := Lib.hid hi; clear hfin hg hpp hi
    have hn := HN.out.1.1
    go_enter Try.func20, Try.ntmps20
    go_wp2_with fail
    refine (specPartOk_val _ _ _ f _ _ false _ HP.out HN.out).mono ?_
    rintro e w' ⟨rfl, m0, rfl⟩
    go_wp2_with fail
    go_ret
    exact ⟨reti HF.out.symm, _, rfl⟩
end Go.Proofs.Ytadeebhnaapfeaa
