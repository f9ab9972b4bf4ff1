import Derived.Test.YtdbmgejjpafhoaaThose
namespace Go.Proofs.Ytdbmgejjpafhoaa
open Go.RowKit

theorem partB_self (n : Nat) (f : Nat → Int) (x : Int) (h64 : ∀ i, i < n → I64 (f i)) : partB n f x x = good1 n f x := by
  rw [Bool.eq_iff_iff, good1_iff]
  unfold partB
  rw [Bool.and_eq_true, good2_iff]
  constructor
  · rintro ⟨⟨h1, h2, _⟩, _⟩; exact ⟨h1, h2⟩
  · rintro ⟨h1, h2, h3⟩
    exact ⟨⟨h1, ⟨h2, h3⟩, h2, h3⟩, ((worldB_iff n f h64).1 h1).self x.toNat (by omega)⟩

set_option maxHeartbeats 1600000 in
theorem specWholesOf_any (a : Option Addr) (n cap : Nat) (f : Nat → Int) (x : Int) (w : World) (hi : Ints w a n f) :
    Calls Try.prog 33 #[.slice a n cap, .int .i64 x] w fun e w' => e = .returned (.int .i64 (wholesB n f x)) ∧ Drew w w' := by
  cases hg : good1 n f x with
  | true =>
    obtain ⟨hwb, hx0, hx1⟩ := (good1_iff n f x).1 hg
    obtain ⟨h1, h7⟩ := worldB_7 hwb
    have hP := Lib.hid (world_of hi hwb)
    have hfin : wholesB n f x = wholesI n f x.toNat := by unfold wholesB; rw [if_pos hg]
    have hpp : partB n f x x = true := by rw [partB_self n f x hi.i64]; exact hg
    obtain ⟨X, rfl⟩ := Int.eq_ofNat_of_zero_le hx0
    obtain ⟨b, o, rfl, hlt, hr⟩ := hi.row h1
    have HF := Lib.hid hfin; have HG := Lib.hid hg; have HP := Lib.hid hpp; have HN := Lib.hid hi; clear hfin hg hwb hx0 hpp hi
    go_enter Try.func33, Try.ntmps33
    go_wp2_with fail
    refine (specPartOk_val _ _ _ f _ _ true _ HP.out HN.out).mono ?_
    rintro e w' ⟨rfl, m0, rfl⟩
    replace hr := hr.drewN m0
    go_wp2_with fail
    go_loopw [5, 6] (fun v i wr => ∃ k : Nat, k ≤ n ∧ i = .int .i64 k ∧ v = .int .i64 (setOf (fun b => hasB (f b) X) k) ∧ Row wr b o n f ∧ Drew w wr) (fun _ i _ => n - (intOf i).toNat)
    case atStart => exact ⟨0, Nat.zero_le _, rfl, rfl, hr, _, rfl⟩
    case round =>
      obtain ⟨k, hk, rfl, rfl, hrk, hd⟩ := hrel
      by_cases hlt2 : k < n
      · have hc := hrk k hlt2
        have hnn := (hP.out.rng k hlt2).1
        have hX63 : X ≤ 63 := by omega
        have ⟨hp1, hp2⟩ := pow_bounds k (by omega)
        cases hb : hasB (f k) X with
        | true =>
          have HS := Lib.hid (setOf_yes (fun b => hasB (f b) X) k hb); have HB := Lib.hid hb; clear hb
          go_wp2_with fail
          refine (l1Has_val _ _ true _ HB.out hX63 hnn).mono ?_
          rintro e w' ⟨rfl, rfl⟩
          go_wp2_with fail
          go_roundw
          case rel => exact ⟨k + 1, by omega, by go_num, by rw [HS.out], hrk, hd⟩
          case measure => simp [intOf]; omega
        | false =>
          have HS := Lib.hid (setOf_no (fun b => hasB (f b) X) k hb); have HB := Lib.hid hb; clear hb
          go_wp2_with fail
          refine (l1Has_val _ _ false _ HB.out hX63 hnn).mono ?_
          rintro e w' ⟨rfl, rfl⟩
          go_wp2_with fail
          go_roundw
          case rel => exact ⟨k + 1, by omega, by go_num, by rw [HS.out], hrk, hd⟩
          case measure => simp [intOf]; omega
      · have hkn : k = n := by omega
        subst hkn
        go_wp2_with fail
        go_ret
        exact ⟨reti HF.out.symm, hd⟩
  | false =>
    have hfin : wholesB n f x = -1 := by unfold wholesB; rw [if_neg (by rw [hg]; decide)]
    have hpp : partB n f x x = false := by rw [partB_self n f x hi.i64]; exact hg
    have HF := Lib.hid hfin; have HP := Lib.hid hpp; have HN := Lib.hid hi; clear hfin hg hpp hi
    have hn := HN.out.1.1
    go_enter Try.func33, Try.ntmps33
    go_wp2_with fail
    refine (specPartOk_val _ _ _ f _ _ false _ HP.out HN.out).mono ?_
    rintro e w' ⟨rfl, m0, rfl⟩
    go_wp2_with fail
    go_ret
    exact ⟨reti HF.out.symm, _, rfl⟩

set_option maxHeartbeats 1600000 in
theorem specMeetingSet_any (a : Option Addr) (n cap : Nat) (f : Nat → Int) (x : Int) (w : World) (hi : Ints w a n f) :
    Calls Try.prog 36 #[.slice a n cap, .int .i64 x] w fun e w' => e = .returned (.int .i64 (meetB n f x)) ∧ Drew w w' := by
  cases hg : good1 n f x with
  | true =>
    obtain ⟨hwb, hx0, hx1⟩ := (good1_iff n f x).1 hg
    obtain ⟨h1, h7⟩ := worldB_7 hwb
    have hfin : meetB n f x = meetI n f x.toNat := by unfold meetB; rw [if_pos hg]
    have hpp : partB n f x x = true := by rw [partB_self n f x hi.i64]; exact hg
    obtain ⟨X, rfl⟩ := Int.eq_ofNat_of_zero_le hx0
    obtain ⟨b, o, rfl, hlt, hr⟩ := hi.row h1
    have hXn : (X : Int) < (n : Int) := by omega
    have HF := Lib.hid hfin; have HG := Lib.hid hg; have HP := Lib.hid hpp; have HN := Lib.hid hi; clear hfin hg hwb hx0 hpp hi
    go_enter Try.func36, Try.ntmps36
    go_wp2_with fail
    refine (specPartOk_val _ _ _ f _ _ true _ HP.out HN.out).mono ?_
    rintro e w' ⟨rfl, m0, rfl⟩
    replace hr := hr.drewN m0
    go_wp2_with fail
    go_loopw [5, 6] (fun v i wr => ∃ k : Nat, k ≤ n ∧ i = .int .i64 k ∧ v = .int .i64 (setOf (fun b => andI (f X) (f b) != 0) k) ∧ Row wr b o n f ∧ Drew w wr) (fun _ i _ => n - (intOf i).toNat)
    case atStart => exact ⟨0, Nat.zero_le _, rfl, rfl, hr, _, rfl⟩
    case round =>
      obtain ⟨k, hk, rfl, rfl, hrk, hd⟩ := hrel
      by_cases hlt2 : k < n
      · have hc := hrk k hlt2
        have hcx := hrk X (by omega)
        have hkn : (k : Int) < (n : Int) := by omega
        have ⟨hp1, hp2⟩ := pow_bounds k (by omega)
        cases hb : andI (f X) (f k) != 0 with
        | true =>
          have HS := Lib.hid (setOf_yes (fun b => andI (f X) (f b) != 0) k hb)
          have hbb : (bits .and .i64 (f X) (f k) != 0) = true := hb
          clear hb
          go_wp2_with fail
          go_quiet (fail)
          go_wp2_with fail
          go_roundw
          case rel => exact ⟨k + 1, by omega, by go_num, by rw [HS.out], hrk.drewN _, hd.more _⟩
          case measure => simp [intOf]; omega
        | false =>
          have HS := Lib.hid (setOf_no (fun b => andI (f X) (f b) != 0) k hb)
          have hbb : (bits .and .i64 (f X) (f k) != 0) = false := hb
          clear hb
          go_wp2_with fail
          go_quiet (fail)
          go_wp2_with fail
          go_roundw
          case rel => exact ⟨k + 1, by omega, by go_num, by rw [HS.out], hrk.drewN _, hd.more _⟩
          case measure => simp [intOf]; omega
      · have hkn : k = n := by omega
        subst hkn
        go_wp2_with fail
        go_ret
        exact ⟨reti HF.out.symm, hd⟩
  | false =>
    have hfin : meetB n f x = -1 := by unfold meetB; rw [if_neg (by rw [hg]; decide)]
    have hpp : partB n f x x = false := by rw [partB_self n f x hi.i64]; exact hg
    have HF := Lib.hid hfin; have HP := Lib.hid hpp; have HN := Lib.hid hi; clear hfin hg hpp hi
    have hn := HN.out.1.1
    go_enter Try.func36, Try.ntmps36
    go_wp2_with fail
    refine (specPartOk_val _ _ _ f _ _ false _ HP.out HN.out).mono ?_
    rintro e w' ⟨rfl, m0, rfl⟩
    go_wp2_with fail
    go_ret
    exact ⟨reti HF.out.symm, _, rfl⟩
end Go.Proofs.Ytdbmgejjpafhoaa
