import Derived.Test.YtadeebhnaapfeaaSpecAtoms
namespace Go.Proofs.Ytadeebhnaapfeaa
open Go.RowKit

theorem eachB_iff (n : Nat) (g : Nat → Nat → Bool) : eachB n g = true ↔ ∀ a, a < n → ∀ c, c < n → a ≠ c → g a c = true := by
  unfold eachB; rw [decide_eq_true_eq]

theorem eachB_no (n : Nat) (g : Nat → Nat → Bool) (a c : Nat) (ha : a < n) (hc : c < n) (hac : a ≠ c) (h : g a c = false) : eachB n g = false := by
  cases e : eachB n g with
  | false => rfl
  | true => rw [(eachB_iff n g).1 e a ha c hc hac] at h; cases h

theorem told_of (n : Nat) (f : Nat → Int) (hw : worldB n f = true) (h : ∀ a, a < n → ∀ c, c < a → (ainI n f a == ainI n f c) = false) : toldB n f = true := by
  unfold toldB; rw [hw, Bool.true_and, eachB_iff]
  intro a ha c hc hac
  rw [bne_iff_ne]
  rcases Nat.lt_or_gt_of_ne hac with hlt | hlt
  · exact fun e => beq_eq_false_iff_ne.1 (h c hc a hlt) e.symm
  · exact beq_eq_false_iff_ne.1 (h a ha c hlt)

theorem told_no (n : Nat) (f : Nat → Int) (a c : Nat) (ha : a < n) (hc : c < a) (h : (ainI n f a == ainI n f c) = true) : toldB n f = false := by
  unfold toldB
  rw [eachB_no n _ a c ha (by omega) (by omega) (by rw [bne_eq_false_iff_eq]; exact beq_iff_eq.1 h), Bool.and_false]

set_option maxHeartbeats 1600000 in
theorem specToldByAtoms_in (b o n cap : Nat) (f : Nat → Int) (hg : worldB n f = true) (w : World) (hi : Ints w (some ⟨b, o, none⟩) n f) (hr : Row w b o n f) :
    Calls Try.prog 25 #[.slice (some ⟨b, o, none⟩) n cap] w fun e w' => e = .returned (.bool (toldB n f)) ∧ Drew w w' := by
  have h7 := (worldB_7 hg).2
  have HG := Lib.hid hg; have HN := Lib.hid hi; have HR := Lib.hid hr; clear hg hi hr
  go_enter Try.func25, Try.ntmps25
  go_wp2_with fail
  refine (specWorldOk_val _ _ _ f true _ HG.out HN.out).mono ?_
  rintro e w0 ⟨rfl, hd0⟩
  go_wp2_with fail
  go_loopw [3] (fun i wr => ∃ k : Nat, k ≤ n ∧ i = .int .i64 k ∧ Hid (∀ a, a < k → ∀ c, c < a → (ainI n f a == ainI n f c) = false) ∧ Drew w wr) (fun i _ => n - (intOf i).toNat)
  case atStart => exact ⟨0, Nat.zero_le _, rfl, fun a ha => absurd ha (Nat.not_lt_zero _), hd0⟩
  case round =>
    clear hd0
    obtain ⟨k, hk, rfl, hall, hd⟩ := hrel
    by_cases hlt : k < n
    · go_wp2_with fail
      go_loopw [4] (fun i wr => ∃ j : Nat, j ≤ k ∧ i = .int .i64 j ∧ Hid (∀ c, c < j → (ainI n f k == ainI n f c) = false) ∧ Drew w wr) (fun i _ => k - (intOf i).toNat)
      case atStart => exact ⟨0, Nat.zero_le _, rfl, fun a ha => absurd ha (Nat.not_lt_zero _), hd⟩
      case round =>
        clear hd
        obtain ⟨j, hj, rfl, hin, hd⟩ := hrel
        by_cases hjk : j < k
        · have hki : (j : Int) < (k : Int) := by omega
          go_wp2_with fail
          refine (specAtomsIn_in b o n cap f k HG.out hlt _ (HN.out.drew hd) (by obtain ⟨m, rfl⟩ := hd; exact HR.out.drewN m)).mono ?_
          rintro e w2 ⟨rfl, hd2⟩
          have hd3 : Drew w w2 := by obtain ⟨m, rfl⟩ := hd2; exact hd.more m
          clear hd hd2
          go_wp2_with fail
          refine (specAtomsIn_in b o n cap f j HG.out (by omega) _ (HN.out.drew hd3) (by obtain ⟨m, rfl⟩ := hd3; exact HR.out.drewN m)).mono ?_
          rintro e w3 ⟨rfl, hd4⟩
          have hd5 : Drew w w3 := by obtain ⟨m, rfl⟩ := hd4; exact hd3.more m
          clear hd3 hd4
          cases hb : ainI n f k == ainI n f j with
          | true =>
            have HF := Lib.hid (told_no n f k j hlt hjk hb)
            go_wp2_with fail
            go_ret
            exact ⟨retb HF.out.symm, hd5⟩
          | false =>
            go_wp2_with fail
            have HB := Lib.hid hb; clear hb
            go_roundw
            case rel => exact ⟨j + 1, by omega, by go_num, fun c hc => by
              by_cases hcj : c = j
              · subst hcj; exact HB.out
              · exact hin c (by omega), hd5⟩
            case measure => simp [intOf]; omega
        · go_wp2_with fail
          go_roundw
          case rel => exact ⟨k + 1, by omega, by go_num, fun a ha c hc => by
            by_cases hak : a = k
            · subst hak; exact hin c (by omega)
            · exact hall a (by omega) c hc, hd⟩
          case measure => simp [intOf]; omega
    · have HF := Lib.hid (told_of n f HG.out (fun a ha c hc => hall a (by omega) c hc))
      go_wp2_with fail
      go_ret
      exact ⟨retb HF.out.symm, hd⟩

theorem specToldByAtoms_any (a : Option Addr) (n cap : Nat) (f : Nat → Int) (w : World) (hi : Ints w a n f) :
    Calls Try.prog 25 #[.slice a n cap] w fun e w' => e = .returned (.bool (toldB n f)) ∧ Drew w w' := by
  cases hg : worldB n f with
  | true =>
    obtain ⟨b, o, rfl, hlt, hr⟩ := hi.row (worldB_7 hg).1
    exact specToldByAtoms_in b o n cap f hg w hi hr
  | false =>
    have hfin : toldB n f = false := by unfold toldB; rw [hg]; rfl
    have HF := Lib.hid hfin; have HG := Lib.hid hg; have HN := Lib.hid hi; clear hfin hg hi
    have hn := HN.out.1.1
    go_enter Try.func25, Try.ntmps25
    go_wp2_with fail
    refine (specWorldOk_val _ _ _ f false _ HG.out HN.out).mono ?_
    rintro e w' ⟨rfl, m0, rfl⟩
    go_wp2_with fail
    go_ret
    exact ⟨retb HF.out.symm, _, rfl⟩

/-- what the model asks of two things -/
def madeS (n : Nat) (f : Nat → Int) (a c : Nat) : Bool := (bits .or .i64 (ainI n f a) (ainI n f c) == ainI n f c) != hasB (f c) a

theorem or_within (x y : Int) (hy : I64 y) : (bits .or .i64 x y == y) = withinB x y := by
  rw [Bool.eq_iff_iff, beq_iff_eq]
  show orI x y = y ↔ _
  rw [orI_comm, or_eq_iff y x hy, within_iff]

theorem within_self (x : Int) : withinB x x = true := (within_iff x x).2 (fun _ _ h => h)

theorem ainI_I64 (n : Nat) (f : Nat → Int) (a : Nat) : I64 (ainI n f a) := andI_I64 _ _

theorem made_eq (n : Nat) (f : Nat → Int) (a c : Nat) : madeS n f a c = !madeC n f a c := by
  unfold madeS madeC
  rw [or_within _ _ (ainI_I64 n f c)]
  cases hasB (f c) a <;> cases withinB (ainI n f a) (ainI n f c) <;> rfl

theorem made_of (n : Nat) (f : Nat → Int) (hw : worldB n f = true) (h : ∀ a, a < n → ∀ c, c < n → madeS n f a c = false) : madeB n f = true := by
  unfold madeB; rw [hw, Bool.true_and, eachB_iff]
  intro a ha c hc hac
  have := h a ha c hc
  rw [made_eq] at this
  simpa using this

theorem made_no (n : Nat) (f : Nat → Int) (h64 : ∀ i, i < n → I64 (f i)) (hw : worldB n f = true) (a c : Nat) (ha : a < n) (hc : c < n) (h : madeS n f a c = true) : madeB n f = false := by
  have h2 : madeC n f a c = false := by rw [made_eq] at h; simpa using h
  have hac : a ≠ c := by
    intro e; subst e
    unfold madeC at h2
    rw [((worldB_iff n f h64).1 hw).self a ha, within_self] at h2
    cases h2
  unfold madeB
  rw [eachB_no n _ a c ha hc hac h2, Bool.and_false]

set_option maxHeartbeats 1600000 in
theorem specMadeOfAtoms_in (b o n cap : Nat) (f : Nat → Int) (hg : worldB n f = true) (w : World) (hi : Ints w (some ⟨b, o, none⟩) n f) (hr : Row w b o n f) :
    Calls Try.prog 28 #[.slice (some ⟨b, o, none⟩) n cap] w fun e w' => e = .returned (.bool (madeB n f)) ∧ Drew w w' := by
  have h7 := (worldB_7 hg).2
  have HPW := Lib.hid (world_of hi hg)
  have HG := Lib.hid hg; have HN := Lib.hid hi; have HR := Lib.hid hr; clear hg hi hr
  go_enter Try.func28, Try.ntmps28
  go_wp2_with fail
  refine (specWorldOk_val _ _ _ f true _ HG.out HN.out).mono ?_
  rintro e w0 ⟨rfl, hd0⟩
  go_wp2_with fail
  go_loopw [3] (fun i wr => ∃ k : Nat, k ≤ n ∧ i = .int .i64 k ∧ Hid (∀ a, a < k → ∀ c, c < n → madeS n f a c = false) ∧ Drew w wr) (fun i _ => n - (intOf i).toNat)
  case atStart => exact ⟨0, Nat.zero_le _, rfl, fun a ha => absurd ha (Nat.not_lt_zero _), hd0⟩
  case round =>
    clear hd0
    obtain ⟨k, hk, rfl, hall, hd⟩ := hrel
    by_cases hlt : k < n
    · go_wp2_with fail
      go_loopw [4] (fun i wr => ∃ j : Nat, j ≤ n ∧ i = .int .i64 j ∧ Hid (∀ c, c < j → madeS n f k c = false) ∧ Drew w wr) (fun i _ => n - (intOf i).toNat)
      case atStart => exact ⟨0, Nat.zero_le _, rfl, fun a ha => absurd ha (Nat.not_lt_zero _), hd⟩
      case round =>
        clear hd
        obtain ⟨j, hj, rfl, hin, hd⟩ := hrel
        by_cases hjn : j < n
        · have hji : (j : Int) < (n : Int) := by omega
          have hrr : Row wr b o n f := by obtain ⟨m, rfl⟩ := hd; exact HR.out.drewN m
          have hc := hrr j hjn
          have hnn := (HPW.out.rng j hjn).1
          have HRR := Lib.hid hrr; have HNN := Lib.hid (HN.out.drew hd); clear hrr
          cases hq : (bits .or .i64 (ainI n f k) (ainI n f j) == ainI n f j) with
          | true =>
            cases hh : hasB (f j) k with
            | true =>
              have hb : madeS n f k j = false := by unfold madeS; rw [hq, hh]; rfl
              have HH := Lib.hid hh; clear hh
              have HB := Lib.hid hb; clear hb
              go_wp2_with fail
              go_quiet (first | (go_at_call 20; exact quiet_drew (specAtomsIn_in b o n cap f _ HG.out (by assumption) _ (HNN.out.drewN _) (HRR.out.drewN _))) | (go_at_call 49; exact quiet_left (l1Has_val _ _ true _ HH.out (by omega) hnn)))
              go_wp2_with fail
              clear hq
              go_roundw
              case rel => exact ⟨j + 1, by omega, by go_num, fun c hc => by
                by_cases hcj : c = j
                · subst hcj; exact HB.out
                · exact hin c (by omega), hd.more _⟩
              case measure => simp [intOf]; omega
            | false =>
              have hb : madeS n f k j = true := by unfold madeS; rw [hq, hh]; rfl
              have HH := Lib.hid hh; clear hh
              have HF := Lib.hid (made_no n f HN.out.i64 HG.out k j hlt hjn hb); clear hb
              go_wp2_with fail
              go_quiet (first | (go_at_call 20; exact quiet_drew (specAtomsIn_in b o n cap f _ HG.out (by assumption) _ (HNN.out.drewN _) (HRR.out.drewN _))) | (go_at_call 49; exact quiet_left (l1Has_val _ _ false _ HH.out (by omega) hnn)))
              go_wp2_with fail
              go_ret
              exact ⟨retb HF.out.symm, hd.more _⟩
          | false =>
            cases hh : hasB (f j) k with
            | true =>
              have hb : madeS n f k j = true := by unfold madeS; rw [hq, hh]; rfl
              have HH := Lib.hid hh; clear hh
              have HF := Lib.hid (made_no n f HN.out.i64 HG.out k j hlt hjn hb); clear hb
              go_wp2_with fail
              go_quiet (first | (go_at_call 20; exact quiet_drew (specAtomsIn_in b o n cap f _ HG.out (by assumption) _ (HNN.out.drewN _) (HRR.out.drewN _))) | (go_at_call 49; exact quiet_left (l1Has_val _ _ true _ HH.out (by omega) hnn)))
              go_wp2_with fail
              go_ret
              exact ⟨retb HF.out.symm, hd.more _⟩
            | false =>
              have hb : madeS n f k j = false := by unfold madeS; rw [hq, hh]; rfl
              have HH := Lib.hid hh; clear hh
              have HB := Lib.hid hb; clear hb
              go_wp2_with fail
              go_quiet (first | (go_at_call 20; exact quiet_drew (specAtomsIn_in b o n cap f _ HG.out (by assumption) _ (HNN.out.drewN _) (HRR.out.drewN _))) | (go_at_call 49; exact quiet_left (l1Has_val _ _ false _ HH.out (by omega) hnn)))
              go_wp2_with fail
              clear hq
              go_roundw
              case rel => exact ⟨j + 1, by omega, by go_num, fun c hc => by
                by_cases hcj : c = j
                · subst hcj; exact HB.out
                · exact hin c (by omega), hd.more _⟩
              case measure => simp [intOf]; omega
        · go_wp2_with fail
          go_roundw
          case rel => exact ⟨k + 1, by omega, by go_num, fun a ha c hc => by
            by_cases hak : a = k
            · subst hak; exact hin c (by omega)
            · exact hall a (by omega) c hc, hd⟩
          case measure => simp [intOf]; omega
    · have HF := Lib.hid (made_of n f HG.out (fun a ha c hc => hall a (by omega) c hc))
      go_wp2_with fail
      go_ret
      exact ⟨retb HF.out.symm, hd⟩

theorem specMadeOfAtoms_any (a : Option Addr) (n cap : Nat) (f : Nat → Int) (w : World) (hi : Ints w a n f) :
    Calls Try.prog 28 #[.slice a n cap] w fun e w' => e = .returned (.bool (madeB n f)) ∧ Drew w w' := by
  cases hg : worldB n f with
  | true =>
    obtain ⟨b, o, rfl, hlt, hr⟩ := hi.row (worldB_7 hg).1
    exact specMadeOfAtoms_in b o n cap f hg w hi hr
  | false =>
    have hfin : madeB n f = false := by unfold madeB; rw [hg]; rfl
    have HF := Lib.hid hfin; have HG := Lib.hid hg; have HN := Lib.hid hi; clear hfin hg hi
    have hn := HN.out.1.1
    go_enter Try.func28, Try.ntmps28
    go_wp2_with fail
    refine (specWorldOk_val _ _ _ f false _ HG.out HN.out).mono ?_
    rintro e w' ⟨rfl, m0, rfl⟩
    go_wp2_with fail
    go_ret
    exact ⟨retb HF.out.symm, _, rfl⟩
end Go.Proofs.Ytadeebhnaapfeaa
