import Derived.Test.YtibjdmmcnhlgnaaPlV
namespace Go.Proofs.Ytibjdmmcnhlgnaa
set_option linter.unusedVariables false
set_option linter.unusedSimpArgs false
open Go.RowKit Go.Maps

theorem specTakenOut_any (a b : Option Addr) (n c m c2 : Nat) (f P Q : Nat → Int) (w : World) (hi : Ints w a n f) (hp : Prs w b m P Q) :
    Calls Try.prog 36 #[.slice a n c, .slice b m c2] w (Gives 3 (tyL n f P Q m) w) := by
  cases hs : syB n f m with
  | false => exact specTakenOut_no a b n c m c2 f P Q hs w hi hp
  | true => exact specTakenOut_in a b n c m c2 f P Q hs w hi hp

theorem bu_at {n : Nat} {f P Q : Nat → Int} {m k : Nat} (hk : k < n) (h : inF (f k) (tyL n f P Q m).length (fun i => (tyL n f P Q m).getD i 0) = false) : buB n f P Q m = false := by
  cases hs : syB n f m with
  | false => exact bu_no hs
  | true =>
    rw [bu_yes hs, decide_eq_false]
    rw [cnt_all]
    intro h2
    rw [h2 k hk] at h; cases h
theorem bu_all {n : Nat} {f P Q : Nat → Int} {m : Nat} (h : ∀ k, k < n → inF (f k) (tyL n f P Q m).length (fun i => (tyL n f P Q m).getD i 0) = true) : buB n f P Q m = syB n f m := by
  cases hs : syB n f m with
  | false => exact bu_no hs
  | true => rw [bu_yes hs, decide_eq_true]; rw [cnt_all]; exact h

set_option maxRecDepth 100000 in
set_option maxHeartbeats 4000000 in
theorem specBuiltAgain_any (a b : Option Addr) (n c m c2 : Nat) (f P Q : Nat → Int) (w : World) (hi : Ints w a n f) (hp : Prs w b m P Q) :
    Calls Try.prog 40 #[.slice a n c, .slice b m c2] w fun e w' => e = .returned (.bool (buB n f P Q m)) ∧ Below w.heap.size w w' := by
  have HI := Lib.hid hi; have HP := Lib.hid hp; have hn := hi.1.1; have hm := hp.1.1
  have hl := ty_len n f P Q m
  have H64 := Lib.hid (ty_64 (n := n) (f := f) (P := P) (Q := Q) (m := m))
  have HAT := Lib.hid (fun k (hk : k < n) h => bu_at (f := f) (P := P) (Q := Q) (m := m) hk h)
  have HALL := Lib.hid (fun h => bu_all (n := n) (f := f) (P := P) (Q := Q) (m := m) h)
  clear hi hp
  go_enter Try.func40, Try.ntmps40
  go_wp2_with fail
  refine (specTakenOut_any a b n c m c2 f P Q _ HI.out HP.out).mono ?_
  rintro e w2 ⟨v, rfl, hown, hb2⟩
  obtain ⟨L, hL⟩ : ∃ L, tyL n f P Q m = L := ⟨_, rfl⟩
  rw [hL] at hown hl H64 HAT HALL
  clear hL
  obtain ⟨ta, tc, rfl, hh⟩ := hown.has (by omega) H64.out
  obtain ⟨G, hG⟩ : ∃ G : Nat → Int, (fun i => L.getD i 0) = G := ⟨_, rfl⟩
  have hj := hh.ints
  rw [hG] at hj HAT HALL
  obtain ⟨len, hlen⟩ : ∃ len, L.length = len := ⟨_, rfl⟩
  rw [hlen] at hj HAT HALL hl ⊢
  have hst : Ints w2 a n f := HI.out.next hb2
  have hB0 := hb2
  clear hown hh hb2 H64 hG hlen HI HP
  go_wp2_with fail
  go_loopw [6, 7, 8] (fun i _ _ wr => ∃ k : Nat, k ≤ n ∧ i = .int .i64 k ∧ Hid (∀ i, i < k → inF (f i) len G = true) ∧ Ints wr a n f ∧ Ints wr ta len G ∧ Hid (Below w.heap.size w wr)) (fun i _ _ _ => n - (intOf i).toNat)
  case atStart => exact ⟨0, Nat.zero_le _, rfl, Lib.hid (fun i hi => absurd hi (Nat.not_lt_zero _)), hst, hj, Lib.hid hB0⟩
  case round =>
    clear hst hj hB0
    obtain ⟨k, hk, rfl, hall, hi, hj, hb⟩ := hrel
    by_cases hlt : k < n
    · have hki : (k : Int) < (n : Int) := by omega
      obtain ⟨b1, o1, rfl, hl1, _⟩ := hi.row (by omega)
      obtain ⟨wo, rfl⟩ : ∃ wo : World, wo = wr := ⟨_, rfl⟩
      obtain ⟨z, hz⟩ : ∃ z, f k = z := ⟨_, rfl⟩
      go_wp2_with fail
      go_loopw [7, 8] (fun fo i wr => ∃ (j : Nat) (v : Bool), j ≤ len ∧ i = .int .i64 j ∧ fo = .bool v ∧ Hid (inF z j G = v) ∧ Hid (Ints wr (some ⟨b1, o1, none⟩) n f) ∧ Hid (Ints wr ta len G) ∧ Hid (Below w.heap.size w wr)) (fun _ i _ => len - (intOf i).toNat)
      case atStart => exact ⟨0, false, Nat.zero_le _, rfl, rfl, Lib.hid (inF_zero _ _), Lib.hid hi, Lib.hid hj, hb⟩
      case round =>
        clear hi hj hb hl1
        obtain ⟨j, v, hjl, rfl, rfl, hv, hi, hj, hb⟩ := hrel
        by_cases hjn : j < len
        · have hji : (j : Int) < (len : Int) := by omega
          cases v with
          | true =>
            have HN := Lib.hid (show inF z (j + 1) G = true by rw [inF_succ, hv.out]; rfl)
            go_wp2_with fail
            go_quiet (fail)
            go_wp2_with fail
            go_roundw
            case rel => exact ⟨j + 1, true, by omega, by go_num, rfl, HN, Lib.hid (hi.out.drewN _), Lib.hid (hj.out.drewN _), Lib.hid (below_drewN hb.out _)⟩
            case measure => simp [intOf]; omega
          | false =>
            obtain ⟨b1', o1', e, _, hr1⟩ := hi.out.row (by omega)
            cases e
            have hc1 := hr1 k hlt
            rw [hz] at hc1
            obtain ⟨b2, o2, rfl, _, hr2⟩ := hj.out.row (by omega)
            have hc2 := hr2 j hjn
            obtain ⟨y, hy⟩ : ∃ y, G j = y := ⟨_, rfl⟩
            rw [hy] at hc2
            cases he : (y == z) with
            | true =>
              have HN := Lib.hid (show inF z (j + 1) G = true by rw [inF_succ, hy, he, Bool.or_true])
              clear hr1 hr2 hy
              go_wp2_with fail
              go_quiet (fail)
              go_wp2_with fail
              go_roundw
              case rel => exact ⟨j + 1, true, by omega, by go_num, rfl, HN, Lib.hid (hi.out.drewN _), Lib.hid (hj.out.drewN _), Lib.hid (below_drewN hb.out _)⟩
              case measure => simp [intOf]; omega
            | false =>
              have HN := Lib.hid (show inF z (j + 1) G = false by rw [inF_succ, hv.out, hy, he]; rfl)
              clear hr1 hr2 hy
              go_wp2_with fail
              go_quiet (fail)
              go_wp2_with fail
              go_roundw
              case rel => exact ⟨j + 1, false, by omega, by go_num, rfl, HN, Lib.hid (hi.out.drewN _), Lib.hid (hj.out.drewN _), Lib.hid (below_drewN hb.out _)⟩
              case measure => simp [intOf]; omega
        · have hji : ¬ (j : Int) < (len : Int) := by omega
          have hjl2 : j = len := by omega
          subst hjl2
          cases v with
          | true =>
            have HN := Lib.hid (show ∀ i, i < k + 1 → inF (f i) j G = true from fun i hi => by
              by_cases e : i = k
              · subst e; rw [hz]; exact hv.out
              · exact hall.out i (by omega))
            have HI := hi; have HJ := hj
            clear hi hj hv hz
            go_wp2_with fail
            go_roundw
            case rel => exact ⟨k + 1, by omega, by go_num, HN, HI.out, HJ.out, hb⟩
            case measure => simp [intOf]; omega
          | false =>
            have HN := Lib.hid (HAT.out k hlt (by rw [hz]; exact hv.out))
            clear hv hz
            go_wp2_with fail
            go_ret
            exact ⟨retb HN.out.symm, hb.out⟩
    · have hki : ¬ (k : Int) < (n : Int) := by omega
      have hkn : k = n := by omega
      subst hkn
      have HN := Lib.hid (HALL.out hall.out)
      have HI := Lib.hid hi
      clear hi hj
      cases hs : shipB k f with
      | false =>
        have HS := Lib.hid hs; clear hs
        go_wp2_with fail
        refine (specShipOk_val _ _ _ _ false HS.out _ HI.out).mono ?_
        rintro e w' ⟨rfl, n1, rfl⟩
        go_wp2_with fail
        go_ret
        exact ⟨retb (by rw [HN.out]; unfold syB; rw [HS.out]; rfl), below_drewN hb.out _⟩
      | true =>
        have HS := Lib.hid hs; clear hs
        go_wp2_with fail
        refine (specShipOk_val _ _ _ _ true HS.out _ HI.out).mono ?_
        rintro e w' ⟨rfl, n1, rfl⟩
        go_wp2_with fail
        go_ret
        refine ⟨retb ?_, below_drewN hb.out _⟩
        rw [HN.out]
        unfold syB
        rw [HS.out, Bool.true_and]
        by_cases h : m ≤ 20
        · rw [decide_eq_true h, decide_eq_true (by omega)]
        · rw [decide_eq_false h, decide_eq_false (by omega)]
end Go.Proofs.Ytibjdmmcnhlgnaa
