import Derived.Test.YtibjdmmcnhlgnaaPlH
namespace Go.Proofs.Ytibjdmmcnhlgnaa
set_option linter.unusedVariables false
set_option linter.unusedSimpArgs false
open Go.RowKit Go.Maps

theorem ship_no {n : Nat} {f : Nat → Int} (h : shipK n f = false) : shipB n f = false := by unfold shipB; rw [h, Bool.and_false]
theorem shipK_first {n k : Nat} {f : Nat → Int} (hk : k < n) (h : ¬ (pkB (f k) = true ∧ inF (f k) k f = false)) : shipK n f = false := by
  cases e : shipK n f with
  | true => exact absurd (shipK_at e hk) h
  | false => rfl
theorem inB_pk {x : Int} : inB 0 x 99 = pkB x := rfl
theorem inB_len {n : Nat} {f : Nat → Int} (h : shipK n f = true) : inB 1 n 6 = shipB n f := by
  unfold shipB inB
  rw [h, Bool.and_true]
  congr 1
  · rw [decide_eq_decide]; omega
  · rw [decide_eq_decide]; omega

set_option maxRecDepth 100000 in
set_option maxHeartbeats 3200000 in
theorem specShipOk_row (bk off n cap : Nat) (f : Nat → Int) (hn : n ≤ 9223372036854775807) (w : World) (hr : Row w bk off n f) :
    Calls Try.prog 19 #[.slice (some ⟨bk, off, none⟩) n cap] w fun e w' => e = .returned (.bool (shipB n f)) ∧ Drew w w' := by
  go_enter Try.func19, Try.ntmps19
  go_wp2_with fail
  go_loopw [3] (fun i wr => ∃ k : Nat, k ≤ n ∧ i = .int .i64 k ∧ Row wr bk off n f ∧ Drew w wr ∧ Hid (shipK k f = true)) (fun i _ => n - (intOf i).toNat)
  case atStart => exact ⟨0, Nat.zero_le _, rfl, hr, Drew.refl w, Lib.hid rfl⟩
  case round =>
    clear hr
    obtain ⟨k, hk, rfl, hrow, hdr, hall⟩ := hrel
    by_cases hlt : k < n
    · have hki : (k : Int) < (n : Int) := by omega
      have hc := hrow k hlt
      cases hp : pkB (f k) with
      | false =>
        have HF := Lib.hid (ship_no (shipK_first hlt (fun h => by rw [hp] at h; cases h.1)))
        have HP := Lib.hid hp; clear hp
        go_wp2_with fail
        refine (l1In_val _ _ _ false _ (inB_pk.trans HP.out)).mono ?_
        rintro e w' ⟨rfl, rfl⟩
        go_wp2_with fail
        go_ret
        exact ⟨retb HF.out.symm, hdr⟩
      | true =>
        have HP := Lib.hid hp; clear hp
        go_wp2_with fail
        refine (l1In_val _ _ _ true _ (inB_pk.trans HP.out)).mono ?_
        rintro e w' ⟨rfl, rfl⟩
        obtain ⟨wo, rfl⟩ : ∃ wo : World, wo = wr := ⟨_, rfl⟩
        go_wp2_with fail
        clear hc
        go_loopw [4] (fun i wr => ∃ j : Nat, j ≤ k ∧ i = .int .i64 j ∧ Row wr bk off n f ∧ Drew w wr ∧ Hid (inF (f k) j f = false)) (fun i _ => k - (intOf i).toNat)
        case atStart => exact ⟨0, Nat.zero_le _, rfl, hrow, hdr, Lib.hid (inF_zero _ _)⟩
        case round =>
          clear hrow hdr
          obtain ⟨j, hj, rfl, hrow, hdr, hin⟩ := hrel
          by_cases hjk : j < k
          · have hji : (j : Int) < (k : Int) := by omega
            have hjn : (j : Int) < (n : Int) := by omega
            have hcj := hrow j (by omega)
            have hck := hrow k hlt
            cases he : (f j == f k) with
            | true =>
              have HF := Lib.hid (ship_no (shipK_first hlt (fun h => inF_no.1 h.2 j hjk (by simpa using he))))
              go_wp2_with fail
              go_quiet (fail)
              go_wp2_with fail
              go_ret
              exact ⟨retb HF.out.symm, hdr.more _⟩
            | false =>
              have HN := Lib.hid (show inF (f k) (j + 1) f = false by rw [inF_succ, hin.out, he]; rfl)
              go_wp2_with fail
              go_quiet (fail)
              go_wp2_with fail
              go_roundw
              case rel => exact ⟨j + 1, by omega, by go_num, hrow.drewN _, hdr.more _, HN⟩
              case measure => simp [intOf]; omega
          · have hji : ¬ (j : Int) < (k : Int) := by omega
            have hjk2 : j = k := by omega
            subst hjk2
            have HN := Lib.hid (show shipK (j + 1) f = true by rw [shipK_succ, hall.out, HP.out, hin.out]; rfl)
            go_wp2_with fail
            go_roundw
            case rel => exact ⟨j + 1, by omega, by go_num, hrow, hdr, HN⟩
            case measure => simp [intOf]; omega
    · have hki : ¬ (k : Int) < (n : Int) := by omega
      have hkn : k = n := by omega
      subst hkn
      go_wp2_with fail
      refine (l1In_val _ _ _ _ _ (inB_len hall.out)).mono ?_
      rintro e w' ⟨rfl, rfl⟩
      go_wp2_with fail
      go_ret
      exact ⟨rfl, hdr⟩
set_option maxRecDepth 100000 in
set_option maxHeartbeats 3200000 in
theorem specShipOk_nil (a : Option Addr) (cap : Nat) (f : Nat → Int) (w : World) :
    Calls Try.prog 19 #[.slice a 0 cap] w fun e w' => e = .returned (.bool (shipB 0 f)) ∧ Drew w w' := by
  have HS := Lib.hid (ship_few (n := 0) (f := f) (by omega))
  rw [HS.out]
  go_enter Try.func19, Try.ntmps19
  go_wp2_with fail
  go_loopw [3] (fun i wr => i = .int .i64 0 ∧ w = wr) (fun _ _ => 0)
  case atStart => exact ⟨rfl, rfl⟩
  case round =>
    obtain ⟨rfl, rfl⟩ := hrel
    go_wp2_with fail
    refine (l1In_val _ _ _ false _ rfl).mono ?_
    rintro e w' ⟨rfl, rfl⟩
    go_wp2_with fail
    go_ret
    exact ⟨rfl, Drew.refl _⟩
theorem specShipOk_any (a : Option Addr) (n cap : Nat) (f : Nat → Int) (w : World) (hi : Ints w a n f) :
    Calls Try.prog 19 #[.slice a n cap] w fun e w' => e = .returned (.bool (shipB n f)) ∧ Drew w w' := by
  obtain ⟨⟨h1, _⟩, rfl | ⟨b, o, rfl, _, hr⟩⟩ := hi
  · exact specShipOk_nil a cap f w
  · exact specShipOk_row b o n cap f h1 w hr
theorem specShipOk_val (a : Option Addr) (n cap : Nat) (f : Nat → Int) (v : Bool) (hv : shipB n f = v) (w : World) (hi : Ints w a n f) :
    Calls Try.prog 19 #[.slice a n cap] w fun e w' => e = .returned (.bool v) ∧ Drew w w' := by subst hv; exact specShipOk_any a n cap f w hi

theorem one_more {n m i j : Nat} {f g : Nat → Int} (hg : shipB m g = true) (hj : j < m) :
    cntF i f m g + (if inF (f i) (j + 1) g then 1 else 0) = (cntF i f m g + (if inF (f i) j g then 1 else 0)) + (if f i == g j then 1 else 0) := by
  rw [inF_succ]
  cases h : inF (f i) j g with
  | false =>
    by_cases e : f i = g j
    · rw [e]; simp
    · have h1 : (f i == g j) = false := by simpa using e
      have h2 : (g j == f i) = false := by simpa using Ne.symm e
      rw [h1, h2]; simp
  | true =>
    obtain ⟨q, hq, e⟩ := inF_iff.1 h
    have h1 : (f i == g j) = false := by
      rw [beq_eq_false_iff_ne]
      intro e2
      rw [← e] at e2
      exact ship_lt hg hq hj e2
    rw [h1]; simp

set_option maxRecDepth 100000 in
set_option maxHeartbeats 3200000 in
theorem specCommonIn_ships (b1 o1 n c b2 o2 m c2 : Nat) (f g : Nat → Int) (hf : shipB n f = true) (hg : shipB m g = true) (w : World) (hi : Ints w (some ⟨b1, o1, none⟩) n f) (hj : Ints w (some ⟨b2, o2, none⟩) m g) (h1 : Row w b1 o1 n f) (h2 : Row w b2 o2 m g) :
    Calls Try.prog 23 #[.slice (some ⟨b1, o1, none⟩) n c, .slice (some ⟨b2, o2, none⟩) m c2] w fun e w' => e = .returned (.int .i64 (cmI n f m g)) ∧ Drew w w' := by
  have HF := Lib.hid hf; have HG := Lib.hid hg; have HI := Lib.hid hi; have HJ := Lib.hid hj
  have hn6 := (shipB_iff.1 hf).2.1; have hm6 := (shipB_iff.1 hg).2.1
  rw [cmI_yes hf hg]
  clear hf hg hi hj
  go_enter Try.func23, Try.ntmps23
  go_wp2_with fail
  refine (specShipOk_val _ _ _ _ true HF.out _ HI.out).mono ?_
  rintro e w1 ⟨rfl, n1, rfl⟩
  go_wp2_with fail
  refine (specShipOk_val _ _ _ _ true HG.out _ (HJ.out.drewN _)).mono ?_
  rintro e w2 ⟨rfl, n2, rfl⟩
  have hd : Drew w ((w.drewN n1).drewN n2) := ⟨n1 + n2, by first | rfl | exact World.drewN_drewN _ _ _⟩
  replace h1 := (h1.drewN n1).drewN n2
  replace h2 := (h2.drewN n1).drewN n2
  obtain ⟨w3, hw3⟩ : ∃ w3, (w.drewN n1).drewN n2 = w3 := ⟨_, rfl⟩
  rw [hw3] at h1 h2 hd ⊢
  clear hw3 HI HJ
  go_wp2_with fail
  go_loopw [5, 6] (fun t i wr => ∃ k : Nat, k ≤ n ∧ i = .int .i64 k ∧ t = .int .i64 (cntF k f m g : Nat) ∧ Row wr b1 o1 n f ∧ Row wr b2 o2 m g ∧ Drew w wr) (fun _ i _ => n - (intOf i).toNat)
  case atStart => exact ⟨0, Nat.zero_le _, rfl, rfl, h1, h2, hd⟩
  case round =>
    clear h1 h2 hd
    obtain ⟨k, hk, rfl, rfl, h1, h2, hd⟩ := hrel
    by_cases hlt : k < n
    · have hki : (k : Int) < (n : Int) := by omega
      obtain ⟨wo, rfl⟩ : ∃ wo : World, wo = wr := ⟨_, rfl⟩
      go_wp2_with fail
      go_loopw [5, 7] (fun t i wr => ∃ j s : Nat, j ≤ m ∧ i = .int .i64 j ∧ t = .int .i64 s ∧ Hid (s = cntF k f m g + (if inF (f k) j g then 1 else 0)) ∧ Row wr b1 o1 n f ∧ Row wr b2 o2 m g ∧ Drew w wr) (fun _ i _ => m - (intOf i).toNat)
      case atStart => exact ⟨0, _, Nat.zero_le _, rfl, rfl, Lib.hid (by rw [inF_zero]; simp), h1, h2, hd⟩
      case round =>
        clear h1 h2 hd
        obtain ⟨j, s, hj, rfl, rfl, hs, h1, h2, hd⟩ := hrel
        by_cases hjm : j < m
        · have hji : (j : Int) < (m : Int) := by omega
          have hc1 := h1 k hlt
          have hc2 := h2 j hjm
          have HO := Lib.hid (one_more (n := n) (i := k) (f := f) HG.out hjm)
          have hs10 : s ≤ 20 := by
            have := hs.out
            have := cntF_le k f m g
            have : (if inF (f k) j g = true then 1 else 0) ≤ 1 := by split <;> omega
            omega
          cases he : (f k == g j) with
          | true =>
            have HN := Lib.hid (show s + 1 = cntF k f m g + (if inF (f k) (j + 1) g then 1 else 0) by rw [HO.out, ← hs.out, he]; rfl)
            clear HO
            go_wp2_with fail
            go_quiet (fail)
            go_wp2_with fail
            go_roundw
            case rel => exact ⟨j + 1, s + 1, by omega, by go_num, by go_num, HN, h1.drewN _, h2.drewN _, hd.more _⟩
            case measure => simp [intOf]; omega
          | false =>
            have HN := Lib.hid (show s = cntF k f m g + (if inF (f k) (j + 1) g then 1 else 0) by rw [HO.out, ← hs.out, he]; rfl)
            clear HO
            go_wp2_with fail
            go_quiet (fail)
            go_wp2_with fail
            go_roundw
            case rel => exact ⟨j + 1, s, by omega, by go_num, rfl, HN, h1.drewN _, h2.drewN _, hd.more _⟩
            case measure => simp [intOf]; omega
        · have hji : ¬ (j : Int) < (m : Int) := by omega
          have hjm2 : j = m := by omega
          subst hjm2
          have HN := Lib.hid (show s = cntF (k + 1) f j g by rw [cntF_succ]; exact hs.out)
          go_wp2_with fail
          go_roundw
          case rel => exact ⟨k + 1, by omega, by go_num, by rw [← HN.out], h1, h2, hd⟩
          case measure => simp [intOf]; omega
    · have hki : ¬ (k : Int) < (n : Int) := by omega
      have hkn : k = n := by omega
      subst hkn
      go_wp2_with fail
      go_ret
      exact ⟨rfl, hd⟩

set_option maxRecDepth 100000 in
set_option maxHeartbeats 1600000 in
theorem specCommonIn_any (a b : Option Addr) (n c m c2 : Nat) (f g : Nat → Int) (w : World) (hi : Ints w a n f) (hj : Ints w b m g) :
    Calls Try.prog 23 #[.slice a n c, .slice b m c2] w fun e w' => e = .returned (.int .i64 (cmI n f m g)) ∧ Drew w w' := by
  cases hv : shipB n f with
  | false =>
    have HV := Lib.hid hv; have HI := Lib.hid hi; clear hv hi hj
    go_enter Try.func23, Try.ntmps23
    go_wp2_with fail
    refine (specShipOk_val _ _ _ _ false HV.out _ HI.out).mono ?_
    rintro e w' ⟨rfl, n1, rfl⟩
    go_wp2_with fail
    go_ret
    exact ⟨reti (cmI_no (by rw [HV.out]; rfl)).symm, n1, rfl⟩
  | true =>
    cases hu : shipB m g with
    | false =>
      have HV := Lib.hid hv; have HI := Lib.hid hi; have HU := Lib.hid hu; have HJ := Lib.hid hj; clear hv hi hu hj
      go_enter Try.func23, Try.ntmps23
      go_wp2_with fail
      refine (specShipOk_val _ _ _ _ true HV.out _ HI.out).mono ?_
      rintro e w' ⟨rfl, n1, rfl⟩
      go_wp2_with fail
      refine (specShipOk_val _ _ _ _ false HU.out _ (HJ.out.drewN _)).mono ?_
      rintro e w' ⟨rfl, n2, rfl⟩
      go_wp2_with fail
      go_ret
      exact ⟨reti (cmI_no (by rw [HU.out, Bool.and_false])).symm, n1 + n2, by first | rfl | exact World.drewN_drewN _ _ _⟩
    | true =>
      obtain ⟨b1, o1, rfl, _, h1⟩ := hi.row (shipB_iff.1 hv).1
      obtain ⟨b2, o2, rfl, _, h2⟩ := hj.row (shipB_iff.1 hu).1
      exact specCommonIn_ships b1 o1 n c b2 o2 m c2 f g hv hu w hi hj h1 h2

theorem moB_neg {n m : Nat} {f g : Nat → Int} {b : Int} (h : b < 0) : moB n f m g b = false := by
  cases e : moB n f m g b with
  | false => rfl
  | true =>
    have := (moB_iff.1 e).2.2.2
    have := cntF_le n f m g
    omega

set_option maxRecDepth 100000 in
set_option maxHeartbeats 1600000 in
theorem specMostlyOk_any (a b : Option Addr) (n c m c2 : Nat) (f g : Nat → Int) (but : Int) (w : World) (hi : Ints w a n f) (hj : Ints w b m g) :
    Calls Try.prog 26 #[.slice a n c, .slice b m c2, .int .i64 but] w fun e w' => e = .returned (.bool (moB n f m g but)) ∧ Drew w w' := by
  have HI := Lib.hid hi; have HJ := Lib.hid hj; clear hi hj
  have hm := HI.out.1.1
  cases hv : (shipB n f && shipB m g) with
  | false =>
    have HC := Lib.hid (cmI_no hv)
    have HM := Lib.hid (moB_no (b := but) hv)
    clear hv
    go_enter Try.func26, Try.ntmps26
    go_wp2_with fail
    refine (specCommonIn_any _ _ _ _ _ _ _ _ _ HI.out HJ.out).mono ?_
    rintro e w' ⟨rfl, n1, rfl⟩
    rw [HC.out]
    go_wp2_with fail
    go_ret
    exact ⟨retb HM.out.symm, n1, rfl⟩
  | true =>
    have h2 := Bool.and_eq_true_iff.1 hv
    have HC := Lib.hid (cmI_yes h2.1 h2.2)
    have HM := Lib.hid (moB_yes (b := but) h2.1 h2.2)
    have HNG := Lib.hid (fun h => moB_neg (n := n) (f := f) (m := m) (g := g) (b := but) h)
    have hle := cntF_le n f m g
    clear h2 hv
    obtain ⟨s, hs⟩ : ∃ s, cntF n f m g = s := ⟨_, rfl⟩
    rw [hs] at HC HM hle
    clear hs
    have hs0 : decide ((s : Int) ≥ 0) = true := by simp
    have hs1 : decide ((0 : Int) ≤ (s : Int)) = true := by simp
    by_cases hb : but < 0
    · have hb0 : decide (but ≥ 0) = false := by simp; omega
      have hb1 : decide (0 ≤ but) = false := by simp; omega
      have HN := Lib.hid (HNG.out hb)
      clear hb
      go_enter Try.func26, Try.ntmps26
      go_wp2_with fail
      refine (specCommonIn_any _ _ _ _ _ _ _ _ _ HI.out HJ.out).mono ?_
      rintro e w' ⟨rfl, n1, rfl⟩
      rw [HC.out]
      go_wp2_with fail
      go_ret
      exact ⟨retb HN.out.symm, n1, rfl⟩
    have hb0 : decide (but ≥ 0) = true := by simp; omega
    have hb1 : decide (0 ≤ but) = true := by simp; omega
    clear hb
    by_cases e : n = m
    · subst e
      have hee : ((n : Int) == (n : Int)) = true := by simp
      go_enter Try.func26, Try.ntmps26
      go_wp2_with fail
      refine (specCommonIn_any _ _ _ _ _ _ _ _ _ HI.out HJ.out).mono ?_
      rintro e w' ⟨rfl, n1, rfl⟩
      rw [HC.out]
      go_wp2_with fail
      refine (specCommonIn_any _ _ _ _ _ _ _ _ _ (HI.out.drewN _) (HJ.out.drewN _)).mono ?_
      rintro e w' ⟨rfl, n2, rfl⟩
      rw [HC.out]
      go_wp2_with fail
      go_ret
      exact ⟨retb (by rw [HM.out]; simp), n1 + n2, by first | rfl | exact World.drewN_drewN _ _ _⟩
    · have hee : ((n : Int) == (m : Int)) = false := by simp; omega
      go_enter Try.func26, Try.ntmps26
      go_wp2_with fail
      refine (specCommonIn_any _ _ _ _ _ _ _ _ _ HI.out HJ.out).mono ?_
      rintro e w' ⟨rfl, n1, rfl⟩
      rw [HC.out]
      go_wp2_with fail
      go_ret
      exact ⟨retb (by rw [HM.out, decide_eq_false e]; rfl), n1, rfl⟩
end Go.Proofs.Ytibjdmmcnhlgnaa
