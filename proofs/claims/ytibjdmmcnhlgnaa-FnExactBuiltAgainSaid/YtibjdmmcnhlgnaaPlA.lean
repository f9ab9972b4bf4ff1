import Derived.Test.YtibjdmmcnhlgnaaPlM
import Derived.Lib.SliceRun
namespace Go.Proofs.Ytibjdmmcnhlgnaa
set_option linter.unusedVariables false
set_option linter.unusedSimpArgs false
open Go.RowKit Go.Maps

theorem plankOk_any (x : Int) (w : World) :
    Calls Try.prog 55 #[.int .i64 x] w fun e w' => e = .returned (.bool (pkB x)) ∧ w = w' := by
  by_cases hl : 0 ≤ x
  · have hb : pkB x = decide (x ≤ 99) := by simp [pkB, hl]
    have H := Lib.hid hb; clear hb
    go_enter Try.func55, Try.ntmps55
    go_wp2
    go_ret
    exact ⟨retb H.out.symm, rfl⟩
  · have hb : pkB x = false := by simp [pkB, hl]
    have H := Lib.hid hb; clear hb
    go_enter Try.func55, Try.ntmps55
    go_wp2
    go_ret
    exact ⟨retb H.out.symm, rfl⟩
theorem plankOk_val (x : Int) (v : Bool) (w : World) (hv : pkB x = v) :
    Calls Try.prog 55 #[.int .i64 x] w fun e w' => e = .returned (.bool v) ∧ w = w' := by subst hv; exact plankOk_any x w

set_option maxRecDepth 100000 in
set_option maxHeartbeats 1600000 in
theorem indexI_any (a : Option Addr) (n cap : Nat) (f : Nat → Int) (v : Int) (w : World) (hi : Ints w a n f) :
    Calls Try.prog 68 #[.slice a n cap, .int .i64 v] w fun e w' => w = w' ∧ ((inF v n f = false ∧ e = .returned (.int .i64 (-1))) ∨ (inF v n f = true ∧ ∃ k : Nat, e = .returned (.int .i64 k))) := by
  have HI := Lib.hid hi; clear hi
  have hn := HI.out.1.1
  go_enter Try.func68, Try.ntmps68
  go_wp2_with fail
  go_loopw [5, 8] (fun _ i wr => ∃ k : Nat, k ≤ n ∧ i = .int .i64 k ∧ Hid (inF v k f = false) ∧ w = wr) (fun _ i _ => n - (intOf i).toNat)
  case atStart => exact ⟨0, Nat.zero_le _, rfl, Lib.hid (inF_zero v f), rfl⟩
  case round =>
    obtain ⟨k, hk, rfl, hall, rfl⟩ := hrel
    by_cases hlt : k < n
    · have hki : (k : Int) < (n : Int) := by omega
      have hk0 : (0 : Int) ≤ (k : Int) := by omega
      obtain ⟨b, o, rfl, hbl, hrow⟩ := HI.out.row (by omega)
      have hc := hrow k hlt
      clear hrow hbl
      obtain ⟨z, hz⟩ : ∃ z, f k = z := ⟨_, rfl⟩
      rw [hz] at hc
      cases hv : (v == z) with
      | true =>
        have HV := Lib.hid (show inF v n f = true from inF_iff.2 ⟨k, hlt, by rw [hz]; exact (by simpa using hv : v = z).symm⟩)
        clear hz
        go_wp2_with fail
        go_ret
        exact ⟨rfl, .inr ⟨HV.out, k, rfl⟩⟩
      | false =>
        have HV := Lib.hid (show inF v (k + 1) f = false by
          rw [inF_succ, hall.out, hz]
          show (false || (z == v)) = false
          rw [Bool.false_or, Bool.beq_comm]; exact hv)
        clear hz
        go_wp2_with fail
        go_roundw
        case rel => exact ⟨k + 1, by omega, by go_num, HV, by first | rfl | trivial⟩
        case measure => simp [intOf]; omega
    · have hki : ¬ (k : Int) < (n : Int) := by omega
      have hkn : k = n := by omega
      subst hkn
      go_wp2_with fail
      go_ret
      exact ⟨rfl, .inl ⟨hall.out, rfl⟩⟩

theorem containsI_any (a : Option Addr) (n cap : Nat) (f : Nat → Int) (v : Int) (w : World) (hi : Ints w a n f) :
    Calls Try.prog 56 #[.slice a n cap, .int .i64 v] w fun e w' => e = .returned (.bool (inF v n f)) ∧ w = w' := by
  have HI := Lib.hid hi; clear hi
  go_enter Try.func56, Try.ntmps56
  go_wp2_with fail
  refine (indexI_any a n cap f v w HI.out).mono ?_
  rintro e w' ⟨rfl, ⟨hv, rfl⟩ | ⟨hv, k, rfl⟩⟩
  · have HV := Lib.hid hv; clear hv
    go_wp2_with fail
    go_ret
    exact ⟨retb (by rw [HV.out]), rfl⟩
  · have HV := Lib.hid hv; clear hv
    have hk0 : (0 : Int) ≤ (k : Int) := by omega
    go_wp2_with fail
    go_ret
    exact ⟨retb (by rw [HV.out]), rfl⟩
theorem containsI_val (a : Option Addr) (n cap : Nat) (f : Nat → Int) (v : Int) (b : Bool) (w : World) (hb : inF v n f = b) (hi : Ints w a n f) :
    Calls Try.prog 56 #[.slice a n cap, .int .i64 v] w fun e w' => e = .returned (.bool b) ∧ w = w' := by subst hb; exact containsI_any a n cap f v w hi

theorem Ints.first {w : World} {a : Option Addr} {n k : Nat} {f : Nat → Int} (h : Ints w a n f) (hk : k ≤ n) : Ints w a k f := by
  obtain ⟨⟨h1, h2⟩, h3⟩ := h
  refine ⟨⟨by omega, fun i hi => h2 i (by omega)⟩, ?_⟩
  rcases h3 with h3 | ⟨b, o, h4, h5, h6⟩
  · exact .inl (by omega)
  · exact .inr ⟨b, o, h4, h5, fun i hi => h6 i (by omega)⟩

set_option maxRecDepth 100000 in
set_option maxHeartbeats 3200000 in
theorem ShipOk_any (a : Option Addr) (n cap : Nat) (f : Nat → Int) (hc : n ≤ cap) (w : World) (hi : Ints w a n f) :
    Calls Try.prog 18 #[.slice a n cap] w fun e w' => e = .returned (.bool (shipB n f)) ∧ w = w' := by
  have HI := Lib.hid hi; clear hi
  have hm := HI.out.1.1
  by_cases h1 : n < 1
  · have hd1 : decide ((n : Int) < 1) = true := by simp; omega
    have HF := Lib.hid (ship_few (n := n) (f := f) h1)
    go_enter Try.func18, Try.ntmps18
    go_wp2_with fail
    go_ret
    exact ⟨retb HF.out.symm, rfl⟩
  by_cases h6 : 6 < n
  · have hd1 : decide ((n : Int) < 1) = false := by simp; omega
    have hd2 : decide ((6 : Int) < (n : Int)) = true := by simp; omega
    have HF := Lib.hid (ship_many (n := n) (f := f) h6)
    go_enter Try.func18, Try.ntmps18
    go_wp2_with fail
    go_ret
    exact ⟨retb HF.out.symm, rfl⟩
  have hd1 : decide ((n : Int) < 1) = false := by simp; omega
  have hd2 : decide ((6 : Int) < (n : Int)) = false := by simp; omega
  have HS := Lib.hid (ship_of (f := f) (by omega : 1 ≤ n) (by omega : n ≤ 6))
  obtain ⟨b, o, rfl, hbl, hrow⟩ := HI.out.row (by omega)
  have HR := Lib.hid hrow
  clear hrow hbl
  go_enter Try.func18, Try.ntmps18
  go_wp2_with fail
  clear hd1 hd2
  go_loopw [3, 4, 15] (fun _ _ i wr => ∃ k : Nat, k ≤ n ∧ i = .int .i64 k ∧ Hid (shipK k f = true) ∧ w = wr) (fun _ _ i _ => n - (intOf i).toNat)
  case atStart => exact ⟨0, Nat.zero_le _, rfl, Lib.hid rfl, rfl⟩
  case round =>
    obtain ⟨k, hk, rfl, hall, rfl⟩ := hrel
    by_cases hlt : k < n
    · have hki : (k : Int) < (n : Int) := by omega
      have hk0 : (0 : Int) ≤ (k : Int) := by omega
      have hkc : (k : Int) ≤ (cap : Int) := by omega
      have hkcn : k ≤ cap := by omega
      have hcl := HR.out k hlt
      obtain ⟨z, hz⟩ : ∃ z, f k = z := ⟨_, rfl⟩
      rw [hz] at hcl
      have HZ := Lib.hid hz; clear hz
      cases hp : pkB z with
      | false =>
        have HP := Lib.hid hp; clear hp
        have HF := Lib.hid (shipK_no (f := f) hlt (by rw [HZ.out, HP.out]; rfl))
        go_wp2_with fail
        refine (plankOk_val _ false _ HP.out).mono ?_
        rintro e w' ⟨rfl, rfl⟩
        go_wp2_with fail
        go_ret
        exact ⟨retb (by rw [HS.out, HF.out]), rfl⟩
      | true =>
        have HP := Lib.hid hp; clear hp
        cases hq : inF z k f with
        | true =>
          have HQ := Lib.hid hq; clear hq
          have HF := Lib.hid (shipK_no (f := f) hlt (by rw [HZ.out, HQ.out]; simp))
          go_wp2_with fail
          refine (plankOk_val _ true _ HP.out).mono ?_
          rintro e w' ⟨rfl, rfl⟩
          go_wp2_with fail
          refine (containsI_val _ k cap f z true _ HQ.out (HI.out.first hk)).mono ?_
          rintro e w' ⟨rfl, rfl⟩
          go_wp2_with fail
          go_ret
          exact ⟨retb (by rw [HS.out, HF.out]), rfl⟩
        | false =>
          have HQ := Lib.hid hq; clear hq
          have HF := Lib.hid (show shipK (k + 1) f = true by rw [shipK_succ, hall.out, HZ.out, HP.out, HQ.out]; rfl)
          go_wp2_with fail
          refine (plankOk_val _ true _ HP.out).mono ?_
          rintro e w' ⟨rfl, rfl⟩
          go_wp2_with fail
          refine (containsI_val _ k cap f z false _ HQ.out (HI.out.first hk)).mono ?_
          rintro e w' ⟨rfl, rfl⟩
          go_wp2_with fail
          go_roundw
          case rel => exact ⟨k + 1, by omega, by go_num, HF, by first | rfl | trivial⟩
          case measure => simp [intOf]; omega
    · have hki : ¬ (k : Int) < (n : Int) := by omega
      have hkn : k = n := by omega
      subst hkn
      go_wp2_with fail
      go_ret
      exact ⟨retb (by rw [HS.out, hall.out]), rfl⟩
theorem ShipOk_val (a : Option Addr) (n cap : Nat) (f : Nat → Int) (v : Bool) (hv : shipB n f = v) (hc : n ≤ cap) (w : World) (hi : Ints w a n f) :
    Calls Try.prog 18 #[.slice a n cap] w fun e w' => e = .returned (.bool v) ∧ w = w' := by subst hv; exact ShipOk_any a n cap f hc w hi

set_option maxRecDepth 100000 in
set_option maxHeartbeats 3200000 in
theorem countAmong_any (a b : Option Addr) (n c m c2 : Nat) (f g : Nat → Int) (w : World) (hi : Ints w a n f) (hj : Ints w b m g) :
    Calls Try.prog 60 #[.slice a n c, .slice b m c2] w fun e w' => e = .returned (.int .i64 (cntF n f m g : Nat)) ∧ w = w' := by
  have HI := Lib.hid hi; have HJ := Lib.hid hj; clear hi hj
  have hm := HI.out.1.1
  go_enter Try.func60, Try.ntmps60
  go_wp2_with fail
  go_loopw [5, 7, 10] (fun v _ i wr => ∃ k : Nat, k ≤ n ∧ i = .int .i64 k ∧ v = .int .i64 (cntF k f m g : Nat) ∧ w = wr) (fun _ _ i _ => n - (intOf i).toNat)
  case atStart => exact ⟨0, Nat.zero_le _, rfl, rfl, rfl⟩
  case round =>
    obtain ⟨k, hk, rfl, rfl, rfl⟩ := hrel
    by_cases hlt : k < n
    · have hki : (k : Int) < (n : Int) := by omega
      have hk0 : (0 : Int) ≤ (k : Int) := by omega
      obtain ⟨q, o, rfl, hbl, hrow⟩ := HI.out.row (by omega)
      have hcl := hrow k hlt
      clear hrow hbl
      have HK := Lib.hid (cntF_succ k f m g)
      have hle := cntF_le k f m g
      obtain ⟨z, hz⟩ : ∃ z, f k = z := ⟨_, rfl⟩
      rw [hz] at hcl HK
      clear hz
      obtain ⟨s, hs⟩ : ∃ s, cntF k f m g = s := ⟨_, rfl⟩
      rw [hs] at HK hle ⊢
      clear hs
      cases hq : inF z m g with
      | true =>
        have HQ := Lib.hid hq
        have HN := Lib.hid (show cntF (k + 1) f m g = s + 1 by rw [HK.out, HQ.out]; rfl)
        clear hq
        go_wp2_with fail
        refine (containsI_val _ m c2 g z true _ HQ.out HJ.out).mono ?_
        rintro e w' ⟨rfl, rfl⟩
        go_wp2_with fail
        go_roundw
        case rel => exact ⟨k + 1, by omega, by go_num, by rw [HN.out]; go_num, by first | rfl | trivial⟩
        case measure => simp [intOf]; omega
      | false =>
        have HQ := Lib.hid hq
        have HN := Lib.hid (show cntF (k + 1) f m g = s by rw [HK.out, HQ.out]; rfl)
        clear hq
        go_wp2_with fail
        refine (containsI_val _ m c2 g z false _ HQ.out HJ.out).mono ?_
        rintro e w' ⟨rfl, rfl⟩
        go_wp2_with fail
        go_roundw
        case rel => exact ⟨k + 1, by omega, by go_num, by rw [HN.out], by first | rfl | trivial⟩
        case measure => simp [intOf]; omega
    · have hki : ¬ (k : Int) < (n : Int) := by omega
      have hkn : k = n := by omega
      subst hkn
      go_wp2_with fail
      go_ret
      exact ⟨rfl, rfl⟩

set_option maxRecDepth 100000 in
set_option maxHeartbeats 1600000 in
theorem CommonIn_any (a b : Option Addr) (n c m c2 : Nat) (f g : Nat → Int) (hc : n ≤ c) (hc2 : m ≤ c2) (w : World) (hi : Ints w a n f) (hj : Ints w b m g) :
    Calls Try.prog 22 #[.slice a n c, .slice b m c2] w fun e w' => e = .returned (.int .i64 (cmI n f m g)) ∧ w = w' := by
  have HI := Lib.hid hi; have HJ := Lib.hid hj; clear hi hj
  cases hv : shipB n f with
  | false =>
    have HV := Lib.hid hv; clear hv
    go_enter Try.func22, Try.ntmps22
    go_wp2_with fail
    refine (ShipOk_val _ _ _ _ false HV.out hc _ HI.out).mono ?_
    rintro e w' ⟨rfl, rfl⟩
    go_wp2_with fail
    go_ret
    exact ⟨reti (cmI_no (by rw [HV.out]; rfl)).symm, rfl⟩
  | true =>
    have HV := Lib.hid hv; clear hv
    cases hu : shipB m g with
    | false =>
      have HU := Lib.hid hu; clear hu
      go_enter Try.func22, Try.ntmps22
      go_wp2_with fail
      refine (ShipOk_val _ _ _ _ true HV.out hc _ HI.out).mono ?_
      rintro e w' ⟨rfl, rfl⟩
      go_wp2_with fail
      refine (ShipOk_val _ _ _ _ false HU.out hc2 _ HJ.out).mono ?_
      rintro e w' ⟨rfl, rfl⟩
      go_wp2_with fail
      go_ret
      exact ⟨reti (cmI_no (by rw [HU.out, Bool.and_false])).symm, rfl⟩
    | true =>
      have HU := Lib.hid hu; clear hu
      go_enter Try.func22, Try.ntmps22
      go_wp2_with fail
      refine (ShipOk_val _ _ _ _ true HV.out hc _ HI.out).mono ?_
      rintro e w' ⟨rfl, rfl⟩
      go_wp2_with fail
      refine (ShipOk_val _ _ _ _ true HU.out hc2 _ HJ.out).mono ?_
      rintro e w' ⟨rfl, rfl⟩
      go_wp2_with fail
      refine (countAmong_any _ _ _ _ _ _ _ _ _ HI.out HJ.out).mono ?_
      rintro e w' ⟨rfl, rfl⟩
      go_wp2_with fail
      go_ret
      exact ⟨reti (cmI_yes HV.out HU.out).symm, rfl⟩

theorem moB_no {n m : Nat} {f g : Nat → Int} {b : Int} (h : (shipB n f && shipB m g) = false) : moB n f m g b = false := by unfold moB; rw [h]; rfl
theorem moB_yes {n m : Nat} {f g : Nat → Int} {b : Int} (hf : shipB n f = true) (hg : shipB m g = true) : moB n f m g b = (decide (n = m) && decide ((n : Int) - cntF n f m g ≤ b)) := by unfold moB; rw [hf, hg]; rfl

set_option maxRecDepth 100000 in
set_option maxHeartbeats 1600000 in
theorem MostlyOk_any (a b : Option Addr) (n c m c2 : Nat) (f g : Nat → Int) (but : Int) (hc : n ≤ c) (hc2 : m ≤ c2) (w : World) (hi : Ints w a n f) (hj : Ints w b m g) :
    Calls Try.prog 25 #[.slice a n c, .slice b m c2, .int .i64 but] w fun e w' => e = .returned (.bool (moB n f m g but)) ∧ w = w' := by
  have HI := Lib.hid hi; have HJ := Lib.hid hj; clear hi hj
  have hm := HI.out.1.1
  cases hv : (shipB n f && shipB m g) with
  | false =>
    have HC := Lib.hid (cmI_no hv)
    have HM := Lib.hid (moB_no (b := but) hv)
    clear hv
    go_enter Try.func25, Try.ntmps25
    go_wp2_with fail
    refine (CommonIn_any _ _ _ _ _ _ _ _ hc hc2 _ HI.out HJ.out).mono ?_
    rintro e w' ⟨rfl, rfl⟩
    rw [HC.out]
    go_wp2_with fail
    go_ret
    exact ⟨retb HM.out.symm, rfl⟩
  | true =>
    have h2 := Bool.and_eq_true_iff.1 hv
    have HC := Lib.hid (cmI_yes h2.1 h2.2)
    have HM := Lib.hid (moB_yes (b := but) h2.1 h2.2)
    have hle := cntF_le n f m g
    clear h2 hv
    obtain ⟨s, hs⟩ : ∃ s, cntF n f m g = s := ⟨_, rfl⟩
    rw [hs] at HC HM hle
    clear hs
    have hs0 : decide ((s : Int) ≥ 0) = true := by simp
    have hs1 : decide ((0 : Int) ≤ (s : Int)) = true := by simp
    by_cases e : n = m
    · subst e
      have hee : ((n : Int) == (n : Int)) = true := by simp
      go_enter Try.func25, Try.ntmps25
      go_wp2_with fail
      refine (CommonIn_any _ _ _ _ _ _ _ _ hc hc2 _ HI.out HJ.out).mono ?_
      rintro e w' ⟨rfl, rfl⟩
      rw [HC.out]
      go_wp2_with fail
      go_ret
      exact ⟨retb (by rw [HM.out]; simp), rfl⟩
    · have hee : ((n : Int) == (m : Int)) = false := by simp; omega
      go_enter Try.func25, Try.ntmps25
      go_wp2_with fail
      refine (CommonIn_any _ _ _ _ _ _ _ _ hc hc2 _ HI.out HJ.out).mono ?_
      rintro e w' ⟨rfl, rfl⟩
      rw [HC.out]
      go_wp2_with fail
      go_ret
      exact ⟨retb (by rw [HM.out, decide_eq_false e]; rfl), rfl⟩
theorem MostlyOk_val (a b : Option Addr) (n c m c2 : Nat) (f g : Nat → Int) (but : Int) (v : Bool) (hv : moB n f m g but = v) (hc : n ≤ c) (hc2 : m ≤ c2) (w : World) (hi : Ints w a n f) (hj : Ints w b m g) :
    Calls Try.prog 25 #[.slice a n c, .slice b m c2, .int .i64 but] w fun e w' => e = .returned (.bool v) ∧ w = w' := by subst hv; exact MostlyOk_any a b n c m c2 f g but hc hc2 w hi hj
end Go.Proofs.Ytibjdmmcnhlgnaa
