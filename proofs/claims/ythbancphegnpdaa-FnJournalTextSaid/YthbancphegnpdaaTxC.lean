import Derived.Test.YthbancphegnpdaaTxB
namespace Go.Proofs.Ythbancphegnpdaa
set_option linter.unusedVariables false
set_option linter.unusedSimpArgs false
open Go.RowKit Go.Maps

/-- a text has the letter of a point -/
def letG (l : List UInt8) (p : Nat) : Bool := l.contains (97 + p).toUInt8
theorem letG_all : ∀ a b c d : Bool, setOf (fun p => if p = 0 then a else if p = 1 then b else if p = 2 then c else d) 4 = (((((if a then 1 else 0) + (if b then 2 else 0)) + ((if c then 4 else 0) + (if d then 8 else 0)) : Nat)) : Int) := by decide +kernel
theorem letG_set (l : List UInt8) : setOf (letG l) 4 = (letN l : Int) := by
  have h := letG_all (l.contains 97) (l.contains 98) (l.contains 99) (l.contains 100)
  unfold letN
  rw [← h]
  apply setOf_congr
  intro i hi
  have : i = 0 ∨ i = 1 ∨ i = 2 ∨ i = 3 := by omega
  rcases this with rfl | rfl | rfl | rfl <;> rfl

theorem IndexByte_at (s : ByteArray) (k : Nat) (hk : k < 4) (v : Bool) (hv : letG s.data.toList k = v) (w : World) :
    Calls Try.prog 47 #[.string s, .int .u8 ((97 + k : Nat) : Int)] w fun e w' => ∃ z : Int, e = .returned (.int .i64 z) ∧ decide (0 ≤ z) = v ∧ w = w' := by
  refine (IndexByte_any s _ w).mono ?_
  rintro e w' ⟨rfl, rfl⟩
  exact ⟨_, rfl, ib_val hv, rfl⟩

theorem eqT {s t : ByteArray} : (s.toList == t.toList) = decide (s.data.toList = t.data.toList) := by
  rw [toList_data', toList_data']
  by_cases h : s.data.toList = t.data.toList
  · rw [decide_eq_true h]; simpa using h
  · rw [decide_eq_false h]; simpa using h

set_option maxRecDepth 100000 in
set_option maxHeartbeats 1600000 in
theorem ReadSet_any (s : ByteArray) (w : World) :
    Calls Try.prog 18 #[.string s] w fun e w' => e = .returned (.tuple #[.int .i64 (rdI s.data.toList), .bool (rdB s.data.toList)]) ∧ Below w.heap.size w w' := by
  go_enter Try.func18, Try.ntmps18
  go_wp2_with fail
  go_loop [4, 5, 6] (fun v _ i => ∃ k : Nat, k ≤ 4 ∧ i = .int .i64 k ∧ v = .int .i64 (setOf (letG s.data.toList) k)) (fun _ _ i => 4 - (intOf i).toNat)
  case atStart => exact ⟨0, Nat.zero_le _, rfl, rfl⟩
  case round =>
    obtain ⟨k, hk, rfl, rfl⟩ := hrel
    by_cases hlt : k < 4
    · have hki : (k : Int) < 4 := by omega
      obtain ⟨hp1, hp2⟩ := pow_bounds k (by omega)
      have hix := fun w => idxL k hlt w
      cases hg : letG s.data.toList k with
      | true =>
        have HG := Lib.hid hg
        have HN := Lib.hid (setOf_yes (letG s.data.toList) k hg)
        clear hg
        go_wp2_with fail
        refine (IndexByte_at s k hlt true HG.out _).mono ?_
        rintro e w' ⟨z, rfl, hz, rfl⟩
        go_wp2_with fail
        go_round
        case rel => exact ⟨k + 1, by omega, by go_num, by rw [HN.out]⟩
        case measure => simp [intOf]; omega
      | false =>
        have HG := Lib.hid hg
        have HN := Lib.hid (setOf_no (letG s.data.toList) k hg)
        clear hg
        go_wp2_with fail
        refine (IndexByte_at s k hlt false HG.out _).mono ?_
        rintro e w' ⟨z, rfl, hz, rfl⟩
        go_wp2_with fail
        go_round
        case rel => exact ⟨k + 1, by omega, by go_num, by rw [HN.out]⟩
        case measure => simp [intOf]; omega
    · have hki : ¬ (k : Int) < 4 := by omega
      have hkn : k = 4 := by omega
      have hy : setOf (letG s.data.toList) k = (letN s.data.toList : Int) := by rw [hkn]; exact letG_set _
      rw [hy]
      have hlt := letN_lt s.data.toList
      obtain ⟨y, hy2⟩ : ∃ y, letN s.data.toList = y := ⟨_, rfl⟩
      rw [hy2] at hlt ⊢
      have HY := Lib.hid hy2
      clear hkn hk hy hy2
      by_cases h0 : y = 0
      · have hb : ((y : Int) == 0) = true := by rw [h0]; rfl
        have HR := Lib.hid (rd_no (rdN_zero (l := s.data.toList) (by rw [HY.out, h0])))
        clear h0
        go_wp2_with fail
        go_ret2
        exact ⟨by rw [HR.out.1, HR.out.2] <;> rfl, Below.refl _ _⟩
      · have hb : ((y : Int) == 0) = false := by simpa using h0
        have hx : okX (y : Int) = true := okX_iff.2 (by omega)
        have e1 : (setT (y : Int)).data.toList = txtL y := by unfold setT; rw [bs_data, setL_yes hx, Int.toNat_natCast]
        by_cases ht : txtL y = s.data.toList
        · have hb2 : ((setT (y : Int)).toList == s.toList) = true := by rw [eqT, e1]; exact decide_eq_true ht
          have e2 : rdN s.data.toList = y := by rw [← HY.out]; exact rdN_let (by rw [HY.out]; exact h0) (by rw [HY.out]; exact ht)
          have HR := Lib.hid (rd_yes (l := s.data.toList) (by rw [e2]; exact h0))
          rw [e2] at HR
          clear h0 ht e1 e2 hx
          go_wp2_with fail
          refine (SetText_any _ _).mono ?_
          rintro e w2 ⟨rfl, hb⟩
          have HB := Lib.hid hb
          clear hb
          go_wp2_with fail
          go_ret2
          exact ⟨by rw [HR.out.1, HR.out.2] <;> rfl, HB.out⟩
        · have hb2 : ((setT (y : Int)).toList == s.toList) = false := by rw [eqT, e1]; exact decide_eq_false ht
          have HR := Lib.hid (rd_no (rdN_no (l := s.data.toList) (by rw [HY.out]; exact ht)))
          clear h0 ht e1 hx
          go_wp2_with fail
          refine (SetText_any _ _).mono ?_
          rintro e w2 ⟨rfl, hb⟩
          have HB := Lib.hid hb
          clear hb
          go_wp2_with fail
          go_ret2
          exact ⟨by rw [HR.out.1, HR.out.2] <;> rfl, HB.out⟩

set_option maxRecDepth 100000 in
set_option maxHeartbeats 1600000 in
theorem specReadSet_any (s : ByteArray) (w : World) :
    Calls Try.prog 20 #[.string s] w fun e w' => e = .returned (.tuple #[.int .i64 (rdI s.data.toList), .bool (rdB s.data.toList)]) ∧ w = w' := by
  go_enter Try.func20, Try.ntmps20
  go_wp2_with fail
  go_loop [4] (fun i => ∃ k : Nat, 1 ≤ k ∧ k ≤ 16 ∧ i = .int .i64 k ∧ Hid (∀ j, 1 ≤ j → j < k → txtL j ≠ s.data.toList)) (fun i => 16 - (intOf i).toNat)
  case atStart => exact ⟨1, Nat.le_refl _, by omega, rfl, Lib.hid (fun j h1 h2 => by omega)⟩
  case round =>
    obtain ⟨k, hk1, hk, rfl, HJ⟩ := hrel
    by_cases hlt : k < 16
    · have hki : (k : Int) < 16 := by omega
      have hx : okX (k : Int) = true := okX_iff.2 (by omega)
      have e1 : (setT (k : Int)).data.toList = txtL k := by unfold setT; rw [bs_data, setL_yes hx, Int.toNat_natCast]
      by_cases ht : txtL k = s.data.toList
      · have hb2 : ((setT (k : Int)).toList == s.toList) = true := by rw [eqT, e1]; exact decide_eq_true ht
        have e2 : rdN s.data.toList = k := (rdN_iff hk1 hlt).1 ht
        have HR := Lib.hid (rd_yes (l := s.data.toList) (by rw [e2]; omega))
        rw [e2] at HR
        clear ht e1 e2 hx
        go_wp2_with fail
        refine (specSetText_any _ _).mono ?_
        rintro e w2 ⟨rfl, rfl⟩
        go_wp2_with fail
        go_ret2
        exact ⟨by rw [HR.out.1, HR.out.2] <;> rfl, rfl⟩
      · have hb2 : ((setT (k : Int)).toList == s.toList) = false := by rw [eqT, e1]; exact decide_eq_false ht
        have HT := Lib.hid ht
        clear ht e1 hx
        go_wp2_with fail
        refine (specSetText_any _ _).mono ?_
        rintro e w2 ⟨rfl, rfl⟩
        go_wp2_with fail
        go_round
        case rel =>
          refine ⟨k + 1, by omega, by omega, by go_num, Lib.hid (fun j h1 h2 => ?_)⟩
          by_cases e : j = k
          · rw [e]; exact HT.out
          · exact HJ.out j h1 (by omega)
        case measure => simp [intOf]; omega
    · have hki : ¬ (k : Int) < 16 := by omega
      have HR : Hid (rdI s.data.toList = -1 ∧ rdB s.data.toList = false) := Lib.hid (by
        apply rd_no
        apply Classical.byContradiction
        intro h
        have := rdN_lt s.data.toList
        exact HJ.out (rdN s.data.toList) (by omega) (by omega) (rdN_text h))
      clear hk hk1
      go_wp2_with fail
      go_ret2
      exact ⟨by rw [HR.out.1, HR.out.2] <;> rfl, rfl⟩
end Go.Proofs.Ythbancphegnpdaa
