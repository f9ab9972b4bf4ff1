import Derived.Test.YthbancphegnpdaaTxV
namespace Go.Proofs.Ythbancphegnpdaa
set_option linter.unusedVariables false
set_option linter.unusedSimpArgs false
open Go.RowKit Go.Maps

theorem sameN (t : ByteArray) : (t.toList != t.toList) = false := by simp

set_option maxHeartbeats 800000 in
theorem DrawSetText_any (a : Option Addr) (n cap : Nat) (w : World) (h : BytesIn w a n cap) :
    Calls Try.prog 14 #[.slice a n cap] w fun e w' => ∃ x : Int, e = .returned (.int .i64 x) ∧ -1 ≤ x ∧ x ≤ 17 ∧ Below w.heap.size w w' := by
  have H := Lib.hid h; clear h
  go_enter Try.func14, Try.ntmps14
  go_wp2_with fail
  refine (open_any _ _ _ _ H.out).mono ?_
  rintro e w1 ⟨rfl, hb1, hr1⟩
  have HB1 := Lib.hid hb1; have HR1 := Lib.hid hr1; clear hb1 hr1
  go_wp2_with fail
  refine (pick_any _ 0 19 (by omega) _ HR1.out).mono ?_
  rintro e w2 ⟨y, rfl, hy, ho, hr⟩
  have hb2 : Below w.heap.size w w2 := HB1.out.trans (ho.below (Nat.le_refl _) HB1.out.size)
  have hy2 : (y : Int) ≤ 18 := by omega
  clear ho hr
  go_wp2_with fail
  go_ret
  exact ⟨_, rfl, by omega, by omega, hb2⟩

set_option maxRecDepth 100000 in
set_option maxHeartbeats 1600000 in
theorem lawSetText (a : Option Addr) (n cap : Nat) (w : World) (h : BytesIn w a n cap) :
    Calls Try.prog 3 #[.slice a n cap] w (TrueEnd w) := by
  have hlen := h.len
  have H := Lib.hid h; clear h
  by_cases hn : 1048576 < n
  · go_enter Try.func3, Try.ntmps3
    go_wp2_with fail
    go_ret
    exact ⟨rfl, Below.refl _ _⟩
  · go_enter Try.func3, Try.ntmps3
    go_wp2_with fail
    refine (DrawSetText_any _ _ _ _ H.out).mono ?_
    rintro e w1 ⟨x, rfl, hx1, hx2, hb1⟩
    clear H
    cases hx : okX x with
    | true =>
      have hx4 := okX_iff.1 hx
      have hem := setT_emp hx
      have hsn := sameN (setT x)
      obtain ⟨hr1, hr2⟩ := rd_set hx
      have HR1 := Lib.hid hr1; have HR2 := Lib.hid hr2; clear hr1 hr2 hx
      go_wp2_with fail
      refine (SetText_any x _).mono ?_
      rintro e w2 ⟨rfl, hb2⟩
      replace hb1 := below_onto hb1 hb2; clear hb2
      go_wp2_with fail
      refine (specSetText_any x _).mono ?_
      rintro e w3 ⟨rfl, rfl⟩
      go_wp2_with fail
      refine (ReadSet_any (setT x) _).mono ?_
      rintro e w4 ⟨rfl, hb2⟩
      have e1 : rdI (setT x).data.toList = x := HR1.out
      have e2 : rdB (setT x).data.toList = true := HR2.out
      rw [e1, e2]
      replace hb1 := below_onto hb1 hb2; clear hb2 e1 e2
      go_wp2_with fail
      go_ret
      exact ⟨rfl, hb1⟩
    | false =>
      have hx4 : ¬ (1 ≤ x ∧ x ≤ 15) := fun c => by rw [okX_iff.2 c] at hx; cases hx
      have hem := setT_emp' hx
      have hsn := sameN (setT x)
      clear hx
      go_wp2_with fail
      refine (SetText_any x _).mono ?_
      rintro e w2 ⟨rfl, hb2⟩
      replace hb1 := below_onto hb1 hb2; clear hb2
      go_wp2_with fail
      refine (specSetText_any x _).mono ?_
      rintro e w3 ⟨rfl, rfl⟩
      by_cases h1 : x < 1
      · go_wp2_with fail
        refine (alive_any _).mono ?_
        rintro e w7 ⟨rfl, hb2⟩
        replace hb1 := below_onto hb1 hb2; clear hb2
        go_wp2_with fail
        go_ret
        exact ⟨rfl, hb1⟩
      · have h15 : 15 < x := by omega
        go_wp2_with fail
        refine (alive_any _).mono ?_
        rintro e w7 ⟨rfl, hb2⟩
        replace hb1 := below_onto hb1 hb2; clear hb2
        go_wp2_with fail
        go_ret
        exact ⟨rfl, hb1⟩
end Go.Proofs.Ythbancphegnpdaa
