import Derived.Test.YthbancphegnpdaaTxAB
import Derived.Test.YthbancphegnpdaaLawTA
namespace Go.Proofs.Ythbancphegnpdaa
set_option linter.unusedVariables false
set_option linter.unusedSimpArgs false
open Go.RowKit Go.Maps

theorem rd_more_all : (List.range 16).all (fun x => x == 0 || !rdB (txtL x ++ [97])) = true := by decide +kernel
theorem rd_more {l : List UInt8} (h : rdB l = true) : rdB (l ++ [97]) = false := by
  obtain ⟨h1, h2⟩ := rd_ok h
  have h3 := okX_iff.1 h1
  rw [setL_yes h1] at h2
  have h4 := List.all_eq_true.1 rd_more_all (rdI l).toNat (List.mem_range.2 (by omega))
  rw [h2] at h4
  have h5 : ((rdI l).toNat == 0) = false := by rw [beq_eq_false_iff_ne]; omega
  rw [h5] at h4
  simpa using h4
theorem app_data (s : ByteArray) (t : ByteArray) : (s ++ t).data.toList = s.data.toList ++ t.data.toList := by
  rw [← bs_of s, ← bs_of t, bs_app, bs_data, bs_data, bs_data]

set_option maxRecDepth 100000 in
set_option maxHeartbeats 1600000 in
theorem lawReadSet (a : Option Addr) (n cap : Nat) (w : World) (h : BytesIn w a n cap) :
    Calls Try.prog 4 #[.slice a n cap] w (TrueEnd w) := by
  have hlen := h.len
  have H := Lib.hid h; clear h
  by_cases hn : 1048576 < n
  · go_enter Try.func4, Try.ntmps4
    go_wp2_with fail
    go_ret
    exact ⟨rfl, Below.refl _ _⟩
  · go_enter Try.func4, Try.ntmps4
    go_wp2_with fail
    refine (DrawReadSet_any _ _ _ _ H.out).mono ?_
    rintro e w1 ⟨s, rfl, hs, hb1⟩
    clear H
    go_wp2_with fail
    refine (ReadSet_any s _).mono ?_
    rintro e w2 ⟨rfl, hb2⟩
    replace hb1 := below_onto hb1 hb2; clear hb2
    obtain ⟨x, hx⟩ : ∃ x, rdI s.data.toList = x := ⟨_, rfl⟩
    cases hb : rdB s.data.toList with
    | false =>
      have h1 : x = -1 := by rw [← hx]; exact rd_bad hb
      rw [hx]
      subst h1
      have HX := Lib.hid hx; have HB := Lib.hid hb
      clear hx hb
      go_wp2_with fail
      refine (specReadSet_any s _).mono ?_
      rintro e w3 ⟨rfl, rfl⟩
      rw [HX.out, HB.out]
      go_wp2_with fail
      refine (alive_any _).mono ?_
      rintro e w7 ⟨rfl, hb2⟩
      replace hb1 := below_onto hb1 hb2; clear hb2
      go_wp2_with fail
      go_ret
      exact ⟨rfl, hb1⟩
    | true =>
      have HM := Lib.hid (rd_more hb)
      have HE := Lib.hid (show setT (rdI s.data.toList) = s from list_inj (rd_ok hb).2)
      rw [hx]
      have HX := Lib.hid hx; have HB := Lib.hid hb
      clear hx hb
      go_wp2_with fail
      refine (specReadSet_any s _).mono ?_
      rintro e w3 ⟨rfl, rfl⟩
      rw [HX.out, HB.out]
      have hA : ∀ W, (Op.stringOp .add s ⟨#[97]⟩).run Try.prog W = .ok (.string (s ++ ⟨#[97]⟩)) W := fun W => run_string_add_sum _ _ _ (by show s.size + 1 ≤ _; omega)
      go_wp2_with fail
      refine (ReadSet_any _ _).mono ?_
      rintro e w4 ⟨rfl, hb2⟩
      rw [app_data, HM.out]
      replace hb1 := below_onto hb1 hb2; clear hb2 hA
      obtain ⟨z, hz⟩ : ∃ z, rdI (s.data.toList ++ (⟨#[97]⟩ : ByteArray).data.toList) = z := ⟨_, rfl⟩
      rw [hz]
      clear hz
      go_wp2_with fail
      refine (SetText_any _ _).mono ?_
      rintro e w5 ⟨rfl, hb2⟩
      have he : setT x = s := by rw [← HX.out]; exact HE.out
      rw [he]
      replace hb1 := below_onto hb1 hb2; clear hb2 he
      have hsn := sameT s
      go_wp2_with fail
      go_ret
      exact ⟨rfl, hb1⟩
end Go.Proofs.Ythbancphegnpdaa
