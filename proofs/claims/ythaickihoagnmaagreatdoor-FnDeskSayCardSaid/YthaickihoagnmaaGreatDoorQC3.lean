import Derived.Test.YthaickihoagnmaaGreatDoorQC2
import Derived.Deep.DeepFit
import Derived.Deep.RegionHeld3
import Derived.Maps.OwnSet
import Derived.Laws.EntriesVeiled
set_option linter.unusedVariables false
set_option linter.unusedSimpArgs false
set_option maxHeartbeats 12800000
namespace Go.Proofs.YthaickihoagnmaaGreatDoor
open Go.RowKit
def SetsR (rb P : Nat) (w : World) (v i : Value) (wr : World) : Prop :=
  ∃ (t m : Nat), t ≤ 12 ∧ m ≤ 7 ∧ i = .int .i64 t ∧ OwnI wr w.heap.size v m ∧ Only rb w wr ∧ Rdr wr rb (P + 10 + 10 * t)
def SetsM (rb P : Nat) (w : World) (v : Value) (wx : World) : Prop :=
  ∃ m, m ≤ 7 ∧ OwnI wx w.heap.size v m ∧ Only rb w wx ∧ Rdr wx rb (P + 500)
theorem pt_shift (y : Nat) (hy : y < 3) : (1 : Int) ≤ 2 ^ (2 + y) - 1 ∧ (2 : Int) ^ (2 + y) - 1 ≤ 15 ∧ (1 : Int) ≤ 2 ^ (2 + y) ∧ (2 : Int) ^ (2 + y) ≤ 16 := by
  rcases (show y = 0 ∨ y = 1 ∨ y = 2 by omega) with rfl | rfl | rfl <;> decide
theorem odd_all (rb P : Nat) (n : Int) (hn : 0 ≤ n) (hn2 : n ≤ 100) (hP : P ≤ 1000000) (w : World) (h : Rdr w rb P) :
    Calls Tryz.prog 49 #[.pointer (some ⟨rb, 0, none⟩), .int .i64 n] w (PickedB rb P w) := by
  by_cases h0 : n = 0
  · subst h0
    have H := Lib.hid h; clear h
    go_enter Tryz.func49, Tryz.ntmps49
    go_wp2_with fail
    go_ret
    exact ⟨_, rfl, Only.refl _ _, H.out.mono (by omega)⟩
  · exact odd_any rb P n (by omega) hn2 hP w h
set_option maxRecDepth 100000 in
theorem sets_any (rb P : Nat) (n : Int) (hn : 0 ≤ n) (hn2 : n ≤ 100) (hP : P ≤ 100000) (w : World) (h : Rdr w rb P) :
    Calls Tryz.prog 100 #[.pointer (some ⟨rb, 0, none⟩), .int .i64 n] w (DrawnW rb P w) := by
  have hrb : rb < w.heap.size := h.1
  obtain ⟨i0, hi, hz0, hz1, hz2⟩ := info_parts Tryz.infoInt
  have H0 := Lib.hid (h.below (alloc_below w (.cells #[] 3)))
  clear h
  go_enter Tryz.func100, Tryz.ntmps100
  go_wp2_with fail
  refine (pick_any rb P 3 (by omega) _ H0.out).mono ?_
  rintro e w1 ⟨y, rfl, hy, ho, hr⟩
  have hz : OwnI w1 w.heap.size (.slice (some ⟨w.heap.size, 0, none⟩) 0 0) 0 := (OwnI.lit w w.heap.size (Nat.le_refl _) [] (fun x hx => by simp at hx) (by decide) _ rfl).lift ho hrb
  have hon1 : Only rb w w1 := ((Only.refl rb w).alloc _).trans ho
  have hy3 : y < 3 := by omega
  obtain ⟨hs1, hs2, hs3, hs4⟩ := pt_shift y hy3
  obtain ⟨pt, hpt⟩ : ∃ pt : Nat, 2 + y = pt := ⟨_, rfl⟩
  rw [hpt] at hs1 hs2 hs3 hs4
  have hptI : (2 : Int) + (y : Int) = (pt : Int) := by omega
  have hst : SetsR rb P w (.slice (some ⟨w.heap.size, 0, none⟩) 0 0) (.int .i64 0) w1 := ⟨0, 0, by omega, by omega, rfl, hz, hon1, hr.mono (by omega)⟩
  have hpt4 : pt ≤ 4 := by omega
  clear H0 hy ho hr hz hon1 hpt
  go_upto_block 0 with fail
  go_cut [5] (fun s5 wx => SetsM rb P w s5 wx)
  case first =>
    go_wp2_with fail
    go_loopw [5, 7] (fun v i wr => SetsR rb P w v i wr) (fun _ i _ => 12 - (intOf i).toNat)
    case atStart => exact hst
    case round =>
      clear hst
      obtain ⟨t, m, ht, hm7, rfl, hown, hon, hrd⟩ := hrel
      have HON := Lib.hid hon; have HRD := Lib.hid hrd; have HOWN := Lib.hid hown; clear hon hrd hown
      obtain ⟨a5, c5, hv5⟩ := HOWN.out.slice
      subst hv5
      by_cases hlt : t < 12
      · have hbt : decide ((t : Int) < 12) = true := by simp; omega
        by_cases hm : m < 7
        · have hbm : decide ((m : Int) < 7) = true := by simp; omega
          go_wp2_with fail
          refine (pick_any rb _ _ (by omega) _ HRD.out).mono ?_
          rintro e w3 ⟨z, rfl, hz, ho3, hr3⟩
          have hz15 : (z : Int) < 15 := by omega
          have hon3 := HON.out.trans ho3
          have hown3 := HOWN.out.lift ho3 hrb
          have HON2 := Lib.hid hon3; have HRD2 := Lib.hid hr3; have HOWN2 := Lib.hid hown3; clear hon3 hr3 hown3 ho3 HON HRD HOWN hz
          go_wp2_with fail
          refine (pick_any rb _ 4 (by omega) _ HRD2.out).mono ?_
          rintro e w4 ⟨q, rfl, hq, ho4, hr4⟩
          have hon4 := HON2.out.trans ho4
          have hown4 := HOWN2.out.lift ho4 hrb
          have HON3 := Lib.hid hon4; have HRD3 := Lib.hid hr4; have HOWN3 := Lib.hid hown4; clear hon4 hr4 hown4 ho4 HON2 HRD2 HOWN2 hq
          by_cases hq0 : q = 0
          · have hqb : ((q : Int) == 0) = true := by rw [beq_iff_eq]; omega
            clear hq0
            by_cases hm0 : 0 < m
            · have hmb : decide ((0 : Int) < (m : Int)) = true := by simp; omega
              have hmb2 : decide (0 < m) = true := decide_eq_true hm0
              go_wp2_with fail
              go_loop [9, 10] (fun s i => ∃ (k : Nat) (bb : Bool), k ≤ m ∧ i = .int .i64 k ∧ s = .bool bb) (fun _ i => m - (intOf i).toNat)
              case atStart => exact ⟨0, _, Nat.zero_le _, rfl, rfl⟩
              case round =>
                obtain ⟨k, bb, hk, rfl, rfl⟩ := hrel
                by_cases hkm : k < m
                · obtain ⟨g, cp, f, hv, hBg, hgl, _, _, hrow, _, _⟩ := HOWN3.out.shape (by omega)
                  injection hv with hv1 hv2 hv3
                  subst hv1; subst hv3
                  have hc : w4.cell? ⟨g, k, none⟩ = some (.int .i64 (f k)) := by have := hrow k hkm; rwa [Nat.zero_add] at this
                  cases bb with
                  | true =>
                    go_wp2_with fail
                    go_round
                    case rel => exact ⟨k + 1, _, by omega, by go_num, rfl⟩
                    case measure => simp [intOf]; omega
                  | false =>
                    go_wp2_with fail
                    go_round
                    case rel => exact ⟨k + 1, _, by omega, by go_num, rfl⟩
                    case measure => simp [intOf]; omega
                · cases bb with
                  | true =>
                    go_wp2_with fail
                    refine (pick_any rb _ 6 (by omega) _ HRD3.out).mono ?_
                    rintro e w6 ⟨u, rfl, hu, ho6, hr6⟩
                    have hown6 := HOWN3.out.lift ho6 hrb
                    have hon6 := HON3.out.trans ho6
                    have HOW6 := Lib.hid hown6; have HON6 := Lib.hid hon6; have HR6 := Lib.hid hr6
                    clear hown6 hon6 hr6 ho6 hu
                    by_cases hu0 : u = 0
                    · have hub : ((u : Int) == 0) = true := by rw [beq_iff_eq]; omega
                      clear hu0
                      go_wp2_with fail
                      go_meet
                      exact ⟨m, by omega, HOW6.out, HON6.out, HR6.out.mono (by omega)⟩
                    · have hub : ((u : Int) == 0) = false := by rw [beq_eq_false_iff_ne]; omega
                      clear hu0
                      go_wp2_with fail
                      go_roundw
                      case rel => first | exact ⟨t + 1, m, by omega, by omega, by go_num, HOW6.out, HON6.out, HR6.out.mono (by omega)⟩ | ((repeat apply Exists.intro); exact ⟨⟨t + 1, m, by omega, by omega, by go_num, HOW6.out, HON6.out, HR6.out.mono (by omega)⟩, rfl⟩)
                      case measure => simp [intOf]; omega
                  | false =>
                    have hB := HON3.out.size
                    obtain ⟨xs, hxl, hx64, hrow⟩ := HOWN3.out
                    have HX := Lib.hid hxl; have HO := Lib.hid hrow
                    clear hxl hrow
                    have k1 := Lib.hid (fun (j : Nat) (u : Value) (h : [Value.int .i64 (1 + (z : Int))][j]? = some u) => cell_one_new w4 (.int .i64 (1 + (z : Int))) 3 j u h)
                    have k2 : Hid (∀ u ∈ [Value.int .i64 (1 + (z : Int))], u.oneCell' = true) := Lib.hid (by intro u hu; simp at hu; subst hu; rfl)
                    have k3 : Hid (m + 1 ≤ maxLen) := Lib.hid (by unfold maxLen; omega)
                    have k4 : Hid ((m + 1) * 8 ≤ 140737488355328) := Lib.hid (by omega)
                    have k5 : Hid (w.heap.size ≤ (w4.alloc (.cells #[.int .i64 (1 + (z : Int))] 3)).heap.size) := Lib.hid (by rw [alloc_size]; omega)
                    go_wp2_with (at_builtin; refine wpList_append_own _ rfl (.tmp 55) (.tmp 57) 28 rfl w.heap.size 3 i0 (.int .i64 0) 1 8 Tryz.underlying28 hi hz0 hz1 hz2 rfl (by decide) _ _ _ rfl (HO.out.alloc _) ⟨w4.heap.size, 0, none⟩ 1 1 [.int .i64 (1 + (z : Int))] rfl rfl k1.out k2.out k3.out k4.out k5.out ?_)
                    intro v' w5 hown' hgrow _
                    have hb1 : Below w.heap.size w4 w5 := ((Below.refl w.heap.size w4).alloc hB _).grown hgrow (by show _ ≤ (w4.heap.push _).size; rw [Array.size_push]; omega) (fun q hq => (HO.out.lt q hq).1)
                    have ho1 : OwnI w5 w.heap.size v' (m + 1) := by
                      have := HX.out; subst this
                      exact own_snoc hx64 (by unfold I64; omega) hown'
                    have HB1 := Lib.hid hb1; have HO1 := Lib.hid ho1
                    have HON5 := Lib.hid (HON3.out.below_then hb1); have HRD5 := Lib.hid (HRD3.out.belowB hb1 hrb)
                    clear hown' hgrow hb1 ho1 k1 k2 k3 k4 k5
                    go_wp2_with fail
                    refine (pick_any rb _ 6 (by omega) _ HRD5.out).mono ?_
                    rintro e w6 ⟨u, rfl, hu, ho6, hr6⟩
                    have hown6 := HO1.out.lift ho6 hrb
                    have hon6 := HON5.out.trans ho6
                    obtain ⟨a6, c6, rfl⟩ := hown6.slice
                    have HOW6 := Lib.hid hown6; have HON6 := Lib.hid hon6; have HR6 := Lib.hid hr6
                    clear hown6 hon6 hr6 ho6 hu
                    by_cases hu0 : u = 0
                    · have hub : ((u : Int) == 0) = true := by rw [beq_iff_eq]; omega
                      clear hu0
                      go_wp2_with fail
                      go_meet
                      exact ⟨m + 1, by omega, HOW6.out, HON6.out, HR6.out.mono (by omega)⟩
                    · have hub : ((u : Int) == 0) = false := by rw [beq_eq_false_iff_ne]; omega
                      clear hu0
                      go_wp2_with fail
                      go_roundw
                      case rel => first | exact ⟨t + 1, m + 1, by omega, by omega, by go_num, HOW6.out, HON6.out, HR6.out.mono (by omega)⟩ | ((repeat apply Exists.intro); exact ⟨⟨t + 1, m + 1, by omega, by omega, by go_num, HOW6.out, HON6.out, HR6.out.mono (by omega)⟩, rfl⟩)
                      case measure => simp [intOf]; omega
            · have hmb : decide ((0 : Int) < (m : Int)) = false := by simp; omega
              have hmb2 : decide (0 < m) = false := decide_eq_false hm0
              go_wp2_with fail
              go_loop [9, 10] (fun s i => ∃ (k : Nat) (bb : Bool), k ≤ m ∧ i = .int .i64 k ∧ s = .bool bb) (fun _ i => m - (intOf i).toNat)
              case atStart => exact ⟨0, _, Nat.zero_le _, rfl, rfl⟩
              case round =>
                obtain ⟨k, bb, hk, rfl, rfl⟩ := hrel
                by_cases hkm : k < m
                · obtain ⟨g, cp, f, hv, hBg, hgl, _, _, hrow, _, _⟩ := HOWN3.out.shape (by omega)
                  injection hv with hv1 hv2 hv3
                  subst hv1; subst hv3
                  have hc : w4.cell? ⟨g, k, none⟩ = some (.int .i64 (f k)) := by have := hrow k hkm; rwa [Nat.zero_add] at this
                  cases bb with
                  | true =>
                    go_wp2_with fail
                    go_round
                    case rel => exact ⟨k + 1, _, by omega, by go_num, rfl⟩
                    case measure => simp [intOf]; omega
                  | false =>
                    go_wp2_with fail
                    go_round
                    case rel => exact ⟨k + 1, _, by omega, by go_num, rfl⟩
                    case measure => simp [intOf]; omega
                · cases bb with
                  | true =>
                    go_wp2_with fail
                    refine (pick_any rb _ 6 (by omega) _ HRD3.out).mono ?_
                    rintro e w6 ⟨u, rfl, hu, ho6, hr6⟩
                    have hown6 := HOWN3.out.lift ho6 hrb
                    have hon6 := HON3.out.trans ho6
                    have HOW6 := Lib.hid hown6; have HON6 := Lib.hid hon6; have HR6 := Lib.hid hr6
                    clear hown6 hon6 hr6 ho6 hu
                    by_cases hu0 : u = 0
                    · have hub : ((u : Int) == 0) = true := by rw [beq_iff_eq]; omega
                      clear hu0
                      go_wp2_with fail
                      go_meet
                      exact ⟨m, by omega, HOW6.out, HON6.out, HR6.out.mono (by omega)⟩
                    · have hub : ((u : Int) == 0) = false := by rw [beq_eq_false_iff_ne]; omega
                      clear hu0
                      go_wp2_with fail
                      go_roundw
                      case rel => first | exact ⟨t + 1, m, by omega, by omega, by go_num, HOW6.out, HON6.out, HR6.out.mono (by omega)⟩ | ((repeat apply Exists.intro); exact ⟨⟨t + 1, m, by omega, by omega, by go_num, HOW6.out, HON6.out, HR6.out.mono (by omega)⟩, rfl⟩)
                      case measure => simp [intOf]; omega
                  | false =>
                    have hB := HON3.out.size
                    obtain ⟨xs, hxl, hx64, hrow⟩ := HOWN3.out
                    have HX := Lib.hid hxl; have HO := Lib.hid hrow
                    clear hxl hrow
                    have k1 := Lib.hid (fun (j : Nat) (u : Value) (h : [Value.int .i64 (1 + (z : Int))][j]? = some u) => cell_one_new w4 (.int .i64 (1 + (z : Int))) 3 j u h)
                    have k2 : Hid (∀ u ∈ [Value.int .i64 (1 + (z : Int))], u.oneCell' = true) := Lib.hid (by intro u hu; simp at hu; subst hu; rfl)
                    have k3 : Hid (m + 1 ≤ maxLen) := Lib.hid (by unfold maxLen; omega)
                    have k4 : Hid ((m + 1) * 8 ≤ 140737488355328) := Lib.hid (by omega)
                    have k5 : Hid (w.heap.size ≤ (w4.alloc (.cells #[.int .i64 (1 + (z : Int))] 3)).heap.size) := Lib.hid (by rw [alloc_size]; omega)
                    go_wp2_with (at_builtin; refine wpList_append_own _ rfl (.tmp 55) (.tmp 57) 28 rfl w.heap.size 3 i0 (.int .i64 0) 1 8 Tryz.underlying28 hi hz0 hz1 hz2 rfl (by decide) _ _ _ rfl (HO.out.alloc _) ⟨w4.heap.size, 0, none⟩ 1 1 [.int .i64 (1 + (z : Int))] rfl rfl k1.out k2.out k3.out k4.out k5.out ?_)
                    intro v' w5 hown' hgrow _
                    have hb1 : Below w.heap.size w4 w5 := ((Below.refl w.heap.size w4).alloc hB _).grown hgrow (by show _ ≤ (w4.heap.push _).size; rw [Array.size_push]; omega) (fun q hq => (HO.out.lt q hq).1)
                    have ho1 : OwnI w5 w.heap.size v' (m + 1) := by
                      have := HX.out; subst this
                      exact own_snoc hx64 (by unfold I64; omega) hown'
                    have HB1 := Lib.hid hb1; have HO1 := Lib.hid ho1
                    have HON5 := Lib.hid (HON3.out.below_then hb1); have HRD5 := Lib.hid (HRD3.out.belowB hb1 hrb)
                    clear hown' hgrow hb1 ho1 k1 k2 k3 k4 k5
                    go_wp2_with fail
                    refine (pick_any rb _ 6 (by omega) _ HRD5.out).mono ?_
                    rintro e w6 ⟨u, rfl, hu, ho6, hr6⟩
                    have hown6 := HO1.out.lift ho6 hrb
                    have hon6 := HON5.out.trans ho6
                    obtain ⟨a6, c6, rfl⟩ := hown6.slice
                    have HOW6 := Lib.hid hown6; have HON6 := Lib.hid hon6; have HR6 := Lib.hid hr6
                    clear hown6 hon6 hr6 ho6 hu
                    by_cases hu0 : u = 0
                    · have hub : ((u : Int) == 0) = true := by rw [beq_iff_eq]; omega
                      clear hu0
                      go_wp2_with fail
                      go_meet
                      exact ⟨m + 1, by omega, HOW6.out, HON6.out, HR6.out.mono (by omega)⟩
                    · have hub : ((u : Int) == 0) = false := by rw [beq_eq_false_iff_ne]; omega
                      clear hu0
                      go_wp2_with fail
                      go_roundw
                      case rel => first | exact ⟨t + 1, m + 1, by omega, by omega, by go_num, HOW6.out, HON6.out, HR6.out.mono (by omega)⟩ | ((repeat apply Exists.intro); exact ⟨⟨t + 1, m + 1, by omega, by omega, by go_num, HOW6.out, HON6.out, HR6.out.mono (by omega)⟩, rfl⟩)
                      case measure => simp [intOf]; omega
          · have hqb : ((q : Int) == 0) = false := by rw [beq_eq_false_iff_ne]; omega
            clear hq0
            go_wp2_with fail
            go_loop [9, 10] (fun s i => ∃ (k : Nat) (bb : Bool), k ≤ m ∧ i = .int .i64 k ∧ s = .bool bb) (fun _ i => m - (intOf i).toNat)
            case atStart => exact ⟨0, _, Nat.zero_le _, rfl, rfl⟩
            case round =>
              obtain ⟨k, bb, hk, rfl, rfl⟩ := hrel
              by_cases hkm : k < m
              · obtain ⟨g, cp, f, hv, hBg, hgl, _, _, hrow, _, _⟩ := HOWN3.out.shape (by omega)
                injection hv with hv1 hv2 hv3
                subst hv1; subst hv3
                have hc : w4.cell? ⟨g, k, none⟩ = some (.int .i64 (f k)) := by have := hrow k hkm; rwa [Nat.zero_add] at this
                cases bb with
                | true =>
                  go_wp2_with fail
                  go_round
                  case rel => exact ⟨k + 1, _, by omega, by go_num, rfl⟩
                  case measure => simp [intOf]; omega
                | false =>
                  go_wp2_with fail
                  go_round
                  case rel => exact ⟨k + 1, _, by omega, by go_num, rfl⟩
                  case measure => simp [intOf]; omega
              · cases bb with
                | true =>
                  go_wp2_with fail
                  refine (pick_any rb _ 6 (by omega) _ HRD3.out).mono ?_
                  rintro e w6 ⟨u, rfl, hu, ho6, hr6⟩
                  have hown6 := HOWN3.out.lift ho6 hrb
                  have hon6 := HON3.out.trans ho6
                  have HOW6 := Lib.hid hown6; have HON6 := Lib.hid hon6; have HR6 := Lib.hid hr6
                  clear hown6 hon6 hr6 ho6 hu
                  by_cases hu0 : u = 0
                  · have hub : ((u : Int) == 0) = true := by rw [beq_iff_eq]; omega
                    clear hu0
                    go_wp2_with fail
                    go_meet
                    exact ⟨m, by omega, HOW6.out, HON6.out, HR6.out.mono (by omega)⟩
                  · have hub : ((u : Int) == 0) = false := by rw [beq_eq_false_iff_ne]; omega
                    clear hu0
                    go_wp2_with fail
                    go_roundw
                    case rel => first | exact ⟨t + 1, m, by omega, by omega, by go_num, HOW6.out, HON6.out, HR6.out.mono (by omega)⟩ | ((repeat apply Exists.intro); exact ⟨⟨t + 1, m, by omega, by omega, by go_num, HOW6.out, HON6.out, HR6.out.mono (by omega)⟩, rfl⟩)
                    case measure => simp [intOf]; omega
                | false =>
                  have hB := HON3.out.size
                  obtain ⟨xs, hxl, hx64, hrow⟩ := HOWN3.out
                  have HX := Lib.hid hxl; have HO := Lib.hid hrow
                  clear hxl hrow
                  have k1 := Lib.hid (fun (j : Nat) (u : Value) (h : [Value.int .i64 (1 + (z : Int))][j]? = some u) => cell_one_new w4 (.int .i64 (1 + (z : Int))) 3 j u h)
                  have k2 : Hid (∀ u ∈ [Value.int .i64 (1 + (z : Int))], u.oneCell' = true) := Lib.hid (by intro u hu; simp at hu; subst hu; rfl)
                  have k3 : Hid (m + 1 ≤ maxLen) := Lib.hid (by unfold maxLen; omega)
                  have k4 : Hid ((m + 1) * 8 ≤ 140737488355328) := Lib.hid (by omega)
                  have k5 : Hid (w.heap.size ≤ (w4.alloc (.cells #[.int .i64 (1 + (z : Int))] 3)).heap.size) := Lib.hid (by rw [alloc_size]; omega)
                  go_wp2_with (at_builtin; refine wpList_append_own _ rfl (.tmp 55) (.tmp 57) 28 rfl w.heap.size 3 i0 (.int .i64 0) 1 8 Tryz.underlying28 hi hz0 hz1 hz2 rfl (by decide) _ _ _ rfl (HO.out.alloc _) ⟨w4.heap.size, 0, none⟩ 1 1 [.int .i64 (1 + (z : Int))] rfl rfl k1.out k2.out k3.out k4.out k5.out ?_)
                  intro v' w5 hown' hgrow _
                  have hb1 : Below w.heap.size w4 w5 := ((Below.refl w.heap.size w4).alloc hB _).grown hgrow (by show _ ≤ (w4.heap.push _).size; rw [Array.size_push]; omega) (fun q hq => (HO.out.lt q hq).1)
                  have ho1 : OwnI w5 w.heap.size v' (m + 1) := by
                    have := HX.out; subst this
                    exact own_snoc hx64 (by unfold I64; omega) hown'
                  have HB1 := Lib.hid hb1; have HO1 := Lib.hid ho1
                  have HON5 := Lib.hid (HON3.out.below_then hb1); have HRD5 := Lib.hid (HRD3.out.belowB hb1 hrb)
                  clear hown' hgrow hb1 ho1 k1 k2 k3 k4 k5
                  go_wp2_with fail
                  refine (pick_any rb _ 6 (by omega) _ HRD5.out).mono ?_
                  rintro e w6 ⟨u, rfl, hu, ho6, hr6⟩
                  have hown6 := HO1.out.lift ho6 hrb
                  have hon6 := HON5.out.trans ho6
                  obtain ⟨a6, c6, rfl⟩ := hown6.slice
                  have HOW6 := Lib.hid hown6; have HON6 := Lib.hid hon6; have HR6 := Lib.hid hr6
                  clear hown6 hon6 hr6 ho6 hu
                  by_cases hu0 : u = 0
                  · have hub : ((u : Int) == 0) = true := by rw [beq_iff_eq]; omega
                    clear hu0
                    go_wp2_with fail
                    go_meet
                    exact ⟨m + 1, by omega, HOW6.out, HON6.out, HR6.out.mono (by omega)⟩
                  · have hub : ((u : Int) == 0) = false := by rw [beq_eq_false_iff_ne]; omega
                    clear hu0
                    go_wp2_with fail
                    go_roundw
                    case rel => first | exact ⟨t + 1, m + 1, by omega, by omega, by go_num, HOW6.out, HON6.out, HR6.out.mono (by omega)⟩ | ((repeat apply Exists.intro); exact ⟨⟨t + 1, m + 1, by omega, by omega, by go_num, HOW6.out, HON6.out, HR6.out.mono (by omega)⟩, rfl⟩)
                    case measure => simp [intOf]; omega
        · have hbm : decide ((m : Int) < 7) = false := by simp; omega
          go_wp2_with fail
          go_meet
          exact ⟨m, hm7, HOWN.out, HON.out, HRD.out.mono (by omega)⟩
      · have hbt : decide ((t : Int) < 12) = false := by simp; omega
        go_wp2_with fail
        go_meet
        exact ⟨m, hm7, HOWN.out, HON.out, HRD.out.mono (by omega)⟩
  case rest =>
    clear hst hs1 hs2 hs3 hs4 hptI hpt4 hy3
    obtain ⟨m, hm7, hown, hon, hrd⟩ := hcut
    have HON := Lib.hid hon; have HRD := Lib.hid hrd; have HOWN := Lib.hid hown; clear hon hrd hown
    obtain ⟨a5, c5, hv5⟩ := HOWN.out.slice
    subst hv5
    go_upto_if 64 with (fail)
    go_cut [5] (fun s5 wx => MidW rb P w s5 wx)
    case first =>
      by_cases hm0 : m = 0
      · subst hm0
        go_wp2_with fail
        go_meet
        exact ⟨1, by omega, by omega, OwnI.lit _ w.heap.size HON.out.size [1] one_I64 (by decide) _ rfl, HON.out.alloc _, HRD.out.below (alloc_below _ _)⟩
      · have hmb : ((m : Int) == 0) = false := by rw [beq_eq_false_iff_ne]; omega
        go_wp2_with fail
        go_meet
        exact ⟨m, by omega, hm7, HOWN.out, HON.out, HRD.out⟩
    case rest =>
      clear HON HRD HOWN hm7
      obtain ⟨m', hm1, hm7, hown, hon, hrd⟩ := hcut
      have HON := Lib.hid hon; have HRD := Lib.hid hrd; have HOWN := Lib.hid hown; clear hon hrd hown
      obtain ⟨g2, cp2, f2, hv2, hBg2, hgl2, _, _, hrow2, hf264, hfr2⟩ := HOWN.out.shape hm1
      subst hv2
      have HROW := Lib.hid hrow2; have HFR := Lib.hid hfr2; have HF64 := Lib.hid hf264
      clear hrow2 hfr2 hf264
      have hgrb : g2 ≠ rb := by omega
      go_wp2_with fail
      refine (odd_all rb _ n hn hn2 (by omega) _ HRD.out).mono ?_
      rintro e w4 ⟨bb, rfl, ho4, hr4⟩
      have HROW4 := Lib.hid (HROW.out.only ho4 hgl2 hgrb)
      have HFR4 := Lib.hid (fun j => (World.frozen?_of_block (a := ⟨g2, j, none⟩) (ho4.block g2 hgl2 hgrb)).trans (HFR.out j))
      have hgl4 : g2 < w4.heap.size := Nat.lt_of_lt_of_le hgl2 ho4.size
      have HOW4 := Lib.hid (HOWN.out.lift ho4 hrb); have HON4 := Lib.hid (HON.out.trans ho4); have HRD4 := Lib.hid hr4
      clear ho4 hr4 HON HRD HOWN HROW HFR
      cases bb with
      | false =>
        go_wp2_with fail
        go_ret
        exact ⟨_, m', rfl, by omega, HOW4.out, HON4.out, HRD4.out.mono (by omega)⟩
      | true =>
        go_wp2_with fail
        refine (pick_any rb _ 3 (by omega) _ HRD4.out).mono ?_
        rintro e w5 ⟨z, rfl, hz5, ho5, hr5⟩
        have HROW5 := Lib.hid (HROW4.out.only ho5 hgl4 hgrb)
        have HFR5 := Lib.hid (fun j => (World.frozen?_of_block (a := ⟨g2, j, none⟩) (ho5.block g2 hgl4 hgrb)).trans (HFR4.out j))
        have hgl5 : g2 < w5.heap.size := Nat.lt_of_lt_of_le hgl4 ho5.size
        have HOW5 := Lib.hid (HOW4.out.lift ho5 hrb); have HON5 := Lib.hid (HON4.out.trans ho5); have HRD5 := Lib.hid hr5
        have HSZ := Lib.hid HON5.out.size
        have hz3 : z < 3 := by omega
        clear ho5 hr5 HOW4 HON4 HRD4 HROW4 HFR4 hz5
        by_cases hz1' : z < 1
        · have hq0 : ((z : Int) == 0) = true := by rw [beq_iff_eq]; omega
          go_wp2_with fail
          go_ret
          exact ⟨_, 0, rfl, by omega, OwnI.lit w5 w.heap.size HSZ.out [] (fun x hx => by simp at hx) (by decide) _ rfl, HON5.out.alloc _, (HRD5.out.below (alloc_below _ _)).mono (by omega)⟩
        by_cases hz2' : z < 2
        · have hq0 : ((z : Int) == 0) = false := by rw [beq_eq_false_iff_ne]; omega
          have hq1 : ((z : Int) == 1) = true := by rw [beq_iff_eq]; omega
          have hc0 : w5.cell? ⟨g2, 0, none⟩ = some (.int .i64 (f2 0)) := by have := HROW5.out 0 (by omega); rwa [Nat.zero_add] at this
          have hm0i : (0 : Int) < (m' : Int) := by omega
          obtain ⟨y0, hy0⟩ : ∃ y0, f2 0 = y0 := ⟨_, rfl⟩
          have HY64 := Lib.hid (show I64 y0 by rw [← hy0]; exact HF64.out 0 (by omega))
          rw [hy0] at hc0
          clear hy0
          obtain ⟨xs, hxl, hx64, hrw⟩ := HOW5.out
          have HX := Lib.hid hxl; have HO := Lib.hid hrw
          clear hxl hrw
          have k1 := Lib.hid (fun (j : Nat) (u : Value) (h : [Value.int .i64 y0][j]? = some u) => cell_one_new w5 (.int .i64 y0) 3 j u h)
          have k2 : Hid (∀ u ∈ [Value.int .i64 y0], u.oneCell' = true) := Lib.hid (by intro u hu; simp at hu; subst hu; rfl)
          have k3 : Hid (m' + 1 ≤ maxLen) := Lib.hid (by unfold maxLen; omega)
          have k4 : Hid ((m' + 1) * 8 ≤ 140737488355328) := Lib.hid (by omega)
          have k5 : Hid (w.heap.size ≤ (w5.alloc (.cells #[.int .i64 y0] 3)).heap.size) := Lib.hid (by rw [alloc_size]; have := HSZ.out; omega)
          go_wp2_with (at_builtin; refine wpList_append_own _ rfl (.tmp 83) (.tmp 87) 28 rfl w.heap.size 3 i0 (.int .i64 0) 1 8 Tryz.underlying28 hi hz0 hz1 hz2 rfl (by decide) _ _ _ rfl (HO.out.alloc _) ⟨w5.heap.size, 0, none⟩ 1 1 [.int .i64 y0] rfl rfl k1.out k2.out k3.out k4.out k5.out ?_)
          intro v' w6 hown' hgrow _
          have hb1 : Below w.heap.size w5 w6 := ((Below.refl w.heap.size w5).alloc HSZ.out _).grown hgrow k5.out (fun q hq => (HO.out.lt q hq).1)
          have ho1 : OwnI w6 w.heap.size v' (m' + 1) := by
            have := HX.out; subst this
            exact own_snoc hx64 HY64.out hown'
          have HB1 := Lib.hid hb1; have HO1 := Lib.hid ho1
          clear hown' hgrow hb1 ho1 k1 k2 k3 k4 k5
          go_wp2_with fail
          go_ret
          exact ⟨_, m' + 1, rfl, by omega, HO1.out, HON5.out.below_then HB1.out, (HRD5.out.belowB HB1.out hrb).mono (by omega)⟩
        · have hq0 : ((z : Int) == 0) = false := by rw [beq_eq_false_iff_ne]; omega
          have hq1 : ((z : Int) == 1) = false := by rw [beq_eq_false_iff_ne]; omega
          have hlr := lit_row w5 [0, 16] _ rfl 2 (Nat.le_refl _) 3
          have hal := alloc_below w5 (.cells (([0, 16] : List Int).map (Value.int .i64)).toArray 3)
          have HLR := Lib.hid hlr
          have HRD6 := Lib.hid (HRD5.out.below hal)
          have HON6 := Lib.hid (HON5.out.alloc (.cells (([0, 16] : List Int).map (Value.int .i64)).toArray 3))
          have HOW6 := Lib.hid (HOW5.out.kept hal)
          have HROW6 := Lib.hid (HROW5.out.below hal hgl5)
          have HFR6 := Lib.hid (fun j => (hal.frozen (p := ⟨g2, j, none⟩) hgl5).trans (HFR5.out j))
          have hsz6 := alloc_size w5 (.cells (([0, 16] : List Int).map (Value.int .i64)).toArray 3)
          have HSZ6 := Lib.hid hsz6
          have hgl6 : g2 < (w5.alloc (.cells (([0, 16] : List Int).map (Value.int .i64)).toArray 3)).heap.size := Nat.lt_of_lt_of_le hgl5 hal.size
          have hrb5 : rb < w5.heap.size := HRD5.out.1
          have HM0 := Lib.hid (show (0 : Int) < (m' : Int) by omega)
          clear hlr hal hsz6 HRD5 HON5 HOW5 HROW5 HFR5
          go_wp2_with fail
          refine (pick_any rb _ 2 (by omega) _ HRD6.out).mono ?_
          rintro e w6 ⟨q, rfl, hq, ho6, hr6⟩
          have hq2 : q < 2 := by omega
          have hcq : w6.cell? ⟨w5.heap.size, q, none⟩ = some (.int .i64 (([0, 16] : List Int).getD q 0)) := by
            have := (HLR.out.only ho6 (by have := HSZ6.out; omega) (by omega)) q hq2
            rwa [Nat.zero_add] at this
          obtain ⟨x0, hx0⟩ : ∃ x0, ([0, 16] : List Int).getD q 0 = x0 := ⟨_, rfl⟩
          have hx64 : I64 x0 := by
            rw [← hx0]
            rcases (show q = 0 ∨ q = 1 by omega) with rfl | rfl <;> (simp; unfold I64; omega)
          rw [hx0] at hcq
          have hc0 : w6.cell? ⟨g2, 0, none⟩ = some (.int .i64 (f2 0)) := by
            have := (HROW6.out.only ho6 hgl6 hgrb) 0 (by omega)
            rwa [Nat.zero_add] at this
          have hf0 : w6.frozen? ⟨g2, 0, none⟩ = false := (World.frozen?_of_block (a := ⟨g2, 0, none⟩) (ho6.block g2 hgl6 hgrb)).trans (HFR6.out 0)
          have hm0 := HM0.out
          have HX64 := Lib.hid hx64
          have HOW7 := Lib.hid (HOW6.out.lift ho6 hrb); have HON7 := Lib.hid (HON6.out.trans ho6); have HRD7 := Lib.hid hr6
          clear ho6 hr6 hq hx0 hx64 HOW6 HON6 HRD6 HROW6 HFR6 HLR
          go_wp2_with fail
          go_ret
          exact ⟨_, m', rfl, by omega, HOW7.out.put HX64.out, HON7.out.fresh hBg2 0 _, (HRD7.out.belowB ((Below.refl w.heap.size w6).setCell hBg2 _) hrb).mono (by omega)⟩
end Go.Proofs.YthaickihoagnmaaGreatDoor
namespace Go.Proofs.YthaickihoagnmaaGreatDoor
open Go.RowKit Go.Maps
def LstR (w : World) (rb : Nat) (a : Option Addr) (m : Nat) : Prop :=
  m ≤ 100 ∧ (m = 0 ∨ ∃ b f, a = some ⟨b, 0, none⟩ ∧ b < w.heap.size ∧ b ≠ rb ∧ Row w b 0 m f ∧ ∀ i, i < m → I64 (f i))
theorem LstR.only {w w' : World} {rb m : Nat} {a : Option Addr} (h : LstR w rb a m) (ho : Only rb w w') : LstR w' rb a m := by
  obtain ⟨h1, h2⟩ := h
  refine ⟨h1, ?_⟩
  rcases h2 with h2 | ⟨b, f, h2, h3, h4, h5, h6⟩
  · exact .inl h2
  · exact .inr ⟨b, f, h2, Nat.lt_of_lt_of_le h3 ho.size, h4, h5.only ho h3 h4, h6⟩
theorem Blk2.only {w w' : World} {B rb : Nat} {t : TypeId} {x y : Value} (h : Blk2 w B t x y) (ho : Only rb w w') (hne : B ≠ rb) : Blk2 w' B t x y := (ho.block B h.lt hne).trans h
def DeedDrawn (rb P : Nat) (w : World) (e : Ending) (w' : World) : Prop :=
  ∃ k x : Int, e = .returned (.agg #[.int .i64 k, .int .i64 x]) ∧ 0 ≤ k ∧ k ≤ 9 ∧ I64 x ∧ Only rb w w' ∧ Rdr w' rb (P + 10)
def kd7 : List Int := [0, 0, 0, 1, 2, 3, 4]
theorem kd7_rng (u : Nat) : 0 ≤ kd7.getD u 0 ∧ kd7.getD u 0 ≤ 4 := by
  by_cases h : u < 7
  · have : u = 0 ∨ u = 1 ∨ u = 2 ∨ u = 3 ∨ u = 4 ∨ u = 5 ∨ u = 6 := by omega
    rcases this with rfl | rfl | rfl | rfl | rfl | rfl | rfl <;> decide
  · rw [List.getD_eq_getElem?_getD, List.getElem?_eq_none (show kd7.length ≤ u by show 7 ≤ u; omega)]; decide
theorem lit_int (W : World) (l : List Int) (arr : Array Value) (t : TypeId) (ha : arr = (l.map (Value.int .i64)).toArray) (q : Nat) (hq : q < l.length) :
    (W.alloc (.cells arr t)).cell? ⟨W.heap.size, q, none⟩ = some (.int .i64 (l.getD q 0)) := by
  subst ha
  have hrow := World.rowIs_alloc W (l.map (Value.int .i64)).toArray t (fun i => .int .i64 (l.getD i 0)) (by
    intro i hi
    simp at hi
    simp [List.getElem?_eq_getElem hi])
  exact hrow.cell (i := q) (by simpa using hq)
theorem cell_only {w w' : World} {rb : Nat} {p : Addr} {v : Value} (ho : Only rb w w') (h : w.cell? p = some v) (hne : p.block ≠ rb) : w'.cell? p = some v :=
  (World.cell?_of_block (a := p) (ho.block p.block (World.block_lt_of_cell? w _ h) hne)).trans h
theorem cell_al {w : World} {p : Addr} {v : Value} (o : Obj) (h : w.cell? p = some v) : (w.alloc o).cell? p = some v :=
  ((alloc_below w o).cell (World.block_lt_of_cell? w _ h)).trans h
theorem cell_dr {w : World} {p : Addr} {v : Value} (h : w.cell? p = some v) : w.drew.cell? p = some v := h
theorem Blk2.dr {w : World} {B : Nat} {t : TypeId} {x y : Value} (h : Blk2 w B t x y) : Blk2 w.drew B t x y := h
theorem Blk2.al {w : World} {B : Nat} {t : TypeId} {x y : Value} (h : Blk2 w B t x y) (o : Obj) : Blk2 (w.alloc o) B t x y := h.kept (alloc_below w o) h.lt
theorem Rdr.al {w : World} {rb P : Nat} (h : Rdr w rb P) (o : Obj) : Rdr (w.alloc o) rb P := h.below (alloc_below w o)
theorem kd7_at {u : Nat} {kq : Int} (h : kd7.getD u 0 = kq) : 0 ≤ kq ∧ kq ≤ 4 := by subst h; exact kd7_rng u
theorem lit1 (W : World) (u : Nat) (kq : Int) (hu : u < 7) (h : kd7.getD u 0 = kq) : (W.alloc (.cells #[.int .i64 0, .int .i64 0, .int .i64 0, .int .i64 1, .int .i64 2, .int .i64 3, .int .i64 4] 3)).cell? ⟨W.heap.size, u, none⟩ = some (.int .i64 kq) := by
  subst h; exact lit_int W kd7 _ 3 rfl u hu
theorem lit2 (W : World) (u : Nat) (kq : Int) (hu : u < 7) (h : kd7.getD u 0 = kq) : ((W.alloc (.cells #[.int .i64 0, .int .i64 0] 39)).alloc (.cells #[.int .i64 0, .int .i64 0, .int .i64 0, .int .i64 1, .int .i64 2, .int .i64 3, .int .i64 4] 3)).cell? ⟨W.heap.size + 1, u, none⟩ = some (.int .i64 kq) := by
  have := lit1 (W.alloc (.cells #[.int .i64 0, .int .i64 0] 39)) u kq hu h
  rwa [alloc_size] at this
theorem lit3 (W : World) (u : Nat) (kq : Int) (hu : u < 7) (h : kd7.getD u 0 = kq) : ((W.alloc (.cells #[.int .i64 0, .int .i64 0, .int .i64 0, .int .i64 1, .int .i64 2, .int .i64 3, .int .i64 4] 3)).alloc (.cells #[.int .i64 0, .int .i64 0] 39)).cell? ⟨W.heap.size, u, none⟩ = some (.int .i64 kq) :=
  cell_al _ (lit1 W u kq hu h)
theorem newa1 (W : World) : Blk2 (W.alloc (.cells #[.int .i64 0, .int .i64 0] 39)) W.heap.size 39 (.int .i64 0) (.int .i64 0) := Blk2.new W _ _ _
theorem newa2 (W : World) : Blk2 ((W.alloc (.cells #[.int .i64 0, .int .i64 0, .int .i64 0, .int .i64 1, .int .i64 2, .int .i64 3, .int .i64 4] 3)).alloc (.cells #[.int .i64 0, .int .i64 0] 39)) (W.heap.size + 1) 39 (.int .i64 0) (.int .i64 0) := by
  have := Blk2.new (W.alloc (.cells #[.int .i64 0, .int .i64 0, .int .i64 0, .int .i64 1, .int .i64 2, .int .i64 3, .int .i64 4] 3)) 39 (.int .i64 0) (.int .i64 0)
  rwa [alloc_size] at this
theorem newa3 (W : World) : Blk2 ((W.alloc (.cells #[.int .i64 0, .int .i64 0] 39)).alloc (.cells #[.int .i64 0, .int .i64 0, .int .i64 0, .int .i64 1, .int .i64 2, .int .i64 3, .int .i64 4] 3)) W.heap.size 39 (.int .i64 0) (.int .i64 0) := (newa1 W).al _
theorem div59 (v : Nat) (hv : v < 60) : ∃ q : Int, (v : Int).tdiv 59 = q ∧ 0 ≤ q ∧ q ≤ 1 := ⟨_, rfl, by rw [Int.tdiv_eq_ediv_of_nonneg (by omega)]; omega, by rw [Int.tdiv_eq_ediv_of_nonneg (by omega)]; omega⟩
theorem wrap_room {kq q : Int} (h : 0 ≤ kq ∧ kq ≤ 4) (h0 : 0 ≤ q) (h1 : q ≤ 1) : -9223372036854775808 ≤ kq + q * 5 ∧ kq + q * 5 ≤ 9223372036854775807 := by omega
theorem k_room {kq q : Int} (h : 0 ≤ kq ∧ kq ≤ 4) (h0 : 0 ≤ q) (h1 : q ≤ 1) : 0 ≤ kq + q * 5 ∧ kq + q * 5 ≤ 9 := by omega
def DeedM (rb P : Nat) (w1 : World) (s : Value) (wx : World) : Prop :=
  ∃ (k : Int) (B : Nat), s = .pointer (some ⟨B, 0, none⟩) ∧ w1.heap.size ≤ B ∧ 0 ≤ k ∧ k ≤ 9 ∧ Blk2 wx B 39 (.int .i64 k) (.int .i64 0) ∧ Only rb w1 wx ∧ Rdr wx rb (P + 2)
def DeedN (rb P : Nat) (w1 : World) (B : Nat) (k : Int) (wx : World) : Prop :=
  ∃ x : Int, I64 x ∧ Blk2 wx B 39 (.int .i64 k) (.int .i64 x) ∧ Only rb w1 wx ∧ Rdr wx rb P
theorem deedN_set {W w1 : World} {rb P B : Nat} {k x0 : Int} (x : Int) (ho : Only rb w1 W) (hr : Rdr W rb P) (hb : Blk2 W B 39 (.int .i64 k) (.int .i64 x0)) (hrb : rb < w1.heap.size) (hB : w1.heap.size ≤ B) (hx : I64 x) :
    DeedN rb P w1 B k (W.setCell ⟨B, 1, none⟩ (.int .i64 x)) :=
  ⟨x, hx, hb.set1 _, ho.fresh hB 1 _, hr.belowB ((Below.refl w1.heap.size W).setCell hB _) hrb⟩
theorem lit3_I64 (u : Nat) {y : Int} (h : ([-1, 16, 1] : List Int).getD u 0 = y) : I64 y := by
  subst h
  by_cases hu : u < 3
  · have : u = 0 ∨ u = 1 ∨ u = 2 := by omega
    rcases this with rfl | rfl | rfl <;> (simp; unfold I64; omega)
  · rw [List.getD_eq_getElem?_getD, List.getElem?_eq_none (show ([-1, 16, 1] : List Int).length ≤ u by show 3 ≤ u; omega)]; simp; unfold I64; omega
theorem deedR_end {w w1 W : World} {rb P : Nat} {k x : Int} (h0 : Only rb w w1) (h1 : Only rb w1 W) (hr : Rdr W rb (P + 10)) (hrb : rb < w.heap.size) (hk : 0 ≤ k) (hk9 : k ≤ 9) (hx : I64 x) :
    DeedDrawn rb P w (.returned (.agg #[.int .i64 k, .int .i64 x])) ((W.setCell ⟨w.heap.size, 0, none⟩ (.int .i64 k)).setCell ⟨w.heap.size, 1, none⟩ (.int .i64 x)) :=
  ⟨k, x, rfl, hk, hk9, hx, ((h0.trans h1).fresh (Nat.le_refl _) 0 _).fresh (Nat.le_refl _) 1 _,
    hr.belowB (((Below.refl w.heap.size W).setCell (Nat.le_refl _) _).setCell (Nat.le_refl _) _) hrb⟩
theorem fin_set {W w1 : World} {rb P B : Nat} {k : Int} (ho : Only rb w1 W) (hr : Rdr W rb (P + 1 + 1)) (hk : 0 ≤ k ∧ k ≤ 9) (hb : Blk2 W B 39 (.int .i64 0) (.int .i64 0)) (hrb : rb < w1.heap.size) (hB : w1.heap.size ≤ B) :
    DeedM rb P w1 (.pointer (some ⟨B, 0, none⟩)) ((W.setCell ⟨B, 0, none⟩ (.int .i64 k)).setCell ⟨B, 1, none⟩ (.int .i64 0)) :=
  ⟨k, B, rfl, hB, hk.1, hk.2, (hb.set0 _).set1 _, (ho.fresh hB 0 _).fresh hB 1 _,
    (hr.belowB (((Below.refl w1.heap.size W).setCell hB _).setCell hB _) hrb).mono (by omega)⟩
theorem fin_new {W w1 : World} {rb P : Nat} {k : Int} (ho : Only rb w1 W) (hr : Rdr W rb (P + 1 + 1)) (hk : 0 ≤ k ∧ k ≤ 9) :
    DeedM rb P w1 (.pointer (some ⟨W.heap.size, 0, none⟩)) (W.alloc (.cells #[.int .i64 k, .int .i64 0] 39)) :=
  ⟨k, _, rfl, ho.size, hk.1, hk.2, Blk2.new W _ _ _, ho.alloc _, (hr.al _).mono (by omega)⟩
theorem fin_new2 {W w1 : World} {rb P : Nat} {k : Int} (o : Obj) (ho : Only rb w1 W) (hr : Rdr W rb (P + 1 + 1)) (hk : 0 ≤ k ∧ k ≤ 9) :
    DeedM rb P w1 (.pointer (some ⟨W.heap.size + 1, 0, none⟩)) ((W.alloc o).alloc (.cells #[.int .i64 k, .int .i64 0] 39)) := by
  have := fin_new (ho.alloc o) (hr.al o) hk
  rwa [alloc_size] at this
theorem fin_al {W w1 : World} {rb P : Nat} {s : Value} (o : Obj) (h : DeedM rb P w1 s W) : DeedM rb P w1 s (W.alloc o) := by
  obtain ⟨k, B, rfl, h1, h2, h3, h4, h5, h6⟩ := h
  exact ⟨k, B, rfl, h1, h2, h3, h4.al o, h5.alloc o, h6.al o⟩
set_option maxRecDepth 100000 in
theorem deedR_any (rb P : Nat) (a : Option Addr) (m cap : Nat) (hP : P ≤ 100000) (w : World) (h : Rdr w rb P) (hl : LstR w rb a m) :
    Calls Tryz.prog 109 #[.pointer (some ⟨rb, 0, none⟩), .slice a m cap] w (DeedDrawn rb P w) := by
  have hrb : rb < w.heap.size := h.1
  have hal := alloc_below w (.cells #[.int .i64 0, .int .i64 0] 39)
  have HR := Lib.hid (h.below hal)
  have HL := Lib.hid (hl.only (Only.of_below hal))
  have HO0 := Lib.hid (Only.of_below (rb := rb) hal)
  have hsz := alloc_size w (.cells #[.int .i64 0, .int .i64 0] 39)
  have hbl := Blk2.new w 39 (.int .i64 0) (.int .i64 0)
  have HM := Lib.hid hl.1
  clear h hl hal
  go_enter Tryz.func109, Tryz.ntmps109
  go_wp2_with fail
  obtain ⟨w1, hw1⟩ : ∃ w1, w.alloc (.cells #[.int .i64 0, .int .i64 0] 39) = w1 := ⟨_, rfl⟩
  rw [hw1] at HR HL HO0 hsz hbl ⊢
  clear hw1
  have hrb1 : rb < w1.heap.size := HR.out.1
  have HBL := Lib.hid hbl
  have HSZ := Lib.hid hsz
  clear hbl hsz
  go_cut [5] (fun s wx => DeedM rb P w1 s wx)
  case first =>
    have hrb1 : rb < w1.heap.size := HR.out.1
    have HPo := Lib.hid (show Rdr (World.drew w1) rb P from Rdr.drx HR.out)
    have HQo := Lib.hid (show Only rb w1 (World.drew w1) from (Only.refl rb w1).trans (only_drx _ _))
    have HPb := Lib.hid (show Rdr (World.drew (w1.alloc (.cells #[.int .i64 0, .int .i64 0, .int .i64 0, .int .i64 1, .int .i64 2, .int .i64 3, .int .i64 4] 3))) rb P from Rdr.drx (HR.out.al _))
    have HQb := Lib.hid (show Only rb w1 (World.drew (w1.alloc (.cells #[.int .i64 0, .int .i64 0, .int .i64 0, .int .i64 1, .int .i64 2, .int .i64 3, .int .i64 4] 3))) from ((Only.refl rb w1).alloc (.cells #[.int .i64 0, .int .i64 0, .int .i64 0, .int .i64 1, .int .i64 2, .int .i64 3, .int .i64 4] 3)).trans (only_drx _ _))
    have HPa := Lib.hid (show Rdr (World.drew (w1.alloc (.cells #[.int .i64 0, .int .i64 0] 39))) rb P from Rdr.drx (HR.out.al _))
    have HQa := Lib.hid (show Only rb w1 (World.drew (w1.alloc (.cells #[.int .i64 0, .int .i64 0] 39))) from ((Only.refl rb w1).alloc (.cells #[.int .i64 0, .int .i64 0] 39)).trans (only_drx _ _))
    have HPba := Lib.hid (show Rdr (World.drew ((w1.alloc (.cells #[.int .i64 0, .int .i64 0, .int .i64 0, .int .i64 1, .int .i64 2, .int .i64 3, .int .i64 4] 3)).alloc (.cells #[.int .i64 0, .int .i64 0] 39))) rb P from Rdr.drx ((HR.out.al _).al _))
    have HQba := Lib.hid (show Only rb w1 (World.drew ((w1.alloc (.cells #[.int .i64 0, .int .i64 0, .int .i64 0, .int .i64 1, .int .i64 2, .int .i64 3, .int .i64 4] 3)).alloc (.cells #[.int .i64 0, .int .i64 0] 39))) from (((Only.refl rb w1).alloc (.cells #[.int .i64 0, .int .i64 0, .int .i64 0, .int .i64 1, .int .i64 2, .int .i64 3, .int .i64 4] 3)).alloc (.cells #[.int .i64 0, .int .i64 0] 39)).trans (only_drx _ _))
    have HPab := Lib.hid (show Rdr (World.drew ((w1.alloc (.cells #[.int .i64 0, .int .i64 0] 39)).alloc (.cells #[.int .i64 0, .int .i64 0, .int .i64 0, .int .i64 1, .int .i64 2, .int .i64 3, .int .i64 4] 3))) rb P from Rdr.drx ((HR.out.al _).al _))
    have HQab := Lib.hid (show Only rb w1 (World.drew ((w1.alloc (.cells #[.int .i64 0, .int .i64 0] 39)).alloc (.cells #[.int .i64 0, .int .i64 0, .int .i64 0, .int .i64 1, .int .i64 2, .int .i64 3, .int .i64 4] 3))) from (((Only.refl rb w1).alloc (.cells #[.int .i64 0, .int .i64 0] 39)).alloc (.cells #[.int .i64 0, .int .i64 0, .int .i64 0, .int .i64 1, .int .i64 2, .int .i64 3, .int .i64 4] 3)).trans (only_drx _ _))
    go_region_with (first | (go_at_call 42; go_fit (pick_any rb _ 60 (by omega) _ HR5o.out); rintro e w6 ⟨v, rfl, hv, ho, hr⟩; have HO6 := Lib.hid (HO5.out.trans ho); have HR6 := Lib.hid hr; obtain ⟨q, hq, hq0, hq1⟩ := div59 v (by omega); have hw0 : IntKind.i64.wrap q = q := (IntWalk.i64_in _ (by omega)); have hw1 : IntKind.i64.wrap (q * 5) = q * 5 := (IntWalk.i64_in _ (by omega)); have hw2 : IntKind.i64.wrap (kq + q * 5) = kq + q * 5 := (IntWalk.i64_in _ (wrap_room HKQ.out hq0 hq1)); have HK := Lib.hid (k_room HKQ.out hq0 hq1); obtain ⟨k, hk⟩ : ∃ k, kq + q * 5 = k := ⟨_, rfl⟩; rw [hk] at hw2 HK; clear hq0 hq1; clear hl1 hl2 hl3; have hl1 := lit1 w6 u kq hu4 HKU.out; have hl2 := lit3 w6 u kq hu4 HKU.out; have hl3 := lit2 w6 u kq hu4 HKU.out; clear ho hr hv) | (go_at_call 42; go_fit (pick_any rb _ 60 (by omega) _ (HR5o.out.al (.cells #[.int .i64 0, .int .i64 0, .int .i64 0, .int .i64 1, .int .i64 2, .int .i64 3, .int .i64 4] 3))); rintro e w6 ⟨v, rfl, hv, ho, hr⟩; have HO6 := Lib.hid ((HO5.out.alloc (.cells #[.int .i64 0, .int .i64 0, .int .i64 0, .int .i64 1, .int .i64 2, .int .i64 3, .int .i64 4] 3)).trans ho); have HR6 := Lib.hid hr; obtain ⟨q, hq, hq0, hq1⟩ := div59 v (by omega); have hw0 : IntKind.i64.wrap q = q := (IntWalk.i64_in _ (by omega)); have hw1 : IntKind.i64.wrap (q * 5) = q * 5 := (IntWalk.i64_in _ (by omega)); have hw2 : IntKind.i64.wrap (kq + q * 5) = kq + q * 5 := (IntWalk.i64_in _ (wrap_room HKQ.out hq0 hq1)); have HK := Lib.hid (k_room HKQ.out hq0 hq1); obtain ⟨k, hk⟩ : ∃ k, kq + q * 5 = k := ⟨_, rfl⟩; rw [hk] at hw2 HK; clear hq0 hq1; have HC6 := Lib.hid (cell_only ho (lit1 w5 u kq hu4 HKU.out) (Nat.ne_of_gt hrb5)); clear hl1 hl2 hl3; have hl1 := HC6.out; have hl2 := cell_al (.cells #[.int .i64 0, .int .i64 0] 39) hl1; clear ho hr hv) | (go_at_call 42; go_fit (pick_any rb _ 60 (by omega) _ (HR5o.out.al (.cells #[.int .i64 0, .int .i64 0] 39))); rintro e w6 ⟨v, rfl, hv, ho, hr⟩; have HO6 := Lib.hid ((HO5.out.alloc (.cells #[.int .i64 0, .int .i64 0] 39)).trans ho); have HR6 := Lib.hid hr; obtain ⟨q, hq, hq0, hq1⟩ := div59 v (by omega); have hw0 : IntKind.i64.wrap q = q := (IntWalk.i64_in _ (by omega)); have hw1 : IntKind.i64.wrap (q * 5) = q * 5 := (IntWalk.i64_in _ (by omega)); have hw2 : IntKind.i64.wrap (kq + q * 5) = kq + q * 5 := (IntWalk.i64_in _ (wrap_room HKQ.out hq0 hq1)); have HK := Lib.hid (k_room HKQ.out hq0 hq1); obtain ⟨k, hk⟩ : ∃ k, kq + q * 5 = k := ⟨_, rfl⟩; rw [hk] at hw2 HK; clear hq0 hq1; have HB6 := Lib.hid (Blk2.only (newa1 w5) ho (Nat.ne_of_gt hrb5)); clear hl1 hl2 hl3; have hl1 := lit1 w6 u kq hu4 HKU.out; have hB0 := HB6.out.cell.1; have hB1 := HB6.out.cell.2; have hf0 := HB6.out.frozen 0; have hf1 := HB6.out.frozen 1; have HB7 := Lib.hid (Blk2.al HB6.out (.cells #[.int .i64 0, .int .i64 0, .int .i64 0, .int .i64 1, .int .i64 2, .int .i64 3, .int .i64 4] 3)); have hB2 := HB7.out.cell.1; have hB3 := HB7.out.cell.2; have hf2 := HB7.out.frozen 0; have hf3 := HB7.out.frozen 1; clear ho hr hv) | (go_at_call 42; go_fit (pick_any rb _ 60 (by omega) _ ((HR5o.out.al (.cells #[.int .i64 0, .int .i64 0, .int .i64 0, .int .i64 1, .int .i64 2, .int .i64 3, .int .i64 4] 3)).al (.cells #[.int .i64 0, .int .i64 0] 39))); rintro e w6 ⟨v, rfl, hv, ho, hr⟩; have HO6 := Lib.hid (((HO5.out.alloc (.cells #[.int .i64 0, .int .i64 0, .int .i64 0, .int .i64 1, .int .i64 2, .int .i64 3, .int .i64 4] 3)).alloc (.cells #[.int .i64 0, .int .i64 0] 39)).trans ho); have HR6 := Lib.hid hr; obtain ⟨q, hq, hq0, hq1⟩ := div59 v (by omega); have hw0 : IntKind.i64.wrap q = q := (IntWalk.i64_in _ (by omega)); have hw1 : IntKind.i64.wrap (q * 5) = q * 5 := (IntWalk.i64_in _ (by omega)); have hw2 : IntKind.i64.wrap (kq + q * 5) = kq + q * 5 := (IntWalk.i64_in _ (wrap_room HKQ.out hq0 hq1)); have HK := Lib.hid (k_room HKQ.out hq0 hq1); obtain ⟨k, hk⟩ : ∃ k, kq + q * 5 = k := ⟨_, rfl⟩; rw [hk] at hw2 HK; clear hq0 hq1; have HC6 := Lib.hid (cell_only ho (lit3 w5 u kq hu4 HKU.out) (Nat.ne_of_gt hrb5)); have HB6 := Lib.hid (Blk2.only (newa2 w5) ho (Nat.ne_of_gt (Nat.lt_succ_of_lt hrb5))); clear hl1 hl2 hl3; have hl1 := HC6.out; have hB0 := HB6.out.cell.1; have hB1 := HB6.out.cell.2; have hf0 := HB6.out.frozen 0; have hf1 := HB6.out.frozen 1; clear ho hr hv) | (go_at_call 42; go_fit (pick_any rb _ 60 (by omega) _ ((HR5o.out.al (.cells #[.int .i64 0, .int .i64 0] 39)).al (.cells #[.int .i64 0, .int .i64 0, .int .i64 0, .int .i64 1, .int .i64 2, .int .i64 3, .int .i64 4] 3))); rintro e w6 ⟨v, rfl, hv, ho, hr⟩; have HO6 := Lib.hid (((HO5.out.alloc (.cells #[.int .i64 0, .int .i64 0] 39)).alloc (.cells #[.int .i64 0, .int .i64 0, .int .i64 0, .int .i64 1, .int .i64 2, .int .i64 3, .int .i64 4] 3)).trans ho); have HR6 := Lib.hid hr; obtain ⟨q, hq, hq0, hq1⟩ := div59 v (by omega); have hw0 : IntKind.i64.wrap q = q := (IntWalk.i64_in _ (by omega)); have hw1 : IntKind.i64.wrap (q * 5) = q * 5 := (IntWalk.i64_in _ (by omega)); have hw2 : IntKind.i64.wrap (kq + q * 5) = kq + q * 5 := (IntWalk.i64_in _ (wrap_room HKQ.out hq0 hq1)); have HK := Lib.hid (k_room HKQ.out hq0 hq1); obtain ⟨k, hk⟩ : ∃ k, kq + q * 5 = k := ⟨_, rfl⟩; rw [hk] at hw2 HK; clear hq0 hq1; have HC6 := Lib.hid (cell_only ho (lit2 w5 u kq hu4 HKU.out) (Nat.ne_of_gt (Nat.lt_succ_of_lt hrb5))); have HB6 := Lib.hid (Blk2.only (newa3 w5) ho (Nat.ne_of_gt hrb5)); clear hl1 hl2 hl3; have hl1 := HC6.out; have hB0 := HB6.out.cell.1; have hB1 := HB6.out.cell.2; have hf0 := HB6.out.frozen 0; have hf1 := HB6.out.frozen 1; clear ho hr hv) | (go_at_call 42; go_fit (pick_any rb _ 60 (by omega) _ HR5b.out); rintro e w6 ⟨v, rfl, hv, ho, hr⟩; have HO6 := Lib.hid (HO5.out.trans ho); have HR6 := Lib.hid hr; obtain ⟨q, hq, hq0, hq1⟩ := div59 v (by omega); have hw0 : IntKind.i64.wrap q = q := (IntWalk.i64_in _ (by omega)); have hw1 : IntKind.i64.wrap (q * 5) = q * 5 := (IntWalk.i64_in _ (by omega)); have hw2 : IntKind.i64.wrap (kq + q * 5) = kq + q * 5 := (IntWalk.i64_in _ (wrap_room HKQ.out hq0 hq1)); have HK := Lib.hid (k_room HKQ.out hq0 hq1); obtain ⟨k, hk⟩ : ∃ k, kq + q * 5 = k := ⟨_, rfl⟩; rw [hk] at hw2 HK; clear hq0 hq1; have HC6 := Lib.hid (cell_only ho HC5.out (Nat.ne_of_gt hrb1)); clear hl1 hl2; have hl1 := HC6.out; have hl2 := cell_al (.cells #[.int .i64 0, .int .i64 0] 39) hl1; clear ho hr hv) | (go_at_call 42; go_fit (pick_any rb _ 60 (by omega) _ (HR5b.out.al (.cells #[.int .i64 0, .int .i64 0] 39))); rintro e w6 ⟨v, rfl, hv, ho, hr⟩; have HO6 := Lib.hid ((HO5.out.alloc (.cells #[.int .i64 0, .int .i64 0] 39)).trans ho); have HR6 := Lib.hid hr; obtain ⟨q, hq, hq0, hq1⟩ := div59 v (by omega); have hw0 : IntKind.i64.wrap q = q := (IntWalk.i64_in _ (by omega)); have hw1 : IntKind.i64.wrap (q * 5) = q * 5 := (IntWalk.i64_in _ (by omega)); have hw2 : IntKind.i64.wrap (kq + q * 5) = kq + q * 5 := (IntWalk.i64_in _ (wrap_room HKQ.out hq0 hq1)); have HK := Lib.hid (k_room HKQ.out hq0 hq1); obtain ⟨k, hk⟩ : ∃ k, kq + q * 5 = k := ⟨_, rfl⟩; rw [hk] at hw2 HK; clear hq0 hq1; have HC6 := Lib.hid (cell_only ho (cell_al (.cells #[.int .i64 0, .int .i64 0] 39) HC5.out) (Nat.ne_of_gt hrb1)); have HB6 := Lib.hid (Blk2.only (newa1 w5) ho (Nat.ne_of_gt hrb5)); clear hl1 hl2; have hl1 := HC6.out; have hB0 := HB6.out.cell.1; have hB1 := HB6.out.cell.2; have hf0 := HB6.out.frozen 0; have hf1 := HB6.out.frozen 1; clear ho hr hv) | (go_at_call 42; go_fit (pick_any rb _ 60 (by omega) _ HR5a.out); rintro e w6 ⟨v, rfl, hv, ho, hr⟩; have HO6 := Lib.hid (HO5.out.trans ho); have HR6 := Lib.hid hr; obtain ⟨q, hq, hq0, hq1⟩ := div59 v (by omega); have hw0 : IntKind.i64.wrap q = q := (IntWalk.i64_in _ (by omega)); have hw1 : IntKind.i64.wrap (q * 5) = q * 5 := (IntWalk.i64_in _ (by omega)); have hw2 : IntKind.i64.wrap (kq + q * 5) = kq + q * 5 := (IntWalk.i64_in _ (wrap_room HKQ.out hq0 hq1)); have HK := Lib.hid (k_room HKQ.out hq0 hq1); obtain ⟨k, hk⟩ : ∃ k, kq + q * 5 = k := ⟨_, rfl⟩; rw [hk] at hw2 HK; clear hq0 hq1; have HB6 := Lib.hid (Blk2.only HB5.out ho (Nat.ne_of_gt hrb1)); clear hl1; have hl1 := lit1 w6 u kq hu4 HKU.out; have hB0 := HB6.out.cell.1; have hB1 := HB6.out.cell.2; have hf0 := HB6.out.frozen 0; have hf1 := HB6.out.frozen 1; have HB7 := Lib.hid (Blk2.al HB6.out (.cells #[.int .i64 0, .int .i64 0, .int .i64 0, .int .i64 1, .int .i64 2, .int .i64 3, .int .i64 4] 3)); have hB2 := HB7.out.cell.1; have hB3 := HB7.out.cell.2; have hf2 := HB7.out.frozen 0; have hf3 := HB7.out.frozen 1; clear ho hr hv) | (go_at_call 42; go_fit (pick_any rb _ 60 (by omega) _ (HR5a.out.al (.cells #[.int .i64 0, .int .i64 0, .int .i64 0, .int .i64 1, .int .i64 2, .int .i64 3, .int .i64 4] 3))); rintro e w6 ⟨v, rfl, hv, ho, hr⟩; have HO6 := Lib.hid ((HO5.out.alloc (.cells #[.int .i64 0, .int .i64 0, .int .i64 0, .int .i64 1, .int .i64 2, .int .i64 3, .int .i64 4] 3)).trans ho); have HR6 := Lib.hid hr; obtain ⟨q, hq, hq0, hq1⟩ := div59 v (by omega); have hw0 : IntKind.i64.wrap q = q := (IntWalk.i64_in _ (by omega)); have hw1 : IntKind.i64.wrap (q * 5) = q * 5 := (IntWalk.i64_in _ (by omega)); have hw2 : IntKind.i64.wrap (kq + q * 5) = kq + q * 5 := (IntWalk.i64_in _ (wrap_room HKQ.out hq0 hq1)); have HK := Lib.hid (k_room HKQ.out hq0 hq1); obtain ⟨k, hk⟩ : ∃ k, kq + q * 5 = k := ⟨_, rfl⟩; rw [hk] at hw2 HK; clear hq0 hq1; have HC6 := Lib.hid (cell_only ho (lit1 w5 u kq hu4 HKU.out) (Nat.ne_of_gt hrb5)); have HB6 := Lib.hid (Blk2.only (Blk2.al HB5.out (.cells #[.int .i64 0, .int .i64 0, .int .i64 0, .int .i64 1, .int .i64 2, .int .i64 3, .int .i64 4] 3)) ho (Nat.ne_of_gt hrb1)); clear hl1; have hl1 := HC6.out; have hB0 := HB6.out.cell.1; have hB1 := HB6.out.cell.2; have hf0 := HB6.out.frozen 0; have hf1 := HB6.out.frozen 1; clear ho hr hv) | (go_at_call 42; go_fit (pick_any rb _ 60 (by omega) _ HR5ba.out); rintro e w6 ⟨v, rfl, hv, ho, hr⟩; have HO6 := Lib.hid (HO5.out.trans ho); have HR6 := Lib.hid hr; obtain ⟨q, hq, hq0, hq1⟩ := div59 v (by omega); have hw0 : IntKind.i64.wrap q = q := (IntWalk.i64_in _ (by omega)); have hw1 : IntKind.i64.wrap (q * 5) = q * 5 := (IntWalk.i64_in _ (by omega)); have hw2 : IntKind.i64.wrap (kq + q * 5) = kq + q * 5 := (IntWalk.i64_in _ (wrap_room HKQ.out hq0 hq1)); have HK := Lib.hid (k_room HKQ.out hq0 hq1); obtain ⟨k, hk⟩ : ∃ k, kq + q * 5 = k := ⟨_, rfl⟩; rw [hk] at hw2 HK; clear hq0 hq1; have HC6 := Lib.hid (cell_only ho HC5.out (Nat.ne_of_gt hrb1)); have HB6 := Lib.hid (Blk2.only HB5.out ho (Nat.ne_of_gt (Nat.lt_succ_of_lt hrb1))); clear hl1; have hl1 := HC6.out; have hB0 := HB6.out.cell.1; have hB1 := HB6.out.cell.2; have hf0 := HB6.out.frozen 0; have hf1 := HB6.out.frozen 1; clear ho hr hv) | (go_at_call 42; go_fit (pick_any rb _ 60 (by omega) _ HR5ab.out); rintro e w6 ⟨v, rfl, hv, ho, hr⟩; have HO6 := Lib.hid (HO5.out.trans ho); have HR6 := Lib.hid hr; obtain ⟨q, hq, hq0, hq1⟩ := div59 v (by omega); have hw0 : IntKind.i64.wrap q = q := (IntWalk.i64_in _ (by omega)); have hw1 : IntKind.i64.wrap (q * 5) = q * 5 := (IntWalk.i64_in _ (by omega)); have hw2 : IntKind.i64.wrap (kq + q * 5) = kq + q * 5 := (IntWalk.i64_in _ (wrap_room HKQ.out hq0 hq1)); have HK := Lib.hid (k_room HKQ.out hq0 hq1); obtain ⟨k, hk⟩ : ∃ k, kq + q * 5 = k := ⟨_, rfl⟩; rw [hk] at hw2 HK; clear hq0 hq1; have HC6 := Lib.hid (cell_only ho HC5.out (Nat.ne_of_gt (Nat.lt_succ_of_lt hrb1))); have HB6 := Lib.hid (Blk2.only HB5.out ho (Nat.ne_of_gt hrb1)); clear hl1; have hl1 := HC6.out; have hB0 := HB6.out.cell.1; have hB1 := HB6.out.cell.2; have hf0 := HB6.out.frozen 0; have hf1 := HB6.out.frozen 1; clear ho hr hv) | (go_at_call 42; go_fit (pick_any rb _ 7 (by omega) _ HPo.out); rintro e w5 ⟨u, rfl, hu, ho, hr⟩; have hu4 : u < 7 := (by omega); have hui : (u : Int) < 7 := (by omega); have hui0 : (0 : Int) ≤ (u : Int) := (by omega); obtain ⟨kq, hkq⟩ : ∃ kq, kd7.getD u 0 = kq := ⟨_, rfl⟩; have HKU := Lib.hid hkq; have HKQ := Lib.hid (kd7_at hkq); clear hkq; have HO5 := Lib.hid (HQo.out.trans ho); have HR5o := Lib.hid hr; have hrb5 : rb < w5.heap.size := hr.1; have hz5 : w1.heap.size ≤ w5.heap.size := HO5.out.size; have hl1 := lit1 w5 u kq hu4 HKU.out; have hl2 := lit3 w5 u kq hu4 HKU.out; have hl3 := lit2 w5 u kq hu4 HKU.out; clear hu ho hr) | (go_at_call 42; go_fit (pick_any rb _ 7 (by omega) _ HPb.out); rintro e w5 ⟨u, rfl, hu, ho, hr⟩; have hu4 : u < 7 := (by omega); have hui : (u : Int) < 7 := (by omega); have hui0 : (0 : Int) ≤ (u : Int) := (by omega); obtain ⟨kq, hkq⟩ : ∃ kq, kd7.getD u 0 = kq := ⟨_, rfl⟩; have HKU := Lib.hid hkq; have HKQ := Lib.hid (kd7_at hkq); clear hkq; have HO5 := Lib.hid (HQb.out.trans ho); have HR5b := Lib.hid hr; have hrb5 : rb < w5.heap.size := hr.1; have hz5 : w1.heap.size ≤ w5.heap.size := HO5.out.size; have HC5 := Lib.hid (cell_only ho (cell_dr (lit1 w1 u kq hu4 HKU.out)) (Nat.ne_of_gt hrb1)); have hl1 := HC5.out; have hl2 := cell_al (.cells #[.int .i64 0, .int .i64 0] 39) hl1; clear hu ho hr) | (go_at_call 42; go_fit (pick_any rb _ 7 (by omega) _ HPa.out); rintro e w5 ⟨u, rfl, hu, ho, hr⟩; have hu4 : u < 7 := (by omega); have hui : (u : Int) < 7 := (by omega); have hui0 : (0 : Int) ≤ (u : Int) := (by omega); obtain ⟨kq, hkq⟩ : ∃ kq, kd7.getD u 0 = kq := ⟨_, rfl⟩; have HKU := Lib.hid hkq; have HKQ := Lib.hid (kd7_at hkq); clear hkq; have HO5 := Lib.hid (HQa.out.trans ho); have HR5a := Lib.hid hr; have hrb5 : rb < w5.heap.size := hr.1; have hz5 : w1.heap.size ≤ w5.heap.size := HO5.out.size; have HB5 := Lib.hid (Blk2.only (Blk2.dr (newa1 w1)) ho (Nat.ne_of_gt hrb1)); have hl1 := lit1 w5 u kq hu4 HKU.out; clear hu ho hr) | (go_at_call 42; go_fit (pick_any rb _ 7 (by omega) _ HPba.out); rintro e w5 ⟨u, rfl, hu, ho, hr⟩; have hu4 : u < 7 := (by omega); have hui : (u : Int) < 7 := (by omega); have hui0 : (0 : Int) ≤ (u : Int) := (by omega); obtain ⟨kq, hkq⟩ : ∃ kq, kd7.getD u 0 = kq := ⟨_, rfl⟩; have HKU := Lib.hid hkq; have HKQ := Lib.hid (kd7_at hkq); clear hkq; have HO5 := Lib.hid (HQba.out.trans ho); have HR5ba := Lib.hid hr; have hrb5 : rb < w5.heap.size := hr.1; have hz5 : w1.heap.size ≤ w5.heap.size := HO5.out.size; have HC5 := Lib.hid (cell_only ho (cell_dr (lit3 w1 u kq hu4 HKU.out)) (Nat.ne_of_gt hrb1)); have HB5 := Lib.hid (Blk2.only (Blk2.dr (newa2 w1)) ho (Nat.ne_of_gt (Nat.lt_succ_of_lt hrb1))); have hl1 := HC5.out; clear hu ho hr) | (go_at_call 42; go_fit (pick_any rb _ 7 (by omega) _ HPab.out); rintro e w5 ⟨u, rfl, hu, ho, hr⟩; have hu4 : u < 7 := (by omega); have hui : (u : Int) < 7 := (by omega); have hui0 : (0 : Int) ≤ (u : Int) := (by omega); obtain ⟨kq, hkq⟩ : ∃ kq, kd7.getD u 0 = kq := ⟨_, rfl⟩; have HKU := Lib.hid hkq; have HKQ := Lib.hid (kd7_at hkq); clear hkq; have HO5 := Lib.hid (HQab.out.trans ho); have HR5ab := Lib.hid hr; have hrb5 : rb < w5.heap.size := hr.1; have hz5 : w1.heap.size ≤ w5.heap.size := HO5.out.size; have HC5 := Lib.hid (cell_only ho (cell_dr (lit2 w1 u kq hu4 HKU.out)) (Nat.ne_of_gt (Nat.lt_succ_of_lt hrb1))); have HB5 := Lib.hid (Blk2.only (Blk2.dr (newa3 w1)) ho (Nat.ne_of_gt hrb1)); have hl1 := HC5.out; clear hu ho hr))
    all_goals go_wp2_with fail
    all_goals go_meet
    all_goals first
      | exact fin_set HO6.out HR6.out HK.out HB6.out hrb1 (by omega)
      | exact fin_set (HO6.out.alloc _) (HR6.out.al _) HK.out HB7.out hrb1 (by omega)
      | exact fin_new HO6.out HR6.out HK.out
      | exact fin_new2 _ HO6.out HR6.out HK.out
      | exact fin_al _ (fin_new HO6.out HR6.out HK.out)
  case rest =>
    obtain ⟨k, B, rfl, hB, hk0, hk9, hbb, ho, hr⟩ := hcut
    have HBB := Lib.hid hbb; have HO := Lib.hid ho; have HR := Lib.hid hr
    have hBr : B ≠ rb := by have := HR.out.1; have := HO0.out.size; have := HSZ.out; omega
    have hcb := HBB.out.cell.1
    clear hbb ho hr
    go_upto_block 0 with fail
    go_cut [] (fun wx => DeedN rb (P + 6) w1 B k wx)
    case first =>
      have hc1 := HBB.out.cell.2
      have hf1 := HBB.out.frozen 1
      by_cases hk : k = 0
      · have hkb : (k == 0) = true := by rw [beq_iff_eq]; exact hk
        clear hk
        go_wp2_with fail
        refine (pick_any rb _ 15 (by omega) _ HR.out).mono ?_
        rintro e w5 ⟨y, rfl, hy, ho, hr⟩
        have hy15 : y < 15 := by omega
        replace HBB := Lib.hid (HBB.out.only ho hBr); replace HO := Lib.hid (HO.out.trans ho); replace HR := Lib.hid hr
        clear hcb hc1 hf1 hy ho hr
        have hc1 := HBB.out.cell.2
        have hf1 := HBB.out.frozen 1
        go_wp2_with fail
        go_meet
        exact deedN_set (1 + (y : Int)) HO.out (HR.out.mono (by omega)) HBB.out hrb1 hB (by unfold I64; omega)
      · have hkb : (k == 0) = false := by rw [beq_eq_false_iff_ne]; exact hk
        clear hk
        by_cases hk' : k = 1
        · have hkb' : (k == 1) = true := by rw [beq_iff_eq]; exact hk'
          clear hk'
          go_wp2_with fail
          refine (pick_any rb _ 15 (by omega) _ HR.out).mono ?_
          rintro e w5 ⟨y, rfl, hy, ho, hr⟩
          have hy15 : y < 15 := by omega
          replace HBB := Lib.hid (HBB.out.only ho hBr); replace HO := Lib.hid (HO.out.trans ho); replace HR := Lib.hid hr
          clear hcb hc1 hf1 hy ho hr
          have hc1 := HBB.out.cell.2
          have hf1 := HBB.out.frozen 1
          have HN := Lib.hid (deedN_set (1 + (y : Int)) HO.out (HR.out.mono (show P + 2 + 1 ≤ P + 4 by omega)) HBB.out hrb1 hB (by unfold I64; omega))
          by_cases hm : 0 < m
          · have hmi : (0 : Int) < (m : Int) := by omega
            have hmb : decide ((0 : Int) < (m : Int)) = true := decide_eq_true hmi
            have hmb2 : decide (0 < m) = true := decide_eq_true hm
            go_wp2_with fail
            obtain ⟨x0, hx0, hbb, ho0, hr0⟩ := HN.out
            have HX0 := Lib.hid hx0; have HBB0 := Lib.hid hbb; have HO0' := Lib.hid ho0; have HR0 := Lib.hid hr0
            clear hx0 hbb ho0 hr0 HN HBB HO HR hc1 hf1
            refine (pick_any rb _ _ (by have := HM.out; omega) _ HR0.out).mono ?_
            rintro e w6 ⟨z, rfl, hz, ho, hr⟩
            have hzm : z < m := by omega
            have HL6 := HL.out.only (HO0'.out.trans ho)
            rcases HL6.2 with h0 | ⟨b, f, ha, hb, hbr, hrow, h64⟩
            · omega
            · subst ha
              have hcz : w6.cell? ⟨b, z, none⟩ = some (.int .i64 (f z)) := by have := hrow z hzm; rwa [Nat.zero_add] at this
              have HBB6 := Lib.hid (HBB0.out.only ho hBr)
              have hc1 := HBB6.out.cell.2
              have hf1 := HBB6.out.frozen 1
              have HFZ := Lib.hid (h64 z hzm)
              have HO6 := Lib.hid (HO0'.out.trans ho); have HR6 := Lib.hid hr
              clear hz HL6 ho hr hrow h64
              go_wp2_with fail
              go_meet
              exact deedN_set (f z) HO6.out (HR6.out.mono (by omega)) HBB6.out hrb1 hB HFZ.out
          · have hmi : ¬ (0 : Int) < (m : Int) := by omega
            have hmb : decide ((0 : Int) < (m : Int)) = false := decide_eq_false hmi
            have hmb2 : decide (0 < m) = false := decide_eq_false hm
            go_wp2_with fail
            go_meet
            obtain ⟨x0, hx0, hbb, ho0, hr0⟩ := HN.out
            exact ⟨x0, hx0, hbb, ho0, hr0.mono (by omega)⟩
        · have hkb' : (k == 1) = false := by rw [beq_eq_false_iff_ne]; exact hk'
          clear hk'
          go_wp2_with fail
          go_meet
          exact ⟨0, by unfold I64; omega, HBB.out, HO.out, HR.out.mono (by omega)⟩
    case rest =>
      obtain ⟨x, hx, hbb, ho, hr⟩ := hcut
      clear hcb HBB HO HR
      have HBB := Lib.hid hbb; have HO := Lib.hid ho; have HR := Lib.hid hr
      clear hbb ho hr
      go_wp2_with fail
      refine (odd_any rb _ 40 (by omega) (by omega) (by omega) _ HR.out).mono ?_
      rintro e w5 ⟨b, rfl, ho, hr⟩
      have HB5 := Lib.hid (HBB.out.only ho hBr)
      have HO5 := Lib.hid (HO.out.trans ho); have HR5 := Lib.hid hr
      have hrne : w.heap.size ≠ rb := by omega
      have HW := Lib.hid (show w.heap.size < w1.heap.size by have := HSZ.out; omega)
      clear HBB HO HR ho hr
      cases b with
      | false =>
        have HRS := Lib.hid (HBL.out.only HO5.out hrne)
        have hr0 := HRS.out.cell.1; have hr1 := HRS.out.cell.2; have hg0 := HRS.out.frozen 0; have hg1 := HRS.out.frozen 1
        have hc0 := HB5.out.cell.1; have hc1 := HB5.out.cell.2
        go_wp2_with fail
        refine bodyPost_ret (results_deed1 rfl _ _ w.heap.size ((HRS.out.set0 (.int .i64 k)).set1 (.int .i64 x)) rfl (by kernel_rfl)) rfl ?_
        exact deedR_end HO0.out HO5.out (HR5.out.mono (by omega)) hrb hk0 hk9 hx
      | true =>
        have HAL := Lib.hid (lit_int w5 [-1, 16, 1] #[.int .i64 (-1), .int .i64 16, .int .i64 1] 3 rfl)
        have hrb5 : rb < w5.heap.size := HR5.out.1
        have HR6 := Lib.hid (HR5.out.al (.cells #[.int .i64 (-1), .int .i64 16, .int .i64 1] 3))
        have HO6 := Lib.hid (HO5.out.alloc (.cells #[.int .i64 (-1), .int .i64 16, .int .i64 1] 3))
        have HB6 := Lib.hid (HB5.out.al (.cells #[.int .i64 (-1), .int .i64 16, .int .i64 1] 3))
        clear HR5 HO5 HB5
        go_wp2_with fail
        refine (pick_any rb _ 3 (by omega) _ HR6.out).mono ?_
        rintro e w6 ⟨u, rfl, hu, ho, hr⟩
        have hu3 : u < 3 := by omega
        have hcu := cell_only ho (HAL.out u hu3) (Nat.ne_of_gt hrb5)
        obtain ⟨y, hy⟩ : ∃ y, ([-1, 16, 1] : List Int).getD u 0 = y := ⟨_, rfl⟩
        have HY := Lib.hid (lit3_I64 u hy)
        rw [hy] at hcu
        have HB7 := Lib.hid (HB6.out.only ho hBr)
        have HO7 := Lib.hid (HO6.out.trans ho); have HR7 := Lib.hid hr
        clear hy ho hr hu HAL HB6 HO6 HR6
        have HRS := Lib.hid ((HBL.out.only HO7.out hrne).other (show w.heap.size ≠ B by have := HW.out; omega) 1 (.int .i64 y))
        have hr0 := HRS.out.cell.1; have hr1 := HRS.out.cell.2; have hg0 := HRS.out.frozen 0; have hg1 := HRS.out.frozen 1
        have hc0 := HB7.out.cell.1; have hc1 := HB7.out.cell.2; have hf1 := HB7.out.frozen 1
        have HB8 := Lib.hid (HB7.out.set1 (.int .i64 y))
        have hd0 := HB8.out.cell.1; have hd1 := HB8.out.cell.2
        have HO8 := Lib.hid (HO7.out.fresh hB 1 (.int .i64 y))
        have HR8 := Lib.hid (HR7.out.belowB ((Below.refl w1.heap.size w6).setCell hB (.int .i64 y) (p := ⟨B, 1, none⟩)) hrb1)
        go_wp2_with fail
        refine bodyPost_ret (results_deed1 rfl _ _ w.heap.size ((HRS.out.set0 (.int .i64 k)).set1 (.int .i64 y)) rfl (by kernel_rfl)) rfl ?_
        exact deedR_end HO0.out HO8.out (HR8.out.mono (by omega)) hrb hk0 hk9 HY.out
end Go.Proofs.YthaickihoagnmaaGreatDoor
namespace Go.Proofs.YthaickihoagnmaaGreatDoor
open Go.RowKit
def restsI (n : Nat) (f : Nat → Int) (a b : Nat) : Int := bits .andNot .i64 (f a) (meetI n f b)
set_option maxRecDepth 100000 in
theorem rests_any (bk n cap : Nat) (a b : Nat) (f : Nat → Int) (hn : n ≤ 7) (ha : a < n) (hb : b < n) (w : World) (hr : Row w bk 0 n f) (hlt : bk < w.heap.size) :
    Calls Tryz.prog 245 #[.slice (some ⟨bk, 0, none⟩) n cap, .int .i64 a, .int .i64 b] w fun e w' => e = .returned (.int .i64 (restsI n f a b)) ∧ Below w.heap.size w w' := by
  have ca : w.cell? ⟨bk, a, none⟩ = some (.int .i64 (f a)) := by have := hr a ha; rwa [Nat.zero_add] at this
  have hai : (a : Int) < (n : Int) := by omega
  have ha0 : (0 : Int) ≤ (a : Int) := by omega
  have HR := Lib.hid hr; clear hr
  have HC := Lib.hid (show ∀ (W : World), Below w.heap.size w W → W.cell? ⟨bk, a, none⟩ = some (.int .i64 (f a)) from fun W h => (h.cell (p := ⟨bk, a, none⟩) hlt).trans ca)
  have HB := Lib.hid (Below.refl w.heap.size w)
  go_enter Tryz.func245, Tryz.ntmps245
  go_wp2_with fail
  go_region_held3 (fun w' => w'.cell? ⟨bk, a, none⟩ = some (.int .i64 (f a))) (first | exact HC.out _ HB.out | go_keep)
    (first | (go_at_call 222; refine (meeting_any bk n cap b f hn hb _ (by first | exact HR.out | exact HR.out.drewN _) (by first | exact hlt | (show bk < (World.drewN _ _).heap.size; exact hlt))).mono ?_; rintro e w2 ⟨rfl, h2⟩; replace HB := Lib.hid (by first | exact h2 | exact (below_drewN (Below.refl _ _) _).trans h2 : Below w.heap.size w w2); clear h2))
  all_goals
    go_wp2_with fail
    go_ret
    exact ⟨rfl, by first | exact HB.out | exact below_drewN HB.out _⟩
theorem proper_val (bk off len cap : Nat) (a b : Nat) (x : Int) (v : Bool) (hb : b < len) (ha : a ≤ 63) (w : World) (hv : neHas x a b = v) (hc : w.cell? ⟨bk, off + b, none⟩ = some (.int .i64 x)) :
    Calls Tryz.prog 243 #[.slice (some ⟨bk, off, none⟩) len cap, .int .i64 a, .int .i64 b] w fun e w' => e = .returned (.bool v) ∧ w = w' := by
  subst hv; exact proper_any bk off len cap a b x hb ha w hc
theorem part_val (bk off len cap : Nat) (a b : Nat) (x : Int) (v : Bool) (hb : b < len) (ha : a ≤ 63) (w : World) (hv : hasB x a = v) (hc : w.cell? ⟨bk, off + b, none⟩ = some (.int .i64 x)) :
    Calls Tryz.prog 176 #[.slice (some ⟨bk, off, none⟩) len cap, .int .i64 a, .int .i64 b] w fun e w' => e = .returned (.bool v) ∧ w = w' := by
  subst hv; exact part_any bk off len cap a b x hb ha w hc
def weakG (n : Nat) (f : Nat → Int) (whole part : Nat) : Bool := !neHas (f whole) part whole || restsI n f whole part != 0
def strongG (n : Nat) (f : Nat → Int) (a b : Nat) : Bool := hasB (f b) a || restsI n f a b != 0
def AskEnd (v : Bool) (w : World) (e : Ending) (w' : World) : Prop := e = .returned (.bool v) ∧ Below w.heap.size w w'
set_option maxRecDepth 100000 in
theorem weak_any (bk n cap : Nat) (a b : Nat) (f : Nat → Int) (hn : n ≤ 7) (ha : a < n) (hb : b < n) (w : World) (hr : Row w bk 0 n f) (hlt : bk < w.heap.size) :
    Calls Tryz.prog 231 #[.slice (some ⟨bk, 0, none⟩) n cap, .int .i64 a, .int .i64 b] w (AskEnd (weakG n f a b) w) := by
  have hc := hr a ha
  have hnot : ∀ (x : Bool) (w : World), (Op.unary .not (.bool x)).run Tryz.prog w = .ok (.bool (!x)) w := fun _ _ => rfl
  have HR := Lib.hid hr; have HC := Lib.hid hc; clear hr hc
  cases hp : neHas (f a) b a with
  | false =>
    have HF := Lib.hid (show weakG n f a b = true by unfold weakG; rw [hp]; rfl)
    have HP := Lib.hid hp; clear hp
    go_enter Tryz.func231, Tryz.ntmps231
    go_wp2_with fail
    refine (proper_val bk 0 n cap b a (f a) false ha (by omega) _ HP.out HC.out).mono ?_
    rintro e w' ⟨rfl, rfl⟩
    go_wp2_with fail
    go_ret
    exact ⟨retb HF.out.symm, Below.refl _ _⟩
  | true =>
    have HF := Lib.hid (show weakG n f a b = (restsI n f a b != 0) by unfold weakG; rw [hp]; rfl)
    have HP := Lib.hid hp; clear hp
    go_enter Tryz.func231, Tryz.ntmps231
    go_wp2_with fail
    refine (proper_val bk 0 n cap b a (f a) true ha (by omega) _ HP.out HC.out).mono ?_
    rintro e w' ⟨rfl, rfl⟩
    go_wp2_with fail
    refine (rests_any bk n cap a b f hn ha hb _ HR.out hlt).mono ?_
    rintro e w' ⟨rfl, hb2⟩
    go_wp2_with fail
    go_ret
    exact ⟨retb HF.out.symm, hb2⟩
set_option maxRecDepth 100000 in
theorem strong_any (bk n cap : Nat) (a b : Nat) (f : Nat → Int) (hn : n ≤ 7) (ha : a < n) (hb : b < n) (w : World) (hr : Row w bk 0 n f) (hlt : bk < w.heap.size) :
    Calls Tryz.prog 232 #[.slice (some ⟨bk, 0, none⟩) n cap, .int .i64 a, .int .i64 b] w (AskEnd (strongG n f a b) w) := by
  have hc := hr b hb
  have HR := Lib.hid hr; have HC := Lib.hid hc; clear hr hc
  cases hp : hasB (f b) a with
  | true =>
    have HF := Lib.hid (show strongG n f a b = true by unfold strongG; rw [hp]; rfl)
    have HP := Lib.hid hp; clear hp
    go_enter Tryz.func232, Tryz.ntmps232
    go_wp2_with fail
    refine (part_val bk 0 n cap a b (f b) true hb (by omega) _ HP.out HC.out).mono ?_
    rintro e w' ⟨rfl, rfl⟩
    go_wp2_with fail
    go_ret
    exact ⟨retb HF.out.symm, Below.refl _ _⟩
  | false =>
    have HF := Lib.hid (show strongG n f a b = (restsI n f a b != 0) by unfold strongG; rw [hp]; rfl)
    have HP := Lib.hid hp; clear hp
    go_enter Tryz.func232, Tryz.ntmps232
    go_wp2_with fail
    refine (part_val bk 0 n cap a b (f b) false hb (by omega) _ HP.out HC.out).mono ?_
    rintro e w' ⟨rfl, rfl⟩
    go_wp2_with fail
    refine (rests_any bk n cap a b f hn ha hb _ HR.out hlt).mono ?_
    rintro e w' ⟨rfl, hb2⟩
    go_wp2_with fail
    go_ret
    exact ⟨retb HF.out.symm, hb2⟩
set_option maxRecDepth 100000 in
theorem asked_any (K p q : Nat) (a b : Nat) (v1 : Value) (v : Bool) (w : World)
    (hE : ∀ (args : Array Value) (w : World), Sem.run Tryz.prog (callFunc K args) w = .ok (.enter K args) w)
    (hK : Calls Tryz.prog K #[v1, .int .i64 a, .int .i64 b] w (AskEnd v w))
    (hp : w.cell? ⟨p, 0, none⟩ = some (.func (.func K) #[] #[])) (hq : w.cell? ⟨q, 0, none⟩ = some v1) :
    Calls Tryz.prog 209 #[.int .i64 a, .int .i64 b, .pointer (some ⟨p, 0, none⟩), .pointer (some ⟨q, 0, none⟩)] w (AskEnd v w) := by
  have HK := Lib.hid hK; clear hK
  go_enter Tryz.func209, Tryz.ntmps209
  go_wp2_with fail
  refine HK.out.mono ?_
  rintro e w' ⟨rfl, hb2⟩
  go_wp2_with fail
  go_ret
  exact ⟨rfl, hb2⟩
end Go.Proofs.YthaickihoagnmaaGreatDoor
namespace Go.Proofs.YthaickihoagnmaaGreatDoor
open Go.RowKit Go.WideMaps Go.Maps
theorem law_string : Keyed Tryz.prog 9 := string_keyed Tryz.underlying9
theorem zero_int (w : World) : (zeroValue 3).run Tryz.prog w = .ok (.int .i64 0) w := by kernel_rfl
def nmCompany : ByteArray := { data := #[99, 111, 109, 112, 97, 110, 121] }
def nmWeak : ByteArray := { data := #[119, 101, 97, 107] }
def nmStrong : ByteArray := { data := #[115, 116, 114, 111, 110, 103] }
def nmExtended : ByteArray := { data := #[101, 120, 116, 101, 110, 100, 101, 100] }
def namesD : DataW Empty := ((((DataW.map []).put (.string nmCompany.data.toList) (.lit (.int .i64 0))).put (.string nmWeak.data.toList) (.lit (.int .i64 1))).put (.string nmStrong.data.toList) (.lit (.int .i64 2))).put (.string nmExtended.data.toList) (.lit (.int .i64 3))
theorem key_of (s : ByteArray) (h : s.size ≤ maxLen) : keyOf Tryz.prog 9 (.string s) = some (.string s.data.toList) := keyOf_string_mk Tryz.underlying9 h
theorem elem_of (i : Int) (h : (Lit.int .i64 i).wf = true) : plainElem (H := Empty) Tryz.prog 3 (.int .i64 i) = some (.lit (.int .i64 i), []) := plainElem_int Tryz.underlying3 h
def NamesEnd (w : World) (e : Ending) (w' : World) : Prop :=
  e = .returned (.map (some w.heap.size)) ∧ w'.ownsMap Tryz.prog 9 (plainElem (H := Empty) Tryz.prog 3) w.heap.size 4 namesD ∧ Below w.heap.size w w'
set_option maxRecDepth 100000 in
theorem axiomNames_any (w : World) : Calls Tryz.prog 206 #[] w (NamesEnd w) := by
  have hmm := @run_makeMap Tryz.prog
  obtain ⟨w1, r1, o1, g1⟩ := (World.ownsMap_made w Tryz.prog 9 (plainElem (H := Empty) Tryz.prog 3)).update law_string Tryz.underlying193 (by unfold maxLen; omega) (key_of nmCompany (by decide)) (elem_of 0 (by decide))
  obtain ⟨w2, r2, o2, g2⟩ := o1.update law_string Tryz.underlying193 (by unfold maxLen; omega) (key_of nmWeak (by decide)) (elem_of 1 (by decide))
  obtain ⟨w3, r3, o3, g3⟩ := o2.update law_string Tryz.underlying193 (by unfold maxLen; omega) (key_of nmStrong (by decide)) (elem_of 2 (by decide))
  obtain ⟨w4, r4, o4, g4⟩ := o3.update law_string Tryz.underlying193 (by unfold maxLen; omega) (key_of nmExtended (by decide)) (elem_of 3 (by decide))
  have hb0 := (Below.refl w.heap.size w).alloc (Nat.le_refl _) (.map #[] 0)
  have hb1 := hb0.grown g1 hb0.size (fun j hj => by cases hj; exact Nat.le_refl _)
  have hb2 := hb1.grown g2 hb1.size (fun j hj => by cases hj; exact Nat.le_refl _)
  have hb3 := hb2.grown g3 hb2.size (fun j hj => by cases hj; exact Nat.le_refl _)
  have hb4 := hb3.grown g4 hb3.size (fun j hj => by cases hj; exact Nat.le_refl _)
  clear g1 g2 g3 g4 hb0 hb1 hb2 hb3 o1 o2 o3
  simp only [nmCompany, nmWeak, nmStrong, nmExtended] at r1 r2 r3 r4
  have HO := Lib.hid o4; clear o4
  go_enter Tryz.func206, Tryz.ntmps206
  go_wp2_with fail
  go_ret
  exact ⟨rfl, HO.out, hb4⟩
set_option maxRecDepth 100000 in
theorem names_look (w : World) (b : Nat) (h : w.ownsMap Tryz.prog 9 (plainElem (H := Empty) Tryz.prog 3) b 4 namesD) (nm : ByteArray) (hs : nm.size ≤ maxLen) (i : Int)
    (hat : namesD.atKey (.string nm.data.toList) (.lit (.int .i64 0)) = .lit (.int .i64 i)) (hh : Maps.has namesD (.string nm.data.toList) = true) :
    (Instr.lookup 193 (.map (some b)) (.string nm) true).run Tryz.prog w = .ok (.tuple #[.int .i64 i, .bool true]) w := by
  obtain ⟨v, ps, hrun, hv⟩ := h.look_ok law_string Tryz.underlying193 (zero_int w) (elem_of 0 (by decide)) (key_of nm hs)
  obtain ⟨c, rfl, hc, _⟩ := plainElem_int_inv Tryz.underlying3 hv
  have hc1 := congrArg Prod.fst hc
  rw [hat] at hc1
  simp only at hc1
  injection hc1 with e1; injection e1 with e2 e3
  rw [hh] at hrun
  rw [hrun, e3]
def AxiomsEnd (w : World) (e : Ending) (w' : World) : Prop :=
  e = .returned (.slice (some ⟨w.heap.size, 0, none⟩) 4 4) ∧ Below w.heap.size w w' ∧ w'.cell? ⟨w.heap.size, 0, none⟩ = some (.func (.func 230) #[] #[]) ∧ w'.cell? ⟨w.heap.size, 1, none⟩ = some (.func (.func 231) #[] #[])
    ∧ w'.cell? ⟨w.heap.size, 2, none⟩ = some (.func (.func 232) #[] #[]) ∧ w'.cell? ⟨w.heap.size, 3, none⟩ = some (.func (.func 233) #[] #[])
set_option maxRecDepth 100000 in
theorem axioms_any (w : World) : Calls Tryz.prog 207 #[] w (AxiomsEnd w) := by
  have hrow := World.rowIs_alloc w #[.func (.func 230) #[] #[], .func (.func 231) #[] #[], .func (.func 232) #[] #[], .func (.func 233) #[] #[]] 196
    (fun i => if i = 0 then .func (.func 230) #[] #[] else if i = 1 then .func (.func 231) #[] #[] else if i = 2 then .func (.func 232) #[] #[] else .func (.func 233) #[] #[]) (by
    intro i hi
    match i, hi with
    | 0, _ => rfl
    | 1, _ => rfl
    | 2, _ => rfl
    | 3, _ => rfl)
  have HR := Lib.hid hrow; clear hrow
  go_enter Tryz.func207, Tryz.ntmps207
  go_wp2_with fail
  go_ret
  exact ⟨rfl, (Below.refl _ _).alloc (Nat.le_refl _) _, HR.out.cell (i := 0) (by show 0 < 4; omega), HR.out.cell (i := 1) (by show 1 < 4; omega), HR.out.cell (i := 2) (by show 2 < 4; omega), HR.out.cell (i := 3) (by show 3 < 4; omega)⟩
end Go.Proofs.YthaickihoagnmaaGreatDoor
namespace Go.Proofs.YthaickihoagnmaaGreatDoor
open Go.RowKit Go.Maps
def AskAll (K n : Nat) (f : Nat → Int) (G : Nat → Nat → Bool) : Prop :=
  ∀ (bk cap a b : Nat) (wr : World), a < n → b < n → Row wr bk 0 n f → bk < wr.heap.size → Calls Tryz.prog K #[.slice (some ⟨bk, 0, none⟩) n cap, .int .i64 a, .int .i64 b] wr (AskEnd (G a b) wr)
theorem cell_new (w : World) (v : Value) (t : TypeId) : (w.alloc (.cells #[v] t)).cell? ⟨w.heap.size, 0, none⟩ = some v ∧ Below w.heap.size w (w.alloc (.cells #[v] t)) ∧ (w.alloc (.cells #[v] t)).heap.size = w.heap.size + 1 :=
  ⟨(World.rowIs_alloc w #[v] t (fun _ => v) (by intro i hi; match i, hi with | 0, _ => rfl)).cell (Nat.zero_lt_one), (Below.refl _ _).alloc (Nat.le_refl _) _, by show (w.heap.push _).size = _; rw [Array.size_push]⟩
set_option maxRecDepth 100000 in
set_option maxRecDepth 100000 in
theorem axiomOk_at (nm : ByteArray) (hs : nm.size ≤ maxLen) (i : Nat) (hi4 : i < 4) (hat : namesD.atKey (.string nm.data.toList) (.lit (.int .i64 0)) = .lit (.int .i64 i)) (hh : Maps.has namesD (.string nm.data.toList) = true)
    (K : Nat) (hcell : Hid (∀ (w : World) (e : Ending) (w' : World), AxiomsEnd w e w' → w'.cell? ⟨w.heap.size, i, none⟩ = some (.func (.func K) #[] #[])))
    (hE : ∀ (args : Array Value) (w : World), Sem.run Tryz.prog (callFunc K args) w = .ok (.enter K args) w)
    (n : Nat) (f : Nat → Int) (G : Nat → Nat → Bool) (hK : Hid (n ≤ 7 → AskAll K n f G)) (a : Option Addr) (cap : Nat) (w : World) (hi : Ints w a n f) :
    Calls Tryz.prog 185 #[.slice a n cap, .string nm] w (AskEnd (worldB n f && eachB n G) w) := by
  have hmf : ∀ (fn : Fn) (first cap : Array Value) (w : World), (Instr.makeFunc fn first cap).run Tryz.prog w = .ok (.func fn first cap) w := fun _ _ _ _ => rfl
  have HE0 := Lib.hid hE; clear hE
  have HE := Lib.hid (enters_of (P := Tryz.prog) Tryz.func209 (by kernel_rfl) rfl)
  have hi0 : (0 : Int) ≤ (i : Int) := by omega
  have hi44 : (i : Int) < 4 := by omega
  have HL := Lib.hid (fun (w : World) (b : Nat) h => names_look w b h nm hs i hat hh)
  have HI := Lib.hid hi; clear hi hat hh
  go_enter Tryz.func185, Tryz.ntmps185
  go_wp2_with fail
  refine (worldOf_end a n cap f _ HI.out).mono ?_
  rintro e w1 ⟨hbel, ⟨hb, rfl, hsz, hr⟩ | ⟨hb, rfl⟩⟩
  · have h7 := (worldB_7 hb).2
    obtain ⟨c1, b1, s1⟩ := cell_new w1 (.slice (some ⟨w.heap.size, 0, none⟩) n n) 136
    have hr1 := hr.below b1 hsz
    have hB := below_onto hbel b1
    have HW := Lib.hid hb; have HR := Lib.hid hr1; have HB := Lib.hid hB; have HC := Lib.hid c1; have HS := Lib.hid s1; have HSZ := Lib.hid hsz; clear hb hr hr1 hB hbel b1 c1 s1 hsz
    go_wp2_with fail
    refine (axiomNames_any _).mono ?_
    rintro e w2 ⟨rfl, ho, b2⟩
    have hlook := HL.out _ _ ho
    rw [HS.out] at hlook
    replace HC := Lib.hid ((b2.cell (p := ⟨w1.heap.size, 0, none⟩) (by rw [HS.out]; show w1.heap.size < w1.heap.size + 1; omega)).trans HC.out)
    replace HR := Lib.hid (HR.out.below b2 (by rw [HS.out]; have := HSZ.out; omega))
    replace HB := Lib.hid (below_onto HB.out b2)
    replace HS := Lib.hid (show w1.heap.size < w2.heap.size by have := b2.size; rw [HS.out] at this; omega)
    clear ho b2
    go_wp2_with fail
    refine (axioms_any _).mono ?_
    intro e w3 he
    have hc := hcell.out _ _ _ he
    obtain ⟨rfl, b3, _⟩ := he
    replace HC := Lib.hid ((b3.cell (p := ⟨w1.heap.size, 0, none⟩) HS.out).trans HC.out)
    replace HR := Lib.hid (HR.out.below b3 (by have := HSZ.out; have := HS.out; omega))
    replace HB := Lib.hid (below_onto HB.out b3)
    replace HS := Lib.hid (show w1.heap.size < w3.heap.size by have := b3.size; have := HS.out; omega)
    clear b3 hlook
    obtain ⟨c4, b4, s4⟩ := cell_new w3 (.func (.func K) #[] #[]) 196
    have hq := (b4.cell (p := ⟨w1.heap.size, 0, none⟩) HS.out).trans HC.out
    have HQ := Lib.hid hq; have HP := Lib.hid c4; have HS4 := Lib.hid s4
    have HR4 := Lib.hid (HR.out.below b4 (by have := HSZ.out; have := HS.out; omega))
    have HB4 := Lib.hid (below_onto HB.out b4)
    clear c4 b4 s4 HC
    go_wp2_with fail
    have HR5 := HR4
    refine (each2_any _ _ n n _ _ G (fun wr => Below (w3.alloc (.cells #[.func (.func K) #[] #[]] 196)).heap.size (w3.alloc (.cells #[.func (.func K) #[] #[]] 196)) wr) h7 _ (Below.refl _ _) HE.out ?_).mono ?_
    · rintro wr x y hx hy hbr
      refine (asked_any K _ _ x y _ (G x y) wr HE0.out (hK.out h7 w.heap.size n x y wr hx hy (HR4.out.below hbr ?_) ?_) ((hbr.cell (p := ⟨w3.heap.size, 0, none⟩) ?_).trans HP.out) ((hbr.cell (p := ⟨w1.heap.size, 0, none⟩) ?_).trans HQ.out)).mono fun _ _ ⟨h1, h2⟩ => ⟨h1, below_onto hbr h2⟩
      · rw [HS4.out]; have := HSZ.out; have := HS.out; omega
      · refine Nat.lt_of_lt_of_le ?_ hbr.size; rw [HS4.out]; have := HSZ.out; have := HS.out; omega
      · rw [HS4.out]; show w3.heap.size < _; omega
      · rw [HS4.out]; show w1.heap.size < _; have := HS.out; omega
    · rintro e w5 ⟨rfl, b5⟩
      have HF := Lib.hid (show (worldB n f && eachB n G) = eachB n G by rw [HW.out]; rfl)
      replace HB4 := Lib.hid (below_onto HB4.out b5); clear b5
      go_wp2_with fail
      go_ret
      exact ⟨retb HF.out.symm, HB4.out⟩
  · obtain ⟨c1, b1, s1⟩ := cell_new w1 (.slice none 0 0) 136
    have hB := below_onto hbel b1
    have HF := Lib.hid (show (worldB n f && eachB n G) = false by rw [hb]; rfl)
    have HB := Lib.hid hB; have HS := Lib.hid s1; clear hb hB hbel c1 b1 s1
    go_wp2_with fail
    refine (axiomNames_any _).mono ?_
    rintro e w2 ⟨rfl, ho, b2⟩
    have hlook := HL.out _ _ ho
    rw [HS.out] at hlook
    replace HB := Lib.hid (below_onto HB.out b2)
    clear ho b2
    go_wp2_with fail
    refine (axioms_any _).mono ?_
    intro e w3 he
    have hc := hcell.out _ _ _ he
    obtain ⟨rfl, b3, _⟩ := he
    replace HB := Lib.hid (below_onto HB.out b3)
    clear b3 hlook
    have HB4 := Lib.hid (below_onto HB.out (cell_new w3 (.func (.func K) #[] #[]) 196).2.1)
    go_wp2_with fail
    go_ret
    exact ⟨retb HF.out.symm, HB4.out⟩
def weakB (n : Nat) (f : Nat → Int) : Bool := worldB n f && eachB n (weakG n f)
def strongB (n : Nat) (f : Nat → Int) : Bool := worldB n f && eachB n (strongG n f)
set_option maxRecDepth 100000 in
theorem WeakOk_any (a : Option Addr) (n cap : Nat) (f : Nat → Int) (w : World) (hi : Ints w a n f) :
    Calls Tryz.prog 160 #[.slice a n cap] w fun e w' => e = .returned (.bool (weakB n f)) ∧ Below w.heap.size w w' := by
  have HI := Lib.hid hi; clear hi
  go_enter Tryz.func160, Tryz.ntmps160
  go_wp2_with fail
  refine (axiomOk_at nmWeak (by decide) 1 (by omega) (by kernel_rfl) (by kernel_rfl) 231 (fun _ _ _ h => h.2.2.2.1) (enters_of (P := Tryz.prog) Tryz.func231 (by kernel_rfl) rfl) n f (weakG n f) (fun h7 bk cap a b wr ha hb hr hlt => weak_any bk n cap a b f h7 ha hb wr hr hlt) a cap _ HI.out).mono ?_
  rintro e w' ⟨rfl, hb⟩
  go_wp2_with fail
  go_ret
  exact ⟨rfl, hb⟩
set_option maxRecDepth 100000 in
theorem StrongOk_any (a : Option Addr) (n cap : Nat) (f : Nat → Int) (w : World) (hi : Ints w a n f) :
    Calls Tryz.prog 161 #[.slice a n cap] w fun e w' => e = .returned (.bool (strongB n f)) ∧ Below w.heap.size w w' := by
  have HI := Lib.hid hi; clear hi
  go_enter Tryz.func161, Tryz.ntmps161
  go_wp2_with fail
  refine (axiomOk_at nmStrong (by decide) 2 (by omega) (by kernel_rfl) (by kernel_rfl) 232 (fun _ _ _ h => h.2.2.2.2.1) (enters_of (P := Tryz.prog) Tryz.func232 (by kernel_rfl) rfl) n f (strongG n f) (fun h7 bk cap a b wr ha hb hr hlt => strong_any bk n cap a b f h7 ha hb wr hr hlt) a cap _ HI.out).mono ?_
  rintro e w' ⟨rfl, hb⟩
  go_wp2_with fail
  go_ret
  exact ⟨rfl, hb⟩
end Go.Proofs.YthaickihoagnmaaGreatDoor
namespace Go.Proofs.YthaickihoagnmaaGreatDoor
open Go.RowKit
def apB (f : Nat → Int) (a b k : Nat) : Bool := decide (∃ c, c < k ∧ hasB (f a) c = true ∧ (andI (f c) (f b) == 0) = true)
theorem apB_zero (f : Nat → Int) (a b : Nat) : apB f a b 0 = false := decide_eq_false (fun ⟨_, h, _⟩ => absurd h (Nat.not_lt_zero _))
theorem apB_old {f : Nat → Int} {a b k : Nat} (h : apB f a b k = true) : apB f a b (k + 1) = true := by
  unfold apB at h ⊢; rw [decide_eq_true_eq] at h ⊢
  obtain ⟨c, h1, h2⟩ := h; exact ⟨c, by omega, h2⟩
theorem apB_new {f : Nat → Int} {a b k : Nat} (h1 : hasB (f a) k = true) (h2 : (andI (f k) (f b) == 0) = true) : apB f a b (k + 1) = true := by
  unfold apB; rw [decide_eq_true_eq]; exact ⟨k, by omega, h1, h2⟩
theorem apB_not {f : Nat → Int} {a b k : Nat} (h : apB f a b k = false) (h1 : hasB (f a) k = false) : apB f a b (k + 1) = false := by
  unfold apB at h ⊢; rw [decide_eq_false_iff_not] at h ⊢
  rintro ⟨c, h2, h3, h4⟩
  by_cases hc : c = k
  · subst hc; rw [h1] at h3; cases h3
  · exact h ⟨c, by omega, h3, h4⟩
theorem apB_meets {f : Nat → Int} {a b k : Nat} (h : apB f a b k = false) (h1 : (andI (f k) (f b) == 0) = false) : apB f a b (k + 1) = false := by
  unfold apB at h ⊢; rw [decide_eq_false_iff_not] at h ⊢
  rintro ⟨c, h2, h3, h4⟩
  by_cases hc : c = k
  · subst hc; rw [h1] at h4; cases h4
  · exact h ⟨c, by omega, h3, h4⟩
theorem nonzero_iff (x : Int) (hx : I64 x) : (x != 0) = true ↔ ∃ i, i < 64 ∧ hasB x i = true := by
  rw [bne_iff_ne]
  constructor
  · intro h
    apply Classical.byContradiction; intro hn
    apply h
    apply ext64 _ _ hx I64_zero
    intro i hi
    rw [hasB_zero]
    cases e : hasB x i with
    | false => rfl
    | true => exact absurd ⟨i, hi, e⟩ hn
  · rintro ⟨i, _, h⟩ e
    rw [e, hasB_zero] at h; cases h
theorem andI_swap (x y : Int) : andI x y = andI y x :=
  ext64 _ _ (andI_I64 _ _) (andI_I64 _ _) (fun i hi => by rw [and_bit _ _ _ hi, and_bit _ _ _ hi, Bool.and_comm])
theorem rests_bit (n : Nat) (f : Nat → Int) (a b i : Nat) (hi : i < n) (hn : n ≤ 7) : hasB (restsI n f a b) i = (hasB (f a) i && (andI (f i) (f b) == 0)) := by
  unfold restsI meetI
  rw [andNot_bit _ _ _ (by omega), setOf_bit _ _ _ (by omega), decide_eq_true hi, Bool.true_and, andI_swap (f b) (f i)]
  congr 1
  simp [bne]
theorem rests_out {n : Nat} {f : Nat → Int} (hP : WorldP n f) {a b i : Nat} (ha : a < n) (hi : hasB (restsI n f a b) i = true) (h64 : i < 64) : i < n := by
  unfold restsI at hi
  rw [andNot_bit _ _ _ h64, Bool.and_eq_true] at hi
  exact hasB_lt (hP.rng a ha) hi.1
theorem rests_ne {n : Nat} {f : Nat → Int} (hP : WorldP n f) {a b : Nat} (ha : a < n) : (restsI n f a b != 0) = apB f a b n := by
  have hn := hP.hi
  rw [Bool.eq_iff_iff, nonzero_iff _ (by unfold restsI; exact andNot_I64 _ _)]
  unfold apB; rw [decide_eq_true_eq]
  constructor
  · rintro ⟨i, hi, h⟩
    have hin := rests_out hP ha h hi
    rw [rests_bit n f a b i hin hn, Bool.and_eq_true] at h
    exact ⟨i, hin, h.1, h.2⟩
  · rintro ⟨i, hin, h1, h2⟩
    exact ⟨i, by omega, by rw [rests_bit n f a b i hin hn, h1, h2]; rfl⟩
theorem each_of {n : Nat} {g : Nat → Nat → Bool} (h : ∀ a, a < n → ∀ c, c < n → g a c = true) : eachB n g = true := decide_eq_true (fun a ha c hc _ => h a ha c hc)
theorem each_no {n : Nat} {g : Nat → Nat → Bool} {a c : Nat} (ha : a < n) (hc : c < n) (hac : a ≠ c) (h : g a c = false) : eachB n g = false :=
  decide_eq_false (fun e => by have := e a ha c hc hac; rw [h] at this; cases this)
theorem each_iff {n : Nat} {g : Nat → Nat → Bool} : eachB n g = true ↔ ∀ a, a < n → ∀ c, c < n → a ≠ c → g a c = true := by
  unfold eachB; rw [decide_eq_true_eq]
theorem weakG_same (n : Nat) (f : Nat → Int) (a : Nat) : weakG n f a a = true := by unfold weakG neHas; rw [decide_eq_false (fun h => h rfl)]; rfl
theorem weakG_no {n : Nat} {f : Nat → Int} {a b : Nat} (h : hasB (f a) b = false) : weakG n f a b = true := by unfold weakG neHas; rw [h]; simp
theorem weakG_ap {n : Nat} {f : Nat → Int} (hP : WorldP n f) {a b : Nat} {v : Bool} (ha : a < n) (hab : b ≠ a) (h : hasB (f a) b = true) (hv : apB f a b n = v) : weakG n f a b = v := by
  unfold weakG neHas; rw [h, decide_eq_true hab, rests_ne hP ha, hv]; simp
theorem strongG_yes {n : Nat} {f : Nat → Int} {a b : Nat} (h : hasB (f b) a = true) : strongG n f a b = true := by unfold strongG; rw [h]; simp
theorem strongG_ap {n : Nat} {f : Nat → Int} (hP : WorldP n f) {a b : Nat} {v : Bool} (ha : a < n) (h : hasB (f b) a = false) (hv : apB f a b n = v) : strongG n f a b = v := by
  unfold strongG; rw [h, rests_ne hP ha, hv]; simp
theorem weakB_no {n : Nat} {f : Nat → Int} {a c : Nat} (_ : worldB n f = true) (ha : a < n) (hc : c < n) (hac : a ≠ c) (h : weakG n f a c = false) : weakB n f = false := by
  unfold weakB; rw [each_no ha hc hac h, Bool.and_false]
theorem weakB_of {n : Nat} {f : Nat → Int} (hw : worldB n f = true) (h : ∀ a, a < n → ∀ c, c < n → weakG n f a c = true) : weakB n f = true := by
  unfold weakB; rw [hw, each_of h]; rfl
set_option maxRecDepth 100000 in
theorem specWeakOk_in (b o n cap : Nat) (f : Nat → Int) (hg : worldB n f = true) (w : World) (hi : Ints w (some ⟨b, o, none⟩) n f) (hr : Row w b o n f) :
    Calls Tryz.prog 72 #[.slice (some ⟨b, o, none⟩) n cap] w fun e w' => e = .returned (.bool (weakB n f)) ∧ Drew w w' := by
  have h7 := (worldB_7 hg).2
  have HPW := Lib.hid (world_of hi hg)
  have HG := Lib.hid hg; have HN := Lib.hid hi; have HR := Lib.hid hr; clear hg hi hr
  go_enter Tryz.func72, Tryz.ntmps72
  go_wp2_with fail
  refine (specWorldOk_val _ _ _ f true _ HG.out HN.out).mono ?_
  rintro e w0 ⟨rfl, hd0⟩
  go_wp2_with fail
  go_loopw [3] (fun i wr => ∃ k : Nat, k ≤ n ∧ i = .int .i64 k ∧ Hid (∀ a, a < k → ∀ c, c < n → weakG n f a c = true) ∧ Drew w wr) (fun i _ => n - (intOf i).toNat)
  case atStart => exact ⟨0, Nat.zero_le _, rfl, fun a ha => absurd ha (Nat.not_lt_zero _), hd0⟩
  case round =>
    clear hd0
    obtain ⟨k, hk, rfl, hall, hd⟩ := hrel
    by_cases hlt : k < n
    · go_wp2_with fail
      go_loopw [4] (fun i wr => ∃ j : Nat, j ≤ n ∧ i = .int .i64 j ∧ Hid (∀ c, c < j → weakG n f k c = true) ∧ Drew w wr) (fun i _ => n - (intOf i).toNat)
      case atStart => exact ⟨0, Nat.zero_le _, rfl, fun a ha => absurd ha (Nat.not_lt_zero _), hd⟩
      case round =>
        clear hd
        obtain ⟨j, hj, rfl, hin, hd⟩ := hrel
        by_cases hjn : j < n
        · have hrr0 : Row wr b o n f := by obtain ⟨m, rfl⟩ := hd; exact HR.out.drewN m
          have ck0 := hrr0 k hlt
          have cj0 := hrr0 j hjn
          have hnn0 := (HPW.out.rng k hlt).1
          clear hrr0
          by_cases hjk : j = k
          · subst hjk
            have heq : ((j : Int) == (j : Int)) = true := by simp
            have HG2 := Lib.hid (weakG_same n f j)
            clear ck0 cj0
            go_wp2_with fail
            go_roundw
            case rel => exact ⟨j + 1, by omega, by go_num, fun c hc => by
              by_cases hcj : c = j
              · subst hcj; exact HG2.out
              · exact hin c (by omega), hd⟩
            case measure => simp [intOf]; omega
          · have heq : ((j : Int) == (k : Int)) = false := by rw [beq_eq_false_iff_ne]; omega
            have hnot : ∀ (x : Bool) (w : World), (Op.unary .not (.bool x)).run Tryz.prog w = .ok (.bool (!x)) w := fun _ _ => rfl
            cases hh : hasB (f k) j with
            | false =>
              have HH := Lib.hid hh; clear hh
              have HG2 := Lib.hid (weakG_no (n := n) HH.out)
              go_wp2_with fail
              refine (l1Has_val _ _ false _ HH.out (by omega) hnn0).mono ?_
              rintro e w' ⟨rfl, rfl⟩
              go_wp2_with fail
              go_roundw
              case rel => exact ⟨j + 1, by omega, by go_num, fun c hc => by
                by_cases hcj : c = j
                · subst hcj; exact HG2.out
                · exact hin c (by omega), hd⟩
              case measure => simp [intOf]; omega
            | true =>
              have hhX := Lib.hid hh; clear hh
              go_wp2_with fail
              refine (l1Has_val _ _ true _ hhX.out (by omega) hnn0).mono ?_
              rintro e w' ⟨rfl, rfl⟩
              go_wp2_with fail
              clear ck0 cj0 hnn0 heq hnot
              have HJ := Lib.hid hd; clear hd
              go_loopw [5, 6] (fun v i wr => ∃ m : Nat, m ≤ n ∧ i = .int .i64 m ∧ v = .bool (apB f k j m) ∧ Drew w wr) (fun _ i _ => n - (intOf i).toNat)
              case atStart => exact ⟨0, Nat.zero_le _, rfl, by rw [apB_zero], HJ.out⟩
              case round =>
                clear HJ
                obtain ⟨m, hm, rfl, rfl, hd⟩ := hrel
                by_cases hmn : m < n
                · have hrr : Row wr b o n f := by obtain ⟨m, rfl⟩ := hd; exact HR.out.drewN m
                  have ck := hrr k hlt
                  have cj := hrr j hjn
                  have cm := hrr m hmn
                  have hkn : (k : Int) < (n : Int) := by omega
                  have hjn' : (j : Int) < (n : Int) := by omega
                  have hmn' : (m : Int) < (n : Int) := by omega
                  have hnn := (HPW.out.rng k hlt).1
                  clear hrr
                  cases hap : apB f k j m with
                  | true =>
                    have HS := Lib.hid (apB_old hap); clear hap
                    go_wp2_with fail
                    go_quiet (fail)
                    go_wp2_with fail
                    go_roundw
                    case rel => exact ⟨m + 1, by omega, by go_num, by rw [HS.out], hd.more _⟩
                    case measure => simp [intOf]; omega
                  | false =>
                    cases hh : hasB (f k) m with
                    | false =>
                      have HS := Lib.hid (apB_not hap hh); have HH := Lib.hid hh; clear hap hh
                      go_wp2_with fail
                      go_quiet ((go_at_call 87; exact quiet_left (l1Has_val _ _ false _ HH.out (by omega) hnn)))
                      go_wp2_with fail
                      go_roundw
                      case rel => exact ⟨m + 1, by omega, by go_num, by rw [HS.out], hd.more _⟩
                      case measure => simp [intOf]; omega
                    | true =>
                      cases hz : (andI (f m) (f j) == 0) with
                      | true =>
                        have HS := Lib.hid (apB_new hh hz); have HH := Lib.hid hh; have HZ := Lib.hid hz; clear hap hh hz
                        go_wp2_with fail
                        go_quiet ((go_at_call 87; exact quiet_left (l1Has_val _ _ true _ HH.out (by omega) hnn)))
                        go_wp2_with fail
                        go_roundw
                        case rel => exact ⟨m + 1, by omega, by go_num, by rw [HS.out]; exact congrArg Value.bool HZ.out, hd.more _⟩
                        case measure => simp [intOf]; omega
                      | false =>
                        have HS := Lib.hid (apB_meets hap hz); have HH := Lib.hid hh; have HZ := Lib.hid hz; clear hap hh hz
                        go_wp2_with fail
                        go_quiet ((go_at_call 87; exact quiet_left (l1Has_val _ _ true _ HH.out (by omega) hnn)))
                        go_wp2_with fail
                        go_roundw
                        case rel => exact ⟨m + 1, by omega, by go_num, by rw [HS.out]; exact congrArg Value.bool HZ.out, hd.more _⟩
                        case measure => simp [intOf]; omega
                · have hme : m = n := by omega
                  subst hme
                  cases hap : apB f k j m with
                  | true =>
                    have HG2 := Lib.hid (weakG_ap HPW.out hlt hjk hhX.out hap); clear hap
                    go_wp2_with fail
                    go_roundw
                    case rel => exact ⟨j + 1, by omega, by go_num, fun c hc => by
                      by_cases hcj : c = j
                      · subst hcj; exact HG2.out
                      · exact hin c (by omega), hd⟩
                    case measure => simp [intOf]; omega
                  | false =>
                    have HF := Lib.hid (weakB_no HG.out hlt hjn (fun e => hjk e.symm) (weakG_ap HPW.out hlt hjk hhX.out hap)); clear hap
                    go_wp2_with fail
                    go_ret
                    exact ⟨retb HF.out.symm, hd⟩
        · go_wp2_with fail
          go_roundw
          case rel => exact ⟨k + 1, by omega, by go_num, fun a ha c hc => by
            by_cases hak : a = k
            · subst hak; exact hin c (by omega)
            · exact hall a (by omega) c hc, hd⟩
          case measure => simp [intOf]; omega
    · have HF := Lib.hid (weakB_of HG.out (fun a ha c hc => hall a (by omega) c hc))
      go_wp2_with fail
      go_ret
      exact ⟨retb HF.out.symm, hd⟩
theorem specWeakOk_any (a : Option Addr) (n cap : Nat) (f : Nat → Int) (w : World) (hi : Ints w a n f) :
    Calls Tryz.prog 72 #[.slice a n cap] w fun e w' => e = .returned (.bool (weakB n f)) ∧ Drew w w' := by
  cases hg : worldB n f with
  | true =>
    obtain ⟨b, o, rfl, hlt, hr⟩ := hi.row (worldB_7 hg).1
    exact specWeakOk_in b o n cap f hg w hi hr
  | false =>
    have hfin : weakB n f = false := by unfold weakB; rw [hg]; rfl
    have HF := Lib.hid hfin; have HG := Lib.hid hg; have HN := Lib.hid hi; clear hfin hg hi
    have hn := HN.out.1.1
    go_enter Tryz.func72, Tryz.ntmps72
    go_wp2_with fail
    refine (specWorldOk_val _ _ _ f false _ HG.out HN.out).mono ?_
    rintro e w' ⟨rfl, m0, rfl⟩
    go_wp2_with fail
    go_ret
    exact ⟨retb HF.out.symm, _, rfl⟩
theorem strongB_no {n : Nat} {f : Nat → Int} {a c : Nat} (_ : worldB n f = true) (ha : a < n) (hc : c < n) (hac : a ≠ c) (h : strongG n f a c = false) : strongB n f = false := by
  unfold strongB; rw [each_no ha hc hac h, Bool.and_false]
theorem strongB_of {n : Nat} {f : Nat → Int} (hw : worldB n f = true) (h : ∀ a, a < n → ∀ c, c < n → strongG n f a c = true) : strongB n f = true := by
  unfold strongB; rw [hw, each_of h]; rfl
set_option maxRecDepth 100000 in
theorem specStrongOk_in (b o n cap : Nat) (f : Nat → Int) (hg : worldB n f = true) (w : World) (hi : Ints w (some ⟨b, o, none⟩) n f) (hr : Row w b o n f) :
    Calls Tryz.prog 73 #[.slice (some ⟨b, o, none⟩) n cap] w fun e w' => e = .returned (.bool (strongB n f)) ∧ Drew w w' := by
  have h7 := (worldB_7 hg).2
  have HPW := Lib.hid (world_of hi hg)
  have HG := Lib.hid hg; have HN := Lib.hid hi; have HR := Lib.hid hr; clear hg hi hr
  go_enter Tryz.func73, Tryz.ntmps73
  go_wp2_with fail
  refine (specWorldOk_val _ _ _ f true _ HG.out HN.out).mono ?_
  rintro e w0 ⟨rfl, hd0⟩
  go_wp2_with fail
  go_loopw [3] (fun i wr => ∃ k : Nat, k ≤ n ∧ i = .int .i64 k ∧ Hid (∀ a, a < k → ∀ c, c < n → strongG n f a c = true) ∧ Drew w wr) (fun i _ => n - (intOf i).toNat)
  case atStart => exact ⟨0, Nat.zero_le _, rfl, fun a ha => absurd ha (Nat.not_lt_zero _), hd0⟩
  case round =>
    clear hd0
    obtain ⟨k, hk, rfl, hall, hd⟩ := hrel
    by_cases hlt : k < n
    · go_wp2_with fail
      go_loopw [4] (fun i wr => ∃ j : Nat, j ≤ n ∧ i = .int .i64 j ∧ Hid (∀ c, c < j → strongG n f k c = true) ∧ Drew w wr) (fun i _ => n - (intOf i).toNat)
      case atStart => exact ⟨0, Nat.zero_le _, rfl, fun a ha => absurd ha (Nat.not_lt_zero _), hd⟩
      case round =>
        clear hd
        obtain ⟨j, hj, rfl, hin, hd⟩ := hrel
        by_cases hjn : j < n
        · have hrr0 : Row wr b o n f := by obtain ⟨m, rfl⟩ := hd; exact HR.out.drewN m
          have ck0 := hrr0 k hlt
          have cj0 := hrr0 j hjn
          have hnn0 := (HPW.out.rng j hjn).1
          clear hrr0
          cases hh : hasB (f j) k with
          | true =>
            have HH := Lib.hid hh; clear hh
            have HG2 := Lib.hid (strongG_yes (n := n) HH.out)
            go_wp2_with fail
            refine (l1Has_val _ _ true _ HH.out (by omega) hnn0).mono ?_
            rintro e w' ⟨rfl, rfl⟩
            go_wp2_with fail
            go_roundw
            case rel => exact ⟨j + 1, by omega, by go_num, fun c hc => by
              by_cases hcj : c = j
              · subst hcj; exact HG2.out
              · exact hin c (by omega), hd⟩
            case measure => simp [intOf]; omega
          | false =>
            have hhX := Lib.hid hh; clear hh
            go_wp2_with fail
            refine (l1Has_val _ _ false _ hhX.out (by omega) hnn0).mono ?_
            rintro e w' ⟨rfl, rfl⟩
            go_wp2_with fail
            clear ck0 cj0 hnn0
            have HJ := Lib.hid hd; clear hd
            go_loopw [5, 6] (fun v i wr => ∃ m : Nat, m ≤ n ∧ i = .int .i64 m ∧ v = .bool (apB f k j m) ∧ Drew w wr) (fun _ i _ => n - (intOf i).toNat)
            case atStart => exact ⟨0, Nat.zero_le _, rfl, by rw [apB_zero], HJ.out⟩
            case round =>
              clear HJ
              obtain ⟨m, hm, rfl, rfl, hd⟩ := hrel
              by_cases hmn : m < n
              · have hrr : Row wr b o n f := by obtain ⟨m, rfl⟩ := hd; exact HR.out.drewN m
                have ck := hrr k hlt
                have cj := hrr j hjn
                have cm := hrr m hmn
                have hkn : (k : Int) < (n : Int) := by omega
                have hjn' : (j : Int) < (n : Int) := by omega
                have hmn' : (m : Int) < (n : Int) := by omega
                have hnn := (HPW.out.rng k hlt).1
                clear hrr
                cases hap : apB f k j m with
                | true =>
                  have HS := Lib.hid (apB_old hap); clear hap
                  go_wp2_with fail
                  go_quiet (fail)
                  go_wp2_with fail
                  go_roundw
                  case rel => exact ⟨m + 1, by omega, by go_num, by rw [HS.out], hd.more _⟩
                  case measure => simp [intOf]; omega
                | false =>
                  cases hh : hasB (f k) m with
                  | false =>
                    have HS := Lib.hid (apB_not hap hh); have HH := Lib.hid hh; clear hap hh
                    go_wp2_with fail
                    go_quiet ((go_at_call 87; exact quiet_left (l1Has_val _ _ false _ HH.out (by omega) hnn)))
                    go_wp2_with fail
                    go_roundw
                    case rel => exact ⟨m + 1, by omega, by go_num, by rw [HS.out], hd.more _⟩
                    case measure => simp [intOf]; omega
                  | true =>
                    cases hz : (andI (f m) (f j) == 0) with
                    | true =>
                      have HS := Lib.hid (apB_new hh hz); have HH := Lib.hid hh; have HZ := Lib.hid hz; clear hap hh hz
                      go_wp2_with fail
                      go_quiet ((go_at_call 87; exact quiet_left (l1Has_val _ _ true _ HH.out (by omega) hnn)))
                      go_wp2_with fail
                      go_roundw
                      case rel => exact ⟨m + 1, by omega, by go_num, by rw [HS.out]; exact congrArg Value.bool HZ.out, hd.more _⟩
                      case measure => simp [intOf]; omega
                    | false =>
                      have HS := Lib.hid (apB_meets hap hz); have HH := Lib.hid hh; have HZ := Lib.hid hz; clear hap hh hz
                      go_wp2_with fail
                      go_quiet ((go_at_call 87; exact quiet_left (l1Has_val _ _ true _ HH.out (by omega) hnn)))
                      go_wp2_with fail
                      go_roundw
                      case rel => exact ⟨m + 1, by omega, by go_num, by rw [HS.out]; exact congrArg Value.bool HZ.out, hd.more _⟩
                      case measure => simp [intOf]; omega
              · have hme : m = n := by omega
                subst hme
                cases hap : apB f k j m with
                | true =>
                  have HG2 := Lib.hid (strongG_ap HPW.out hlt hhX.out hap); clear hap
                  go_wp2_with fail
                  go_roundw
                  case rel => exact ⟨j + 1, by omega, by go_num, fun c hc => by
                    by_cases hcj : c = j
                    · subst hcj; exact HG2.out
                    · exact hin c (by omega), hd⟩
                  case measure => simp [intOf]; omega
                | false =>
                  have HF := Lib.hid (strongB_no HG.out hlt hjn (fun e => by subst e; have hs := HPW.out.self k hlt; rw [hhX.out] at hs; cases hs) (strongG_ap HPW.out hlt hhX.out hap)); clear hap
                  go_wp2_with fail
                  go_ret
                  exact ⟨retb HF.out.symm, hd⟩
        · go_wp2_with fail
          go_roundw
          case rel => exact ⟨k + 1, by omega, by go_num, fun a ha c hc => by
            by_cases hak : a = k
            · subst hak; exact hin c (by omega)
            · exact hall a (by omega) c hc, hd⟩
          case measure => simp [intOf]; omega
    · have HF := Lib.hid (strongB_of HG.out (fun a ha c hc => hall a (by omega) c hc))
      go_wp2_with fail
      go_ret
      exact ⟨retb HF.out.symm, hd⟩
theorem specStrongOk_any (a : Option Addr) (n cap : Nat) (f : Nat → Int) (w : World) (hi : Ints w a n f) :
    Calls Tryz.prog 73 #[.slice a n cap] w fun e w' => e = .returned (.bool (strongB n f)) ∧ Drew w w' := by
  cases hg : worldB n f with
  | true =>
    obtain ⟨b, o, rfl, hlt, hr⟩ := hi.row (worldB_7 hg).1
    exact specStrongOk_in b o n cap f hg w hi hr
  | false =>
    have hfin : strongB n f = false := by unfold strongB; rw [hg]; rfl
    have HF := Lib.hid hfin; have HG := Lib.hid hg; have HN := Lib.hid hi; clear hfin hg hi
    have hn := HN.out.1.1
    go_enter Tryz.func73, Tryz.ntmps73
    go_wp2_with fail
    refine (specWorldOk_val _ _ _ f false _ HG.out HN.out).mono ?_
    rintro e w' ⟨rfl, m0, rfl⟩
    go_wp2_with fail
    go_ret
    exact ⟨retb HF.out.symm, _, rfl⟩
end Go.Proofs.YthaickihoagnmaaGreatDoor

