import Derived.Test.YthaickihoagnmaaGreatDoorDraws
namespace Go.Proofs.YthaickihoagnmaaGreatDoor
open Go.RowKit

/-- the state at each try -/
def SetsR (rb P : Nat) (w : World) (v i : Value) (wr : World) : Prop :=
  ∃ (t m : Nat), t ≤ 12 ∧ m ≤ 7 ∧ i = .int .i64 t ∧ OwnI wr w.heap.size v m ∧ Only rb w wr ∧ Rdr wr rb (P + 10 + 10 * t)
def SetsM (rb P : Nat) (w : World) (v : Value) (wx : World) : Prop :=
  ∃ m, m ≤ 7 ∧ OwnI wx w.heap.size v m ∧ Only rb w wx ∧ Rdr wx rb (P + 500)

theorem pt_shift (y : Nat) (hy : y < 3) : (1 : Int) ≤ 2 ^ (2 + y) - 1 ∧ (2 : Int) ^ (2 + y) - 1 ≤ 15 ∧ (1 : Int) ≤ 2 ^ (2 + y) ∧ (2 : Int) ^ (2 + y) ≤ 16 := by
  rcases (show y = 0 ∨ y = 1 ∨ y = 2 by omega) with rfl | rfl | rfl <;> decide

set_option maxHeartbeats 800000 in
theorem odd_all (rb P : Nat) (n : Int) (hn : 0 ≤ n) (hn2 : n ≤ 100) (hP : P ≤ 1000000) (w : World) (h : Rdr w rb P) :
    Calls Tryz.prog 49 #[.pointer (some ⟨rb, 0, none⟩), .int .i64 n] w (PickedB rb P w) := by
  by_cases h0 : n = 0
  · subst h0
    have H := Lib.hid h; clear h
    go_enter Tryz.func49, Tryz.ntmps49
    go_wp2_with fail
    go_ret
    exact ⟨_, rfl, Only.refl _ _, H.out.mono (by omega)⟩
  · exact odd_any rb P n (by omega) hn2 hP w h

set_option maxRecDepth 100000 in
set_option maxHeartbeats 16000000 in
theorem sets_any (rb P : Nat) (n : Int) (hn : 0 ≤ n) (hn2 : n ≤ 100) (hP : P ≤ 100000) (w : World) (h : Rdr w rb P) :
    Calls Tryz.prog 100 #[.pointer (some ⟨rb, 0, none⟩), .int .i64 n] w (DrawnW rb P w) := by
  have hrb : rb < w.heap.size := h.1
  obtain ⟨i0, hi, hz0, hz1, hz2⟩ := info_parts Tryz.infoInt
  have H0 := Lib.hid (h.below (alloc_below w (.cells #[] 3)))
  clear h
  go_enter Tryz.func100, Tryz.ntmps100
  go_wp2_with fail
  refine (pick_any rb P 3 (by omega) _ H0.out).mono ?_
  rintro e w1 ⟨y, rfl, hy, ho, hr⟩
  have hz : OwnI w1 w.heap.size (.slice (some ⟨w.heap.size, 0, none⟩) 0 0) 0 := (OwnI.lit w w.heap.size (Nat.le_refl _) [] (fun x hx => by simp at hx) (by decide) _ rfl).lift ho hrb
  have hon1 : Only rb w w1 := ((Only.refl rb w).alloc _).trans ho
  have hy3 : y < 3 := by omega
  obtain ⟨hs1, hs2, hs3, hs4⟩ := pt_shift y hy3
  obtain ⟨pt, hpt⟩ : ∃ pt : Nat, 2 + y = pt := ⟨_, rfl⟩
  rw [hpt] at hs1 hs2 hs3 hs4
  have hptI : (2 : Int) + (y : Int) = (pt : Int) := by omega
  have hst : SetsR rb P w (.slice (some ⟨w.heap.size, 0, none⟩) 0 0) (.int .i64 0) w1 := ⟨0, 0, by omega, by omega, rfl, hz, hon1, hr.mono (by omega)⟩
  have hpt4 : pt ≤ 4 := by omega
  clear H0 hy ho hr hz hon1 hpt
  go_upto_block 0 with fail
  go_cut [5] (fun s5 wx => SetsM rb P w s5 wx)
  case first =>
    go_wp2_with fail
    go_loopw [5, 7] (fun v i wr => SetsR rb P w v i wr) (fun _ i _ => 12 - (intOf i).toNat)
    case atStart => exact hst
    case round =>
      clear hst
      obtain ⟨t, m, ht, hm7, rfl, hown, hon, hrd⟩ := hrel
      have HON := Lib.hid hon; have HRD := Lib.hid hrd; have HOWN := Lib.hid hown; clear hon hrd hown
      obtain ⟨a5, c5, hv5⟩ := HOWN.out.slice
      subst hv5
      by_cases hlt : t < 12
      · have hbt : decide ((t : Int) < 12) = true := by simp; omega
        by_cases hm : m < 7
        · have hbm : decide ((m : Int) < 7) = true := by simp; omega
          go_wp2_with fail
          refine (pick_any rb _ _ (by omega) _ HRD.out).mono ?_
          rintro e w3 ⟨z, rfl, hz, ho3, hr3⟩
          have hz15 : (z : Int) < 15 := by omega
          have hon3 := HON.out.trans ho3
          have hown3 := HOWN.out.lift ho3 hrb
          have HON2 := Lib.hid hon3; have HRD2 := Lib.hid hr3; have HOWN2 := Lib.hid hown3; clear hon3 hr3 hown3 ho3 HON HRD HOWN hz
          go_wp2_with fail
          refine (pick_any rb _ 4 (by omega) _ HRD2.out).mono ?_
          rintro e w4 ⟨q, rfl, hq, ho4, hr4⟩
          have hon4 := HON2.out.trans ho4
          have hown4 := HOWN2.out.lift ho4 hrb
          have HON3 := Lib.hid hon4; have HRD3 := Lib.hid hr4; have HOWN3 := Lib.hid hown4; clear hon4 hr4 hown4 ho4 HON2 HRD2 HOWN2 hq
          by_cases hq0 : q = 0
          · have hqb : ((q : Int) == 0) = true := by rw [beq_iff_eq]; omega
            clear hq0
            by_cases hm0 : 0 < m
            · have hmb : decide ((0 : Int) < (m : Int)) = true := by simp; omega
              have hmb2 : decide (0 < m) = true := decide_eq_true hm0
              go_wp2_with fail
              go_loop [9, 10] (fun s i => ∃ (k : Nat) (bb : Bool), k ≤ m ∧ i = .int .i64 k ∧ s = .bool bb) (fun _ i => m - (intOf i).toNat)
              case atStart => exact ⟨0, _, Nat.zero_le _, rfl, rfl⟩
              case round =>
                obtain ⟨k, bb, hk, rfl, rfl⟩ := hrel
                by_cases hkm : k < m
                · obtain ⟨g, cp, f, hv, hBg, hgl, _, _, hrow, _, _⟩ := HOWN3.out.shape (by omega)
                  injection hv with hv1 hv2 hv3
                  subst hv1; subst hv3
                  have hc : w4.cell? ⟨g, k, none⟩ = some (.int .i64 (f k)) := by have := hrow k hkm; rwa [Nat.zero_add] at this
                  cases bb with
                  | true =>
                    go_wp2_with fail
                    go_round
                    case rel => exact ⟨k + 1, _, by omega, by go_num, rfl⟩
                    case measure => simp [intOf]; omega
                  | false =>
                    go_wp2_with fail
                    go_round
                    case rel => exact ⟨k + 1, _, by omega, by go_num, rfl⟩
                    case measure => simp [intOf]; omega
                · cases bb with
                  | true =>
                    go_wp2_with fail
                    refine (pick_any rb _ 6 (by omega) _ HRD3.out).mono ?_
                    rintro e w6 ⟨u, rfl, hu, ho6, hr6⟩
                    have hown6 := HOWN3.out.lift ho6 hrb
                    have hon6 := HON3.out.trans ho6
                    have HOW6 := Lib.hid hown6; have HON6 := Lib.hid hon6; have HR6 := Lib.hid hr6
                    clear hown6 hon6 hr6 ho6 hu
                    by_cases hu0 : u = 0
                    · have hub : ((u : Int) == 0) = true := by rw [beq_iff_eq]; omega
                      clear hu0
                      go_wp2_with fail
                      go_meet
                      exact ⟨m, by omega, HOW6.out, HON6.out, HR6.out.mono (by omega)⟩
                    · have hub : ((u : Int) == 0) = false := by rw [beq_eq_false_iff_ne]; omega
                      clear hu0
                      go_wp2_with fail
                      go_roundw
                      case rel => first | exact ⟨t + 1, m, by omega, by omega, by go_num, HOW6.out, HON6.out, HR6.out.mono (by omega)⟩ | ((repeat apply Exists.intro); exact ⟨⟨t + 1, m, by omega, by omega, by go_num, HOW6.out, HON6.out, HR6.out.mono (by omega)⟩, rfl⟩)
                      case measure => simp [intOf]; omega
                  | false =>
                    have hB := HON3.out.size
                    obtain ⟨xs, hxl, hx64, hrow⟩ := HOWN3.out
                    have HX := Lib.hid hxl; have HO := Lib.hid hrow
                    clear hxl hrow
                    have k1 := Lib.hid (fun (j : Nat) (u : Value) (h : [Value.int .i64 (1 + (z : Int))][j]? = some u) => cell_one_new w4 (.int .i64 (1 + (z : Int))) 3 j u h)
                    have k2 : Hid (∀ u ∈ [Value.int .i64 (1 + (z : Int))], u.oneCell' = true) := Lib.hid (by intro u hu; simp at hu; subst hu; rfl)
                    have k3 : Hid (m + 1 ≤ maxLen) := Lib.hid (by unfold maxLen; omega)
                    have k4 : Hid ((m + 1) * 8 ≤ 140737488355328) := Lib.hid (by omega)
                    have k5 : Hid (w.heap.size ≤ (w4.alloc (.cells #[.int .i64 (1 + (z : Int))] 3)).heap.size) := Lib.hid (by rw [alloc_size]; omega)
                    go_wp2_with (at_builtin; refine wpList_append_own _ rfl (.tmp 55) (.tmp 57) 28 rfl w.heap.size 3 i0 (.int .i64 0) 1 8 Tryz.underlying28 hi hz0 hz1 hz2 rfl (by decide) _ _ _ rfl (HO.out.alloc _) ⟨w4.heap.size, 0, none⟩ 1 1 [.int .i64 (1 + (z : Int))] rfl rfl k1.out k2.out k3.out k4.out k5.out ?_)
                    intro v' w5 hown' hgrow _
                    have hb1 : Below w.heap.size w4 w5 := ((Below.refl w.heap.size w4).alloc hB _).grown hgrow (by show _ ≤ (w4.heap.push _).size; rw [Array.size_push]; omega) (fun q hq => (HO.out.lt q hq).1)
                    have ho1 : OwnI w5 w.heap.size v' (m + 1) := by
                      have := HX.out; subst this
                      exact own_snoc hx64 (by unfold I64; omega) hown'
                    have HB1 := Lib.hid hb1; have HO1 := Lib.hid ho1
                    have HON5 := Lib.hid (HON3.out.below_then hb1); have HRD5 := Lib.hid (HRD3.out.belowB hb1 hrb)
                    clear hown' hgrow hb1 ho1 k1 k2 k3 k4 k5
                    go_wp2_with fail
                    refine (pick_any rb _ 6 (by omega) _ HRD5.out).mono ?_
                    rintro e w6 ⟨u, rfl, hu, ho6, hr6⟩
                    have hown6 := HO1.out.lift ho6 hrb
                    have hon6 := HON5.out.trans ho6
                    obtain ⟨a6, c6, rfl⟩ := hown6.slice
                    have HOW6 := Lib.hid hown6; have HON6 := Lib.hid hon6; have HR6 := Lib.hid hr6
                    clear hown6 hon6 hr6 ho6 hu
                    by_cases hu0 : u = 0
                    · have hub : ((u : Int) == 0) = true := by rw [beq_iff_eq]; omega
                      clear hu0
                      go_wp2_with fail
                      go_meet
                      exact ⟨m + 1, by omega, HOW6.out, HON6.out, HR6.out.mono (by omega)⟩
                    · have hub : ((u : Int) == 0) = false := by rw [beq_eq_false_iff_ne]; omega
                      clear hu0
                      go_wp2_with fail
                      go_roundw
                      case rel => first | exact ⟨t + 1, m + 1, by omega, by omega, by go_num, HOW6.out, HON6.out, HR6.out.mono (by omega)⟩ | ((repeat apply Exists.intro); exact ⟨⟨t + 1, m + 1, by omega, by omega, by go_num, HOW6.out, HON6.out, HR6.out.mono (by omega)⟩, rfl⟩)
                      case measure => simp [intOf]; omega
            · have hmb : decide ((0 : Int) < (m : Int)) = false := by simp; omega
              have hmb2 : decide (0 < m) = false := decide_eq_false hm0
              go_wp2_with fail
              go_loop [9, 10] (fun s i => ∃ (k : Nat) (bb : Bool), k ≤ m ∧ i = .int .i64 k ∧ s = .bool bb) (fun _ i => m - (intOf i).toNat)
              case atStart => exact ⟨0, _, Nat.zero_le _, rfl, rfl⟩
              case round =>
                obtain ⟨k, bb, hk, rfl, rfl⟩ := hrel
                by_cases hkm : k < m
                · obtain ⟨g, cp, f, hv, hBg, hgl, _, _, hrow, _, _⟩ := HOWN3.out.shape (by omega)
                  injection hv with hv1 hv2 hv3
                  subst hv1; subst hv3
                  have hc : w4.cell? ⟨g, k, none⟩ = some (.int .i64 (f k)) := by have := hrow k hkm; rwa [Nat.zero_add] at this
                  cases bb with
                  | true =>
                    go_wp2_with fail
                    go_round
                    case rel => exact ⟨k + 1, _, by omega, by go_num, rfl⟩
                    case measure => simp [intOf]; omega
                  | false =>
                    go_wp2_with fail
                    go_round
                    case rel => exact ⟨k + 1, _, by omega, by go_num, rfl⟩
                    case measure => simp [intOf]; omega
                · cases bb with
                  | true =>
                    go_wp2_with fail
                    refine (pick_any rb _ 6 (by omega) _ HRD3.out).mono ?_
                    rintro e w6 ⟨u, rfl, hu, ho6, hr6⟩
                    have hown6 := HOWN3.out.lift ho6 hrb
                    have hon6 := HON3.out.trans ho6
                    have HOW6 := Lib.hid hown6; have HON6 := Lib.hid hon6; have HR6 := Lib.hid hr6
                    clear hown6 hon6 hr6 ho6 hu
                    by_cases hu0 : u = 0
                    · have hub : ((u : Int) == 0) = true := by rw [beq_iff_eq]; omega
                      clear hu0
                      go_wp2_with fail
                      go_meet
                      exact ⟨m, by omega, HOW6.out, HON6.out, HR6.out.mono (by omega)⟩
                    · have hub : ((u : Int) == 0) = false := by rw [beq_eq_false_iff_ne]; omega
                      clear hu0
                      go_wp2_with fail
                      go_roundw
                      case rel => first | exact ⟨t + 1, m, by omega, by omega, by go_num, HOW6.out, HON6.out, HR6.out.mono (by omega)⟩ | ((repeat apply Exists.intro); exact ⟨⟨t + 1, m, by omega, by omega, by go_num, HOW6.out, HON6.out, HR6.out.mono (by omega)⟩, rfl⟩)
                      case measure => simp [intOf]; omega
                  | false =>
                    have hB := HON3.out.size
                    obtain ⟨xs, hxl, hx64, hrow⟩ := HOWN3.out
                    have HX := Lib.hid hxl; have HO := Lib.hid hrow
                    clear hxl hrow
                    have k1 := Lib.hid (fun (j : Nat) (u : Value) (h : [Value.int .i64 (1 + (z : Int))][j]? = some u) => cell_one_new w4 (.int .i64 (1 + (z : Int))) 3 j u h)
                    have k2 : Hid (∀ u ∈ [Value.int .i64 (1 + (z : Int))], u.oneCell' = true) := Lib.hid (by intro u hu; simp at hu; subst hu; rfl)
                    have k3 : Hid (m + 1 ≤ maxLen) := Lib.hid (by unfold maxLen; omega)
                    have k4 : Hid ((m + 1) * 8 ≤ 140737488355328) := Lib.hid (by omega)
                    have k5 : Hid (w.heap.size ≤ (w4.alloc (.cells #[.int .i64 (1 + (z : Int))] 3)).heap.size) := Lib.hid (by rw [alloc_size]; omega)
                    go_wp2_with (at_builtin; refine wpList_append_own _ rfl (.tmp 55) (.tmp 57) 28 rfl w.heap.size 3 i0 (.int .i64 0) 1 8 Tryz.underlying28 hi hz0 hz1 hz2 rfl (by decide) _ _ _ rfl (HO.out.alloc _) ⟨w4.heap.size, 0, none⟩ 1 1 [.int .i64 (1 + (z : Int))] rfl rfl k1.out k2.out k3.out k4.out k5.out ?_)
                    intro v' w5 hown' hgrow _
                    have hb1 : Below w.heap.size w4 w5 := ((Below.refl w.heap.size w4).alloc hB _).grown hgrow (by show _ ≤ (w4.heap.push _).size; rw [Array.size_push]; omega) (fun q hq => (HO.out.lt q hq).1)
                    have ho1 : OwnI w5 w.heap.size v' (m + 1) := by
                      have := HX.out; subst this
                      exact own_snoc hx64 (by unfold I64; omega) hown'
                    have HB1 := Lib.hid hb1; have HO1 := Lib.hid ho1
                    have HON5 := Lib.hid (HON3.out.below_then hb1); have HRD5 := Lib.hid (HRD3.out.belowB hb1 hrb)
                    clear hown' hgrow hb1 ho1 k1 k2 k3 k4 k5
                    go_wp2_with fail
                    refine (pick_any rb _ 6 (by omega) _ HRD5.out).mono ?_
                    rintro e w6 ⟨u, rfl, hu, ho6, hr6⟩
                    have hown6 := HO1.out.lift ho6 hrb
                    have hon6 := HON5.out.trans ho6
                    obtain ⟨a6, c6, rfl⟩ := hown6.slice
                    have HOW6 := Lib.hid hown6; have HON6 := Lib.hid hon6; have HR6 := Lib.hid hr6
                    clear hown6 hon6 hr6 ho6 hu
                    by_cases hu0 : u = 0
                    · have hub : ((u : Int) == 0) = true := by rw [beq_iff_eq]; omega
                      clear hu0
                      go_wp2_with fail
                      go_meet
                      exact ⟨m + 1, by omega, HOW6.out, HON6.out, HR6.out.mono (by omega)⟩
                    · have hub : ((u : Int) == 0) = false := by rw [beq_eq_false_iff_ne]; omega
                      clear hu0
                      go_wp2_with fail
                      go_roundw
                      case rel => first | exact ⟨t + 1, m + 1, by omega, by omega, by go_num, HOW6.out, HON6.out, HR6.out.mono (by omega)⟩ | ((repeat apply Exists.intro); exact ⟨⟨t + 1, m + 1, by omega, by omega, by go_num, HOW6.out, HON6.out, HR6.out.mono (by omega)⟩, rfl⟩)
                      case measure => simp [intOf]; omega
          · have hqb : ((q : Int) == 0) = false := by rw [beq_eq_false_iff_ne]; omega
            clear hq0
            go_wp2_with fail
            go_loop [9, 10] (fun s i => ∃ (k : Nat) (bb : Bool), k ≤ m ∧ i = .int .i64 k ∧ s = .bool bb) (fun _ i => m - (intOf i).toNat)
            case atStart => exact ⟨0, _, Nat.zero_le _, rfl, rfl⟩
            case round =>
              obtain ⟨k, bb, hk, rfl, rfl⟩ := hrel
              by_cases hkm : k < m
              · obtain ⟨g, cp, f, hv, hBg, hgl, _, _, hrow, _, _⟩ := HOWN3.out.shape (by omega)
                injection hv with hv1 hv2 hv3
                subst hv1; subst hv3
                have hc : w4.cell? ⟨g, k, none⟩ = some (.int .i64 (f k)) := by have := hrow k hkm; rwa [Nat.zero_add] at this
                cases bb with
                | true =>
                  go_wp2_with fail
                  go_round
                  case rel => exact ⟨k + 1, _, by omega, by go_num, rfl⟩
                  case measure => simp [intOf]; omega
                | false =>
                  go_wp2_with fail
                  go_round
                  case rel => exact ⟨k + 1, _, by omega, by go_num, rfl⟩
                  case measure => simp [intOf]; omega
              · cases bb with
                | true =>
                  go_wp2_with fail
                  refine (pick_any rb _ 6 (by omega) _ HRD3.out).mono ?_
                  rintro e w6 ⟨u, rfl, hu, ho6, hr6⟩
                  have hown6 := HOWN3.out.lift ho6 hrb
                  have hon6 := HON3.out.trans ho6
                  have HOW6 := Lib.hid hown6; have HON6 := Lib.hid hon6; have HR6 := Lib.hid hr6
                  clear hown6 hon6 hr6 ho6 hu
                  by_cases hu0 : u = 0
                  · have hub : ((u : Int) == 0) = true := by rw [beq_iff_eq]; omega
                    clear hu0
                    go_wp2_with fail
                    go_meet
                    exact ⟨m, by omega, HOW6.out, HON6.out, HR6.out.mono (by omega)⟩
                  · have hub : ((u : Int) == 0) = false := by rw [beq_eq_false_iff_ne]; omega
                    clear hu0
                    go_wp2_with fail
                    go_roundw
                    case rel => first | exact ⟨t + 1, m, by omega, by omega, by go_num, HOW6.out, HON6.out, HR6.out.mono (by omega)⟩ | ((repeat apply Exists.intro); exact ⟨⟨t + 1, m, by omega, by omega, by go_num, HOW6.out, HON6.out, HR6.out.mono (by omega)⟩, rfl⟩)
                    case measure => simp [intOf]; omega
                | false =>
                  have hB := HON3.out.size
                  obtain ⟨xs, hxl, hx64, hrow⟩ := HOWN3.out
                  have HX := Lib.hid hxl; have HO := Lib.hid hrow
                  clear hxl hrow
                  have k1 := Lib.hid (fun (j : Nat) (u : Value) (h : [Value.int .i64 (1 + (z : Int))][j]? = some u) => cell_one_new w4 (.int .i64 (1 + (z : Int))) 3 j u h)
                  have k2 : Hid (∀ u ∈ [Value.int .i64 (1 + (z : Int))], u.oneCell' = true) := Lib.hid (by intro u hu; simp at hu; subst hu; rfl)
                  have k3 : Hid (m + 1 ≤ maxLen) := Lib.hid (by unfold maxLen; omega)
                  have k4 : Hid ((m + 1) * 8 ≤ 140737488355328) := Lib.hid (by omega)
                  have k5 : Hid (w.heap.size ≤ (w4.alloc (.cells #[.int .i64 (1 + (z : Int))] 3)).heap.size) := Lib.hid (by rw [alloc_size]; omega)
                  go_wp2_with (at_builtin; refine wpList_append_own _ rfl (.tmp 55) (.tmp 57) 28 rfl w.heap.size 3 i0 (.int .i64 0) 1 8 Tryz.underlying28 hi hz0 hz1 hz2 rfl (by decide) _ _ _ rfl (HO.out.alloc _) ⟨w4.heap.size, 0, none⟩ 1 1 [.int .i64 (1 + (z : Int))] rfl rfl k1.out k2.out k3.out k4.out k5.out ?_)
                  intro v' w5 hown' hgrow _
                  have hb1 : Below w.heap.size w4 w5 := ((Below.refl w.heap.size w4).alloc hB _).grown hgrow (by show _ ≤ (w4.heap.push _).size; rw [Array.size_push]; omega) (fun q hq => (HO.out.lt q hq).1)
                  have ho1 : OwnI w5 w.heap.size v' (m + 1) := by
                    have := HX.out; subst this
                    exact own_snoc hx64 (by unfold I64; omega) hown'
                  have HB1 := Lib.hid hb1; have HO1 := Lib.hid ho1
                  have HON5 := Lib.hid (HON3.out.below_then hb1); have HRD5 := Lib.hid (HRD3.out.belowB hb1 hrb)
                  clear hown' hgrow hb1 ho1 k1 k2 k3 k4 k5
                  go_wp2_with fail
                  refine (pick_any rb _ 6 (by omega) _ HRD5.out).mono ?_
                  rintro e w6 ⟨u, rfl, hu, ho6, hr6⟩
                  have hown6 := HO1.out.lift ho6 hrb
                  have hon6 := HON5.out.trans ho6
                  obtain ⟨a6, c6, rfl⟩ := hown6.slice
                  have HOW6 := Lib.hid hown6; have HON6 := Lib.hid hon6; have HR6 := Lib.hid hr6
                  clear hown6 hon6 hr6 ho6 hu
                  by_cases hu0 : u = 0
                  · have hub : ((u : Int) == 0) = true := by rw [beq_iff_eq]; omega
                    clear hu0
                    go_wp2_with fail
                    go_meet
                    exact ⟨m + 1, by omega, HOW6.out, HON6.out, HR6.out.mono (by omega)⟩
                  · have hub : ((u : Int) == 0) = false := by rw [beq_eq_false_iff_ne]; omega
                    clear hu0
                    go_wp2_with fail
                    go_roundw
                    case rel => first | exact ⟨t + 1, m + 1, by omega, by omega, by go_num, HOW6.out, HON6.out, HR6.out.mono (by omega)⟩ | ((repeat apply Exists.intro); exact ⟨⟨t + 1, m + 1, by omega, by omega, by go_num, HOW6.out, HON6.out, HR6.out.mono (by omega)⟩, rfl⟩)
                    case measure => simp [intOf]; omega
        · have hbm : decide ((m : Int) < 7) = false := by simp; omega
          go_wp2_with fail
          go_meet
          exact ⟨m, hm7, HOWN.out, HON.out, HRD.out.mono (by omega)⟩
      · have hbt : decide ((t : Int) < 12) = false := by simp; omega
        go_wp2_with fail
        go_meet
        exact ⟨m, hm7, HOWN.out, HON.out, HRD.out.mono (by omega)⟩
  case rest =>
    clear hst hs1 hs2 hs3 hs4 hptI hpt4 hy3
    obtain ⟨m, hm7, hown, hon, hrd⟩ := hcut
    have HON := Lib.hid hon; have HRD := Lib.hid hrd; have HOWN := Lib.hid hown; clear hon hrd hown
    obtain ⟨a5, c5, hv5⟩ := HOWN.out.slice
    subst hv5
    go_upto_if 64 with (fail)
    go_cut [5] (fun s5 wx => MidW rb P w s5 wx)
    case first =>
      by_cases hm0 : m = 0
      · subst hm0
        go_wp2_with fail
        go_meet
        exact ⟨1, by omega, by omega, OwnI.lit _ w.heap.size HON.out.size [1] one_I64 (by decide) _ rfl, HON.out.alloc _, HRD.out.below (alloc_below _ _)⟩
      · have hmb : ((m : Int) == 0) = false := by rw [beq_eq_false_iff_ne]; omega
        go_wp2_with fail
        go_meet
        exact ⟨m, by omega, hm7, HOWN.out, HON.out, HRD.out⟩
    case rest =>
      clear HON HRD HOWN hm7
      obtain ⟨m', hm1, hm7, hown, hon, hrd⟩ := hcut
      have HON := Lib.hid hon; have HRD := Lib.hid hrd; have HOWN := Lib.hid hown; clear hon hrd hown
      obtain ⟨g2, cp2, f2, hv2, hBg2, hgl2, _, _, hrow2, hf264, hfr2⟩ := HOWN.out.shape hm1
      subst hv2
      have HROW := Lib.hid hrow2; have HFR := Lib.hid hfr2; have HF64 := Lib.hid hf264
      clear hrow2 hfr2 hf264
      have hgrb : g2 ≠ rb := by omega
      go_wp2_with fail
      refine (odd_all rb _ n hn hn2 (by omega) _ HRD.out).mono ?_
      rintro e w4 ⟨bb, rfl, ho4, hr4⟩
      have HROW4 := Lib.hid (HROW.out.only ho4 hgl2 hgrb)
      have HFR4 := Lib.hid (fun j => (World.frozen?_of_block (a := ⟨g2, j, none⟩) (ho4.block g2 hgl2 hgrb)).trans (HFR.out j))
      have hgl4 : g2 < w4.heap.size := Nat.lt_of_lt_of_le hgl2 ho4.size
      have HOW4 := Lib.hid (HOWN.out.lift ho4 hrb); have HON4 := Lib.hid (HON.out.trans ho4); have HRD4 := Lib.hid hr4
      clear ho4 hr4 HON HRD HOWN HROW HFR
      cases bb with
      | false =>
        go_wp2_with fail
        go_ret
        exact ⟨_, m', rfl, by omega, HOW4.out, HON4.out, HRD4.out.mono (by omega)⟩
      | true =>
        go_wp2_with fail
        refine (pick_any rb _ 3 (by omega) _ HRD4.out).mono ?_
        rintro e w5 ⟨z, rfl, hz5, ho5, hr5⟩
        have HROW5 := Lib.hid (HROW4.out.only ho5 hgl4 hgrb)
        have HFR5 := Lib.hid (fun j => (World.frozen?_of_block (a := ⟨g2, j, none⟩) (ho5.block g2 hgl4 hgrb)).trans (HFR4.out j))
        have hgl5 : g2 < w5.heap.size := Nat.lt_of_lt_of_le hgl4 ho5.size
        have HOW5 := Lib.hid (HOW4.out.lift ho5 hrb); have HON5 := Lib.hid (HON4.out.trans ho5); have HRD5 := Lib.hid hr5
        have HSZ := Lib.hid HON5.out.size
        have hz3 : z < 3 := by omega
        clear ho5 hr5 HOW4 HON4 HRD4 HROW4 HFR4 hz5
        by_cases hz1' : z < 1
        · have hq0 : ((z : Int) == 0) = true := by rw [beq_iff_eq]; omega
          go_wp2_with fail
          go_ret
          exact ⟨_, 0, rfl, by omega, OwnI.lit w5 w.heap.size HSZ.out [] (fun x hx => by simp at hx) (by decide) _ rfl, HON5.out.alloc _, (HRD5.out.below (alloc_below _ _)).mono (by omega)⟩
        by_cases hz2' : z < 2
        · have hq0 : ((z : Int) == 0) = false := by rw [beq_eq_false_iff_ne]; omega
          have hq1 : ((z : Int) == 1) = true := by rw [beq_iff_eq]; omega
          have hc0 : w5.cell? ⟨g2, 0, none⟩ = some (.int .i64 (f2 0)) := by have := HROW5.out 0 (by omega); rwa [Nat.zero_add] at this
          have hm0i : (0 : Int) < (m' : Int) := by omega
          obtain ⟨y0, hy0⟩ : ∃ y0, f2 0 = y0 := ⟨_, rfl⟩
          have HY64 := Lib.hid (show I64 y0 by rw [← hy0]; exact HF64.out 0 (by omega))
          rw [hy0] at hc0
          clear hy0
          obtain ⟨xs, hxl, hx64, hrw⟩ := HOW5.out
          have HX := Lib.hid hxl; have HO := Lib.hid hrw
          clear hxl hrw
          have k1 := Lib.hid (fun (j : Nat) (u : Value) (h : [Value.int .i64 y0][j]? = some u) => cell_one_new w5 (.int .i64 y0) 3 j u h)
          have k2 : Hid (∀ u ∈ [Value.int .i64 y0], u.oneCell' = true) := Lib.hid (by intro u hu; simp at hu; subst hu; rfl)
          have k3 : Hid (m' + 1 ≤ maxLen) := Lib.hid (by unfold maxLen; omega)
          have k4 : Hid ((m' + 1) * 8 ≤ 140737488355328) := Lib.hid (by omega)
          have k5 : Hid (w.heap.size ≤ (w5.alloc (.cells #[.int .i64 y0] 3)).heap.size) := Lib.hid (by rw [alloc_size]; have := HSZ.out; omega)
          go_wp2_with (at_builtin; refine wpList_append_own _ rfl (.tmp 83) (.tmp 87) 28 rfl w.heap.size 3 i0 (.int .i64 0) 1 8 Tryz.underlying28 hi hz0 hz1 hz2 rfl (by decide) _ _ _ rfl (HO.out.alloc _) ⟨w5.heap.size, 0, none⟩ 1 1 [.int .i64 y0] rfl rfl k1.out k2.out k3.out k4.out k5.out ?_)
          intro v' w6 hown' hgrow _
          have hb1 : Below w.heap.size w5 w6 := ((Below.refl w.heap.size w5).alloc HSZ.out _).grown hgrow k5.out (fun q hq => (HO.out.lt q hq).1)
          have ho1 : OwnI w6 w.heap.size v' (m' + 1) := by
            have := HX.out; subst this
            exact own_snoc hx64 HY64.out hown'
          have HB1 := Lib.hid hb1; have HO1 := Lib.hid ho1
          clear hown' hgrow hb1 ho1 k1 k2 k3 k4 k5
          go_wp2_with fail
          go_ret
          exact ⟨_, m' + 1, rfl, by omega, HO1.out, HON5.out.below_then HB1.out, (HRD5.out.belowB HB1.out hrb).mono (by omega)⟩
        · have hq0 : ((z : Int) == 0) = false := by rw [beq_eq_false_iff_ne]; omega
          have hq1 : ((z : Int) == 1) = false := by rw [beq_eq_false_iff_ne]; omega
          have hlr := lit_row w5 [0, 16] _ rfl 2 (Nat.le_refl _) 3
          have hal := alloc_below w5 (.cells (([0, 16] : List Int).map (Value.int .i64)).toArray 3)
          have HLR := Lib.hid hlr
          have HRD6 := Lib.hid (HRD5.out.below hal)
          have HON6 := Lib.hid (HON5.out.alloc (.cells (([0, 16] : List Int).map (Value.int .i64)).toArray 3))
          have HOW6 := Lib.hid (HOW5.out.kept hal)
          have HROW6 := Lib.hid (HROW5.out.below hal hgl5)
          have HFR6 := Lib.hid (fun j => (hal.frozen (p := ⟨g2, j, none⟩) hgl5).trans (HFR5.out j))
          have hsz6 := alloc_size w5 (.cells (([0, 16] : List Int).map (Value.int .i64)).toArray 3)
          have HSZ6 := Lib.hid hsz6
          have hgl6 : g2 < (w5.alloc (.cells (([0, 16] : List Int).map (Value.int .i64)).toArray 3)).heap.size := Nat.lt_of_lt_of_le hgl5 hal.size
          have hrb5 : rb < w5.heap.size := HRD5.out.1
          have HM0 := Lib.hid (show (0 : Int) < (m' : Int) by omega)
          clear hlr hal hsz6 HRD5 HON5 HOW5 HROW5 HFR5
          go_wp2_with fail
          refine (pick_any rb _ 2 (by omega) _ HRD6.out).mono ?_
          rintro e w6 ⟨q, rfl, hq, ho6, hr6⟩
          have hq2 : q < 2 := by omega
          have hcq : w6.cell? ⟨w5.heap.size, q, none⟩ = some (.int .i64 (([0, 16] : List Int).getD q 0)) := by
            have := (HLR.out.only ho6 (by have := HSZ6.out; omega) (by omega)) q hq2
            rwa [Nat.zero_add] at this
          obtain ⟨x0, hx0⟩ : ∃ x0, ([0, 16] : List Int).getD q 0 = x0 := ⟨_, rfl⟩
          have hx64 : I64 x0 := by
            rw [← hx0]
            rcases (show q = 0 ∨ q = 1 by omega) with rfl | rfl <;> (simp; unfold I64; omega)
          rw [hx0] at hcq
          have hc0 : w6.cell? ⟨g2, 0, none⟩ = some (.int .i64 (f2 0)) := by
            have := (HROW6.out.only ho6 hgl6 hgrb) 0 (by omega)
            rwa [Nat.zero_add] at this
          have hf0 : w6.frozen? ⟨g2, 0, none⟩ = false := (World.frozen?_of_block (a := ⟨g2, 0, none⟩) (ho6.block g2 hgl6 hgrb)).trans (HFR6.out 0)
          have hm0 := HM0.out
          have HX64 := Lib.hid hx64
          have HOW7 := Lib.hid (HOW6.out.lift ho6 hrb); have HON7 := Lib.hid (HON6.out.trans ho6); have HRD7 := Lib.hid hr6
          clear ho6 hr6 hq hx0 hx64 HOW6 HON6 HRD6 HROW6 HFR6 HLR
          go_wp2_with fail
          go_ret
          exact ⟨_, m', rfl, by omega, HOW7.out.put HX64.out, HON7.out.fresh hBg2 0 _, (HRD7.out.belowB ((Below.refl w.heap.size w6).setCell hBg2 _) hrb).mono (by omega)⟩
end Go.Proofs.YthaickihoagnmaaGreatDoor
