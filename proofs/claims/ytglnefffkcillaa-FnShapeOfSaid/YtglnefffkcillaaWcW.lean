import Derived.Test.YtglnefffkcillaaWcV
import Derived.Test.YtglnefffkcillaaWcK
namespace Go.Proofs.Ytglnefffkcillaa
set_option linter.unusedVariables false
set_option linter.unusedSimpArgs false
open Go.RowKit Go.Maps

theorem l1In_at (x l h : Int) (v : Bool) (hv : inB l x h = v) (w : World) :
    Calls Try.prog 52 #[.int .i64 x, .int .i64 l, .int .i64 h] w fun e w' => e = .returned (.bool v) ∧ w = w' := by subst hv; exact l1In_any x l h w
theorem specAll_any (n : Nat) (h1 : 1 ≤ n) (h4 : n ≤ 4) (w : World) : Calls Try.prog 53 #[.int .i64 (n : Int)] w (RowsGive n (alL n) w) := by
  have hc : n = 1 ∨ n = 2 ∨ n = 3 ∨ n = 4 := by omega
  rcases hc with rfl | rfl | rfl | rfl
  · exact specAll_1 w
  · exact specAll_2 w
  · exact specAll_3 w
  · exact specAll_4 w
theorem al_len {n : Nat} : ∀ L ∈ alL n, L.length = n := fun L hL => by
  obtain ⟨m, _, rfl⟩ := List.mem_map.1 hL
  exact rowL_len _ _
/-- the model's answer of WorldsOf -/
def wsS (t : Int) : List (List Int) := if 1 ≤ t ∧ t ≤ 3 then alL t.toNat else []

set_option maxRecDepth 100000 in
theorem specWorldsOf_in (n : Nat) (h1 : 1 ≤ n) (h3 : n ≤ 3) (w : World) :
    Calls Try.prog 18 #[.int .i64 (n : Int)] w (RowsGive n (alL n) w) := by
  have HIN := Lib.hid (show inB 1 (n : Int) 3 = true by unfold inB; rw [Bool.and_eq_true, decide_eq_true_eq, decide_eq_true_eq]; omega)
  go_enter Try.func18, Try.ntmps18
  go_wp2_with fail
  refine (l1In_at _ _ _ true HIN.out _).mono ?_
  rintro e w' ⟨rfl, rfl⟩
  go_wp2_with fail
  refine (specAll_any n h1 (by omega) w).mono ?_
  rintro e w1 ⟨v, rs, rfl, hs, hb⟩
  obtain ⟨a, c, rfl⟩ := hs.slice
  have HS := Lib.hid hs; have HB := Lib.hid hb
  clear hs hb
  go_wp2_with fail
  go_ret
  exact ⟨_, rs, rfl, HS.out, HB.out⟩
set_option maxRecDepth 100000 in
theorem specWorldsOf_no (t : Int) (h : ¬ (1 ≤ t ∧ t ≤ 3)) (w : World) :
    Calls Try.prog 18 #[.int .i64 t] w (fun e w' => e = .returned (.slice (some ⟨w.heap.size, 0, none⟩) 0 0) ∧ Below w.heap.size w w') := by
  have HIN := Lib.hid (show inB 1 t 3 = false by unfold inB; rw [Bool.and_eq_false_iff, decide_eq_false_iff_not, decide_eq_false_iff_not]; omega)
  have HM := Lib.hid (alloc_below w (.cells #[] 23))
  clear h
  go_enter Try.func18, Try.ntmps18
  go_wp2_with fail
  refine (l1In_at _ _ _ false HIN.out _).mono ?_
  rintro e w' ⟨rfl, rfl⟩
  go_wp2_with fail
  go_ret
  exact ⟨rfl, HM.out⟩

theorem al_I64 {n : Nat} (h4 : n ≤ 4) : ∀ L ∈ alL n, ∀ i, i < n → I64 (L.getD i 0) := fun L hL i hi => by
  obtain ⟨m, _, rfl⟩ := List.mem_map.1 hL
  unfold dgL
  rw [rowL_getD _ _ _ hi]
  unfold dgR
  rw [if_pos (Nat.zero_le _)]
  have h5 : dgN n m i < 2 ^ n := Nat.mod_lt _ (Nat.two_pow_pos n)
  have h6 : 2 ^ n ≤ 2 ^ 4 := Nat.pow_le_pow_right (by omega) h4
  unfold I64; omega
theorem al_size {n : Nat} (h4 : n ≤ 4) : (alL n).length ≤ 65536 := by
  have h1 := alK_len n (2 ^ (n * n))
  have h2 : 2 ^ (n * n) ≤ 2 ^ 16 := Nat.pow_le_pow_right (by omega) (by
    have : n * n ≤ 4 * 4 := Nat.mul_le_mul h4 h4
    omega)
  unfold alL; omega

/-- how many of these the model counts -/
def cwS (n k : Nat) : Nat := ((alL n).filter (fun L => kindB n (rv L) (k : Int))).length
set_option maxRecDepth 100000 in
set_option maxHeartbeats 3200000 in
theorem specCountWorlds_in (n k : Nat) (h1 : 1 ≤ n) (h4 : n ≤ 4) (hk : k < 6) (w : World) :
    Calls Try.prog 24 #[.int .i64 (n : Int), .int .i64 (k : Int)] w fun e w' => e = .returned (.int .i64 (cwS n k : Nat)) ∧ Below w.heap.size w w' := by
  have HIN := Lib.hid (show inB 1 (n : Int) 4 = true by unfold inB; rw [Bool.and_eq_true, decide_eq_true_eq, decide_eq_true_eq]; omega)
  have HIK := Lib.hid (show inB 0 (k : Int) 5 = true by unfold inB; rw [Bool.and_eq_true, decide_eq_true_eq, decide_eq_true_eq]; omega)
  go_enter Try.func24, Try.ntmps24
  go_wp2_with fail
  refine (l1In_at _ _ _ true HIN.out _).mono ?_
  rintro e w' ⟨rfl, rfl⟩
  go_wp2_with fail
  refine (l1In_at _ _ _ true HIK.out _).mono ?_
  rintro e w' ⟨rfl, rfl⟩
  go_wp2_with fail
  refine (specAll_any n h1 h4 w).mono ?_
  rintro e w1 ⟨v, rs, rfl, hs, hb⟩
  obtain ⟨a, c, rfl⟩ := hs.slice
  have HLEN := Lib.hid (al_size h4)
  have H64 := Lib.hid (al_I64 h4 : ∀ L ∈ alL n, _); have HLL := Lib.hid (al_len : ∀ L ∈ alL n, L.length = n)
  have HCW : Hid (cwS n k = ((alL n).filter (fun L => kindB n (rv L) (k : Int))).length) := Lib.hid rfl
  obtain ⟨AL, hAL⟩ : ∃ AL, alL n = AL := ⟨_, rfl⟩
  rw [hAL] at hs HLEN H64 HLL HCW ⊢
  clear hAL
  have HS := Lib.hid hs; have HB := Lib.hid hb
  clear hs hb
  go_wp2_with fail
  go_loopw [5, 7] (fun c i wr => ∃ j : Nat, j ≤ AL.length ∧ i = .int .i64 j ∧ c = .int .i64 (((AL.take j).filter (fun L => kindB n (rv L) (k : Int))).length : Nat) ∧ Hid (Below w1.heap.size w1 wr)) (fun _ i _ => AL.length - (intOf i).toNat)
  case atStart => exact ⟨0, Nat.zero_le _, rfl, rfl, Lib.hid (Below.refl _ _)⟩
  case round =>
    obtain ⟨j, hj, rfl, rfl, hbw⟩ := hrel
    have hLEN := HLEN.out
    have hcnt : ((AL.take j).filter (fun L => kindB n (rv L) (k : Int))).length ≤ 65536 := by
      have h5 := List.length_filter_le (fun L => kindB n (rv L) (k : Int)) (AL.take j)
      rw [List.length_take] at h5; omega
    by_cases hlt : j < AL.length
    · have hji : (j : Int) < (AL.length : Int) := by omega
      have hj0 : (0 : Int) ≤ (j : Int) := by omega
      have HSO := Lib.hid (HS.out.kept hbw.out)
      obtain ⟨gv, dv, hav⟩ := HSO.out.shape (by omega)
      simp only [Value.slice.injEq] at hav
      obtain ⟨rfl, hz1, rfl⟩ := hav
      clear hz1
      have hc0 := HSO.out.cell hlt
      obtain ⟨gL, cL, hgl⟩ : ∃ gL cL, rs.getD j (0, 0) = (gL, cL) := ⟨_, _, rfl⟩
      rw [hgl] at hc0
      dsimp only at hc0
      obtain ⟨L, hL⟩ : ∃ L, AL.getD j [] = L := ⟨_, rfl⟩
      have hLm : L ∈ AL := by rw [← hL, List.getD_eq_getElem?_getD, List.getElem?_eq_getElem hlt]; exact List.getElem_mem _
      have hro : Row wr gL 0 n (rv L) := by
        have := HSO.out.rowG hlt h1
        rw [hgl, hL] at this
        exact this
      have hgll : gL < wr.heap.size := by
        have h5 := (HSO.out.row j hlt).1
        rw [hgl] at h5
        exact (World.ownsRow.lt h5 gL rfl).2
      have HINT := Lib.hid (ints_row hro hgll (by omega) (fun i hi => H64.out L hLm i hi))
      have HTK : Hid (AL.take (j + 1) = AL.take j ++ [L]) := Lib.hid (by rw [List.take_add_one, List.getElem?_eq_getElem hlt, ← hL, List.getD_eq_getElem?_getD, List.getElem?_eq_getElem hlt]; rfl)
      clear hL hLm hro hgll hgl
      obtain ⟨cn, hcn⟩ : ∃ cn, ((AL.take j).filter (fun L => kindB n (rv L) (k : Int))).length = cn := ⟨_, rfl⟩
      have HCN := Lib.hid hcn
      rw [hcn] at hcnt ⊢
      clear hcn
      cases hq : kindB n (rv L) (k : Int) with
      | false =>
        have HQ := Lib.hid hq; clear hq
        have HNX : Hid (((AL.take (j + 1)).filter (fun L => kindB n (rv L) (k : Int))).length = cn) := Lib.hid (by rw [HTK.out, List.filter_append, List.length_append, HCN.out]; simp [HQ.out])
        go_wp2_with fail
        refine (specKindOk_val _ n _ (rv L) (k : Int) false _ HQ.out HINT.out).mono ?_
        rintro e w9 ⟨rfl, hd⟩
        have HB9 := Lib.hid (hbw.out.trans (hd.below.mono hbw.out.size))
        clear hd
        go_wp2_with fail
        go_roundw
        case rel => exact ⟨j + 1, by omega, by go_num, by rw [HNX.out], HB9⟩
        case measure => simp [intOf]; omega
      | true =>
        have HQ := Lib.hid hq; clear hq
        have HNX : Hid (((AL.take (j + 1)).filter (fun L => kindB n (rv L) (k : Int))).length = cn + 1) := Lib.hid (by rw [HTK.out, List.filter_append, List.length_append, HCN.out]; simp [HQ.out])
        go_wp2_with fail
        refine (specKindOk_val _ n _ (rv L) (k : Int) true _ HQ.out HINT.out).mono ?_
        rintro e w9 ⟨rfl, hd⟩
        have HB9 := Lib.hid (hbw.out.trans (hd.below.mono hbw.out.size))
        clear hd
        go_wp2_with fail
        go_roundw
        case rel => exact ⟨j + 1, by omega, by go_num, by rw [HNX.out]; go_num, HB9⟩
        case measure => simp [intOf]; omega
    · have hji : ¬ (j : Int) < (AL.length : Int) := by omega
      have hje : j = AL.length := by omega
      subst hje
      have hT : AL.take AL.length = AL := List.take_length
      rw [hT]
      obtain ⟨cn, hcn⟩ : ∃ cn, (AL.filter (fun L => kindB n (rv L) (k : Int))).length = cn := ⟨_, rfl⟩
      have HCN := Lib.hid (HCW.out.trans hcn)
      rw [hcn]
      clear hcn hcnt
      go_wp2_with fail
      go_ret
      exact ⟨by rw [HCN.out]; rfl, HB.out.trans (hbw.out.mono HB.out.size)⟩
theorem specCountWorlds_no (t k : Int) (h : ¬ ((1 ≤ t ∧ t ≤ 4) ∧ (0 ≤ k ∧ k < 6))) (w : World) :
    Calls Try.prog 24 #[.int .i64 t, .int .i64 k] w fun e w' => e = .returned (.int .i64 (-1)) ∧ w = w' := by
  by_cases h1 : 1 ≤ t ∧ t ≤ 4
  · have HIN := Lib.hid (show inB 1 t 4 = true by unfold inB; rw [Bool.and_eq_true, decide_eq_true_eq, decide_eq_true_eq]; omega)
    have HIK := Lib.hid (show inB 0 k 5 = false by unfold inB; rw [Bool.and_eq_false_iff, decide_eq_false_iff_not, decide_eq_false_iff_not]; omega)
    clear h h1
    go_enter Try.func24, Try.ntmps24
    go_wp2_with fail
    refine (l1In_at _ _ _ true HIN.out _).mono ?_
    rintro e w' ⟨rfl, rfl⟩
    go_wp2_with fail
    refine (l1In_at _ _ _ false HIK.out _).mono ?_
    rintro e w' ⟨rfl, rfl⟩
    go_wp2_with fail
    go_ret
    exact ⟨rfl, rfl⟩
  · have HIN := Lib.hid (show inB 1 t 4 = false by unfold inB; rw [Bool.and_eq_false_iff, decide_eq_false_iff_not, decide_eq_false_iff_not]; omega)
    clear h h1
    go_enter Try.func24, Try.ntmps24
    go_wp2_with fail
    refine (l1In_at _ _ _ false HIN.out _).mono ?_
    rintro e w' ⟨rfl, rfl⟩
    go_wp2_with fail
    go_ret
    exact ⟨rfl, rfl⟩
def cwVS (t k : Int) : Int := if (1 ≤ t ∧ t ≤ 4) ∧ (0 ≤ k ∧ k < 6) then (cwS t.toNat k.toNat : Nat) else -1
theorem specCountWorlds_any (t k : Int) (w : World) :
    Calls Try.prog 24 #[.int .i64 t, .int .i64 k] w fun e w' => e = .returned (.int .i64 (cwVS t k)) ∧ Below w.heap.size w w' := by
  by_cases h : (1 ≤ t ∧ t ≤ 4) ∧ (0 ≤ k ∧ k < 6)
  · unfold cwVS
    rw [if_pos h]
    have := specCountWorlds_in t.toNat k.toNat (by omega) (by omega) (by omega) w
    rw [Int.toNat_of_nonneg (by omega), Int.toNat_of_nonneg (by omega)] at this
    exact this
  · unfold cwVS
    rw [if_neg h]
    refine (specCountWorlds_no t k h w).mono ?_
    rintro e w' ⟨rfl, rfl⟩
    exact ⟨rfl, Below.refl _ _⟩
end Go.Proofs.Ytglnefffkcillaa
