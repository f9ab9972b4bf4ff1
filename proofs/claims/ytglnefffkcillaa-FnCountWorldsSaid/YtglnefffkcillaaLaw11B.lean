import Derived.Test.YtglnefffkcillaaWdF
import Derived.Test.YtglnefffkcillaaLaw11A
import Derived.Test.YtglnefffkcillaaDrawCW
namespace Go.Proofs.Ytglnefffkcillaa
set_option linter.unusedVariables false
set_option linter.unusedSimpArgs false
open Go.RowKit

theorem cs_123 : csN 1 = 1 ∧ csN 2 = 2 ∧ csN 3 = 5 := by
  unfold csN
  rw [wl_nat 1 (by omega) (by omega), wl_nat 2 (by omega) (by omega), wl_nat 3 (by omega) (by omega)]
  exact ⟨by decide +kernel, by decide +kernel, by decide +kernel⟩
theorem cw_all (n : Nat) (h1 : 1 ≤ n) (h4 : n ≤ 4) : cwN n 0 = (wlL n).length := by
  unfold cwN
  congr 1
  refine List.filter_eq_self.2 (fun L hL => ?_)
  obtain ⟨hl, hw, _, _⟩ := wl_facts h1 h4 hL
  unfold kdB
  rw [hl]
  exact hw
theorem cw_le (n k k' : Nat) (h1 : 1 ≤ n) (h4 : n ≤ 4) (h : ∀ f : Nat → Int, (∀ i, i < n → I64 (f i)) → kindB n f k = true → kindB n f k' = true) : cwN n k ≤ cwN n k' := by
  unfold cwN
  rw [← List.countP_eq_length_filter, ← List.countP_eq_length_filter]
  refine List.countP_mono_left (fun L hL hk => ?_)
  obtain ⟨hl, hw, h64, _⟩ := wl_facts h1 h4 hL
  unfold kdB at hk ⊢
  rw [hl] at hk ⊢
  exact h _ (fun i hi => h64 _ (getD_mem (by omega))) hk
def lastK : Nat → Nat
  | 2 => 1
  | 3 => 2
  | 5 => 3
  | _ => 0
theorem cw_last (n k : Nat) (h1 : 1 ≤ n) (h4 : n ≤ 4) (hk : k < 6) : cwN n k ≤ cwN n (lastK k) := by
  have hc : k = 0 ∨ k = 1 ∨ k = 2 ∨ k = 3 ∨ k = 4 ∨ k = 5 := by omega
  rcases hc with rfl | rfl | rfl | rfl | rfl | rfl
  · exact Nat.le_refl _
  · exact cw_le n 1 0 h1 h4 (fun f h64 h => kd_1 h64 h)
  · exact cw_le n 2 1 h1 h4 (fun f h64 h => kd_2 h64 h)
  · exact cw_le n 3 2 h1 h4 (fun f h64 h => kd_3 h64 h)
  · exact cw_le n 4 0 h1 h4 (fun f h64 h => kd_4 h64 h)
  · exact cw_le n 5 3 h1 h4 (fun f h64 h => kd_5 h64 h)
theorem no_class (n : Nat) (hn : n = 2 ∨ n = 4) : cwN n 5 = 0 := by
  unfold cwN
  rw [List.length_eq_zero_iff, List.filter_eq_nil_iff]
  intro L hL hk
  obtain ⟨hl, hw, h64, _⟩ := wl_facts (by omega) (by omega) hL
  unfold kdB at hk
  rw [hl] at hk
  obtain ⟨X, hX, hlt, _⟩ := atoms_nat (n := n) (f := rv L) (by omega)
  have hc := class_count (fun i hi => h64 _ (getD_mem (by omega))) (show classB n (rv L) = true from hk) hX
  rcases hn with rfl | rfl
  · have : ∀ X : Nat, X < 4 → cntK X (2 ^ 2) ≠ 2 := by decide +kernel
    exact this X (by omega) hc
  · have : ∀ X : Nat, X < 16 → cntK X (2 ^ 4) ≠ 4 := by decide +kernel
    exact this X (by omega) hc
theorem cw_tab0 (n : Nat) (h1 : 1 ≤ n) (h4 : n ≤ 4) : cwN n 0 = ([0, 1, 3, 19, 219] : List Nat).getD n 0 := by
  rw [cw_all n h1 h4]
  obtain ⟨k1, k2, k3⟩ := wl_count
  have hc : n = 1 ∨ n = 2 ∨ n = 3 ∨ n = 4 := by omega
  rcases hc with rfl | rfl | rfl | rfl
  · exact k1
  · exact k2
  · exact k3
  · exact wl_count4
theorem cw_13 : cwN 1 5 = 1 ∧ cwN 3 5 = 3 := by
  unfold cwN
  rw [wl_nat 1 (by omega) (by omega), wl_nat 3 (by omega) (by omega)]
  exact ⟨by decide +kernel, by decide +kernel⟩
theorem cw_tab5 (n : Nat) (h1 : 1 ≤ n) (h4 : n ≤ 4) : cwN n 5 = ([0, 1, 0, 3, 0] : List Nat).getD n 0 := by
  have hc : n = 1 ∨ n = 2 ∨ n = 3 ∨ n = 4 := by omega
  rcases hc with rfl | rfl | rfl | rfl
  · exact cw_13.1
  · exact no_class 2 (.inl rfl)
  · exact cw_13.2
  · exact no_class 4 (.inr rfl)

theorem CountWorlds_val (t k v : Int) (hv : cwV t k = v) (w : World) :
    Calls Try.prog 23 #[.int .i64 t, .int .i64 k] w fun e w' => e = .returned (.int .i64 v) ∧ Below w.heap.size w w' := by subst hv; exact CountWorlds_any t k w
theorem specCountWorlds_val (t k v : Int) (hv : cwV t k = v) (w : World) :
    Calls Try.prog 24 #[.int .i64 t, .int .i64 k] w fun e w' => e = .returned (.int .i64 v) ∧ Below w.heap.size w w' := by
  subst hv
  refine (specCountWorlds_any t k w).mono ?_
  rintro e w' ⟨rfl, hb⟩
  exact ⟨by rw [cwV_same], hb⟩
theorem CountShapes_val (t v : Int) (hv : csV t = v) (w : World) :
    Calls Try.prog 30 #[.int .i64 t] w fun e w' => e = .returned (.int .i64 v) ∧ Below w.heap.size w w' := by subst hv; exact CountShapes_any t w
theorem specCountShapes_val (t v : Int) (hv : csV t = v) (w : World) :
    Calls Try.prog 31 #[.int .i64 t] w fun e w' => e = .returned (.int .i64 v) ∧ Below w.heap.size w w' := by subst hv; exact specCountShapes_any t w

set_option maxRecDepth 100000 in
set_option maxHeartbeats 6400000 in
theorem lawCountShapes (a : Option Addr) (n cap : Nat) (w : World) (h : BytesIn w a n cap) :
    Calls Try.prog 7 #[.slice a n cap] w (TrueEnd w) := by
  have hlen := h.len
  have H := Lib.hid h; clear h
  by_cases hn : 1048576 < n
  · go_enter Try.func7, Try.ntmps7
    go_wp2_with fail
    go_ret
    exact ⟨rfl, Below.refl _ _⟩
  · go_enter Try.func7, Try.ntmps7
    go_wp2_with fail
    refine (DrawCountShapes_any _ _ _ _ H.out).mono ?_
    rintro e w1 ⟨t, rfl, ht, hb1⟩
    have HT := Lib.hid ht.out
    clear ht
    have hc : t = -1 ∨ t = 0 ∨ t = 4 ∨ t = 1 ∨ t = 2 ∨ t = 3 := by have := HT.out; omega
    rcases hc with rfl | rfl | rfl | rfl | rfl | rfl
    · have HV := Lib.hid (show csV (-1) = -1 from rfl)
      have HB := Lib.hid hb1; clear hb1 HT
      go_wp2_with fail
      refine (CountShapes_val _ _ HV.out _).mono ?_
      rintro e w2 ⟨rfl, hb⟩
      replace HB := Lib.hid (below_onto HB.out hb); clear hb
      go_wp2_with fail
      refine (specCountShapes_val _ _ HV.out _).mono ?_
      rintro e w3 ⟨rfl, hb⟩
      replace HB := Lib.hid (below_onto HB.out hb); clear hb
      go_wp2_with fail
      refine (alive_any _).mono ?_
      rintro e w4 ⟨rfl, hb⟩
      replace HB := Lib.hid (below_onto HB.out hb); clear hb
      go_wp2_with fail
      go_ret
      exact ⟨rfl, HB.out⟩
    · have HV := Lib.hid (show csV (0) = -1 from rfl)
      have HB := Lib.hid hb1; clear hb1 HT
      go_wp2_with fail
      refine (CountShapes_val _ _ HV.out _).mono ?_
      rintro e w2 ⟨rfl, hb⟩
      replace HB := Lib.hid (below_onto HB.out hb); clear hb
      go_wp2_with fail
      refine (specCountShapes_val _ _ HV.out _).mono ?_
      rintro e w3 ⟨rfl, hb⟩
      replace HB := Lib.hid (below_onto HB.out hb); clear hb
      go_wp2_with fail
      refine (alive_any _).mono ?_
      rintro e w4 ⟨rfl, hb⟩
      replace HB := Lib.hid (below_onto HB.out hb); clear hb
      go_wp2_with fail
      go_ret
      exact ⟨rfl, HB.out⟩
    · have HV := Lib.hid (show csV (4) = -1 from rfl)
      have HB := Lib.hid hb1; clear hb1 HT
      go_wp2_with fail
      refine (CountShapes_val _ _ HV.out _).mono ?_
      rintro e w2 ⟨rfl, hb⟩
      replace HB := Lib.hid (below_onto HB.out hb); clear hb
      go_wp2_with fail
      refine (specCountShapes_val _ _ HV.out _).mono ?_
      rintro e w3 ⟨rfl, hb⟩
      replace HB := Lib.hid (below_onto HB.out hb); clear hb
      go_wp2_with fail
      refine (alive_any _).mono ?_
      rintro e w4 ⟨rfl, hb⟩
      replace HB := Lib.hid (below_onto HB.out hb); clear hb
      go_wp2_with fail
      go_ret
      exact ⟨rfl, HB.out⟩
    · have HV := Lib.hid (show csV 1 = 1 from cs_123.1)
      have HW := Lib.hid (show cwV 1 0 = 1 by show ((cwN 1 0 : Nat) : Int) = 1; rw [cw_tab0 1 (by omega) (by omega)]; rfl)
      have HB := Lib.hid hb1; clear hb1 HT
      go_wp2_with fail
      refine (CountShapes_val _ _ HV.out _).mono ?_
      rintro e w2 ⟨rfl, hb⟩
      replace HB := Lib.hid (below_onto HB.out hb); clear hb
      go_wp2_with fail
      refine (specCountShapes_val _ _ HV.out _).mono ?_
      rintro e w3 ⟨rfl, hb⟩
      replace HB := Lib.hid (below_onto HB.out hb); clear hb
      replace HB := Lib.hid (HB.out.alloc HB.out.size (.cells #[.int .i64 0, .int .i64 1, .int .i64 2, .int .i64 5] 3))
      obtain ⟨wL, hwL⟩ : ∃ wL, w3.alloc (.cells #[.int .i64 0, .int .i64 1, .int .i64 2, .int .i64 5] 3) = wL := ⟨_, rfl⟩
      have hcl : wL.cell? ⟨w3.heap.size, 1, none⟩ = some (.int .i64 1) := by rw [← hwL]; exact (cell_of_row _ _ 1 _ _ _ (heap_alloc_new w3 _))
      rw [hwL] at HB
      go_wp2_with fail
      refine (CountWorlds_val _ _ _ HW.out _).mono ?_
      rintro e w4 ⟨rfl, hb⟩
      replace HB := Lib.hid (below_onto HB.out hb); clear hb
      go_wp2_with fail
      go_ret
      exact ⟨rfl, HB.out⟩
    · have HV := Lib.hid (show csV 2 = 2 from cs_123.2.1)
      have HW := Lib.hid (show cwV 2 0 = 3 by show ((cwN 2 0 : Nat) : Int) = 3; rw [cw_tab0 2 (by omega) (by omega)]; rfl)
      have HB := Lib.hid hb1; clear hb1 HT
      go_wp2_with fail
      refine (CountShapes_val _ _ HV.out _).mono ?_
      rintro e w2 ⟨rfl, hb⟩
      replace HB := Lib.hid (below_onto HB.out hb); clear hb
      go_wp2_with fail
      refine (specCountShapes_val _ _ HV.out _).mono ?_
      rintro e w3 ⟨rfl, hb⟩
      replace HB := Lib.hid (below_onto HB.out hb); clear hb
      replace HB := Lib.hid (HB.out.alloc HB.out.size (.cells #[.int .i64 0, .int .i64 1, .int .i64 2, .int .i64 5] 3))
      obtain ⟨wL, hwL⟩ : ∃ wL, w3.alloc (.cells #[.int .i64 0, .int .i64 1, .int .i64 2, .int .i64 5] 3) = wL := ⟨_, rfl⟩
      have hcl : wL.cell? ⟨w3.heap.size, 2, none⟩ = some (.int .i64 2) := by rw [← hwL]; exact (cell_of_row _ _ 2 _ _ _ (heap_alloc_new w3 _))
      rw [hwL] at HB
      go_wp2_with fail
      refine (CountWorlds_val _ _ _ HW.out _).mono ?_
      rintro e w4 ⟨rfl, hb⟩
      replace HB := Lib.hid (below_onto HB.out hb); clear hb
      go_wp2_with fail
      go_ret
      exact ⟨rfl, HB.out⟩
    · have HV := Lib.hid (show csV 3 = 5 from cs_123.2.2)
      have HW := Lib.hid (show cwV 3 0 = 19 by show ((cwN 3 0 : Nat) : Int) = 19; rw [cw_tab0 3 (by omega) (by omega)]; rfl)
      have HB := Lib.hid hb1; clear hb1 HT
      go_wp2_with fail
      refine (CountShapes_val _ _ HV.out _).mono ?_
      rintro e w2 ⟨rfl, hb⟩
      replace HB := Lib.hid (below_onto HB.out hb); clear hb
      go_wp2_with fail
      refine (specCountShapes_val _ _ HV.out _).mono ?_
      rintro e w3 ⟨rfl, hb⟩
      replace HB := Lib.hid (below_onto HB.out hb); clear hb
      replace HB := Lib.hid (HB.out.alloc HB.out.size (.cells #[.int .i64 0, .int .i64 1, .int .i64 2, .int .i64 5] 3))
      obtain ⟨wL, hwL⟩ : ∃ wL, w3.alloc (.cells #[.int .i64 0, .int .i64 1, .int .i64 2, .int .i64 5] 3) = wL := ⟨_, rfl⟩
      have hcl : wL.cell? ⟨w3.heap.size, 3, none⟩ = some (.int .i64 5) := by rw [← hwL]; exact (cell_of_row _ _ 3 _ _ _ (heap_alloc_new w3 _))
      rw [hwL] at HB
      go_wp2_with fail
      refine (CountWorlds_val _ _ _ HW.out _).mono ?_
      rintro e w4 ⟨rfl, hb⟩
      replace HB := Lib.hid (below_onto HB.out hb); clear hb
      go_wp2_with fail
      go_ret
      exact ⟨rfl, HB.out⟩

/-- what the table of six tells: the kind before -/
theorem lit6_cell (w : World) (k : Nat) (hk : k < 6) : (w.alloc (.cells #[.int .i64 0, .int .i64 0, .int .i64 1, .int .i64 2, .int .i64 0, .int .i64 3] 3)).cell? ⟨w.heap.size, k, none⟩ = some (.int .i64 (lastK k : Nat)) := by
  have hc : k = 0 ∨ k = 1 ∨ k = 2 ∨ k = 3 ∨ k = 4 ∨ k = 5 := by omega
  rcases hc with rfl | rfl | rfl | rfl | rfl | rfl
  · exact cell_of_row _ _ 0 _ _ _ (heap_alloc_new w _)
  · exact cell_of_row _ _ 1 _ _ _ (heap_alloc_new w _)
  · exact cell_of_row _ _ 2 _ _ _ (heap_alloc_new w _)
  · exact cell_of_row _ _ 3 _ _ _ (heap_alloc_new w _)
  · exact cell_of_row _ _ 4 _ _ _ (heap_alloc_new w _)
  · exact cell_of_row _ _ 5 _ _ _ (heap_alloc_new w _)
theorem lit0_cell (w : World) (t : Nat) (h1 : 1 ≤ t) (h4 : t ≤ 4) : (w.alloc (.cells #[.int .i64 0, .int .i64 1, .int .i64 3, .int .i64 19, .int .i64 219] 3)).cell? ⟨w.heap.size, t, none⟩ = some (.int .i64 (cwN t 0 : Nat)) := by
  rw [cw_tab0 t h1 h4]
  have hc : t = 1 ∨ t = 2 ∨ t = 3 ∨ t = 4 := by omega
  rcases hc with rfl | rfl | rfl | rfl
  · exact cell_of_row _ _ 1 _ _ _ (heap_alloc_new w _)
  · exact cell_of_row _ _ 2 _ _ _ (heap_alloc_new w _)
  · exact cell_of_row _ _ 3 _ _ _ (heap_alloc_new w _)
  · exact cell_of_row _ _ 4 _ _ _ (heap_alloc_new w _)
theorem lit5_cell (w : World) (t : Nat) (h1 : 1 ≤ t) (h4 : t ≤ 4) : (w.alloc (.cells #[.int .i64 0, .int .i64 1, .int .i64 0, .int .i64 3, .int .i64 0] 3)).cell? ⟨w.heap.size, t, none⟩ = some (.int .i64 (cwN t 5 : Nat)) := by
  rw [cw_tab5 t h1 h4]
  have hc : t = 1 ∨ t = 2 ∨ t = 3 ∨ t = 4 := by omega
  rcases hc with rfl | rfl | rfl | rfl
  · exact cell_of_row _ _ 1 _ _ _ (heap_alloc_new w _)
  · exact cell_of_row _ _ 2 _ _ _ (heap_alloc_new w _)
  · exact cell_of_row _ _ 3 _ _ _ (heap_alloc_new w _)
  · exact cell_of_row _ _ 4 _ _ _ (heap_alloc_new w _)

set_option maxRecDepth 100000 in
set_option maxHeartbeats 6400000 in
theorem lawCountWorlds (a : Option Addr) (n cap : Nat) (w : World) (h : BytesIn w a n cap) :
    Calls Try.prog 5 #[.slice a n cap] w (TrueEnd w) := by
  have hlen := h.len
  have H := Lib.hid h; clear h
  by_cases hn : 1048576 < n
  · go_enter Try.func5, Try.ntmps5
    go_wp2_with fail
    go_ret
    exact ⟨rfl, Below.refl _ _⟩
  · go_enter Try.func5, Try.ntmps5
    go_wp2_with fail
    refine (DrawCountWorlds_any _ _ _ _ H.out).mono ?_
    rintro e w1 ⟨t, k, rfl, ht, hb1⟩
    have HB := Lib.hid hb1; clear hb1
    by_cases hin : (1 ≤ t ∧ t ≤ 4) ∧ (0 ≤ k ∧ k < 6)
    · obtain ⟨T, rfl⟩ : ∃ T : Nat, t = T := ⟨t.toNat, by omega⟩
      have HT := Lib.hid (show 1 ≤ T ∧ T ≤ 4 by omega)
      have hT5 : T < 5 := by omega
      have hTi5 : (T : Int) < 5 := by omega
      obtain ⟨K, hK⟩ : ∃ K : Nat, k = K := ⟨k.toNat, by omega⟩
      have hK6 : K < 6 := by omega
      have HV := Lib.hid (show cwV (T : Int) k = (cwN T K : Nat) by unfold cwV; rw [if_pos hin, hK]; rfl)
      have HW := Lib.hid (show cwV (T : Int) (lastK K : Nat) = (cwN T (lastK K) : Nat) by
        have : lastK K < 6 := by unfold lastK; split <;> omega
        unfold cwV; rw [if_pos ⟨by omega, by omega, by omega⟩]; rfl)
      have hle : ((cwN T K : Nat) : Int) ≤ (cwN T (lastK K) : Nat) := by have := cw_last T K HT.out.1 HT.out.2 hK6; omega
      clear hin ht
      have hc : K = 0 ∨ K = 1 ∨ K = 2 ∨ K = 3 ∨ K = 4 ∨ K = 5 := by omega
      have HLE := Lib.hid hle
      clear hle
      subst hK
      rcases hc with rfl | rfl | rfl | rfl | rfl | rfl
      · have hk0 : (((0 : Nat) : Int) : Int) = 0 := rfl
        obtain ⟨V, hV⟩ : ∃ V : Nat, cwN T 0 = V := ⟨_, rfl⟩
        obtain ⟨B, hBv⟩ : ∃ B : Nat, cwN T (lastK 0) = B := ⟨_, rfl⟩
        rw [hV, hBv] at HLE
        rw [hV] at HV
        rw [hBv] at HW
        have HHV := Lib.hid hV
        clear hV hBv hk0
        have hle : (V : Int) ≤ B := HLE.out
        have hge : ¬ (V : Int) < 0 := by omega
        have hge0 : (0 : Int) ≤ V := by omega
        clear HLE hK6
        go_wp2_with fail
        refine (CountWorlds_val _ _ _ HV.out _).mono ?_
        rintro e w2 ⟨rfl, hb⟩
        replace HB := Lib.hid (below_onto HB.out hb); clear hb
        go_wp2_with fail
        refine (specCountWorlds_val _ _ _ HV.out _).mono ?_
        rintro e w3 ⟨rfl, hb⟩
        replace HB := Lib.hid (below_onto HB.out hb); clear hb
        replace HB := Lib.hid (HB.out.alloc HB.out.size (.cells #[.int .i64 0, .int .i64 0, .int .i64 1, .int .i64 2, .int .i64 0, .int .i64 3] 3))
        have hcl := lit6_cell w3 0 (by omega)
        obtain ⟨wL, hwL⟩ : ∃ wL, w3.alloc (.cells #[.int .i64 0, .int .i64 0, .int .i64 1, .int .i64 2, .int .i64 0, .int .i64 3] 3) = wL := ⟨_, rfl⟩
        rw [hwL] at HB hcl
        go_wp2_with fail
        refine (CountWorlds_val _ _ _ HW.out _).mono ?_
        rintro e w4 ⟨rfl, hb⟩
        replace HB := Lib.hid (below_onto HB.out hb); clear hb hcl hwL
        replace HB := Lib.hid (HB.out.alloc HB.out.size (.cells #[.int .i64 0, .int .i64 1, .int .i64 3, .int .i64 19, .int .i64 219] 3))
        have hcl := lit0_cell w4 T HT.out.1 HT.out.2
        rw [HHV.out] at hcl
        obtain ⟨wM, hwM⟩ : ∃ wM, w4.alloc (.cells #[.int .i64 0, .int .i64 1, .int .i64 3, .int .i64 19, .int .i64 219] 3) = wM := ⟨_, rfl⟩
        rw [hwM] at HB hcl
        go_wp2_with fail
        go_ret
        exact ⟨rfl, HB.out⟩
      · have hk0 : (((0 : Nat) : Int) : Int) = 0 := rfl
        obtain ⟨V, hV⟩ : ∃ V : Nat, cwN T 1 = V := ⟨_, rfl⟩
        obtain ⟨B, hBv⟩ : ∃ B : Nat, cwN T (lastK 1) = B := ⟨_, rfl⟩
        rw [hV, hBv] at HLE
        rw [hV] at HV
        rw [hBv] at HW
        have HHV := Lib.hid hV
        clear hV hBv hk0
        have hle : (V : Int) ≤ B := HLE.out
        have hge : ¬ (V : Int) < 0 := by omega
        have hge0 : (0 : Int) ≤ V := by omega
        clear HLE hK6
        go_wp2_with fail
        refine (CountWorlds_val _ _ _ HV.out _).mono ?_
        rintro e w2 ⟨rfl, hb⟩
        replace HB := Lib.hid (below_onto HB.out hb); clear hb
        go_wp2_with fail
        refine (specCountWorlds_val _ _ _ HV.out _).mono ?_
        rintro e w3 ⟨rfl, hb⟩
        replace HB := Lib.hid (below_onto HB.out hb); clear hb
        replace HB := Lib.hid (HB.out.alloc HB.out.size (.cells #[.int .i64 0, .int .i64 0, .int .i64 1, .int .i64 2, .int .i64 0, .int .i64 3] 3))
        have hcl := lit6_cell w3 1 (by omega)
        obtain ⟨wL, hwL⟩ : ∃ wL, w3.alloc (.cells #[.int .i64 0, .int .i64 0, .int .i64 1, .int .i64 2, .int .i64 0, .int .i64 3] 3) = wL := ⟨_, rfl⟩
        rw [hwL] at HB hcl
        go_wp2_with fail
        refine (CountWorlds_val _ _ _ HW.out _).mono ?_
        rintro e w4 ⟨rfl, hb⟩
        replace HB := Lib.hid (below_onto HB.out hb); clear hb hcl hwL
        go_wp2_with fail
        go_ret
        exact ⟨rfl, HB.out⟩
      · have hk0 : (((0 : Nat) : Int) : Int) = 0 := rfl
        obtain ⟨V, hV⟩ : ∃ V : Nat, cwN T 2 = V := ⟨_, rfl⟩
        obtain ⟨B, hBv⟩ : ∃ B : Nat, cwN T (lastK 2) = B := ⟨_, rfl⟩
        rw [hV, hBv] at HLE
        rw [hV] at HV
        rw [hBv] at HW
        have HHV := Lib.hid hV
        clear hV hBv hk0
        have hle : (V : Int) ≤ B := HLE.out
        have hge : ¬ (V : Int) < 0 := by omega
        have hge0 : (0 : Int) ≤ V := by omega
        clear HLE hK6
        go_wp2_with fail
        refine (CountWorlds_val _ _ _ HV.out _).mono ?_
        rintro e w2 ⟨rfl, hb⟩
        replace HB := Lib.hid (below_onto HB.out hb); clear hb
        go_wp2_with fail
        refine (specCountWorlds_val _ _ _ HV.out _).mono ?_
        rintro e w3 ⟨rfl, hb⟩
        replace HB := Lib.hid (below_onto HB.out hb); clear hb
        replace HB := Lib.hid (HB.out.alloc HB.out.size (.cells #[.int .i64 0, .int .i64 0, .int .i64 1, .int .i64 2, .int .i64 0, .int .i64 3] 3))
        have hcl := lit6_cell w3 2 (by omega)
        obtain ⟨wL, hwL⟩ : ∃ wL, w3.alloc (.cells #[.int .i64 0, .int .i64 0, .int .i64 1, .int .i64 2, .int .i64 0, .int .i64 3] 3) = wL := ⟨_, rfl⟩
        rw [hwL] at HB hcl
        go_wp2_with fail
        refine (CountWorlds_val _ _ _ HW.out _).mono ?_
        rintro e w4 ⟨rfl, hb⟩
        replace HB := Lib.hid (below_onto HB.out hb); clear hb hcl hwL
        go_wp2_with fail
        go_ret
        exact ⟨rfl, HB.out⟩
      · have hk0 : (((0 : Nat) : Int) : Int) = 0 := rfl
        obtain ⟨V, hV⟩ : ∃ V : Nat, cwN T 3 = V := ⟨_, rfl⟩
        obtain ⟨B, hBv⟩ : ∃ B : Nat, cwN T (lastK 3) = B := ⟨_, rfl⟩
        rw [hV, hBv] at HLE
        rw [hV] at HV
        rw [hBv] at HW
        have HHV := Lib.hid hV
        clear hV hBv hk0
        have hle : (V : Int) ≤ B := HLE.out
        have hge : ¬ (V : Int) < 0 := by omega
        have hge0 : (0 : Int) ≤ V := by omega
        clear HLE hK6
        go_wp2_with fail
        refine (CountWorlds_val _ _ _ HV.out _).mono ?_
        rintro e w2 ⟨rfl, hb⟩
        replace HB := Lib.hid (below_onto HB.out hb); clear hb
        go_wp2_with fail
        refine (specCountWorlds_val _ _ _ HV.out _).mono ?_
        rintro e w3 ⟨rfl, hb⟩
        replace HB := Lib.hid (below_onto HB.out hb); clear hb
        replace HB := Lib.hid (HB.out.alloc HB.out.size (.cells #[.int .i64 0, .int .i64 0, .int .i64 1, .int .i64 2, .int .i64 0, .int .i64 3] 3))
        have hcl := lit6_cell w3 3 (by omega)
        obtain ⟨wL, hwL⟩ : ∃ wL, w3.alloc (.cells #[.int .i64 0, .int .i64 0, .int .i64 1, .int .i64 2, .int .i64 0, .int .i64 3] 3) = wL := ⟨_, rfl⟩
        rw [hwL] at HB hcl
        go_wp2_with fail
        refine (CountWorlds_val _ _ _ HW.out _).mono ?_
        rintro e w4 ⟨rfl, hb⟩
        replace HB := Lib.hid (below_onto HB.out hb); clear hb hcl hwL
        go_wp2_with fail
        go_ret
        exact ⟨rfl, HB.out⟩
      · have hk0 : (((0 : Nat) : Int) : Int) = 0 := rfl
        obtain ⟨V, hV⟩ : ∃ V : Nat, cwN T 4 = V := ⟨_, rfl⟩
        obtain ⟨B, hBv⟩ : ∃ B : Nat, cwN T (lastK 4) = B := ⟨_, rfl⟩
        rw [hV, hBv] at HLE
        rw [hV] at HV
        rw [hBv] at HW
        have HHV := Lib.hid hV
        clear hV hBv hk0
        have hle : (V : Int) ≤ B := HLE.out
        have hge : ¬ (V : Int) < 0 := by omega
        have hge0 : (0 : Int) ≤ V := by omega
        clear HLE hK6
        go_wp2_with fail
        refine (CountWorlds_val _ _ _ HV.out _).mono ?_
        rintro e w2 ⟨rfl, hb⟩
        replace HB := Lib.hid (below_onto HB.out hb); clear hb
        go_wp2_with fail
        refine (specCountWorlds_val _ _ _ HV.out _).mono ?_
        rintro e w3 ⟨rfl, hb⟩
        replace HB := Lib.hid (below_onto HB.out hb); clear hb
        replace HB := Lib.hid (HB.out.alloc HB.out.size (.cells #[.int .i64 0, .int .i64 0, .int .i64 1, .int .i64 2, .int .i64 0, .int .i64 3] 3))
        have hcl := lit6_cell w3 4 (by omega)
        obtain ⟨wL, hwL⟩ : ∃ wL, w3.alloc (.cells #[.int .i64 0, .int .i64 0, .int .i64 1, .int .i64 2, .int .i64 0, .int .i64 3] 3) = wL := ⟨_, rfl⟩
        rw [hwL] at HB hcl
        go_wp2_with fail
        refine (CountWorlds_val _ _ _ HW.out _).mono ?_
        rintro e w4 ⟨rfl, hb⟩
        replace HB := Lib.hid (below_onto HB.out hb); clear hb hcl hwL
        go_wp2_with fail
        go_ret
        exact ⟨rfl, HB.out⟩
      · have hk0 : (((0 : Nat) : Int) : Int) = 0 := rfl
        obtain ⟨V, hV⟩ : ∃ V : Nat, cwN T 5 = V := ⟨_, rfl⟩
        obtain ⟨B, hBv⟩ : ∃ B : Nat, cwN T (lastK 5) = B := ⟨_, rfl⟩
        rw [hV, hBv] at HLE
        rw [hV] at HV
        rw [hBv] at HW
        have HHV := Lib.hid hV
        clear hV hBv hk0
        have hle : (V : Int) ≤ B := HLE.out
        have hge : ¬ (V : Int) < 0 := by omega
        have hge0 : (0 : Int) ≤ V := by omega
        clear HLE hK6
        go_wp2_with fail
        refine (CountWorlds_val _ _ _ HV.out _).mono ?_
        rintro e w2 ⟨rfl, hb⟩
        replace HB := Lib.hid (below_onto HB.out hb); clear hb
        go_wp2_with fail
        refine (specCountWorlds_val _ _ _ HV.out _).mono ?_
        rintro e w3 ⟨rfl, hb⟩
        replace HB := Lib.hid (below_onto HB.out hb); clear hb
        replace HB := Lib.hid (HB.out.alloc HB.out.size (.cells #[.int .i64 0, .int .i64 0, .int .i64 1, .int .i64 2, .int .i64 0, .int .i64 3] 3))
        have hcl := lit6_cell w3 5 (by omega)
        obtain ⟨wL, hwL⟩ : ∃ wL, w3.alloc (.cells #[.int .i64 0, .int .i64 0, .int .i64 1, .int .i64 2, .int .i64 0, .int .i64 3] 3) = wL := ⟨_, rfl⟩
        rw [hwL] at HB hcl
        go_wp2_with fail
        refine (CountWorlds_val _ _ _ HW.out _).mono ?_
        rintro e w4 ⟨rfl, hb⟩
        replace HB := Lib.hid (below_onto HB.out hb); clear hb hcl hwL
        replace HB := Lib.hid (HB.out.alloc HB.out.size (.cells #[.int .i64 0, .int .i64 1, .int .i64 0, .int .i64 3, .int .i64 0] 3))
        have hcl := lit5_cell w4 T HT.out.1 HT.out.2
        rw [HHV.out] at hcl
        obtain ⟨wM, hwM⟩ : ∃ wM, w4.alloc (.cells #[.int .i64 0, .int .i64 1, .int .i64 0, .int .i64 3, .int .i64 0] 3) = wM := ⟨_, rfl⟩
        rw [hwM] at HB hcl
        go_wp2_with fail
        go_ret
        exact ⟨rfl, HB.out⟩
    · have HV := Lib.hid (show cwV t k = -1 by unfold cwV; rw [if_neg hin])
      clear hin ht
      go_wp2_with fail
      refine (CountWorlds_val _ _ _ HV.out _).mono ?_
      rintro e w2 ⟨rfl, hb⟩
      replace HB := Lib.hid (below_onto HB.out hb); clear hb
      go_wp2_with fail
      refine (specCountWorlds_val _ _ _ HV.out _).mono ?_
      rintro e w3 ⟨rfl, hb⟩
      replace HB := Lib.hid (below_onto HB.out hb); clear hb
      go_wp2_with fail
      refine (alive_any _).mono ?_
      rintro e w4 ⟨rfl, hb⟩
      replace HB := Lib.hid (below_onto HB.out hb); clear hb
      go_wp2_with fail
      go_ret
      exact ⟨rfl, HB.out⟩
end Go.Proofs.Ytglnefffkcillaa
