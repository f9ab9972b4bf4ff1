import Derived.Test.YtocjpolgghfbeaaFamF
import Derived.Deep.QuietTactic
namespace Go.Proofs.Ytocjpolgghfbeaa
open Go.RowKit Go.Maps

/-! ### the models -/

theorem famOk_len_eq {n : Nat} {f : Nat → Int} (h : ∀ k, k < n → (1 ≤ f k ∧ f k ≤ 15) ∧ ∀ j, j < k → f j ≠ f k) : inB 1 (n : Int) 7 = famOkB n f := by
  by_cases hn : 1 ≤ n ∧ n ≤ 7
  · rw [inB_true (by omega) (by omega), famOk_of hn.1 hn.2 h]
  · rw [inB_false (by omega), famOk_len hn]

set_option maxRecDepth 100000 in
set_option maxHeartbeats 3200000 in
theorem specFamilyOk_in (g o n cap : Nat) (f : Nat → Int) (h1 : 1 ≤ n) (hm : n ≤ 9223372036854775807) (w : World) (hr : Row w g o n f) :
    Calls Try.prog 47 #[.slice (some ⟨g, o, none⟩) n cap] w fun e w' => e = .returned (.bool (famOkB n f)) ∧ Drew w w' := by
  have HR := Lib.hid hr; clear hr
  go_enter Try.func47, Try.ntmps47
  go_wp2_with fail
  go_loopw [3] (fun i wr => ∃ k : Nat, k ≤ n ∧ i = .int .i64 k ∧ Drew w wr ∧ Hid (∀ j, j < k → (1 ≤ f j ∧ f j ≤ 15) ∧ ∀ i, i < j → f i ≠ f j)) (fun i _ => n - (intOf i).toNat)
  case atStart => exact ⟨0, Nat.zero_le _, rfl, Drew.refl _, fun j hj => absurd hj (Nat.not_lt_zero _)⟩
  case round =>
    obtain ⟨k, hk, rfl, hd, hall⟩ := hrel
    have hrw := row_drew HR.out hd
    by_cases hlt : k < n
    · have hki : (k : Int) < (n : Int) := by omega
      have hck := hrw k hlt
      have HRW := Lib.hid hrw; clear hrw
      by_cases hx : 1 ≤ f k ∧ f k ≤ 15
      · have HIN := Lib.hid (inB_true hx.1 hx.2)
        have HX := Lib.hid hx
        clear hx
        go_wp2_with fail
        refine (l1In_val _ _ _ true _ HIN.out).mono ?_
        rintro e w' ⟨rfl, rfl⟩
        go_wp2_with fail
        obtain ⟨wo, rfl⟩ : ∃ wo : World, wo = wr := ⟨_, rfl⟩
        go_loopw [4] (fun i wr => ∃ j : Nat, j ≤ k ∧ i = .int .i64 j ∧ Drew wo wr ∧ Hid (∀ i, i < j → f i ≠ f k)) (fun i _ => k - (intOf i).toNat)
        case atStart => exact ⟨0, Nat.zero_le _, rfl, Drew.refl _, fun j hj => absurd hj (Nat.not_lt_zero _)⟩
        case round =>
          obtain ⟨j, hj, rfl, hd2, hall2⟩ := hrel
          have hrw2 := row_drew HRW.out hd2
          by_cases hjk : j < k
          · have hji : (j : Int) < (k : Int) := by omega
            have hjn : (j : Int) < (n : Int) := by omega
            have hcj := hrw2 j (by omega)
            have hckk := hrw2 k hlt
            clear hrw2 hck
            cases heq : (f j == f k) with
            | true =>
              have HF := Lib.hid (famOk_no (f := f) hlt (fun e => e.2 j hjk (beq_iff_eq.1 heq)))
              have HD2 := Lib.hid hd2; clear hd2
              go_wp2_with fail
              go_quiet (fail)
              go_wp2_with fail
              go_ret
              exact ⟨retb HF.out.symm, (hd.onto HD2.out).more _⟩
            | false =>
              have HNE := Lib.hid (show f j ≠ f k by rwa [beq_eq_false_iff_ne] at heq)
              have HD2 := Lib.hid hd2; clear hd2
              go_wp2_with fail
              go_quiet (fail)
              go_wp2_with fail
              go_roundw
              case rel => exact ⟨j + 1, by omega, by go_num, HD2.out.more _, fun i hi => by
                by_cases e : i = j
                · subst e; exact HNE.out
                · exact hall2 i (by omega)⟩
              case measure => simp [intOf]; omega
          · have hji : ¬ (j : Int) < (k : Int) := by omega
            have hjk2 : j = k := by omega
            subst hjk2
            have HD2 := Lib.hid (hd.onto hd2); clear hd2 hrw2 hck
            go_wp2_with fail
            go_roundw
            case rel => exact ⟨j + 1, by omega, by go_num, HD2.out, fun i hi => by
              by_cases e : i = j
              · subst e; exact ⟨HX.out, hall2⟩
              · exact hall i (by omega)⟩
            case measure => simp [intOf]; omega
      · have HIN := Lib.hid (inB_false hx)
        have HF := Lib.hid (famOk_no (f := f) hlt (fun e => hx e.1))
        clear hx
        go_wp2_with fail
        refine (l1In_val _ _ _ false _ HIN.out).mono ?_
        rintro e w' ⟨rfl, rfl⟩
        go_wp2_with fail
        go_ret
        exact ⟨retb HF.out.symm, hd⟩
    · have hki : ¬ (k : Int) < (n : Int) := by omega
      have hkn : k = n := by omega
      subst hkn
      have HV := Lib.hid (famOk_len_eq hall)
      clear hrw
      go_wp2_with fail
      refine (l1In_val _ _ _ _ _ HV.out).mono ?_
      rintro e w' ⟨rfl, rfl⟩
      go_wp2_with fail
      go_ret
      exact ⟨rfl, hd⟩

set_option maxRecDepth 100000 in
set_option maxHeartbeats 800000 in
theorem specFamilyOk_nil (a : Option Addr) (cap : Nat) (f : Nat → Int) (w : World) :
    Calls Try.prog 47 #[.slice a 0 cap] w fun e w' => e = .returned (.bool (famOkB 0 f)) ∧ Drew w w' := by
  have HV := Lib.hid (famOk_len_eq (n := 0) (f := f) (fun k hk => absurd hk (Nat.not_lt_zero _)))
  go_enter Try.func47, Try.ntmps47
  go_wp2_with fail
  go_loopw [3] (fun i wr => i = .int .i64 0 ∧ w = wr) (fun _ _ => 0)
  case atStart => exact ⟨rfl, rfl⟩
  case round =>
    obtain ⟨rfl, rfl⟩ := hrel
    go_wp2_with fail
    refine (l1In_val _ _ _ _ _ HV.out).mono ?_
    rintro e w' ⟨rfl, rfl⟩
    go_wp2_with fail
    go_ret
    exact ⟨rfl, Drew.refl _⟩

theorem specFamilyOk_any (a : Option Addr) (n cap : Nat) (f : Nat → Int) (w : World) (hi : Ints w a n f) :
    Calls Try.prog 47 #[.slice a n cap] w fun e w' => e = .returned (.bool (famOkB n f)) ∧ Drew w w' := by
  by_cases h : n = 0
  · subst h; exact specFamilyOk_nil a cap f w
  · obtain ⟨b, o, rfl, hbl, hrow⟩ := hi.row (by omega)
    exact specFamilyOk_in b o n cap f (by omega) hi.1.1 w hrow
theorem specFamilyOk_val (a : Option Addr) (n cap : Nat) (f : Nat → Int) (v : Bool) (w : World) (hv : famOkB n f = v) (hi : Ints w a n f) :
    Calls Try.prog 47 #[.slice a n cap] w fun e w' => e = .returned (.bool v) ∧ Drew w w' := by subst hv; exact specFamilyOk_any a n cap f w hi

set_option maxRecDepth 100000 in
set_option maxHeartbeats 1600000 in
theorem l7Put_old (B : Nat) (a : Option Addr) (n cap : Nat) (xs : List Int) (t : Int) (hn : xs.length = n) (hl : n ≤ 1000) (w : World) (h : OwnX w B 3 (.slice a n cap) xs) (ht : t ∈ xs) :
    Calls Try.prog 102 #[.slice a n cap, .int .i64 t] w fun e w' => e = .returned (.slice a n cap) ∧ Drew w w' := by
  have hn1 : 1 ≤ xs.length := List.length_pos_of_mem ht
  obtain ⟨g, c, e1, _, _, _, _, hrow, _⟩ := h.shape hn1
  rw [hn] at e1 hrow hn1
  injection e1 with e2 _ e3
  subst e2; subst e3
  have HR := Lib.hid hrow
  have HT : Hid (∃ j, j < n ∧ xs.getD j 0 = t) := Lib.hid (by
    obtain ⟨j, hj, e⟩ := List.getElem_of_mem ht
    exact ⟨j, by omega, by rw [List.getD_eq_getElem?_getD, List.getElem?_eq_getElem hj]; exact e⟩)
  clear h hrow ht hn
  go_enter Try.func102, Try.ntmps102
  go_wp2_with fail
  go_loopw [5] (fun i wr => ∃ k : Nat, k ≤ n ∧ i = .int .i64 k ∧ w = wr ∧ Hid (∀ j, j < k → xs.getD j 0 ≠ t)) (fun i _ => n - (intOf i).toNat)
  case atStart => exact ⟨0, Nat.zero_le _, rfl, rfl, fun j hj => absurd hj (Nat.not_lt_zero _)⟩
  case round =>
    obtain ⟨k, hk, rfl, rfl, hall⟩ := hrel
    by_cases hlt : k < n
    · have hki : (k : Int) < (n : Int) := by omega
      have hc : w.cell? ⟨g, k, none⟩ = some (.int .i64 (xs.getD k 0)) := by have := HR.out k hlt; rwa [Nat.zero_add] at this
      obtain ⟨y, hy⟩ : ∃ y, xs.getD k 0 = y := ⟨_, rfl⟩
      rw [hy] at hc
      cases heq : (y == t) with
      | true =>
        clear hy
        go_wp2_with fail
        go_ret
        exact ⟨rfl, Drew.refl _⟩
      | false =>
        have HNE := Lib.hid (show xs.getD k 0 ≠ t by rw [hy]; rwa [beq_eq_false_iff_ne] at heq)
        clear hy
        go_wp2_with fail
        go_roundw
        case rel => exact ⟨k + 1, by omega, by go_num, by first | rfl | trivial, fun i hi => by
          by_cases e : i = k
          · subst e; exact HNE.out
          · exact hall i (by omega)⟩
        case measure => simp [intOf]; omega
    · obtain ⟨j, hj, e⟩ := HT.out
      exact absurd e (hall j (by omega))

def Putted (B : Nat) (ys : List Int) (w : World) (e : Ending) (w' : World) : Prop := ∃ v, e = .returned v ∧ OwnX w' B 3 v ys ∧ Below B w w'

set_option maxRecDepth 100000 in
set_option maxHeartbeats 3200000 in
theorem l7Put_new (B : Nat) (a : Option Addr) (n cap : Nat) (xs : List Int) (t : Int) (hn : xs.length = n) (hl : n ≤ 1000) (w : World) (hB : B ≤ w.heap.size) (h : OwnX w B 3 (.slice a n cap) xs) (ht : t ∉ xs) :
    Calls Try.prog 102 #[.slice a n cap, .int .i64 t] w (Putted B (xs ++ [t]) w) := by
  obtain ⟨i0, hii, hz0, hz1, hz2⟩ := info_parts Try.infoInt
  have HSH := Lib.hid (fun (h1 : 1 ≤ n) => h.shape (by omega))
  have HT := Lib.hid (fun j (hj : j < n) => (fun e => ht (by rw [← e]; exact getD_in (by omega)) : xs.getD j 0 ≠ t))
  have HH := Lib.hid h; have HN := Lib.hid hn
  clear h ht hn
  go_enter Try.func102, Try.ntmps102
  go_wp2_with fail
  go_loopw [5] (fun i wr => ∃ k : Nat, k ≤ n ∧ i = .int .i64 k ∧ w = wr) (fun i _ => n - (intOf i).toNat)
  case atStart => exact ⟨0, Nat.zero_le _, rfl, rfl⟩
  case round =>
    obtain ⟨k, hk, rfl, rfl⟩ := hrel
    by_cases hlt : k < n
    · have hki : (k : Int) < (n : Int) := by omega
      obtain ⟨g, c, e1, _, _, _, _, hrow, _⟩ := HSH.out (by omega)
      rw [HN.out] at hrow e1
      injection e1 with e2 _ e3
      subst e2; subst e3
      have hc : w.cell? ⟨g, k, none⟩ = some (.int .i64 (xs.getD k 0)) := by have := hrow k hlt; rwa [Nat.zero_add] at this
      obtain ⟨y, hy⟩ : ∃ y, xs.getD k 0 = y := ⟨_, rfl⟩
      rw [hy] at hc
      have heq : (y == t) = false := by rw [beq_eq_false_iff_ne, ← hy]; exact HT.out k hlt
      clear hy hrow
      go_wp2_with fail
      go_roundw
      case rel => exact ⟨k + 1, by omega, by go_num, by first | rfl | trivial⟩
      case measure => simp [intOf]; omega
    · have hki : ¬ (k : Int) < (n : Int) := by omega
      have hkn : k = n := by omega
      subst hkn
      have hal := alloc_below w (.cells #[.int .i64 t] 3)
      have hown := HH.out.kept hal
      unfold OwnX at hown
      rw [HN.out] at hown
      obtain ⟨v', w1, hr, hown', hgr, _, _⟩ := run_append_own_at (P := Try.prog) (w.alloc (.cells #[.int .i64 t] 3)) B 23 23 3 i0 (.int .i64 0) 1 8 Try.underlying23 hii hz0 hz1 hz2 rfl (by decide) _ _ _
        hown ⟨w.heap.size, 0, none⟩ 1 1 [.int .i64 t] rfl (cell_one_new w (.int .i64 t) 3) (fun u hu => by simp at hu; subst hu; rfl) (by unfold maxLen; omega) (by omega) (Nat.le_trans hB hal.size)
      have HR := Lib.hid hr
      have HB := Lib.hid (show Below B w w1 from ((Below.refl B w).trans (hal.mono hB)).trans ((Upon.of_grown hgr).below (fun g hg => (World.ownsRow.lt hown g hg).1) (Nat.le_trans hB hal.size)))
      have HO := Lib.hid (OwnX.snoc (xs := xs) (by rw [HN.out]; exact hown'))
      clear hr hown hown' hgr hal
      go_wp2_with (at_builtin; refine Lib.wpList_append_run _ rfl _ _ _ _ rfl _ _ rfl rfl _ _ HR.out ?_)
      go_ret
      exact ⟨_, rfl, HO.out, HB.out⟩
end Go.Proofs.Ytocjpolgghfbeaa
